/-
  PROVED HERE: a slice of numbers that came in, opened by the form's own reading, holds its list. No condition. the law FnExactClosed's own run, at every argument, in a world whose table of arities is laid. No other condition.
-/
import Derived.Test.YthkjmgjajmghmaaDoorRun3
import Derived.Test.YthkjmgjajmghmaaDoorRun32
import Derived.Test.YthkjmgjajmghmaaDoorRun33
import Derived.Test.YthkjmgjajmghmaaDoorRun35
import Derived.Test.YthkjmgjajmghmaaDoorRun34
import Derived.Test.YthkjmgjajmghmaaDoorRun9
namespace Go.Proofs.YthkjmgjajmghmaaDoor
open Go.ChangeShapes Go.WideShapes Go.ChangeAt Go.RowKit
set_option linter.unusedVariables false

/-- A slice of integers that came in: it is nil; or it leads to a row of 'cap' cells, the numbers 'zs' (the first 'len' are its elements). -/
def IsRow (k : IntKind) (w : World) (a : Option Addr) (len cap : Nat) (zs : List Int) : Prop :=
  (a = none ∧ len = 0 ∧ cap = 0 ∧ zs = []) ∨
  ∃ x, a = some x ∧ len ≤ cap ∧ cap ≤ maxLen ∧ zs.length = cap ∧ (∀ i, i < zs.length → w.cell? (x.add i) = some (.int k (zs.getD i 0))) ∧ ∀ n ∈ zs, (Lit.int k n).wf = true

theorem IsRow.bound {k : IntKind} {w : World} {a : Option Addr} {len cap : Nat} {zs : List Int} (h : IsRow k w a len cap zs) : len ≤ 9223372036854775807 := by
  rcases h with ⟨_, rfl, _⟩ | ⟨x, _, h1, h2, _⟩
  · decide
  · unfold maxLen at h2; omega

/-- Its cells, where there is one. -/
theorem IsRow.at {k : IntKind} {w : World} {a : Option Addr} {len cap : Nat} {zs : List Int} (h : IsRow k w a len cap zs) (h0 : 0 < len) :
    ∃ b off, a = some ⟨b, off, none⟩ ∧ b < w.heap.size ∧ ∀ i, i < len → w.cell? ⟨b, off + i, none⟩ = some (.int k ((zs.take len).getD i 0)) := by
  rcases h with ⟨_, rfl, _⟩ | ⟨⟨b, off, spot⟩, rfl, hl, hm, hz, hc, hw⟩
  · omega
  · have hspot : spot = none := by simpa [Addr.add] using World.cell?_spot (hc 0 (by omega))
    subst hspot
    refine ⟨b, off, rfl, ?_, fun i hi => ?_⟩
    · have := World.block_lt_of_cell? w _ (hc 0 (by omega))
      simpa [Addr.add] using this
    · have h1 : (zs.take len).getD i 0 = zs.getD i 0 := by
        simp only [List.getD_eq_getElem?_getD, List.getElem?_take]
        rw [if_pos hi]
      rw [h1]
      have h2 := hc i (by omega)
      by_cases hi0 : i = 0
      · subst hi0
        simpa [Addr.add] using h2
      · simpa [Addr.add, hi0] using h2
theorem IsRow.len {k : IntKind} {w : World} {a : Option Addr} {len cap : Nat} {zs : List Int} (h : IsRow k w a len cap zs) : (zs.take len).length = len := by
  rcases h with ⟨_, rfl, _, rfl⟩ | ⟨x, rfl, hl, hm, hz, hc, hw⟩
  · rfl
  · simp; omega

theorem Sl.of {w : World} {a : Option Addr} {len cap : Nat} {zs : List Int} (h : IsRow .i64 w a len cap zs) : Sl w a len (zs.take len) := by
  refine ⟨h.len, ?_⟩
  by_cases h0 : len = 0
  · exact .inl h0
  · exact .inr (h.at (by omega))
end Go.Proofs.YthkjmgjajmghmaaDoor
namespace Go.Proofs.YthkjmgjajmghmaaDoor
open Go.ChangeShapes Go.WideShapes Go.ChangeAt Go.RowKit
set_option linter.unusedVariables false

theorem szL_marks (p : List EN) (h : 0 ≤ szL 1048576 p) : stE 1 p p.length ≤ 3145729 := by
  have := szG_marks p [] (by
    unfold szG szV
    rw [if_neg (by omega), if_pos (by simpa using h)]
    simpa using h)
  simpa using this
set_option maxHeartbeats 6400000 in
theorem closedLaw_any (a b : Option Addr) (len cap lb cb : Nat) (p : List EN) (l : List Int) (w : World) (ht : Tab w) (h : ESl w a len p) (hl : Sl w b lb l) (hI : InE p) (hm : len ≤ 9223372036854775807) (hm2 : lb ≤ 9223372036854775807) :
    Calls Tryd.prog 4 #[.slice a len cap, .slice b lb cb] w fun e w' => e = .returned (.bool true) ∧ Below w.heap.size w w' := by
  have hll := h.1
  have hl1 := hl.1
  by_cases hlb : lb ≤ 1048576
  · have hlb' : ¬ (1048576 : Int) < lb := by omega
    have HZ := (show Hid _ from szES_any a len cap p 1048576 w h (by omega) hm)
    rcases szL_range 1048576 p (by omega) with hz | hz
    · rw [hz] at HZ
      clear h hl ht hz
      go_enter Tryd.func4, Tryd.ntmps4
      go_wp2_with fail
      refine Calls.mono HZ.out ?_
      rintro e w2 ⟨rfl, hb2⟩
      clear HZ
      go_wp2
      go_ret
      exact ⟨rfl, hb2⟩
    · obtain ⟨z1, z2, z3⟩ := szL_all 1048576 p (by omega) hz
      have hst := szL_marks p hz
      have hz0 : ¬ szL 1048576 p < 0 := by omega
      rw [hll] at hst z3
      have hn : len ≤ 1048576 := by omega
      have hkl : ∀ i, i < len → (p.getD i e0).2.2.length ≤ 1048576 := fun i hi => by have := z3 i hi; omega
      have hL := closedR_len p l
      have HT : Hid (∀ W, Below w.heap.size w W → Tab W ∧ ESl W a len p ∧ Sl W b lb l) := fun W hW => ⟨ht.keeps hW, h.keep hW, hl.keep hW⟩
      have HCE : Hid (∀ W, Below w.heap.size w W → Calls Tryd.prog 14 #[.slice a len cap] W fun e w' => e = .returned (.slice (some ⟨W.heap.size, 0, none⟩) len len) ∧ Below W.heap.size W w' ∧ EMine w' W.heap.size w'.heap.size W.heap.size len p ∧ ESl w' (some ⟨W.heap.size, 0, none⟩) len p) := fun W hW => (copyE_mine a len cap p W (HT.out W hW).2.1 hn hkl).mono fun e w' ⟨r1, r2, r3⟩ => ⟨r1, r2, r3, r3.esl (fun i hi => by have := hkl i hi; omega)⟩
      have HCI : Hid (∀ W, Below w.heap.size w W → Calls Tryd.prog 15 #[.slice b lb cb] W fun e w' => e = .returned (.slice (some ⟨W.heap.size, 0, none⟩) lb lb) ∧ Below W.heap.size W w' ∧ Sl w' (some ⟨W.heap.size, 0, none⟩) lb l ∧ MineI w' W.heap.size lb) := fun W hW => copyI_mine b lb cb l W (HT.out W hW).2.2 hlb
      have HSp : Hid (∀ W (g gp : Nat), ESl W (some ⟨g, 0, none⟩) len p → Sl W (some ⟨gp, 0, none⟩) lb l → Calls Tryd.prog 13 #[.slice (some ⟨g, 0, none⟩) len len, .slice (some ⟨gp, 0, none⟩) lb lb] W fun e w' => ∃ (v : Option Addr) (c : Nat), e = .returned (.tuple #[.slice v (closedR p l).length c, .bool (headB p l)]) ∧ Sl w' v (closedR p l).length (closedR p l) ∧ Below W.heap.size W w') := fun W g gp h1 h2 => specClosed6_any _ _ len len lb lb p l W h1 h2 hm hm2
      have HIm : Hid (∀ W (g gp : Nat), Tab W → ESl W (some ⟨g, 0, none⟩) len p → Sl W (some ⟨gp, 0, none⟩) lb l → Calls Tryd.prog 16 #[.slice (some ⟨g, 0, none⟩) len len, .slice (some ⟨gp, 0, none⟩) lb lb] W fun e w' => ∃ v : Value, e = .returned (.tuple #[v, .bool (headB p l)]) ∧ w'.ownsRow W.heap.size 3 1 v (closedR p l).length (vals (closedR p l)) ∧ Below W.heap.size W w') := fun W g gp h0 h1 h2 => implClosed6_any _ _ len len lb lb p l W h0 h1 h2 hI hm2
      have HQE : Hid (∀ W (g g' : Nat), ESl W (some ⟨g, 0, none⟩) len p → ESl W (some ⟨g', 0, none⟩) len p → Calls Tryd.prog 18 #[.slice (some ⟨g, 0, none⟩) len len, .slice (some ⟨g', 0, none⟩) len len] W fun e w' => e = .returned (.bool true) ∧ Below W.heap.size W w') := fun W g g' h1 h2 => eqES_same _ _ len len len p W h1 h2 hn hkl
      have HQI : Hid (∀ W (g g' : Nat), Sl W (some ⟨g, 0, none⟩) lb l → Sl W (some ⟨g', 0, none⟩) lb l → Calls Tryd.prog 17 #[.slice (some ⟨g, 0, none⟩) lb lb, .slice (some ⟨g', 0, none⟩) lb lb] W fun e w' => e = .returned (.bool true) ∧ Below W.heap.size W w') := fun W g g' h1 h2 => eqI_same _ _ lb lb lb l W h1 h2 hlb
      have HME : Hid (∀ W lo hi, EMine W lo hi lo len p → Calls Tryd.prog 19 #[.slice (some ⟨lo, 0, none⟩) len len, .int .i64 1] W fun e w' => e = .returned (.int .i64 (stE 1 p len : Nat)) ∧ TurnE lo hi W w') := fun W lo hi h1 => (markE_any lo hi lo len len 1 p W h1 (Nat.le_refl _) (by omega) hkl hn).mono fun e w' ⟨r1, r2, _⟩ => ⟨r1, r2⟩
      obtain ⟨zk, hzk⟩ : ∃ zk : Nat, stE 1 p len = zk := ⟨_, rfl⟩
      rw [hzk] at HME hst
      have HMI0 : Hid (∀ W (gp : Nat), MineI W gp lb → Calls Tryd.prog 20 #[.slice (some ⟨gp, 0, none⟩) lb lb, .int .i64 zk] W fun e w' => e = .returned (.int .i64 (zk + lb : Nat)) ∧ W.grownBy w' (some gp)) := fun W gp h1 => (markI_any gp lb lb zk W h1 hlb (by omega)).mono fun e w' ⟨r1, r2, _⟩ => ⟨r1, r2⟩
      have hk1 : ¬ ((zk + lb : Nat) : Int) < 0 := by omega
      obtain ⟨zl, hzl⟩ : ∃ zl : Int, ((zk + lb : Nat) : Int) = zl := ⟨_, rfl⟩
      rw [hzl] at hk1 HMI0
      generalize headB p l = G at HSp HIm
      generalize closedR p l = L at HSp HIm hL
      have HQ : Hid (∀ W (u : Value) (v : Option Addr) (c bb : Nat), W.ownsRow bb 3 1 u L.length (vals L) → Sl W v L.length L → Calls Tryd.prog 17 #[u, .slice v L.length c] W fun e w' => e = .returned (.bool true) ∧ Below W.heap.size W w') := fun W u v c bb h1 h2 => by
        obtain ⟨a1, c1, rfl, s1⟩ := Sl.vals h1
        exact eqI_same a1 v _ c1 c L W s1 h2 (by omega)
      have HMI : Hid (∀ W (v : Value) bb, W.ownsRow bb 3 1 v L.length (vals L) → Calls Tryd.prog 20 #[v, .int .i64 1] W fun e w' => e = .returned (.int .i64 (1 + L.length : Nat)) ∧ W.grownBy w' v.ownBlock ∧ ∃ a cap, v = .slice a L.length cap ∧ Sl w' a L.length (marksI 1 L.length)) := fun W v bb hW => markI_row bb _ v _ L W hW (by omega)
      have HH : Hid (∀ W (a : Option Addr) (c : Nat), Sl W a L.length (marksI 1 L.length) → Calls Tryd.prog 21 #[.slice a L.length c, .int .i64 1] W fun e w' => e = .returned (.int .i64 (1 + L.length : Nat)) ∧ w' = W) := fun W a c hW => heldI_any a _ c 1 W hW (by omega) (by omega)
      have hGG : (G != G) = false := by simp
      have hq1 : ¬ ((1 + L.length : Nat) : Int) < 0 := by omega
      obtain ⟨zq, hzq⟩ : ∃ zq : Int, ((1 + L.length : Nat) : Int) = zq := ⟨_, rfl⟩
      rw [hzq] at hq1 HMI HH
      have hqq : (zq != zq) = false := by simp
      obtain ⟨zs, hzs⟩ : ∃ zs : Int, szL 1048576 p = zs := ⟨_, rfl⟩
      rw [hzs] at HZ hz0
      obtain ⟨m, hm'⟩ : ∃ m : Nat, L.length = m := ⟨_, rfl⟩
      rw [hm'] at HSp HIm HQ HMI HH
      clear h hl ht hll hl1 z1 z2 z3 hn hlb hI hst hL hz hkl hzk hzl hzq hzs hm'
      go_enter Tryd.func4, Tryd.ntmps4
      go_wp2_with fail
      refine Calls.mono HZ.out ?_
      rintro e w2 ⟨rfl, hb2⟩
      clear HZ
      go_wp2_with fail
      refine Calls.mono (HCE.out _ hb2) ?_
      rintro e w3 ⟨rfl, hb3, -, hE3⟩
      have hB3 : Below w.heap.size w w3 := hb2.trans (hb3.mono hb2.size)
      clear hb3 hb2
      go_wp2_with fail
      refine Calls.mono (HCI.out _ hB3) ?_
      rintro e w4 ⟨rfl, hb4, hS4, -⟩
      have hB4 : Below w.heap.size w w4 := hB3.trans (hb4.mono hB3.size)
      have hE4 := hE3.keep hb4
      clear hb4 hB3 hE3
      go_wp2_with fail
      refine Calls.mono (HSp.out _ _ _ hE4 hS4) ?_
      rintro e w5 ⟨vW, cW, rfl, sW5, hb5⟩
      have hB5 : Below w.heap.size w w5 := hB4.trans (hb5.mono hB4.size)
      clear hb5 hB4 hE4 hS4 HSp
      go_wp2_with fail
      refine Calls.mono (HCE.out _ hB5) ?_
      rintro e w6 ⟨rfl, hb6, hM6, hE6⟩
      have hB6 : Below w.heap.size w w6 := hB5.trans (hb6.mono hB5.size)
      have k6 : Below w5.heap.size w5 w6 := hb6
      clear hb6
      go_wp2_with fail
      refine Calls.mono (HCI.out _ hB6) ?_
      rintro e w7 ⟨rfl, hb7, hS7, hN7⟩
      have hB7 : Below w.heap.size w w7 := hB6.trans (hb7.mono hB6.size)
      have k7 : Below w5.heap.size w5 w7 := k6.trans (hb7.mono k6.size)
      have hE7 := hE6.keep hb7
      have hM7 := hM6.keep hb7
      have hT7 := (HT.out _ hB7).1
      have o56 : w5.heap.size ≤ w6.heap.size := k6.size
      have o67 : w6.heap.size < w7.heap.size := hN7.1
      clear hb7 hB6 k6 hE6 hM6
      go_wp2_with fail
      refine Calls.mono (HIm.out _ _ _ hT7 hE7 hS7) ?_
      rintro e w8 ⟨vG, rfl, rG8, hb8⟩
      have hB8 : Below w.heap.size w w8 := hB7.trans (hb8.mono hB7.size)
      have k8 : Below w5.heap.size w5 w8 := k7.trans (hb8.mono k7.size)
      have hE8 := hE7.keep hb8
      have hM8 := hM7.keep hb8
      have hS8 := hS7.keep hb8
      have hN8 := hN7.keep hb8
      have hGge := own_ge rG8
      clear hb8 hB7 k7 hE7 hM7 hS7 hN7 hT7
      go_wp2_with fail
      refine Calls.mono (HQ.out _ _ _ _ _ rG8 (sW5.keep k8)) ?_
      rintro e w9 ⟨rfl, hb9⟩
      have hB9 : Below w.heap.size w w9 := hB8.trans (hb9.mono hB8.size)
      have k9 : Below w5.heap.size w5 w9 := k8.trans (hb9.mono k8.size)
      have hE9 := hE8.keep hb9
      have hM9 := hM8.keep hb9
      have hS9 := hS8.keep hb9
      have hN9 := hN8.keep hb9
      have rG9 := row_keep rG8 hb9
      clear hb9 hB8 k8 hE8 hM8 hS8 hN8 rG8
      go_wp2_with fail
      refine Calls.mono (HCE.out _ hB9) ?_
      rintro e w10 ⟨rfl, hb10, -, hF10⟩
      have hB10 : Below w.heap.size w w10 := hB9.trans (hb10.mono hB9.size)
      have k10 : Below w5.heap.size w5 w10 := k9.trans (hb10.mono k9.size)
      have hE10 := hE9.keep hb10
      have hM10 := hM9.keep hb10
      have hS10 := hS9.keep hb10
      have hN10 := hN9.keep hb10
      have rG10 := row_keep rG9 hb10
      clear hb10 hB9 k9 hE9 hM9 hS9 hN9 rG9
      go_wp2_with fail
      refine Calls.mono (HQE.out _ _ _ hE10 hF10) ?_
      rintro e w11 ⟨rfl, hb11⟩
      have hB11 : Below w.heap.size w w11 := hB10.trans (hb11.mono hB10.size)
      have k11 : Below w5.heap.size w5 w11 := k10.trans (hb11.mono k10.size)
      have hM11 := hM10.keep hb11
      have hS11 := hS10.keep hb11
      have hN11 := hN10.keep hb11
      have rG11 := row_keep rG10 hb11
      clear hb11 hB10 k10 hE10 hF10 hM10 hS10 hN10 rG10 HQE
      go_wp2_with fail
      refine Calls.mono (HCI.out _ hB11) ?_
      rintro e w12 ⟨rfl, hb12, hF12, -⟩
      have hB12 : Below w.heap.size w w12 := hB11.trans (hb12.mono hB11.size)
      have k12 : Below w5.heap.size w5 w12 := k11.trans (hb12.mono k11.size)
      have hM12 := hM11.keep hb12
      have hS12 := hS11.keep hb12
      have hN12 := hN11.keep hb12
      have rG12 := row_keep rG11 hb12
      clear hb12 hB11 k11 hM11 hS11 hN11 rG11
      go_wp2_with fail
      refine Calls.mono (HQI.out _ _ _ hS12 hF12) ?_
      rintro e w13 ⟨rfl, hb13⟩
      have hB13 : Below w.heap.size w w13 := hB12.trans (hb13.mono hB12.size)
      have k13 : Below w5.heap.size w5 w13 := k12.trans (hb13.mono k12.size)
      have hM13 := hM12.keep hb13
      have hN13 := hN12.keep hb13
      have rG13 := row_keep rG12 hb13
      clear hb13 hB12 k12 hM12 hS12 hF12 hN12 rG12 HQI
      go_wp2_with fail
      refine Calls.mono (HME.out _ _ _ hM13) ?_
      rintro e w14 ⟨rfl, t14⟩
      have q14 : Below w5.heap.size w13 w14 := t14.below (k13.size)
      have hB14 : Below w.heap.size w w14 := hB13.trans (q14.mono hB5.size)
      have k14 : Below w5.heap.size w5 w14 := k13.trans q14
      have hN14 := mineE_block hN13 t14.2.2.2.1 (t14.2.2.2.2 _ hN13.1 (.inr (Nat.le_refl _)))
      have rG14 := row_turn rG13 t14.2.2.2.1 (fun x hx => t14.2.2.2.2 x (row_in rG13 x hx) (.inr (by have := hGge _ hx; omega)))
      clear t14 q14 hB13 k13 hM13 hN13 rG13 HME
      go_wp2_with fail
      refine Calls.mono (HMI0.out _ _ hN14) ?_
      rintro e w15 ⟨rfl, g15⟩
      have hB15 : Below w.heap.size w w15 := hB14.grown g15 hB14.size (fun r hr => by injection hr with hr; have := hB5.size; omega)
      have k15 : Below w5.heap.size w5 w15 := k14.grown g15 k14.size (fun r hr => by injection hr with hr; omega)
      have rG15 := row_grown rG14 g15 (fun x hx e => by injection e with e; have := hGge _ hx; omega)
      clear g15 hB14 k14 hN14 rG14 HMI0
      go_wp2_with fail
      refine Calls.mono (HQ.out _ _ _ _ _ rG15 (sW5.keep k15)) ?_
      rintro e w16 ⟨rfl, hb16⟩
      have hB16 : Below w.heap.size w w16 := hB15.trans (hb16.mono hB15.size)
      have k16 : Below w5.heap.size w5 w16 := k15.trans (hb16.mono k15.size)
      have rG16 := row_keep rG15 hb16
      clear hb16 hB15 k15 rG15
      go_wp2_with fail
      refine Calls.mono (HMI.out _ _ _ rG16) ?_
      rintro e w17 ⟨rfl, g17, aG, cG, rfl, hG17⟩
      have hB17 : Below w.heap.size w w17 := hB16.grown g17 hB16.size (fun r hr => by have := hGge r hr; have := hB5.size; omega)
      have k17 : Below w5.heap.size w5 w17 := k16.grown g17 k16.size (fun r hr => by have := hGge r hr; omega)
      clear g17 hB16 k16 rG16 HMI
      go_wp2_with fail
      refine Calls.mono (HH.out _ _ _ hG17) ?_
      rintro e w17b ⟨rfl, rfl⟩
      go_wp2_with fail
      refine Calls.mono (HCE.out _ hB17) ?_
      rintro e w18 ⟨rfl, hb18, -, hE18⟩
      have hB18 : Below w.heap.size w w18 := hB17.trans (hb18.mono hB17.size)
      have k18 : Below w5.heap.size w5 w18 := k17.trans (hb18.mono k17.size)
      have hG18 := hG17.keep hb18
      clear hb18 hB17 k17 hG17 HCE
      go_wp2_with fail
      refine Calls.mono (HCI.out _ hB18) ?_
      rintro e w19 ⟨rfl, hb19, hS19, -⟩
      have hB19 : Below w.heap.size w w19 := hB18.trans (hb19.mono hB18.size)
      have k19 : Below w5.heap.size w5 w19 := k18.trans (hb19.mono k18.size)
      have hG19 := hG18.keep hb19
      have hE19 := hE18.keep hb19
      have hT19 := (HT.out _ hB19).1
      clear hb19 hB18 k18 hG18 hE18 HCI
      go_wp2_with fail
      refine Calls.mono (HIm.out _ _ _ hT19 hE19 hS19) ?_
      rintro e w20 ⟨vH, rfl, rH20, hb20⟩
      have hB20 : Below w.heap.size w w20 := hB19.trans (hb20.mono hB19.size)
      have k20 : Below w5.heap.size w5 w20 := k19.trans (hb20.mono k19.size)
      have hG20 := hG19.keep hb20
      clear hb20 hB19 k19 hG19 hE19 hS19 hT19 HIm
      go_wp2_with fail
      refine Calls.mono (HQ.out _ _ _ _ _ rH20 (sW5.keep k20)) ?_
      rintro e w21 ⟨rfl, hb21⟩
      have hB21 : Below w.heap.size w w21 := hB20.trans (hb21.mono hB20.size)
      have hG21 := hG20.keep hb21
      clear hb21 hB20 k20 hG20 rH20 HQ
      go_wp2_with fail
      refine Calls.mono (HH.out _ _ _ hG21) ?_
      rintro e w21b ⟨rfl, rfl⟩
      go_wp2
      go_ret
      exact ⟨rfl, hB21⟩
  · have hlb' : (1048576 : Int) < lb := by omega
    clear h hl ht
    go_enter Tryd.func4, Tryd.ntmps4
    go_wp2
    go_ret
    exact ⟨rfl, Below.refl _ _⟩
end Go.Proofs.YthkjmgjajmghmaaDoor
