/-
  PROVED HERE: the law FnExactTermOf's own run, in a world whose table of arities is laid. No other condition.
-/
import Derived.Test.YtghhmallbmdoaaaDoorTermI
import Derived.Test.YtghhmallbmdoaaaDoorMonoMark
import Derived.Test.YtghhmallbmdoaaaDoorMonoEq
import Derived.Test.YtghhmallbmdoaaaDoorMonoIn
import Derived.Test.YtghhmallbmdoaaaDoorNodeMarks
namespace Go.Proofs.YtghhmallbmdoaaaDoor
open Go.ChangeShapes Go.WideShapes Go.ChangeAt Go.RowKit
set_option linter.unusedVariables false

theorem madeR_len (p : List Mon) : (termR p).length ≤ 40 := by
  unfold termR
  split
  · rename_i h
    unfold termOk at h
    rw [Bool.and_eq_true] at h
    exact (good_pile h.2).2.2
  · simp
theorem own_turn {lo hi : Nat} {w w' : World} {base e size n : Nat} {v : Value} {xs : List Value} (h : w.ownsRow base e size v n xs) (hw : TurnIn lo hi w w') (hne : ∀ x, v.ownBlock = some x → x < lo ∨ hi ≤ x) : w'.ownsRow base e size v n xs := by
  obtain ⟨h1, h2⟩ := h
  refine ⟨h1, ?_⟩
  rcases h2 with h0 | ⟨g, cap, cur, rfl, hb, hg, hr⟩
  · exact .inl h0
  · exact .inr ⟨g, cap, cur, rfl, hb, (hw.all.2.2.2.2 g (Array.getElem?_eq_some_iff.1 hg).1 (hne g rfl)).trans hg, hr⟩
theorem turn_below {lo hi B : Nat} {a b c : World} (h : Below B a b) (k : TurnIn lo hi b c) (h1 : B ≤ lo) (h2 : B ≤ b.heap.size) : Below B a c := by
  obtain ⟨a1, a2, a3, a4, a5⟩ := k.all
  exact ⟨a1.trans h.os, a2.trans h.tape, a3.trans h.output, Nat.le_trans h.size a4, fun x hx => (a5 x (by omega) (.inl (by omega))).trans (h.block x hx)⟩
set_option maxHeartbeats 3200000 in
theorem termLaw_any (w : World) (HPw : ∀ W, Below w.heap.size w W → Tab W) (a : Option Addr) (len cap : Nat) (p : List Mon) (h : PSl w a len p) (hm : len ≤ 9223372036854775807) :
    Calls Tryd.prog 4 #[.slice a len cap] w fun e w' => e = .returned (.bool true) ∧ Below w.heap.size w w' := by
  have hll := h.1
  have HZ := (show Hid _ from szP_any a len cap p 1048576 w h ⟨by omega, by omega⟩ hm)
  have HSp : Hid (∀ W (g : Option Addr), PSl W g len p → Calls Tryd.prog 11 #[.slice g len len] W fun e w' => ∃ v : Value, e = .returned (.tuple #[v, .bool (termOk p)]) ∧ w'.ownsRow W.heap.size 42 2 v (termR p).length (flat (termR p)) ∧ Below W.heap.size W w') := fun W g hW => specTerm_any g len len p W hW hm
  have HIm : Hid (∀ W (g : Option Addr), Below w.heap.size w W → PSl W g len p → Calls Tryd.prog 13 #[.slice g len len] W fun e w' => ∃ v : Value, e = .returned (.tuple #[v, .bool (termOk p)]) ∧ w'.ownsRow W.heap.size 42 2 v (termR p).length (flat (termR p)) ∧ Below W.heap.size W w') := fun W g hB hW => implTerm_any g len len p W (HPw W hB) hW hm
  have hL := madeR_len p
  generalize termOk p = G at HSp HIm
  generalize termR p = L at HSp HIm hL
  have HQ : Hid (∀ W (u v : Value) (b b' : Nat), W.ownsRow b 42 2 u L.length (flat L) → W.ownsRow b' 42 2 v L.length (flat L) → Calls Tryd.prog 9 #[u, v] W fun e w' => e = .returned (.bool true) ∧ Below W.heap.size W w') := fun W u v b b' h1 h2 => by
    obtain ⟨a1, c1, rfl, s1⟩ := NSl.row h1
    obtain ⟨a2, c2, rfl, s2⟩ := NSl.row h2
    exact eqN_same a1 a2 _ c1 c2 L W s1 s2 (by omega)
  have HMI : Hid (∀ W (v : Value) b, W.ownsRow b 42 2 v L.length (flat L) → Calls Tryd.prog 16 #[v, .int .i64 1] W fun e w' => e = .returned (.int .i64 (1 + 2 * L.length : Nat)) ∧ W.grownBy w' v.ownBlock ∧ ∃ a cap, v = .slice a L.length cap ∧ NSl w' a L.length (marks 1 L.length)) := fun W v b hW => markN_row b _ v _ L W hW (by omega)
  have HH : Hid (∀ W (a : Option Addr) (c : Nat), NSl W a L.length (marks 1 L.length) → Calls Tryd.prog 17 #[.slice a L.length c, .int .i64 1] W fun e w' => e = .returned (.int .i64 (1 + 2 * L.length : Nat)) ∧ w' = W) := fun W a c hW => held_any a _ c 1 W hW (by omega) (by omega)
  have hGG : (G != G) = false := by simp
  have hq1 : ¬ ((1 + 2 * L.length : Nat) : Int) < 0 := by omega
  generalize ((1 + 2 * L.length : Nat) : Int) = zq at HMI HH hq1
  have hqq : (zq != zq) = false := by simp
  go_enter Tryd.func4, Tryd.ntmps4
  go_wp2_with fail
  refine Calls.mono HZ.out ?_
  rintro e w1 ⟨z, rfl, hb1, hz⟩
  clear HZ
  rcases hz with hz | ⟨hz, hz1, hz2⟩
  · go_wp2
    go_ret
    exact ⟨rfl, hb1⟩
  · have hn : len ≤ 1048576 := by unfold lensUp at hz2; omega
    have hp : ∀ i, i < len → (p.getD i ([], 0)).1.length ≤ 1048576 := fun i hi => by have := lens_le p len i hi hll; omega
    have hst : stN 1 p len ≤ 1048577 := by
      unfold lensUp at hz2
      unfold stN
      omega
    have HU : Hid (∀ W, PSl W a len p → Calls Tryd.prog 12 #[.slice a len cap] W fun e w' => e = .returned (.slice (some ⟨W.heap.size, 0, none⟩) len len) ∧ Below W.heap.size W w' ∧ PSl w' (some ⟨W.heap.size, 0, none⟩) len p ∧ PMine w' W.heap.size w'.heap.size W.heap.size len p) := fun W hW => (copyP_mine a len cap p W hW hn hp).mono fun e w' ⟨h1, h2, h3⟩ => ⟨h1, h2, h3.psl (fun i hi => by have := hp i hi; omega), h3⟩
    have HEu : Hid (∀ W (g g' : Option Addr), PSl W g len p → PSl W g' len p → Calls Tryd.prog 14 #[.slice g len len, .slice g' len len] W fun e w' => e = .returned (.bool true) ∧ Below W.heap.size W w') := fun W g g' h1 h2 => eqP_same g g' len len len p W h1 h2 hn hp
    have HMu : Hid (∀ W lo hi g, PMine W lo hi g len p → Calls Tryd.prog 15 #[.slice (some ⟨g, 0, none⟩) len len, .int .i64 1] W fun e w' => e = .returned (.int .i64 (stN 1 p len : Nat)) ∧ TurnIn lo hi W w') := fun W lo hi g hW => (markP_any lo hi g len len 1 p W hW (Nat.le_refl _) hst).mono fun e w' ⟨h1, h2, _⟩ => ⟨h1, h2⟩
    have hz' : ¬ z < 0 := by omega
    have hk1 : ¬ ((stN 1 p len : Nat) : Int) < 0 := by omega
    generalize ((stN 1 p len : Nat) : Int) = zk at HMu hk1
    clear hp hz2 HPw
    go_wp2_with fail
    refine (HU.out _ (h.keep hb1)).mono ?_
    rintro e w2 ⟨rfl, hb2, hu2, _⟩
    have hB2 := hb1.trans (hb2.mono hb1.size)
    clear hb2
    go_wp2_with fail
    refine (HSp.out _ _ hu2).mono ?_
    rintro e w4 ⟨vW, rfl, rW4, hb4⟩
    have hB4 := hB2.trans (hb4.mono hB2.size)
    have hWin := own_in rW4
    clear hb4 hu2 HSp hB2
    go_wp2_with fail
    refine (HU.out _ (h.keep hB4)).mono ?_
    rintro e w5 ⟨rfl, hb5, hu5, hn5⟩
    have hB5 := hB4.trans (hb5.mono hB4.size)
    have rW5 := own_keep rW4 hb5
    have hX0 := hB4.size
    clear hb5 hB4 rW4
    go_wp2_with fail
    refine (HIm.out _ _ hB5 hu5).mono ?_
    rintro e w6 ⟨vG, rfl, rG6, hb6⟩
    have hB6 := hB5.trans (hb6.mono hB5.size)
    have rW6 := own_keep rW5 hb6
    have hu6 := hu5.keep hb6
    have hn6 := hn5.keep hb6
    have hGge := own_ge rG6
    clear hb6 rW5 hu5 hn5 hB5
    go_wp2_with fail
    refine (HQ.out _ _ _ _ _ rG6 rW6).mono ?_
    rintro e w9 ⟨rfl, hb9⟩
    have hB9 := hB6.trans (hb9.mono hB6.size)
    have rW9 := own_keep rW6 hb9
    have rG9 := own_keep rG6 hb9
    have hu9 := hu6.keep hb9
    have hn9 := hn6.keep hb9
    clear hb9 rW6 rG6 hu6 hn6 hB6
    go_wp2_with fail
    refine (HU.out _ (h.keep hB9)).mono ?_
    rintro e w10 ⟨rfl, hb10, hu10', _⟩
    have hB10 := hB9.trans (hb10.mono hB9.size)
    have rW10 := own_keep rW9 hb10
    have rG10 := own_keep rG9 hb10
    have hu10 := hu9.keep hb10
    have hn10 := hn9.keep hb10
    clear hb10 rW9 rG9 hu9 hn9 hB9
    go_wp2_with fail
    refine (HEu.out _ _ _ hu10 hu10').mono ?_
    rintro e w12 ⟨rfl, hb12⟩
    have hB12 := hB10.trans (hb12.mono hB10.size)
    have rW12 := own_keep rW10 hb12
    have rG12 := own_keep rG10 hb12
    have hn12 := hn10.keep hb12
    clear hb12 rW10 rG10 hu10 hu10' hn10 hB10
    go_wp2_with fail
    refine (HMu.out _ _ _ _ hn12).mono ?_
    rintro e w13 ⟨rfl, hg13⟩
    have hB13 : Below w.heap.size w w13 := turn_below hB12 hg13 hX0 hB12.size
    have rW13 := own_turn rW12 hg13 (fun x hx => .inl (by have := hWin _ hx; omega))
    have rG13 := own_turn rG12 hg13 (fun x hx => .inr (hGge _ hx))
    have hWG : ∀ x, vW.ownBlock = some x → ∀ y, vG.ownBlock = some y → x ≠ y := fun x hx y hy e => by have := hWin _ hx; have := hGge _ hy; have := hn12.2.1; have := hn12.2.2.1; omega
    have hGlo : ∀ r, vG.ownBlock = some r → w.heap.size ≤ r := fun r hr => by have := hGge r hr; have := hn12.2.1; have := hn12.2.2.1; omega
    clear hg13 rW12 rG12 hn12 hB12
    go_wp2_with fail
    refine (HQ.out _ _ _ _ _ rG13 rW13).mono ?_
    rintro e w14 ⟨rfl, hb14⟩
    have hB14 := hB13.trans (hb14.mono hB13.size)
    have rW14 := own_keep rW13 hb14
    have rG14 := own_keep rG13 hb14
    clear hb14 rW13 rG13 hB13
    go_wp2_with fail
    refine (HMI.out _ _ _ rG14).mono ?_
    rintro e w15 ⟨rfl, hg15, aG, cG, rfl, hsG15⟩
    have hB15 : Below w.heap.size w w15 := hB14.grown hg15 hB14.size hGlo
    have rW15 := own_grown rW14 hg15 (fun x hx e => hWG x hx x e.symm rfl)
    clear hg15 rW14 rG14 hB14
    go_wp2_with fail
    refine (HH.out _ _ _ hsG15).mono ?_
    rintro e w16 ⟨rfl, rfl⟩
    go_wp2_with fail
    refine (HU.out _ (h.keep hB15)).mono ?_
    rintro e w18 ⟨rfl, hb18, hu18, _⟩
    have hB18 := hB15.trans (hb18.mono hB15.size)
    have rW18 := own_keep rW15 hb18
    have hsG18 := hsG15.keep hb18
    clear hb18 rW15 hsG15 hB15
    go_wp2_with fail
    refine (HIm.out _ _ hB18 hu18).mono ?_
    rintro e w19 ⟨vH, rfl, rH19, hb19⟩
    have hB19 := hB18.trans (hb19.mono hB18.size)
    have rW19 := own_keep rW18 hb19
    have hsG19 := hsG18.keep hb19
    clear hb19 rW18 hsG18 hu18 hB18
    go_wp2_with fail
    refine (HQ.out _ _ _ _ _ rH19 rW19).mono ?_
    rintro e w20 ⟨rfl, hb20⟩
    have hB20 := hB19.trans (hb20.mono hB19.size)
    have hsG20 := hsG19.keep hb20
    clear hb20 rW19 rH19 hsG19 hB19
    go_wp2_with fail
    refine (HH.out _ _ _ hsG20).mono ?_
    rintro e w21 ⟨rfl, rfl⟩
    go_wp2
    go_ret
    exact ⟨rfl, hB20⟩
end Go.Proofs.YtghhmallbmdoaaaDoor
