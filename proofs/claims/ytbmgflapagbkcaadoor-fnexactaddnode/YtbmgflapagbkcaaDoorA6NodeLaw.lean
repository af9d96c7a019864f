/-
  PROVED HERE: the law FnExactAddNode's own run, at every argument, in a world whose table of arities is laid. No other condition.
-/
import Derived.Test.YtbmgflapagbkcaaDoorA6NodeI
import Derived.Test.YtbmgflapagbkcaaDoorA6NodeS
import Derived.Test.YtbmgflapagbkcaaDoorAddEnd
import Derived.Test.YtbmgflapagbkcaaDoorN6In
import Derived.Test.YtbmgflapagbkcaaDoorG6Ends
import Derived.Deep.CutRange
namespace Go.Proofs.YtbmgflapagbkcaaDoor
open Go.ChangeShapes Go.WideShapes Go.ChangeAt Go.RowKit
set_option linter.unusedVariables false

/-- A graph that lies in blocks of S. -/
def Safe (w : World) (S : Nat → Prop) (va vb : Value) (g : GS) : Prop := ∀ w', w.heap.size ≤ w'.heap.size → (∀ b, S b → b < w.heap.size → w'.heap[b]? = w.heap[b]?) → ReadG w' va vb g
theorem GOwn.safe {w : World} {s : Bool} {S : Nat → Prop} {va vb : Value} {g : GS} (h : GOwn w s S va vb g) : Safe w S va vb g := fun w' hs hk => (h.map hs hk (fun _ _ h => h)).reads
theorem AnsI.safe {w : World} {S : Nat → Prop} {va vb : Value} {g : GS} (h : AnsI w S va vb g) : Safe w S va vb g := fun w' hs hk => (h.map hs hk (fun _ _ h => h)).read
/-- What a drawn statement leaves: an answer in its box. -/
def EndR (W1 wx : World) (bx : Nat) (va vb : Value) (g : GS) : Prop := Below W1.heap.size W1 wx ∧ ReadG wx va vb g ∧ wx.cell? ⟨bx, 0, none⟩ = some va ∧ wx.cell? ⟨bx, 1, none⟩ = some vb ∧ bx < wx.heap.size
theorem alloc_below (w : World) (o : Obj) : Below w.heap.size w (w.alloc o) := (Below.refl _ _).alloc (Nat.le_refl _) _
theorem nhi {n b bx : Nat} (h : n ≤ b) (h' : bx < n) : bx ≠ b := by omega
theorem endR_alloc {W1 w7 : World} {S : Nat → Prop} {a6 : Option Addr} {n6 ca6 : Nat} {b6 : Option Addr} {m6 cb6 : Nat} {g : GS} (hB : Below W1.heap.size W1 w7) (hG : Safe w7 S (.slice a6 n6 ca6) (.slice b6 m6 cb6) g) :
    EndR W1 (w7.alloc (.cells #[.slice a6 n6 ca6, .slice b6 m6 cb6] 32)) w7.heap.size (.slice a6 n6 ca6) (.slice b6 m6 cb6) g :=
  ⟨hB.alloc hB.size _, hG _ (alloc_below _ _).size (fun b _ hl => (alloc_below _ _).block b hl), by simp [go_sem], by simp [go_sem], by simp⟩
theorem endR_set {W1 w7 : World} {bx : Nat} {S : Nat → Prop} {a6 : Option Addr} {n6 ca6 : Nat} {b6 : Option Addr} {m6 cb6 : Nat} {g : GS} {u0 u1 : Value} (hB : Below W1.heap.size W1 w7) (hG : Safe w7 S (.slice a6 n6 ca6) (.slice b6 m6 cb6) g) (hS : ∀ b', S b' → bx ≠ b')
    (p0 : w7.cell? ⟨bx, 0, none⟩ = some u0) (p1 : w7.cell? ⟨bx, 1, none⟩ = some u1) (h1 : W1.heap.size ≤ bx) (h2 : bx < w7.heap.size) :
    EndR W1 ((w7.setCell ⟨bx, 0, none⟩ (.slice a6 n6 ca6)).setCell ⟨bx, 1, none⟩ (.slice b6 m6 cb6)) bx (.slice a6 n6 ca6) (.slice b6 m6 cb6) g := by
  have hs : ((w7.setCell ⟨bx, 0, none⟩ (.slice a6 n6 ca6)).setCell ⟨bx, 1, none⟩ (.slice b6 m6 cb6)).heap.size = w7.heap.size := by rw [setCell_size, setCell_size]
  refine ⟨(hB.setCell h1 _).setCell h1 _, hG _ (by rw [hs]; exact Nat.le_refl _) (fun b hb _ => by rw [setCell_block _ _ _ (hS b hb), setCell_block _ _ _ (hS b hb)]), ?_, ?_, by omega⟩
  · rw [World.cell?_setCell_other _ _ _ _ (fun e => by injection e with _ e _; exact absurd e (by decide))]
    exact World.cell?_setCell_same _ _ _ p0
  · refine World.cell?_setCell_same _ _ _ (u := u1) ?_
    rw [World.cell?_setCell_other _ _ _ _ (fun e => by injection e with _ e _; exact absurd e (by decide))]
    exact p1
theorem boxR {Wa W5 w7 : World} (h : Below (Wa.alloc (.cells #[.slice none 0 0, .slice none 0 0] 32)).heap.size (Wa.alloc (.cells #[.slice none 0 0, .slice none 0 0] 32)) W5) (hk : Below W5.heap.size W5 w7) : w7.cell? ⟨Wa.heap.size, 0, none⟩ = some (.slice none 0 0) ∧ w7.cell? ⟨Wa.heap.size, 1, none⟩ = some (.slice none 0 0) ∧ w7.frozen? ⟨Wa.heap.size, 0, none⟩ = false ∧ w7.frozen? ⟨Wa.heap.size, 1, none⟩ = false ∧ Wa.heap.size < W5.heap.size ∧ Wa.heap.size < w7.heap.size := by
  have hs : Wa.heap.size < (Wa.alloc (.cells #[.slice none 0 0, .slice none 0 0] 32)).heap.size := by simp
  have hs5 := h.size
  have hs7 := hk.size
  have hb : w7.heap[Wa.heap.size]? = (Wa.alloc (.cells #[.slice none 0 0, .slice none 0 0] 32)).heap[Wa.heap.size]? := (hk.block _ (by omega)).trans (h.block _ hs)
  exact ⟨(World.cell?_of_block (a := ⟨Wa.heap.size, 0, none⟩) hb).trans (by simp [go_sem]), (World.cell?_of_block (a := ⟨Wa.heap.size, 1, none⟩) hb).trans (by simp [go_sem]), (World.frozen?_of_block (a := ⟨Wa.heap.size, 0, none⟩) hb).trans (by simp [go_sem]), (World.frozen?_of_block (a := ⟨Wa.heap.size, 1, none⟩) hb).trans (by simp [go_sem]), by omega, by omega⟩
theorem markEN_any (op n : Int) (gk kl kc k : Nat) (w : World) (h : MineI w gk kl) (hn : kl ≤ 1048576) (hk : k ≤ 16777216) :
    Calls Tryd.prog 15 #[.agg #[.int .i64 op, .int .i64 n, .slice (some ⟨gk, 0, none⟩) kl kc], .int .i64 k] w fun e w' => e = .returned (.int .i64 (k + kl : Nat)) ∧ TurnE gk (gk + 1) w w' := by
  obtain ⟨W1, hW1⟩ : ∃ W1, w.alloc (.cells #[.int .i64 op, .int .i64 n, .slice (some ⟨gk, 0, none⟩) kl kc] 36) = W1 := ⟨_, rfl⟩
  have hb1 : Below w.heap.size w W1 := by rw [← hW1]; exact alloc_below _ _
  have n2 : W1.cell? ⟨w.heap.size, 2, none⟩ = some (.slice (some ⟨gk, 0, none⟩) kl kc) := by rw [← hW1]; simp [go_sem]
  have HM := (show Hid _ from markI_any gk kl kc k W1 (h.keep hb1) hn hk)
  have HT : Hid (TurnE gk (gk + 1) w W1) := TurnE.of_below hb1
  clear h hb1
  go_enter Tryd.func15, Tryd.ntmps15
  go_wp2_with fail
  (try rw [hW1])
  refine Calls.mono HM.out ?_
  rintro e w2 ⟨rfl, g2, s2⟩
  have HT2 : Hid (TurnE gk (gk + 1) w w2) := HT.out.trans (TurnE.of_grown g2 (Nat.le_refl _) (Nat.lt_succ_self _))
  clear HM hW1 g2 s2 HT
  go_wp2
  go_ret
  exact ⟨rfl, HT2.out⟩
theorem addN_few {p : List EN} {l : List Int} {op n : Int} {kids : List Int} (hn : InI n) : (ansG (addN p l op n kids)).1.length ≤ 120 ∧ (ansG (addN p l op n kids)).2.length = (ansG (addN p l op n kids)).1.length ∧ ∀ i, i < (ansG (addN p l op n kids)).1.length → ((ansG (addN p l op n kids)).1.getD i e0).2.2.length ≤ 3 := by
  cases h : addN p l op n kids with
  | none => exact ⟨by simp [ansG], rfl, fun i hi => absurd hi (Nat.not_lt_zero _)⟩
  | some r =>
    unfold addN at h
    by_cases hc : (graphB p l && (nodeOk op n kids.length && kidsB kids 0 ((p.length : Int) - 1))) = true
    · rw [if_pos hc] at h
      simp only [Bool.and_eq_true] at hc
      obtain ⟨hgb, hno, hkb⟩ := hc
      obtain ⟨h120, hgood⟩ := (graphB_good p l).1 hgb
      have hfit := addN_fits (l := l) hno hkb hn
      have hpg := putL_good hgood (x := (op, n, kidsL l kids)) (fits_ok hfit) (kidsL_cl hgood hfit)
      by_cases h00 : (putL (p, l) (op, n, kidsL l kids)).1.1.length ≤ 120
      · rw [if_pos h00] at h
        cases h
        exact ⟨h00, hpg.1.2.1, good_few hpg.1⟩
      · rw [if_neg h00] at h
        cases h
    · rw [if_neg hc] at h
      cases h
set_option maxHeartbeats 25600000 in
set_option maxRecDepth 20000 in
theorem addNodeLaw_any (a b : Option Addr) (len cap lb cb : Nat) (p : List EN) (l : List Int) (op n : Int) (ka : Option Addr) (kl kc : Nat) (kids : List Int) (w : World) (ht : Tab w) (h : ESl w a len p) (hl : Sl w b lb l) (hI : InE p) (hk : Sl w ka kl kids) (hn : InI n) (hm : len ≤ 9223372036854775807) (hm2 : lb ≤ 9223372036854775807) (hm3 : kl ≤ 9223372036854775807) :
    Calls Tryd.prog 3 #[.agg #[.slice a len cap, .slice b lb cb], .agg #[.int .i64 op, .int .i64 n, .slice ka kl kc]] w fun e w' => e = .returned (.bool true) ∧ Below w.heap.size w w' := by
  have hll := h.1
  have hl1 := hl.1
  obtain ⟨W1, hW1⟩ : ∃ W1, (w.alloc (.cells #[.slice a len cap, .slice b lb cb] 25)).alloc (.cells #[.int .i64 op, .int .i64 n, .slice ka kl kc] 27) = W1 := ⟨_, rfl⟩
  have hb1 : Below w.heap.size w W1 := by rw [← hW1]; exact ((Below.refl _ _).alloc (Nat.le_refl _) _).alloc (by simp) _
  have hs1 : W1.heap.size = w.heap.size + 2 := by rw [← hW1]; simp
  have n0 : W1.cell? ⟨w.heap.size, 0, none⟩ = some (.slice a len cap) := by rw [← hW1]; simp [go_sem]
  have n1 : W1.cell? ⟨w.heap.size, 1, none⟩ = some (.slice b lb cb) := by rw [← hW1]; simp [go_sem]
  have n2 : W1.cell? ⟨w.heap.size + 1, 0, none⟩ = some (.int .i64 op) := by rw [← hW1]; simp [go_sem]
  have n3 : W1.cell? ⟨w.heap.size + 1, 1, none⟩ = some (.int .i64 n) := by rw [← hW1]; simp [go_sem]
  have n4 : W1.cell? ⟨w.heap.size + 1, 2, none⟩ = some (.slice ka kl kc) := by rw [← hW1]; simp [go_sem]
  have HZ := (show Hid _ from szG_any a b len cap lb cb p l 1048576 W1 (h.keep hb1) (hl.keep hb1) (by omega) hm hm2)
  have HF : Hid (∀ W, Below W1.heap.size W1 W → Below w.heap.size w W ∧ Tab W ∧ W.cell? ⟨w.heap.size, 0, none⟩ = some (.slice a len cap) ∧ W.cell? ⟨w.heap.size, 1, none⟩ = some (.slice b lb cb) ∧ W.cell? ⟨w.heap.size + 1, 0, none⟩ = some (.int .i64 op) ∧ W.cell? ⟨w.heap.size + 1, 1, none⟩ = some (.int .i64 n) ∧ W.cell? ⟨w.heap.size + 1, 2, none⟩ = some (.slice ka kl kc)) := fun W hW => ⟨hb1.trans (hW.mono hb1.size), (ht.keeps hb1).keeps hW, (hW.cell (p := ⟨w.heap.size, 0, none⟩) (by show w.heap.size < _; omega)).trans n0, (hW.cell (p := ⟨w.heap.size, 1, none⟩) (by show w.heap.size < _; omega)).trans n1, (hW.cell (p := ⟨w.heap.size + 1, 0, none⟩) (by show w.heap.size + 1 < _; omega)).trans n2, (hW.cell (p := ⟨w.heap.size + 1, 1, none⟩) (by show w.heap.size + 1 < _; omega)).trans n3, (hW.cell (p := ⟨w.heap.size + 1, 2, none⟩) (by show w.heap.size + 1 < _; omega)).trans n4⟩
  rcases szG_all p l with hz | ⟨z0, z1, z2, z3, z4⟩
  · rw [hz] at HZ
    clear h hl hb1 ht hz hk hs1
    go_enter Tryd.func3, Tryd.ntmps3
    go_wp2_with fail
    (try rw [hW1])
    refine Calls.mono HZ.out ?_
    rintro e w2 ⟨rfl, hb2⟩
    clear HZ hW1
    go_wp2
    go_ret
    exact ⟨rfl, (HF.out _ hb2).1⟩
  · obtain ⟨sN, hsN⟩ : ∃ sN : Nat, szG 1048576 p l = sN := ⟨(szG 1048576 p l).toNat, by omega⟩
    have hst := szG_marks p l z0
    rw [hll, hl1] at hst
    rw [hsN] at HZ z0 z1
    have hz : ¬ (sN : Int) < 0 := by omega
    have hn1 : len ≤ 1048576 := by omega
    have hn2 : lb ≤ 1048576 := by omega
    rw [hll] at z4
    have HZ2 : Hid (∀ W, Calls Tryd.prog 7 #[.agg #[.int .i64 op, .int .i64 n, .slice ka kl kc], .int .i64 sN] W fun e w' => e = .returned (.int .i64 (szV sN kl)) ∧ Below W.heap.size W w') := fun W => szE_any op n ka kl kc sN W ⟨by omega, by omega⟩ hm3
    rcases szV_cases (sN : Int) kl (by omega) (by omega) with ⟨e1, e2⟩ | ⟨e1, e2, e3⟩
    · rw [e1] at HZ2
      clear h hl hb1 ht hll hl1 z0 z1 z2 z3 z4 hn1 hn2 hI hk hsN hst hs1 e1 e2
      go_enter Tryd.func3, Tryd.ntmps3
      go_wp2_with fail
      (try rw [hW1])
      refine Calls.mono HZ.out ?_
      rintro e w2 ⟨rfl, hb2⟩
      obtain ⟨-, -, q0, q1, q2, q3, q4⟩ := HF.out w2 hb2
      clear HZ hW1
      go_wp2_with fail
      refine Calls.mono (HZ2.out _) ?_
      rintro e w3 ⟨rfl, hb3⟩
      have HB3 := (show Hid _ from (HF.out _ (hb2.trans (hb3.mono hb2.size))).1)
      clear HZ2 hb2 hb3 q0 q1 q2 q3 q4
      go_wp2
      go_ret
      exact ⟨rfl, HB3.out⟩
    · have hz2 : ¬ szV (sN : Int) kl < 0 := by omega
      have hkm : kl ≤ 1048576 := by omega
      generalize szV (sN : Int) kl = s2 at HZ2 hz2
      have HC : Hid (∀ W, Below W1.heap.size W1 W → Calls Tryd.prog 9 #[.agg #[.slice a len cap, .slice b lb cb]] W fun e w' => ∃ g gp hi, e = .returned (.agg #[.slice (some ⟨g, 0, none⟩) len len, .slice (some ⟨gp, 0, none⟩) lb lb]) ∧ Below W.heap.size W w' ∧ ESl w' (some ⟨g, 0, none⟩) len p ∧ Sl w' (some ⟨gp, 0, none⟩) lb l ∧ W.heap.size ≤ g ∧ EMine w' g hi g len p ∧ hi ≤ gp ∧ MineI w' gp lb) := fun W hW => (copyG_any a b len cap lb cb p l W ((h.keep hb1).keep hW) ((hl.keep hb1).keep hW) hn1 z4 hn2).mono fun e w' ⟨g, gp, hi, r1, r2, r3, r4, r5, r6, r7⟩ => ⟨g, gp, hi, r1, r2, r4.esl (fun i hi => by have := z4 i hi; omega), r7, r3, r4, r5, r6⟩
      have HCE : Hid (∀ W, Below W1.heap.size W1 W → Calls Tryd.prog 10 #[.agg #[.int .i64 op, .int .i64 n, .slice ka kl kc]] W fun e w' => ∃ gk, e = .returned (.agg #[.int .i64 op, .int .i64 n, .slice (some ⟨gk, 0, none⟩) kl kl]) ∧ Below W.heap.size W w' ∧ Sl w' (some ⟨gk, 0, none⟩) kl kids ∧ gk < w'.heap.size ∧ W.heap.size ≤ gk ∧ MineI w' gk kl) := fun W hW => (toE_any op n ka kl kc kids W ((hk.keep hb1).keep hW) hkm).mono fun e w' ⟨gk, r1, r2, r3, r4, r5⟩ => ⟨gk, r1, r2, ⟨hk.1, .inr ⟨gk, 0, rfl, r4, fun i hi => by rw [Nat.zero_add]; exact (r5 i hi).1⟩⟩, r4, r3, r4, fun i hi => ⟨⟨_, (r5 i hi).1⟩, (r5 i hi).2⟩⟩
      have HSp : Hid (∀ W, Below W1.heap.size W1 W → ∀ (g gp gk : Nat), ESl W (some ⟨g, 0, none⟩) len p → Sl W (some ⟨gp, 0, none⟩) lb l → Sl W (some ⟨gk, 0, none⟩) kl kids → gk < W.heap.size → Calls Tryd.prog 8 #[.agg #[.slice (some ⟨g, 0, none⟩) len len, .slice (some ⟨gp, 0, none⟩) lb lb], .agg #[.int .i64 op, .int .i64 n, .slice (some ⟨gk, 0, none⟩) kl kl]] W fun e w' => ∃ sa1 sca sb1 scb, e = .returned (.tuple #[.agg #[.slice sa1 (ansG (addN p l op n kids)).1.length sca, .slice sb1 (ansG (addN p l op n kids)).2.length scb], .int .i64 (ansC (addN p l op n kids)), .bool (addN p l op n kids).isSome]) ∧ Safe w' (fun x => W.heap.size ≤ x) (.slice sa1 (ansG (addN p l op n kids)).1.length sca) (.slice sb1 (ansG (addN p l op n kids)).2.length scb) (ansG (addN p l op n kids)) ∧ Below W.heap.size W w') := fun W _ g gp gk h1 h2 h3 _ => (specAddNode_any _ _ len len lb lb p l op n _ kl kl kids W h1 h2 h3 hn hm hm2 hm3).mono fun e w' ⟨va, vb, r1, r2, r3⟩ => by
        obtain ⟨a', ca', b', cb', f1, f2, -⟩ := r2.reads
        subst f1
        subst f2
        exact ⟨a', ca', b', cb', r1, r2.safe, r3⟩
      have HIm : Hid (∀ W, Below W1.heap.size W1 W → ∀ (g gp gk : Nat), ESl W (some ⟨g, 0, none⟩) len p → Sl W (some ⟨gp, 0, none⟩) lb l → Sl W (some ⟨gk, 0, none⟩) kl kids → gk < W.heap.size → Calls Tryd.prog 11 #[.agg #[.slice (some ⟨g, 0, none⟩) len len, .slice (some ⟨gp, 0, none⟩) lb lb], .agg #[.int .i64 op, .int .i64 n, .slice (some ⟨gk, 0, none⟩) kl kl]] W fun e w' => ∃ va vb, e = .returned (.tuple #[.agg #[va, vb], .int .i64 (ansC (addN p l op n kids)), .bool (addN p l op n kids).isSome]) ∧ AnsI w' (fun x => W.heap.size ≤ x) va vb (ansG (addN p l op n kids)) ∧ Below W.heap.size W w') := fun W hW g gp gk h1 h2 h3 h4 => implAddNode_any _ _ len len lb lb p l op n _ kl kl kids W (HF.out W hW).2.1 h1 h2 h3 (fun x hx => by simp [Value.ownBlock] at hx; omega) hI hn hm2 hm3
      have HQ : Hid (∀ W (g gp g' gp' : Nat), ESl W (some ⟨g, 0, none⟩) len p → Sl W (some ⟨gp, 0, none⟩) lb l → ESl W (some ⟨g', 0, none⟩) len p → Sl W (some ⟨gp', 0, none⟩) lb l → Calls Tryd.prog 12 #[.agg #[.slice (some ⟨g, 0, none⟩) len len, .slice (some ⟨gp, 0, none⟩) lb lb], .agg #[.slice (some ⟨g', 0, none⟩) len len, .slice (some ⟨gp', 0, none⟩) lb lb]] W fun e w' => e = .returned (.bool true) ∧ Below W.heap.size W w') := fun W g gp g' gp' h1 h2 h3 h4 => eqG_same _ _ _ _ len len len lb lb lb p l W h1 h3 h2 h4 hn1 z4 hn2
      have HQE : Hid (∀ W (gk gk' : Nat), Sl W (some ⟨gk, 0, none⟩) kl kids → Sl W (some ⟨gk', 0, none⟩) kl kids → Calls Tryd.prog 13 #[.agg #[.int .i64 op, .int .i64 n, .slice (some ⟨gk, 0, none⟩) kl kl], .agg #[.int .i64 op, .int .i64 n, .slice (some ⟨gk', 0, none⟩) kl kl]] W fun e w' => e = .returned (.bool true) ∧ Below W.heap.size W w') := fun W gk gk' h1 h2 => eqE_same op n _ _ kl kl kl kids W h1 h2 hkm
      have hfw := @addN_few p l op n kids hn
      obtain ⟨A, hA⟩ : ∃ A, ansG (addN p l op n kids) = A := ⟨_, rfl⟩
      rw [hA] at HSp HIm hfw
      have HQA : Hid (∀ W (u1 u2 v1 v2 : Value), ReadG W u1 u2 A → ReadG W v1 v2 A → Calls Tryd.prog 12 #[.agg #[u1, u2], .agg #[v1, v2]] W fun e w' => e = .returned (.bool true) ∧ Below W.heap.size W w') := fun W u1 u2 v1 v2 h1 h2 => eqA_any u1 u2 v1 v2 A W h1 h2 hfw.1 hfw.2.1 hfw.2.2
      have HMG : Hid (∀ W (g gp hi : Nat), EMine W g hi g len p → hi ≤ gp → MineI W gp lb → Calls Tryd.prog 14 #[.agg #[.slice (some ⟨g, 0, none⟩) len len, .slice (some ⟨gp, 0, none⟩) lb lb], .int .i64 1] W fun e w' => e = .returned (.int .i64 (stE 1 p len + lb : Nat)) ∧ TurnE g (gp + 1) W w') := fun W g gp hi h1 h2 h3 => markG_any hi g len len gp lb lb p W h1 h2 h3 (by omega) z4 hn1 hn2
      have hk0 : stE 1 p len + lb ≤ 3145729 := hst
      obtain ⟨K0, hK0⟩ : ∃ K0 : Nat, stE 1 p len + lb = K0 := ⟨_, rfl⟩
      rw [hK0] at HMG hk0
      have HMN : Hid (∀ W (gk : Nat), MineI W gk kl → Calls Tryd.prog 15 #[.agg #[.int .i64 op, .int .i64 n, .slice (some ⟨gk, 0, none⟩) kl kl], .int .i64 (K0 : Int)] W fun e w' => e = .returned (.int .i64 (K0 + kl : Nat)) ∧ TurnE gk (gk + 1) W w') := fun W gk h1 => markEN_any op n gk kl kl K0 W h1 hkm (by omega)
      obtain ⟨K1, hK1⟩ : ∃ K1 : Nat, K0 + kl = K1 := ⟨_, rfl⟩
      rw [hK1] at HMN
      have hk1 : ¬ (K1 : Int) < 0 := by omega
      have HMA : Hid (∀ W va vb (S : Nat → Prop), AnsI W S va vb A → Calls Tryd.prog 14 #[.agg #[va, vb], .int .i64 1] W fun e w' => e = .returned (.int .i64 ((ansK A : Nat) : Int)) ∧ KB S W w' ∧ HeldG w' va vb A) := fun W va vb S h1 => markA_any va vb A S W h1
      have HHA : Hid (∀ W va vb, HeldG W va vb A → Calls Tryd.prog 16 #[.agg #[va, vb], .int .i64 1] W fun e w' => e = .returned (.int .i64 ((ansK A : Nat) : Int)) ∧ Below W.heap.size W w') := fun W va vb h1 => heldA_any va vb A W h1
      obtain ⟨zq, hzq⟩ : ∃ zq : Int, ((ansK A : Nat) : Int) = zq := ⟨_, rfl⟩
      have hq1 : ¬ zq < 0 := by omega
      have hqq : (zq != zq) = false := by simp
      rw [hzq] at HMA HHA
      generalize ansC (addN p l op n kids) = C at HSp HIm
      generalize (addN p l op n kids).isSome = B at HSp HIm
      have hBB : (B != B) = false := by simp
      have hCC : (C != C) = false := by simp
      have HF5 : Hid (∀ W, Below W1.heap.size W1 W → W.cell? ⟨w.heap.size, 0, none⟩ = some (.slice a len cap) ∧ W.cell? ⟨w.heap.size, 1, none⟩ = some (.slice b lb cb) ∧ W.cell? ⟨w.heap.size + 1, 0, none⟩ = some (.int .i64 op) ∧ W.cell? ⟨w.heap.size + 1, 1, none⟩ = some (.int .i64 n) ∧ W.cell? ⟨w.heap.size + 1, 2, none⟩ = some (.slice ka kl kc)) := fun W hW => (HF.out W hW).2.2
      clear h hl hb1 ht hll hl1 z0 z1 z2 z3 z4 hn1 hn2 hI hk hsN e1 e2 e3 hkm hst hfw hA hK0 hK1 hzq hk0 hs1
      go_enter Tryd.func3, Tryd.ntmps3
      go_wp2_with fail
      (try rw [hW1])
      refine Calls.mono HZ.out ?_
      rintro e w2 ⟨rfl, hb2⟩
      obtain ⟨q0, q1, q2, q3, q4⟩ := HF5.out w2 hb2
      clear HZ hW1 n0 n1 n2 n3 n4
      go_wp2_with fail
      refine Calls.mono (HZ2.out _) ?_
      rintro e w3 ⟨rfl, hb3⟩
      have HBd : Hid (Below W1.heap.size W1 w3) := hb2.trans (hb3.mono hb2.size)
      clear HZ2 hb2 hb3 q0 q1 q2 q3 q4
      go_upto_region 8 with fail
      have HCx := (show Hid _ from HC.out)
      have HCEx := (show Hid _ from HCE.out)
      have HAx := (show Hid _ from HSp.out)
      have HFx := (show Hid _ from HF5.out)
      go_cut [6, 7, 8] from 30 to 38 (fun s0 s1 s2 wx => ∃ (bx : Nat) (sa1 : Option Addr) (sca : Nat) (sb1 : Option Addr) (scb : Nat), s0 = .pointer (some ⟨bx, 0, none⟩) ∧ s1 = .int .i64 C ∧ s2 = .bool B ∧ EndR W1 wx bx (.slice sa1 A.1.length sca) (.slice sb1 A.2.length scb) A)
      case first =>
        have hBd : Below W1.heap.size W1 w3.drew := HBd.out.drew
        have hBdA : Below W1.heap.size W1 (w3.drew.alloc (.cells #[.slice none 0 0, .slice none 0 0] 32)) := hBd.alloc hBd.size _
        have HQx := fun W hW => (HFx.out W hW)
        have zD := HQx w3.drew hBd
        have sA := fun o : Obj => HQx (w3.drew.alloc o) (hBd.alloc hBd.size o)
        go_region_held3 (fun w' => w'.cell? ⟨w.heap.size, 0, none⟩ = some (.slice a len cap) ∧ w'.cell? ⟨w.heap.size, 1, none⟩ = some (.slice b lb cb) ∧ w'.cell? ⟨w.heap.size + 1, 0, none⟩ = some (.int .i64 op) ∧ w'.cell? ⟨w.heap.size + 1, 1, none⟩ = some (.int .i64 n) ∧ w'.cell? ⟨w.heap.size + 1, 2, none⟩ = some (.slice ka kl kc))
          (first | assumption | exact sA _ | exact sB _ | exact sC _ | exact sE _ | exact sS _ _)
          (first
          | (go_at_call 9; first
              | (refine Calls.mono (HCx.out w3.drew hBd) ?_; rintro e v3 ⟨g, gp, hi, rfl, hb3, hE3, hS3, -⟩; have hB3 : Below W1.heap.size W1 v3 := hBd.trans (hb3.mono hBd.size); have z3 := HQx v3 hB3; have sB := fun o : Obj => HQx (v3.alloc o) (hB3.alloc hB3.size o))
              | (refine Calls.mono (HCx.out (w3.drew.alloc (.cells #[.slice none 0 0, .slice none 0 0] 32)) hBdA) ?_; rintro e v3 ⟨g, gp, hi, rfl, hb3a, hE3, hS3, -⟩; have hB3 : Below W1.heap.size W1 v3 := hBdA.trans (hb3a.mono hBdA.size); have z3 := HQx v3 hB3))
          | (go_at_call 10; first
              | (refine Calls.mono (HCEx.out v3 hB3) ?_; rintro e v4 ⟨gk, rfl, hb4, hK4, hgk4, -⟩; have hB4 : Below W1.heap.size W1 v4 := hB3.trans (hb4.mono hB3.size); have hE4 := hE3.keep hb4; have hS4 := hS3.keep hb4; have z4 := HQx v4 hB4; have sC := fun o : Obj => HQx (v4.alloc o) (hB4.alloc hB4.size o))
              | (refine Calls.mono (HCEx.out (v3.alloc (.cells #[.slice none 0 0, .slice none 0 0] 32)) (hB3.alloc hB3.size _)) ?_; rintro e v4 ⟨gk, rfl, hb4a, hK4, hgk4, -⟩; have hB4 : Below W1.heap.size W1 v4 := (hB3.alloc hB3.size _).trans (hb4a.mono (hB3.alloc hB3.size _).size); have hE4 := (hE3.keep (alloc_below v3 (.cells #[.slice none 0 0, .slice none 0 0] 32))).keep hb4a; have hS4 := (hS3.keep (alloc_below v3 (.cells #[.slice none 0 0, .slice none 0 0] 32))).keep hb4a; have z4 := HQx v4 hB4))
          | (go_at_call 8; first
              | (refine Calls.mono (HAx.out v4 hB4 _ _ _ hE4 hS4 hK4 hgk4) ?_; rintro e v5 ⟨sa1, sca, sb1, scb, rfl, hR5, hb5⟩; have hB5 : Below W1.heap.size W1 v5 := hB4.trans (hb5.mono hB4.size); have z5 := HQx v5 hB5; first
                  | (revert hb4a; intro hb4a; obtain ⟨p0, p1, p2, p3, p4, p5⟩ := boxR hb4a hb5; have sS := fun u0 u1 : Value => HQx ((v5.setCell ⟨v3.heap.size, 0, none⟩ u0).setCell ⟨v3.heap.size, 1, none⟩ u1) ((hB5.setCell (p := ⟨v3.heap.size, 0, none⟩) hB3.size u0).setCell (p := ⟨v3.heap.size, 1, none⟩) hB3.size u1))
                  | (revert hb3a; intro hb3a; obtain ⟨p0', p1', p2', p3', p4', p5'⟩ := boxR (hb3a.trans (hb4.mono hb3a.size)) hb5; have p0 : v5.cell? ⟨w3.heap.size, 0, none⟩ = some (.slice none 0 0) := p0'; have p1 : v5.cell? ⟨w3.heap.size, 1, none⟩ = some (.slice none 0 0) := p1'; have p2 : v5.frozen? ⟨w3.heap.size, 0, none⟩ = false := p2'; have p3 : v5.frozen? ⟨w3.heap.size, 1, none⟩ = false := p3'; have p4 : w3.heap.size < v4.heap.size := p4'; have p5 : w3.heap.size < v5.heap.size := p5'; have sS := fun u0 u1 : Value => HQx ((v5.setCell ⟨w3.heap.size, 0, none⟩ u0).setCell ⟨w3.heap.size, 1, none⟩ u1) ((hB5.setCell (p := ⟨w3.heap.size, 0, none⟩) hBd.size u0).setCell (p := ⟨w3.heap.size, 1, none⟩) hBd.size u1))
                  | (have sE := fun o : Obj => HQx (v5.alloc o) (hB5.alloc hB5.size o)))
              | (refine Calls.mono (HAx.out (v4.alloc (.cells #[.slice none 0 0, .slice none 0 0] 32)) (hB4.alloc hB4.size _) _ _ _ (hE4.keep (alloc_below v4 (.cells #[.slice none 0 0, .slice none 0 0] 32))) (hS4.keep (alloc_below v4 (.cells #[.slice none 0 0, .slice none 0 0] 32))) (hK4.keep (alloc_below v4 (.cells #[.slice none 0 0, .slice none 0 0] 32))) (Nat.lt_of_lt_of_le hgk4 (alloc_below v4 (.cells #[.slice none 0 0, .slice none 0 0] 32)).size)) ?_; rintro e v5 ⟨sa1, sca, sb1, scb, rfl, hR5, hb5a⟩; have hB5 : Below W1.heap.size W1 v5 := (hB4.alloc hB4.size _).trans (hb5a.mono (hB4.alloc hB4.size _).size); have z5 := HQx v5 hB5; obtain ⟨p0, p1, p2, p3, p4, p5⟩ := boxR (Below.refl _ _) hb5a; have sS := fun u0 u1 : Value => HQx ((v5.setCell ⟨v4.heap.size, 0, none⟩ u0).setCell ⟨v4.heap.size, 1, none⟩ u1) ((hB5.setCell (p := ⟨v4.heap.size, 0, none⟩) hB4.size u0).setCell (p := ⟨v4.heap.size, 1, none⟩) hB4.size u1))))
        all_goals
          go_wp2_with fail
          go_meet
          first
            | exact ⟨_, _, _, _, _, rfl, rfl, rfl, endR_alloc hB5 hR5⟩
            | exact ⟨_, _, _, _, _, rfl, rfl, rfl, endR_set hB5 hR5 (fun b' hb' => nhi hb' p4) p0 p1 (Nat.le_trans hB4.size (Nat.le_refl _)) p5⟩
            | exact ⟨_, _, _, _, _, rfl, rfl, rfl, endR_set hB5 hR5 (fun b' hb' => nhi hb' p4) p0 p1 hB3.size p5⟩
            | exact ⟨_, _, _, _, _, rfl, rfl, rfl, endR_set hB5 hR5 (fun b' hb' => nhi hb' p4) p0 p1 hBd.size p5⟩
      case rest =>
      obtain ⟨B6, sa1, sca, sb1, scb, rfl, rfl, rfl, hE6⟩ := hcut
      obtain ⟨W6, hW6⟩ : ∃ W6, W6 = wc := ⟨_, rfl⟩
      subst hW6
      obtain ⟨hB6, hR6, u0, u1, hs6⟩ := hE6
      have H6 : Hid (∀ W, Below W6.heap.size W6 W → Below W1.heap.size W1 W ∧ W.cell? ⟨B6, 0, none⟩ = some (.slice sa1 A.1.length sca) ∧ W.cell? ⟨B6, 1, none⟩ = some (.slice sb1 A.2.length scb) ∧ ReadG W (.slice sa1 A.1.length sca) (.slice sb1 A.2.length scb) A) := fun W hW => ⟨hB6.trans (hW.mono hB6.size), (hW.cell (p := ⟨B6, 0, none⟩) hs6).trans u0, (hW.cell (p := ⟨B6, 1, none⟩) hs6).trans u1, hR6.keep hW⟩
      obtain ⟨q0, q1, q2, q3, q4⟩ := HF5.out W6 hB6
      have HC6 := (show Hid _ from HC.out W6 hB6)
      clear HCx HCEx HAx HFx HBd hR6 u0 u1 hs6 hB6 HSp
      go_wp2_with fail
      refine Calls.mono HC6.out ?_
      rintro e w7 ⟨g2, gp2, hi2, rfl, hb7, hE7, hS7, hg7, hM7, hh7, hI7⟩
      clear HC6 q0 q1 q2 q3 q4
      -- the graph that is handed over in its box
      obtain ⟨W8, hW8⟩ : ∃ W8, w7.alloc (.cells #[.slice (some ⟨g2, 0, none⟩) len len, .slice (some ⟨gp2, 0, none⟩) lb lb] 32) = W8 := ⟨_, rfl⟩
      have hb8 : Below w7.heap.size w7 W8 := by rw [← hW8]; exact (Below.refl _ _).alloc (Nat.le_refl _) _
      have t0 : W8.cell? ⟨w7.heap.size, 0, none⟩ = some (.slice (some ⟨g2, 0, none⟩) len len) := by rw [← hW8]; simp [go_sem]
      have t1 : W8.cell? ⟨w7.heap.size, 1, none⟩ = some (.slice (some ⟨gp2, 0, none⟩) lb lb) := by rw [← hW8]; simp [go_sem]
      have hs8 : w7.heap.size < W8.heap.size := by rw [← hW8]; simp
      obtain ⟨B8, hB8e⟩ : ∃ B8, w7.heap.size = B8 := ⟨_, rfl⟩
      have hgpl : gp2 < B8 := by rw [← hB8e]; exact hI7.1
      have hgg : g2 ≤ gp2 := by have := hM7.2.2.1; omega
      rw [hB8e] at t0 t1 hs8
      have hB68 : Below W6.heap.size W6 W8 := hb7.trans (hb8.mono hb7.size)
      have HX8 : Hid (∀ W, Below W8.heap.size W8 W → Below W6.heap.size W6 W ∧ W.cell? ⟨B8, 0, none⟩ = some (.slice (some ⟨g2, 0, none⟩) len len) ∧ W.cell? ⟨B8, 1, none⟩ = some (.slice (some ⟨gp2, 0, none⟩) lb lb) ∧ ESl W (some ⟨g2, 0, none⟩) len p ∧ Sl W (some ⟨gp2, 0, none⟩) lb l ∧ EMine W g2 hi2 g2 len p ∧ hi2 ≤ gp2 ∧ MineI W gp2 lb) := fun W hW => ⟨hB68.trans (hW.mono hB68.size), (hW.cell (p := ⟨B8, 0, none⟩) hs8).trans t0, (hW.cell (p := ⟨B8, 1, none⟩) hs8).trans t1, (hE7.keep hb8).keep hW, (hS7.keep hb8).keep hW, (hM7.keep hb8).keep hW, hh7, (hI7.keep hb8).keep hW⟩
      have HCE8 := (show Hid _ from HCE.out W8 (H6.out W8 hB68).1)
      obtain ⟨-, -, q2, q3, q4⟩ := HF5.out W8 (H6.out W8 hB68).1
      have hg6 : W6.heap.size ≤ g2 := hg7
      clear hb7 hb8 t0 t1 hE7 hS7 hM7 hh7 hI7 hB68 hg7
      go_wp2_with fail
      (try rw [hW8])
      (try rw [hB8e])
      refine Calls.mono HCE8.out ?_
      rintro e v9 ⟨gt, rfl, hbv9, hNv9, hgtv, hgtW, hMv9⟩
      have hgt8 : B8 < gt := by omega
      -- the node that is handed over in its box
      obtain ⟨w9, hw9⟩ : ∃ w9, v9.alloc (.cells #[.int .i64 op, .int .i64 n, .slice (some ⟨gt, 0, none⟩) kl kl] 36) = w9 := ⟨_, rfl⟩
      have hb9 : Below v9.heap.size v9 w9 := by rw [← hw9]; exact (Below.refl _ _).alloc (Nat.le_refl _) _
      have t2 : w9.cell? ⟨v9.heap.size, 0, none⟩ = some (.int .i64 op) := by rw [← hw9]; simp [go_sem]
      have t3 : w9.cell? ⟨v9.heap.size, 1, none⟩ = some (.int .i64 n) := by rw [← hw9]; simp [go_sem]
      have t4 : w9.cell? ⟨v9.heap.size, 2, none⟩ = some (.slice (some ⟨gt, 0, none⟩) kl kl) := by rw [← hw9]; simp [go_sem]
      have hs9 : v9.heap.size < w9.heap.size := by rw [← hw9]; simp
      obtain ⟨B9, hB9e⟩ : ∃ B9, v9.heap.size = B9 := ⟨_, rfl⟩
      rw [hB9e] at t2 t3 t4 hs9 hgtv
      have hgtl : gt < w9.heap.size := by omega
      have hM9e : Hid (g2 ≤ w9.heap.size ∧ gp2 < w9.heap.size ∧ B8 < w9.heap.size ∧ gt < B9) := by show _ ∧ _; omega
      have hW69 : Hid (W6.heap.size ≤ w9.heap.size) := by show _ ≤ _; omega
      have hb89 : Below W8.heap.size W8 w9 := hbv9.trans (hb9.mono hbv9.size)
      have HX9 : Hid (∀ W, Below w9.heap.size w9 W → Below W8.heap.size W8 W ∧ Sl W (some ⟨gt, 0, none⟩) kl kids ∧ MineI W gt kl ∧ W.cell? ⟨B9, 0, none⟩ = some (.int .i64 op) ∧ W.cell? ⟨B9, 1, none⟩ = some (.int .i64 n) ∧ W.cell? ⟨B9, 2, none⟩ = some (.slice (some ⟨gt, 0, none⟩) kl kl)) := fun W hW => ⟨hb89.trans (hW.mono hb89.size), (hNv9.keep hb9).keep hW, (hMv9.keep hb9).keep hW, (hW.cell (p := ⟨B9, 0, none⟩) hs9).trans t2, (hW.cell (p := ⟨B9, 1, none⟩) hs9).trans t3, (hW.cell (p := ⟨B9, 2, none⟩) hs9).trans t4⟩
      obtain ⟨x1, x2, x3, x4, x5, x6⟩ := HX9.out w9 (Below.refl _ _)
      obtain ⟨y1, y2, y3, y4, y5, -⟩ := HX8.out w9 x1
      have HI9 := (show Hid _ from HIm.out w9 (H6.out w9 y1).1 _ _ _ y4 y5 x2 hgtl)
      clear HCE8 hb9 hbv9 hNv9 hMv9 hb89 x1 x2 x3 y1 y4 y5 hW8 hB8e q2 q3 q4 t2 t3 t4
      go_wp2_with fail
      (try rw [hw9])
      (try rw [hB9e])
      refine Calls.mono HI9.out ?_
      rintro e w10 ⟨va, vb, rfl, hA10, hb10⟩
      obtain ⟨a1, ca1, b1, cb1, rfl, rfl, -⟩ := hA10.reads
      clear HI9 hw9 hB9e y2 y3 x4 x5 x6
      -- the program's answer in its box
      obtain ⟨W11, hW11⟩ : ∃ W11, w10.alloc (.cells #[.slice a1 A.1.length ca1, .slice b1 A.2.length cb1] 32) = W11 := ⟨_, rfl⟩
      have hb11 : Below w10.heap.size w10 W11 := by rw [← hW11]; exact (Below.refl _ _).alloc (Nat.le_refl _) _
      have v0 : W11.cell? ⟨w10.heap.size, 0, none⟩ = some (.slice a1 A.1.length ca1) := by rw [← hW11]; simp [go_sem]
      have v1 : W11.cell? ⟨w10.heap.size, 1, none⟩ = some (.slice b1 A.2.length cb1) := by rw [← hW11]; simp [go_sem]
      have hs11 : w10.heap.size < W11.heap.size := by rw [← hW11]; simp
      obtain ⟨BG, hBG⟩ : ∃ BG, w10.heap.size = BG := ⟨_, rfl⟩
      have hs910 : w9.heap.size ≤ BG := by rw [← hBG]; exact hb10.size
      have hA11 : AnsI W11 (fun x => w9.heap.size ≤ x ∧ x < BG) (.slice a1 A.1.length ca1) (.slice b1 A.2.length cb1) A := (hA10.map (Nat.le_refl _) (fun _ _ _ => rfl) (fun b hb h => ⟨h, by omega⟩)).map hb11.size (fun b _ hl => hb11.block b hl) (fun _ _ h => h)
      rw [hBG] at v0 v1 hs11
      have hb911 : Below w9.heap.size w9 W11 := hb10.trans (hb11.mono hb10.size)
      have HX11 : Hid (∀ W, KB (fun b => b < w9.heap.size) W11 W → W.cell? ⟨BG, 0, none⟩ = some (.slice a1 A.1.length ca1) ∧ W.cell? ⟨BG, 1, none⟩ = some (.slice b1 A.2.length cb1) ∧ AnsI W (fun x => w9.heap.size ≤ x ∧ x < BG) (.slice a1 A.1.length ca1) (.slice b1 A.2.length cb1) A ∧ BG < W.heap.size) := fun W hW => ⟨(hW.cell (p := ⟨BG, 0, none⟩) hs11 (by show ¬ BG < _; omega)).trans v0, (hW.cell (p := ⟨BG, 1, none⟩) hs11 (by show ¬ BG < _; omega)).trans v1, hA11.map hW.size (fun b hb hl => hW.block b hl (by omega)) (fun _ _ h => h), Nat.lt_of_lt_of_le hs11 hW.size⟩
      have HX12 : Hid (∀ W, Below W11.heap.size W11 W → Below w9.heap.size w9 W) := fun W hW => hb911.trans (hW.mono hb911.size)
      obtain ⟨-, c0, c1, c2⟩ := H6.out W11 (HX8.out W11 (HX9.out W11 hb911).1).1
      have HQ11 := (show Hid _ from HQA.out W11 _ _ _ _ hA11.read c2)
      have HBGs := (show Hid _ from hs11)
      clear hb10 hb11 hA10 hA11 hb911
      go_wp2_with fail
      (try rw [hW11])
      (try rw [hBG])
      refine Calls.mono HQ11.out ?_
      rintro e w12 ⟨rfl, hb12⟩
      have HD12 : Hid (Below W11.heap.size W11 w12) := hb12
      clear HQ11 hb12 hW11 hBG c0 c1 c2 v0 v1 hs11
      go_upto_region 14 with fail
      go_cut [68] from 64 to 68 (fun s wx => s = .bool false ∧ Below w12.heap.size w12 wx)
      case first =>
        have hD12 : Below W11.heap.size W11 w12.drew := HD12.out.drew
        have h812 := (HX9.out _ (HX12.out _ hD12)).1
        obtain ⟨h612, k0, k1, k2, k3, -⟩ := HX8.out _ h812
        obtain ⟨q0, q1, -⟩ := HF5.out _ (H6.out _ h612).1
        have HC12 := (show Hid _ from HC.out w12.drew (H6.out _ h612).1)
        clear h812 h612 k2 k3
        go_region_with (first
          | (go_at_call 9; refine Calls.mono HC12.out ?_; rintro e w13 ⟨g3, gp3, hi3, rfl, hb13, hE13, hS13, -⟩; have hD13 := hD12.trans (hb13.mono hD12.size); have h813 := (HX9.out _ (HX12.out _ hD13)).1; obtain ⟨-, m0, m1, m2, m3, -⟩ := HX8.out _ h813; have HQ13 := (show Hid _ from HQ.out w13 _ _ _ _ m2 m3 hE13 hS13); clear h813 m2 m3 hE13 hS13)
          | (go_at_call 12; refine Calls.mono HQ13.out ?_; rintro e w14 ⟨rfl, hb14⟩; have HD14 : Hid (Below w12.heap.size w12 w14) := (Below.refl _ w12).drew.trans ((hb13.trans (hb14.mono hb13.size)).mono (Nat.le_refl _)); clear hb14 hb13))
        all_goals
          go_wp2_with fail
          go_meet
          exact ⟨rfl, HD14.out⟩
      case rest =>
      obtain ⟨rfl, hcw⟩ := hcut
      obtain ⟨w14, hw14⟩ : ∃ w14, w14 = wc := ⟨_, rfl⟩
      subst hw14
      have HD14 : Hid (Below W11.heap.size W11 w14) := HD12.out.trans (hcw.mono HD12.out.size)
      clear hcw HD12 HQ
      go_upto_region 16 with fail
      go_cut [73] from 69 to 73 (fun s wx => s = .bool false ∧ Below w14.heap.size w14 wx)
      case first =>
        have hD12 : Below W11.heap.size W11 w14.drew := HD14.out.drew
        obtain ⟨h812, -, -, x4, x5, x6⟩ := (HX9.out _ (HX12.out _ hD12))
        obtain ⟨h612, -⟩ := HX8.out _ h812
        obtain ⟨-, -, q2, q3, q4⟩ := HF5.out _ (H6.out _ h612).1
        have HC12 := (show Hid _ from HCE.out w14.drew (H6.out _ h612).1)
        clear h812 h612
        go_region_with (first
          | (go_at_call 10; refine Calls.mono HC12.out ?_; rintro e w15 ⟨gk3, rfl, hb15, hK15, -⟩; have hD13 := hD12.trans (hb15.mono hD12.size); obtain ⟨-, m2, -, m4, m5, m6⟩ := (HX9.out _ (HX12.out _ hD13)); have HQ13 := (show Hid _ from HQE.out w15 _ _ m2 hK15); clear m2 hK15)
          | (go_at_call 13; refine Calls.mono HQ13.out ?_; rintro e w16 ⟨rfl, hb16⟩; have HD16 : Hid (Below w14.heap.size w14 w16) := (Below.refl _ w14).drew.trans ((hb15.trans (hb16.mono hb15.size)).mono (Nat.le_refl _)); clear hb16 hb15))
        all_goals
          go_wp2_with fail
          go_meet
          exact ⟨rfl, HD16.out⟩
      case rest =>
      obtain ⟨rfl, hcw⟩ := hcut
      obtain ⟨w16, hw16⟩ : ∃ w16, w16 = wc := ⟨_, rfl⟩
      subst hw16
      have hD16 : Below W11.heap.size W11 w16 := HD14.out.trans (hcw.mono HD14.out.size)
      have h916 := HX12.out _ hD16
      obtain ⟨h816, -, mN16, -⟩ := HX9.out _ h916
      obtain ⟨h616, k0, k1, -, -, m5, m6, m7⟩ := HX8.out _ h816
      have HMG16 := (show Hid _ from HMG.out w16 _ _ _ m5 m6 m7)
      have H16 : Hid (Below W11.heap.size W11 w16 ∧ Below w9.heap.size w9 w16 ∧ Below W6.heap.size W6 w16 ∧ MineI w16 gt kl) := ⟨hD16, h916, h616, mN16⟩
      clear hcw hD16 h916 h816 mN16 h616 m5 m6 m7 HD14 HQE HMG
      go_wp2_with fail
      refine Calls.mono HMG16.out ?_
      rintro e w17 ⟨rfl, t17⟩
      have hs16 := H16.out.2.1.size
      have hkb17 : KB (fun b => b < w9.heap.size) W11 w17 := (KB.of H16.out.1).trans (T := fun b => g2 ≤ b ∧ b < gp2 + 1) ⟨t17.1, t17.2.1, t17.2.2.1, t17.2.2.2.1, fun b hb hn => t17.2.2.2.2 b hb (by omega)⟩ (fun b _ hb => by have := hM9e.out; omega)
      have h617 : Below W6.heap.size W6 w17 := H16.out.2.2.1.trans ((t17.below (by have := hM9e.out; have := H16.out.2.1.size; omega)).mono hg6)
      have mN17 : MineI w17 gt kl := mineE_block H16.out.2.2.2 t17.2.2.2.1 (t17.2.2.2.2 gt (by omega) (.inr (by omega)))
      have h99 : ∀ o, w17.cell? ⟨B9, o, none⟩ = w16.cell? ⟨B9, o, none⟩ := fun o => World.cell?_of_block (a := ⟨B9, o, none⟩) (t17.2.2.2.2 B9 (by omega) (.inr (by omega)))
      obtain ⟨-, -, -, x4, x5, x6⟩ := HX9.out _ H16.out.2.1
      rw [← h99] at x4 x5 x6
      have HMN17 := (show Hid _ from HMN.out w17 gt mN17)
      have H17 : Hid (KB (fun b => b < w9.heap.size) W11 w17 ∧ Below W6.heap.size W6 w17) := ⟨hkb17, h617⟩
      clear HMG16 t17 hkb17 h617 mN17 H16 k0 k1 HMN hs16 h99
      go_wp2_with fail
      refine Calls.mono HMN17.out ?_
      rintro e w18 ⟨rfl, t18⟩
      have hkb18 : KB (fun b => b < w9.heap.size) W11 w18 := H17.out.1.trans (T := fun b => gt ≤ b ∧ b < gt + 1) ⟨t18.1, t18.2.1, t18.2.2.1, t18.2.2.2.1, fun b hb hn => t18.2.2.2.2 b hb (by omega)⟩ (fun b _ hb => by omega)
      have h618 : Below W6.heap.size W6 w18 := H17.out.2.trans ((t18.below (by have := H17.out.1.size; have := HBGs.out; omega)).mono (by omega))
      obtain ⟨c0, c1, c2, c3⟩ := HX11.out w18 hkb18
      obtain ⟨-, d0, d1, d2⟩ := H6.out w18 h618
      have HQ18 := (show Hid _ from HQA.out w18 _ _ _ _ c2.read d2)
      have H18 : Hid (AnsI w18 (fun x => w9.heap.size ≤ x ∧ x < BG) (.slice a1 A.1.length ca1) (.slice b1 A.2.length cb1) A ∧ Below W6.heap.size W6 w18 ∧ BG < w18.heap.size) := ⟨c2, h618, c3⟩
      have c0' := c0
      have c1' := c1
      clear HMN17 t18 hkb18 h618 H17 c2 c3 d2 x4 x5 x6
      go_wp2_with fail
      refine Calls.mono HQ18.out ?_
      rintro e w19 ⟨rfl, hb19⟩
      have e0 := (hb19.cell (p := ⟨BG, 0, none⟩) H18.out.2.2).trans c0
      have e1 := (hb19.cell (p := ⟨BG, 1, none⟩) H18.out.2.2).trans c1
      have hA19 : AnsI w19 (fun x => w9.heap.size ≤ x ∧ x < BG) (.slice a1 A.1.length ca1) (.slice b1 A.2.length cb1) A := H18.out.1.map hb19.size (fun b _ hl => hb19.block b hl) (fun _ _ h => h)
      have HMA19 := (show Hid _ from HMA.out w19 _ _ _ hA19)
      have H19 : Hid (Below W6.heap.size W6 w19 ∧ BG < w19.heap.size) := ⟨H18.out.2.1.trans (hb19.mono H18.out.2.1.size), Nat.lt_of_lt_of_le H18.out.2.2 hb19.size⟩
      clear HQ18 hb19 hA19 H18 c0 c1 c0' c1' d0 d1 HMA
      go_wp2_with fail
      refine Calls.mono HMA19.out ?_
      rintro e w20 ⟨rfl, hk20, hH20⟩
      have f0 := (hk20.cell (p := ⟨BG, 0, none⟩) H19.out.2 (by show ¬ (_ ∧ BG < BG); omega)).trans e0
      have f1 := (hk20.cell (p := ⟨BG, 1, none⟩) H19.out.2 (by show ¬ (_ ∧ BG < BG); omega)).trans e1
      have h620 : Below W6.heap.size W6 w20 := H19.out.1.trans ((hk20.below (n := w9.heap.size) (fun x _ h => h.1) (by have := H19.out.2; omega)).mono (by have := hW69.out; omega))
      have HHA20 := (show Hid _ from HHA.out w20 _ _ hH20)
      have H20 : Hid (Below W6.heap.size W6 w20 ∧ BG < w20.heap.size ∧ HeldG w20 (.slice a1 A.1.length ca1) (.slice b1 A.2.length cb1) A ∧ w20.cell? ⟨BG, 0, none⟩ = some (.slice a1 A.1.length ca1) ∧ w20.cell? ⟨BG, 1, none⟩ = some (.slice b1 A.2.length cb1)) := ⟨h620, Nat.lt_of_lt_of_le H19.out.2 hk20.size, hH20, f0, f1⟩
      clear HMA19 hk20 hH20 h620 H19 e0 e1
      go_wp2_with fail
      refine Calls.mono HHA20.out ?_
      rintro e w21 ⟨rfl, hb21⟩
      have HBd : Hid (Below w20.heap.size w20 w21) := hb21
      have H20B : Hid (∀ W, Below w20.heap.size w20 W → Below W1.heap.size W1 W) := fun W hW => (H6.out _ (H20.out.1.trans (hW.mono H20.out.1.size))).1
      clear HHA20 hb21 f0 f1
      go_upto_region 31 with fail
      have HCx : Hid (∀ W, Below w20.heap.size w20 W → _) := fun W hW => HC.out W (H20B.out W hW)
      have HCEx : Hid (∀ W, Below w20.heap.size w20 W → _) := fun W hW => HCE.out W (H20B.out W hW)
      have HAx : Hid (∀ W, Below w20.heap.size w20 W → ∀ (g gp gk : Nat), ESl W (some ⟨g, 0, none⟩) len p → Sl W (some ⟨gp, 0, none⟩) lb l → Sl W (some ⟨gk, 0, none⟩) kl kids → gk < W.heap.size → Calls Tryd.prog 11 #[.agg #[.slice (some ⟨g, 0, none⟩) len len, .slice (some ⟨gp, 0, none⟩) lb lb], .agg #[.int .i64 op, .int .i64 n, .slice (some ⟨gk, 0, none⟩) kl kl]] W fun e w' => ∃ sa1 sca sb1 scb, e = .returned (.tuple #[.agg #[.slice sa1 A.1.length sca, .slice sb1 A.2.length scb], .int .i64 C, .bool B]) ∧ Safe w' (fun x => W.heap.size ≤ x) (.slice sa1 A.1.length sca) (.slice sb1 A.2.length scb) A ∧ Below W.heap.size W w') := fun W hW g gp gk h1 h2 h3 h4 => (HIm.out W (H20B.out W hW) g gp gk h1 h2 h3 h4).mono fun e w' ⟨va, vb, r1, r2, r3⟩ => by
        obtain ⟨a', ca', b', cb', f1, f2, -⟩ := r2.reads
        subst f1
        subst f2
        exact ⟨a', ca', b', cb', r1, r2.safe, r3⟩
      have HFx : Hid (∀ W, Below w20.heap.size w20 W → _) := fun W hW => HF5.out W (H20B.out W hW)
      go_cut [17, 18, 19] from 109 to 117 (fun s0 s1 s2 wx => ∃ (bx : Nat) (sa1 : Option Addr) (sca : Nat) (sb1 : Option Addr) (scb : Nat), s0 = .pointer (some ⟨bx, 0, none⟩) ∧ s1 = .int .i64 C ∧ s2 = .bool B ∧ EndR w20 wx bx (.slice sa1 A.1.length sca) (.slice sb1 A.2.length scb) A)
      case first =>
        have hBd : Below w20.heap.size w20 w21.drew := HBd.out.drew
        have hBdA : Below w20.heap.size w20 (w21.drew.alloc (.cells #[.slice none 0 0, .slice none 0 0] 32)) := hBd.alloc hBd.size _
        have HQx := fun W hW => (HFx.out W hW)
        have zD := HQx w21.drew hBd
        have sA := fun o : Obj => HQx (w21.drew.alloc o) (hBd.alloc hBd.size o)
        go_region_held3 (fun w' => w'.cell? ⟨w.heap.size, 0, none⟩ = some (.slice a len cap) ∧ w'.cell? ⟨w.heap.size, 1, none⟩ = some (.slice b lb cb) ∧ w'.cell? ⟨w.heap.size + 1, 0, none⟩ = some (.int .i64 op) ∧ w'.cell? ⟨w.heap.size + 1, 1, none⟩ = some (.int .i64 n) ∧ w'.cell? ⟨w.heap.size + 1, 2, none⟩ = some (.slice ka kl kc))
          (first | assumption | exact sA _ | exact sB _ | exact sC _ | exact sE _ | exact sS _ _)
          (first
          | (go_at_call 9; first
              | (refine Calls.mono (HCx.out w21.drew hBd) ?_; rintro e v3 ⟨g, gp, hi, rfl, hb3, hE3, hS3, -⟩; have hB3 : Below w20.heap.size w20 v3 := hBd.trans (hb3.mono hBd.size); have z3 := HQx v3 hB3; have sB := fun o : Obj => HQx (v3.alloc o) (hB3.alloc hB3.size o))
              | (refine Calls.mono (HCx.out (w21.drew.alloc (.cells #[.slice none 0 0, .slice none 0 0] 32)) hBdA) ?_; rintro e v3 ⟨g, gp, hi, rfl, hb3a, hE3, hS3, -⟩; have hB3 : Below w20.heap.size w20 v3 := hBdA.trans (hb3a.mono hBdA.size); have z3 := HQx v3 hB3))
          | (go_at_call 10; first
              | (refine Calls.mono (HCEx.out v3 hB3) ?_; rintro e v4 ⟨gk, rfl, hb4, hK4, hgk4, -⟩; have hB4 : Below w20.heap.size w20 v4 := hB3.trans (hb4.mono hB3.size); have hE4 := hE3.keep hb4; have hS4 := hS3.keep hb4; have z4 := HQx v4 hB4; have sC := fun o : Obj => HQx (v4.alloc o) (hB4.alloc hB4.size o))
              | (refine Calls.mono (HCEx.out (v3.alloc (.cells #[.slice none 0 0, .slice none 0 0] 32)) (hB3.alloc hB3.size _)) ?_; rintro e v4 ⟨gk, rfl, hb4a, hK4, hgk4, -⟩; have hB4 : Below w20.heap.size w20 v4 := (hB3.alloc hB3.size _).trans (hb4a.mono (hB3.alloc hB3.size _).size); have hE4 := (hE3.keep (alloc_below v3 (.cells #[.slice none 0 0, .slice none 0 0] 32))).keep hb4a; have hS4 := (hS3.keep (alloc_below v3 (.cells #[.slice none 0 0, .slice none 0 0] 32))).keep hb4a; have z4 := HQx v4 hB4))
          | (go_at_call 11; first
              | (refine Calls.mono (HAx.out v4 hB4 _ _ _ hE4 hS4 hK4 hgk4) ?_; rintro e v5 ⟨sa1, sca, sb1, scb, rfl, hR5, hb5⟩; have hB5 : Below w20.heap.size w20 v5 := hB4.trans (hb5.mono hB4.size); have z5 := HQx v5 hB5; first
                  | (revert hb4a; intro hb4a; obtain ⟨p0, p1, p2, p3, p4, p5⟩ := boxR hb4a hb5; have sS := fun u0 u1 : Value => HQx ((v5.setCell ⟨v3.heap.size, 0, none⟩ u0).setCell ⟨v3.heap.size, 1, none⟩ u1) ((hB5.setCell (p := ⟨v3.heap.size, 0, none⟩) hB3.size u0).setCell (p := ⟨v3.heap.size, 1, none⟩) hB3.size u1))
                  | (revert hb3a; intro hb3a; obtain ⟨p0', p1', p2', p3', p4', p5'⟩ := boxR (hb3a.trans (hb4.mono hb3a.size)) hb5; have p0 : v5.cell? ⟨w21.heap.size, 0, none⟩ = some (.slice none 0 0) := p0'; have p1 : v5.cell? ⟨w21.heap.size, 1, none⟩ = some (.slice none 0 0) := p1'; have p2 : v5.frozen? ⟨w21.heap.size, 0, none⟩ = false := p2'; have p3 : v5.frozen? ⟨w21.heap.size, 1, none⟩ = false := p3'; have p4 : w21.heap.size < v4.heap.size := p4'; have p5 : w21.heap.size < v5.heap.size := p5'; have sS := fun u0 u1 : Value => HQx ((v5.setCell ⟨w21.heap.size, 0, none⟩ u0).setCell ⟨w21.heap.size, 1, none⟩ u1) ((hB5.setCell (p := ⟨w21.heap.size, 0, none⟩) hBd.size u0).setCell (p := ⟨w21.heap.size, 1, none⟩) hBd.size u1))
                  | (have sE := fun o : Obj => HQx (v5.alloc o) (hB5.alloc hB5.size o)))
              | (refine Calls.mono (HAx.out (v4.alloc (.cells #[.slice none 0 0, .slice none 0 0] 32)) (hB4.alloc hB4.size _) _ _ _ (hE4.keep (alloc_below v4 (.cells #[.slice none 0 0, .slice none 0 0] 32))) (hS4.keep (alloc_below v4 (.cells #[.slice none 0 0, .slice none 0 0] 32))) (hK4.keep (alloc_below v4 (.cells #[.slice none 0 0, .slice none 0 0] 32))) (Nat.lt_of_lt_of_le hgk4 (alloc_below v4 (.cells #[.slice none 0 0, .slice none 0 0] 32)).size)) ?_; rintro e v5 ⟨sa1, sca, sb1, scb, rfl, hR5, hb5a⟩; have hB5 : Below w20.heap.size w20 v5 := (hB4.alloc hB4.size _).trans (hb5a.mono (hB4.alloc hB4.size _).size); have z5 := HQx v5 hB5; obtain ⟨p0, p1, p2, p3, p4, p5⟩ := boxR (Below.refl _ _) hb5a; have sS := fun u0 u1 : Value => HQx ((v5.setCell ⟨v4.heap.size, 0, none⟩ u0).setCell ⟨v4.heap.size, 1, none⟩ u1) ((hB5.setCell (p := ⟨v4.heap.size, 0, none⟩) hB4.size u0).setCell (p := ⟨v4.heap.size, 1, none⟩) hB4.size u1))))
        all_goals
          go_wp2_with fail
          go_meet
          first
            | exact ⟨_, _, _, _, _, rfl, rfl, rfl, endR_alloc hB5 hR5⟩
            | exact ⟨_, _, _, _, _, rfl, rfl, rfl, endR_set hB5 hR5 (fun b' hb' => nhi hb' p4) p0 p1 (Nat.le_trans hB4.size (Nat.le_refl _)) p5⟩
            | exact ⟨_, _, _, _, _, rfl, rfl, rfl, endR_set hB5 hR5 (fun b' hb' => nhi hb' p4) p0 p1 hB3.size p5⟩
            | exact ⟨_, _, _, _, _, rfl, rfl, rfl, endR_set hB5 hR5 (fun b' hb' => nhi hb' p4) p0 p1 hBd.size p5⟩
      case rest =>
      obtain ⟨B25, a2, ca2, b2, cb2, rfl, rfl, rfl, hE25⟩ := hcut
      obtain ⟨W25, hW25⟩ : ∃ W25, W25 = wc := ⟨_, rfl⟩
      subst hW25
      obtain ⟨hb2025, hR25, x0, x1, hs25⟩ := hE25
      obtain ⟨-, d0, d1, d2⟩ := H6.out _ (H20.out.1.trans (hb2025.mono H20.out.1.size))
      have HQ25 := (show Hid _ from HQA.out W25 _ _ _ _ hR25 d2)
      have H25 : Hid (Below w20.heap.size w20 W25) := hb2025
      clear HCx HCEx HAx HFx HBd hR25 hs25 hb2025 d2 HQA HIm HC HCE
      go_wp2_with fail
      refine Calls.mono HQ25.out ?_
      rintro e w26 ⟨rfl, hb26⟩
      have hb2026 := H25.out.trans (hb26.mono H25.out.size)
      have y0 := (hb2026.cell (p := ⟨BG, 0, none⟩) H20.out.2.1).trans H20.out.2.2.2.1
      have y1 := (hb2026.cell (p := ⟨BG, 1, none⟩) H20.out.2.1).trans H20.out.2.2.2.2
      have HHA26 := (show Hid _ from HHA.out w26 _ _ (H20.out.2.2.1.keep hb2026))
      have H26 := (show Hid _ from H20.out.1.trans (hb2026.mono H20.out.1.size))
      clear HQ25 hb26 hb2026 H25 H20 d0 d1 x0 x1 HHA
      go_wp2_with fail
      refine Calls.mono HHA26.out ?_
      rintro e w27 ⟨rfl, hb27⟩
      have HE := (show Hid _ from (HF.out _ (H6.out _ (H26.out.trans (hb27.mono H26.out.size))).1).1)
      clear HHA26 H26 hb27 HF H6 HX8 HX9 HX11 HX12
      go_wp2
      go_ret
      exact ⟨rfl, HE.out⟩
end Go.Proofs.YtbmgflapagbkcaaDoor
