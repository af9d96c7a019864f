/-
  PROVED HERE: what the model's and the program's SameRule answer, at every two rules, in a world whose table of arities is laid. No other condition.
-/
import Derived.Test.YtkadanagmahhgaaDoorS8Same
import Derived.Test.YtkadanagmahhgaaDoorS8Names
namespace Go.Proofs.YtkadanagmahhgaaDoor
open Go.ChangeShapes Go.WideShapes Go.ChangeAt Go.RowKit
set_option linter.unusedVariables false

def sameOk8 (p r p' r' : List (Int × Int)) : Bool := ruleB p r && ruleB p' r'
def sameB8 (p r p' r' : List (Int × Int)) : Bool := sameOk8 p r p' r' && sameS p r p' r'
theorem rule_VR {p r : List (Int × Int)} (h : ruleB p r = true) : (VR p ∧ 1 ≤ p.length ∧ p.length ≤ 7) ∧ VR r ∧ 1 ≤ r.length ∧ r.length ≤ 7 := by
  unfold ruleB at h
  rw [Bool.and_eq_true] at h
  exact ⟨pat_VR h.1, pat_VR h.2⟩
set_option maxHeartbeats 3200000 in
theorem specSame8_any (a b a' b' : Option Addr) (n c m d n' c' m' d' : Nat) (p r p' r' : List (Int × Int)) (w : World) (h1 : NSl w a n p) (h2 : NSl w b m r) (h3 : NSl w a' n' p') (h4 : NSl w b' m' r') (hm1 : n ≤ 9223372036854775807) (hm2 : m ≤ 9223372036854775807) (hm3 : n' ≤ 9223372036854775807) (hm4 : m' ≤ 9223372036854775807) :
    Calls Tryd.prog 5 #[.agg #[.slice a n c, .slice b m d], .agg #[.slice a' n' c', .slice b' m' d']] w fun e w' => e = .returned (.tuple #[.bool (sameB8 p r p' r'), .bool (sameOk8 p r p' r')]) ∧ Below w.heap.size w w' := by
  obtain ⟨W1, hW1⟩ : ∃ W1, (w.alloc (.cells #[.slice a n c, .slice b m d] 30)).alloc (.cells #[.slice a' n' c', .slice b' m' d'] 30) = W1 := ⟨_, rfl⟩
  have hb1 : Below w.heap.size w W1 := by rw [← hW1]; exact ((Below.refl _ _).alloc (Nat.le_refl _) _).alloc (by simp) _
  have hs1 : W1.heap.size = w.heap.size + 2 := by rw [← hW1]; simp
  have n0 : W1.cell? ⟨w.heap.size, 0, none⟩ = some (.slice a n c) := by rw [← hW1]; simp [go_sem]
  have n1 : W1.cell? ⟨w.heap.size, 1, none⟩ = some (.slice b m d) := by rw [← hW1]; simp [go_sem]
  have n2 : W1.cell? ⟨w.heap.size + 1, 0, none⟩ = some (.slice a' n' c') := by rw [← hW1]; simp [go_sem]
  have n3 : W1.cell? ⟨w.heap.size + 1, 1, none⟩ = some (.slice b' m' d') := by rw [← hW1]; simp [go_sem]
  have HF : Hid (∀ W, Below W1.heap.size W1 W → (W.cell? ⟨w.heap.size, 0, none⟩ = some (.slice a n c) ∧ W.cell? ⟨w.heap.size, 1, none⟩ = some (.slice b m d) ∧ W.cell? ⟨w.heap.size + 1, 0, none⟩ = some (.slice a' n' c') ∧ W.cell? ⟨w.heap.size + 1, 1, none⟩ = some (.slice b' m' d')) ∧ Below w.heap.size w W) := fun W hW => ⟨⟨(hW.cell (p := ⟨w.heap.size, 0, none⟩) (by show w.heap.size < _; omega)).trans n0, (hW.cell (p := ⟨w.heap.size, 1, none⟩) (by show w.heap.size < _; omega)).trans n1, (hW.cell (p := ⟨w.heap.size + 1, 0, none⟩) (by show w.heap.size + 1 < _; omega)).trans n2, (hW.cell (p := ⟨w.heap.size + 1, 1, none⟩) (by show w.heap.size + 1 < _; omega)).trans n3⟩, hb1.trans (hW.mono hb1.size)⟩
  have HG : Hid (∀ W, Below W1.heap.size W1 W → Calls Tryd.prog 10 #[.agg #[.slice a n c, .slice b m d]] W fun e w' => e = .returned (.bool (ruleB p r)) ∧ Below W.heap.size W w') := fun W hW => specRule_any a b n c m d p r W ((h1.keep hb1).keep hW) ((h2.keep hb1).keep hW) hm1 hm2
  have HG2 : Hid (∀ W, Below W1.heap.size W1 W → Calls Tryd.prog 10 #[.agg #[.slice a' n' c', .slice b' m' d']] W fun e w' => e = .returned (.bool (ruleB p' r')) ∧ Below W.heap.size W w') := fun W hW => specRule_any a' b' n' c' m' d' p' r' W ((h3.keep hb1).keep hW) ((h4.keep hb1).keep hW) hm3 hm4
  unfold sameB8 sameOk8
  cases hg1 : ruleB p r with
  | false =>
    rw [hg1] at HG
    rw [Bool.false_and, Bool.false_and]
    clear h1 h2 h3 h4 hb1 hs1 HG2
    go_enter Tryd.func5, Tryd.ntmps5
    go_wp2_with fail
    (try rw [hW1])
    refine Calls.mono (HG.out _ (Below.refl _ _)) ?_
    rintro e w2 ⟨rfl, hb2⟩
    have HB2 := (show Hid _ from (HF.out _ hb2).2)
    clear HG hW1 HF hb2
    go_wp2
    go_ret2
    exact ⟨rfl, HB2.out⟩
  | true =>
    rw [hg1] at HG
    rw [Bool.true_and]
    cases hg2 : ruleB p' r' with
    | false =>
      rw [hg2] at HG2
      rw [Bool.false_and]
      clear h1 h2 h3 h4 hb1 hs1
      go_enter Tryd.func5, Tryd.ntmps5
      go_wp2_with fail
      (try rw [hW1])
      refine Calls.mono (HG.out _ (Below.refl _ _)) ?_
      rintro e w2 ⟨rfl, hb2⟩
      obtain ⟨⟨x0, x1, x2, x3⟩, -⟩ := HF.out _ hb2
      have HC2 := (show Hid _ from HG2.out _ hb2)
      have HB := (show Hid _ from hb2)
      clear HG hW1 hb2 HG2
      go_wp2_with fail
      refine Calls.mono HC2.out ?_
      rintro e w3 ⟨rfl, hb3⟩
      have HB3 := (show Hid _ from (HF.out _ (HB.out.trans (hb3.mono HB.out.size))).2)
      clear HC2 HF hb3 HB x0 x1 x2 x3
      go_wp2
      go_ret2
      exact ⟨rfl, HB3.out⟩
    | true =>
      rw [hg2] at HG2
      rw [Bool.true_and]
      obtain ⟨v1, v2⟩ := rule_VR hg1
      obtain ⟨v3, v4⟩ := rule_VR hg2
      have hl1 := h1.1
      have hl2 := h2.1
      have hl3 := h3.1
      have hl4 := h4.1
      have HS : Hid (∀ W, Below W1.heap.size W1 W → Calls Tryd.prog 11 #[.agg #[.slice a n c, .slice b m d], .agg #[.slice a' n' c', .slice b' m' d']] W fun e w' => e = .returned (.bool (sameS p r p' r')) ∧ Below W.heap.size W w') := fun W hW => by
        skip
        exact specNames_any a b a' b' n c m d n' c' m' d' p r p' r' W ((h1.keep hb1).keep hW) ((h2.keep hb1).keep hW) ((h3.keep hb1).keep hW) ((h4.keep hb1).keep hW) v1.1 v2.1 (by omega) (by omega) (by omega) (by omega)
      generalize sameS p r p' r' = V at HS ⊢
      clear h1 h2 h3 h4 hb1 hs1 v1 v2 v3 v4 hl1 hl2 hl3 hl4
      go_enter Tryd.func5, Tryd.ntmps5
      go_wp2_with fail
      (try rw [hW1])
      refine Calls.mono (HG.out _ (Below.refl _ _)) ?_
      rintro e w2 ⟨rfl, hb2⟩
      obtain ⟨⟨x0, x1, x2, x3⟩, -⟩ := HF.out _ hb2
      have HC2 := (show Hid _ from HG2.out _ hb2)
      have HB := (show Hid _ from hb2)
      clear HG hW1 hb2 HG2
      go_wp2_with fail
      refine Calls.mono HC2.out ?_
      rintro e w3 ⟨rfl, hb3⟩
      have hB3 := HB.out.trans (hb3.mono HB.out.size)
      obtain ⟨⟨y0, y1, y2, y3⟩, -⟩ := HF.out _ hB3
      have HS3 := (show Hid _ from HS.out _ hB3)
      have HB3 := (show Hid _ from hB3)
      clear HC2 hb3 HB x0 x1 x2 x3 hB3 HS
      go_wp2_with fail
      refine Calls.mono HS3.out ?_
      rintro e w4 ⟨rfl, hb4⟩
      have HB4 := (show Hid _ from (HF.out _ (HB3.out.trans (hb4.mono HB3.out.size))).2)
      clear HS3 HB3 hb4 HF y0 y1 y2 y3
      go_wp2
      go_ret2
      exact ⟨rfl, HB4.out⟩
set_option maxHeartbeats 3200000 in
theorem implSame8_any (a b a' b' : Option Addr) (n c m d n' c' m' d' : Nat) (p r p' r' : List (Int × Int)) (w : World) (ht : Tab w) (h1 : NSl w a n p) (h2 : NSl w b m r) (h3 : NSl w a' n' p') (h4 : NSl w b' m' r') (hm1 : n ≤ 9223372036854775807) (hm2 : m ≤ 9223372036854775807) (hm3 : n' ≤ 9223372036854775807) (hm4 : m' ≤ 9223372036854775807) :
    Calls Tryd.prog 7 #[.agg #[.slice a n c, .slice b m d], .agg #[.slice a' n' c', .slice b' m' d']] w fun e w' => e = .returned (.tuple #[.bool (sameB8 p r p' r'), .bool (sameOk8 p r p' r')]) ∧ Below w.heap.size w w' := by
  obtain ⟨W1, hW1⟩ : ∃ W1, (w.alloc (.cells #[.slice a n c, .slice b m d] 30)).alloc (.cells #[.slice a' n' c', .slice b' m' d'] 30) = W1 := ⟨_, rfl⟩
  have hb1 : Below w.heap.size w W1 := by rw [← hW1]; exact ((Below.refl _ _).alloc (Nat.le_refl _) _).alloc (by simp) _
  have hs1 : W1.heap.size = w.heap.size + 2 := by rw [← hW1]; simp
  have n0 : W1.cell? ⟨w.heap.size, 0, none⟩ = some (.slice a n c) := by rw [← hW1]; simp [go_sem]
  have n1 : W1.cell? ⟨w.heap.size, 1, none⟩ = some (.slice b m d) := by rw [← hW1]; simp [go_sem]
  have n2 : W1.cell? ⟨w.heap.size + 1, 0, none⟩ = some (.slice a' n' c') := by rw [← hW1]; simp [go_sem]
  have n3 : W1.cell? ⟨w.heap.size + 1, 1, none⟩ = some (.slice b' m' d') := by rw [← hW1]; simp [go_sem]
  have HF : Hid (∀ W, Below W1.heap.size W1 W → (W.cell? ⟨w.heap.size, 0, none⟩ = some (.slice a n c) ∧ W.cell? ⟨w.heap.size, 1, none⟩ = some (.slice b m d) ∧ W.cell? ⟨w.heap.size + 1, 0, none⟩ = some (.slice a' n' c') ∧ W.cell? ⟨w.heap.size + 1, 1, none⟩ = some (.slice b' m' d')) ∧ Below w.heap.size w W) := fun W hW => ⟨⟨(hW.cell (p := ⟨w.heap.size, 0, none⟩) (by show w.heap.size < _; omega)).trans n0, (hW.cell (p := ⟨w.heap.size, 1, none⟩) (by show w.heap.size < _; omega)).trans n1, (hW.cell (p := ⟨w.heap.size + 1, 0, none⟩) (by show w.heap.size + 1 < _; omega)).trans n2, (hW.cell (p := ⟨w.heap.size + 1, 1, none⟩) (by show w.heap.size + 1 < _; omega)).trans n3⟩, hb1.trans (hW.mono hb1.size)⟩
  have HG : Hid (∀ W, Below W1.heap.size W1 W → Calls Tryd.prog 13 #[.agg #[.slice a n c, .slice b m d]] W fun e w' => e = .returned (.bool (ruleB p r)) ∧ Below W.heap.size W w') := fun W hW => implRule_any a b n c m d p r W ((ht.keeps hb1).keeps hW) ((h1.keep hb1).keep hW) ((h2.keep hb1).keep hW) hm1 hm2
  have HG2 : Hid (∀ W, Below W1.heap.size W1 W → Calls Tryd.prog 13 #[.agg #[.slice a' n' c', .slice b' m' d']] W fun e w' => e = .returned (.bool (ruleB p' r')) ∧ Below W.heap.size W w') := fun W hW => implRule_any a' b' n' c' m' d' p' r' W ((ht.keeps hb1).keeps hW) ((h3.keep hb1).keep hW) ((h4.keep hb1).keep hW) hm3 hm4
  unfold sameB8 sameOk8
  cases hg1 : ruleB p r with
  | false =>
    rw [hg1] at HG
    rw [Bool.false_and, Bool.false_and]
    clear h1 h2 h3 h4 hb1 hs1 ht HG2
    go_enter Tryd.func7, Tryd.ntmps7
    go_wp2_with fail
    (try rw [hW1])
    refine Calls.mono (HG.out _ (Below.refl _ _)) ?_
    rintro e w2 ⟨rfl, hb2⟩
    have HB2 := (show Hid _ from (HF.out _ hb2).2)
    clear HG hW1 HF hb2
    go_wp2
    go_ret2
    exact ⟨rfl, HB2.out⟩
  | true =>
    rw [hg1] at HG
    rw [Bool.true_and]
    cases hg2 : ruleB p' r' with
    | false =>
      rw [hg2] at HG2
      rw [Bool.false_and]
      clear h1 h2 h3 h4 hb1 hs1 ht
      go_enter Tryd.func7, Tryd.ntmps7
      go_wp2_with fail
      (try rw [hW1])
      refine Calls.mono (HG.out _ (Below.refl _ _)) ?_
      rintro e w2 ⟨rfl, hb2⟩
      obtain ⟨⟨x0, x1, x2, x3⟩, -⟩ := HF.out _ hb2
      have HC2 := (show Hid _ from HG2.out _ hb2)
      have HB := (show Hid _ from hb2)
      clear HG hW1 hb2 HG2
      go_wp2_with fail
      refine Calls.mono HC2.out ?_
      rintro e w3 ⟨rfl, hb3⟩
      have HB3 := (show Hid _ from (HF.out _ (HB.out.trans (hb3.mono HB.out.size))).2)
      clear HC2 HF hb3 HB x0 x1 x2 x3
      go_wp2
      go_ret2
      exact ⟨rfl, HB3.out⟩
    | true =>
      rw [hg2] at HG2
      rw [Bool.true_and]
      obtain ⟨v1, v2⟩ := rule_VR hg1
      obtain ⟨v3, v4⟩ := rule_VR hg2
      have hl1 := h1.1
      have hl2 := h2.1
      have hl3 := h3.1
      have hl4 := h4.1
      have HS : Hid (∀ W, Below W1.heap.size W1 W → Calls Tryd.prog 14 #[.agg #[.slice a n c, .slice b m d], .agg #[.slice a' n' c', .slice b' m' d']] W fun e w' => e = .returned (.bool (sameS p r p' r')) ∧ Below W.heap.size W w') := fun W hW => by
        rw [same_eq _ _ _ _ v1.1 v2.1 v3.1 v4.1]
        exact implNames_any a b a' b' n c m d n' c' m' d' p r p' r' W ((h1.keep hb1).keep hW) ((h2.keep hb1).keep hW) ((h3.keep hb1).keep hW) ((h4.keep hb1).keep hW) v1.1 v2.1 v3.1 v4.1 (by omega) (by omega) (by omega) (by omega)
      generalize sameS p r p' r' = V at HS ⊢
      clear h1 h2 h3 h4 hb1 hs1 ht v1 v2 v3 v4 hl1 hl2 hl3 hl4
      go_enter Tryd.func7, Tryd.ntmps7
      go_wp2_with fail
      (try rw [hW1])
      refine Calls.mono (HG.out _ (Below.refl _ _)) ?_
      rintro e w2 ⟨rfl, hb2⟩
      obtain ⟨⟨x0, x1, x2, x3⟩, -⟩ := HF.out _ hb2
      have HC2 := (show Hid _ from HG2.out _ hb2)
      have HB := (show Hid _ from hb2)
      clear HG hW1 hb2 HG2
      go_wp2_with fail
      refine Calls.mono HC2.out ?_
      rintro e w3 ⟨rfl, hb3⟩
      have hB3 := HB.out.trans (hb3.mono HB.out.size)
      obtain ⟨⟨y0, y1, y2, y3⟩, -⟩ := HF.out _ hB3
      have HS3 := (show Hid _ from HS.out _ hB3)
      have HB3 := (show Hid _ from hB3)
      clear HC2 hb3 HB x0 x1 x2 x3 hB3 HS
      go_wp2_with fail
      refine Calls.mono HS3.out ?_
      rintro e w4 ⟨rfl, hb4⟩
      have HB4 := (show Hid _ from (HF.out _ (HB3.out.trans (hb4.mono HB3.out.size))).2)
      clear HS3 HB3 hb4 HF y0 y1 y2 y3
      go_wp2
      go_ret2
      exact ⟨rfl, HB4.out⟩
end Go.Proofs.YtkadanagmahhgaaDoor
