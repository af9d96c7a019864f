/-
  PROVED HERE: what the model's and the program's GoodPattern answer, at every list of nodes, in a world whose table of arities is laid. No other condition.
-/
import Derived.Test.YtkadanagmahhgaaDoorGood
import Derived.Test.YtkadanagmahhgaaDoorIGoods
namespace Go.Proofs.YtkadanagmahhgaaDoor
open Go.ChangeShapes Go.WideShapes Go.ChangeAt Go.RowKit
set_option linter.unusedVariables false

/-- A good term of seven nodes at most. -/
def patB (l : List (Int × Int)) : Bool := goodB l && decide (l.length ≤ 7)
theorem specPat_any (a : Option Addr) (len cap : Nat) (l : List (Int × Int)) (w : World) (h : NSl w a len l) (hm : len ≤ 9223372036854775807) :
    Calls Tryd.prog 16 #[.slice a len cap] w fun e w' => e = .returned (.bool (patB l)) ∧ Below w.heap.size w w' := by
  have hll := h.1
  have HG := (show Hid _ from specGood_any a len cap l w h hm)
  unfold patB
  by_cases h7 : len ≤ 7
  · rw [decide_eq_true (show l.length ≤ 7 by omega), Bool.and_true]
    have i7 : (len : Int) ≤ 7 := by omega
    generalize goodB l = G at HG ⊢
    clear h hll
    cases G
    all_goals
      go_enter Tryd.func16, Tryd.ntmps16
      go_wp2_with fail
      refine Calls.mono HG.out ?_
      rintro e w2 ⟨rfl, hb2⟩
      go_wp2
      go_ret
      exact ⟨by first | rfl | (simp <;> omega), hb2⟩
  · rw [decide_eq_false (show ¬ l.length ≤ 7 by omega), Bool.and_false]
    have i7 : ¬ (len : Int) ≤ 7 := by omega
    generalize goodB l = G at HG
    clear h hll
    cases G
    all_goals
      go_enter Tryd.func16, Tryd.ntmps16
      go_wp2_with fail
      refine Calls.mono HG.out ?_
      rintro e w2 ⟨rfl, hb2⟩
      go_wp2
      go_ret
      exact ⟨by first | rfl | (simp <;> omega), hb2⟩
theorem implPat_any (a : Option Addr) (len cap : Nat) (l : List (Int × Int)) (w : World) (ht : Tab w) (h : NSl w a len l) (hm : len ≤ 9223372036854775807) :
    Calls Tryd.prog 21 #[.slice a len cap] w fun e w' => e = .returned (.bool (patB l)) ∧ Below w.heap.size w w' := by
  have hll := h.1
  have HG := (show Hid _ from implGood_any a len cap l w ht h hm)
  unfold patB
  by_cases h7 : len ≤ 7
  · rw [decide_eq_true (show l.length ≤ 7 by omega), Bool.and_true]
    have i7 : (len : Int) ≤ 7 := by omega
    generalize goodB l = G at HG ⊢
    clear h hll ht
    go_enter Tryd.func21, Tryd.ntmps21
    go_wp2_with fail
    refine Calls.mono HG.out ?_
    rintro e w2 ⟨rfl, hb2⟩
    go_wp2
    go_ret
    exact ⟨by first | rfl | (simp <;> omega), hb2⟩
  · rw [decide_eq_false (show ¬ l.length ≤ 7 by omega), Bool.and_false]
    have i7 : ¬ (len : Int) ≤ 7 := by omega
    clear h hll ht HG
    go_enter Tryd.func21, Tryd.ntmps21
    go_wp2
    go_ret
    exact ⟨by first | rfl | (simp <;> omega), Below.refl _ _⟩
end Go.Proofs.YtkadanagmahhgaaDoor
