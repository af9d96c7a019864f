/-
  PROVED HERE: nothing of its own: the two texts together.
-/
import Derived.Test.YtbchehpggoampaaDoorDoAll
import Derived.Test.YtbchehpggoampaaDoorDoGoodS
import Derived.Test.YtbchehpggoampaaDoorCopy
namespace Go.Proofs.YtbchehpggoampaaDoor
open Go.ChangeShapes Go.WideShapes Go.ChangeAt Go.RowKit
set_option linter.unusedVariables false


end Go.Proofs.YtbchehpggoampaaDoor
