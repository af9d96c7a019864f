/-
  PROVED HERE: the table of arities stays where memory grows. No condition.
-/
import Derived.Test.YtemlghfcfploaaaDoorAr
import Derived.OwnWalk
import Derived.Handy
namespace Go.Proofs.YtemlghfcfploaaaDoor
open Go.ChangeShapes Go.WideShapes Go.ChangeAt Go.RowKit
set_option linter.unusedVariables false
theorem Tab.keeps {w w' : World} (h : Tab w) (hb : Below w.heap.size w w') : Tab w' := fun i hi => by
  have hc := h i hi
  exact (hb.cell (p := ⟨1, i, none⟩) (World.block_lt_of_cell? w _ hc)).trans hc
end Go.Proofs.YtemlghfcfploaaaDoor
