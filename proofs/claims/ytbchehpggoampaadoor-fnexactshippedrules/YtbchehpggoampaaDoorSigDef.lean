/-
  PROVED HERE: the table of signs, as a fact on worlds; plain facts on what is held while a statement is reckoned. No condition.
-/
import Derived.Test.YtbchehpggoampaaDoorTextDefs
import Derived.Test.YtbchehpggoampaaDoorBase
namespace Go.Proofs.YtbchehpggoampaaDoor
open Go.RowKit
set_option linter.unusedVariables false
/-- The table of signs lies as it is laid. -/
def Sig (w : World) : Prop := ∀ i : Nat, i < 11 → w.cell? ⟨1, i, none⟩ = some (.string ⟨(signB (i : Int)).toArray⟩)
theorem heldT_b {A B C D E : Prop} {w2 wp : World} (h : A ∧ B ∧ C ∧ D ∧ E ∧ Below w2.heap.size w2 wp) : Below w2.heap.size w2 wp := h.2.2.2.2.2
theorem heldT_step {A B C D E : Prop} {w2 wp w4 : World} (h : A ∧ B ∧ C ∧ D ∧ E ∧ Below w2.heap.size w2 wp) (hb : Below wp.heap.size wp w4) : Below w2.heap.size w2 w4 := h.2.2.2.2.2.trans (hb.mono h.2.2.2.2.2.size)
end Go.Proofs.YtbchehpggoampaaDoor
