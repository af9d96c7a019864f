/-
  PROVED HERE: plain facts on what stays where memory grows or one block is written. No condition.
-/
import Derived.Test.YtbchehpggoampaaDoorNodesB
import Derived.Test.YtbchehpggoampaaDoorKeepsM
namespace Go.Proofs.YtbchehpggoampaaDoor
open Go.ChangeShapes Go.WideShapes Go.ChangeAt Go.RowKit
set_option linter.unusedVariables false

theorem Mine.keep {w w' : World} {b off len : Nat} (h : Mine w b off len) (hb : Below w.heap.size w w') : Mine w' b off len := by
  refine ⟨Nat.lt_of_lt_of_le h.1 hb.size, fun i hi => ?_⟩
  have e := hb.block b h.1
  obtain ⟨⟨v, hv⟩, hf⟩ := h.2 i hi
  refine ⟨⟨v, ?_⟩, ?_⟩
  · rw [← hv]; simp only [World.cell?, e]
  · rw [← hf]; simp only [World.frozen?, e]

end Go.Proofs.YtbchehpggoampaaDoor
