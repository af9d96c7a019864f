/-
  PROVED HERE: what the lists of laid variables of stage 8 give. No condition.
-/
import Derived.Test.YtbchehpggoampaaDoorLaidP
namespace Go.Proofs.YtbchehpggoampaaDoor
open Go.ChangeShapes Go.WideShapes Go.ChangeAt Go.RowKit
set_option linter.unusedVariables false
theorem laidRT {W : World} (h : laidMetH Tryd.prog Rows.fnExactRuleTextRow.laid W) : Pow W ∧ Tab W ∧ Sig W ∧ W.var? Tryd.prog "loop.example/g00694/impl.arities" = some arCells ∧ W.var? Tryd.prog "loop.example/g00694/impl.signs" = some sgCells := by
  rw [MakeChecks.laidMetH_plain _ _ _ (by kernel_rfl)] at h
  have hs := sg_head h.tail.tail.tail.tail
  have ha := ar_head h.tail.tail.tail
  exact ⟨pow_head h.tail.tail, tab_of ha, sig_of hs, ha, hs⟩
/-- All seven variables. -/
theorem laidRR {W : World} (h : laidMetH Tryd.prog Rows.fnExactReadRuleRow.laid W) : Env W ∧ Tab W ∧ W.var? Tryd.prog "loop.example/g00694/impl.arities" = some arCells ∧ W.var? Tryd.prog "loop.example/g00694/impl.signs" = some sgCells := by
  rw [MakeChecks.laidMetH_plain _ _ _ (by kernel_rfl)] at h
  have hs := sg_head h.tail.tail.tail.tail.tail.tail
  have ha := ar_head h.tail.tail.tail.tail.tail
  exact ⟨⟨pow_head h.tail.tail, errs_heads h.tail.tail.tail h.tail.tail.tail.tail, sig_of hs⟩, tab_of ha, ha, hs⟩
theorem laidRA {W : World} (h : laidMetH Tryd.prog Rows.fnExactAxiomAtRow.laid W) : Env W ∧ Tab W ∧ W.var? Tryd.prog "loop.example/g00694/impl.arities" = some arCells ∧ W.var? Tryd.prog "loop.example/g00694/impl.signs" = some sgCells := laidRR h
theorem laidRS {W : World} (h : laidMetH Tryd.prog Rows.fnExactShippedRulesRow.laid W) : Env W ∧ Tab W ∧ W.var? Tryd.prog "loop.example/g00694/impl.arities" = some arCells ∧ W.var? Tryd.prog "loop.example/g00694/impl.signs" = some sgCells := laidRR h
end Go.Proofs.YtbchehpggoampaaDoor
