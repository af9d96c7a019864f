/-
  PROVED HERE: what the lists of laid variables of the laws on best costs give: the tables of costs and of arities. No condition.
-/
import Derived.Test.YtmbggaepckgogaaDoorRun8
import Derived.Lib.LaidTab
import Derived.MakeChecks
import Derived.Stop.Joined
import Derived.Stop.LaidErr
namespace Go.Proofs.YtmbggaepckgogaaDoor
open Go.ChangeShapes Go.WideShapes Go.ChangeAt Go.RowKit
set_option linter.unusedVariables false
theorem gAr : Tryd.prog.globalNamed "loop.example/g00694/impl.arities" = some 1 := by kernel_rfl
theorem gArType : (Tryd.prog.globals[1]?).map (·.type) = some 86 := by kernel_rfl
theorem gOc : Tryd.prog.globalNamed "loop.example/g00694/impl.opCosts" = some 0 := by kernel_rfl
theorem gOcType : (Tryd.prog.globals[0]?).map (·.type) = some 86 := by kernel_rfl
theorem cellsAr : Tryd.prog.cellsOf 86 = 12 := by kernel_rfl
theorem cellsIntT : Tryd.prog.cellsOf 3 = 1 := by kernel_rfl
def arCells : Array Value := #[.int .i64 0, .int .i64 0, .int .i64 0, .int .i64 1, .int .i64 2, .int .i64 2, .int .i64 2, .int .i64 2, .int .i64 2, .int .i64 2, .int .i64 2, .int .i64 3]
def ocCells : Array Value := #[.int .i64 0, .int .i64 1, .int .i64 1, .int .i64 2, .int .i64 2, .int .i64 2, .int .i64 4, .int .i64 2, .int .i64 20, .int .i64 2, .int .i64 2, .int .i64 3]
theorem tab_of {W : World} (h : Lib.TabIs Tryd.prog W "loop.example/g00694/impl.arities" .i64 [0, 0, 0, 1, 2, 2, 2, 2, 2, 2, 2, 3]) : Tab W := fun i hi => h.cell gAr i hi
theorem cst_of {W : World} (h : Lib.TabIs Tryd.prog W "loop.example/g00694/impl.opCosts" .i64 [0, 1, 1, 2, 2, 2, 4, 2, 20, 2, 2, 3]) : Cst W := fun i hi => h.cell gOc i hi
theorem ar_head {W : World} {rest : List (String × DataW Unit)} (h : laidMet Tryd.prog (("loop.example/g00694/impl.arities", Rows.laid_loop_example_g00694_impl_arities) :: rest) W) : Lib.TabIs Tryd.prog W "loop.example/g00694/impl.arities" .i64 [0, 0, 0, 1, 2, 2, 2, 2, 2, 2, 2, 3] :=
  Lib.tabIs_of_head gAr gArType Tryd.underlying86 Tryd.underlying3 cellsIntT cellsAr h
theorem oc_head {W : World} {rest : List (String × DataW Unit)} (h : laidMet Tryd.prog (("loop.example/g00694/impl.opCosts", Rows.laid_loop_example_g00694_impl_opCosts) :: rest) W) : Lib.TabIs Tryd.prog W "loop.example/g00694/impl.opCosts" .i64 [0, 1, 1, 2, 2, 2, 4, 2, 20, 2, 2, 3] :=
  Lib.tabIs_of_head gOc gOcType Tryd.underlying86 Tryd.underlying3 cellsIntT cellsAr h
theorem laidBC {W : World} (h : laidMetH Tryd.prog Rows.fnExactBestCostsRow.laid W) : Tab W ∧ Cst W ∧ W.var? Tryd.prog "loop.example/g00694/impl.opCosts" = some ocCells ∧ W.var? Tryd.prog "loop.example/g00694/impl.arities" = some arCells := by
  rw [MakeChecks.laidMetH_plain _ _ _ (by kernel_rfl)] at h
  have hs := oc_head h
  have ha := ar_head h.tail
  exact ⟨tab_of ha, cst_of hs, hs, ha⟩
theorem laidCI {W : World} (h : laidMetH Tryd.prog Rows.fnExactChosenInRow.laid W) : Tab W ∧ Cst W ∧ W.var? Tryd.prog "loop.example/g00694/impl.opCosts" = some ocCells ∧ W.var? Tryd.prog "loop.example/g00694/impl.arities" = some arCells := laidBC h
theorem laidEX {W : World} (h : laidMetH Tryd.prog Rows.fnExactExtractRow.laid W) : Tab W ∧ Cst W ∧ W.var? Tryd.prog "loop.example/g00694/impl.opCosts" = some ocCells ∧ W.var? Tryd.prog "loop.example/g00694/impl.arities" = some arCells := laidBC h
end Go.Proofs.YtmbggaepckgogaaDoor
