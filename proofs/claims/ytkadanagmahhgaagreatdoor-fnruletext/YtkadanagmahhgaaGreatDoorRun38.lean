/-
  PROVED HERE: what the list of laid variables of CheckRule's law gives. No condition. a row with listed variables whose walk asks besides that a variable of the library's own holds some number, which the world's shape gives. No condition.
-/
import Derived.Test.YtkadanagmahhgaaGreatDoorRun37
import Derived.Test.YtkadanagmahhgaaGreatDoorRun16
import Derived.Shelf.Vars
import Derived.HandedShaped
import Derived.Handed
import Derived.MakeChecks
import Derived.Stop.Joined
namespace Go.Proofs.YtkadanagmahhgaaGreatDoor
open Go.ChangeShapes Go.WideShapes Go.ChangeAt Go.RowKit
set_option linter.unusedVariables false
/-- All seven variables. -/
theorem laidRC {W : World} (h : laidMetH Tryz.prog Rows.fnExactCheckRuleRow.laid W) : Env W ∧ Tab W ∧ W.var? Tryz.prog "loop.example/g00694/impl.arities" = some arCells ∧ W.var? Tryz.prog "loop.example/g00694/impl.signs" = some sgCells := by
  rw [MakeChecks.laidMetH_plain _ _ _ (by kernel_rfl)] at h
  have hs := sg_head h.tail.tail.tail.tail.tail.tail
  have ha := ar_head h.tail.tail.tail.tail.tail
  exact ⟨⟨pow_head h.tail.tail, errs_heads h.tail.tail.tail h.tail.tail.tail.tail, sig_of hs⟩, tab_of ha, ha, hs⟩
end Go.Proofs.YtkadanagmahhgaaGreatDoor
namespace Go.Proofs.YtkadanagmahhgaaGreatDoor
open Go.ChangeShapes Go.WideShapes Go.ChangeAt Go.RowKit
set_option linter.unusedVariables false

theorem maxL_of {W : World} (h : W.ShapedOpen Tryz.prog) : MaxL W :=
  Go.Proofs.cell_of_shapedOpen_int (g := 2) (t := 3) (zero := #[.int .i64 0]) (k := .i64) h (by decide +kernel) (by kernel_rfl) rfl (by kernel_rfl) (by kernel_rfl) Tryz.underlying3
/-- The way from a walk to a row: what is laid and the world's shape are handed to the walk. -/
theorem row_of_walk {H : Type} {enc : TypeId × Value → H} {a : Assume} {C : Checked} {os : Os} {f : FuncId} {fn : Func} {s : ChangeSpec} {conds : List PathCond} {apart fresh handsOn again : Bool} {L : List (String × DataW Unit)}
    (own : ownKnob C.prog.godebug = none) (started : os.Started) (noInit : C.prog.inits.idxOf? f = none) (hfn : C.prog.funcs[f]? = some fn)
    (some_input : ∃ (w : World) (tape : Tape) (i : Input), w.os = os ∧ (w.forCall tape i).Shaped C.prog ∧ i.vars = [] ∧ Input.okWide C.prog (w.forCall tape i) .any w.heap.size f i ∧
      ((s.pre enc C.prog fn conds apart (w.forCall tape i).memory i.args ∧ laidMetH C.prog L (w.forCall tape i).memory) ∧ sizedMet enc C.prog fn (OpenSpec.ofChange s) apart (w.forCall tape i).memory i.args) ∧ a.holds C.prog (lone (Frame.enter C.prog f i.args .normal) [] (w.forCall tape i)))
    (walk : ∀ (W : World) (base : Nat) (args : Array Value) (ds gs : List (DataW H)) (before : List MemPlace), W.ShapedOpen C.prog → laidMetH C.prog L W →
      (∀ (j : Nat) t v, fn.params[j]? = some t → args[j]? = some v → Value.okWide C.prog W .any base t v) →
      DataW.Whole enc C.prog fn.params.toList s.vars apart W args.toList ds gs before →
      Calls C.prog f args W fun e W' => ∃ v, e = .returned v ∧ s.post enc C.prog fn apart fresh handsOn again W args v W') :
    ReturnsInHanded a C os f .any (fun w args => (s.pre enc C.prog fn conds apart w args ∧ laidMetH C.prog L w) ∧ sizedMet enc C.prog fn (OpenSpec.ofChange s) apart w args) (s.post enc C.prog fn apart fresh handsOn again) :=
  returnsInHanded_of_calls own started noInit some_input fun w tape i _ shape _ fit before _ => by
    obtain ⟨_, _, _, fn2, at2, _, _, _, _, wide⟩ := fit
    cases Option.some.inj (at2.symm.trans hfn)
    obtain ⟨⟨⟨ds, gs, places, whole, _⟩, laid⟩, _⟩ := before
    exact (walk (w.forCall tape i) w.heap.size i.args ds gs places shape (laidMetH.of_heap (by rfl) laid) wide (DataW.Whole.of_heap (w' := w.forCall tape i) (by rfl) whole)).mono fun e W' ⟨v, told, done⟩ => by
      subst told
      exact ChangeSpec.post_blind done
end Go.Proofs.YtkadanagmahhgaaGreatDoor
