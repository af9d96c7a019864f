/-
  PROVED HERE: the law FnExactShippedRules holds at every input; the program's and the library's tables and sentinels are tied to the program's text. No other condition.
-/
import Derived.Test.YtbchehpggoampaaDoorCards
import Derived.Test.YtbchehpggoampaaDoorTie
import Derived.Test.YtbchehpggoampaaDoorShipRows
import Derived.Test.YtbchehpggoampaaDoorRuleLaid
import Derived.WalkKit
import Derived.ProofKit
import Derived.OpenShut
import Derived.ShutString
import Derived.ChangeOld
import Derived.Below
import Derived.Deep.DeepHandedRow
import Derived.Lib.LaidTab
import Derived.Lib.SmallJoins
import Derived.SevenTiedAt
import Derived.LaidMore
import Derived.MakeChecks
import Derived.Stop.Joined
import Derived.Stop.LaidErr
namespace Go.Proofs.YtbchehpggoampaaDoor.fnExactShippedRules
open Go.ChangeShapes Go.WideShapes Go.ChangeAt Go.RowKit
open Go.ChangeMaps (open_string shut_string)
set_option linter.unusedVariables false

theorem own : ownKnob Tryd.prog.godebug = none := by kernel_rfl
theorem laidOut : laidOutB Tryd.prog = true := by kernel_rfl
def datum0 {H : Type} : DataW H := Rows.laid_loop_example_g00694_impl_signs
theorem reads0 {H : Type} (enc : TypeId × Value → H) (W : World) (sp : Nat → Bool) : DataW.trod enc Tryd.prog W 0 sp true 3 125 sgCells.toList = some (datum0, []) := by kernel_rfl
def datum1 {H : Type} : DataW H := Rows.laid_loop_example_g00694_impl_arities
theorem reads1 {H : Type} (enc : TypeId × Value → H) (W : World) (sp : Nat → Bool) : DataW.trod enc Tryd.prog W 0 sp true 3 123 arCells.toList = some (datum1, []) := by kernel_rfl

theorem walk  (w : World)  (hL : laidMetH Tryd.prog Rows.fnExactShippedRulesRow.laid w) (hM : MaxL w) :
    Calls Tryd.prog 7 #[] w fun e w' => e = .returned (.bool true) ∧ Below w.heap.size w w' :=
  shippedLaw_any w (laidRS hL).1 (laidRS hL).2.1 hM

set_option maxRecDepth 100000 in
theorem contract (H : Type) (enc : TypeId × Value → H) (W : World) (base : Nat) (args : Array Value) (ds gs : List (DataW H)) (before : List MemPlace)
    (hval : ∀ (j : Nat) t v, Tryd.f7.params[j]? = some t → args[j]? = some v → Value.okWide Tryd.prog W .any base t v)
    (hW : DataW.Whole enc Tryd.prog Tryd.f7.params.toList Rows.fnExactShippedRulesSpec.vars false W args.toList ds gs before) (hL : laidMetH Tryd.prog Rows.fnExactShippedRulesRow.laid W) (hSh : W.ShapedOpen Tryd.prog) :
    Calls Tryd.prog 7 args W fun e W' => ∃ v, e = .returned v ∧ Rows.fnExactShippedRulesSpec.post enc Tryd.prog Tryd.f7 false true false false W args v W' := by
  have hW' := hW
  obtain ⟨p, q, hA0, hV0, rfl, hfz, hnd⟩ := hW
  have hA : DataW.TrodAll enc Tryd.prog W 0 (fun _ => true) true Tryd.f7.params.toList args.toList ds p := hA0
  rw [Tryd.params7] at hA hval
  obtain ⟨hargs, rfl, rfl⟩ := trodAll_nil hA
  obtain rfl : args = #[] := by cases args; simp_all
  have hV : DataW.TrodVars enc Tryd.prog W (fun _ => true) ["loop.example/g00694/impl.signs", "loop.example/g00694/impl.arities"] gs q := hV0
  obtain ⟨g, t, cs, fuel, d, p', g', t', cs', fuel', d', p'', rfl, hg, ht, hvar, hd, hg', ht', hvar', hd', rfl⟩ := trodVars_two hV
  obtain rfl := Option.some.inj (gSg.symm.trans hg)
  obtain rfl := Option.some.inj (gSgType.symm.trans ht)
  obtain rfl : cs = sgCells := Option.some.inj (hvar.symm.trans ((laidRS hL).2.2.2))
  obtain ⟨rfl, rfl⟩ := DataW.Trod.unique (v := .agg sgCells) ⟨fuel, hd⟩ ⟨3, reads0 enc W _⟩
  obtain rfl := Option.some.inj (gAr.symm.trans hg')
  obtain rfl := Option.some.inj (gArType.symm.trans ht')
  obtain rfl : cs' = arCells := Option.some.inj (hvar'.symm.trans ((laidRS hL).2.2.1))
  obtain ⟨rfl, rfl⟩ := DataW.Trod.unique (v := .agg arCells) ⟨fuel', hd'⟩ ⟨3, reads1 enc W _⟩
  clear hA0 hV0
  refine (walk  W  hL (maxL_of hSh)).mono fun e W' ⟨he, bel⟩ => ?_
  subst he
  have hvars : ∀ sp : Nat → Bool, DataW.TrodVars enc Tryd.prog W' sp ["loop.example/g00694/impl.signs", "loop.example/g00694/impl.arities"] [datum0, datum1] (MemPlace.row ⟨1, 0, none⟩ sgCells.size ++ [] ++ (MemPlace.row ⟨0, 0, none⟩ arCells.size ++ [] ++ [])) := fun sp =>
    ⟨1, 125, sgCells, 3, [], (MemPlace.row ⟨0, 0, none⟩ arCells.size ++ [] ++ []), gSg, gSgType, Joins.var_stays gSg hvar bel (Nat.le_refl _), reads0 enc W' sp, ⟨0, 123, arCells, 3, [], [], gAr, gArType, Joins.var_stays gAr hvar' bel (Nat.le_refl _), reads1 enc W' sp, rfl, rfl⟩, rfl⟩
  exact ⟨_, rfl, _, _, _, [], _, (MemPlace.row ⟨1, 0, none⟩ sgCells.size ++ [] ++ (MemPlace.row ⟨0, 0, none⟩ arCells.size ++ [] ++ [])), hW', trodAll_mk1 (shut_bool Tryd.underlying4 _), trodAll_mk0, hvars _, bel.frame _, fun h => by cases h⟩

theorem door_met (os : Os) (args : Array Value) : laidMetH Tryd.prog Rows.fnExactShippedRulesRow.laid ((World.doorLaid Tryd.prog 72 os).forCall (fun _ _ => 0) ⟨#[], args, []⟩).memory :=
  laidMetH_of_parts3 (fuel := 8) (laidMet_of_run' 8 (by kernel_rfl) (by kernel_rfl)) (by kernel_rfl) (by kernel_rfl)

set_option maxRecDepth 100000 in
theorem lifted (os : Os) (started : os.Started) (H : Type) (enc : TypeId × Value → H) :
    ReturnsInHanded {} Tryd.checked os 7 .any (fun w args => (Rows.fnExactShippedRulesSpec.pre enc Tryd.prog Tryd.f7 [] false w args ∧ laidMetH Tryd.prog Rows.fnExactShippedRulesRow.laid w) ∧ sizedMet enc Tryd.prog Tryd.f7 (OpenSpec.ofChange Rows.fnExactShippedRulesSpec) false w args)
      (Rows.fnExactShippedRulesSpec.post enc Tryd.prog Tryd.f7 false true false false) := by
  refine row_of_walk (C := Tryd.checked) (L := Rows.fnExactShippedRulesRow.laid) own started (by kernel_rfl) Tryd.func7
    (ChangeSpec.witness_shaped (enc := enc) (C := Tryd.checked) (os := os) (X := fun w _ => laidMetH Tryd.prog Rows.fnExactShippedRulesRow.laid w) false (World.doorLaid Tryd.prog 72 os) #[] 8 rfl (World.shaped_of_RefB (by kernel_rfl) (by kernel_rfl)) (by kernel_rfl) (by kernel_rfl) (by kernel_rfl) (door_met os _)) ?_
  intro W base args ds gs before hSh hL hval hW
  exact contract H enc W base args ds gs before hval hW hL hSh

theorem said : Rows.FnExactShippedRulesSaid :=
  OpenClaim.holds_of_wide 7 Tryd.f7 rfl rfl rfl rfl rfl rfl rfl ⟨rfl, rfl, rfl, rfl, rfl⟩ rfl rfl rfl rfl rfl (by kernel_rfl) Tryd.func7 (by kernel_rfl)
    (of_decide_eq_true (by kernel_rfl)) (by unfold Func.isWrapper; first | (rw [if_pos (by decide +kernel)]; kernel_rfl) | (rw [if_neg (by decide +kernel)]; exact ⟨rfl, rfl⟩))
    (fun os started H enc _ => lifted os started H enc)

theorem plain (f : FuncId) (fn : Func) (hf : Tryd.pinned.checked.prog.funcNamed "loop.example/g00694/laws.FnExactShippedRules" = some f) (hfn : Tryd.pinned.checked.prog.funcs[f]? = some fn) :
    true = Tryd.pinned.checked.prog.looks [] ∧ ∀ (j : Nat) t, fn.params[j]? = some t → Tryd.pinned.checked.prog.wantsStandIn t = false := by
  obtain rfl : f = 7 := Option.some.inj ((show Tryd.prog.funcNamed "loop.example/g00694/laws.FnExactShippedRules" = some 7 by kernel_rfl).symm.trans hf) |>.symm
  obtain rfl : fn = Tryd.f7 := (Option.some.inj (Tryd.func7.symm.trans hfn)).symm
  refine ⟨by kernel_rfl, fun j t ht => ?_⟩
  rw [Tryd.params7] at ht
  simp at ht

theorem card : Rows.FnExactShippedRulesCardSaid :=
  Claim7.holds_tied_plain_at .later [] _ _ _ _ said (fun _ h => by cases h) (by kernel_rfl) (fun _ h => by cases h) fnExactShippedRules_row_tie rfl ⟨rfl, rfl⟩ (by kernel_rfl) rfl plain (by kernel_rfl)
end Go.Proofs.YtbchehpggoampaaDoor.fnExactShippedRules
namespace Go.Proofs.YtbchehpggoampaaDoor
theorem shipped_holds : Rows.FnExactShippedRulesCardSaid := fnExactShippedRules.card
#print axioms shipped_holds
end Go.Proofs.YtbchehpggoampaaDoor
