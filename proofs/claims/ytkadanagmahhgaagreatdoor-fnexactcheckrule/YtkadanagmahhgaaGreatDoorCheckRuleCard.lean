/-
  PROVED HERE: the law FnExactCheckRule holds at every input; the program's and the library's tables and sentinels are tied to the program's text. No other condition.
-/
import Derived.Test.YtkadanagmahhgaaGreatDoorCards
import Derived.Test.YtkadanagmahhgaaGreatDoorTie
import Derived.Test.YtkadanagmahhgaaGreatDoorRun3
import Derived.Test.YtkadanagmahhgaaGreatDoorRun37
import Derived.Test.YtkadanagmahhgaaGreatDoorRun38
import Derived.WalkKit
import Derived.ProofKit
import Derived.OpenShut
import Derived.ShutString
import Derived.ChangeOld
import Derived.Below
import Derived.Deep.DeepHandedRow
import Derived.Lib.LaidTab
import Derived.Lib.SmallJoins
import Derived.SevenTiedAt
import Derived.LaidMore
import Derived.MakeChecks
import Derived.Stop.Joined
import Derived.Stop.LaidErr
namespace Go.Proofs.YtkadanagmahhgaaGreatDoor.fnExactCheckRule
open Go.ChangeShapes Go.WideShapes Go.ChangeAt Go.RowKit
open Go.ChangeMaps (open_string shut_string)
set_option linter.unusedVariables false

theorem own : ownKnob Tryz.prog.godebug = none := by kernel_rfl
theorem laidOut : laidOutB Tryz.prog = true := by kernel_rfl
def datum0 {H : Type} : DataW H := Rows.laid_loop_example_g00694_impl_arities
theorem reads0 {H : Type} (enc : TypeId × Value → H) (W : World) (sp : Nat → Bool) : DataW.trod enc Tryz.prog W 0 sp true 3 153 arCells.toList = some (datum0, []) := by kernel_rfl
def datum1 {H : Type} : DataW H := Rows.laid_loop_example_g00694_impl_signs
theorem reads1 {H : Type} (enc : TypeId × Value → H) (W : World) (sp : Nat → Bool) : DataW.trod enc Tryz.prog W 0 sp true 3 155 sgCells.toList = some (datum1, []) := by kernel_rfl

theorem walk (cs0 : Array Value) (z0 y0 : List (Int × Int)) (a0 b0 : Option Addr) (len0 cap0 lb0 cb0 : Nat) (w : World) (w0 : RIn w cs0 z0 y0 a0 b0 len0 cap0 lb0 cb0) (hL : laidMetH Tryz.prog Rows.fnExactCheckRuleRow.laid w) (hM : MaxL w) :
    Calls Tryz.prog 4 #[.agg cs0] w fun e w' => e = .returned (.bool true) ∧ Below w.heap.size w w' :=
  by
  obtain ⟨rfl, h1, h2, h3, h4, h5, h6⟩ := w0
  exact checkRuleLaw_any a0 b0 len0 cap0 lb0 cb0 z0 y0 _ (laidRC hL).1 (laidRC hL).2.1 hM h1 h2 (by unfold maxLen at h3; omega) (by unfold maxLen at h4; omega) h5 h6

set_option maxRecDepth 100000 in
theorem contract (H : Type) (enc : TypeId × Value → H) (W : World) (base : Nat) (args : Array Value) (ds gs : List (DataW H)) (before : List MemPlace)
    (hval : ∀ (j : Nat) t v, Tryz.f4.params[j]? = some t → args[j]? = some v → Value.okWide Tryz.prog W .any base t v)
    (hW : DataW.Whole enc Tryz.prog Tryz.f4.params.toList Rows.fnExactCheckRuleSpec.vars false W args.toList ds gs before) (hL : laidMetH Tryz.prog Rows.fnExactCheckRuleRow.laid W) (hSh : W.ShapedOpen Tryz.prog) :
    Calls Tryz.prog 4 args W fun e W' => ∃ v, e = .returned v ∧ Rows.fnExactCheckRuleSpec.post enc Tryz.prog Tryz.f4 false true false false W args v W' := by
  have hW' := hW
  obtain ⟨p, q, hA0, hV0, rfl, hfz, hnd⟩ := hW
  have hA : DataW.TrodAll enc Tryz.prog W 0 (fun _ => true) true Tryz.f4.params.toList args.toList ds p := hA0
  rw [Tryz.params4] at hA hval
  obtain ⟨v0, vs0, d0, ds0, p0, q0, hargs, rfl, rfl, h0, r0⟩ := trodAll_cons hA
  obtain ⟨rfl, rfl, rfl⟩ := trodAll_nil r0
  obtain rfl : args = #[v0] := by cases args; simp_all
  have hV : DataW.TrodVars enc Tryz.prog W (fun _ => true) ["loop.example/g00694/impl.arities", "loop.example/g00694/impl.signs"] gs q := hV0
  obtain ⟨g, t, cs, fuel, d, p', g', t', cs', fuel', d', p'', rfl, hg, ht, hvar, hd, hg', ht', hvar', hd', rfl⟩ := trodVars_two hV
  obtain rfl := Option.some.inj (gAr.symm.trans hg)
  obtain rfl := Option.some.inj (gArType.symm.trans ht)
  obtain rfl : cs = arCells := Option.some.inj (hvar.symm.trans ((laidRC hL).2.2.1))
  obtain ⟨rfl, rfl⟩ := DataW.Trod.unique (v := .agg arCells) ⟨fuel, hd⟩ ⟨3, reads0 enc W _⟩
  obtain rfl := Option.some.inj (gSg.symm.trans hg')
  obtain rfl := Option.some.inj (gSgType.symm.trans ht')
  obtain rfl : cs' = sgCells := Option.some.inj (hvar'.symm.trans ((laidRC hL).2.2.2))
  obtain ⟨rfl, rfl⟩ := DataW.Trod.unique (v := .agg sgCells) ⟨fuel', hd'⟩ ⟨3, reads1 enc W _⟩
  obtain ⟨cs0, rfl, hcs0⟩ := okWide_struct Tryz.underlying36 (hval 0 36 v0 rfl rfl)
  have k0 := h0
  have lt0 : ∀ x ∈ p0, x.block < W.heap.size := by obtain ⟨m, hm⟩ := k0; exact DataW.trod_lt m _ _ _ hm
  obtain ⟨a0, b0, len0, cap0, lb0, cb0, z0, y0, w0⟩ : ∃ a b len cap lb cb p l, RIn W cs0 p l a b len cap lb cb := by
    obtain ⟨fuel, hf⟩ := h0
    exact rule_in (hcs0.trans cellsRuleL) hf
  clear hA0 hV0
  refine (walk cs0 z0 y0 a0 b0 len0 cap0 lb0 cb0 W w0 hL (maxL_of hSh)).mono fun e W' ⟨he, bel⟩ => ?_
  subst he
  have hvars : ∀ sp : Nat → Bool, DataW.TrodVars enc Tryz.prog W' sp ["loop.example/g00694/impl.arities", "loop.example/g00694/impl.signs"] [datum0, datum1] (MemPlace.row ⟨0, 0, none⟩ arCells.size ++ [] ++ (MemPlace.row ⟨1, 0, none⟩ sgCells.size ++ [] ++ [])) := fun sp =>
    ⟨0, 153, arCells, 3, [], (MemPlace.row ⟨1, 0, none⟩ sgCells.size ++ [] ++ []), gAr, gArType, Joins.var_stays gAr hvar bel (Nat.le_refl _), reads0 enc W' sp, ⟨1, 155, sgCells, 3, [], [], gSg, gSgType, Joins.var_stays gSg hvar' bel (Nat.le_refl _), reads1 enc W' sp, rfl, rfl⟩, rfl⟩
  exact ⟨_, rfl, _, _, _, [], _, (MemPlace.row ⟨0, 0, none⟩ arCells.size ++ [] ++ (MemPlace.row ⟨1, 0, none⟩ sgCells.size ++ [] ++ [])), hW', trodAll_mk1 (shut_bool Tryz.underlying4 _), (trodAll_cons_mk (Below.trod laidOut (by kernel_rfl) (of_decide_eq_true (by kernel_rfl)) k0 bel lt0) trodAll_mk0), hvars _, bel.frame _, fun h => by cases h⟩

theorem door_met (os : Os) (args : Array Value) : laidMetH Tryz.prog Rows.fnExactCheckRuleRow.laid ((World.doorLaid Tryz.prog 72 os).forCall (fun _ _ => 0) ⟨#[], args, []⟩).memory :=
  laidMetH_of_parts3 (fuel := 8) (laidMet_of_run' 8 (by kernel_rfl) (by kernel_rfl)) (by kernel_rfl) (by kernel_rfl)

set_option maxRecDepth 100000 in
theorem lifted (os : Os) (started : os.Started) (H : Type) (enc : TypeId × Value → H) :
    ReturnsInHanded {} Tryz.checked os 4 .any (fun w args => (Rows.fnExactCheckRuleSpec.pre enc Tryz.prog Tryz.f4 [] false w args ∧ laidMetH Tryz.prog Rows.fnExactCheckRuleRow.laid w) ∧ sizedMet enc Tryz.prog Tryz.f4 (OpenSpec.ofChange Rows.fnExactCheckRuleSpec) false w args)
      (Rows.fnExactCheckRuleSpec.post enc Tryz.prog Tryz.f4 false true false false) := by
  refine row_of_walk (C := Tryz.checked) (L := Rows.fnExactCheckRuleRow.laid) own started (by kernel_rfl) Tryz.func4
    (ChangeSpec.witness_shaped (enc := enc) (C := Tryz.checked) (os := os) (X := fun w _ => laidMetH Tryz.prog Rows.fnExactCheckRuleRow.laid w) false (World.doorLaid Tryz.prog 72 os) #[.agg #[.slice none 0 0, .slice none 0 0]] 8 rfl (World.shaped_of_RefB (by kernel_rfl) (by kernel_rfl)) (by kernel_rfl) (by kernel_rfl) (by kernel_rfl) (door_met os _)) ?_
  intro W base args ds gs before hSh hL hval hW
  exact contract H enc W base args ds gs before hval hW hL hSh

theorem said : Rows.FnExactCheckRuleSaid :=
  OpenClaim.holds_of_wide 4 Tryz.f4 rfl rfl rfl rfl rfl rfl rfl ⟨rfl, rfl, rfl, rfl, rfl⟩ rfl rfl rfl rfl rfl (by kernel_rfl) Tryz.func4 (by kernel_rfl)
    (of_decide_eq_true (by kernel_rfl)) (by unfold Func.isWrapper; first | (rw [if_pos (by decide +kernel)]; kernel_rfl) | (rw [if_neg (by decide +kernel)]; exact ⟨rfl, rfl⟩))
    (fun os started H enc _ => lifted os started H enc)

theorem plain (f : FuncId) (fn : Func) (hf : Tryz.pinned.checked.prog.funcNamed "loop.example/g00694/laws.FnExactCheckRule" = some f) (hfn : Tryz.pinned.checked.prog.funcs[f]? = some fn) :
    true = Tryz.pinned.checked.prog.looks [] ∧ ∀ (j : Nat) t, fn.params[j]? = some t → Tryz.pinned.checked.prog.wantsStandIn t = false := by
  obtain rfl : f = 4 := Option.some.inj ((show Tryz.prog.funcNamed "loop.example/g00694/laws.FnExactCheckRule" = some 4 by kernel_rfl).symm.trans hf) |>.symm
  obtain rfl : fn = Tryz.f4 := (Option.some.inj (Tryz.func4.symm.trans hfn)).symm
  refine ⟨by kernel_rfl, fun j t ht => ?_⟩
  rw [Tryz.params4] at ht
  have hm : t = 36 := by simpa using Array.mem_of_getElem? ht
  obtain rfl := hm
  exact (show Tryz.prog.wantsStandIn 36 = false by kernel_rfl)

theorem card : Rows.FnExactCheckRuleCardSaid :=
  Claim7.holds_tied_plain_at .later [] _ _ _ _ said (fun _ h => by cases h) (by kernel_rfl) (fun _ h => by cases h) fnExactCheckRule_row_tie rfl ⟨rfl, rfl⟩ (by kernel_rfl) rfl plain (by kernel_rfl)
end Go.Proofs.YtkadanagmahhgaaGreatDoor.fnExactCheckRule
namespace Go.Proofs.YtkadanagmahhgaaGreatDoor
theorem checkRule_holds : Rows.FnExactCheckRuleCardSaid := fnExactCheckRule.card
#print axioms checkRule_holds
end Go.Proofs.YtkadanagmahhgaaGreatDoor
