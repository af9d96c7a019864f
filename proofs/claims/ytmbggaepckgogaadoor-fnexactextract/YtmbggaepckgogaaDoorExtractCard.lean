/-
  PROVED HERE: the law FnExactExtract holds at every input; the program's and the library's tables and sentinels are tied to the program's text. No other condition.
-/
import Derived.Test.YtmbggaepckgogaaDoorCards
import Derived.Test.YtmbggaepckgogaaDoorTie
import Derived.Test.YtmbggaepckgogaaDoorRun7
import Derived.Test.YtmbggaepckgogaaDoorL10ExtLaw
import Derived.Test.YtmbggaepckgogaaDoorL10LaidB
import Derived.WalkKit
import Derived.ProofKit
import Derived.OpenShut
import Derived.ShutString
import Derived.ChangeOld
import Derived.Below
import Derived.Deep.DeepHandedRow
import Derived.Lib.LaidTab
import Derived.Lib.SmallJoins
import Derived.SevenTiedAt
import Derived.LaidMore
import Derived.MakeChecks
import Derived.Stop.Joined
import Derived.Stop.LaidErr
namespace Go.Proofs.YtmbggaepckgogaaDoor.fnExactExtract
open Go.ChangeShapes Go.WideShapes Go.ChangeAt Go.RowKit
open Go.ChangeMaps (open_string shut_string)
set_option linter.unusedVariables false

theorem own : ownKnob Tryd.prog.godebug = none := by kernel_rfl
theorem laidOut : laidOutB Tryd.prog = true := by kernel_rfl
def datum0 {H : Type} : DataW H := Rows.laid_loop_example_g00694_impl_arities
theorem reads0 {H : Type} (enc : TypeId × Value → H) (W : World) (sp : Nat → Bool) : DataW.trod enc Tryd.prog W 0 sp true 3 86 arCells.toList = some (datum0, []) := by kernel_rfl
def datum1 {H : Type} : DataW H := Rows.laid_loop_example_g00694_impl_opCosts
theorem reads1 {H : Type} (enc : TypeId × Value → H) (W : World) (sp : Nat → Bool) : DataW.trod enc Tryd.prog W 0 sp true 3 86 ocCells.toList = some (datum1, []) := by kernel_rfl

theorem walk (cs0 : Array Value) (z0 : List EN) (y0 : List Int) (a0 b0 : Option Addr) (len0 cap0 lb0 cb0 : Nat) (a1 : Int) (w : World) (w0 : GIn w cs0 z0 y0 a0 b0 len0 cap0 lb0 cb0) (w1 : (Lit.int .i64 a1).wf = true) (hL : laidMetH Tryd.prog Rows.fnExactExtractRow.laid w) :
    Calls Tryd.prog 5 #[.agg cs0, .int .i64 a1] w fun e w' => e = .returned (.bool true) ∧ Below w.heap.size w w' :=
  by
  obtain ⟨rfl, h1, h2, h3, h4, h5⟩ := w0
  exact extractLaw_any a0 b0 len0 cap0 lb0 cb0 z0 y0 a1 w (laidEX hL).1 (laidEX hL).2.1 h1 h2 h5 (by unfold maxLen at h3; omega) (by unfold maxLen at h4; omega)

set_option maxRecDepth 100000 in
theorem contract (H : Type) (enc : TypeId × Value → H) (W : World) (base : Nat) (args : Array Value) (ds gs : List (DataW H)) (before : List MemPlace)
    (hval : ∀ (j : Nat) t v, Tryd.f5.params[j]? = some t → args[j]? = some v → Value.okWide Tryd.prog W .any base t v)
    (hW : DataW.Whole enc Tryd.prog Tryd.f5.params.toList Rows.fnExactExtractSpec.vars false W args.toList ds gs before) (hL : laidMetH Tryd.prog Rows.fnExactExtractRow.laid W) :
    Calls Tryd.prog 5 args W fun e W' => ∃ v, e = .returned v ∧ Rows.fnExactExtractSpec.post enc Tryd.prog Tryd.f5 false true false false W args v W' := by
  have hW' := hW
  obtain ⟨p, q, hA0, hV0, rfl, hfz, hnd⟩ := hW
  have hA : DataW.TrodAll enc Tryd.prog W 0 (fun _ => true) true Tryd.f5.params.toList args.toList ds p := hA0
  rw [Tryd.params5] at hA hval
  obtain ⟨v0, vs0, d0, ds0, p0, q0, hargs, rfl, rfl, h0, r0⟩ := trodAll_cons hA
  obtain ⟨v1, vs1, d1, ds1, p1, q1, rfl, rfl, rfl, h1, r1⟩ := trodAll_cons r0
  obtain ⟨rfl, rfl, rfl⟩ := trodAll_nil r1
  obtain rfl : args = #[v0, v1] := by cases args; simp_all
  have hV : DataW.TrodVars enc Tryd.prog W (fun _ => true) ["loop.example/g00694/impl.arities", "loop.example/g00694/impl.opCosts"] gs q := hV0
  obtain ⟨g, t, cs, fuel, d, p', g', t', cs', fuel', d', p'', rfl, hg, ht, hvar, hd, hg', ht', hvar', hd', rfl⟩ := trodVars_two hV
  obtain rfl := Option.some.inj (gAr.symm.trans hg)
  obtain rfl := Option.some.inj (gArType.symm.trans ht)
  obtain rfl : cs = arCells := Option.some.inj (hvar.symm.trans ((laidEX hL).2.2.2))
  obtain ⟨rfl, rfl⟩ := DataW.Trod.unique (v := .agg arCells) ⟨fuel, hd⟩ ⟨3, reads0 enc W _⟩
  obtain rfl := Option.some.inj (gOc.symm.trans hg')
  obtain rfl := Option.some.inj (gOcType.symm.trans ht')
  obtain rfl : cs' = ocCells := Option.some.inj (hvar'.symm.trans ((laidEX hL).2.2.1))
  obtain ⟨rfl, rfl⟩ := DataW.Trod.unique (v := .agg ocCells) ⟨fuel', hd'⟩ ⟨3, reads1 enc W _⟩
  obtain ⟨cs0, rfl, hcs0⟩ := okWide_struct Tryd.underlying25 (hval 0 25 v0 rfl rfl)
  have k0 := h0
  have lt0 : ∀ x ∈ p0, x.block < W.heap.size := by obtain ⟨m, hm⟩ := k0; exact DataW.trod_lt m _ _ _ hm
  obtain ⟨a0, b0, len0, cap0, lb0, cb0, z0, y0, w0⟩ : ∃ a b len cap lb cb p l, GIn W cs0 p l a b len cap lb cb := by
    obtain ⟨fuel, hf⟩ := h0
    exact graph_in (hcs0.trans cellsGraphL) hf
  obtain ⟨a1, rfl, rfl, rfl, w1⟩ := open_int Tryd.underlying3 (hval 1 3 v1 rfl rfl) h1
  clear hA0 hV0
  refine (walk cs0 z0 y0 a0 b0 len0 cap0 lb0 cb0 a1 W w0 w1 hL).mono fun e W' ⟨he, bel⟩ => ?_
  subst he
  have hvars : ∀ sp : Nat → Bool, DataW.TrodVars enc Tryd.prog W' sp ["loop.example/g00694/impl.arities", "loop.example/g00694/impl.opCosts"] [datum0, datum1] (MemPlace.row ⟨1, 0, none⟩ arCells.size ++ [] ++ (MemPlace.row ⟨0, 0, none⟩ ocCells.size ++ [] ++ [])) := fun sp =>
    ⟨1, 86, arCells, 3, [], (MemPlace.row ⟨0, 0, none⟩ ocCells.size ++ [] ++ []), gAr, gArType, Joins.var_stays gAr hvar bel (Nat.le_refl _), reads0 enc W' sp, ⟨0, 86, ocCells, 3, [], [], gOc, gOcType, Joins.var_stays gOc hvar' bel (Nat.le_refl _), reads1 enc W' sp, rfl, rfl⟩, rfl⟩
  exact ⟨_, rfl, _, _, _, [], _, (MemPlace.row ⟨1, 0, none⟩ arCells.size ++ [] ++ (MemPlace.row ⟨0, 0, none⟩ ocCells.size ++ [] ++ [])), hW', trodAll_mk1 (shut_bool Tryd.underlying4 _), (trodAll_cons_mk (Below.trod laidOut (by kernel_rfl) (of_decide_eq_true (by kernel_rfl)) k0 bel lt0) (trodAll_cons_mk (shut_int Tryd.underlying3 w1) trodAll_mk0)), hvars _, bel.frame _, fun h => by cases h⟩

theorem door_met (os : Os) (args : Array Value) : laidMetH Tryd.prog Rows.fnExactExtractRow.laid ((World.doorLaid Tryd.prog 19 os).forCall (fun _ _ => 0) ⟨#[], args, []⟩).memory :=
  laidMetH_of_parts3 (fuel := 8) (laidMet_of_run' 8 (by kernel_rfl) (by kernel_rfl)) (by kernel_rfl) (by kernel_rfl)

set_option maxRecDepth 100000 in
theorem lifted (os : Os) (started : os.Started) (H : Type) (enc : TypeId × Value → H) :
    ReturnsInHanded {} Tryd.checked os 5 .any (fun w args => (Rows.fnExactExtractSpec.pre enc Tryd.prog Tryd.f5 [] false w args ∧ laidMetH Tryd.prog Rows.fnExactExtractRow.laid w) ∧ sizedMet enc Tryd.prog Tryd.f5 (OpenSpec.ofChange Rows.fnExactExtractSpec) false w args)
      (Rows.fnExactExtractSpec.post enc Tryd.prog Tryd.f5 false true false false) := by
  refine returnsInHanded_of_change_and (C := Tryd.checked) (X := fun w _ => laidMetH Tryd.prog Rows.fnExactExtractRow.laid w) (fun _ _ _ hh h => h.of_heap hh) own started (by kernel_rfl) Tryd.func5
    (ChangeSpec.witness_shaped (enc := enc) (C := Tryd.checked) (os := os) (X := fun w _ => laidMetH Tryd.prog Rows.fnExactExtractRow.laid w) false (World.doorLaid Tryd.prog 19 os) #[.agg #[.slice none 0 0, .slice none 0 0], .int .i64 0] 8 rfl (World.shaped_of_RefB (by kernel_rfl) (by kernel_rfl)) (by kernel_rfl) (by kernel_rfl) (by kernel_rfl) (door_met os _)) ?_
  intro W base args ds gs before hval hW _ _ hL _
  exact contract H enc W base args ds gs before hval hW hL

theorem said : Rows.FnExactExtractSaid :=
  OpenClaim.holds_of_wide 5 Tryd.f5 rfl rfl rfl rfl rfl rfl rfl ⟨rfl, rfl, rfl, rfl, rfl⟩ rfl rfl rfl rfl rfl (by kernel_rfl) Tryd.func5 (by kernel_rfl)
    (of_decide_eq_true (by kernel_rfl)) (by unfold Func.isWrapper; first | (rw [if_pos (by decide +kernel)]; kernel_rfl) | (rw [if_neg (by decide +kernel)]; exact ⟨rfl, rfl⟩))
    (fun os started H enc _ => lifted os started H enc)

theorem plain (f : FuncId) (fn : Func) (hf : Tryd.pinned.checked.prog.funcNamed "loop.example/g00694/laws.FnExactExtract" = some f) (hfn : Tryd.pinned.checked.prog.funcs[f]? = some fn) :
    false = Tryd.pinned.checked.prog.looks [] ∧ ∀ (j : Nat) t, fn.params[j]? = some t → Tryd.pinned.checked.prog.wantsStandIn t = false := by
  obtain rfl : f = 5 := Option.some.inj ((show Tryd.prog.funcNamed "loop.example/g00694/laws.FnExactExtract" = some 5 by kernel_rfl).symm.trans hf) |>.symm
  obtain rfl : fn = Tryd.f5 := (Option.some.inj (Tryd.func5.symm.trans hfn)).symm
  refine ⟨by kernel_rfl, fun j t ht => ?_⟩
  rw [Tryd.params5] at ht
  have hm : t = 25 ∨ t = 3 := by simpa using Array.mem_of_getElem? ht
  rcases hm with rfl | rfl
  · exact (show Tryd.prog.wantsStandIn 25 = false by kernel_rfl)
  · exact (show Tryd.prog.wantsStandIn 3 = false by kernel_rfl)

theorem card : Rows.FnExactExtractCardSaid :=
  Claim7.holds_tied_plain_at .later [] _ _ _ _ said (fun _ h => by cases h) (by kernel_rfl) (fun _ h => by cases h) fnExactExtract_row_tie rfl ⟨rfl, rfl⟩ (by kernel_rfl) rfl plain (by kernel_rfl)
end Go.Proofs.YtmbggaepckgogaaDoor.fnExactExtract
namespace Go.Proofs.YtmbggaepckgogaaDoor
theorem extract_holds : Rows.FnExactExtractCardSaid := fnExactExtract.card
#print axioms extract_holds
end Go.Proofs.YtmbggaepckgogaaDoor
