/-
  PROVED HERE: what the lists of laid variables give: the tables of powers of ten, of arities, of signs, the two sentinels. No condition. what the lists of laid variables of stage 8 give. No condition. a row with listed variables whose walk asks besides that a variable of the library's own holds some number, which the world's shape gives. No condition.
-/
import Derived.Test.YtbchehpggoampaaDoorIEnv
import Derived.Test.YtbchehpggoampaaDoorIGoods
import Derived.Lib.LaidTab
import Derived.MakeChecks
import Derived.Stop.Joined
import Derived.Stop.LaidErr
import Derived.Test.YtbchehpggoampaaDoorRuleReads
import Derived.Shelf.Vars
import Derived.HandedShaped
import Derived.Handed
namespace Go.Proofs.YtbchehpggoampaaDoor
open Go.ChangeShapes Go.WideShapes Go.ChangeAt Go.RowKit
set_option linter.unusedVariables false
/-- An array of strings that reads as a table holds the table's strings, cell for cell. -/
theorem cells_of_strs {H : Type} {enc : TypeId × Value → H} {P : Program} {w : World} {base : Nat} {sp : Nat → Bool} {held : Bool} {fuel : Nat} {t e : TypeId} {n : Nat} {cs : List Value} {ss : List (List UInt8)} {p : List MemPlace}
    (ht : P.underlying t = some (.array n e)) (he : P.underlying e = some .string) (hce : P.cellsOf e = 1) (hct : P.cellsOf t = n)
    (h : DataW.trod enc P w base sp held fuel t cs = some (.agg (ss.map fun s => .lit (.string s)), p)) : cs = ss.map fun s => Value.string ⟨s.toArray⟩ := by
  cases fuel with
  | zero => simp [DataW.trod] at h
  | succ fuel =>
    simp only [DataW.trod, ht, hce, hct, Nat.mul_one] at h
    split at h
    · rename_i hl
      obtain ⟨xs, hm, hx⟩ := Option.map_eq_some_iff.1 h
      have hxs : xs.map (·.1) = ss.map fun s => (DataW.lit (.string s) : DataW H) := by
        have := congrArg Prod.fst hx
        simpa using this
      have hxl : xs.length = n := by simpa using Lib.mapM_length hm
      have hzl : ss.length = n := by
        have := congrArg List.length hxs
        simp at this
        omega
      apply List.ext_getElem?
      intro i
      by_cases hi : i < n
      · obtain ⟨b, hb, hf⟩ := Lib.mapM_at hm i i (by simp [hi])
        obtain ⟨z, hc, rfl, _⟩ := DataW.trod_string he hf
        have h1 : cs[i]? = some (.string z) := by
          have := congrArg (·[0]?) hc
          simpa [List.getElem?_take, List.getElem?_drop] using this
        have h2 : (xs.map (·.1))[i]? = some (DataW.lit (.string z.data.toList) : DataW H) := by simp [hb]
        rw [hxs] at h2
        simp only [List.getElem?_map, Option.map_eq_some_iff, DataW.lit.injEq, Lit.string.injEq] at h2
        obtain ⟨z', hz', e'⟩ := h2
        rw [h1, List.getElem?_map, hz']
        subst e'
        obtain ⟨⟨l⟩⟩ := z
        rfl
      · rw [List.getElem?_eq_none (by omega), List.getElem?_eq_none (by simp; omega)]
    · cases h
theorem strs_of_head {P : Program} {W : World} {name : String} {ss : List (List UInt8)} {rest : List (String × DataW Unit)} {g : Nat} {t e : TypeId} {n : Nat}
    (hg : P.globalNamed name = some g) (hty : (P.globals[g]?).map (·.type) = some t) (ht : P.underlying t = some (.array n e)) (he : P.underlying e = some .string) (hce : P.cellsOf e = 1) (hct : P.cellsOf t = n)
    (h : laidMet P ((name, .agg (ss.map fun s => .lit (.string s))) :: rest) W) : W.var? P name = some (ss.map fun s => Value.string ⟨s.toArray⟩).toArray := by
  obtain ⟨ps, ⟨g', t', cs, fuel, p, q, hg', ht', hvar, hd, _, _⟩, _⟩ := h
  obtain rfl := Option.some.inj (hg.symm.trans hg')
  obtain rfl := Option.some.inj (hty.symm.trans ht')
  rw [hvar, ← cells_of_strs ht he hce hct hd]

theorem gPowType : (Tryd.prog.globals[3]?).map (·.type) = some 153 := by kernel_rfl
theorem cellsPow : Tryd.prog.cellsOf 153 = 20 := by kernel_rfl
theorem cellsU64 : Tryd.prog.cellsOf 95 = 1 := by kernel_rfl
theorem gESType : (Tryd.prog.globals[6]?).map (·.type) = some 149 := by kernel_rfl
theorem gERType : (Tryd.prog.globals[7]?).map (·.type) = some 149 := by kernel_rfl
theorem cellsEs : Tryd.prog.cellsOf 174 = 1 := by kernel_rfl
theorem cellsStr : Tryd.prog.cellsOf 9 = 1 := by kernel_rfl
theorem star : "*" ++ "errors.errorString" = "*errors.errorString" := by decide
theorem rowEs (u : TypeId) (h : Tryd.prog.typeName? 3 u = some "*errors.errorString") : u = 172 :=
  typeName_ptr_named (nm := "errors.errorString") (by rw [star]; kernel_rfl) (by kernel_rfl) (by decide) u (by rw [star]; exact h)
theorem gAr : Tryd.prog.globalNamed "loop.example/g00694/impl.arities" = some 0 := by kernel_rfl
theorem gArType : (Tryd.prog.globals[0]?).map (·.type) = some 123 := by kernel_rfl
theorem cellsAr : Tryd.prog.cellsOf 123 = 12 := by kernel_rfl
theorem cellsIntT : Tryd.prog.cellsOf 3 = 1 := by kernel_rfl
theorem gSg : Tryd.prog.globalNamed "loop.example/g00694/impl.signs" = some 1 := by kernel_rfl
theorem gSgType : (Tryd.prog.globals[1]?).map (·.type) = some 125 := by kernel_rfl
theorem cellsSg : Tryd.prog.cellsOf 125 = 11 := by kernel_rfl
def arCells : Array Value := #[.int .i64 0, .int .i64 0, .int .i64 0, .int .i64 1, .int .i64 2, .int .i64 2, .int .i64 2, .int .i64 2, .int .i64 2, .int .i64 2, .int .i64 2, .int .i64 3]
def sgCells : Array Value := #[.string ⟨#[]⟩, .string ⟨#[]⟩, .string ⟨#[]⟩, .string ⟨#[]⟩, .string ⟨#[43]⟩, .string ⟨#[45]⟩, .string ⟨#[42]⟩, .string ⟨#[60, 60]⟩, .string ⟨#[47]⟩, .string ⟨#[61, 61]⟩, .string ⟨#[60]⟩]
def sgL : List (List UInt8) := [[], [], [], [], [43], [45], [42], [60, 60], [47], [61, 61], [60]]
/-- What the signs' variable is to its cells. -/
theorem sig_of {W : World} (h : W.var? Tryd.prog "loop.example/g00694/impl.signs" = some sgCells) : Sig W := by
  intro i hi
  have := World.var?_cell gSg h i
  rw [this]
  rcases (show i = 0 ∨ i = 1 ∨ i = 2 ∨ i = 3 ∨ i = 4 ∨ i = 5 ∨ i = 6 ∨ i = 7 ∨ i = 8 ∨ i = 9 ∨ i = 10 by omega) with rfl | rfl | rfl | rfl | rfl | rfl | rfl | rfl | rfl | rfl | rfl <;> rfl
theorem tab_of {W : World} (h : Lib.TabIs Tryd.prog W "loop.example/g00694/impl.arities" .i64 [0, 0, 0, 1, 2, 2, 2, 2, 2, 2, 2, 3]) : Tab W := fun i hi => h.cell gAr i hi
theorem sg_head {W : World} {rest : List (String × DataW Unit)} (h : laidMet Tryd.prog (("loop.example/g00694/impl.signs", Rows.laid_loop_example_g00694_impl_signs) :: rest) W) : W.var? Tryd.prog "loop.example/g00694/impl.signs" = some sgCells :=
  strs_of_head (ss := sgL) gSg gSgType Tryd.underlying125 Tryd.underlying9 cellsStr cellsSg h
theorem ar_head {W : World} {rest : List (String × DataW Unit)} (h : laidMet Tryd.prog (("loop.example/g00694/impl.arities", Rows.laid_loop_example_g00694_impl_arities) :: rest) W) : Lib.TabIs Tryd.prog W "loop.example/g00694/impl.arities" .i64 [0, 0, 0, 1, 2, 2, 2, 2, 2, 2, 2, 3] :=
  Lib.tabIs_of_head gAr gArType Tryd.underlying123 Tryd.underlying3 cellsIntT cellsAr h
theorem pow_head {W : World} {rest : List (String × DataW Unit)} (h : laidMet Tryd.prog (("internal/strconv.uint64pow10", Rows.laid_internal_strconv_uint64pow10) :: rest) W) : Pow W :=
  Lib.tabIs_of_head (zs := Lib.pow10Tab) gPow gPowType Tryd.underlying153 Tryd.underlying95 cellsU64 cellsPow h
theorem errs_heads {W : World} {r1 r2 : List (String × DataW Unit)} (h1 : laidMet Tryd.prog (("strconv.ErrRange", Rows.laid_strconv_ErrRange) :: r1) W) (h2 : laidMet Tryd.prog (("strconv.ErrSyntax", Rows.laid_strconv_ErrSyntax) :: r2) W) : Errs W := by
  refine ⟨?_, ?_⟩
  · obtain ⟨a0, s0, hv0, -, -, -⟩ := laid_sentinel h2 gES gESType Tryd.underlying149 rowEs Tryd.underlying172 Tryd.underlying174 rfl rfl Tryd.underlying9 cellsEs cellsStr
    exact ⟨_, _, hv0⟩
  · obtain ⟨a0, s0, hv0, -, -, -⟩ := laid_sentinel h1 gER gERType Tryd.underlying149 rowEs Tryd.underlying172 Tryd.underlying174 rfl rfl Tryd.underlying9 cellsEs cellsStr
    exact ⟨_, _, hv0⟩
end Go.Proofs.YtbchehpggoampaaDoor
namespace Go.Proofs.YtbchehpggoampaaDoor
open Go.ChangeShapes Go.WideShapes Go.ChangeAt Go.RowKit
set_option linter.unusedVariables false
theorem laidRT {W : World} (h : laidMetH Tryd.prog Rows.fnExactRuleTextRow.laid W) : Pow W ∧ Tab W ∧ Sig W ∧ W.var? Tryd.prog "loop.example/g00694/impl.arities" = some arCells ∧ W.var? Tryd.prog "loop.example/g00694/impl.signs" = some sgCells := by
  rw [MakeChecks.laidMetH_plain _ _ _ (by kernel_rfl)] at h
  have hs := sg_head h.tail.tail.tail.tail
  have ha := ar_head h.tail.tail.tail
  exact ⟨pow_head h.tail.tail, tab_of ha, sig_of hs, ha, hs⟩
/-- All seven variables. -/
theorem laidRR {W : World} (h : laidMetH Tryd.prog Rows.fnExactReadRuleRow.laid W) : Env W ∧ Tab W ∧ W.var? Tryd.prog "loop.example/g00694/impl.arities" = some arCells ∧ W.var? Tryd.prog "loop.example/g00694/impl.signs" = some sgCells := by
  rw [MakeChecks.laidMetH_plain _ _ _ (by kernel_rfl)] at h
  have hs := sg_head h.tail.tail.tail.tail.tail.tail
  have ha := ar_head h.tail.tail.tail.tail.tail
  exact ⟨⟨pow_head h.tail.tail, errs_heads h.tail.tail.tail h.tail.tail.tail.tail, sig_of hs⟩, tab_of ha, ha, hs⟩
theorem laidRA {W : World} (h : laidMetH Tryd.prog Rows.fnExactAxiomAtRow.laid W) : Env W ∧ Tab W ∧ W.var? Tryd.prog "loop.example/g00694/impl.arities" = some arCells ∧ W.var? Tryd.prog "loop.example/g00694/impl.signs" = some sgCells := laidRR h
theorem laidRS {W : World} (h : laidMetH Tryd.prog Rows.fnExactShippedRulesRow.laid W) : Env W ∧ Tab W ∧ W.var? Tryd.prog "loop.example/g00694/impl.arities" = some arCells ∧ W.var? Tryd.prog "loop.example/g00694/impl.signs" = some sgCells := laidRR h
end Go.Proofs.YtbchehpggoampaaDoor
namespace Go.Proofs.YtbchehpggoampaaDoor
open Go.ChangeShapes Go.WideShapes Go.ChangeAt Go.RowKit
set_option linter.unusedVariables false

theorem maxL_of {W : World} (h : W.ShapedOpen Tryd.prog) : MaxL W :=
  Go.Proofs.cell_of_shapedOpen_int (g := 2) (t := 3) (zero := #[.int .i64 0]) (k := .i64) h (by decide +kernel) (by kernel_rfl) rfl (by kernel_rfl) (by kernel_rfl) Tryd.underlying3
/-- The way from a walk to a row: what is laid and the world's shape are handed to the walk. -/
theorem row_of_walk {H : Type} {enc : TypeId × Value → H} {a : Assume} {C : Checked} {os : Os} {f : FuncId} {fn : Func} {s : ChangeSpec} {conds : List PathCond} {apart fresh handsOn again : Bool} {L : List (String × DataW Unit)}
    (own : ownKnob C.prog.godebug = none) (started : os.Started) (noInit : C.prog.inits.idxOf? f = none) (hfn : C.prog.funcs[f]? = some fn)
    (some_input : ∃ (w : World) (tape : Tape) (i : Input), w.os = os ∧ (w.forCall tape i).Shaped C.prog ∧ i.vars = [] ∧ Input.okWide C.prog (w.forCall tape i) .any w.heap.size f i ∧
      ((s.pre enc C.prog fn conds apart (w.forCall tape i).memory i.args ∧ laidMetH C.prog L (w.forCall tape i).memory) ∧ sizedMet enc C.prog fn (OpenSpec.ofChange s) apart (w.forCall tape i).memory i.args) ∧ a.holds C.prog (lone (Frame.enter C.prog f i.args .normal) [] (w.forCall tape i)))
    (walk : ∀ (W : World) (base : Nat) (args : Array Value) (ds gs : List (DataW H)) (before : List MemPlace), W.ShapedOpen C.prog → laidMetH C.prog L W →
      (∀ (j : Nat) t v, fn.params[j]? = some t → args[j]? = some v → Value.okWide C.prog W .any base t v) →
      DataW.Whole enc C.prog fn.params.toList s.vars apart W args.toList ds gs before →
      Calls C.prog f args W fun e W' => ∃ v, e = .returned v ∧ s.post enc C.prog fn apart fresh handsOn again W args v W') :
    ReturnsInHanded a C os f .any (fun w args => (s.pre enc C.prog fn conds apart w args ∧ laidMetH C.prog L w) ∧ sizedMet enc C.prog fn (OpenSpec.ofChange s) apart w args) (s.post enc C.prog fn apart fresh handsOn again) :=
  returnsInHanded_of_calls own started noInit some_input fun w tape i _ shape _ fit before _ => by
    obtain ⟨_, _, _, fn2, at2, _, _, _, _, wide⟩ := fit
    cases Option.some.inj (at2.symm.trans hfn)
    obtain ⟨⟨⟨ds, gs, places, whole, _⟩, laid⟩, _⟩ := before
    exact (walk (w.forCall tape i) w.heap.size i.args ds gs places shape (laidMetH.of_heap (by rfl) laid) wide (DataW.Whole.of_heap (w' := w.forCall tape i) (by rfl) whole)).mono fun e W' ⟨v, told, done⟩ => by
      subst told
      exact ChangeSpec.post_blind done
end Go.Proofs.YtbchehpggoampaaDoor
