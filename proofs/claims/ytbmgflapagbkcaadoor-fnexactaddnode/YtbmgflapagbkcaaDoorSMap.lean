/-
  PROVED HERE: how the program's shapes of nodes lie in a map, and what looking up, storing and deleting do to it. No condition.
-/
import Derived.Test.YtbmgflapagbkcaaDoorLists
import Derived.Test.YtbmgflapagbkcaaDoorRows
import Derived.WideKeyEntry
import Derived.DeepKeys4
import Derived.Maps.OwnSet
import Derived.Maps.RangeRun
namespace Go.Proofs.YtbmgflapagbkcaaDoor
open Go.ChangeShapes Go.WideShapes Go.ChangeAt Go.RowKit
open Go.MapKept Go.ChangeMaps
set_option linter.unusedVariables false

theorem laidOutS : laidOutB Tryd.prog = true := by kernel_rfl
theorem shLaw : WideMaps.KeyLaw Tryd.prog 88 := deep_law_laid laidOutS (m := 3) (by omega) (of_decide_eq_true (by kernel_rfl)) (by kernel_rfl) (by kernel_rfl)
/-- What makes a shape: op, number, three kids. -/
abbrev Sh := Int × Int × Int × Int × Int
def shV (e : Sh) : Value := .agg #[.int .i64 e.1, .int .i64 e.2.1, .int .i64 e.2.2.1, .int .i64 e.2.2.2.1, .int .i64 e.2.2.2.2]
def ShIn (e : Sh) : Prop := InI e.1 ∧ InI e.2.1 ∧ InI e.2.2.1 ∧ InI e.2.2.2.1 ∧ InI e.2.2.2.2
theorem shV_inj {e f : Sh} (h : shV e = shV f) : e = f := by
  obtain ⟨o, n, a, b, c⟩ := e
  obtain ⟨o', n', a', b', c'⟩ := f
  simp only [shV, Value.agg.injEq, Array.mk.injEq, List.cons.injEq, Value.int.injEq, true_and, and_true] at h
  obtain ⟨rfl, rfl, rfl, rfl, rfl⟩ := h
  rfl
theorem wf_ofS {x : Int} (h : InI x) : (Lit.int .i64 x).wf = true := by
  unfold InI at h
  have e1 : IntKind.i64.min = -9223372036854775808 := by decide
  have e2 : IntKind.i64.max = 9223372036854775807 := by decide
  simp only [Lit.wf, Bool.and_eq_true, decide_eq_true_eq]
  omega
theorem keyTypeS : Tryd.prog.keyType 88 = true := by kernel_rfl
theorem cellsSh : Tryd.prog.cellsOf 88 = 5 := by kernel_rfl
theorem cellsK3 : Tryd.prog.cellsOf 86 = 3 := by kernel_rfl
theorem cellsIntSh : Tryd.prog.cellsOf 3 = 1 := by kernel_rfl
theorem cellsI64Sh : Tryd.prog.cellsOf 2 = 1 := by kernel_rfl
set_option maxRecDepth 20000 in
theorem sh_some {e : Sh} (h : ShIn e) : ∃ l, keyOf Tryd.prog 88 (shV e) = some l := by
  obtain ⟨o, n, a, b, c⟩ := e
  obtain ⟨h1, h2, h3, h4, h5⟩ := h
  simp only at h1 h2 h3 h4 h5
  have w1 := wf_ofS h1
  have w2 := wf_ofS h2
  have w3 := wf_ofS h3
  have w4 := wf_ofS h4
  have w5 := wf_ofS h5
  have hf : (shV (o, n, a, b, c)).formed Tryd.prog 88 = true := by rfl
  obtain ⟨m, hm⟩ : ∃ m, Tryd.prog.types.size = m + 2 := ⟨Tryd.prog.types.size - 2, by have : 1 < Tryd.prog.types.size := of_decide_eq_true (by kernel_rfl); omega⟩
  have e1 : ∀ (k : Nat) (x : Int), (Lit.int .i64 x).wf = true → Tryd.prog.keyLits (k + 1) 3 [.int .i64 x] = some [.int .i64 x] := fun k x hx => by simp [Program.keyLits, Tryd.underlying3, hx]
  have e2 : ∀ (k : Nat) (x : Int), (Lit.int .i64 x).wf = true → Tryd.prog.keyLits (k + 1) 2 [.int .i64 x] = some [.int .i64 x] := fun k x hx => by simp [Program.keyLits, Tryd.underlying2, hx]
  have e3 : Tryd.prog.keyLits (m + 2) 86 [.int .i64 a, .int .i64 b, .int .i64 c] = some [.int .i64 a, .int .i64 b, .int .i64 c] := by
    unfold Program.keyLits
    simp only [Tryd.underlying86, cellsK3, cellsIntSh]
    rw [if_pos (show ([.int .i64 a, .int .i64 b, .int .i64 c] : List Value).length = 3 from rfl), show List.range 3 = [0, 1, 2] from rfl]
    have f0 : Tryd.prog.keyLits (m + 1) 3 (([.int .i64 a, .int .i64 b, .int .i64 c] : List Value).drop (0 * 1) |>.take 1) = some [.int .i64 a] := e1 m a w3
    have f1 : Tryd.prog.keyLits (m + 1) 3 (([.int .i64 a, .int .i64 b, .int .i64 c] : List Value).drop (1 * 1) |>.take 1) = some [.int .i64 b] := e1 m b w4
    have f2 : Tryd.prog.keyLits (m + 1) 3 (([.int .i64 a, .int .i64 b, .int .i64 c] : List Value).drop (2 * 1) |>.take 1) = some [.int .i64 c] := e1 m c w5
    simp only [List.mapM_cons, List.mapM_nil, f0, f1, f2]
    rfl
  have hl : Tryd.prog.keyLits (Tryd.prog.types.size + 1) 88 (shV (o, n, a, b, c)).cells.toList = some [.int .i64 o, .int .i64 n, .int .i64 a, .int .i64 b, .int .i64 c] := by
    have hc : (shV (o, n, a, b, c)).cells.toList = [.int .i64 o, .int .i64 n, .int .i64 a, .int .i64 b, .int .i64 c] := rfl
    rw [hc, hm]
    unfold Program.keyLits
    simp only [Tryd.underlying88, cellsSh]
    rw [if_pos ⟨rfl, by simp⟩]
    have f0 : Tryd.prog.keyLits (m + 2) 3 (([.int .i64 o, .int .i64 n, .int .i64 a, .int .i64 b, .int .i64 c] : List Value).drop 0 |>.take 1) = some [.int .i64 o] := e1 (m + 1) o w1
    have f1 : Tryd.prog.keyLits (m + 2) 2 (([.int .i64 o, .int .i64 n, .int .i64 a, .int .i64 b, .int .i64 c] : List Value).drop 1 |>.take 1) = some [.int .i64 n] := e2 (m + 1) n w2
    have f2 : Tryd.prog.keyLits (m + 2) 86 (([.int .i64 o, .int .i64 n, .int .i64 a, .int .i64 b, .int .i64 c] : List Value).drop 2 |>.take 3) = some [.int .i64 a, .int .i64 b, .int .i64 c] := e3
    simp only [List.mapM_cons, List.mapM_nil, f0, f1, f2, cellsK3, cellsIntSh, cellsI64Sh]
    rfl
  refine ⟨.string (keyBytes [.int .i64 o, .int .i64 n, .int .i64 a, .int .i64 b, .int .i64 c]), ?_⟩
  unfold keyOf
  rw [Tryd.underlying88]
  simp only [keyTypeS, hf, hl, Bool.and_self, if_pos, Option.map_some]
/-- Block b is a map from shapes to numbers. -/
def SMap (w : World) (b : Nat) (f : Sh → Option Int) : Prop := ∃ es clock, w.heap[b]? = some (.map es clock) ∧ Stamped es clock ∧ (∀ x ∈ es.toList, ∃ e v, x.key = shV e ∧ x.val = .int .i64 v ∧ ShIn e ∧ f e = some v) ∧ ∀ e v, f e = some v → ∃ x ∈ es.toList, x.key = shV e
theorem SMap.block {w w' : World} {b : Nat} {f : Sh → Option Int} (h : SMap w b f) (hb : w'.heap[b]? = w.heap[b]?) : SMap w' b f := by
  obtain ⟨es, clock, h1, h2, h3, h4⟩ := h
  exact ⟨es, clock, hb.trans h1, h2, h3, h4⟩
theorem SMap.lt {w : World} {b : Nat} {f : Sh → Option Int} (h : SMap w b f) : b < w.heap.size := by
  obtain ⟨es, clock, h1, _⟩ := h
  exact (Array.getElem?_eq_some_iff.1 h1).1
theorem SMap.keep {w w' : World} {b : Nat} {f : Sh → Option Int} (h : SMap w b f) (hb : Below w.heap.size w w') : SMap w' b f := h.block (hb.block b h.lt)
theorem smap_empty {w : World} {b clock : Nat} (h : w.heap[b]? = some (.map #[] clock)) : SMap w b fun _ => none :=
  ⟨#[], clock, h, (stamped_iff _ _).2 ⟨fun x hx => by simp at hx, by simp, by simp⟩, fun x hx => by simp at hx, fun e v h => by cases h⟩
/-- Where a key is. -/
theorem smap_find {w : World} {es : Array MapEntry} {f : Sh → Option Int} (h3 : ∀ x ∈ es.toList, ∃ e v, x.key = shV e ∧ x.val = .int .i64 v ∧ ShIn e ∧ f e = some v) (h4 : ∀ e v, f e = some v → ∃ x ∈ es.toList, x.key = shV e) {e : Sh} (he : ShIn e) :
    ((Instr.findKey 88 (shV e) es.toList).run Tryd.prog w = .ok none w ∧ (∀ x ∈ es.toList, x.key ≠ shV e) ∧ f e = none) ∨
    ∃ j x v, (Instr.findKey 88 (shV e) es.toList).run Tryd.prog w = .ok (some (j, .int .i64 v)) w ∧ es.toList[j]? = some x ∧ x.key = shV e ∧ x.val = .int .i64 v ∧ f e = some v := by
  obtain ⟨l, hl⟩ := sh_some he
  have hall : ∀ x ∈ es.toList, ∃ l, keyOf Tryd.prog 88 x.key = some l := fun x hx => by
    obtain ⟨e', v, k1, _, k3, _⟩ := h3 x hx
    rw [k1]; exact sh_some k3
  rcases shLaw.find w hl es.toList hall with ⟨r1, r2⟩ | ⟨j, x, r1, r2, r3⟩
  · refine .inl ⟨r1, r2, ?_⟩
    cases hf : f e with
    | none => rfl
    | some v =>
      obtain ⟨x, hx, hxe⟩ := h4 e v hf
      exact absurd hxe (r2 x hx)
  · obtain ⟨e', v, k1, k2, k3, k4⟩ := h3 x (List.mem_of_getElem? r2)
    have := shV_inj (k1.symm.trans r3)
    subst this
    exact .inr ⟨j, x, v, by rw [r1, k2], r2, r3, k2, k4⟩
theorem zeroIntSh (w : World) : (zeroValue 3).run Tryd.prog w = .ok (.int .i64 0) w := by kernel_rfl
/-- What is told of a key. -/
def told (o : Option Int) : Value := match o with | some v => .tuple #[.int .i64 v, .bool true] | none => .tuple #[.int .i64 0, .bool false]
theorem SMap.lookup {w : World} {b : Nat} {f : Sh → Option Int} (h : SMap w b f) {e : Sh} (he : ShIn e) : (Instr.lookup 83 (.map (some b)) (shV e) true).run Tryd.prog w = .ok (told (f e)) w := by
  obtain ⟨es, clock, h1, h2, h3, h4⟩ := h
  obtain ⟨l, hl⟩ := sh_some he
  rcases smap_find (w := w) h3 h4 he with ⟨r1, r2, r3⟩ | ⟨j, x, v, r1, r2, r3, r4, r5⟩
  · rw [r3]
    simp [told, Instr.lookup, run_underlying Tryd.underlying83, MapKept.run_getObj_map h1, shLaw.check w _ hl, r1, Result.andThen]
  · rw [r5]
    simp [told, Instr.lookup, run_underlying Tryd.underlying83, MapKept.run_getObj_map h1, shLaw.check w _ hl, r1, Result.andThen]
/-- A key's number set. -/
def setS (f : Sh → Option Int) (e : Sh) (o : Option Int) : Sh → Option Int := fun e' => if e' = e then o else f e'
theorem SMap.store {w : World} {b : Nat} {f : Sh → Option Int} (h : SMap w b f) {e : Sh} (he : ShIn e) (v : Int) :
    ∃ o : Obj, (Instr.mapUpdate 83 (.map (some b)) (shV e) (.int .i64 v)).run Tryd.prog w = .ok () (setBlock w b o) ∧ ∀ w3 : World, w3.heap[b]? = some o → SMap w3 b (setS f e (some v)) := by
  obtain ⟨es, clock, h1, h2, h3, h4⟩ := h
  obtain ⟨l, hl⟩ := sh_some he
  rcases smap_find (w := w) h3 h4 he with ⟨r1, r2, r3⟩ | ⟨j, y, u, r1, r2, r3, r4, r5⟩
  · refine ⟨.map (es.push ⟨shV e, .int .i64 v, clock⟩) (clock + 1), ?_, fun w3 hw3 => ⟨_, _, hw3, stamped_push h2 r2, fun x hx => ?_, fun e' v' h' => ?_⟩⟩
    · simp [Instr.mapUpdate, run_underlying Tryd.underlying83, MapKept.run_getObj_map h1, shLaw.check w false hl, r1, MapKept.run_setObj_map _ h1, Result.andThen, setBlock]
    · simp only [Array.toList_push, List.mem_append, List.mem_singleton] at hx
      rcases hx with hx | rfl
      · obtain ⟨e', v', k1, k2, k3, k4⟩ := h3 x hx
        refine ⟨e', v', k1, k2, k3, ?_⟩
        unfold setS
        rw [if_neg (fun e1 => r2 x hx (by rw [k1, e1])), k4]
      · exact ⟨e, v, rfl, rfl, he, by unfold setS; rw [if_pos rfl]⟩
    · unfold setS at h'
      by_cases e1 : e' = e
      · exact ⟨⟨shV e, .int .i64 v, clock⟩, by simp, by rw [e1]⟩
      · rw [if_neg e1] at h'
        obtain ⟨x, hx, hxe⟩ := h4 e' v' h'
        exact ⟨x, by simp [hx], hxe⟩
  · have hj : es[j]? = some y := by simpa using r2
    have ht : (es.modify j (fun e' => { e' with key := shV e, val := .int .i64 v })).toList = es.toList.set j { y with key := shV e, val := .int .i64 v } := by
      rw [Array.toList_modify, modify_eq_set _ _ _ _ r2]
    refine ⟨.map (es.modify j (fun e' => { e' with key := shV e, val := .int .i64 v })) clock, ?_, fun w3 hw3 => ⟨_, _, hw3, stamped_modify h2 j _ (fun _ _ => rfl) (fun e' _ he' => ?_), fun x hx => ?_, fun e' v' h' => ?_⟩⟩
    · simp [Instr.mapUpdate, run_underlying Tryd.underlying83, MapKept.run_getObj_map h1, shLaw.check w false hl, r1, hj, r3, shLaw.stays w hl, MapKept.run_setObj_map _ h1, Result.andThen, setBlock]
    · rw [hj] at he'; cases he'; exact r3.symm
    · rw [ht] at hx
      obtain ⟨i, hi, rfl⟩ := List.getElem_of_mem hx
      rw [List.getElem_set]
      by_cases e1 : j = i
      · rw [if_pos e1]; exact ⟨e, v, rfl, rfl, he, by unfold setS; rw [if_pos rfl]⟩
      · rw [if_neg e1]
        rw [List.length_set] at hi
        obtain ⟨e', v', k1, k2, k3, k4⟩ := h3 _ (List.getElem_mem hi)
        refine ⟨e', v', k1, k2, k3, ?_⟩
        unfold setS
        rw [if_neg (fun e2 => ?_), k4]
        have hp := List.pairwise_iff_getElem.1 ((stamped_iff es clock).1 h2).2.2
        obtain ⟨g1, g2⟩ := List.getElem?_eq_some_iff.1 r2
        rcases Nat.lt_or_gt_of_ne e1 with hlt | hlt
        · exact hp j i g1 hi hlt (by rw [g2, r3, k1, e2])
        · exact hp i j hi g1 hlt (by rw [g2, r3, k1, e2])
    · rw [ht]
      unfold setS at h'
      by_cases e1 : e' = e
      · exact ⟨_, List.mem_set (by have := (List.getElem?_eq_some_iff.1 r2).1; exact this) _, by rw [e1]⟩
      · rw [if_neg e1] at h'
        obtain ⟨x, hx, hxe⟩ := h4 e' v' h'
        obtain ⟨i, hi, rfl⟩ := List.getElem_of_mem hx
        have hne : j ≠ i := fun e2 => by
          subst e2
          obtain ⟨g1, g2⟩ := List.getElem?_eq_some_iff.1 r2
          rw [g2, r3] at hxe
          exact e1 (shV_inj hxe).symm
        refine ⟨_, List.getElem_mem (l := es.toList.set j { y with key := shV e, val := .int .i64 v }) (n := i) (by rw [List.length_set]; exact hi), ?_⟩
        rw [List.getElem_set, if_neg hne]; exact hxe
/-- Deleting a key. -/
theorem SMap.delete {w : World} {b : Nat} {f : Sh → Option Int} (h : SMap w b f) {e : Sh} (he : ShIn e) (ty : TypeId) :
    ∃ o : Obj, (Builtin.delete_ #[83, 88] ty #[.map (some b), shV e]).run Tryd.prog w = .ok (.tuple #[]) (setBlock w b o) ∧ ∀ w3 : World, w3.heap[b]? = some o → SMap w3 b (setS f e none) := by
  obtain ⟨es, clock, h1, h2, h3, h4⟩ := h
  obtain ⟨l, hl⟩ := sh_some he
  rcases smap_find (w := w) h3 h4 he with ⟨r1, r2, r3⟩ | ⟨j, y, u, r1, r2, r3, r4, r5⟩
  · refine ⟨.map es clock, ?_, fun w3 hw3 => ⟨_, _, hw3, h2, fun x hx => ?_, fun e' v' h' => ?_⟩⟩
    · simp [Builtin.delete_, run_underlying Tryd.underlying83, MapKept.run_getObj_map h1, shLaw.check w _ hl, r1, MapKept.run_setObj_map _ h1, Result.andThen, setBlock]
    · obtain ⟨e', v', k1, k2, k3, k4⟩ := h3 x hx
      exact ⟨e', v', k1, k2, k3, by unfold setS; rw [if_neg (fun e1 => r2 x hx (by rw [k1, e1])), k4]⟩
    · unfold setS at h'
      by_cases e1 : e' = e
      · rw [if_pos e1] at h'; cases h'
      · rw [if_neg e1] at h'; exact h4 e' v' h'
  · have hlt : j < es.size := by have := (List.getElem?_eq_some_iff.1 r2).1; simpa using this
    have hl2 : (es.eraseIdxIfInBounds j).toList = es.toList.eraseIdx j := by
      rw [Array.eraseIdxIfInBounds, dif_pos hlt]; simp
    have hp := List.pairwise_iff_getElem.1 ((stamped_iff es clock).1 h2).2.2
    obtain ⟨g1, g2⟩ := List.getElem?_eq_some_iff.1 r2
    refine ⟨.map (es.eraseIdxIfInBounds j) clock, ?_, fun w3 hw3 => ⟨_, _, hw3, stamped_erase h2 j, fun x hx => ?_, fun e' v' h' => ?_⟩⟩
    · simp [Builtin.delete_, run_underlying Tryd.underlying83, MapKept.run_getObj_map h1, shLaw.check w _ hl, r1, MapKept.run_setObj_map _ h1, Result.andThen, setBlock]
    · rw [hl2] at hx
      obtain ⟨i, hi1, hi2⟩ := List.mem_eraseIdx_iff_getElem?.1 hx
      obtain ⟨e', v', k1, k2, k3, k4⟩ := h3 x (List.mem_of_mem_eraseIdx hx)
      refine ⟨e', v', k1, k2, k3, ?_⟩
      unfold setS
      rw [if_neg (fun e2 => ?_), k4]
      obtain ⟨l1, q1⟩ := List.getElem?_eq_some_iff.1 hi2
      rcases Nat.lt_or_gt_of_ne hi1 with hlt' | hlt'
      · exact hp i j l1 g1 hlt' (by rw [q1, g2, r3, k1, e2])
      · exact hp j i g1 l1 hlt' (by rw [q1, g2, r3, k1, e2])
    · rw [hl2]
      unfold setS at h'
      by_cases e1 : e' = e
      · rw [if_pos e1] at h'; cases h'
      · rw [if_neg e1] at h'
        obtain ⟨x, hx, hxe⟩ := h4 e' v' h'
        obtain ⟨i, hi⟩ := List.getElem?_of_mem hx
        refine ⟨x, List.mem_eraseIdx_iff_getElem?.2 ⟨i, fun e2 => ?_, hi⟩, hxe⟩
        subst e2
        rw [r2] at hi
        cases hi
        exact e1 (shV_inj (hxe.symm.trans r3))
end Go.Proofs.YtbmgflapagbkcaaDoor
