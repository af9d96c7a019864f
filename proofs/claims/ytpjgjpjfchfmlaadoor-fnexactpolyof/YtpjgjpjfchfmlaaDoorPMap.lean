/-
  PROVED HERE: how the program's sums of products lie in a map, and what looking up, storing and deleting do to it. No condition.
-/
import Derived.Test.YtpjgjpjfchfmlaaDoorPolyPlain
import Derived.Test.YtpjgjpjfchfmlaaDoorRows
import Derived.WideKeyEntry
import Derived.DeepKeys4
import Derived.Maps.OwnSet
import Derived.Maps.RangeRun
namespace Go.Proofs.YtpjgjpjfchfmlaaDoor
open Go.ChangeShapes Go.WideShapes Go.ChangeAt Go.RowKit
open Go.MapKept Go.ChangeMaps
set_option linter.unusedVariables false

theorem laidOutM : laidOutB Tryd.prog = true := by kernel_rfl
theorem keyLaw : WideMaps.KeyLaw Tryd.prog 69 := deep_law_laid laidOutM (m := 2) (by omega) (of_decide_eq_true (by kernel_rfl)) (by kernel_rfl) (by kernel_rfl)
theorem keyTypeM : Tryd.prog.keyType 69 = true := by kernel_rfl
theorem cellsKey : Tryd.prog.cellsOf 69 = 4 := by kernel_rfl
theorem cellsIntK : Tryd.prog.cellsOf 3 = 1 := by kernel_rfl
/-- Four numbers of 64 bits. -/
def Key4 (e : List Int) : Prop := e.length = 4 ∧ ∀ x ∈ e, InI x
/-- Powers as a key. -/
def keyV (e : List Int) : Value := .agg (e.map (Value.int .i64)).toArray
theorem keyV_inj {e f : List Int} (h : keyV e = keyV f) : e = f := by
  unfold keyV at h
  injection h with h
  have h2 : e.map (Value.int .i64) = f.map (Value.int .i64) := by simpa using h
  exact (List.map_inj_right (fun a b hab => by injection hab)).1 h2
theorem wf_of {x : Int} (h : InI x) : (Lit.int .i64 x).wf = true := by
  unfold InI at h
  have e1 : IntKind.i64.min = -9223372036854775808 := by decide
  have e2 : IntKind.i64.max = 9223372036854775807 := by decide
  simp only [Lit.wf, Bool.and_eq_true, decide_eq_true_eq]
  omega
set_option maxRecDepth 20000 in
theorem key_some {e : List Int} (h : Key4 e) : ∃ l, keyOf Tryd.prog 69 (keyV e) = some l := by
  obtain ⟨h4, hi⟩ := h
  match e, h4, hi with
  | [a, b, c, d], _, hi =>
    have wa := wf_of (hi a (by simp))
    have wb := wf_of (hi b (by simp))
    have wc := wf_of (hi c (by simp))
    have wd := wf_of (hi d (by simp))
    have hf : (keyV [a, b, c, d]).formed Tryd.prog 69 = true := by rfl
    have hl : Tryd.prog.keyLits (Tryd.prog.types.size + 1) 69 (keyV [a, b, c, d]).cells.toList = some [.int .i64 a, .int .i64 b, .int .i64 c, .int .i64 d] := by
      have hc : (keyV [a, b, c, d]).cells.toList = [.int .i64 a, .int .i64 b, .int .i64 c, .int .i64 d] := rfl
      have e1 : ∀ x : Int, (Lit.int .i64 x).wf = true → Tryd.prog.keyLits Tryd.prog.types.size 3 [.int .i64 x] = some [.int .i64 x] := fun x hx => by
        obtain ⟨n, hn⟩ : ∃ n, Tryd.prog.types.size = n + 1 := ⟨Tryd.prog.types.size - 1, by have : 0 < Tryd.prog.types.size := of_decide_eq_true (by kernel_rfl); omega⟩
        rw [hn]
        simp [Program.keyLits, Tryd.underlying3, hx]
      rw [hc]
      unfold Program.keyLits
      simp only [Tryd.underlying69, cellsKey, cellsIntK]
      rw [if_pos (show ([.int .i64 a, .int .i64 b, .int .i64 c, .int .i64 d] : List Value).length = 4 from rfl), show List.range 4 = [0, 1, 2, 3] from rfl]
      have f0 : Tryd.prog.keyLits Tryd.prog.types.size 3 (([.int .i64 a, .int .i64 b, .int .i64 c, .int .i64 d] : List Value).drop (0 * 1) |>.take 1) = some [.int .i64 a] := e1 a wa
      have f1 : Tryd.prog.keyLits Tryd.prog.types.size 3 (([.int .i64 a, .int .i64 b, .int .i64 c, .int .i64 d] : List Value).drop (1 * 1) |>.take 1) = some [.int .i64 b] := e1 b wb
      have f2 : Tryd.prog.keyLits Tryd.prog.types.size 3 (([.int .i64 a, .int .i64 b, .int .i64 c, .int .i64 d] : List Value).drop (2 * 1) |>.take 1) = some [.int .i64 c] := e1 c wc
      have f3 : Tryd.prog.keyLits Tryd.prog.types.size 3 (([.int .i64 a, .int .i64 b, .int .i64 c, .int .i64 d] : List Value).drop (3 * 1) |>.take 1) = some [.int .i64 d] := e1 d wd
      simp only [List.mapM_cons, List.mapM_nil, f0, f1, f2, f3]
      rfl
    refine ⟨.string (keyBytes [.int .i64 a, .int .i64 b, .int .i64 c, .int .i64 d]), ?_⟩
    unfold keyOf
    rw [Tryd.underlying69]
    simp only [keyTypeM, hf, hl, Bool.and_self, if_pos, Option.map_some]
/-- A map's entries, as key and value. -/
def entM (m : Mon) : Value × Value := (keyV m.1, .int .i64 m.2)
/-- Block b is a map that holds the products M, each key once. -/
def PMap (w : World) (b : Nat) (M : List Mon) : Prop := ∃ es clock, w.heap[b]? = some (.map es clock) ∧ Stamped es clock ∧ es.toList.map (fun x => (x.key, x.val)) = M.map entM ∧ ∀ m ∈ M, Key4 m.1
def Apart (M : List Mon) : Prop := M.Pairwise fun x y => x.1 ≠ y.1
theorem PMap.block {w w' : World} {b : Nat} {M : List Mon} (h : PMap w b M) (hb : w'.heap[b]? = w.heap[b]?) : PMap w' b M := by
  obtain ⟨es, clock, h1, h2, h3, h4⟩ := h
  exact ⟨es, clock, hb.trans h1, h2, h3, h4⟩
theorem PMap.lt {w : World} {b : Nat} {M : List Mon} (h : PMap w b M) : b < w.heap.size := by
  obtain ⟨es, clock, h1, _⟩ := h
  exact (Array.getElem?_eq_some_iff.1 h1).1
theorem PMap.keep {w w' : World} {b : Nat} {M : List Mon} (h : PMap w b M) (hb : Below w.heap.size w w') : PMap w' b M := h.block (hb.block b h.lt)
theorem apart_of {l : List MapEntry} : ∀ {M : List Mon}, l.map (fun x => (x.key, x.val)) = M.map entM → l.Pairwise (fun x y => x.key ≠ y.key) → Apart M := by
  induction l with
  | nil =>
    intro M h _
    cases M with
    | nil => exact List.Pairwise.nil
    | cons m r => simp at h
  | cons a l ih =>
    intro M h hp
    cases M with
    | nil => simp at h
    | cons m r =>
      simp only [List.map_cons, List.cons.injEq] at h
      obtain ⟨p1, p2⟩ := List.pairwise_cons.1 hp
      refine List.pairwise_cons.2 ⟨fun y hy e => ?_, ih h.2 p2⟩
      have : entM y ∈ l.map (fun x => (x.key, x.val)) := by rw [h.2]; exact List.mem_map.2 ⟨y, hy, rfl⟩
      obtain ⟨x, hx, hxe⟩ := List.mem_map.1 this
      have k1 : x.key = keyV y.1 := congrArg Prod.fst hxe
      have k2 : a.key = keyV m.1 := congrArg Prod.fst h.1
      exact p1 x hx (by rw [k1, k2, e])
theorem PMap.apart {w : World} {b : Nat} {M : List Mon} (h : PMap w b M) : Apart M := by
  obtain ⟨es, clock, h1, h2, h3, h4⟩ := h
  exact apart_of h3 ((stamped_iff es clock).1 h2).2.2
theorem entries_len {l : List MapEntry} {M : List Mon} (h : l.map (fun x => (x.key, x.val)) = M.map entM) : l.length = M.length := by
  have := congrArg List.length h
  simpa using this
theorem entries_at {l : List MapEntry} {M : List Mon} (h : l.map (fun x => (x.key, x.val)) = M.map entM) {j : Nat} {x : MapEntry} (hx : l[j]? = some x) : ∃ m, M[j]? = some m ∧ x.key = keyV m.1 ∧ x.val = .int .i64 m.2 := by
  have h1 : (l.map (fun x => (x.key, x.val)))[j]? = some (x.key, x.val) := by rw [List.getElem?_map, hx]; rfl
  rw [h, List.getElem?_map] at h1
  cases hm : M[j]? with
  | none => rw [hm] at h1; cases h1
  | some m =>
    rw [hm] at h1
    have := Option.some.inj h1
    exact ⟨m, rfl, (congrArg Prod.fst this).symm, (congrArg Prod.snd this).symm⟩
theorem coef_set {M : List Mon} (ha : Apart M) {j : Nat} {m : Mon} (hm : M[j]? = some m) (x : Int) (e' : List Int) : coef (M.set j (m.1, x)) e' = if m.1 = e' then x else coef M e' := by
  induction M generalizing j with
  | nil => simp at hm
  | cons a r ih =>
    obtain ⟨p1, p2⟩ := List.pairwise_cons.1 ha
    cases j with
    | zero =>
      simp only [List.getElem?_cons_zero, Option.some.injEq] at hm
      subst hm
      rw [List.set_cons_zero, coef_cons, coef_cons]
      by_cases h : a.1 = e'
      · rw [if_pos h, if_pos h, coef_none (fun y hy e => p1 y hy (h.trans e.symm))]; omega
      · rw [if_neg h, if_neg h, if_neg h]
    | succ j =>
      simp only [List.getElem?_cons_succ] at hm
      rw [List.set_cons_succ, coef_cons, coef_cons, ih p2 hm]
      by_cases h : m.1 = e'
      · rw [if_pos h, if_pos h, if_neg (fun e => p1 m (List.mem_of_getElem? hm) (e.trans h.symm))]; omega
      · rw [if_neg h, if_neg h]
theorem coef_at {M : List Mon} (ha : Apart M) {j : Nat} {m : Mon} (hm : M[j]? = some m) : coef M m.1 = m.2 := by
  have := coef_set ha hm m.2 m.1
  rw [if_pos rfl] at this
  rw [← this]
  congr 1
  have : M.set j (m.1, m.2) = M := by
    apply List.ext_getElem?
    intro i
    rw [List.getElem?_set]
    by_cases hi : j = i
    · subst hi
      rw [if_pos rfl, if_pos (by rw [List.getElem?_eq_some_iff] at hm; exact hm.1), hm]
    · rw [if_neg hi]
  rw [this]
theorem coef_erase {M : List Mon} (ha : Apart M) {j : Nat} {m : Mon} (hm : M[j]? = some m) (e' : List Int) : coef (M.eraseIdx j) e' = if m.1 = e' then 0 else coef M e' := by
  induction M generalizing j with
  | nil => simp at hm
  | cons a r ih =>
    obtain ⟨p1, p2⟩ := List.pairwise_cons.1 ha
    cases j with
    | zero =>
      simp only [List.getElem?_cons_zero, Option.some.injEq] at hm
      subst hm
      rw [List.eraseIdx_cons_zero, coef_cons]
      by_cases h : a.1 = e'
      · rw [if_pos h, coef_none (fun y hy e => p1 y hy (h.trans e.symm))]
      · rw [if_neg h, if_neg h]; omega
    | succ j =>
      simp only [List.getElem?_cons_succ] at hm
      rw [List.eraseIdx_cons_succ, coef_cons, coef_cons, ih p2 hm]
      by_cases h : m.1 = e'
      · rw [if_pos h, if_pos h, if_neg (fun e => p1 m (List.mem_of_getElem? hm) (e.trans h.symm))]; omega
      · rw [if_neg h, if_neg h]
/-- Where a key is. -/
theorem PMap.find {w : World} {es : Array MapEntry} {M : List Mon} (h3 : es.toList.map (fun x => (x.key, x.val)) = M.map entM) (h4 : ∀ m ∈ M, Key4 m.1) {e : List Int} (he : Key4 e) :
    ((Instr.findKey 69 (keyV e) es.toList).run Tryd.prog w = .ok none w ∧ (∀ x ∈ es.toList, x.key ≠ keyV e) ∧ ∀ m ∈ M, m.1 ≠ e) ∨
    ∃ j x m, (Instr.findKey 69 (keyV e) es.toList).run Tryd.prog w = .ok (some (j, .int .i64 m.2)) w ∧ es.toList[j]? = some x ∧ x.key = keyV e ∧ M[j]? = some m ∧ m.1 = e := by
  obtain ⟨l, hl⟩ := key_some he
  have hall : ∀ x ∈ es.toList, ∃ l, keyOf Tryd.prog 69 x.key = some l := fun x hx => by
    obtain ⟨j, hj⟩ := List.getElem?_of_mem hx
    obtain ⟨m, hm, k1, _⟩ := entries_at h3 hj
    rw [k1]; exact key_some (h4 m (List.mem_of_getElem? hm))
  rcases keyLaw.find w hl es.toList hall with ⟨r1, r2⟩ | ⟨j, x, r1, r2, r3⟩
  · refine .inl ⟨r1, r2, fun m hm e' => ?_⟩
    have : entM m ∈ es.toList.map (fun x => (x.key, x.val)) := by rw [h3]; exact List.mem_map.2 ⟨m, hm, rfl⟩
    obtain ⟨x, hx, hxe⟩ := List.mem_map.1 this
    exact r2 x hx ((congrArg Prod.fst hxe).trans (by show keyV m.1 = _; rw [e']))
  · obtain ⟨m, hm, k1, k2⟩ := entries_at h3 r2
    exact .inr ⟨j, x, m, by rw [r1, k2], r2, r3, hm, keyV_inj (k1.symm.trans r3)⟩
theorem zeroI64 (w : World) : (zeroValue 2).run Tryd.prog w = .ok (.int .i64 0) w := by kernel_rfl
theorem PMap.lookup {w : World} {b : Nat} {M : List Mon} (h : PMap w b M) {e : List Int} (he : Key4 e) : (Instr.lookup 71 (.map (some b)) (keyV e) false).run Tryd.prog w = .ok (.int .i64 (coef M e)) w := by
  have ha := h.apart
  obtain ⟨es, clock, h1, h2, h3, h4⟩ := h
  obtain ⟨l, hl⟩ := key_some he
  rcases PMap.find (w := w) h3 h4 he with ⟨r1, r2, r3⟩ | ⟨j, x, m, r1, r2, r3, r4, rfl⟩
  · rw [coef_none r3]
    simp [Instr.lookup, run_underlying Tryd.underlying71, MapKept.run_getObj_map h1, keyLaw.check w _ hl, r1, Result.andThen]
  · rw [coef_at ha r4]
    simp [Instr.lookup, run_underlying Tryd.underlying71, MapKept.run_getObj_map h1, keyLaw.check w _ hl, r1, Result.andThen]
theorem set_map {l : List MapEntry} {M : List Mon} (h : l.map (fun x => (x.key, x.val)) = M.map entM) {j : Nat} {m : Mon} (hm : M[j]? = some m) {y : MapEntry} (hy : y.key = keyV m.1) {x : Int} (hv : y.val = .int .i64 x) : (l.set j y).map (fun x => (x.key, x.val)) = (M.set j (m.1, x)).map entM := by
  rw [List.map_set, List.map_set, h, hy, hv]; rfl
/-- Storing at a key: the entry, then the value. -/
theorem PMap.store {w : World} {b : Nat} {M : List Mon} (h : PMap w b M) {e : List Int} (he : Key4 e) :
    ∃ (v0 : Value) (st : Nat) (o1 : Obj), (Instr.mapEntry 71 (.map (some b)) (keyV e)).run Tryd.prog w = .ok (.tuple #[v0, goInt st]) (setBlock w b o1) ∧ (∃ M1, (∀ w3 : World, w3.heap[b]? = some o1 → PMap w3 b M1) ∧ ∀ e', coef M1 e' = coef M e') ∧
      ∀ (w2 : World) (x : Int), w2.heap[b]? = some o1 → ∃ (o2 : Obj) (M' : List Mon), (Instr.entryStore 71 (.map (some b)) (goInt st) (.int .i64 x)).run Tryd.prog w2 = .ok () (setBlock w2 b o2) ∧
        (∀ w3 : World, w3.heap[b]? = some o2 → PMap w3 b M') ∧ (∀ e', coef M' e' = if e = e' then x else coef M e') ∧ (∀ m ∈ M', m ∈ M ∨ m = (e, x)) ∧ M'.length ≤ M.length + 1 := by
  have ha := h.apart
  obtain ⟨es, clock, h1, h2, h3, h4⟩ := h
  obtain ⟨l, hl⟩ := key_some he
  obtain ⟨s1, s2, s3⟩ := (stamped_iff es clock).1 h2
  rcases PMap.find (w := w) h3 h4 he with ⟨r1, r2, r3⟩ | ⟨j, y, m, r1, r2, r3, r4, rfl⟩
  · refine ⟨.int .i64 0, clock, .map (es.push ⟨keyV e, .int .i64 0, clock⟩) (clock + 1), ?_, ⟨M ++ [(e, 0)], fun w3 hw3 => ⟨_, _, hw3, stamped_push h2 r2, by rw [Array.toList_push, List.map_append, List.map_append, h3]; rfl, fun m hm => by rcases List.mem_append.1 hm with hm | hm; exact h4 m hm; rw [List.mem_singleton.1 hm]; exact he⟩, fun e' => by rw [coef_append, coef_cons, coef_nil]; split <;> omega⟩, fun w2 x hw2 => ⟨.map (es.push ⟨keyV e, .int .i64 x, clock⟩) (clock + 1), M ++ [(e, x)], ?_, fun w3 hw3 => ⟨_, _, hw3, stamped_push h2 r2, ?_, ?_⟩, fun e' => ?_, fun m hm => ?_, by simp⟩⟩
    · simp [Instr.mapEntry, run_underlying Tryd.underlying71, MapKept.run_getObj_map h1, keyLaw.check w false hl, r1, MapKept.run_setObj_map _ h1, Result.andThen, setBlock]
    · have hidx : (es.push ⟨keyV e, .int .i64 0, clock⟩).findIdx? (fun e => ((e.born : Nat) : Int) == ((clock : Nat) : Int)) = some es.size := by
        rw [WideElems.findIdx_arr]
        exact WideElems.findIdx_born (l := (es.push ⟨keyV e, .int .i64 0, clock⟩).toList) (j := es.size) (e0 := ⟨keyV e, .int .i64 0, clock⟩) (by
          simp only [Array.toList_push, List.map_append, List.map_cons, List.map_nil]
          refine List.nodup_append.2 ⟨s2, by simp, fun a ha c hc e1 => ?_⟩
          simp only [List.mem_singleton] at hc
          obtain ⟨x, hx, rfl⟩ := List.mem_map.1 ha
          have := s1 x hx
          omega) (by simp)
      have hmod : (es.push ⟨keyV e, .int .i64 0, clock⟩).modify es.size (fun e => { e with val := .int .i64 x }) = es.push ⟨keyV e, .int .i64 x, clock⟩ := by
        apply Array.ext'
        rw [Array.toList_modify, Array.toList_push, Array.toList_push, ← Array.length_toList, WideElems.modify_last]
      simp [Instr.entryStore, MapKept.run_getObj_map hw2, asInt, asIntOf, goInt, hidx, hmod, MapKept.run_setObj_map _ hw2, Result.andThen, setBlock]
    · rw [Array.toList_push, List.map_append, List.map_append, h3]; rfl
    · intro m hm
      rcases List.mem_append.1 hm with hm | hm
      · exact h4 m hm
      · rw [List.mem_singleton.1 hm]; exact he
    · rw [coef_append, coef_cons, coef_nil]
      by_cases he' : e = e'
      · rw [if_pos he', if_pos he', coef_none (fun y hy e1 => r3 y hy (e1.trans he'.symm))]; omega
      · rw [if_neg he', if_neg he']; omega
    · rcases List.mem_append.1 hm with hm | hm
      · exact .inl hm
      · exact .inr (List.mem_singleton.1 hm)
  · have hj : es[j]? = some y := by simpa using r2
    have hsame : es.modify j (fun e' => { e' with key := keyV m.1 }) = es := by
      apply Array.ext'
      rw [Array.toList_modify, modify_eq_set _ _ _ _ r2]
      have : ({ y with key := keyV m.1 } : MapEntry) = y := by rw [← r3]
      rw [this]
      exact WideElems.set_self _ _ _ r2
    refine ⟨.int .i64 m.2, y.born, .map es clock, ?_, ⟨M, fun w3 hw3 => ⟨_, _, hw3, h2, h3, h4⟩, fun _ => rfl⟩, fun w2 x hw2 => ⟨.map (es.modify j (fun e' => { e' with val := .int .i64 x })) clock, M.set j (m.1, x), ?_, fun w3 hw3 => ⟨_, _, hw3, stamped_modify h2 j _ (fun _ _ => rfl) (fun _ _ _ => rfl), ?_, ?_⟩, fun e' => coef_set ha r4 x e', fun m' hm => ?_, by simp⟩⟩
    · simp [Instr.mapEntry, run_underlying Tryd.underlying71, MapKept.run_getObj_map h1, keyLaw.check w false hl, r1, hj, r3, keyLaw.stays w hl, hsame, MapKept.run_setObj_map _ h1, Result.andThen, setBlock]
    · have hidx : es.findIdx? (fun e => ((e.born : Nat) : Int) == ((y.born : Nat) : Int)) = some j := by
        rw [WideElems.findIdx_arr]
        exact WideElems.findIdx_born s2 r2
      simp [Instr.entryStore, MapKept.run_getObj_map hw2, asInt, asIntOf, goInt, hidx, MapKept.run_setObj_map _ hw2, Result.andThen, setBlock]
    · rw [Array.toList_modify, modify_eq_set _ _ _ _ r2]
      exact set_map (y := { y with val := .int .i64 x }) h3 r4 r3 rfl
    · intro m' hm
      rcases List.mem_or_eq_of_mem_set hm with hm | rfl
      · exact h4 m' hm
      · exact he
    · rcases List.mem_or_eq_of_mem_set hm with hm | rfl
      · exact .inl hm
      · exact .inr rfl
/-- Deleting a key. -/
theorem PMap.delete {w : World} {b : Nat} {M : List Mon} (h : PMap w b M) {e : List Int} (he : Key4 e) (ty : TypeId) :
    ∃ (o2 : Obj) (M' : List Mon), (Builtin.delete_ #[71, 69] ty #[.map (some b), keyV e]).run Tryd.prog w = .ok (.tuple #[]) (setBlock w b o2) ∧
      (∀ w3 : World, w3.heap[b]? = some o2 → PMap w3 b M') ∧ (∀ e', coef M' e' = if e = e' then 0 else coef M e') ∧ (∀ m ∈ M', m ∈ M ∧ m.1 ≠ e) ∧ M'.length ≤ M.length := by
  have ha := h.apart
  obtain ⟨es, clock, h1, h2, h3, h4⟩ := h
  obtain ⟨l, hl⟩ := key_some he
  rcases PMap.find (w := w) h3 h4 he with ⟨r1, r2, r3⟩ | ⟨j, y, m, r1, r2, r3, r4, rfl⟩
  · refine ⟨.map es clock, M, ?_, fun w3 hw3 => ⟨_, _, hw3, h2, h3, h4⟩, fun e' => ?_, fun m hm => ⟨hm, r3 m hm⟩, Nat.le_refl _⟩
    · simp [Builtin.delete_, run_underlying Tryd.underlying71, MapKept.run_getObj_map h1, keyLaw.check w _ hl, r1, MapKept.run_setObj_map _ h1, Result.andThen, setBlock]
    · by_cases he' : e = e'
      · rw [if_pos he', coef_none (fun y hy e1 => r3 y hy (e1.trans he'.symm))]
      · rw [if_neg he']
  · have hlt : j < es.size := by have := (List.getElem?_eq_some_iff.1 r2).1; simpa using this
    have hl2 : (es.eraseIdxIfInBounds j).toList = es.toList.eraseIdx j := by
      rw [Array.eraseIdxIfInBounds, dif_pos hlt]; simp
    refine ⟨.map (es.eraseIdxIfInBounds j) clock, M.eraseIdx j, ?_, fun w3 hw3 => ⟨_, _, hw3, stamped_erase h2 j, ?_, fun m' hm => h4 m' (List.mem_of_mem_eraseIdx hm)⟩, fun e' => coef_erase ha r4 e', fun m' hm => ⟨List.mem_of_mem_eraseIdx hm, fun e1 => ?_⟩, ?_⟩
    · simp [Builtin.delete_, run_underlying Tryd.underlying71, MapKept.run_getObj_map h1, keyLaw.check w _ hl, r1, MapKept.run_setObj_map _ h1, Result.andThen, setBlock]
    · rw [hl2, map_eraseIdx, map_eraseIdx, h3]
    · obtain ⟨i, hi1, hi2⟩ := List.mem_eraseIdx_iff_getElem?.1 hm
      have hap := List.pairwise_iff_getElem.1 ha
      obtain ⟨l1, g1⟩ := List.getElem?_eq_some_iff.1 hi2
      obtain ⟨l2, g2⟩ := List.getElem?_eq_some_iff.1 r4
      rcases Nat.lt_or_gt_of_ne hi1 with hlt' | hlt'
      · have := hap i j l1 l2 hlt'
        rw [g1, g2] at this
        exact this e1
      · have := hap j i l2 l1 hlt'
        rw [g1, g2] at this
        exact this e1.symm
    · rw [List.length_eraseIdx]; split <;> omega
end Go.Proofs.YtpjgjpjfchfmlaaDoor
