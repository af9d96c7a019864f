/-
  PROVED HERE: lists of nodes and graphs that came in, opened by the form's own reading, hold their nodes, whose numbers lie within 64 bits. No condition. plain facts on parts that are closed over the nodes of a graph: there is one least such joining. No condition.
-/
import Derived.Test.YthkjmgjajmghmaaDoorRun6
import Derived.Deep.SlicePairs
import Derived.Deep.Strs
namespace Go.Proofs.YthkjmgjajmghmaaDoor
open Go.ChangeShapes Go.WideShapes Go.ChangeAt Go.RowKit
set_option linter.unusedVariables false

theorem wf6_in {z : Int} (h : (Lit.int .i64 z).wf = true) : InI z := by
  simp only [Lit.wf, Bool.and_eq_true, decide_eq_true_eq] at h
  have e1 : IntKind.i64.min = -9223372036854775808 := by decide
  have e2 : IntKind.i64.max = 9223372036854775807 := by decide
  unfold InI
  omega
theorem cellsENodeL : Tryd.prog.cellsOf 53 = 3 := by kernel_rfl
theorem cellsGraphL : Tryd.prog.cellsOf 25 = 2 := by kernel_rfl
theorem cellsENS : Tryd.prog.cellsOf 22 = 1 := by kernel_rfl
theorem cellsIntS6 : Tryd.prog.cellsOf 23 = 1 := by kernel_rfl
theorem cellsInt6 : Tryd.prog.cellsOf 3 = 1 := by kernel_rfl
theorem cellsI646 : Tryd.prog.cellsOf 2 = 1 := by kernel_rfl
theorem three_of {cs : List Value} (h : cs.length = 3) : ∃ v0 v1 v2, cs = [v0, v1, v2] := by
  match cs, h with
  | [a, b, c], _ => exact ⟨a, b, c, rfl⟩
theorem two_of {cs : Array Value} (h : cs.size = 2) : ∃ v0 v1, cs = #[v0, v1] := by
  obtain ⟨cs⟩ := cs
  match cs, h with
  | [a, b], _ => exact ⟨a, b, rfl⟩
theorem ints6_in {H : Type} {enc : TypeId × Value → H} {W : World} {base : Nat} {sp : Nat → Bool} {held : Bool} {fuel : Nat} {v : Value} {x : DataW H × List MemPlace}
    (h : DataW.trod enc Tryd.prog W base sp held fuel 23 [v] = some x) : ∃ a len cap l, v = .slice a len cap ∧ Sl W a len l ∧ len ≤ cap ∧ cap ≤ maxLen := by
  rcases open_ints Tryd.underlying23 Tryd.underlying3 cellsInt6 h with ⟨hcs, _⟩ | ⟨x, l, c, zs, hcs, _, hl, hm, hz, _, hcell, hwz⟩
  · simp only [List.cons.injEq, and_true] at hcs
    exact ⟨none, 0, 0, [], hcs, ⟨rfl, .inl rfl⟩, Nat.le_refl _, Nat.zero_le _⟩
  · simp only [List.cons.injEq, and_true] at hcs
    have hlz : l ≤ zs.length := by rw [hz]; split <;> omega
    refine ⟨some x, l, c, zs.take l, hcs, ⟨by simp; omega, ?_⟩, hl, hm⟩
    by_cases h0 : l = 0
    · exact .inl h0
    obtain ⟨b, off, spot⟩ := x
    have hspot : spot = none := by simpa [Addr.add] using World.cell?_spot (hcell 0 (by omega))
    subst hspot
    refine .inr ⟨b, off, rfl, ?_, fun i hi => ?_⟩
    · have := World.block_lt_of_cell? W _ (hcell 0 (by omega))
      simpa [Addr.add] using this
    · have h1 : (zs.take l).getD i 0 = zs.getD i 0 := by
        simp only [List.getD_eq_getElem?_getD, List.getElem?_take]
        rw [if_pos hi]
      rw [h1, ← add_to]
      exact hcell i (by omega)
theorem enodes_in {H : Type} {enc : TypeId × Value → H} {W : World} {base : Nat} {sp : Nat → Bool} {held : Bool} {fuel : Nat} {v : Value} {x : DataW H × List MemPlace}
    (h : DataW.trod enc Tryd.prog W base sp held fuel 22 [v] = some x) : ∃ a len cap, v = .slice a len cap ∧ ∃ p : List EN, ESl W a len p ∧ len ≤ cap ∧ cap ≤ maxLen ∧ InE p := by
  rcases Go.Deep.open_slice Tryd.underlying22 h with ⟨e, _⟩ | ⟨y, len, cap, m, n, D, Pl, e, _, hl, hm, hmm, _, hx⟩
  · simp only [List.cons.injEq, and_true] at e
    exact ⟨none, 0, 0, e, [], ⟨rfl, .inl rfl⟩, Nat.le_refl _, Nat.zero_le _, fun i hi => absurd hi (Nat.not_lt_zero _)⟩
  · simp only [List.cons.injEq, and_true] at e
    have hlm : len ≤ m := by rw [hmm]; split <;> omega
    have each : ∀ i, i < len → ∃ q : EN, ∃ ai li ci, W.cell? (y.add (i * 3)) = some (.int .i64 q.1) ∧ W.cell? (y.add (i * 3 + 1)) = some (.int .i64 q.2.1) ∧ W.cell? (y.add (i * 3 + 2)) = some (.slice ai li ci) ∧ li ≤ 9223372036854775807 ∧ li ≤ ci ∧ Sl W ai li q.2.2 ∧ InI q.2.1 := by
      intro i hi
      obtain ⟨cs', h1, h2⟩ := hx i (by omega)
      rw [cellsENodeL] at h1
      obtain ⟨_, hlen, hcell⟩ := World.cells?_some h1
      obtain ⟨v0, v1, v2, rfl⟩ := three_of hlen
      obtain ⟨y0, y1, y2, k, _, _, g0, g1, g2⟩ := Go.Deep.trod_struct3 Tryd.underlying53 h2
      simp [cellsInt6, cellsI646, cellsIntS6] at g0 g1 g2
      have e0 := hcell 0 (by omega)
      have e1 := hcell 1 (by omega)
      have e2 := hcell 2 (by omega)
      rw [Go.Deep.add_add] at e0 e1 e2
      simp at e0 e1 e2
      obtain ⟨n0, f0, _, _⟩ := DataW.trod_int Tryd.underlying3 g0
      obtain ⟨n1, f1, _, hwf⟩ := DataW.trod_int Tryd.underlying2 g1
      obtain ⟨ai, li, ci, l, f2, s1, s2, s3⟩ := ints6_in g2
      simp only [List.cons.injEq, and_true] at f0 f1
      rw [f0] at e0
      rw [f1] at e1
      rw [f2] at e2
      exact ⟨(n0, n1, l), ai, li, ci, e0, e1, e2, by unfold maxLen at s3; omega, s2, s1, wf6_in hwf⟩
    obtain ⟨q, hq⟩ := Go.Deep.choose_lt each
    refine ⟨some y, len, cap, e, (List.range len).map q, ⟨by simp, ?_⟩, hl, hm, fun i hi => ?_⟩
    · by_cases h0 : len = 0
      · exact .inl h0
      obtain ⟨b, off, spot⟩ := y
      obtain ⟨a0, l0, c0, hq0, _⟩ := hq 0 (by omega)
      have hspot : spot = none := by simpa [Addr.add] using World.cell?_spot hq0
      subst hspot
      refine .inr ⟨b, off, rfl, ?_, fun i hi => ?_⟩
      · have := World.block_lt_of_cell? W _ hq0
        simpa [Addr.add] using this
      · have e : ((List.range len).map q).getD i e0 = q i := by simp [List.getD_eq_getElem?_getD, hi]
        rw [e]
        obtain ⟨ai, li, ci, g1, g2, g3, g4, g5, g6, _⟩ := hq i hi
        rw [add_to] at g1 g2 g3
        exact ⟨ai, li, ci, g1, by rw [Nat.add_assoc]; exact g2, by rw [Nat.add_assoc]; exact g3, g4, g5, g6⟩
    · have hi' : i < len := by simpa using hi
      have e : ((List.range len).map q).getD i e0 = q i := by simp [List.getD_eq_getElem?_getD, hi']
      rw [e]
      obtain ⟨_, _, _, _, _, _, _, _, _, g6⟩ := hq i hi'
      exact g6
/-- A graph that came in. -/
def GIn (W : World) (cs : Array Value) (p : List EN) (l : List Int) (a b : Option Addr) (len cap lb cb : Nat) : Prop := cs = #[.slice a len cap, .slice b lb cb] ∧ ESl W a len p ∧ Sl W b lb l ∧ (len ≤ cap ∧ cap ≤ maxLen) ∧ (lb ≤ cb ∧ cb ≤ maxLen) ∧ InE p
theorem graph_in {H : Type} {enc : TypeId × Value → H} {W : World} {base : Nat} {sp : Nat → Bool} {held : Bool} {fuel : Nat} {cs : Array Value} {x : DataW H × List MemPlace} (hs : cs.size = 2)
    (h : DataW.trod enc Tryd.prog W base sp held fuel 25 cs.toList = some x) : ∃ a b len cap lb cb p l, GIn W cs p l a b len cap lb cb := by
  obtain ⟨v0, v1, rfl⟩ := two_of hs
  obtain ⟨y0, y1, k, _, _, g0, g1⟩ := trod_struct2 Tryd.underlying25 h
  simp [cellsENS, cellsIntS6] at g0 g1
  obtain ⟨a, len, cap, rfl, p, s1, s2, s3, s4⟩ := enodes_in g0
  obtain ⟨b, lb, cb, l, rfl, t1, t2, t3⟩ := ints6_in g1
  exact ⟨a, b, len, cap, lb, cb, p, l, rfl, s1, t1, ⟨s2, s3⟩, ⟨t2, t3⟩, s4⟩
end Go.Proofs.YthkjmgjajmghmaaDoor
namespace Go.Proofs.YthkjmgjajmghmaaDoor
set_option linter.unusedVariables false

/-- Good parts of n numbers. -/
def PartsN (n : Nat) (l : List Int) : Prop := l.length = n ∧ Par l ∧ Flat l
/-- What is of one part in the first is so in the second. -/
def FinerL (l m : List Int) : Prop := ∀ i j, i < l.length → j < l.length → l.getD i 0 = l.getD j 0 → m.getD i 0 = m.getD j 0
theorem finer_refl (l : List Int) : FinerL l l := fun _ _ _ _ h => h
theorem finer_trans {n : Nat} {l m q : List Int} (hl : l.length = n) (hm : m.length = n) (h : FinerL l m) (h' : FinerL m q) : FinerL l q := fun i j hi hj e => h' i j (by omega) (by omega) (h i j hi hj e)
theorem part_nat {n : Nat} {l : List Int} (h : PartsN n l) {k : Nat} (hk : k < n) : ∃ a : Nat, l.getD k 0 = a ∧ a ≤ k ∧ l.getD a 0 = a := by
  obtain ⟨h1, h2, h3⟩ := h
  have e := h2 k (by omega)
  have f := h3 k (by omega)
  refine ⟨(l.getD k 0).toNat, by omega, by omega, ?_⟩
  rw [f]; omega
/-- Parts that are finer than each other are the same. -/
theorem finer_anti {n : Nat} {l m : List Int} (hl : PartsN n l) (hm : PartsN n m) (h : FinerL l m) (h' : FinerL m l) : l = m := by
  refine list_ext (by rw [hl.1, hm.1]) fun k hk => ?_
  have hk' : k < n := by rw [← hl.1]; exact hk
  obtain ⟨a, a1, a2, a3⟩ := part_nat hl hk'
  obtain ⟨b, b1, b2, b3⟩ := part_nat hm hk'
  have e1 : m.getD a 0 = m.getD k 0 := h a k (by have := hl.1; omega) hk (by rw [a3, a1])
  have e2 : l.getD b 0 = l.getD k 0 := h' b k (by have := hm.1; omega) (by have := hm.1; omega) (by rw [b3, b1])
  obtain ⟨c, c1, c2, _⟩ := part_nat hm (show a < n by omega)
  obtain ⟨d, d1, d2, _⟩ := part_nat hl (show b < n by omega)
  omega
theorem joinPL_parts {n : Nat} {l : List Int} (h : PartsN n l) {a b : Nat} (ha : a < n) (hb : b < n) : PartsN n (joinPL l a b) := by
  obtain ⟨h1, h2, h3⟩ := h
  have e := join_flat h2 h3 (show a < l.length by omega) (show b < l.length by omega)
  have hu := union_par h2 (show a < l.length by omega) (show b < l.length by omega)
  rw [← e]
  exact ⟨by rw [flat_length, union_len]; exact h1, flat_par hu, flat_flat hu⟩
theorem joinPL_finer {l : List Int} (a b : Nat) : FinerL l (joinPL l a b) := fun i j hi hj e => by
  rw [join_get l a b hi, join_get l a b hj, e]
theorem joinPL_one {n : Nat} {l : List Int} (h : PartsN n l) {a b : Nat} (ha : a < n) (hb : b < n) : (joinPL l a b).getD a 0 = (joinPL l a b).getD b 0 := by
  rw [join_get l a b (by have := h.1; omega), join_get l a b (by have := h.1; omega)]
  generalize l.getD a 0 = x
  generalize l.getD b 0 = y
  by_cases e : x ≤ y
  · rw [show max x y = y by omega, show min x y = x by omega]
    split <;> simp_all
  · rw [show max x y = x by omega, show min x y = y by omega]
    split <;> simp_all
/-- Joining what is one already in coarser parts stays finer than these. -/
theorem joinPL_least {n : Nat} {l m : List Int} (hl : PartsN n l) {a b : Nat} (ha : a < n) (hb : b < n) (h : FinerL l m) (e : m.getD a 0 = m.getD b 0) : FinerL (joinPL l a b) m := by
  intro i j hi hj hij
  rw [join_len] at hi hj
  have hL := hl.1
  rw [join_get l a b hi, join_get l a b hj] at hij
  have key : ∀ k, k < l.length → (l.getD k 0 = max (l.getD a 0) (l.getD b 0) ∨ l.getD k 0 = min (l.getD a 0) (l.getD b 0)) → m.getD k 0 = m.getD a 0 := by
    intro k hk hc
    by_cases e1 : l.getD k 0 = l.getD a 0
    · exact h k a hk (by omega) e1
    · have e2 : l.getD k 0 = l.getD b 0 := by omega
      rw [h k b hk (by omega) e2, e]
  by_cases c1 : l.getD i 0 = max (l.getD a 0) (l.getD b 0)
  · rw [if_pos c1] at hij
    by_cases c2 : l.getD j 0 = max (l.getD a 0) (l.getD b 0)
    · rw [key i hi (.inl c1), key j hj (.inl c2)]
    · rw [if_neg c2] at hij
      rw [key i hi (.inl c1), key j hj (.inr hij.symm)]
  · rw [if_neg c1] at hij
    by_cases c2 : l.getD j 0 = max (l.getD a 0) (l.getD b 0)
    · rw [if_pos c2] at hij
      rw [key i hi (.inr hij), key j hj (.inl c2)]
    · rw [if_neg c2] at hij
      exact h i j hi hj hij
/-- Nodes of one shape are of one part. -/
def Cong (p : List EN) (l : List Int) : Prop := ∀ i j, i < p.length → j < p.length → shO l (p.getD i e0) = shO l (p.getD j e0) → l.getD i 0 = l.getD j 0
/-- A shape that is shared stays so in coarser parts. -/
theorem sh_coarse {n : Nat} {p : List EN} {l m : List Int} (hN : nodesB p = true) (hp : p.length = n) (hl : l.length = n) (h : FinerL l m) {i j : Nat} (hi : i < n) (hj : j < n) (e : shO l (p.getD i e0) = shO l (p.getD j e0)) : shO m (p.getD i e0) = shO m (p.getD j e0) := by
  have hf := ((nodesB_iff p).1 hN).2
  have fi := fit_node (hf i (by omega))
  have fj := fit_node (hf j (by omega))
  have ki := fun t ht => kid_natI (k := i) (j := t) hN (by omega) ht
  have kj := fun t ht => kid_natI (k := j) (j := t) hN (by omega) ht
  revert e fi fj ki kj
  generalize p.getD i e0 = x
  generalize p.getD j e0 = y
  obtain ⟨xo, xn, xk⟩ := x
  obtain ⟨yo, yn, yk⟩ := y
  intro e fi fj ki kj
  simp only [shO, Prod.mk.injEq] at e ⊢
  simp only at fi fj ki kj
  obtain ⟨e1, e2, h0, h1, h2⟩ := e
  subst e1
  have hlen : xk.length = yk.length := by omega
  have one : ∀ t, partOf l xk t = partOf l yk t → partOf m xk t = partOf m yk t := by
    intro t ht
    unfold partOf at ht ⊢
    by_cases ht1 : t < xk.length
    · rw [if_pos ht1, if_pos (by omega)] at ht ⊢
      obtain ⟨a, a1, a2⟩ := ki t ht1
      obtain ⟨b, b1, b2⟩ := kj t (by omega)
      rw [a1, b1, Int.toNat_natCast, Int.toNat_natCast] at ht ⊢
      exact h a b (by omega) (by omega) ht
    · rw [if_neg ht1, if_neg (by omega)]
  exact ⟨rfl, e2, one 0 h0, one 1 h1, one 2 h2⟩
/-- The least joining of l0 that is closed. -/
def Closure (p : List EN) (l0 c : List Int) : Prop := PartsN p.length c ∧ FinerL l0 c ∧ Cong p c ∧ ∀ m, PartsN p.length m → FinerL l0 m → Cong p m → FinerL c m
theorem closure_one {p : List EN} {l0 c d : List Int} (hc : Closure p l0 c) (hd : Closure p l0 d) : c = d :=
  finer_anti hc.1 hd.1 (hc.2.2.2 d hd.1 hd.2.1 hd.2.2.1) (hd.2.2.2 c hc.1 hc.2.1 hc.2.2.1)
/-- On the way to it. -/
def Toward (p : List EN) (l0 l : List Int) : Prop := PartsN p.length l ∧ FinerL l0 l ∧ ∀ m, PartsN p.length m → FinerL l0 m → Cong p m → FinerL l m
theorem toward_start {p : List EN} {l0 : List Int} (h : PartsN p.length l0) : Toward p l0 l0 := ⟨h, finer_refl _, fun _ _ hf _ => hf⟩
theorem toward_join {p : List EN} {l0 l : List Int} (hN : nodesB p = true) (hl0 : l0.length = p.length) (h : Toward p l0 l) {i j : Nat} (hi : i < p.length) (hj : j < p.length) (e : shO l (p.getD i e0) = shO l (p.getD j e0)) : Toward p l0 (joinPL l i j) :=
  ⟨joinPL_parts h.1 hi hj, finer_trans hl0 h.1.1 h.2.1 (joinPL_finer i j), fun m hm hf hc => joinPL_least h.1 hi hj (h.2.2 m hm hf hc) (hc i j hi hj (sh_coarse hN rfl h.1.1 (h.2.2 m hm hf hc) hi hj e))⟩
theorem toward_end {p : List EN} {l0 l : List Int} (h : Toward p l0 l) (hc : Cong p l) : Closure p l0 l := ⟨h.1, h.2.1, hc, h.2.2⟩
end Go.Proofs.YthkjmgjajmghmaaDoor
