/-
  PROVED HERE: lists of nodes and graphs that came in, opened by the form's own reading, hold their nodes, whose numbers lie within 64 bits. No condition. what the functions on arities answer, the program's and the model's, at every op; in a world whose table of arities is laid. No other condition.
-/
import Derived.Test.YtmbggaepckgogaaDoorRun6
import Derived.Deep.SlicePairs
import Derived.Deep.Strs
import Derived.Test.YtmbggaepckgogaaDoorRun2
import Derived.WalkKit
import Derived.ProofKit
import Derived.OpenShut
import Derived.Handy
import Derived.Lib.LaidTab
import Derived.Deep.DeepHandedRow
namespace Go.Proofs.YtmbggaepckgogaaDoor
open Go.ChangeShapes Go.WideShapes Go.ChangeAt Go.RowKit
set_option linter.unusedVariables false

theorem wf6_in {z : Int} (h : (Lit.int .i64 z).wf = true) : InI z := by
  simp only [Lit.wf, Bool.and_eq_true, decide_eq_true_eq] at h
  have e1 : IntKind.i64.min = -9223372036854775808 := by decide
  have e2 : IntKind.i64.max = 9223372036854775807 := by decide
  unfold InI
  omega
theorem cellsENodeL : Tryd.prog.cellsOf 71 = 3 := by kernel_rfl
theorem cellsGraphL : Tryd.prog.cellsOf 25 = 2 := by kernel_rfl
theorem cellsENS : Tryd.prog.cellsOf 22 = 1 := by kernel_rfl
theorem cellsIntS6 : Tryd.prog.cellsOf 23 = 1 := by kernel_rfl
theorem cellsInt6 : Tryd.prog.cellsOf 3 = 1 := by kernel_rfl
theorem cellsI646 : Tryd.prog.cellsOf 2 = 1 := by kernel_rfl
theorem three_of {cs : List Value} (h : cs.length = 3) : ∃ v0 v1 v2, cs = [v0, v1, v2] := by
  match cs, h with
  | [a, b, c], _ => exact ⟨a, b, c, rfl⟩
theorem two_of {cs : Array Value} (h : cs.size = 2) : ∃ v0 v1, cs = #[v0, v1] := by
  obtain ⟨cs⟩ := cs
  match cs, h with
  | [a, b], _ => exact ⟨a, b, rfl⟩
theorem ints6_in {H : Type} {enc : TypeId × Value → H} {W : World} {base : Nat} {sp : Nat → Bool} {held : Bool} {fuel : Nat} {v : Value} {x : DataW H × List MemPlace}
    (h : DataW.trod enc Tryd.prog W base sp held fuel 23 [v] = some x) : ∃ a len cap l, v = .slice a len cap ∧ Sl W a len l ∧ len ≤ cap ∧ cap ≤ maxLen := by
  rcases open_ints Tryd.underlying23 Tryd.underlying3 cellsInt6 h with ⟨hcs, _⟩ | ⟨x, l, c, zs, hcs, _, hl, hm, hz, _, hcell, hwz⟩
  · simp only [List.cons.injEq, and_true] at hcs
    exact ⟨none, 0, 0, [], hcs, ⟨rfl, .inl rfl⟩, Nat.le_refl _, Nat.zero_le _⟩
  · simp only [List.cons.injEq, and_true] at hcs
    have hlz : l ≤ zs.length := by rw [hz]; split <;> omega
    refine ⟨some x, l, c, zs.take l, hcs, ⟨by simp; omega, ?_⟩, hl, hm⟩
    by_cases h0 : l = 0
    · exact .inl h0
    obtain ⟨b, off, spot⟩ := x
    have hspot : spot = none := by simpa [Addr.add] using World.cell?_spot (hcell 0 (by omega))
    subst hspot
    refine .inr ⟨b, off, rfl, ?_, fun i hi => ?_⟩
    · have := World.block_lt_of_cell? W _ (hcell 0 (by omega))
      simpa [Addr.add] using this
    · have h1 : (zs.take l).getD i 0 = zs.getD i 0 := by
        simp only [List.getD_eq_getElem?_getD, List.getElem?_take]
        rw [if_pos hi]
      rw [h1, ← add_to]
      exact hcell i (by omega)
theorem enodes_in {H : Type} {enc : TypeId × Value → H} {W : World} {base : Nat} {sp : Nat → Bool} {held : Bool} {fuel : Nat} {v : Value} {x : DataW H × List MemPlace}
    (h : DataW.trod enc Tryd.prog W base sp held fuel 22 [v] = some x) : ∃ a len cap, v = .slice a len cap ∧ ∃ p : List EN, ESl W a len p ∧ len ≤ cap ∧ cap ≤ maxLen ∧ InE p := by
  rcases Go.Deep.open_slice Tryd.underlying22 h with ⟨e, _⟩ | ⟨y, len, cap, m, n, D, Pl, e, _, hl, hm, hmm, _, hx⟩
  · simp only [List.cons.injEq, and_true] at e
    exact ⟨none, 0, 0, e, [], ⟨rfl, .inl rfl⟩, Nat.le_refl _, Nat.zero_le _, fun i hi => absurd hi (Nat.not_lt_zero _)⟩
  · simp only [List.cons.injEq, and_true] at e
    have hlm : len ≤ m := by rw [hmm]; split <;> omega
    have each : ∀ i, i < len → ∃ q : EN, ∃ ai li ci, W.cell? (y.add (i * 3)) = some (.int .i64 q.1) ∧ W.cell? (y.add (i * 3 + 1)) = some (.int .i64 q.2.1) ∧ W.cell? (y.add (i * 3 + 2)) = some (.slice ai li ci) ∧ li ≤ 9223372036854775807 ∧ li ≤ ci ∧ Sl W ai li q.2.2 ∧ InI q.2.1 := by
      intro i hi
      obtain ⟨cs', h1, h2⟩ := hx i (by omega)
      rw [cellsENodeL] at h1
      obtain ⟨_, hlen, hcell⟩ := World.cells?_some h1
      obtain ⟨v0, v1, v2, rfl⟩ := three_of hlen
      obtain ⟨y0, y1, y2, k, _, _, g0, g1, g2⟩ := Go.Deep.trod_struct3 Tryd.underlying71 h2
      simp [cellsInt6, cellsI646, cellsIntS6] at g0 g1 g2
      have e0 := hcell 0 (by omega)
      have e1 := hcell 1 (by omega)
      have e2 := hcell 2 (by omega)
      rw [Go.Deep.add_add] at e0 e1 e2
      simp at e0 e1 e2
      obtain ⟨n0, f0, _, _⟩ := DataW.trod_int Tryd.underlying3 g0
      obtain ⟨n1, f1, _, hwf⟩ := DataW.trod_int Tryd.underlying2 g1
      obtain ⟨ai, li, ci, l, f2, s1, s2, s3⟩ := ints6_in g2
      simp only [List.cons.injEq, and_true] at f0 f1
      rw [f0] at e0
      rw [f1] at e1
      rw [f2] at e2
      exact ⟨(n0, n1, l), ai, li, ci, e0, e1, e2, by unfold maxLen at s3; omega, s2, s1, wf6_in hwf⟩
    obtain ⟨q, hq⟩ := Go.Deep.choose_lt each
    refine ⟨some y, len, cap, e, (List.range len).map q, ⟨by simp, ?_⟩, hl, hm, fun i hi => ?_⟩
    · by_cases h0 : len = 0
      · exact .inl h0
      obtain ⟨b, off, spot⟩ := y
      obtain ⟨a0, l0, c0, hq0, _⟩ := hq 0 (by omega)
      have hspot : spot = none := by simpa [Addr.add] using World.cell?_spot hq0
      subst hspot
      refine .inr ⟨b, off, rfl, ?_, fun i hi => ?_⟩
      · have := World.block_lt_of_cell? W _ hq0
        simpa [Addr.add] using this
      · have e : ((List.range len).map q).getD i e0 = q i := by simp [List.getD_eq_getElem?_getD, hi]
        rw [e]
        obtain ⟨ai, li, ci, g1, g2, g3, g4, g5, g6, _⟩ := hq i hi
        rw [add_to] at g1 g2 g3
        exact ⟨ai, li, ci, g1, by rw [Nat.add_assoc]; exact g2, by rw [Nat.add_assoc]; exact g3, g4, g5, g6⟩
    · have hi' : i < len := by simpa using hi
      have e : ((List.range len).map q).getD i e0 = q i := by simp [List.getD_eq_getElem?_getD, hi']
      rw [e]
      obtain ⟨_, _, _, _, _, _, _, _, _, g6⟩ := hq i hi'
      exact g6
/-- A graph that came in. -/
def GIn (W : World) (cs : Array Value) (p : List EN) (l : List Int) (a b : Option Addr) (len cap lb cb : Nat) : Prop := cs = #[.slice a len cap, .slice b lb cb] ∧ ESl W a len p ∧ Sl W b lb l ∧ (len ≤ cap ∧ cap ≤ maxLen) ∧ (lb ≤ cb ∧ cb ≤ maxLen) ∧ InE p
theorem graph_in {H : Type} {enc : TypeId × Value → H} {W : World} {base : Nat} {sp : Nat → Bool} {held : Bool} {fuel : Nat} {cs : Array Value} {x : DataW H × List MemPlace} (hs : cs.size = 2)
    (h : DataW.trod enc Tryd.prog W base sp held fuel 25 cs.toList = some x) : ∃ a b len cap lb cb p l, GIn W cs p l a b len cap lb cb := by
  obtain ⟨v0, v1, rfl⟩ := two_of hs
  obtain ⟨y0, y1, k, _, _, g0, g1⟩ := trod_struct2 Tryd.underlying25 h
  simp [cellsENS, cellsIntS6] at g0 g1
  obtain ⟨a, len, cap, rfl, p, s1, s2, s3, s4⟩ := enodes_in g0
  obtain ⟨b, lb, cb, l, rfl, t1, t2, t3⟩ := ints6_in g1
  exact ⟨a, b, len, cap, lb, cb, p, l, rfl, s1, t1, ⟨s2, s3⟩, ⟨t2, t3⟩, s4⟩
end Go.Proofs.YtmbggaepckgogaaDoor
namespace Go.Proofs.YtmbggaepckgogaaDoor
open Go.ChangeShapes Go.WideShapes Go.ChangeAt Go.RowKit
set_option linter.unusedVariables false

end Go.Proofs.YtmbggaepckgogaaDoor
