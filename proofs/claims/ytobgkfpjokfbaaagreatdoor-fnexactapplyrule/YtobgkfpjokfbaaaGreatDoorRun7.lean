/-
  PROVED HERE: a list of nodes that came in, opened by the form's own reading, holds its nodes, whose numbers lie within 64 bits. No condition. a rule that came in, opened by the form's own reading, holds its two lists of nodes, whose numbers lie within 64 bits. No condition. a place (a class and a bind) that came in, opened by the form's own reading, holds its class and its bind. No condition.
-/
import Derived.Test.YtobgkfpjokfbaaaGreatDoorRun5
import Derived.Test.YtobgkfpjokfbaaaGreatDoorRun6
import Derived.Deep.SlicePairs
import Derived.Deep.Strs
import Derived.Test.YtobgkfpjokfbaaaGreatDoorRun4
namespace Go.Proofs.YtobgkfpjokfbaaaGreatDoor
open Go.ChangeShapes Go.WideShapes Go.ChangeAt Go.RowKit
set_option linter.unusedVariables false
theorem wf_in {z : Int} (h : (Lit.int .i64 z).wf = true) : -9223372036854775808 ≤ z ∧ z ≤ 9223372036854775807 := by
  simp only [Lit.wf, Bool.and_eq_true, decide_eq_true_eq] at h
  have e1 : IntKind.i64.min = -9223372036854775808 := by decide
  have e2 : IntKind.i64.max = 9223372036854775807 := by decide
  omega
theorem nodes_inN {H : Type} {enc : TypeId × Value → H} {W : World} {base : Nat} {sp : Nat → Bool} {held : Bool} {fuel : Nat} {a : Option Addr} {len cap : Nat} {x : DataW H × List MemPlace}
    (h : DataW.trod enc Tryz.prog W base sp held fuel 26 [.slice a len cap] = some x) : ∃ l : List (Int × Int), NSl W a len l ∧ len ≤ cap ∧ cap ≤ maxLen ∧ InN l := by
  rcases Go.Deep.open_slice_pairs Tryz.underlying26 Tryz.underlying85 cellsNode rfl rfl cellsInt cellsInt64 h with ⟨e, _⟩ | ⟨y, len', cap', m, n, V0, V1, D0, D1, P0, P1, e, _, hl, hm, hmm, _, hx⟩
  · simp only [List.cons.injEq, Value.slice.injEq, and_true] at e
    obtain ⟨rfl, rfl, rfl⟩ := e
    exact ⟨[], ⟨rfl, .inl rfl⟩, Nat.le_refl _, Nat.zero_le _, fun k => ⟨by show (-9223372036854775808 : Int) ≤ 0; decide, by show (0 : Int) ≤ 9223372036854775807; decide⟩⟩
  · simp only [List.cons.injEq, Value.slice.injEq, and_true] at e
    obtain ⟨rfl, rfl, rfl⟩ := e
    have hlm : len ≤ m := by rw [hmm]; split <;> omega
    have each : ∀ i, i < len → ∃ q : Int × Int, W.cell? (y.add (i * 2)) = some (.int .i64 q.1) ∧ W.cell? (y.add (i * 2 + 1)) = some (.int .i64 q.2) ∧ -9223372036854775808 ≤ q.2 ∧ q.2 ≤ 9223372036854775807 := by
      intro i hi
      obtain ⟨h1, h2, h3, h4⟩ := hx i (by omega)
      obtain ⟨n0, e0, _⟩ := DataW.trod_int Tryz.underlying3 h3
      obtain ⟨n1, e1, _, hwf⟩ := DataW.trod_int Tryz.underlying2 h4
      simp only [List.cons.injEq, and_true] at e0 e1
      rw [e0] at h1
      rw [e1] at h2
      exact ⟨(n0, n1), h1, h2, wf_in hwf⟩
    obtain ⟨q, hq⟩ := Go.Deep.choose_lt each
    refine ⟨(List.range len).map q, ⟨by simp, ?_⟩, hl, hm, fun k => ?_⟩
    · by_cases h0 : len = 0
      · exact .inl h0
      obtain ⟨b, off, spot⟩ := y
      have hspot : spot = none := by simpa [Addr.add] using World.cell?_spot (hq 0 (by omega)).1
      subst hspot
      refine .inr ⟨b, off, rfl, ?_, fun i hi => ?_⟩
      · have := World.block_lt_of_cell? W _ (hq 0 (by omega)).1
        simpa [Addr.add] using this
      · have e : ((List.range len).map q).getD i (0, 0) = q i := by simp [List.getD_eq_getElem?_getD, hi]
        rw [e]
        have := hq i hi
        rw [add_at, add_at] at this
        exact ⟨this.1, by rw [Nat.add_assoc]; exact this.2.1⟩
    · by_cases hk : k < len
      · have e : ((List.range len).map q).getD k (0, 0) = q k := by simp [List.getD_eq_getElem?_getD, hk]
        rw [e]; exact (hq k hk).2.2
      · have e : ((List.range len).map q).getD k (0, 0) = (0, 0) := by simp [List.getD_eq_getElem?_getD, hk]
        rw [e]; exact ⟨by decide, by decide⟩
end Go.Proofs.YtobgkfpjokfbaaaGreatDoor
namespace Go.Proofs.YtobgkfpjokfbaaaGreatDoor
open Go.ChangeShapes Go.WideShapes Go.ChangeAt Go.RowKit
set_option linter.unusedVariables false

theorem cellsRuleL : Tryz.prog.cellsOf 28 = 2 := by kernel_rfl
theorem cellsNodesL : Tryz.prog.cellsOf 26 = 1 := by kernel_rfl
theorem two_ofR {cs : Array Value} (h : cs.size = 2) : ∃ v0 v1, cs = #[v0, v1] := by
  obtain ⟨cs⟩ := cs
  match cs, h with
  | [a, b], _ => exact ⟨a, b, rfl⟩
theorem nodesV_in {H : Type} {enc : TypeId × Value → H} {W : World} {base : Nat} {sp : Nat → Bool} {held : Bool} {fuel : Nat} {v : Value} {x : DataW H × List MemPlace}
    (h : DataW.trod enc Tryz.prog W base sp held fuel 26 [v] = some x) : ∃ a len cap l, v = .slice a len cap ∧ NSl W a len l ∧ len ≤ cap ∧ cap ≤ maxLen ∧ InN l := by
  obtain ⟨a, len, cap, rfl⟩ : ∃ a len cap, v = .slice a len cap := by
    rcases Go.Deep.open_slice Tryz.underlying26 h with ⟨e, _⟩ | ⟨y, len, cap, m, n, D, Pl, e, _⟩
    · simp only [List.cons.injEq, and_true] at e
      exact ⟨_, _, _, e⟩
    · simp only [List.cons.injEq, and_true] at e
      exact ⟨_, _, _, e⟩
  obtain ⟨l, h1, h2, h3, h4⟩ := nodes_inN h
  exact ⟨a, len, cap, l, rfl, h1, h2, h3, h4⟩
/-- A rule that came in. -/
def RIn (W : World) (cs : Array Value) (p q : List (Int × Int)) (a b : Option Addr) (len cap lb cb : Nat) : Prop := cs = #[.slice a len cap, .slice b lb cb] ∧ NSl W a len p ∧ NSl W b lb q ∧ (len ≤ cap ∧ cap ≤ maxLen) ∧ (lb ≤ cb ∧ cb ≤ maxLen) ∧ InN p ∧ InN q
theorem rule_in {H : Type} {enc : TypeId × Value → H} {W : World} {base : Nat} {sp : Nat → Bool} {held : Bool} {fuel : Nat} {cs : Array Value} {x : DataW H × List MemPlace} (hs : cs.size = 2)
    (h : DataW.trod enc Tryz.prog W base sp held fuel 28 cs.toList = some x) : ∃ a b len cap lb cb p q, RIn W cs p q a b len cap lb cb := by
  obtain ⟨v0, v1, rfl⟩ := two_ofR hs
  obtain ⟨y0, y1, k, _, _, g0, g1⟩ := trod_struct2 Tryz.underlying28 h
  simp [cellsNodesL] at g0 g1
  obtain ⟨a, len, cap, p, rfl, s1, s2, s3, s4⟩ := nodesV_in g0
  obtain ⟨b, lb, cb, q, rfl, t1, t2, t3, t4⟩ := nodesV_in g1
  exact ⟨a, b, len, cap, lb, cb, p, q, rfl, s1, t1, ⟨s2, s3⟩, ⟨t2, t3⟩, s4, t4⟩
end Go.Proofs.YtobgkfpjokfbaaaGreatDoor
namespace Go.Proofs.YtobgkfpjokfbaaaGreatDoor
open Go.ChangeShapes Go.WideShapes Go.ChangeAt Go.RowKit
set_option linter.unusedVariables false

theorem two_ofF {cs : Array Value} (h : cs.size = 2) : ∃ v0 v1, cs = #[v0, v1] := by
  obtain ⟨cs⟩ := cs
  match cs, h with
  | [a, b], _ => exact ⟨a, b, rfl⟩
theorem cellsFoundL : Tryz.prog.cellsOf 30 = 2 := by kernel_rfl
/-- A place that came in. -/
def FoIn (W : World) (cs : Array Value) (x : Int) (l : List Int) (a : Option Addr) (len cap : Nat) : Prop := cs = #[.int .i64 x, .slice a len cap] ∧ Sl W a len l ∧ (len ≤ cap ∧ cap ≤ maxLen)
theorem found_in {H : Type} {enc : TypeId × Value → H} {W : World} {base : Nat} {sp : Nat → Bool} {held : Bool} {fuel : Nat} {cs : Array Value} {x : DataW H × List MemPlace} (hs : cs.size = 2)
    (h : DataW.trod enc Tryz.prog W base sp held fuel 30 cs.toList = some x) : ∃ y l a len cap, FoIn W cs y l a len cap := by
  obtain ⟨v0, v1, rfl⟩ := two_ofF hs
  obtain ⟨y0, y1, k, _, _, g0, g1⟩ := trod_struct2 Tryz.underlying30 h
  simp [cellsInt6, cellsIntS6] at g0 g1
  obtain ⟨n0, f0, _, _⟩ := DataW.trod_int Tryz.underlying3 g0
  obtain ⟨ai, li, ci, l, f2, s1, s2, s3⟩ := ints6_in g1
  simp only [List.cons.injEq, and_true] at f0
  subst f0
  subst f2
  exact ⟨n0, l, ai, li, ci, rfl, s1, ⟨s2, s3⟩⟩
end Go.Proofs.YtobgkfpjokfbaaaGreatDoor
