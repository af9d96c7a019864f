/-
  PROVED HERE: a rule that came in, opened by the form's own reading, holds its two lists of nodes, whose numbers lie within 64 bits. No condition.
-/
import Derived.Test.YtkadanagmahhgaaDoorTextIn
import Derived.Deep.SlicePairs
import Derived.Deep.Strs
namespace Go.Proofs.YtkadanagmahhgaaDoor
open Go.ChangeShapes Go.WideShapes Go.ChangeAt Go.RowKit
set_option linter.unusedVariables false

theorem cellsRuleL : Tryd.prog.cellsOf 24 = 2 := by kernel_rfl
theorem cellsNodesL : Tryd.prog.cellsOf 22 = 1 := by kernel_rfl
theorem two_ofR {cs : Array Value} (h : cs.size = 2) : ∃ v0 v1, cs = #[v0, v1] := by
  obtain ⟨cs⟩ := cs
  match cs, h with
  | [a, b], _ => exact ⟨a, b, rfl⟩
theorem nodesV_in {H : Type} {enc : TypeId × Value → H} {W : World} {base : Nat} {sp : Nat → Bool} {held : Bool} {fuel : Nat} {v : Value} {x : DataW H × List MemPlace}
    (h : DataW.trod enc Tryd.prog W base sp held fuel 22 [v] = some x) : ∃ a len cap l, v = .slice a len cap ∧ NSl W a len l ∧ len ≤ cap ∧ cap ≤ maxLen ∧ InN l := by
  obtain ⟨a, len, cap, rfl⟩ : ∃ a len cap, v = .slice a len cap := by
    rcases Go.Deep.open_slice Tryd.underlying22 h with ⟨e, _⟩ | ⟨y, len, cap, m, n, D, Pl, e, _⟩
    · simp only [List.cons.injEq, and_true] at e
      exact ⟨_, _, _, e⟩
    · simp only [List.cons.injEq, and_true] at e
      exact ⟨_, _, _, e⟩
  obtain ⟨l, h1, h2, h3, h4⟩ := nodes_inN h
  exact ⟨a, len, cap, l, rfl, h1, h2, h3, h4⟩
/-- A rule that came in. -/
def RIn (W : World) (cs : Array Value) (p q : List (Int × Int)) (a b : Option Addr) (len cap lb cb : Nat) : Prop := cs = #[.slice a len cap, .slice b lb cb] ∧ NSl W a len p ∧ NSl W b lb q ∧ (len ≤ cap ∧ cap ≤ maxLen) ∧ (lb ≤ cb ∧ cb ≤ maxLen) ∧ InN p ∧ InN q
theorem rule_in {H : Type} {enc : TypeId × Value → H} {W : World} {base : Nat} {sp : Nat → Bool} {held : Bool} {fuel : Nat} {cs : Array Value} {x : DataW H × List MemPlace} (hs : cs.size = 2)
    (h : DataW.trod enc Tryd.prog W base sp held fuel 24 cs.toList = some x) : ∃ a b len cap lb cb p q, RIn W cs p q a b len cap lb cb := by
  obtain ⟨v0, v1, rfl⟩ := two_ofR hs
  obtain ⟨y0, y1, k, _, _, g0, g1⟩ := trod_struct2 Tryd.underlying24 h
  simp [cellsNodesL] at g0 g1
  obtain ⟨a, len, cap, p, rfl, s1, s2, s3, s4⟩ := nodesV_in g0
  obtain ⟨b, lb, cb, q, rfl, t1, t2, t3, t4⟩ := nodesV_in g1
  exact ⟨a, b, len, cap, lb, cb, p, q, rfl, s1, t1, ⟨s2, s3⟩, ⟨t2, t3⟩, s4, t4⟩
end Go.Proofs.YtkadanagmahhgaaDoor
