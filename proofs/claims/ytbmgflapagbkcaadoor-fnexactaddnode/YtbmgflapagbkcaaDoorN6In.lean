/-
  PROVED HERE: a node that came in, opened by the form's own reading, holds its op, its number within 64 bits and its kids. No condition.
-/
import Derived.Test.YtbmgflapagbkcaaDoorE6In
namespace Go.Proofs.YtbmgflapagbkcaaDoor
open Go.ChangeShapes Go.WideShapes Go.ChangeAt Go.RowKit
set_option linter.unusedVariables false

theorem three_ofA {cs : Array Value} (h : cs.size = 3) : ∃ v0 v1 v2, cs = #[v0, v1, v2] := by
  obtain ⟨cs⟩ := cs
  match cs, h with
  | [a, b, c], _ => exact ⟨a, b, c, rfl⟩
/-- A node that came in. -/
def ENIn (W : World) (cs : Array Value) (x n : Int) (l : List Int) (a : Option Addr) (len cap : Nat) : Prop := cs = #[.int .i64 x, .int .i64 n, .slice a len cap] ∧ Sl W a len l ∧ (len ≤ cap ∧ cap ≤ maxLen) ∧ InI n
theorem enode_in {H : Type} {enc : TypeId × Value → H} {W : World} {base : Nat} {sp : Nat → Bool} {held : Bool} {fuel : Nat} {cs : Array Value} {x : DataW H × List MemPlace} (hs : cs.size = 3)
    (h : DataW.trod enc Tryd.prog W base sp held fuel 27 cs.toList = some x) : ∃ y n l a len cap, ENIn W cs y n l a len cap := by
  obtain ⟨v0, v1, v2, rfl⟩ := three_ofA hs
  obtain ⟨y0, y1, y2, k, _, _, g0, g1, g2⟩ := Go.Deep.trod_struct3 Tryd.underlying27 h
  simp [cellsInt6, cellsI646, cellsIntS6] at g0 g1 g2
  obtain ⟨n0, f0, _, _⟩ := DataW.trod_int Tryd.underlying3 g0
  obtain ⟨n1, f1, _, hwf⟩ := DataW.trod_int Tryd.underlying2 g1
  obtain ⟨ai, li, ci, l, f2, s1, s2, s3⟩ := ints6_in g2
  simp only [List.cons.injEq, and_true] at f0 f1
  subst f0
  subst f1
  subst f2
  exact ⟨n0, n1, l, ai, li, ci, rfl, s1, ⟨s2, s3⟩, wf6_in hwf⟩
end Go.Proofs.YtbmgflapagbkcaaDoor
