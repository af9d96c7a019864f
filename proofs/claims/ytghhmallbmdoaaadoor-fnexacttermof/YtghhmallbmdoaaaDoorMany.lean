/-
  PROVED HERE: plain facts on slices of slices of nodes in memory. No condition.
-/
import Derived.Test.YtghhmallbmdoaaaDoorMade
namespace Go.Proofs.YtghhmallbmdoaaaDoor
open Go.ChangeShapes Go.WideShapes Go.ChangeAt Go.RowKit
set_option linter.unusedVariables false

/-- The slice (a, len) of lists of nodes holds the lists ls in the world w. -/
def NNSl (w : World) (a : Option Addr) (len : Nat) (ls : List (List (Int × Int))) : Prop :=
  ls.length = len ∧ (len = 0 ∨ ∃ b off, a = some ⟨b, off, none⟩ ∧ b < w.heap.size ∧ ∀ i, i < len → ∃ ai li ci, w.cell? ⟨b, off + i, none⟩ = some (.slice ai li ci) ∧ li ≤ 9223372036854775807 ∧ li ≤ ci ∧ NSl w ai li (ls.getD i []))
theorem NNSl.keep {w w' : World} {a : Option Addr} {len : Nat} {ls : List (List (Int × Int))} (h : NNSl w a len ls) (hb : Below w.heap.size w w') : NNSl w' a len ls := by
  refine ⟨h.1, ?_⟩
  rcases h.2 with h0 | ⟨b, off, ha, hlt, hc⟩
  · exact .inl h0
  · refine .inr ⟨b, off, ha, Nat.lt_of_lt_of_le hlt hb.size, fun i hi => ?_⟩
    obtain ⟨ai, li, ci, h1, h2, h2', h3⟩ := hc i hi
    exact ⟨ai, li, ci, (hb.cell (p := ⟨b, off + i, none⟩) hlt).trans h1, h2, h2', h3.keep hb⟩
theorem NNSl.at {w : World} {a : Option Addr} {len : Nat} {ls : List (List (Int × Int))} (h : NNSl w a len ls) (h0 : 0 < len) :
    ∃ b off, a = some ⟨b, off, none⟩ ∧ b < w.heap.size ∧ ∀ i, i < len → ∃ ai li ci, w.cell? ⟨b, off + i, none⟩ = some (.slice ai li ci) ∧ li ≤ 9223372036854775807 ∧ li ≤ ci ∧ NSl w ai li (ls.getD i []) := by
  rcases h.2 with h1 | h1
  · omega
  · exact h1
/-- The first n lists, one behind the other. -/
def cat (ls : List (List (Int × Int))) (n : Nat) : List (Int × Int) := (ls.take n).flatten
theorem cat_zero (ls : List (List (Int × Int))) : cat ls 0 = [] := rfl
theorem cat_succ (ls : List (List (Int × Int))) (n : Nat) (h : n < ls.length) : cat ls (n + 1) = cat ls n ++ ls.getD n [] := by
  unfold cat
  rw [List.take_succ_eq_append_getElem h, List.flatten_append, List.getD_eq_getElem?_getD, List.getElem?_eq_getElem h]
  simp
theorem node_row (w : World) (x y : Int) : NSl (w.alloc (.cells #[.int .i64 x, .int .i64 y] 42)) (some ⟨w.heap.size, 0, none⟩) 1 [(x, y)] := by
  refine ⟨rfl, .inr ⟨w.heap.size, 0, rfl, by simp, fun i hi => ?_⟩⟩
  obtain rfl : i = 0 := by omega
  constructor <;> simp [go_sem]
theorem node_row_at (w : World) (s : Nat) (hs : w.heap.size = s) (x y : Int) : NSl (w.alloc (.cells #[.int .i64 x, .int .i64 y] 42)) (some ⟨s, 0, none⟩) 1 [(x, y)] := by
  subst hs
  exact node_row w x y
end Go.Proofs.YtghhmallbmdoaaaDoor
