/-
  PROVED HERE: what the model's l1Put leaves, at every row of numbers. No other condition.
-/
import Derived.Test.YtlpefaaohcgboaaDoorPut
import Derived.Test.YtlpefaaohcgboaaDoorGood
namespace Go.Proofs.YtlpefaaohcgboaaDoor
open Go.ChangeShapes Go.WideShapes Go.ChangeAt Go.RowKit
set_option linter.unusedVariables false

/-- Whatever the row is. -/
theorem put_any (base : Nat) (v : Value) (len : Nat) (l : List Int) (n : Int) (w : World) (h : w.ownsRow base 3 1 v len (vals l)) (hb : base ≤ w.heap.size) (hn : len ≤ 1048576) :
    Calls Tryd.prog 71 #[v, .int .i64 n] w fun e w' => ∃ v' : Value, e = .returned v' ∧ w'.ownsRow base 3 1 v' (putL l n).length (vals (putL l n)) ∧ Below w.heap.size w w' := by
  have hll : l.length = len := by have := h.1; rw [vals_len] at this; omega
  rcases h.2 with ⟨rfl, rfl⟩ | ⟨g, cap, cur, rfl, hg, hgs, hc, _⟩
  · obtain rfl : l = [] := List.eq_nil_of_length_eq_zero hll
    refine (put_nil n w).mono ?_
    rintro e w' ⟨v', rfl, hown, hb'⟩
    exact ⟨v', rfl, own_base hown hb, hb'⟩
  · obtain ⟨a, cap', e, hs⟩ := Sl.vals h
    cases e
    refine (put_some g cap len l n w hs hc hn).mono ?_
    rintro e w' (⟨hp, rfl, rfl⟩ | ⟨v', rfl, hown, hb'⟩)
    · refine ⟨_, rfl, ?_, Below.refl _ _⟩
      rw [hp, hll]
      exact h
    · exact ⟨v', rfl, own_base hown hb, hb'⟩

theorem putL_len (l : List Int) (n : Int) : (putL l n).length ≤ l.length + 1 := by
  unfold putL
  split
  · omega
  · have := place_le l n
    simp only [List.length_append, List.length_take, List.length_drop, List.length_cons, List.length_nil]; omega
end Go.Proofs.YtlpefaaohcgboaaDoor
