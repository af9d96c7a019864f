/-
  PROVED HERE: the table of arities stays where memory grows. No condition. what the program's GoodTerm answers, at every list of nodes, in a world whose table of arities is laid. No other condition.
-/
import Derived.Test.YtbmgflapagbkcaaDoorArAll
import Derived.OwnWalk
import Derived.Handy
import Derived.Test.YtbmgflapagbkcaaDoorGood
namespace Go.Proofs.YtbmgflapagbkcaaDoor
open Go.ChangeShapes Go.WideShapes Go.ChangeAt Go.RowKit
set_option linter.unusedVariables false
theorem Tab.keeps {w w' : World} (h : Tab w) (hb : Below w.heap.size w w') : Tab w' := fun i hi => by
  have hc := h i hi
  exact (hb.cell (p := ⟨0, i, none⟩) (World.block_lt_of_cell? w _ hc)).trans hc
end Go.Proofs.YtbmgflapagbkcaaDoor
namespace Go.Proofs.YtbmgflapagbkcaaDoor
open Go.ChangeShapes Go.WideShapes Go.ChangeAt Go.RowKit
set_option linter.unusedVariables false

/-- The program's arity of an op. -/
def arN (op : Int) : Int := if 0 ≤ ar op then ar op else 0
theorem implArity_any (op : Int) (w : World) (ht : Tab w) :
    Calls Tryd.prog 57 #[.int .i64 op] w fun e w' => e = .returned (.tuple #[.int .i64 (arN op), .bool (decide (0 ≤ ar op))]) ∧ w' = w := by
  by_cases h : 1 ≤ op ∧ op ≤ 11
  · have h0 : 0 ≤ ar op := by
      rcases ops op with h' | rfl | rfl | rfl | rfl | rfl | rfl | rfl | rfl | rfl | rfl | rfl
      · omega
      all_goals decide
    unfold arN
    rw [if_pos h0, decide_eq_true h0]
    exact implArity_in op w ht h
  · have h0 : ar op = -1 := ar_out op (by omega)
    unfold arN
    rw [h0]
    exact implArity_out op w (by omega)

/-- Does the number of a node fit its op? -/
def numFits (op n : Int) : Bool := if op = 1 then true else if op = 2 then decide (0 ≤ n ∧ n < 4) else n == 0
theorem implFits_any (op n : Int) (w : World) : Calls Tryd.prog 58 #[.agg #[.int .i64 op, .int .i64 n]] w fun e w' => e = .returned (.bool (numFits op n)) ∧ Below w.heap.size w w' := by
  by_cases h1 : op = 1
  · subst h1
    go_enter Tryd.func58, Tryd.ntmps58
    go_wp2
    go_ret
    exact ⟨rfl, by first | exact Below.refl _ _ | go_grown⟩
  · by_cases h2 : op = 2
    · subst h2
      have e : numFits 2 n = decide (0 ≤ n ∧ n < 4) := rfl
      rw [e]
      by_cases h3 : 0 ≤ n
      · by_cases h4 : n < 4
        · rw [decide_eq_true ⟨h3, h4⟩]
          go_enter Tryd.func58, Tryd.ntmps58
          go_wp2
          go_ret
          exact ⟨rfl, by first | exact Below.refl _ _ | go_grown⟩
        · rw [decide_eq_false (by omega)]
          go_enter Tryd.func58, Tryd.ntmps58
          go_wp2
          go_ret
          exact ⟨by simp, by first | exact Below.refl _ _ | go_grown⟩
      · rw [decide_eq_false (by omega)]
        go_enter Tryd.func58, Tryd.ntmps58
        go_wp2
        go_ret
        exact ⟨rfl, by first | exact Below.refl _ _ | go_grown⟩
    · have e : numFits op n = (n == 0) := by unfold numFits; rw [if_neg h1, if_neg h2]
      have i1 : (op == 1) = false := by simpa using h1
      have i2 : (op == 2) = false := by simpa using h2
      rw [e]
      go_enter Tryd.func58, Tryd.ntmps58
      go_wp2
      go_ret
      exact ⟨rfl, by first | exact Below.refl _ _ | go_grown⟩

theorem fits_eq (op p n : Int) : fits (ar op) p op n = (decide (0 ≤ ar op) && numFits op n && decide (arN op ≤ p)) := by
  unfold arN
  by_cases h0 : 0 ≤ ar op
  · rw [if_pos h0]
    rcases ops op with h' | rfl | rfl | h'
    · have := ar_out op h'; omega
    · rw [show ar 1 = 0 from rfl]
      simp [fits, numFits]
      by_cases hp : p < 0 <;> simp [hp] <;> omega
    · rw [show ar 2 = 0 from rfl]
      simp [fits, numFits]
      by_cases hp : p < 0 <;> by_cases h1 : n < 0 <;> by_cases h2 : 4 ≤ n <;> simp [hp, h1, h2] <;> omega
    · have hm : 0 < ar op := by rcases h' with rfl | rfl | rfl | rfl | rfl | rfl | rfl | rfl | rfl <;> decide
      have e1 : op ≠ 1 := by omega
      have e2 : op ≠ 2 := by omega
      have e3 : (op == 2) = false := by simpa using e2
      unfold fits numFits
      rw [if_neg e1, if_neg e2, e3]
      generalize ar op = m at h0 hm
      have e4 : decide (m ≤ p) = !decide (p < m) := by
        by_cases hp : p < m
        · rw [decide_eq_true hp, decide_eq_false (by omega)]; rfl
        · rw [decide_eq_false hp, decide_eq_true (by omega)]; rfl
      have e5 : decide (m < 0) = false := decide_eq_false (by omega)
      rw [e4, e5, decide_eq_true h0, decide_eq_true hm]
      cases decide (p < m) <;> cases hn : (n == 0) <;> simp [bne, hn]
  · have : ar op < 0 := by omega
    simp [fits, this, h0]

end Go.Proofs.YtbmgflapagbkcaaDoor
