/-
  PROVED HERE: what the functions on arities answer, the program's and the model's, at every op; in a world whose table of arities is laid. No other condition.
-/
import Derived.Test.YtemlghfcfploaaaDoorRows
import Derived.WalkKit
import Derived.ProofKit
import Derived.OpenShut
import Derived.Handy
namespace Go.Proofs.YtemlghfcfploaaaDoor
open Go.ChangeShapes Go.WideShapes Go.ChangeAt Go.RowKit
set_option linter.unusedVariables false

/-- How many arguments an op has; -1: it is none. -/
def ar (op : Int) : Int := if op < 1 then -1 else if op ≤ 2 then 0 else if op = 3 then 1 else if op ≤ 10 then 2 else if op = 11 then 3 else -1
theorem ops (op : Int) : (op < 1 ∨ 11 < op) ∨ op = 1 ∨ op = 2 ∨ op = 3 ∨ op = 4 ∨ op = 5 ∨ op = 6 ∨ op = 7 ∨ op = 8 ∨ op = 9 ∨ op = 10 ∨ op = 11 := by omega
theorem ar_out (op : Int) (h : op < 1 ∨ 11 < op) : ar op = -1 := by
  unfold ar; split <;> (try rfl)
  rw [if_neg (by omega), if_neg (by omega), if_neg (by omega), if_neg (by omega)]

theorem l1Arity_out (op : Int) (w : World) (h : op < 1 ∨ 11 < op) :
    Calls Tryd.prog 18 #[.int .i64 op] w fun e w' => e = .returned (.int .i64 (-1)) ∧ w' = w := by
  have h1 : (op == 1) = false := by simp; omega
  have h2 : (op == 2) = false := by simp; omega
  have h3 : (op == 3) = false := by simp; omega
  have h11 : (op == 11) = false := by simp; omega
  rcases h with h | h
  · have h4 : ¬ 4 ≤ op := by omega
    go_enter Tryd.func18, Tryd.ntmps18
    go_wp2
    go_ret
    exact ⟨rfl, rfl⟩
  · have h4 : 4 ≤ op := by omega
    have h5 : ¬ op ≤ 10 := by omega
    go_enter Tryd.func18, Tryd.ntmps18
    go_wp2
    go_ret
    exact ⟨rfl, rfl⟩

theorem l1Arity_any (op : Int) (w : World) :
    Calls Tryd.prog 18 #[.int .i64 op] w fun e w' => e = .returned (.int .i64 (ar op)) ∧ w' = w := by
  rcases ops op with h | rfl | rfl | rfl | rfl | rfl | rfl | rfl | rfl | rfl | rfl | rfl
  · rw [ar_out op h]; exact l1Arity_out op w h
  all_goals
    go_enter Tryd.func18, Tryd.ntmps18
    go_wp2
    go_ret
    exact ⟨rfl, rfl⟩

end Go.Proofs.YtemlghfcfploaaaDoor
