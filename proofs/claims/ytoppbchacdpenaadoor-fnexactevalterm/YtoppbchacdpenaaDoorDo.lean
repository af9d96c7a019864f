/-
  PROVED HERE: what DoOp answers, the program's and the model's, at every op and every list of numbers; in a world whose table of arities is laid. No other condition.
-/
import Derived.Test.YtoppbchacdpenaaDoorAr
import Derived.Test.YtoppbchacdpenaaDoorMath
import Derived.Test.YtoppbchacdpenaaDoorCopy
namespace Go.Proofs.YtoppbchacdpenaaDoor
open Go.ChangeShapes Go.WideShapes Go.ChangeAt Go.RowKit
open Odd
set_option linter.unusedVariables false
attribute [local go_sem] andu63 and63

def sel (x y z : Int) : Int := if x = 0 then z else y
def bone (b : Bool) : Int := if b = true then 1 else 0
/-- What an op makes of its arguments. -/
def dv (op x y z : Int) : Int :=
  if op = 3 then wrap64 (-x) else if op = 4 then wrap64 (x + y) else if op = 5 then wrap64 (x - y) else if op = 6 then wrap64 (x * y)
  else if op = 7 then wrap64 (x * 2 ^ (y % 64).toNat) else if op = 8 then (if y = 0 then 0 else wrap64 (x.tdiv y))
  else if op = 9 then bone (x == y) else if op = 10 then bone (decide (x < y)) else sel x y z
/-- Does it trap? -/
def dt (op y : Int) : Bool := op == 8 && y == 0

theorem u64_mod (y : Int) : IntKind.u64.wrap y % 64 = y % 64 := by
  rw [IntKind.wrap_u64]; omega

theorem one_any (b : Bool) (w : World) : Calls Tryd.prog 68 #[.bool b] w fun e w' => e = .returned (.int .i64 (bone b)) ∧ w' = w := by
  cases b <;> go_enter Tryd.func68, Tryd.ntmps68
  all_goals
    go_wp2
    go_ret
    exact ⟨rfl, rfl⟩
theorem bool_any (b : Bool) (w : World) : Calls Tryd.prog 63 #[.bool b] w fun e w' => e = .returned (.int .i64 (bone b)) ∧ w' = w := by
  cases b <;> go_enter Tryd.func63, Tryd.ntmps63
  all_goals
    go_wp2
    go_ret
    exact ⟨rfl, rfl⟩
theorem quo_zero (x : Int) (w : World) : Calls Tryd.prog 65 #[.int .i64 x, .int .i64 0] w fun e w' => e = .returned (.tuple #[.int .i64 0, .bool true]) ∧ w' = w := by
  go_enter Tryd.func65, Tryd.ntmps65
  go_wp2
  go_ret2
  exact ⟨rfl, rfl⟩
theorem quo_any (x y : Int) (w : World) (h : y ≠ 0) : Calls Tryd.prog 65 #[.int .i64 x, .int .i64 y] w fun e w' => e = .returned (.tuple #[.int .i64 (wrap64 (x.tdiv y)), .bool false]) ∧ w' = w := by
  have h' : (y == 0) = false := by simpa using h
  go_enter Tryd.func65, Tryd.ntmps65
  go_wp2
  go_ret2
  exact ⟨rfl, rfl⟩
theorem div_any (x y : Int) (w : World) (h : y ≠ 0) : Calls Tryd.prog 62 #[.int .i64 x, .int .i64 y] w fun e w' => e = .returned (.int .i64 (wrap64 (x.tdiv y))) ∧ w' = w := by
  by_cases h1 : y = -1
  · subst h1
    go_enter Tryd.func62, Tryd.ntmps62
    go_wp2
    go_ret
    exact ⟨by rw [Int.tdiv_neg, Int.tdiv_one]; rfl, rfl⟩
  · have h' : (y == -1) = false := by simpa using h1
    go_enter Tryd.func62, Tryd.ntmps62
    go_wp2
    go_ret
    exact ⟨rfl, rfl⟩
theorem chosen_any (x y z : Int) (w : World) : Calls Tryd.prog 66 #[.int .i64 x, .int .i64 y, .int .i64 z] w fun e w' => e = .returned (.int .i64 (sel x y z)) ∧ w' = w := by
  unfold sel
  by_cases h : x = 0
  · subst h
    go_enter Tryd.func66, Tryd.ntmps66
    go_wp2
    go_ret
    exact ⟨rfl, rfl⟩
  · have h' : (x != 0) = true := by simpa using h
    rw [if_neg h]
    go_enter Tryd.func66, Tryd.ntmps66
    go_wp2
    go_ret
    exact ⟨rfl, rfl⟩

theorem pair4 (x y : Int) (w : World) : Calls Tryd.prog 67 #[.int .i64 4, .int .i64 x, .int .i64 y] w fun e w' => e = .returned (.int .i64 (wrap64 (x + y))) ∧ w' = w := by
  go_enter Tryd.func67, Tryd.ntmps67
  go_wp2
  go_ret
  exact ⟨rfl, rfl⟩
theorem pair5 (x y : Int) (w : World) : Calls Tryd.prog 67 #[.int .i64 5, .int .i64 x, .int .i64 y] w fun e w' => e = .returned (.int .i64 (wrap64 (x - y))) ∧ w' = w := by
  go_enter Tryd.func67, Tryd.ntmps67
  go_wp2
  go_ret
  exact ⟨rfl, rfl⟩
theorem pair6 (x y : Int) (w : World) : Calls Tryd.prog 67 #[.int .i64 6, .int .i64 x, .int .i64 y] w fun e w' => e = .returned (.int .i64 (wrap64 (x * y))) ∧ w' = w := by
  go_enter Tryd.func67, Tryd.ntmps67
  go_wp2
  go_ret
  exact ⟨rfl, rfl⟩
theorem pair7 (x y : Int) (w : World) : Calls Tryd.prog 67 #[.int .i64 7, .int .i64 x, .int .i64 y] w fun e w' => e = .returned (.int .i64 (wrap64 (x * 2 ^ (y % 64).toNat))) ∧ w' = w := by
  go_enter Tryd.func67, Tryd.ntmps67
  go_wp2
  go_ret
  exact ⟨by rw [← u64_mod y]; rfl, rfl⟩
theorem pair9 (x y : Int) (w : World) : Calls Tryd.prog 67 #[.int .i64 9, .int .i64 x, .int .i64 y] w fun e w' => e = .returned (.int .i64 (bone (x == y))) ∧ w' = w := by
  go_enter Tryd.func67, Tryd.ntmps67
  go_wp2_with (go_at_call 68; refine (one_any _ _).mono ?_; rintro e w' ⟨rfl, rfl⟩)
  go_ret
  exact ⟨rfl, rfl⟩
theorem pair10 (x y : Int) (w : World) : Calls Tryd.prog 67 #[.int .i64 10, .int .i64 x, .int .i64 y] w fun e w' => e = .returned (.int .i64 (bone (decide (x < y)))) ∧ w' = w := by
  go_enter Tryd.func67, Tryd.ntmps67
  go_wp2_with (go_at_call 68; refine (one_any _ _).mono ?_; rintro e w' ⟨rfl, rfl⟩)
  go_ret
  exact ⟨rfl, rfl⟩
theorem implDo3 (b off cap : Nat) (x : Int) (w : World) (ht : Tab w) (c0 : w.cell? ⟨b, off, none⟩ = some (.int .i64 x)) :
    Calls Tryd.prog 64 #[.int .i64 3, .slice (some ⟨b, off, none⟩) 1 cap] w fun e w' => e = .returned (.tuple #[.int .i64 (wrap64 (-x)), .bool false, .bool true]) ∧ Below w.heap.size w w' := by
  have ha : Calls Tryd.prog 38 #[.int .i64 3] w fun e w' => e = .returned (.tuple #[.int .i64 1, .bool true]) ∧ w' = w := implArity_in 3 w ht (by decide)
  go_enter Tryd.func64, Tryd.ntmps64
  go_wp2_with (go_at_call 38; refine ha.mono ?_; rintro e w' ⟨rfl, rfl⟩)
  clear ht ha
  go_ret3
  exact ⟨rfl, Below.refl _ _⟩
theorem specDo3 (b off cap : Nat) (x : Int) (w : World) (c0 : w.cell? ⟨b, off, none⟩ = some (.int .i64 x)) :
    Calls Tryd.prog 56 #[.int .i64 3, .slice (some ⟨b, off, none⟩) 1 cap] w fun e w' => e = .returned (.tuple #[.int .i64 (wrap64 (-x)), .bool false]) ∧ Below w.heap.size w w' := by
  go_enter Tryd.func56, Tryd.ntmps56
  go_wp2
  go_ret2
  exact ⟨rfl, Below.refl _ _⟩
theorem implDo4 (b off cap : Nat) (x y : Int) (w : World) (ht : Tab w) (c0 : w.cell? ⟨b, off, none⟩ = some (.int .i64 x)) (c1 : w.cell? ⟨b, off + 1, none⟩ = some (.int .i64 y)) :
    Calls Tryd.prog 64 #[.int .i64 4, .slice (some ⟨b, off, none⟩) 2 cap] w fun e w' => e = .returned (.tuple #[.int .i64 (wrap64 (x + y)), .bool false, .bool true]) ∧ Below w.heap.size w w' := by
  have ha : Calls Tryd.prog 38 #[.int .i64 4] w fun e w' => e = .returned (.tuple #[.int .i64 2, .bool true]) ∧ w' = w := implArity_in 4 w ht (by decide)
  go_enter Tryd.func64, Tryd.ntmps64
  go_wp2_with (go_at_call 38; refine ha.mono ?_; rintro e w' ⟨rfl, rfl⟩)
  clear ht ha
  go_quiet ((go_at_call 67; exact Calls.quiet_of_same (pair4 _ _ _)))
  go_wp2
  go_ret3
  exact ⟨rfl, below_drewN (Below.refl _ _) _⟩
theorem specDo4 (b off cap : Nat) (x y : Int) (w : World) (c0 : w.cell? ⟨b, off, none⟩ = some (.int .i64 x)) (c1 : w.cell? ⟨b, off + 1, none⟩ = some (.int .i64 y)) :
    Calls Tryd.prog 56 #[.int .i64 4, .slice (some ⟨b, off, none⟩) 2 cap] w fun e w' => e = .returned (.tuple #[.int .i64 (wrap64 (x + y)), .bool false]) ∧ Below w.heap.size w w' := by
  go_enter Tryd.func56, Tryd.ntmps56
  go_wp2
  go_quiet (fail)
  go_wp2
  go_ret2
  exact ⟨rfl, below_drewN (Below.refl _ _) _⟩
theorem implDo5 (b off cap : Nat) (x y : Int) (w : World) (ht : Tab w) (c0 : w.cell? ⟨b, off, none⟩ = some (.int .i64 x)) (c1 : w.cell? ⟨b, off + 1, none⟩ = some (.int .i64 y)) :
    Calls Tryd.prog 64 #[.int .i64 5, .slice (some ⟨b, off, none⟩) 2 cap] w fun e w' => e = .returned (.tuple #[.int .i64 (wrap64 (x - y)), .bool false, .bool true]) ∧ Below w.heap.size w w' := by
  have ha : Calls Tryd.prog 38 #[.int .i64 5] w fun e w' => e = .returned (.tuple #[.int .i64 2, .bool true]) ∧ w' = w := implArity_in 5 w ht (by decide)
  go_enter Tryd.func64, Tryd.ntmps64
  go_wp2_with (go_at_call 38; refine ha.mono ?_; rintro e w' ⟨rfl, rfl⟩)
  clear ht ha
  go_quiet ((go_at_call 67; exact Calls.quiet_of_same (pair5 _ _ _)))
  go_wp2
  go_ret3
  exact ⟨rfl, below_drewN (Below.refl _ _) _⟩
theorem specDo5 (b off cap : Nat) (x y : Int) (w : World) (c0 : w.cell? ⟨b, off, none⟩ = some (.int .i64 x)) (c1 : w.cell? ⟨b, off + 1, none⟩ = some (.int .i64 y)) :
    Calls Tryd.prog 56 #[.int .i64 5, .slice (some ⟨b, off, none⟩) 2 cap] w fun e w' => e = .returned (.tuple #[.int .i64 (wrap64 (x - y)), .bool false]) ∧ Below w.heap.size w w' := by
  go_enter Tryd.func56, Tryd.ntmps56
  go_wp2
  go_quiet (fail)
  go_wp2
  go_ret2
  exact ⟨rfl, below_drewN (Below.refl _ _) _⟩
theorem implDo6 (b off cap : Nat) (x y : Int) (w : World) (ht : Tab w) (c0 : w.cell? ⟨b, off, none⟩ = some (.int .i64 x)) (c1 : w.cell? ⟨b, off + 1, none⟩ = some (.int .i64 y)) :
    Calls Tryd.prog 64 #[.int .i64 6, .slice (some ⟨b, off, none⟩) 2 cap] w fun e w' => e = .returned (.tuple #[.int .i64 (wrap64 (x * y)), .bool false, .bool true]) ∧ Below w.heap.size w w' := by
  have ha : Calls Tryd.prog 38 #[.int .i64 6] w fun e w' => e = .returned (.tuple #[.int .i64 2, .bool true]) ∧ w' = w := implArity_in 6 w ht (by decide)
  go_enter Tryd.func64, Tryd.ntmps64
  go_wp2_with (go_at_call 38; refine ha.mono ?_; rintro e w' ⟨rfl, rfl⟩)
  clear ht ha
  go_quiet ((go_at_call 67; exact Calls.quiet_of_same (pair6 _ _ _)))
  go_wp2
  go_ret3
  exact ⟨rfl, below_drewN (Below.refl _ _) _⟩
theorem specDo6 (b off cap : Nat) (x y : Int) (w : World) (c0 : w.cell? ⟨b, off, none⟩ = some (.int .i64 x)) (c1 : w.cell? ⟨b, off + 1, none⟩ = some (.int .i64 y)) :
    Calls Tryd.prog 56 #[.int .i64 6, .slice (some ⟨b, off, none⟩) 2 cap] w fun e w' => e = .returned (.tuple #[.int .i64 (wrap64 (x * y)), .bool false]) ∧ Below w.heap.size w w' := by
  go_enter Tryd.func56, Tryd.ntmps56
  go_wp2
  go_quiet (fail)
  go_wp2
  go_ret2
  exact ⟨rfl, below_drewN (Below.refl _ _) _⟩
theorem implDo7 (b off cap : Nat) (x y : Int) (w : World) (ht : Tab w) (c0 : w.cell? ⟨b, off, none⟩ = some (.int .i64 x)) (c1 : w.cell? ⟨b, off + 1, none⟩ = some (.int .i64 y)) :
    Calls Tryd.prog 64 #[.int .i64 7, .slice (some ⟨b, off, none⟩) 2 cap] w fun e w' => e = .returned (.tuple #[.int .i64 (wrap64 (x * 2 ^ (y % 64).toNat)), .bool false, .bool true]) ∧ Below w.heap.size w w' := by
  have ha : Calls Tryd.prog 38 #[.int .i64 7] w fun e w' => e = .returned (.tuple #[.int .i64 2, .bool true]) ∧ w' = w := implArity_in 7 w ht (by decide)
  go_enter Tryd.func64, Tryd.ntmps64
  go_wp2_with (go_at_call 38; refine ha.mono ?_; rintro e w' ⟨rfl, rfl⟩)
  clear ht ha
  go_quiet ((go_at_call 67; exact Calls.quiet_of_same (pair7 _ _ _)))
  go_wp2
  go_ret3
  exact ⟨rfl, below_drewN (Below.refl _ _) _⟩
theorem specDo7 (b off cap : Nat) (x y : Int) (w : World) (c0 : w.cell? ⟨b, off, none⟩ = some (.int .i64 x)) (c1 : w.cell? ⟨b, off + 1, none⟩ = some (.int .i64 y)) :
    Calls Tryd.prog 56 #[.int .i64 7, .slice (some ⟨b, off, none⟩) 2 cap] w fun e w' => e = .returned (.tuple #[.int .i64 (wrap64 (x * 2 ^ (y % 64).toNat)), .bool false]) ∧ Below w.heap.size w w' := by
  go_enter Tryd.func56, Tryd.ntmps56
  have hm : (0 : Int) ≤ y % 64 ∧ y % 64 ≤ 63 := by omega
  obtain ⟨hm0, hm1⟩ := hm
  go_wp2
  go_quiet (fail)
  go_wp2
  go_ret2
  exact ⟨rfl, below_drewN (Below.refl _ _) _⟩
theorem implDo8zero (b off cap : Nat) (x : Int) (w : World) (ht : Tab w) (c0 : w.cell? ⟨b, off, none⟩ = some (.int .i64 x)) (c1 : w.cell? ⟨b, off + 1, none⟩ = some (.int .i64 0)) :
    Calls Tryd.prog 64 #[.int .i64 8, .slice (some ⟨b, off, none⟩) 2 cap] w fun e w' => e = .returned (.tuple #[.int .i64 (0), .bool true, .bool true]) ∧ Below w.heap.size w w' := by
  have ha : Calls Tryd.prog 38 #[.int .i64 8] w fun e w' => e = .returned (.tuple #[.int .i64 2, .bool true]) ∧ w' = w := implArity_in 8 w ht (by decide)
  go_enter Tryd.func64, Tryd.ntmps64
  go_wp2_with (go_at_call 38; refine ha.mono ?_; rintro e w' ⟨rfl, rfl⟩)
  clear ht ha
  go_quiet ((go_at_call 65; exact Calls.quiet_of_same (quo_zero _ _)))
  go_wp2
  go_ret3
  exact ⟨rfl, below_drewN (Below.refl _ _) _⟩
theorem specDo8zero (b off cap : Nat) (x : Int) (w : World) (c0 : w.cell? ⟨b, off, none⟩ = some (.int .i64 x)) (c1 : w.cell? ⟨b, off + 1, none⟩ = some (.int .i64 0)) :
    Calls Tryd.prog 56 #[.int .i64 8, .slice (some ⟨b, off, none⟩) 2 cap] w fun e w' => e = .returned (.tuple #[.int .i64 (0), .bool true]) ∧ Below w.heap.size w w' := by
  go_enter Tryd.func56, Tryd.ntmps56
  go_wp2
  go_ret2
  exact ⟨rfl, Below.refl _ _⟩
theorem implDo8any (b off cap : Nat) (x y : Int) (w : World) (ht : Tab w) (h : y ≠ 0) (c0 : w.cell? ⟨b, off, none⟩ = some (.int .i64 x)) (c1 : w.cell? ⟨b, off + 1, none⟩ = some (.int .i64 y)) :
    Calls Tryd.prog 64 #[.int .i64 8, .slice (some ⟨b, off, none⟩) 2 cap] w fun e w' => e = .returned (.tuple #[.int .i64 (wrap64 (x.tdiv y)), .bool false, .bool true]) ∧ Below w.heap.size w w' := by
  have ha : Calls Tryd.prog 38 #[.int .i64 8] w fun e w' => e = .returned (.tuple #[.int .i64 2, .bool true]) ∧ w' = w := implArity_in 8 w ht (by decide)
  go_enter Tryd.func64, Tryd.ntmps64
  go_wp2_with (go_at_call 38; refine ha.mono ?_; rintro e w' ⟨rfl, rfl⟩)
  clear ht ha
  go_quiet ((go_at_call 65; exact Calls.quiet_of_same (quo_any _ _ _ h)))
  go_wp2
  go_ret3
  exact ⟨rfl, below_drewN (Below.refl _ _) _⟩
theorem specDo8any (b off cap : Nat) (x y : Int) (w : World) (h : y ≠ 0) (c0 : w.cell? ⟨b, off, none⟩ = some (.int .i64 x)) (c1 : w.cell? ⟨b, off + 1, none⟩ = some (.int .i64 y)) :
    Calls Tryd.prog 56 #[.int .i64 8, .slice (some ⟨b, off, none⟩) 2 cap] w fun e w' => e = .returned (.tuple #[.int .i64 (wrap64 (x.tdiv y)), .bool false]) ∧ Below w.heap.size w w' := by
  have h0 : (y == 0) = false := by simpa using h
  go_enter Tryd.func56, Tryd.ntmps56
  go_wp2
  go_quiet ((go_at_call 62; exact Calls.quiet_of_same (div_any _ _ _ h)))
  go_wp2
  go_ret2
  exact ⟨rfl, below_drewN (Below.refl _ _) _⟩
theorem implDo9 (b off cap : Nat) (x y : Int) (w : World) (ht : Tab w) (c0 : w.cell? ⟨b, off, none⟩ = some (.int .i64 x)) (c1 : w.cell? ⟨b, off + 1, none⟩ = some (.int .i64 y)) :
    Calls Tryd.prog 64 #[.int .i64 9, .slice (some ⟨b, off, none⟩) 2 cap] w fun e w' => e = .returned (.tuple #[.int .i64 (bone (x == y)), .bool false, .bool true]) ∧ Below w.heap.size w w' := by
  have ha : Calls Tryd.prog 38 #[.int .i64 9] w fun e w' => e = .returned (.tuple #[.int .i64 2, .bool true]) ∧ w' = w := implArity_in 9 w ht (by decide)
  go_enter Tryd.func64, Tryd.ntmps64
  go_wp2_with (go_at_call 38; refine ha.mono ?_; rintro e w' ⟨rfl, rfl⟩)
  clear ht ha
  go_quiet ((go_at_call 67; exact Calls.quiet_of_same (pair9 _ _ _)))
  go_wp2
  go_ret3
  exact ⟨rfl, below_drewN (Below.refl _ _) _⟩
theorem specDo9 (b off cap : Nat) (x y : Int) (w : World) (c0 : w.cell? ⟨b, off, none⟩ = some (.int .i64 x)) (c1 : w.cell? ⟨b, off + 1, none⟩ = some (.int .i64 y)) :
    Calls Tryd.prog 56 #[.int .i64 9, .slice (some ⟨b, off, none⟩) 2 cap] w fun e w' => e = .returned (.tuple #[.int .i64 (bone (x == y)), .bool false]) ∧ Below w.heap.size w w' := by
  go_enter Tryd.func56, Tryd.ntmps56
  go_wp2
  go_quiet ((go_at_call 63; exact Calls.quiet_of_same (bool_any _ _)))
  go_wp2
  go_ret2
  exact ⟨rfl, below_drewN (Below.refl _ _) _⟩
theorem implDo10 (b off cap : Nat) (x y : Int) (w : World) (ht : Tab w) (c0 : w.cell? ⟨b, off, none⟩ = some (.int .i64 x)) (c1 : w.cell? ⟨b, off + 1, none⟩ = some (.int .i64 y)) :
    Calls Tryd.prog 64 #[.int .i64 10, .slice (some ⟨b, off, none⟩) 2 cap] w fun e w' => e = .returned (.tuple #[.int .i64 (bone (decide (x < y))), .bool false, .bool true]) ∧ Below w.heap.size w w' := by
  have ha : Calls Tryd.prog 38 #[.int .i64 10] w fun e w' => e = .returned (.tuple #[.int .i64 2, .bool true]) ∧ w' = w := implArity_in 10 w ht (by decide)
  go_enter Tryd.func64, Tryd.ntmps64
  go_wp2_with (go_at_call 38; refine ha.mono ?_; rintro e w' ⟨rfl, rfl⟩)
  clear ht ha
  go_quiet ((go_at_call 67; exact Calls.quiet_of_same (pair10 _ _ _)))
  go_wp2
  go_ret3
  exact ⟨rfl, below_drewN (Below.refl _ _) _⟩
theorem specDo10 (b off cap : Nat) (x y : Int) (w : World) (c0 : w.cell? ⟨b, off, none⟩ = some (.int .i64 x)) (c1 : w.cell? ⟨b, off + 1, none⟩ = some (.int .i64 y)) :
    Calls Tryd.prog 56 #[.int .i64 10, .slice (some ⟨b, off, none⟩) 2 cap] w fun e w' => e = .returned (.tuple #[.int .i64 (bone (decide (x < y))), .bool false]) ∧ Below w.heap.size w w' := by
  go_enter Tryd.func56, Tryd.ntmps56
  go_wp2
  go_quiet ((go_at_call 63; exact Calls.quiet_of_same (bool_any _ _)))
  go_wp2
  go_ret2
  exact ⟨rfl, below_drewN (Below.refl _ _) _⟩
theorem implDo11 (b off cap : Nat) (x y z : Int) (w : World) (ht : Tab w) (c0 : w.cell? ⟨b, off, none⟩ = some (.int .i64 x)) (c1 : w.cell? ⟨b, off + 1, none⟩ = some (.int .i64 y)) (c2 : w.cell? ⟨b, off + 2, none⟩ = some (.int .i64 z)) :
    Calls Tryd.prog 64 #[.int .i64 11, .slice (some ⟨b, off, none⟩) 3 cap] w fun e w' => e = .returned (.tuple #[.int .i64 (sel x y z), .bool false, .bool true]) ∧ Below w.heap.size w w' := by
  have ha : Calls Tryd.prog 38 #[.int .i64 11] w fun e w' => e = .returned (.tuple #[.int .i64 3, .bool true]) ∧ w' = w := implArity_in 11 w ht (by decide)
  go_enter Tryd.func64, Tryd.ntmps64
  go_wp2_with (go_at_call 38; refine ha.mono ?_; rintro e w' ⟨rfl, rfl⟩)
  clear ht ha
  go_quiet ((go_at_call 66; exact Calls.quiet_of_same (chosen_any _ _ _ _)))
  go_wp2
  go_ret3
  exact ⟨rfl, below_drewN (Below.refl _ _) _⟩
theorem specDo11 (b off cap : Nat) (x y z : Int) (w : World) (c0 : w.cell? ⟨b, off, none⟩ = some (.int .i64 x)) (c1 : w.cell? ⟨b, off + 1, none⟩ = some (.int .i64 y)) (c2 : w.cell? ⟨b, off + 2, none⟩ = some (.int .i64 z)) :
    Calls Tryd.prog 56 #[.int .i64 11, .slice (some ⟨b, off, none⟩) 3 cap] w fun e w' => e = .returned (.tuple #[.int .i64 (sel x y z), .bool false]) ∧ Below w.heap.size w w' := by
  unfold sel
  by_cases h : x = 0
  · subst h
    go_enter Tryd.func56, Tryd.ntmps56
    go_wp2
    go_ret2
    exact ⟨rfl, Below.refl _ _⟩
  · have h' : (x != 0) = true := by simpa using h
    rw [if_neg h]
    go_enter Tryd.func56, Tryd.ntmps56
    go_wp2
    go_ret2
    exact ⟨rfl, Below.refl _ _⟩
end Go.Proofs.YtoppbchacdpenaaDoor
