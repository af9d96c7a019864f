/-
  PROVED HERE: what PowerOf and OddInverse answer, the program's and the model's, at every number. No condition.
-/
import Derived.Test.YtapbneeggdknkaaDoorRows
import Derived.Test.YtapbneeggdknkaaDoorMath
import Derived.WalkKit
import Derived.ProofKit
import Derived.OpenShut
import Derived.Handy
namespace Go.Proofs.YtapbneeggdknkaaDoor.PowOdd
open Go.ChangeShapes Go.WideShapes Go.ChangeAt Go.RowKit
open Odd
set_option linter.unusedVariables false

/-- The power, reckoned step by step, wrapped at each. -/
def pw (a : Int) : Nat → Int
  | 0 => 1
  | n + 1 => wrap64 (pw a n * a)

theorem impl_out (a n : Int) (w : World) (h : n < 0 ∨ 64 < n) :
    Calls Tryd.prog 18 #[.int .i64 a, .int .i64 n] w fun e w' => e = .returned (.tuple #[.int .i64 0, .bool false]) ∧ w' = w := by
  rcases h with h | h
  · go_enter Tryd.func18, Tryd.ntmps18
    go_wp2
    go_ret2
    exact ⟨rfl, rfl⟩
  · have h' : ¬ n < 0 := by omega
    go_enter Tryd.func18, Tryd.ntmps18
    go_wp2
    go_ret2
    exact ⟨rfl, rfl⟩

theorem impl_in (a : Int) (n : Nat) (w : World) (hn : n ≤ 64) :
    Calls Tryd.prog 18 #[.int .i64 a, .int .i64 n] w fun e w' => e = .returned (.tuple #[.int .i64 (pw a n), .bool true]) ∧ w' = w := by
  have h0 : ¬ (n : Int) < 0 := by omega
  have h1 : ¬ (64 : Int) < (n : Int) := by omega
  go_enter Tryd.func18, Tryd.ntmps18
  go_wp2
  go_loop [6, 14] (fun p i => ∃ k : Nat, k ≤ n ∧ i = .int .i64 k ∧ p = .int .i64 (pw a k)) (fun _ i => n - (intOf i).toNat)
  case atStart => exact ⟨0, Nat.zero_le _, rfl, rfl⟩
  case round =>
    obtain ⟨k, hk, rfl, rfl⟩ := hrel
    by_cases hlt : k < n
    · go_wp2
      go_round
      case rel => exact ⟨k + 1, by omega, by go_num, rfl⟩
      case measure => simp [intOf]; omega
    · go_wp2
      obtain rfl : k = n := by omega
      go_ret2
      exact ⟨rfl, rfl⟩

theorem power_in (a : Int) (n : Nat) (w : World) (hn : n ≤ 64) :
    Calls Tryd.prog 34 #[.int .i64 a, .int .i64 n] w fun e w' => e = .returned (.int .i64 (pw a n)) ∧ w' = w := by
  go_enter Tryd.func34, Tryd.ntmps34
  go_wp2
  go_loop [1, 5] (fun i p => ∃ k : Nat, k ≤ n ∧ i = .int .i64 ((n - k : Nat) : Int) ∧ p = .int .i64 (pw a k)) (fun i _ => (intOf i).toNat)
  case atStart => exact ⟨0, Nat.zero_le _, rfl, rfl⟩
  case round =>
    obtain ⟨k, hk, rfl, rfl⟩ := hrel
    by_cases hlt : k < n
    · have h0 : (0 : Int) < ((n - k : Nat) : Int) := by omega
      go_wp2
      go_round
      case rel => exact ⟨k + 1, by omega, by congr 1; omega, rfl⟩
      case measure => simp [intOf]; omega
    · have h0 : ¬ (0 : Int) < ((n - k : Nat) : Int) := by omega
      go_wp2
      obtain rfl : k = n := by omega
      go_ret
      exact ⟨rfl, rfl⟩

theorem spec_out (a n : Int) (w : World) (h : n < 0 ∨ 64 < n) :
    Calls Tryd.prog 19 #[.int .i64 a, .int .i64 n] w fun e w' => e = .returned (.tuple #[.int .i64 0, .bool false]) ∧ w' = w := by
  rcases h with h | h
  · have h' : ¬ 0 ≤ n := by omega
    go_enter Tryd.func19, Tryd.ntmps19
    go_wp2
    go_ret2
    exact ⟨rfl, rfl⟩
  · have h' : 0 ≤ n := by omega
    have h2 : ¬ n ≤ 64 := by omega
    go_enter Tryd.func19, Tryd.ntmps19
    go_wp2
    go_ret2
    exact ⟨rfl, rfl⟩

theorem spec_in (a : Int) (n : Nat) (w : World) (hn : n ≤ 64) :
    Calls Tryd.prog 19 #[.int .i64 a, .int .i64 n] w fun e w' => e = .returned (.tuple #[.int .i64 (pw a n), .bool true]) ∧ w' = w := by
  have h1 : (0 : Int) ≤ (n : Int) := by omega
  have h2 : (n : Int) ≤ 64 := by omega
  go_enter Tryd.func19, Tryd.ntmps19
  go_wp2_with (first | (go_at_call 29; go_in) | (go_at_call 34; refine (power_in _ _ _ hn).mono ?_; rintro e w' ⟨rfl, rfl⟩))
  go_ret2
  exact ⟨rfl, rfl⟩


theorem impl_even (a : Int) (w : World) (h : a % 2 = 0) :
    Calls Tryd.prog 15 #[.int .i64 a] w fun e w' => e = .returned (.tuple #[.int .i64 0, .bool false]) ∧ w' = w := by
  have hb : (bits BinOp.and IntKind.i64 a 1 == 0) = true := by rw [and1, h]; rfl
  go_enter Tryd.func15, Tryd.ntmps15
  go_wp2
  go_ret2
  exact ⟨rfl, rfl⟩
theorem spec_even (a : Int) (w : World) (h : a % 2 = 0) :
    Calls Tryd.prog 16 #[.int .i64 a] w fun e w' => e = .returned (.tuple #[.int .i64 0, .bool false]) ∧ w' = w := by
  have hb : (bits BinOp.and IntKind.i64 a 1 == 0) = true := by rw [and1, h]; rfl
  go_enter Tryd.func16, Tryd.ntmps16
  go_wp2
  go_ret2
  exact ⟨rfl, rfl⟩
/-- Newton's steps, so many. -/
def steps (a : Int) : Nat → Int
  | 0 => a
  | n + 1 => newton a (steps a n)
theorem impl_odd (a : Int) (w : World) (h : a % 2 = 1) :
    Calls Tryd.prog 15 #[.int .i64 a] w fun e w' => e = .returned (.tuple #[.int .i64 (inv5 a), .bool true]) ∧ w' = w := by
  have hb : (bits BinOp.and IntKind.i64 a 1 == 0) = false := by rw [and1, h]; rfl
  go_enter Tryd.func15, Tryd.ntmps15
  go_wp2
  go_loop [4, 9] (fun x i => ∃ k : Nat, k ≤ 5 ∧ i = .int .i64 k ∧ x = .int .i64 (steps a k)) (fun _ i => 5 - (intOf i).toNat)
  case atStart => exact ⟨0, Nat.zero_le _, rfl, rfl⟩
  case round =>
    obtain ⟨k, hk, rfl, rfl⟩ := hrel
    by_cases hlt : k < 5
    · go_wp2
      go_round
      case rel => exact ⟨k + 1, by omega, by go_num, rfl⟩
      case measure => simp [intOf]; omega
    · go_wp2
      obtain rfl : k = 5 := by omega
      go_ret2
      exact ⟨rfl, rfl⟩
theorem off_zero (a out : Int) (h : (bits BinOp.and IntKind.i64 (wrap64 (a * out)) 1 != 1) = true) : off a out 0 := by
  rw [and1] at h; unfold off; simpa using h
theorem on_zero (a out : Int) (h : (bits BinOp.and IntKind.i64 (wrap64 (a * out)) 1 != 1) = false) : ¬ off a out 0 := by
  rw [and1] at h; unfold off; simpa using h
theorem off_more (a out : Int) (k : Nat) (h0 : k ≠ 0) (h : (bits BinOp.and IntKind.i64 (wrap64 (a * out) / 2 ^ k) 1 != 0) = true) : off a out k := by
  rw [and1] at h; unfold off; rw [if_neg h0]; simpa using h
theorem on_more (a out : Int) (k : Nat) (h0 : k ≠ 0) (h : (bits BinOp.and IntKind.i64 (wrap64 (a * out) / 2 ^ k) 1 != 0) = false) : ¬ off a out k := by
  rw [and1] at h; unfold off; rw [if_neg h0]; simpa using h
theorem spec_odd (a : Int) (w : World) (h : a % 2 = 1) :
    Calls Tryd.prog 16 #[.int .i64 a] w fun e w' => e = .returned (.tuple #[.int .i64 (inv5 a), .bool true]) ∧ w' = w := by
  have hb : (bits BinOp.and IntKind.i64 a 1 == 0) = false := by rw [and1, h]; rfl
  go_enter Tryd.func16, Tryd.ntmps16
  go_wp2
  go_loop [4, 5] (fun x i => ∃ (k : Nat) (out : Int), k ≤ 64 ∧ i = .int .i64 k ∧ x = .int .i64 out ∧ (-9223372036854775808 ≤ out ∧ out ≤ 9223372036854775807) ∧ Hid ((2 : Int) ^ k ∣ a * out - 1)) (fun _ i => 64 - (intOf i).toNat)
  case atStart => exact ⟨0, 1, Nat.zero_le _, rfl, rfl, by omega, ⟨a * 1 - 1, by simp⟩⟩
  case round =>
    obtain ⟨k, out, hk, rfl, rfl, hr, hd⟩ := hrel
    by_cases hlt : k < 64
    · have hs := off_step a out k hlt h hd.out
      have hs' : Hid ((off a out k → (2 : Int) ^ (k + 1) ∣ a * wrap64 (out + wrap64 (2 ^ k)) - 1) ∧ (¬ off a out k → (2 : Int) ^ (k + 1) ∣ a * out - 1)) := hs
      clear hs
      by_cases h0 : k = 0
      · subst h0
        go_wp2
        · refine ⟨⟨1, wrap64 (out + 1), by omega, rfl, rfl, wrap64_range _, ?_⟩, by simp [intOf]⟩
          have hq := hs'.out.1 (off_zero a out ‹_›)
          rw [show wrap64 (2 ^ 0) = 1 from by rw [Int.pow_zero]; unfold wrap64; omega] at hq
          exact hq
        · refine ⟨⟨1, out, by omega, rfl, rfl, hr, ?_⟩, by simp [intOf]⟩
          exact hs'.out.2 (on_zero a out ‹_›)
      · have h1 : (((k : Nat) : Int) == 0) = false := by simp; omega
        go_wp2
        · refine ⟨⟨k + 1, _, by omega, by go_num, rfl, wrap64_range _, ?_⟩, by simp [intOf]; omega⟩
          exact hs'.out.1 (off_more a out k h0 ‹_›)
        · refine ⟨⟨k + 1, _, by omega, by go_num, rfl, hr, ?_⟩, by simp [intOf]; omega⟩
          exact hs'.out.2 (on_more a out k h0 ‹_›)
    · go_wp2
      obtain rfl : k = 64 := by omega
      have hu : out = inv5 a := uniq a out (inv5 a) hd.out (inv5_dvd a h) hr (wrap64_range _)
      go_ret2
      exact ⟨by rw [hu]; rfl, rfl⟩


end Go.Proofs.YtapbneeggdknkaaDoor.PowOdd
