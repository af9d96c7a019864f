/-
  PROVED HERE: what the program's DoOp answers, op by op; in a world whose table of arities is laid. No other condition. what the program's DoOp answers at every op and every list of numbers; in a world whose table of arities is laid. No other condition.
-/
import Derived.Test.YtbchehpggoampaaDoorDefsAll
namespace Go.Proofs.YtbchehpggoampaaDoor
open Go.ChangeShapes Go.WideShapes Go.ChangeAt Go.RowKit
open Odd
set_option linter.unusedVariables false
attribute [local go_sem] andu63 and63

theorem one_any (b : Bool) (w : World) : Calls Tryd.prog 118 #[.bool b] w fun e w' => e = .returned (.int .i64 (bone b)) ∧ w' = w := by
  cases b <;> go_enter Tryd.func118, Tryd.ntmps118
  all_goals
    go_wp2
    go_ret
    exact ⟨rfl, rfl⟩
theorem quo_zero (x : Int) (w : World) : Calls Tryd.prog 110 #[.int .i64 x, .int .i64 0] w fun e w' => e = .returned (.tuple #[.int .i64 0, .bool true]) ∧ w' = w := by
  go_enter Tryd.func110, Tryd.ntmps110
  go_wp2
  go_ret2
  exact ⟨rfl, rfl⟩
theorem quo_any (x y : Int) (w : World) (h : y ≠ 0) : Calls Tryd.prog 110 #[.int .i64 x, .int .i64 y] w fun e w' => e = .returned (.tuple #[.int .i64 (wrap64 (x.tdiv y)), .bool false]) ∧ w' = w := by
  have h' : (y == 0) = false := by simpa using h
  go_enter Tryd.func110, Tryd.ntmps110
  go_wp2
  go_ret2
  exact ⟨rfl, rfl⟩
theorem chosen_any (x y z : Int) (w : World) : Calls Tryd.prog 111 #[.int .i64 x, .int .i64 y, .int .i64 z] w fun e w' => e = .returned (.int .i64 (sel x y z)) ∧ w' = w := by
  unfold sel
  by_cases h : x = 0
  · subst h
    go_enter Tryd.func111, Tryd.ntmps111
    go_wp2
    go_ret
    exact ⟨rfl, rfl⟩
  · have h' : (x != 0) = true := by simpa using h
    rw [if_neg h]
    go_enter Tryd.func111, Tryd.ntmps111
    go_wp2
    go_ret
    exact ⟨rfl, rfl⟩

theorem pair4 (x y : Int) (w : World) : Calls Tryd.prog 112 #[.int .i64 4, .int .i64 x, .int .i64 y] w fun e w' => e = .returned (.int .i64 (wrap64 (x + y))) ∧ w' = w := by
  go_enter Tryd.func112, Tryd.ntmps112
  go_wp2
  go_ret
  exact ⟨rfl, rfl⟩
theorem pair5 (x y : Int) (w : World) : Calls Tryd.prog 112 #[.int .i64 5, .int .i64 x, .int .i64 y] w fun e w' => e = .returned (.int .i64 (wrap64 (x - y))) ∧ w' = w := by
  go_enter Tryd.func112, Tryd.ntmps112
  go_wp2
  go_ret
  exact ⟨rfl, rfl⟩
theorem pair6 (x y : Int) (w : World) : Calls Tryd.prog 112 #[.int .i64 6, .int .i64 x, .int .i64 y] w fun e w' => e = .returned (.int .i64 (wrap64 (x * y))) ∧ w' = w := by
  go_enter Tryd.func112, Tryd.ntmps112
  go_wp2
  go_ret
  exact ⟨rfl, rfl⟩
theorem pair7 (x y : Int) (w : World) : Calls Tryd.prog 112 #[.int .i64 7, .int .i64 x, .int .i64 y] w fun e w' => e = .returned (.int .i64 (wrap64 (x * 2 ^ (y % 64).toNat))) ∧ w' = w := by
  go_enter Tryd.func112, Tryd.ntmps112
  go_wp2
  go_ret
  exact ⟨by rw [← u64_mod y]; rfl, rfl⟩
theorem pair9 (x y : Int) (w : World) : Calls Tryd.prog 112 #[.int .i64 9, .int .i64 x, .int .i64 y] w fun e w' => e = .returned (.int .i64 (bone (x == y))) ∧ w' = w := by
  go_enter Tryd.func112, Tryd.ntmps112
  go_wp2_with (go_at_call 118; refine (one_any _ _).mono ?_; rintro e w' ⟨rfl, rfl⟩)
  go_ret
  exact ⟨rfl, rfl⟩
theorem pair10 (x y : Int) (w : World) : Calls Tryd.prog 112 #[.int .i64 10, .int .i64 x, .int .i64 y] w fun e w' => e = .returned (.int .i64 (bone (decide (x < y)))) ∧ w' = w := by
  go_enter Tryd.func112, Tryd.ntmps112
  go_wp2_with (go_at_call 118; refine (one_any _ _).mono ?_; rintro e w' ⟨rfl, rfl⟩)
  go_ret
  exact ⟨rfl, rfl⟩
theorem implDo3 (b off cap : Nat) (x : Int) (w : World) (ht : Tab w) (c0 : w.cell? ⟨b, off, none⟩ = some (.int .i64 x)) :
    Calls Tryd.prog 99 #[.int .i64 3, .slice (some ⟨b, off, none⟩) 1 cap] w fun e w' => e = .returned (.tuple #[.int .i64 (wrap64 (-x)), .bool false, .bool true]) ∧ Below w.heap.size w w' := by
  have ha : Calls Tryd.prog 67 #[.int .i64 3] w fun e w' => e = .returned (.tuple #[.int .i64 1, .bool true]) ∧ w' = w := implArity_in 3 w ht (by decide)
  go_enter Tryd.func99, Tryd.ntmps99
  go_wp2_with (go_at_call 67; refine ha.mono ?_; rintro e w' ⟨rfl, rfl⟩)
  clear ht ha
  go_ret3
  exact ⟨rfl, Below.refl _ _⟩
theorem implDo4 (b off cap : Nat) (x y : Int) (w : World) (ht : Tab w) (c0 : w.cell? ⟨b, off, none⟩ = some (.int .i64 x)) (c1 : w.cell? ⟨b, off + 1, none⟩ = some (.int .i64 y)) :
    Calls Tryd.prog 99 #[.int .i64 4, .slice (some ⟨b, off, none⟩) 2 cap] w fun e w' => e = .returned (.tuple #[.int .i64 (wrap64 (x + y)), .bool false, .bool true]) ∧ Below w.heap.size w w' := by
  have ha : Calls Tryd.prog 67 #[.int .i64 4] w fun e w' => e = .returned (.tuple #[.int .i64 2, .bool true]) ∧ w' = w := implArity_in 4 w ht (by decide)
  go_enter Tryd.func99, Tryd.ntmps99
  go_wp2_with (go_at_call 67; refine ha.mono ?_; rintro e w' ⟨rfl, rfl⟩)
  clear ht ha
  go_quiet ((go_at_call 112; exact Calls.quiet_of_same (pair4 _ _ _)))
  go_wp2
  go_ret3
  exact ⟨rfl, below_drewN (Below.refl _ _) _⟩
theorem implDo5 (b off cap : Nat) (x y : Int) (w : World) (ht : Tab w) (c0 : w.cell? ⟨b, off, none⟩ = some (.int .i64 x)) (c1 : w.cell? ⟨b, off + 1, none⟩ = some (.int .i64 y)) :
    Calls Tryd.prog 99 #[.int .i64 5, .slice (some ⟨b, off, none⟩) 2 cap] w fun e w' => e = .returned (.tuple #[.int .i64 (wrap64 (x - y)), .bool false, .bool true]) ∧ Below w.heap.size w w' := by
  have ha : Calls Tryd.prog 67 #[.int .i64 5] w fun e w' => e = .returned (.tuple #[.int .i64 2, .bool true]) ∧ w' = w := implArity_in 5 w ht (by decide)
  go_enter Tryd.func99, Tryd.ntmps99
  go_wp2_with (go_at_call 67; refine ha.mono ?_; rintro e w' ⟨rfl, rfl⟩)
  clear ht ha
  go_quiet ((go_at_call 112; exact Calls.quiet_of_same (pair5 _ _ _)))
  go_wp2
  go_ret3
  exact ⟨rfl, below_drewN (Below.refl _ _) _⟩
theorem implDo6 (b off cap : Nat) (x y : Int) (w : World) (ht : Tab w) (c0 : w.cell? ⟨b, off, none⟩ = some (.int .i64 x)) (c1 : w.cell? ⟨b, off + 1, none⟩ = some (.int .i64 y)) :
    Calls Tryd.prog 99 #[.int .i64 6, .slice (some ⟨b, off, none⟩) 2 cap] w fun e w' => e = .returned (.tuple #[.int .i64 (wrap64 (x * y)), .bool false, .bool true]) ∧ Below w.heap.size w w' := by
  have ha : Calls Tryd.prog 67 #[.int .i64 6] w fun e w' => e = .returned (.tuple #[.int .i64 2, .bool true]) ∧ w' = w := implArity_in 6 w ht (by decide)
  go_enter Tryd.func99, Tryd.ntmps99
  go_wp2_with (go_at_call 67; refine ha.mono ?_; rintro e w' ⟨rfl, rfl⟩)
  clear ht ha
  go_quiet ((go_at_call 112; exact Calls.quiet_of_same (pair6 _ _ _)))
  go_wp2
  go_ret3
  exact ⟨rfl, below_drewN (Below.refl _ _) _⟩
theorem implDo7 (b off cap : Nat) (x y : Int) (w : World) (ht : Tab w) (c0 : w.cell? ⟨b, off, none⟩ = some (.int .i64 x)) (c1 : w.cell? ⟨b, off + 1, none⟩ = some (.int .i64 y)) :
    Calls Tryd.prog 99 #[.int .i64 7, .slice (some ⟨b, off, none⟩) 2 cap] w fun e w' => e = .returned (.tuple #[.int .i64 (wrap64 (x * 2 ^ (y % 64).toNat)), .bool false, .bool true]) ∧ Below w.heap.size w w' := by
  have ha : Calls Tryd.prog 67 #[.int .i64 7] w fun e w' => e = .returned (.tuple #[.int .i64 2, .bool true]) ∧ w' = w := implArity_in 7 w ht (by decide)
  go_enter Tryd.func99, Tryd.ntmps99
  go_wp2_with (go_at_call 67; refine ha.mono ?_; rintro e w' ⟨rfl, rfl⟩)
  clear ht ha
  go_quiet ((go_at_call 112; exact Calls.quiet_of_same (pair7 _ _ _)))
  go_wp2
  go_ret3
  exact ⟨rfl, below_drewN (Below.refl _ _) _⟩
theorem implDo8zero (b off cap : Nat) (x : Int) (w : World) (ht : Tab w) (c0 : w.cell? ⟨b, off, none⟩ = some (.int .i64 x)) (c1 : w.cell? ⟨b, off + 1, none⟩ = some (.int .i64 0)) :
    Calls Tryd.prog 99 #[.int .i64 8, .slice (some ⟨b, off, none⟩) 2 cap] w fun e w' => e = .returned (.tuple #[.int .i64 (0), .bool true, .bool true]) ∧ Below w.heap.size w w' := by
  have ha : Calls Tryd.prog 67 #[.int .i64 8] w fun e w' => e = .returned (.tuple #[.int .i64 2, .bool true]) ∧ w' = w := implArity_in 8 w ht (by decide)
  go_enter Tryd.func99, Tryd.ntmps99
  go_wp2_with (go_at_call 67; refine ha.mono ?_; rintro e w' ⟨rfl, rfl⟩)
  clear ht ha
  go_quiet ((go_at_call 110; exact Calls.quiet_of_same (quo_zero _ _)))
  go_wp2
  go_ret3
  exact ⟨rfl, below_drewN (Below.refl _ _) _⟩
theorem implDo8any (b off cap : Nat) (x y : Int) (w : World) (ht : Tab w) (h : y ≠ 0) (c0 : w.cell? ⟨b, off, none⟩ = some (.int .i64 x)) (c1 : w.cell? ⟨b, off + 1, none⟩ = some (.int .i64 y)) :
    Calls Tryd.prog 99 #[.int .i64 8, .slice (some ⟨b, off, none⟩) 2 cap] w fun e w' => e = .returned (.tuple #[.int .i64 (wrap64 (x.tdiv y)), .bool false, .bool true]) ∧ Below w.heap.size w w' := by
  have ha : Calls Tryd.prog 67 #[.int .i64 8] w fun e w' => e = .returned (.tuple #[.int .i64 2, .bool true]) ∧ w' = w := implArity_in 8 w ht (by decide)
  go_enter Tryd.func99, Tryd.ntmps99
  go_wp2_with (go_at_call 67; refine ha.mono ?_; rintro e w' ⟨rfl, rfl⟩)
  clear ht ha
  go_quiet ((go_at_call 110; exact Calls.quiet_of_same (quo_any _ _ _ h)))
  go_wp2
  go_ret3
  exact ⟨rfl, below_drewN (Below.refl _ _) _⟩
theorem implDo9 (b off cap : Nat) (x y : Int) (w : World) (ht : Tab w) (c0 : w.cell? ⟨b, off, none⟩ = some (.int .i64 x)) (c1 : w.cell? ⟨b, off + 1, none⟩ = some (.int .i64 y)) :
    Calls Tryd.prog 99 #[.int .i64 9, .slice (some ⟨b, off, none⟩) 2 cap] w fun e w' => e = .returned (.tuple #[.int .i64 (bone (x == y)), .bool false, .bool true]) ∧ Below w.heap.size w w' := by
  have ha : Calls Tryd.prog 67 #[.int .i64 9] w fun e w' => e = .returned (.tuple #[.int .i64 2, .bool true]) ∧ w' = w := implArity_in 9 w ht (by decide)
  go_enter Tryd.func99, Tryd.ntmps99
  go_wp2_with (go_at_call 67; refine ha.mono ?_; rintro e w' ⟨rfl, rfl⟩)
  clear ht ha
  go_quiet ((go_at_call 112; exact Calls.quiet_of_same (pair9 _ _ _)))
  go_wp2
  go_ret3
  exact ⟨rfl, below_drewN (Below.refl _ _) _⟩
theorem implDo10 (b off cap : Nat) (x y : Int) (w : World) (ht : Tab w) (c0 : w.cell? ⟨b, off, none⟩ = some (.int .i64 x)) (c1 : w.cell? ⟨b, off + 1, none⟩ = some (.int .i64 y)) :
    Calls Tryd.prog 99 #[.int .i64 10, .slice (some ⟨b, off, none⟩) 2 cap] w fun e w' => e = .returned (.tuple #[.int .i64 (bone (decide (x < y))), .bool false, .bool true]) ∧ Below w.heap.size w w' := by
  have ha : Calls Tryd.prog 67 #[.int .i64 10] w fun e w' => e = .returned (.tuple #[.int .i64 2, .bool true]) ∧ w' = w := implArity_in 10 w ht (by decide)
  go_enter Tryd.func99, Tryd.ntmps99
  go_wp2_with (go_at_call 67; refine ha.mono ?_; rintro e w' ⟨rfl, rfl⟩)
  clear ht ha
  go_quiet ((go_at_call 112; exact Calls.quiet_of_same (pair10 _ _ _)))
  go_wp2
  go_ret3
  exact ⟨rfl, below_drewN (Below.refl _ _) _⟩
theorem implDo11 (b off cap : Nat) (x y z : Int) (w : World) (ht : Tab w) (c0 : w.cell? ⟨b, off, none⟩ = some (.int .i64 x)) (c1 : w.cell? ⟨b, off + 1, none⟩ = some (.int .i64 y)) (c2 : w.cell? ⟨b, off + 2, none⟩ = some (.int .i64 z)) :
    Calls Tryd.prog 99 #[.int .i64 11, .slice (some ⟨b, off, none⟩) 3 cap] w fun e w' => e = .returned (.tuple #[.int .i64 (sel x y z), .bool false, .bool true]) ∧ Below w.heap.size w w' := by
  have ha : Calls Tryd.prog 67 #[.int .i64 11] w fun e w' => e = .returned (.tuple #[.int .i64 3, .bool true]) ∧ w' = w := implArity_in 11 w ht (by decide)
  go_enter Tryd.func99, Tryd.ntmps99
  go_wp2_with (go_at_call 67; refine ha.mono ?_; rintro e w' ⟨rfl, rfl⟩)
  clear ht ha
  go_quiet ((go_at_call 111; exact Calls.quiet_of_same (chosen_any _ _ _ _)))
  go_wp2
  go_ret3
  exact ⟨rfl, below_drewN (Below.refl _ _) _⟩
end Go.Proofs.YtbchehpggoampaaDoor
namespace Go.Proofs.YtbchehpggoampaaDoor
open Go.ChangeShapes Go.WideShapes Go.ChangeAt Go.RowKit
open Odd
set_option linter.unusedVariables false

theorem implDo_good (op : Int) (a : Option Addr) (len cap : Nat) (l : List Int) (w : World) (ht : Tab w) (h : 3 ≤ op ∧ op ≤ 11) (hs : Sl w a len l) (hl : ar op = len) :
    Calls Tryd.prog 99 #[.int .i64 op, .slice a len cap] w fun e w' => e = .returned (.tuple #[.int .i64 (dv op (l.getD 0 0) (l.getD 1 0) (l.getD 2 0)), .bool (dt op (l.getD 1 0)), .bool true]) ∧ Below w.heap.size w w' := by
  rcases ops op with h1 | rfl | rfl | rfl | rfl | rfl | rfl | rfl | rfl | rfl | rfl | rfl
  · omega
  · omega
  · omega
  · obtain rfl : len = 1 := by have e0 : ar 3 = 1 := rfl; omega
    obtain ⟨b, off, rfl, hc⟩ := cells_of hs (by decide)
    exact implDo3 b off cap _ w ht (hc 0 (by decide))
  · obtain rfl : len = 2 := by have e0 : ar 4 = 2 := rfl; omega
    obtain ⟨b, off, rfl, hc⟩ := cells_of hs (by decide)
    exact implDo4 b off cap _ _ w ht (hc 0 (by decide)) (hc 1 (by decide))
  · obtain rfl : len = 2 := by have e0 : ar 5 = 2 := rfl; omega
    obtain ⟨b, off, rfl, hc⟩ := cells_of hs (by decide)
    exact implDo5 b off cap _ _ w ht (hc 0 (by decide)) (hc 1 (by decide))
  · obtain rfl : len = 2 := by have e0 : ar 6 = 2 := rfl; omega
    obtain ⟨b, off, rfl, hc⟩ := cells_of hs (by decide)
    exact implDo6 b off cap _ _ w ht (hc 0 (by decide)) (hc 1 (by decide))
  · obtain rfl : len = 2 := by have e0 : ar 7 = 2 := rfl; omega
    obtain ⟨b, off, rfl, hc⟩ := cells_of hs (by decide)
    exact implDo7 b off cap _ _ w ht (hc 0 (by decide)) (hc 1 (by decide))
  · obtain rfl : len = 2 := by have e0 : ar 8 = 2 := rfl; omega
    obtain ⟨b, off, rfl, hc⟩ := cells_of hs (by decide)
    by_cases hy : l.getD 1 0 = 0
    · have c1 := hc 1 (by decide)
      rw [hy] at c1 ⊢
      exact implDo8zero b off cap _ w ht (hc 0 (by decide)) c1
    · have e1 : dv 8 (l.getD 0 0) (l.getD 1 0) (l.getD 2 0) = wrap64 ((l.getD 0 0).tdiv (l.getD 1 0)) := by
        show (if l.getD 1 0 = 0 then 0 else _) = _
        rw [if_neg hy]
      have e2 : dt 8 (l.getD 1 0) = false := by
        show ((l.getD 1 0) == 0) = false
        simpa using hy
      rw [e1, e2]
      exact implDo8any b off cap _ _ w ht hy (hc 0 (by decide)) (hc 1 (by decide))
  · obtain rfl : len = 2 := by have e0 : ar 9 = 2 := rfl; omega
    obtain ⟨b, off, rfl, hc⟩ := cells_of hs (by decide)
    exact implDo9 b off cap _ _ w ht (hc 0 (by decide)) (hc 1 (by decide))
  · obtain rfl : len = 2 := by have e0 : ar 10 = 2 := rfl; omega
    obtain ⟨b, off, rfl, hc⟩ := cells_of hs (by decide)
    exact implDo10 b off cap _ _ w ht (hc 0 (by decide)) (hc 1 (by decide))
  · obtain rfl : len = 3 := by have e0 : ar 11 = 3 := rfl; omega
    obtain ⟨b, off, rfl, hc⟩ := cells_of hs (by decide)
    exact implDo11 b off cap _ _ _ w ht (hc 0 (by decide)) (hc 1 (by decide)) (hc 2 (by decide))

theorem implDo_bad (op : Int) (a : Option Addr) (len cap : Nat) (w : World) (ht : Tab w) (h : op < 3 ∨ 11 < op ∨ ar op ≠ len) :
    Calls Tryd.prog 99 #[.int .i64 op, .slice a len cap] w fun e w' => e = .returned (.tuple #[.int .i64 0, .bool false, .bool false]) ∧ Below w.heap.size w w' := by
  by_cases h1 : op < 1 ∨ 11 < op
  · go_enter Tryd.func99, Tryd.ntmps99
    go_wp2_with (go_at_call 67; refine (implArity_out _ _ h1).mono ?_; rintro e w' ⟨rfl, rfl⟩)
    go_ret3
    exact ⟨rfl, Below.refl _ _⟩
  · have ha := implArity_in op w ht (by omega)
    by_cases h2 : op < 3
    · go_enter Tryd.func99, Tryd.ntmps99
      go_wp2_with (go_at_call 67; refine ha.mono ?_; rintro e w' ⟨rfl, rfl⟩)
      go_ret3
      exact ⟨rfl, Below.refl _ _⟩
    · have hn : ((len : Int) != ar op) = true := by
        rw [bne_iff_ne]; omega
      clear h
      go_enter Tryd.func99, Tryd.ntmps99
      go_wp2_with (go_at_call 67; refine ha.mono ?_; rintro e w' ⟨rfl, rfl⟩)
      go_ret3
      exact ⟨rfl, Below.refl _ _⟩

theorem Tab.keep {w w' : World} (h : Tab w) (hb : Below w.heap.size w w') : Tab w' := fun i hi =>
  (hb.cell (p := ⟨0, i, none⟩) (World.block_lt_of_cell? w ⟨0, 0, none⟩ (h 0 (by decide)))).trans (h i hi)


end Go.Proofs.YtbchehpggoampaaDoor
