/-
  PROVED HERE: what the program's DoOp answers at every op and every list of numbers; in a world whose table of arities is laid. No other condition.
-/
import Derived.Test.YtpjgjpjfchfmlaaDoorDoImpl
namespace Go.Proofs.YtpjgjpjfchfmlaaDoor
open Go.ChangeShapes Go.WideShapes Go.ChangeAt Go.RowKit
open Odd
set_option linter.unusedVariables false

theorem implDo_good (op : Int) (a : Option Addr) (len cap : Nat) (l : List Int) (w : World) (ht : Tab w) (h : 3 ≤ op ∧ op ≤ 11) (hs : Sl w a len l) (hl : ar op = len) :
    Calls Tryd.prog 68 #[.int .i64 op, .slice a len cap] w fun e w' => e = .returned (.tuple #[.int .i64 (dv op (l.getD 0 0) (l.getD 1 0) (l.getD 2 0)), .bool (dt op (l.getD 1 0)), .bool true]) ∧ Below w.heap.size w w' := by
  rcases ops op with h1 | rfl | rfl | rfl | rfl | rfl | rfl | rfl | rfl | rfl | rfl | rfl
  · omega
  · omega
  · omega
  · obtain rfl : len = 1 := by have e0 : ar 3 = 1 := rfl; omega
    obtain ⟨b, off, rfl, hc⟩ := cells_of hs (by decide)
    exact implDo3 b off cap _ w ht (hc 0 (by decide))
  · obtain rfl : len = 2 := by have e0 : ar 4 = 2 := rfl; omega
    obtain ⟨b, off, rfl, hc⟩ := cells_of hs (by decide)
    exact implDo4 b off cap _ _ w ht (hc 0 (by decide)) (hc 1 (by decide))
  · obtain rfl : len = 2 := by have e0 : ar 5 = 2 := rfl; omega
    obtain ⟨b, off, rfl, hc⟩ := cells_of hs (by decide)
    exact implDo5 b off cap _ _ w ht (hc 0 (by decide)) (hc 1 (by decide))
  · obtain rfl : len = 2 := by have e0 : ar 6 = 2 := rfl; omega
    obtain ⟨b, off, rfl, hc⟩ := cells_of hs (by decide)
    exact implDo6 b off cap _ _ w ht (hc 0 (by decide)) (hc 1 (by decide))
  · obtain rfl : len = 2 := by have e0 : ar 7 = 2 := rfl; omega
    obtain ⟨b, off, rfl, hc⟩ := cells_of hs (by decide)
    exact implDo7 b off cap _ _ w ht (hc 0 (by decide)) (hc 1 (by decide))
  · obtain rfl : len = 2 := by have e0 : ar 8 = 2 := rfl; omega
    obtain ⟨b, off, rfl, hc⟩ := cells_of hs (by decide)
    by_cases hy : l.getD 1 0 = 0
    · have c1 := hc 1 (by decide)
      rw [hy] at c1 ⊢
      exact implDo8zero b off cap _ w ht (hc 0 (by decide)) c1
    · have e1 : dv 8 (l.getD 0 0) (l.getD 1 0) (l.getD 2 0) = wrap64 ((l.getD 0 0).tdiv (l.getD 1 0)) := by
        show (if l.getD 1 0 = 0 then 0 else _) = _
        rw [if_neg hy]
      have e2 : dt 8 (l.getD 1 0) = false := by
        show ((l.getD 1 0) == 0) = false
        simpa using hy
      rw [e1, e2]
      exact implDo8any b off cap _ _ w ht hy (hc 0 (by decide)) (hc 1 (by decide))
  · obtain rfl : len = 2 := by have e0 : ar 9 = 2 := rfl; omega
    obtain ⟨b, off, rfl, hc⟩ := cells_of hs (by decide)
    exact implDo9 b off cap _ _ w ht (hc 0 (by decide)) (hc 1 (by decide))
  · obtain rfl : len = 2 := by have e0 : ar 10 = 2 := rfl; omega
    obtain ⟨b, off, rfl, hc⟩ := cells_of hs (by decide)
    exact implDo10 b off cap _ _ w ht (hc 0 (by decide)) (hc 1 (by decide))
  · obtain rfl : len = 3 := by have e0 : ar 11 = 3 := rfl; omega
    obtain ⟨b, off, rfl, hc⟩ := cells_of hs (by decide)
    exact implDo11 b off cap _ _ _ w ht (hc 0 (by decide)) (hc 1 (by decide)) (hc 2 (by decide))

theorem implDo_bad (op : Int) (a : Option Addr) (len cap : Nat) (w : World) (ht : Tab w) (h : op < 3 ∨ 11 < op ∨ ar op ≠ len) :
    Calls Tryd.prog 68 #[.int .i64 op, .slice a len cap] w fun e w' => e = .returned (.tuple #[.int .i64 0, .bool false, .bool false]) ∧ Below w.heap.size w w' := by
  by_cases h1 : op < 1 ∨ 11 < op
  · go_enter Tryd.func68, Tryd.ntmps68
    go_wp2_with (go_at_call 42; refine (implArity_out _ _ h1).mono ?_; rintro e w' ⟨rfl, rfl⟩)
    go_ret3
    exact ⟨rfl, Below.refl _ _⟩
  · have ha := implArity_in op w ht (by omega)
    by_cases h2 : op < 3
    · go_enter Tryd.func68, Tryd.ntmps68
      go_wp2_with (go_at_call 42; refine ha.mono ?_; rintro e w' ⟨rfl, rfl⟩)
      go_ret3
      exact ⟨rfl, Below.refl _ _⟩
    · have hn : ((len : Int) != ar op) = true := by
        rw [bne_iff_ne]; omega
      clear h
      go_enter Tryd.func68, Tryd.ntmps68
      go_wp2_with (go_at_call 42; refine ha.mono ?_; rintro e w' ⟨rfl, rfl⟩)
      go_ret3
      exact ⟨rfl, Below.refl _ _⟩

theorem Tab.keep {w w' : World} (h : Tab w) (hb : Below w.heap.size w w') : Tab w' := fun i hi =>
  (hb.cell (p := ⟨0, i, none⟩) (World.block_lt_of_cell? w ⟨0, 0, none⟩ (h 0 (by decide)))).trans (h i hi)


end Go.Proofs.YtpjgjpjfchfmlaaDoor
