/-
  PROVED HERE: what DoOp answers, the program's and the model's, at every op and every list of numbers, in one sentence each; and the law FnExactDoOp's own run. The table of arities is laid. No other condition.
-/
import Derived.Test.YtapbneeggdknkaaDoorDo
namespace Go.Proofs.YtapbneeggdknkaaDoor
open Go.ChangeShapes Go.WideShapes Go.ChangeAt Go.RowKit
open Odd
set_option linter.unusedVariables false

theorem cells_of {w : World} {a : Option Addr} {len : Nat} {l : List Int} (h : Sl w a len l) (h0 : 0 < len) :
    ∃ b off, a = some ⟨b, off, none⟩ ∧ ∀ i, i < len → w.cell? ⟨b, off + i, none⟩ = some (.int .i64 (l.getD i 0)) := by
  rcases h.2 with h1 | ⟨b, off, ha, _, hc⟩
  · omega
  · exact ⟨b, off, ha, hc⟩

theorem l1Do_good (op : Int) (a : Option Addr) (len cap : Nat) (l : List Int) (w : World) (h : 3 ≤ op ∧ op ≤ 11) (hs : Sl w a len l) (hl : ar op = len) :
    Calls Tryd.prog 30 #[.int .i64 op, .slice a len cap] w fun e w' => e = .returned (.tuple #[.int .i64 (dv op (l.getD 0 0) (l.getD 1 0) (l.getD 2 0)), .bool (dt op (l.getD 1 0))]) ∧ Below w.heap.size w w' := by
  rcases ops op with h1 | rfl | rfl | rfl | rfl | rfl | rfl | rfl | rfl | rfl | rfl | rfl
  · omega
  · omega
  · omega
  · obtain rfl : len = 1 := by have e0 : ar 3 = 1 := rfl; omega
    obtain ⟨b, off, rfl, hc⟩ := cells_of hs (by decide)
    exact specDo3 b off cap _ w (hc 0 (by decide))
  · obtain rfl : len = 2 := by have e0 : ar 4 = 2 := rfl; omega
    obtain ⟨b, off, rfl, hc⟩ := cells_of hs (by decide)
    exact specDo4 b off cap _ _ w (hc 0 (by decide)) (hc 1 (by decide))
  · obtain rfl : len = 2 := by have e0 : ar 5 = 2 := rfl; omega
    obtain ⟨b, off, rfl, hc⟩ := cells_of hs (by decide)
    exact specDo5 b off cap _ _ w (hc 0 (by decide)) (hc 1 (by decide))
  · obtain rfl : len = 2 := by have e0 : ar 6 = 2 := rfl; omega
    obtain ⟨b, off, rfl, hc⟩ := cells_of hs (by decide)
    exact specDo6 b off cap _ _ w (hc 0 (by decide)) (hc 1 (by decide))
  · obtain rfl : len = 2 := by have e0 : ar 7 = 2 := rfl; omega
    obtain ⟨b, off, rfl, hc⟩ := cells_of hs (by decide)
    exact specDo7 b off cap _ _ w (hc 0 (by decide)) (hc 1 (by decide))
  · obtain rfl : len = 2 := by have e0 : ar 8 = 2 := rfl; omega
    obtain ⟨b, off, rfl, hc⟩ := cells_of hs (by decide)
    by_cases hy : l.getD 1 0 = 0
    · have c1 := hc 1 (by decide)
      rw [hy] at c1 ⊢
      exact specDo8zero b off cap _ w (hc 0 (by decide)) c1
    · have e1 : dv 8 (l.getD 0 0) (l.getD 1 0) (l.getD 2 0) = wrap64 ((l.getD 0 0).tdiv (l.getD 1 0)) := by
        show (if l.getD 1 0 = 0 then 0 else _) = _
        rw [if_neg hy]
      have e2 : dt 8 (l.getD 1 0) = false := by
        show ((l.getD 1 0) == 0) = false
        simpa using hy
      rw [e1, e2]
      exact specDo8any b off cap _ _ w hy (hc 0 (by decide)) (hc 1 (by decide))
  · obtain rfl : len = 2 := by have e0 : ar 9 = 2 := rfl; omega
    obtain ⟨b, off, rfl, hc⟩ := cells_of hs (by decide)
    exact specDo9 b off cap _ _ w (hc 0 (by decide)) (hc 1 (by decide))
  · obtain rfl : len = 2 := by have e0 : ar 10 = 2 := rfl; omega
    obtain ⟨b, off, rfl, hc⟩ := cells_of hs (by decide)
    exact specDo10 b off cap _ _ w (hc 0 (by decide)) (hc 1 (by decide))
  · obtain rfl : len = 3 := by have e0 : ar 11 = 3 := rfl; omega
    obtain ⟨b, off, rfl, hc⟩ := cells_of hs (by decide)
    exact specDo11 b off cap _ _ _ w (hc 0 (by decide)) (hc 1 (by decide)) (hc 2 (by decide))
theorem implDo_good (op : Int) (a : Option Addr) (len cap : Nat) (l : List Int) (w : World) (ht : Tab w) (h : 3 ≤ op ∧ op ≤ 11) (hs : Sl w a len l) (hl : ar op = len) :
    Calls Tryd.prog 9 #[.int .i64 op, .slice a len cap] w fun e w' => e = .returned (.tuple #[.int .i64 (dv op (l.getD 0 0) (l.getD 1 0) (l.getD 2 0)), .bool (dt op (l.getD 1 0)), .bool true]) ∧ Below w.heap.size w w' := by
  rcases ops op with h1 | rfl | rfl | rfl | rfl | rfl | rfl | rfl | rfl | rfl | rfl | rfl
  · omega
  · omega
  · omega
  · obtain rfl : len = 1 := by have e0 : ar 3 = 1 := rfl; omega
    obtain ⟨b, off, rfl, hc⟩ := cells_of hs (by decide)
    exact implDo3 b off cap _ w ht (hc 0 (by decide))
  · obtain rfl : len = 2 := by have e0 : ar 4 = 2 := rfl; omega
    obtain ⟨b, off, rfl, hc⟩ := cells_of hs (by decide)
    exact implDo4 b off cap _ _ w ht (hc 0 (by decide)) (hc 1 (by decide))
  · obtain rfl : len = 2 := by have e0 : ar 5 = 2 := rfl; omega
    obtain ⟨b, off, rfl, hc⟩ := cells_of hs (by decide)
    exact implDo5 b off cap _ _ w ht (hc 0 (by decide)) (hc 1 (by decide))
  · obtain rfl : len = 2 := by have e0 : ar 6 = 2 := rfl; omega
    obtain ⟨b, off, rfl, hc⟩ := cells_of hs (by decide)
    exact implDo6 b off cap _ _ w ht (hc 0 (by decide)) (hc 1 (by decide))
  · obtain rfl : len = 2 := by have e0 : ar 7 = 2 := rfl; omega
    obtain ⟨b, off, rfl, hc⟩ := cells_of hs (by decide)
    exact implDo7 b off cap _ _ w ht (hc 0 (by decide)) (hc 1 (by decide))
  · obtain rfl : len = 2 := by have e0 : ar 8 = 2 := rfl; omega
    obtain ⟨b, off, rfl, hc⟩ := cells_of hs (by decide)
    by_cases hy : l.getD 1 0 = 0
    · have c1 := hc 1 (by decide)
      rw [hy] at c1 ⊢
      exact implDo8zero b off cap _ w ht (hc 0 (by decide)) c1
    · have e1 : dv 8 (l.getD 0 0) (l.getD 1 0) (l.getD 2 0) = wrap64 ((l.getD 0 0).tdiv (l.getD 1 0)) := by
        show (if l.getD 1 0 = 0 then 0 else _) = _
        rw [if_neg hy]
      have e2 : dt 8 (l.getD 1 0) = false := by
        show ((l.getD 1 0) == 0) = false
        simpa using hy
      rw [e1, e2]
      exact implDo8any b off cap _ _ w ht hy (hc 0 (by decide)) (hc 1 (by decide))
  · obtain rfl : len = 2 := by have e0 : ar 9 = 2 := rfl; omega
    obtain ⟨b, off, rfl, hc⟩ := cells_of hs (by decide)
    exact implDo9 b off cap _ _ w ht (hc 0 (by decide)) (hc 1 (by decide))
  · obtain rfl : len = 2 := by have e0 : ar 10 = 2 := rfl; omega
    obtain ⟨b, off, rfl, hc⟩ := cells_of hs (by decide)
    exact implDo10 b off cap _ _ w ht (hc 0 (by decide)) (hc 1 (by decide))
  · obtain rfl : len = 3 := by have e0 : ar 11 = 3 := rfl; omega
    obtain ⟨b, off, rfl, hc⟩ := cells_of hs (by decide)
    exact implDo11 b off cap _ _ _ w ht (hc 0 (by decide)) (hc 1 (by decide)) (hc 2 (by decide))

theorem implDo_bad (op : Int) (a : Option Addr) (len cap : Nat) (w : World) (ht : Tab w) (h : op < 3 ∨ 11 < op ∨ ar op ≠ len) :
    Calls Tryd.prog 9 #[.int .i64 op, .slice a len cap] w fun e w' => e = .returned (.tuple #[.int .i64 0, .bool false, .bool false]) ∧ Below w.heap.size w w' := by
  by_cases h1 : op < 1 ∨ 11 < op
  · go_enter Tryd.func9, Tryd.ntmps9
    go_wp2_with (go_at_call 11; refine (implArity_out _ _ h1).mono ?_; rintro e w' ⟨rfl, rfl⟩)
    go_ret3
    exact ⟨rfl, Below.refl _ _⟩
  · have ha := implArity_in op w ht (by omega)
    by_cases h2 : op < 3
    · go_enter Tryd.func9, Tryd.ntmps9
      go_wp2_with (go_at_call 11; refine ha.mono ?_; rintro e w' ⟨rfl, rfl⟩)
      go_ret3
      exact ⟨rfl, Below.refl _ _⟩
    · have hn : ((len : Int) != ar op) = true := by
        rw [bne_iff_ne]; omega
      clear h
      go_enter Tryd.func9, Tryd.ntmps9
      go_wp2_with (go_at_call 11; refine ha.mono ?_; rintro e w' ⟨rfl, rfl⟩)
      go_ret3
      exact ⟨rfl, Below.refl _ _⟩

theorem specDo_bad (op : Int) (a : Option Addr) (len cap : Nat) (w : World) (h : op < 3 ∨ 11 < op ∨ ar op ≠ len) :
    Calls Tryd.prog 10 #[.int .i64 op, .slice a len cap] w fun e w' => e = .returned (.tuple #[.int .i64 0, .bool false, .bool false]) ∧ Below w.heap.size w w' := by
  by_cases h1 : op < 3
  · have h2 : ¬ 3 ≤ op := by omega
    go_enter Tryd.func10, Tryd.ntmps10
    go_wp2
    go_ret3
    exact ⟨rfl, Below.refl _ _⟩
  · have h2 : 3 ≤ op := by omega
    by_cases h3 : 11 < op
    · have h4 : ¬ op ≤ 11 := by omega
      go_enter Tryd.func10, Tryd.ntmps10
      go_wp2
      go_ret3
      exact ⟨rfl, Below.refl _ _⟩
    · have h4 : op ≤ 11 := by omega
      have hn : ((len : Int) != ar op) = true := by
        rw [bne_iff_ne]; omega
      clear h
      go_enter Tryd.func10, Tryd.ntmps10
      go_wp2_with (first | (go_at_call 29; go_in) | (go_at_call 25; refine (l1Arity_any _ _).mono ?_; rintro e w' ⟨rfl, rfl⟩))
      go_ret3
      exact ⟨rfl, Below.refl _ _⟩

theorem specDo_good (op : Int) (a : Option Addr) (len cap : Nat) (l : List Int) (w : World) (h : 3 ≤ op ∧ op ≤ 11) (hs : Sl w a len l) (hl : ar op = len) :
    Calls Tryd.prog 10 #[.int .i64 op, .slice a len cap] w fun e w' => e = .returned (.tuple #[.int .i64 (dv op (l.getD 0 0) (l.getD 1 0) (l.getD 2 0)), .bool (dt op (l.getD 1 0)), .bool true]) ∧ Below w.heap.size w w' := by
  have hd := l1Do_good op a len cap l w h hs hl
  have hn : ((len : Int) != ar op) = false := by simp [hl]
  obtain ⟨h2, h4⟩ := h
  clear hs hl
  generalize dv op (l.getD 0 0) (l.getD 1 0) (l.getD 2 0) = V at hd ⊢
  generalize dt op (l.getD 1 0) = T at hd ⊢
  go_enter Tryd.func10, Tryd.ntmps10
  go_wp2_with (first | (go_at_call 29; go_in) | (go_at_call 25; refine (l1Arity_any _ _).mono ?_; rintro e w' ⟨rfl, rfl⟩) | (go_at_call 30; refine hd.mono ?_; rintro e w1 ⟨rfl, hb⟩))
  go_ret3
  exact ⟨rfl, hb⟩

/-- What DoOp is to answer: value, trap, whether all is as said. -/
def doV (op : Int) (len : Nat) (l : List Int) : Int := if 3 ≤ op ∧ op ≤ 11 ∧ ar op = len then dv op (l.getD 0 0) (l.getD 1 0) (l.getD 2 0) else 0
def doT (op : Int) (len : Nat) (l : List Int) : Bool := if 3 ≤ op ∧ op ≤ 11 ∧ ar op = len then dt op (l.getD 1 0) else false
def doK (op : Int) (len : Nat) : Bool := if 3 ≤ op ∧ op ≤ 11 ∧ ar op = len then true else false

theorem implDo_any (op : Int) (a : Option Addr) (len cap : Nat) (l : List Int) (w : World) (ht : Tab w) (hs : Sl w a len l) :
    Calls Tryd.prog 9 #[.int .i64 op, .slice a len cap] w fun e w' => e = .returned (.tuple #[.int .i64 (doV op len l), .bool (doT op len l), .bool (doK op len)]) ∧ Below w.heap.size w w' := by
  unfold doV doT doK
  by_cases h : 3 ≤ op ∧ op ≤ 11 ∧ ar op = len
  · rw [if_pos h, if_pos h, if_pos h]; exact implDo_good op a len cap l w ht ⟨h.1, h.2.1⟩ hs h.2.2
  · rw [if_neg h, if_neg h, if_neg h]; exact implDo_bad op a len cap w ht (by omega)
theorem specDo_any (op : Int) (a : Option Addr) (len cap : Nat) (l : List Int) (w : World) (hs : Sl w a len l) :
    Calls Tryd.prog 10 #[.int .i64 op, .slice a len cap] w fun e w' => e = .returned (.tuple #[.int .i64 (doV op len l), .bool (doT op len l), .bool (doK op len)]) ∧ Below w.heap.size w w' := by
  unfold doV doT doK
  by_cases h : 3 ≤ op ∧ op ≤ 11 ∧ ar op = len
  · rw [if_pos h, if_pos h, if_pos h]; exact specDo_good op a len cap l w ⟨h.1, h.2.1⟩ hs h.2.2
  · rw [if_neg h, if_neg h, if_neg h]; exact specDo_bad op a len cap w (by omega)

theorem Tab.keep {w w' : World} (h : Tab w) (hb : Below w.heap.size w w') : Tab w' := fun i hi =>
  (hb.cell (p := ⟨0, i, none⟩) (World.block_lt_of_cell? w ⟨0, 0, none⟩ (h 0 (by decide)))).trans (h i hi)

theorem lawDo (op : Int) (a : Option Addr) (len cap : Nat) (l : List Int) (w : World) (ht : Tab w) (hs : Sl w a len l) (hm : len ≤ 9223372036854775807) :
    Calls Tryd.prog 6 #[.int .i64 op, .slice a len cap] w fun e w' => e = .returned (.bool true) ∧ Below w.heap.size w w' := by
  by_cases hn : len ≤ 1048576
  · have hn' : ¬ (1048576 : Int) < len := by omega
    go_enter Tryd.func6, Tryd.ntmps6
    go_wp2_with fail
    refine (copy_any _ _ _ l _ hs hn).mono ?_
    rintro e w1 ⟨rfl, hb1, hs1⟩
    go_wp2_with fail
    refine (specDo_any _ _ _ _ l _ hs1).mono ?_
    rintro e w2 ⟨rfl, hb2⟩
    have hb12 := hb1.trans (hb2.mono hb1.size)
    have hs2 := hs.keep hb12
    go_wp2_with fail
    refine (copy_any _ _ _ l _ hs2 hn).mono ?_
    rintro e w3 ⟨rfl, hb3, hs3⟩
    have hb13 := hb12.trans (hb3.mono hb12.size)
    have ht3 := ht.keep hb13
    go_wp2_with fail
    refine (implDo_any _ _ _ _ l _ ht3 hs3).mono ?_
    rintro e w4 ⟨rfl, hb4⟩
    have hb14 := hb13.trans (hb4.mono hb13.size)
    have hs4 := hs.keep hb14
    have hs34 := hs3.keep hb4
    generalize doV op len l = V
    generalize doT op len l = T
    generalize doK op len = K
    go_wp2_with fail
    refine (copy_any _ _ _ l _ hs4 hn).mono ?_
    rintro e w5 ⟨rfl, hb5, hs5⟩
    have hb15 := hb14.trans (hb5.mono hb14.size)
    go_wp2_with fail
    refine (eq_same _ _ _ _ _ l _ (hs34.keep hb5) hs5 hn).mono ?_
    rintro e w6 ⟨rfl, hb6⟩
    have hb16 := hb15.trans (hb6.mono hb15.size)
    go_wp2
    go_ret
    exact ⟨rfl, hb16⟩
  · have hn' : (1048576 : Int) < len := by omega
    go_enter Tryd.func6, Tryd.ntmps6
    go_wp2
    go_ret
    exact ⟨rfl, Below.refl _ _⟩
end Go.Proofs.YtapbneeggdknkaaDoor
