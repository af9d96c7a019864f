/-
  PROVED HERE: what the functions on arities answer, the program's and the model's, at every op; in a world whose table of arities is laid. No other condition. what the model's GoodTerm answers, at every list of nodes of at most a million. No other condition.
-/
import Derived.Test.YtmbggaepckgogaaDoorRows
import Derived.WalkKit
import Derived.ProofKit
import Derived.OpenShut
import Derived.Handy
import Derived.Test.YtmbggaepckgogaaDoorRun0
namespace Go.Proofs.YtmbggaepckgogaaDoor
open Go.ChangeShapes Go.WideShapes Go.ChangeAt Go.RowKit
set_option linter.unusedVariables false

/-- How many arguments an op has; -1: it is none. -/
def ar (op : Int) : Int := if op < 1 then -1 else if op ≤ 2 then 0 else if op = 3 then 1 else if op ≤ 10 then 2 else if op = 11 then 3 else -1
theorem ops (op : Int) : (op < 1 ∨ 11 < op) ∨ op = 1 ∨ op = 2 ∨ op = 3 ∨ op = 4 ∨ op = 5 ∨ op = 6 ∨ op = 7 ∨ op = 8 ∨ op = 9 ∨ op = 10 ∨ op = 11 := by omega
theorem ar_out (op : Int) (h : op < 1 ∨ 11 < op) : ar op = -1 := by
  unfold ar; split <;> (try rfl)
  rw [if_neg (by omega), if_neg (by omega), if_neg (by omega), if_neg (by omega)]

theorem l1Arity_out (op : Int) (w : World) (h : op < 1 ∨ 11 < op) :
    Calls Tryd.prog 64 #[.int .i64 op] w fun e w' => e = .returned (.int .i64 (-1)) ∧ w' = w := by
  have h1 : (op == 1) = false := by simp; omega
  have h2 : (op == 2) = false := by simp; omega
  have h3 : (op == 3) = false := by simp; omega
  have h11 : (op == 11) = false := by simp; omega
  rcases h with h | h
  · have h4 : ¬ 4 ≤ op := by omega
    go_enter Tryd.func64, Tryd.ntmps64
    go_wp2
    go_ret
    exact ⟨rfl, rfl⟩
  · have h4 : 4 ≤ op := by omega
    have h5 : ¬ op ≤ 10 := by omega
    go_enter Tryd.func64, Tryd.ntmps64
    go_wp2
    go_ret
    exact ⟨rfl, rfl⟩

theorem l1Arity_any (op : Int) (w : World) :
    Calls Tryd.prog 64 #[.int .i64 op] w fun e w' => e = .returned (.int .i64 (ar op)) ∧ w' = w := by
  rcases ops op with h | rfl | rfl | rfl | rfl | rfl | rfl | rfl | rfl | rfl | rfl | rfl
  · rw [ar_out op h]; exact l1Arity_out op w h
  all_goals
    go_enter Tryd.func64, Tryd.ntmps64
    go_wp2
    go_ret
    exact ⟨rfl, rfl⟩

end Go.Proofs.YtmbggaepckgogaaDoor
namespace Go.Proofs.YtmbggaepckgogaaDoor
open Go.ChangeShapes Go.WideShapes Go.ChangeAt Go.RowKit
set_option linter.unusedVariables false

/-- Does a node fit on a pile of p? (m: how many parts it takes) -/
def fits (m p op n : Int) : Bool := !(decide (m < 0) || decide (p < m) || (op == 2 && (decide (n < 0) || decide (4 ≤ n))) || (decide (0 < m) && n != 0))
/-- The pile behind a list of nodes. -/
def pile : List (Int × Int) → Int → Option Int
  | [], p => some p
  | (op, n) :: r, p => if fits (ar op) p op n = true then pile r (p + (1 - ar op)) else none
def goodB (l : List (Int × Int)) : Bool := decide (1 ≤ l.length ∧ l.length ≤ 40) && (pile l 0 == some 1)

theorem good_pile {l : List (Int × Int)} (h : goodB l = true) : pile l 0 = some 1 ∧ 1 ≤ l.length ∧ l.length ≤ 40 := by
  unfold goodB at h
  simp only [Bool.and_eq_true, decide_eq_true_eq, beq_iff_eq] at h
  exact ⟨h.2, h.1.1, h.1.2⟩

theorem pile_drop (l : List (Int × Int)) (k : Nat) (p : Int) (h : k < l.length) :
    pile (l.drop k) p = if fits (ar (l.getD k (0, 0)).1) p (l.getD k (0, 0)).1 (l.getD k (0, 0)).2 = true then pile (l.drop (k + 1)) (p + (1 - ar (l.getD k (0, 0)).1)) else none := by
  rw [List.drop_eq_getElem_cons h]
  have e : l.getD k (0, 0) = l[k] := by simp [List.getD_eq_getElem?_getD, List.getElem?_eq_getElem h]
  rw [e]
  rfl

theorem ar_range (op : Int) : -1 ≤ ar op ∧ ar op ≤ 3 := by
  rcases ops op with h | rfl | rfl | rfl | rfl | rfl | rfl | rfl | rfl | rfl | rfl | rfl
  · rw [ar_out op h]; decide
  all_goals decide

theorem some_eq (p q : Int) : (p == q) = (pile [] p == some q) := by simp [pile]

theorem inTerm_yes (n : Int) (w : World) (h1 : 1 ≤ n) (h2 : n ≤ 40) : Calls Tryd.prog 57 #[.int .i64 n, .int .i64 1, .int .i64 40] w fun e w' => e = .returned (.bool true) ∧ w' = w := by
  go_enter Tryd.func57, Tryd.ntmps57
  go_wp2
  go_ret
  exact ⟨rfl, rfl⟩

set_option maxHeartbeats 1600000 in
theorem specGood_in (a : Option Addr) (len cap : Nat) (l : List (Int × Int)) (w : World) (h : NSl w a len l) (h1 : 1 ≤ len) (h2 : len ≤ 40) :
    Calls Tryd.prog 39 #[.slice a len cap] w fun e w' => e = .returned (.bool (pile l 0 == some 1)) ∧ Below w.heap.size w w' := by
  have i1 : (1 : Int) ≤ len := by omega
  have i2 : (len : Int) ≤ 40 := by omega
  have hlen := h.1
  go_enter Tryd.func39, Tryd.ntmps39
  go_wp2_with (go_at_call 57; refine (inTerm_yes _ _ i1 i2).mono ?_; rintro e w' ⟨rfl, rfl⟩)
  go_loopw [3, 13] (fun x i wr => ∃ (k : Nat) (p : Int), k ≤ len ∧ i = .int .i64 k ∧ x = .int .i64 p ∧ (-1000 ≤ p ∧ p ≤ k) ∧ Hid (pile l 0 = pile (l.drop k) p) ∧ Below w'.heap.size w' wr) (fun _ i _ => len - (intOf i).toNat)
  case atStart => exact ⟨0, 0, Nat.zero_le _, rfl, rfl, by omega, rfl, Below.refl _ _⟩
  case round =>
    obtain ⟨k, p, hk, rfl, rfl, ⟨hp0, hp1⟩, hpile, hbr⟩ := hrel
    by_cases hlt : k < len
    · obtain ⟨b, off, rfl, hbl, hc⟩ := h.at (by omega)
      have c1 := (hbr.cell (p := ⟨b, off + k * 2, none⟩) hbl).trans (hc k hlt).1
      have c2 := (hbr.cell (p := ⟨b, off + k * 2 + 1, none⟩) hbl).trans (hc k hlt).2
      have hstep := pile_drop l k p (by omega)
      rw [← hpile.out] at hstep
      clear hc h hpile
      generalize (l.getD k (0, 0)).1 = x at c1 hstep
      generalize (l.getD k (0, 0)).2 = y at c2 hstep
      have HS : Hid (pile l 0 = if fits (ar x) p x y = true then pile (l.drop (k + 1)) (p + (1 - ar x)) else none) := hstep
      clear hstep
      have hbr' := hbr.alloc hbr.size (.cells #[.int .i64 x, .int .i64 y] 68)
      by_cases hx : x = 2
      · subst hx
        have HA : ∀ W, Calls Tryd.prog 64 #[.int .i64 2] W fun e w' => e = .returned (.int .i64 0) ∧ w' = W := fun W => l1Arity_any 2 W
        have hp2 : ¬ p < 0 ∨ p < 0 := by omega
        go_wp2_with fail
        refine (HA _).mono ?_
        rintro e w1 ⟨rfl, rfl⟩
        clear HA
        go_wp2
        all_goals first
          | (go_ret
             refine ⟨?_, hbr'⟩
             have hf : fits (ar 2) p 2 y = false := by
               show fits 0 p 2 y = false
               simp [fits]; omega
             rw [HS.out, hf]; rfl)
          | (have hf : fits (ar 2) p 2 y = true := by
               show fits 0 p 2 y = true
               simp [fits]; omega
             have hs := HS.out
             rw [hf, if_pos rfl] at hs
             go_roundw
             case rel => exact ⟨k + 1, _, by omega, by go_num, rfl, by omega, hs, hbr'⟩
             case measure => simp [intOf]; omega)
      · have hx2 : (x == 2) = false := by simpa using hx
        have hr := ar_range x
        have HA : ∀ W, Calls Tryd.prog 64 #[.int .i64 x] W fun e w' => e = .returned (.int .i64 (ar x)) ∧ w' = W := fun W => l1Arity_any x W
        generalize ar x = m at HA HS hr
        obtain ⟨hr1, hr2⟩ := hr
        go_wp2_with fail
        refine (HA _).mono ?_
        rintro e w1 ⟨rfl, rfl⟩
        clear HA hx
        go_wp2
        all_goals first
          | (go_ret
             refine ⟨?_, hbr'⟩
             have hf : fits m p x y = false := by
               simp only [fits, hx2]
               simp_all
               try omega
             rw [HS.out, hf]; rfl)
          | (have hf : fits m p x y = true := by
               simp only [fits, hx2]
               simp_all
               try omega
             have hs := HS.out
             rw [hf, if_pos rfl] at hs
             go_roundw
             case rel => exact ⟨k + 1, _, by omega, by go_num, rfl, by omega, hs, hbr'⟩
             case measure => simp [intOf]; omega)
    · obtain rfl : k = len := by omega
      go_wp2
      go_ret
      refine ⟨?_, hbr⟩
      rw [hpile.out, List.drop_of_length_le (by omega)]
      exact congrArg (fun b => Ending.returned (Value.bool b)) (some_eq p 1)

theorem specGood_any (a : Option Addr) (len cap : Nat) (l : List (Int × Int)) (w : World) (h : NSl w a len l) (hm : len ≤ 9223372036854775807) :
    Calls Tryd.prog 39 #[.slice a len cap] w fun e w' => e = .returned (.bool (goodB l)) ∧ Below w.heap.size w w' := by
  by_cases h1 : 1 ≤ len ∧ len ≤ 40
  · have e : goodB l = (pile l 0 == some 1) := by
      unfold goodB
      rw [h.1, decide_eq_true h1, Bool.true_and]
    rw [e]
    exact specGood_in a len cap l w h h1.1 h1.2
  · have e : goodB l = false := by
      unfold goodB
      rw [h.1, decide_eq_false h1, Bool.false_and]
    rw [e]
    by_cases h2 : 1 ≤ len
    · have i1 : (1 : Int) ≤ len := by omega
      have i2 : ¬ (len : Int) ≤ 40 := by omega
      go_enter Tryd.func39, Tryd.ntmps39
      go_wp2
      go_ret
      exact ⟨rfl, Below.refl _ _⟩
    · have i1 : ¬ (1 : Int) ≤ len := by omega
      go_enter Tryd.func39, Tryd.ntmps39
      go_wp2
      go_ret
      exact ⟨rfl, Below.refl _ _⟩
end Go.Proofs.YtmbggaepckgogaaDoor
