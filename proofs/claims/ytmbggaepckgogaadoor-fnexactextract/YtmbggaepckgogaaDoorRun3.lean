/-
  PROVED HERE: what the program's GoodTerm answers, at every list of nodes, in a world whose table of arities is laid. No other condition. plain facts on slices of numbers in memory. No condition.
-/
import Derived.Test.YtmbggaepckgogaaDoorRun1
import Derived.Test.YtmbggaepckgogaaDoorRun2
import Derived.Test.YtmbggaepckgogaaDoorRows
import Derived.Test.YtmbggaepckgogaaDoorRun0
import Derived.WalkKit
import Derived.ProofKit
import Derived.OpenShut
import Derived.Handy
import Derived.OwnWalk
import Derived.WalkSmall
import Derived.BigQuiet
import Derived.Deep.QuietTactic
namespace Go.Proofs.YtmbggaepckgogaaDoor
open Go.ChangeShapes Go.WideShapes Go.ChangeAt Go.RowKit
set_option linter.unusedVariables false

/-- The program's arity of an op. -/
def arN (op : Int) : Int := if 0 ≤ ar op then ar op else 0
theorem implArity_any (op : Int) (w : World) (ht : Tab w) :
    Calls Tryd.prog 76 #[.int .i64 op] w fun e w' => e = .returned (.tuple #[.int .i64 (arN op), .bool (decide (0 ≤ ar op))]) ∧ w' = w := by
  by_cases h : 1 ≤ op ∧ op ≤ 11
  · have h0 : 0 ≤ ar op := by
      rcases ops op with h' | rfl | rfl | rfl | rfl | rfl | rfl | rfl | rfl | rfl | rfl | rfl
      · omega
      all_goals decide
    unfold arN
    rw [if_pos h0, decide_eq_true h0]
    exact implArity_in op w ht h
  · have h0 : ar op = -1 := ar_out op (by omega)
    unfold arN
    rw [h0]
    exact implArity_out op w (by omega)

/-- Does the number of a node fit its op? -/
def numFits (op n : Int) : Bool := if op = 1 then true else if op = 2 then decide (0 ≤ n ∧ n < 4) else n == 0
theorem implFits_any (op n : Int) (w : World) : Calls Tryd.prog 77 #[.agg #[.int .i64 op, .int .i64 n]] w fun e w' => e = .returned (.bool (numFits op n)) ∧ Below w.heap.size w w' := by
  by_cases h1 : op = 1
  · subst h1
    go_enter Tryd.func77, Tryd.ntmps77
    go_wp2
    go_ret
    exact ⟨rfl, by first | exact Below.refl _ _ | go_grown⟩
  · by_cases h2 : op = 2
    · subst h2
      have e : numFits 2 n = decide (0 ≤ n ∧ n < 4) := rfl
      rw [e]
      by_cases h3 : 0 ≤ n
      · by_cases h4 : n < 4
        · rw [decide_eq_true ⟨h3, h4⟩]
          go_enter Tryd.func77, Tryd.ntmps77
          go_wp2
          go_ret
          exact ⟨rfl, by first | exact Below.refl _ _ | go_grown⟩
        · rw [decide_eq_false (by omega)]
          go_enter Tryd.func77, Tryd.ntmps77
          go_wp2
          go_ret
          exact ⟨by simp, by first | exact Below.refl _ _ | go_grown⟩
      · rw [decide_eq_false (by omega)]
        go_enter Tryd.func77, Tryd.ntmps77
        go_wp2
        go_ret
        exact ⟨rfl, by first | exact Below.refl _ _ | go_grown⟩
    · have e : numFits op n = (n == 0) := by unfold numFits; rw [if_neg h1, if_neg h2]
      have i1 : (op == 1) = false := by simpa using h1
      have i2 : (op == 2) = false := by simpa using h2
      rw [e]
      go_enter Tryd.func77, Tryd.ntmps77
      go_wp2
      go_ret
      exact ⟨rfl, by first | exact Below.refl _ _ | go_grown⟩

theorem fits_eq (op p n : Int) : fits (ar op) p op n = (decide (0 ≤ ar op) && numFits op n && decide (arN op ≤ p)) := by
  unfold arN
  by_cases h0 : 0 ≤ ar op
  · rw [if_pos h0]
    rcases ops op with h' | rfl | rfl | h'
    · have := ar_out op h'; omega
    · rw [show ar 1 = 0 from rfl]
      simp [fits, numFits]
      by_cases hp : p < 0 <;> simp [hp] <;> omega
    · rw [show ar 2 = 0 from rfl]
      simp [fits, numFits]
      by_cases hp : p < 0 <;> by_cases h1 : n < 0 <;> by_cases h2 : 4 ≤ n <;> simp [hp, h1, h2] <;> omega
    · have hm : 0 < ar op := by rcases h' with rfl | rfl | rfl | rfl | rfl | rfl | rfl | rfl | rfl <;> decide
      have e1 : op ≠ 1 := by omega
      have e2 : op ≠ 2 := by omega
      have e3 : (op == 2) = false := by simpa using e2
      unfold fits numFits
      rw [if_neg e1, if_neg e2, e3]
      generalize ar op = m at h0 hm
      have e4 : decide (m ≤ p) = !decide (p < m) := by
        by_cases hp : p < m
        · rw [decide_eq_true hp, decide_eq_false (by omega)]; rfl
        · rw [decide_eq_false hp, decide_eq_true (by omega)]; rfl
      have e5 : decide (m < 0) = false := decide_eq_false (by omega)
      rw [e4, e5, decide_eq_true h0, decide_eq_true hm]
      cases decide (p < m) <;> cases hn : (n == 0) <;> simp [bne, hn]
  · have : ar op < 0 := by omega
    simp [fits, this, h0]

set_option maxHeartbeats 1600000 in
theorem implGood_in (a : Option Addr) (len cap : Nat) (l : List (Int × Int)) (w : World) (ht : Tab w) (h : NSl w a len l) (h2 : len ≤ 40) :
    Calls Tryd.prog 66 #[.slice a len cap] w fun e w' => e = .returned (.bool (pile l 0 == some 1)) ∧ Below w.heap.size w w' := by
  have i2 : ¬ 40 < (len : Int) := by omega
  have hlen := h.1
  have HT : Hid (Tab w) := ht
  clear ht
  go_enter Tryd.func66, Tryd.ntmps66
  go_wp2_with fail
  go_loopw [3, 13] (fun x i wr => ∃ (k : Nat) (p : Int), k ≤ len ∧ i = .int .i64 k ∧ x = .int .i64 p ∧ (-1000 ≤ p ∧ p ≤ k) ∧ Hid (pile l 0 = pile (l.drop k) p) ∧ Below w.heap.size w wr) (fun _ i _ => len - (intOf i).toNat)
  case atStart => exact ⟨0, 0, Nat.zero_le _, rfl, rfl, by omega, rfl, Below.refl _ _⟩
  case round =>
    obtain ⟨k, p, hk, rfl, rfl, ⟨hp0, hp1⟩, hpile, hbr⟩ := hrel
    by_cases hlt : k < len
    · obtain ⟨b, off, rfl, hbl, hc⟩ := h.at (by omega)
      have c1 := (hbr.cell (p := ⟨b, off + k * 2, none⟩) hbl).trans (hc k hlt).1
      have c2 := (hbr.cell (p := ⟨b, off + k * 2 + 1, none⟩) hbl).trans (hc k hlt).2
      have hstep := pile_drop l k p (by omega)
      rw [← hpile.out] at hstep
      clear hc h hpile
      generalize (l.getD k (0, 0)).1 = x at c1 hstep
      generalize (l.getD k (0, 0)).2 = y at c2 hstep
      rw [fits_eq] at hstep
      have hbr' := hbr.alloc hbr.size (.cells #[.int .i64 x, .int .i64 y] 68)
      have HA := implArity_any x _ (HT.out.keeps hbr')
      have HF : Hid (∀ W, Calls Tryd.prog 77 #[.agg #[.int .i64 x, .int .i64 y]] W fun e w' => e = .returned (.bool (numFits x y)) ∧ Below W.heap.size W w') := fun W => implFits_any x y W
      by_cases h0 : 0 ≤ ar x
      · have e0 : arN x = ar x := by unfold arN; rw [if_pos h0]
        rw [decide_eq_true h0, e0] at HA hstep
        have hr := ar_range x
        generalize ar x = m at HA hstep hr h0
        obtain ⟨hr1, hr2⟩ := hr
        clear e0
        have HS : Hid (pile l 0 = if (true && numFits x y && decide (m ≤ p)) = true then pile (l.drop (k + 1)) (p + (1 - m)) else none) := hstep
        clear hstep
        generalize numFits x y = nf at HF HS
        go_wp2_with fail
        refine HA.mono ?_
        rintro e w1 ⟨rfl, rfl⟩
        clear HA
        cases nf
        · go_wp2_with (go_at_call 77; refine Calls.mono (HF.out _) ?_; rintro e w2 ⟨rfl, hb2⟩)
          go_ret
          refine ⟨?_, hbr'.trans (hb2.mono hbr'.size)⟩
          rw [HS.out]; rfl
        · by_cases hmp : m ≤ p
          · have hmp' : ¬ p < m := by omega
            go_wp2_with (go_at_call 77; refine Calls.mono (HF.out _) ?_; rintro e w2 ⟨rfl, hb2⟩)
            have hs := HS.out
            rw [decide_eq_true hmp] at hs
            go_roundw
            case rel => exact ⟨k + 1, p + (1 - m), by omega, by go_num, rfl, by omega, hs, hbr'.trans (hb2.mono hbr'.size)⟩
            case measure => simp [intOf]; omega
          · have hmp' : p < m := by omega
            go_wp2_with (go_at_call 77; refine Calls.mono (HF.out _) ?_; rintro e w2 ⟨rfl, hb2⟩)
            go_ret
            refine ⟨?_, hbr'.trans (hb2.mono hbr'.size)⟩
            rw [HS.out, decide_eq_false (show ¬ m ≤ p by omega)]; rfl
      · rw [decide_eq_false h0] at HA hstep
        generalize arN x = m at HA hstep
        have HS : Hid (pile l 0 = none) := hstep
        clear hstep
        go_wp2_with fail
        refine HA.mono ?_
        rintro e w1 ⟨rfl, rfl⟩
        clear HA
        go_wp2
        go_ret
        refine ⟨?_, hbr'⟩
        rw [HS.out]; rfl
    · obtain rfl : k = len := by omega
      go_wp2
      go_ret
      refine ⟨?_, hbr⟩
      rw [hpile.out, List.drop_of_length_le (by omega)]
      exact congrArg (fun b => Ending.returned (Value.bool b)) (some_eq p 1)

theorem implGood_any (a : Option Addr) (len cap : Nat) (l : List (Int × Int)) (w : World) (ht : Tab w) (h : NSl w a len l) (hm : len ≤ 9223372036854775807) :
    Calls Tryd.prog 66 #[.slice a len cap] w fun e w' => e = .returned (.bool (goodB l)) ∧ Below w.heap.size w w' := by
  by_cases h1 : len ≤ 40
  · have e : goodB l = (pile l 0 == some 1) := by
      unfold goodB
      by_cases h0 : 1 ≤ len
      · rw [h.1, decide_eq_true ⟨h0, h1⟩, Bool.true_and]
      · obtain rfl : l = [] := List.eq_nil_of_length_eq_zero (by have := h.1; omega)
        rfl
    rw [e]
    exact implGood_in a len cap l w ht h h1
  · have e : goodB l = false := by
      unfold goodB
      rw [h.1, decide_eq_false (by omega), Bool.false_and]
    rw [e]
    have i1 : 40 < (len : Int) := by omega
    go_enter Tryd.func66, Tryd.ntmps66
    go_wp2
    go_ret
    exact ⟨rfl, Below.refl _ _⟩
end Go.Proofs.YtmbggaepckgogaaDoor
namespace Go.Proofs.YtmbggaepckgogaaDoor
open Go.ChangeShapes Go.WideShapes Go.ChangeAt Go.RowKit
set_option linter.unusedVariables false

/-- The slice (a, len, cap) holds the numbers l in the world w. -/
def Sl (w : World) (a : Option Addr) (len : Nat) (l : List Int) : Prop :=
  l.length = len ∧ (len = 0 ∨ ∃ b off, a = some ⟨b, off, none⟩ ∧ b < w.heap.size ∧ ∀ i, i < len → w.cell? ⟨b, off + i, none⟩ = some (.int .i64 (l.getD i 0)))

theorem Sl.keep {w w' : World} {a : Option Addr} {len : Nat} {l : List Int} (h : Sl w a len l) (hb : Below w.heap.size w w') : Sl w' a len l := by
  refine ⟨h.1, ?_⟩
  rcases h.2 with h0 | ⟨b, off, ha, hlt, hc⟩
  · exact .inl h0
  · exact .inr ⟨b, off, ha, Nat.lt_of_lt_of_le hlt hb.size, fun i hi => (hb.cell (p := ⟨b, off + i, none⟩) hlt).trans (hc i hi)⟩

theorem info2 : (Tryd.prog.info? 2).map (fun i => (i.zero, i.size, i.bytes)) = some (some (.int .i64 0), 1, 8) := by kernel_rfl
theorem cells_of {w : World} {a : Option Addr} {len : Nat} {l : List Int} (h : Sl w a len l) (h0 : 0 < len) :
    ∃ b off, a = some ⟨b, off, none⟩ ∧ ∀ i, i < len → w.cell? ⟨b, off + i, none⟩ = some (.int .i64 (l.getD i 0)) := by
  rcases h.2 with h1 | ⟨b, off, ha, _, hc⟩
  · omega
  · exact ⟨b, off, ha, hc⟩
theorem infoInt : (Tryd.prog.info? 3).map (fun i => (i.zero, i.size, i.bytes)) = some (some (.int .i64 0), 1, 8) := by kernel_rfl
def vals (l : List Int) : List Value := l.map (Value.int .i64)
theorem Sl.vals {w : World} {base e n : Nat} {v : Value} {ys : List Int} (h : w.ownsRow base e 1 v n (vals ys)) : ∃ a cap, v = .slice a n cap ∧ Sl w a n ys := by
  have hl : ys.length = n := by have := h.1; simpa [Go.Proofs.YtmbggaepckgogaaDoor.vals] using this
  rcases h.2 with ⟨rfl, rfl⟩ | ⟨g, cap, cur, rfl, hb, hg, _⟩
  · exact ⟨_, _, rfl, hl, .inl rfl⟩
  · refine ⟨_, _, rfl, hl, .inr ⟨g, 0, rfl, Array.getElem?_eq_some_iff.1 hg |>.1, fun i hi => ?_⟩⟩
    rw [Nat.zero_add, h.cellAt i (by omega)]
    simp [Go.Proofs.YtmbggaepckgogaaDoor.vals, List.getElem?_map, List.getD_eq_getElem?_getD, List.getElem?_eq_getElem (show i < ys.length by omega)]
theorem vals_len (l : List Int) : (vals l).length = l.length := by simp [vals]
theorem vals_append (l m : List Int) : vals (l ++ m) = vals l ++ vals m := by simp [vals]
theorem vals_one (l : List Int) : ∀ u ∈ vals l, u.oneCell' = true := by
  intro u hu
  simp only [vals, List.mem_map] at hu
  obtain ⟨n, _, rfl⟩ := hu
  rfl
theorem add_to (b off j : Nat) : (⟨b, off, none⟩ : Addr).add j = ⟨b, off + j, none⟩ := by
  simp only [Addr.add]
  split
  · next h => subst h; rfl
  · rfl
theorem sl_cells {w : World} {b off len : Nat} {l : List Int} (h : Sl w (some ⟨b, off, none⟩) len l) (i m : Nat) (hi : i + m ≤ len) : ∀ j u, (vals ((l.drop i).take m))[j]? = some u → w.cell? ((⟨b, off + i, none⟩ : Addr).add j) = some u := by
  intro j u hj
  have hll := h.1
  have hlt : j < (vals ((l.drop i).take m)).length := by
    rcases Nat.lt_or_ge j (vals ((l.drop i).take m)).length with h0 | h0
    · exact h0
    · rw [List.getElem?_eq_none h0] at hj; cases hj
  rw [vals_len, List.length_take, List.length_drop] at hlt
  obtain ⟨b', off', e, hc⟩ := cells_of h (by omega)
  cases e
  have c := hc (i + j) (by omega)
  rw [add_to, Nat.add_assoc, c, ← hj]
  simp only [vals, List.getElem?_map, List.getElem?_take, List.getElem?_drop]
  rw [if_pos (by omega), List.getElem?_eq_getElem (by omega), List.getD_eq_getElem?_getD, List.getElem?_eq_getElem (by omega)]
  rfl
end Go.Proofs.YtmbggaepckgogaaDoor
