/-
  PROVED HERE: which root the model and the program find from a number of good parents, and how many steps5 that takes, at every list and every number. No other condition. what joining the roots of two numbers answers, to the model and to the program, at every list and every two numbers. No other condition.
-/
import Derived.Test.YtemlghfcfploaaaDoorRun18
import Derived.Lib.SliceRun
import Derived.Lib.MinMax
namespace Go.Proofs.YtemlghfcfploaaaDoor
open Go.ChangeShapes Go.WideShapes Go.ChangeAt Go.RowKit
set_option linter.unusedVariables false

/-- Whether a number is one of the list. -/
def hasB (l : List Int) (k : Int) : Bool := decide (0 ≤ k ∧ k < l.length)
theorem implHas_any (a : Option Addr) (len cap : Nat) (l : List Int) (hl : l.length = len) (k : Int) (w : World) :
    Calls Tryd.prog 49 #[.slice a len cap, .int .i64 k] w fun e w' => e = .returned (.bool (hasB l k)) ∧ w' = w := by
  by_cases h0 : 0 ≤ k
  · have e : hasB l k = decide (k < len) := by unfold hasB; rw [hl]; exact decide_eq_decide.2 (by omega)
    rw [e]
    clear e hl
    go_enter Tryd.func49, Tryd.ntmps49
    go_wp2
    go_ret
    exact ⟨rfl, rfl⟩
  · have e : hasB l k = false := by unfold hasB; exact decide_eq_false (by omega)
    rw [e]
    have h0' : (0 ≤ k) = False := by simp; omega
    clear e hl
    go_enter Tryd.func49, Tryd.ntmps49
    go_wp2
    go_ret
    exact ⟨rfl, rfl⟩
theorem specHas_any (len : Nat) (l : List Int) (hl : l.length = len) (k : Int) (w : World) :
    Calls Tryd.prog 38 #[.int .i64 k, .int .i64 0, .int .i64 ((len : Int) - 1)] w fun e w' => e = .returned (.bool (hasB l k)) ∧ w' = w := by
  by_cases h0 : 0 ≤ k ∧ k < len
  · have e : hasB l k = true := by unfold hasB; rw [hl]; exact decide_eq_true h0
    rw [e]
    exact in_yes k 0 _ w (by omega) (by omega)
  · have e : hasB l k = false := by unfold hasB; rw [hl]; exact decide_eq_false h0
    rw [e]
    exact in_no k 0 _ w (by omega)

/-- FindRoot's answer. -/
def findOk (l : List Int) (k : Int) : Bool := parB l && hasB l k
def findR (l : List Int) (k : Int) : Int := if findOk l k = true then ((root l k.toNat : Nat) : Int) else 0
def findS (l : List Int) (k : Int) : Int := if findOk l k = true then ((steps5 l k.toNat : Nat) : Int) else 0

end Go.Proofs.YtemlghfcfploaaaDoor
namespace Go.Proofs.YtemlghfcfploaaaDoor
open Go.ChangeShapes Go.WideShapes Go.ChangeAt Go.RowKit
set_option linter.unusedVariables false

theorem own_open {w : World} {base e n : Nat} {v : Value} {xs : List Value} (h : w.ownsRow base e 1 v n xs) (h0 : 0 < n) : ∃ g cap, v = .slice (some ⟨g, 0, none⟩) n cap ∧ base ≤ g ∧ g < w.heap.size := by
  rcases h.2 with ⟨rfl, h00⟩ | ⟨g, cap, cur, rfl, hb, hg, _⟩
  · omega
  · exact ⟨g, cap, rfl, hb, Array.getElem?_eq_some_iff.1 hg |>.1⟩
theorem empty5 (w : World) : (w.alloc (.cells #[] 3)).ownsRow w.heap.size 3 1 (.slice (some ⟨w.heap.size, 0, none⟩) 0 0) 0 [] :=
  ⟨rfl, .inr ⟨w.heap.size, 0, #[], rfl, Nat.le_refl _, by unfold World.alloc; exact Array.getElem?_push_size, by omega, by unfold maxLen; omega, rfl, rfl⟩⟩
theorem own5_any (a : Option Addr) (len cap : Nat) (l : List Int) (w : World) (h : Sl w a len l) (h0 : 0 < len) (hn : len ≤ 1048576) :
    Calls Tryd.prog 65 #[.slice a len cap] w fun e w' => ∃ v : Value, e = .returned v ∧ w'.ownsRow w.heap.size 3 1 v len (vals l) ∧ Below w.heap.size w w' := by
  obtain ⟨i0, hi, hz0, hz1, hz2⟩ := info_parts infoInt
  have hll := h.1
  have hb0 : Below w.heap.size w (w.alloc (.cells #[] 3)) := (Below.refl _ _).alloc (Nat.le_refl _) _
  obtain ⟨b, off, rfl, _⟩ := cells_of h h0
  have hcs := sl_cells (h.keep hb0) 0 len (by omega)
  rw [List.drop_zero, List.take_of_length_le (by omega), Nat.add_zero] at hcs
  have HC := (show Hid _ from hcs)
  have H1 : Hid (∀ u ∈ vals l, u.oneCell' = true) := vals_one l
  have hvl : (vals l).length = len * 1 := by rw [vals_len]; omega
  clear hcs h
  go_enter Tryd.func65, Tryd.ntmps65
  go_wp2_with (at_builtin; refine wpList_append_own _ rfl _ _ 33 rfl w.heap.size 3 i0 (.int .i64 0) 1 8 Tryd.underlying33 hi hz0 hz1 hz2 rfl (by decide) _ _ _ rfl (empty5 w) ⟨b, off, none⟩ len cap (vals l) rfl hvl HC.out H1.out (by unfold maxLen; omega) (by omega) (by simp) ?_; intro v' w4 hown4 hg4 _)
  go_ret
  rw [Nat.zero_add, List.nil_append] at hown4
  exact ⟨_, rfl, hown4, hb0.grown hg4 (by simp) (fun r hr => by cases hr; exact Nat.le_refl _)⟩
theorem vals_set (l : List Int) (i : Nat) (x : Int) : vals (l.set i x) = (vals l).set i (.int .i64 x) := by simp [vals, List.map_set]
theorem vals_at {l : List Int} {i : Nat} (h : i < l.length) : (vals l)[i]? = some (.int .i64 (l.getD i 0)) := by
  simp [vals, List.getD_eq_getElem?_getD, h]
theorem has_iff {l : List Int} {k : Int} (h : hasB l k = true) : ∃ n : Nat, k = n ∧ n < l.length := by
  unfold hasB at h
  have := of_decide_eq_true h
  exact ⟨k.toNat, by omega, by omega⟩

/-- UnionRoots' answer. -/
def unionOk (l : List Int) (a b : Int) : Bool := parB l && hasB l a && hasB l b
def unionR (l : List Int) (a b : Int) : List Int := if unionOk l a b = true then unionL l a.toNat b.toNat else []
theorem union_cases (l : List Int) (a b : Int) : (unionOk l a b = true ∧ parB l = true ∧ hasB l a = true ∧ hasB l b = true) ∨ (unionOk l a b = false ∧ (parB l = false ∨ (parB l = true ∧ hasB l a = false) ∨ (parB l = true ∧ hasB l a = true ∧ hasB l b = false))) := by
  unfold unionOk
  cases parB l <;> cases hasB l a <;> cases hasB l b <;> simp

end Go.Proofs.YtemlghfcfploaaaDoor
