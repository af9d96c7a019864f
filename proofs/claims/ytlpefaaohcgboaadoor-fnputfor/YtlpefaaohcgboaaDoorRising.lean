/-
  PROVED HERE: which numbers the program tells of four marks. No condition.
-/
import Derived.Test.YtlpefaaohcgboaaDoorSure
import Derived.Test.YtlpefaaohcgboaaDoorIGood
namespace Go.Proofs.YtlpefaaohcgboaaDoor
open Go.ChangeShapes Go.WideShapes Go.ChangeAt Go.RowKit
set_option linter.unusedVariables false

/-- The numbers below k that are marked. -/
def ris (s : Nat → Bool) : Nat → List Int
  | 0 => []
  | k + 1 => ris s k ++ (if s k = true then [(k : Int)] else [])
theorem ris_len (s : Nat → Bool) : ∀ k, (ris s k).length ≤ k
  | 0 => Nat.le_refl _
  | k + 1 => by
    have := ris_len s k
    unfold ris
    split <;> simp <;> omega
/-- A list of numbers as marks. -/
def inL (o : List Int) (j : Nat) : Bool := decide ((j : Int) ∈ o)
theorem ris_lt (o : List Int) (h : o.Pairwise (· < ·)) : ∀ k, (∀ x ∈ o, 0 ≤ x) → ris (inL o) k = o.filter (fun x => decide (x < (k : Int)))
  | 0, h0 => by
    symm
    unfold ris
    rw [List.filter_eq_nil_iff]
    intro x hx
    have := h0 x hx
    simp; omega
  | k + 1, h0 => by
    have ih := ris_lt o h k h0
    unfold ris
    rw [ih]
    clear ih
    unfold inL
    induction o with
    | nil => simp
    | cons x o ih =>
      obtain ⟨h1, h2⟩ := List.pairwise_cons.1 h
      have ih' := ih h2 (fun y hy => h0 y (by simp [hy]))
      by_cases hx : x < k
      · have e1 : decide (x < (k : Int)) = true := decide_eq_true hx
        have e2 : decide (x < ((k + 1 : Nat) : Int)) = true := decide_eq_true (by omega)
        have e3 : ((k : Int) ∈ x :: o) = ((k : Int) ∈ o) := by
          rw [List.mem_cons]
          have : ¬ (k : Int) = x := by omega
          simp [this]
        simp only [List.filter_cons, e1, e2, if_true, e3, List.cons_append, ih']
      · have e1 : decide (x < (k : Int)) = false := decide_eq_false hx
        have hno : o.filter (fun x => decide (x < (k : Int))) = [] := by
          rw [List.filter_eq_nil_iff]
          intro y hy
          have := h1 y hy
          simp; omega
        have hno' : o.filter (fun x => decide (x < ((k + 1 : Nat) : Int))) = [] := by
          rw [List.filter_eq_nil_iff]
          intro y hy
          have := h1 y hy
          simp; omega
        simp only [List.filter_cons, e1, hno, hno']
        by_cases hk : x = k
        · subst hk
          rw [decide_eq_true (show (k : Int) < ((k + 1 : Nat) : Int) by omega)]
          simp
        · have e2 : ¬ x < ((k + 1 : Nat) : Int) := by omega
          have e3 : ¬ (k : Int) ∈ x :: o := by
            rw [List.mem_cons]
            rintro (h' | h')
            · exact hk h'.symm
            · have := h1 _ h'; omega
          rw [decide_eq_false e2, decide_eq_false e3]
          simp
theorem ris_few {o : List Int} (h : Few o) : ris (inL o) 4 = o := by
  rw [ris_lt o h.1 4 (fun x hx => (h.2 x hx).1), List.filter_eq_self]
  intro x hx
  have := (h.2 x hx).2
  simpa using this
theorem putS_has : ∀ l n x, x ∈ putS l n ↔ x ∈ l ∨ x = n
  | [], n, x => by simp [putS]
  | y :: l, n, x => by
    unfold putS
    split
    · rw [List.mem_cons, putS_has l n x, List.mem_cons, or_assoc]
    · split
      · next h =>
        constructor
        · exact .inl
        · rintro (h' | h')
          · exact h'
          · rw [h', ← h]; simp
      · simp only [List.mem_cons]
        constructor
        · rintro (h' | h')
          · exact .inr h'
          · exact .inl h'
        · rintro (h' | h')
          · exact .inr h'
          · exact .inl h'
theorem inL_put (o : List Int) (n j : Nat) : inL (putL o n) j = if j = n then true else inL o j := by
  unfold inL
  rw [putL_eq]
  by_cases h : j = n
  · rw [if_pos h, decide_eq_true ((putS_has _ _ _).2 (.inr (by omega)))]
  · rw [if_neg h]
    have : ((j : Int) ∈ putS o n) ↔ (j : Int) ∈ o := by
      rw [putS_has]
      constructor
      · rintro (h' | h')
        · exact h'
        · omega
      · exact .inl
    rw [decide_eq_decide]
    exact this

theorem idx4_0 (s : Nat → Bool) (W : World) : (Instr.index 71 (.agg #[.bool (s 0), .bool (s 1), .bool (s 2), .bool (s 3)]) (.int .i64 0)).run Tryd.prog W = .ok (.bool (s 0)) W := by kernel_rfl
theorem idx4_1 (s : Nat → Bool) (W : World) : (Instr.index 71 (.agg #[.bool (s 0), .bool (s 1), .bool (s 2), .bool (s 3)]) (.int .i64 1)).run Tryd.prog W = .ok (.bool (s 1)) W := by kernel_rfl
theorem idx4_2 (s : Nat → Bool) (W : World) : (Instr.index 71 (.agg #[.bool (s 0), .bool (s 1), .bool (s 2), .bool (s 3)]) (.int .i64 2)).run Tryd.prog W = .ok (.bool (s 2)) W := by kernel_rfl
theorem idx4_3 (s : Nat → Bool) (W : World) : (Instr.index 71 (.agg #[.bool (s 0), .bool (s 1), .bool (s 2), .bool (s 3)]) (.int .i64 3)).run Tryd.prog W = .ok (.bool (s 3)) W := by kernel_rfl
theorem idx4 (s : Nat → Bool) (k : Nat) (h : k < 4) (W : World) : (Instr.index 71 (.agg #[.bool (s 0), .bool (s 1), .bool (s 2), .bool (s 3)]) (.int .i64 (k : Int))).run Tryd.prog W = .ok (.bool (s k)) W := by
  have : k = 0 ∨ k = 1 ∨ k = 2 ∨ k = 3 := by omega
  rcases this with rfl | rfl | rfl | rfl
  · exact idx4_0 s W
  · exact idx4_1 s W
  · exact idx4_2 s W
  · exact idx4_3 s W
set_option maxHeartbeats 1600000 in
set_option maxRecDepth 20000 in
theorem rising_any (s : Nat → Bool) (w : World) :
    Calls Tryd.prog 46 #[.agg #[.bool (s 0), .bool (s 1), .bool (s 2), .bool (s 3)]] w fun e w' => ∃ v : Value, e = .returned v ∧ w'.ownsRow w.heap.size 3 1 v (ris s 4).length (vals (ris s 4)) ∧ Below w.heap.size w w' := by
  obtain ⟨i0, hi, hz0, hz1, hz2⟩ := info_parts infoInt
  go_enter Tryd.func46, Tryd.ntmps46
  go_wp2_with fail
  go_loopw [3, 7] (fun o i wr => ∃ (k : Nat), k ≤ 4 ∧ i = .int .i64 k ∧ wr.ownsRow w.heap.size 3 1 o (ris s k).length (vals (ris s k)) ∧ Below w.heap.size w wr) (fun _ i _ => 4 - (intOf i).toNat)
  case atStart => exact ⟨0, Nat.zero_le _, rfl, World.ownsRow_nil _ _ _ _, (Below.refl _ _).alloc (Nat.le_refl _) _⟩
  case round =>
    obtain ⟨k, hk, rfl, hown, hbr⟩ := hrel
    by_cases hlt : k < 4
    · have hlt' : (k : Int) < 4 := by omega
      have hix := fun W => idx4 s k hlt W
      have hro := ris_len s k
      by_cases hsk : s k = true
      · have e : ris s (k + 1) = ris s k ++ [(k : Int)] := by show ris s k ++ _ = _; rw [if_pos hsk]
        have hbn := hbr.alloc hbr.size (.cells #[.int .i64 (k : Int)] 3)
        rw [hsk] at hix
        go_wp2_with (at_builtin; refine wpList_append_own _ rfl _ _ 30 rfl w.heap.size 3 i0 (.int .i64 0) 1 8 Tryd.underlying30 hi hz0 hz1 hz2 rfl (by decide) _ _ _ rfl (hown.alloc _) ⟨wr.heap.size, 0, none⟩ 1 1 [.int .i64 (k : Int)] rfl (by simp) (cell_new1 wr .i64 k 3) (one_cell1 .i64 k) (by unfold maxLen; omega) (by omega) hbn.size ?_; intro v' w4 hown4 hg4 _)
        go_roundw
        case rel => exact ⟨k + 1, by omega, by go_num, by rw [e, List.length_append, vals_append]; exact hown4, hbn.grown hg4 hbn.size (own_ge hown)⟩
        case measure => simp [intOf]; omega
      · have hsk' : s k = false := by simpa using hsk
        have e : ris s (k + 1) = ris s k := by show ris s k ++ _ = _; rw [if_neg hsk, List.append_nil]
        rw [hsk'] at hix
        go_wp2
        go_roundw
        case rel => exact ⟨k + 1, by omega, by go_num, by rw [e]; exact hown, hbr⟩
        case measure => simp [intOf]; omega
    · obtain rfl : k = 4 := by omega
      go_wp2
      go_ret
      exact ⟨_, rfl, hown, hbr⟩

/-- Four marks in a block. -/
def Seen (w : World) (g : Nat) (s : Nat → Bool) : Prop := w.heap[g]? = some (.cells #[.bool (s 0), .bool (s 1), .bool (s 2), .bool (s 3)] 71 (0, 0))
theorem Seen.cell {w : World} {g : Nat} {s : Nat → Bool} (h : Seen w g s) (n : Nat) (hn : n < 4) : w.cell? ⟨g, n, none⟩ = some (.bool (s n)) ∧ w.frozen? ⟨g, n, none⟩ = false := by
  refine ⟨?_, frozen_of_row w g n _ _ h⟩
  rw [cell_of_row w g n _ _ _ h]
  have : n = 0 ∨ n = 1 ∨ n = 2 ∨ n = 3 := by omega
  rcases this with rfl | rfl | rfl | rfl <;> rfl
theorem Seen.lt {w : World} {g : Nat} {s : Nat → Bool} (h : Seen w g s) : g < w.heap.size := Array.getElem?_eq_some_iff.1 h |>.1
theorem Seen.keep {w w' : World} {g : Nat} {s : Nat → Bool} (h : Seen w g s) (hb : Below w.heap.size w w') : Seen w' g s := (hb.block g h.lt).trans h
theorem Seen.set {w : World} {g : Nat} {s s' : Nat → Bool} (h : Seen w g s) (n : Nat) (hn : n < 4) (hs : ∀ j, s' j = if j = n then true else s j) : Seen (w.setCell ⟨g, n, none⟩ (.bool true)) g s' := by
  unfold Seen
  rw [heap_setCell_same w g n _ _ _ h, hs 0, hs 1, hs 2, hs 3]
  have : n = 0 ∨ n = 1 ∨ n = 2 ∨ n = 3 := by omega
  rcases this with rfl | rfl | rfl | rfl <;> rfl
end Go.Proofs.YtlpefaaohcgboaaDoor
