/-
  PROVED HERE: what the laws' own comparing answers at equal lists, and whether a number is in a list. No condition.
-/
import Derived.Test.YtlpefaaohcgboaaDoorNodeRows
import Derived.Test.YtlpefaaohcgboaaDoorKeeps
import Derived.Test.YtlpefaaohcgboaaDoorSteps
import Derived.Test.YtlpefaaohcgboaaDoorLists
import Derived.Laws.StructEq
namespace Go.Proofs.YtlpefaaohcgboaaDoor
open Go.ChangeShapes Go.WideShapes Go.ChangeAt Go.RowKit
set_option linter.unusedVariables false

theorem eqNd (a b c d : Int) (w : World) : (Op.equalIn 10000 69 (.agg #[.int .i64 a, .int .i64 b]) (.agg #[.int .i64 c, .int .i64 d])).run Tryd.prog w = .ok (a == c && b == d) w := by
  have hS : Tryd.prog.underlying 69 = some (.struct (Tryd.prog.fieldsOf 69)) := by kernel_rfl
  have hp : Tryd.prog.stoodInHeld 69 = false := by kernel_rfl
  rw [show (10000 : Nat) = 9999 + 1 from rfl, run_equalIn_agg w 9999 69 _ _ hS hp]
  simp only [Program.fieldsOf, Tryd.underlying69]
  go_simp
  by_cases h1 : a = c <;> by_cases h2 : b = d <;> simp [h1, h2]
theorem neqNd (a b : Int) (w : World) : (binOp .neq 69 (.agg #[.int .i64 a, .int .i64 b]) (.agg #[.int .i64 a, .int .i64 b])).run Tryd.prog w = .ok (.bool false) w := by
  rw [run_neq_struct, eqNd]
  simp
theorem guardNd : Tryd.prog.eqGuardType Tryd.prog.depth 69 = false := by kernel_rfl
set_option maxRecDepth 20000 in
theorem sameN_same (a b : Option Addr) (len cap cap' : Nat) (l : List (Int × Int)) (w : World) (h : NSl w a len l) (h' : NSl w b len l) (hn : len ≤ 1048576) :
    Calls Tryd.prog 13 #[.slice a len cap, .slice b len cap'] w fun e w' => e = .returned (.bool true) ∧ Below w.heap.size w w' := by
  have hne : ((len : Int) != len) = false := by simp
  go_enter Tryd.func13, Tryd.ntmps13
  go_wp2_with fail
  go_loopw [13] (fun i wr => ∃ (k : Nat), k ≤ len ∧ i = .int .i64 k ∧ Below w.heap.size w wr) (fun i _ => len - (intOf i).toNat)
  case atStart => exact ⟨0, Nat.zero_le _, rfl, Below.refl _ _⟩
  case round =>
    obtain ⟨k, hk, rfl, hbr⟩ := hrel
    by_cases hlt : k < len
    · obtain ⟨b1, off, rfl, hbl, hc⟩ := h.at (by omega)
      obtain ⟨b2, off', rfl, hbl', hc'⟩ := h'.at (by omega)
      have c1 := (hbr.cell (p := ⟨b1, off + k * 2, none⟩) hbl).trans (hc k hlt).1
      have c2 := (hbr.cell (p := ⟨b1, off + k * 2 + 1, none⟩) hbl).trans (hc k hlt).2
      have d1 := (hbr.cell (p := ⟨b2, off' + k * 2, none⟩) hbl').trans (hc' k hlt).1
      have d2 := (hbr.cell (p := ⟨b2, off' + k * 2 + 1, none⟩) hbl').trans (hc' k hlt).2
      clear hc hc' h h'
      generalize (l.getD k (0, 0)).1 = x at c1 d1
      generalize (l.getD k (0, 0)).2 = y at c2 d2
      have hlt' : (k : Int) < len := by omega
      have hq := fun W => neqNd x y W
      have hgd := guardNd
      go_wp2_with fail
      go_quiet (fail)
      have hbb := below_drawn hbr nq
      go_wp2
      go_roundw
      case rel => exact ⟨k + 1, by omega, by go_num, hbb⟩
      case measure => simp [intOf]; omega
    · go_wp2
      go_ret
      exact ⟨rfl, hbr⟩
set_option maxRecDepth 20000 in
theorem sameI_same (a b : Option Addr) (len cap cap' : Nat) (l : List Int) (w : World) (h : Sl w a len l) (h' : Sl w b len l) (hn : len ≤ 1048576) :
    Calls Tryd.prog 14 #[.slice a len cap, .slice b len cap'] w fun e w' => e = .returned (.bool true) ∧ Below w.heap.size w w' := by
  have hne : ((len : Int) != len) = false := by simp
  go_enter Tryd.func14, Tryd.ntmps14
  go_wp2_with fail
  go_loopw [13] (fun i wr => ∃ (k : Nat), k ≤ len ∧ i = .int .i64 k ∧ Below w.heap.size w wr) (fun i _ => len - (intOf i).toNat)
  case atStart => exact ⟨0, Nat.zero_le _, rfl, Below.refl _ _⟩
  case round =>
    obtain ⟨k, hk, rfl, hbr⟩ := hrel
    by_cases hlt : k < len
    · obtain ⟨b1, off, rfl, hc⟩ := cells_of (h.keep hbr) (by omega)
      obtain ⟨b2, off', rfl, hc'⟩ := cells_of (h'.keep hbr) (by omega)
      have c1 := hc k hlt
      have d1 := hc' k hlt
      clear hc hc' h h'
      generalize l.getD k 0 = x at c1 d1
      have hlt' : (k : Int) < len := by omega
      have hxx : (x != x) = false := by simp
      go_wp2_with fail
      go_quiet (fail)
      have hbb := below_drawn hbr nq
      go_wp2
      go_roundw
      case rel => exact ⟨k + 1, by omega, by go_num, hbb⟩
      case measure => simp [intOf]; omega
    · go_wp2
      go_ret
      exact ⟨rfl, hbr⟩
set_option maxRecDepth 20000 in
theorem has_any (a : Option Addr) (len cap : Nat) (l : List Int) (n : Int) (w : World) (h : Sl w a len l) (hn : len ≤ 1048576) :
    Calls Tryd.prog 19 #[.slice a len cap, .int .i64 n] w fun e w' => e = .returned (.bool (decide (n ∈ l))) ∧ w' = w := by
  have hll := h.1
  have HS : Hid (Sl w a len l) := h
  have HYes : Hid (∀ i, i < len → l.getD i 0 = n → decide (n ∈ l) = true) := fun i hi e => by
    rw [decide_eq_true]
    rw [← e, List.getD_eq_getElem?_getD, List.getElem?_eq_getElem (by omega)]
    exact List.getElem_mem _
  have HNo : Hid ((∀ i, i < len → l.getD i 0 ≠ n) → decide (n ∈ l) = false) := fun hh => by
    rw [decide_eq_false]
    intro hm
    obtain ⟨i, hi, e⟩ := List.getElem_of_mem hm
    refine hh i (by omega) ?_
    rw [List.getD_eq_getElem?_getD, List.getElem?_eq_getElem hi]
    exact e
  generalize decide (n ∈ l) = K at HYes HNo ⊢
  clear h
  go_enter Tryd.func19, Tryd.ntmps19
  go_wp2_with fail
  go_loopw [9] (fun i wr => ∃ (k : Nat), k ≤ len ∧ i = .int .i64 k ∧ Hid (∀ i, i < k → l.getD i 0 ≠ n) ∧ wr = w) (fun i _ => len - (intOf i).toNat)
  case atStart => exact ⟨0, Nat.zero_le _, rfl, fun i hi => absurd hi (Nat.not_lt_zero _), rfl⟩
  case round =>
    obtain ⟨k, hk, rfl, hno, rfl⟩ := hrel
    by_cases hlt : k < len
    · obtain ⟨b1, off, rfl, hc⟩ := cells_of HS.out (by omega)
      have c1 := hc k hlt
      have hlt' : (k : Int) < len := by omega
      by_cases hx : l.getD k 0 = n
      · rw [hx] at c1
        have HK := (show Hid _ from HYes.out k hlt hx)
        clear hc hx
        go_wp2
        go_ret
        exact ⟨by rw [HK.out]; rfl, rfl⟩
      · have hx' : (l.getD k 0 == n) = false := by simpa using hx
        have hnx : Hid (∀ i, i < k + 1 → l.getD i 0 ≠ n) := fun i hi => by
          rcases Nat.lt_or_ge i k with h0 | h0
          · exact hno.out i h0
          · rw [show i = k from by omega]; exact hx
        clear hc hx hno
        generalize l.getD k 0 = x at c1 hx'
        go_wp2
        go_roundw
        case rel => exact ⟨k + 1, by omega, by go_num, hnx, (by first | trivial | rfl)⟩
        case measure => simp [intOf]; omega
    · have HK := (show Hid _ from HNo.out (fun i hi => hno.out i (by omega)))
      go_wp2
      go_ret
      exact ⟨by rw [HK.out]; rfl, rfl⟩
end Go.Proofs.YtlpefaaohcgboaaDoor
