/-
  PROVED HERE: the laws' own numbers out of bytes, whatever the bytes. No condition.
-/
import Derived.Test.YtpjgjpjfchfmlaaGreatDoorDrawing
namespace Go.Proofs.YtpjgjpjfchfmlaaGreatDoor
open Go.ChangeShapes Go.WideShapes Go.ChangeAt Go.RowKit
open Odd
set_option linter.unusedVariables false

theorem numberOf_any (w : World) (a : Option Addr) (len cap : Nat) (hb : Bytes w w.heap.size a len) (hl : len ≤ 1048576) :
    Calls Tryz.prog 34 #[.slice a len cap] w fun e w' => ∃ v : Int, e = .returned (.int .i64 v) ∧ (0 ≤ v ∧ v < 1000003) ∧ w' = w := by
  go_enter Tryz.func34, Tryz.ntmps34
  go_wp2
  go_loop [3, 8] (fun x i => ∃ (k : Nat) (y : Int), k ≤ len ∧ i = .int .i64 k ∧ x = .int .i64 y ∧ (0 ≤ y ∧ y < 1000003)) (fun _ i => len - (intOf i).toNat)
  case atStart => exact ⟨0, 0, Nat.zero_le _, rfl, rfl, by decide⟩
  case round =>
    obtain ⟨k, y, hk, rfl, rfl, hy0, hy1⟩ := hrel
    by_cases hlt : k < len
    · rcases hb with h0 | ⟨b, off, rfl, hbl, hc⟩
      · omega
      · obtain ⟨z, hz, z0, z1⟩ := hc k hlt
        clear hc
        go_wp2
        go_round
        case rel => exact ⟨k + 1, _, by omega, by go_num, rfl, Int.emod_nonneg _ (by decide), Int.emod_lt_of_pos _ (by decide)⟩
        case measure => simp [intOf]; omega
    · go_wp2
      go_ret
      exact ⟨_, rfl, ⟨hy0, hy1⟩, rfl⟩

theorem row_grows {w wr w4 : World} {k : Nat} {v v' : Value} {ys : List Int} {y : Int} {o : Obj} (hbr : Below w.heap.size w wr) (hown : wr.ownsRow w.heap.size 2 1 v k (ys.map (Value.int .i64))) (hy : Hid (∀ y ∈ ys, InI y)) (hyr : InI y)
    (hown4 : w4.ownsRow w.heap.size 2 1 v' (k + 1) (ys.map (Value.int .i64) ++ [.int .i64 y])) (hg4 : (wr.alloc o).grownBy w4 v.ownBlock) :
    w4.ownsRow w.heap.size 2 1 v' (k + 1) ((ys ++ [y]).map (Value.int .i64)) ∧ Hid (∀ z ∈ ys ++ [y], InI z) ∧ Below w.heap.size w w4 := by
  refine ⟨by rw [List.map_append]; exact hown4, ?_, ?_⟩
  · intro z hz
    rcases List.mem_append.1 hz with hz | hz
    · exact hy.out z hz
    · rw [List.mem_singleton.1 hz]; exact hyr
  · exact (hbr.alloc hbr.size _).grown hg4 (by have := hbr.size; simp; omega) (own_ge hown)

set_option maxRecDepth 20000 in
theorem longs_any (w : World) (a : Option Addr) (len cap m : Nat) (hb : Bytes w w.heap.size a len) (hl : len ≤ 1048576) (hm : m ≤ 1000) :
    Calls Tryz.prog 12 #[.slice a len cap, .int .i64 m] w fun e w' => ∃ (v : Value) (ys : List Int), e = .returned v ∧ w'.ownsRow w.heap.size 2 1 v m (ys.map (Value.int .i64)) ∧ (∀ y ∈ ys, InI y) ∧ Below w.heap.size w w' := by
  obtain ⟨i0, hi, hz0, hz1, hz2⟩ := info_parts info2
  go_enter Tryz.func12, Tryz.ntmps12
  go_wp2_with fail
  refine (numberOf_any _ _ _ _ hb hl).mono ?_
  rintro e w' ⟨x0, rfl, hx0, rfl⟩
  obtain ⟨hx0, hx1⟩ := hx0
  go_wp2_with fail
  go_loopw [1, 5, 6] (fun i l x wr => ∃ (k : Nat) (ys : List Int) (x1 : Int), k ≤ m ∧ i = .int .i64 ((m - k : Nat) : Int) ∧ x = .int .u64 x1 ∧ wr.ownsRow w'.heap.size 2 1 l k (ys.map (Value.int .i64)) ∧ Hid (∀ y ∈ ys, InI y) ∧ Below w'.heap.size w' wr) (fun i _ _ _ => (intOf i).toNat)
  case atStart => exact ⟨0, [], _, by omega, rfl, rfl, World.ownsRow_nil _ _ _ _, (fun y hy => by cases hy), Below.refl _ _⟩
  case round =>
    obtain ⟨k, ys, x1, hk, rfl, rfl, hown, hy, hbr⟩ := hrel
    by_cases hlt' : k < m
    · have h0 : (0 : Int) < ((m - k : Nat) : Int) := by omega
      have hsz := hbr.size
      have h63 : k + 1 ≤ maxLen := by unfold maxLen; omega
      go_wp2_with (first | (at_builtin; refine wpList_append_own _ rfl (.tmp 20) (.tmp 26) 32 rfl w'.heap.size 2 i0 (.int .i64 0) 1 8 Tryz.underlying32 hi hz0 hz1 hz2 rfl (by decide) _ _ _ rfl (hown.alloc _) ⟨wr.heap.size, 0, none⟩ 1 1 [_] rfl rfl (cell_new1 _ _ _ _) (one_cell1 _ _) h63 (by omega) (by simp; omega) ?_; intro v' w4 hown4 hg4 _) | (at_builtin; refine wpList_append_own _ rfl (.tmp 28) (.tmp 31) 32 rfl w'.heap.size 2 i0 (.int .i64 0) 1 8 Tryz.underlying32 hi hz0 hz1 hz2 rfl (by decide) _ _ _ rfl (hown.alloc _) ⟨wr.heap.size, 0, none⟩ 1 1 [_] rfl rfl (cell_new1 _ _ _ _) (one_cell1 _ _) h63 (by omega) (by simp; omega) ?_; intro v' w4 hown4 hg4 _))
      all_goals
        go_roundw
        case rel =>
          obtain ⟨r1, r2, r3⟩ := row_grows hbr hown hy (wrap64_range _) hown4 hg4
          exact ⟨k + 1, _, _, by omega, by congr 1; omega, rfl, r1, r2, r3⟩
        case measure => simp [intOf]; omega
    · have h0 : ¬ (0 : Int) < ((m - k : Nat) : Int) := by omega
      obtain rfl : k = m := by omega
      go_wp2
      go_ret
      exact ⟨_, rfl, ys, hown, hy.out, hbr⟩

theorem big_no (a b : Option Addr) (len cap len' cap' : Nat) (w : World) (h : len ≤ 1048576) (h' : len' ≤ 1048576 - len) :
    Calls Tryz.prog 5 #[.slice a len cap, .slice b len' cap'] w fun e w' => e = .returned (.bool false) ∧ w' = w := by
  have h1 : ¬ (1048576 : Int) < len := by omega
  have h2 : ¬ (1048576 : Int) - len < len' := by omega
  go_enter Tryz.func5, Tryz.ntmps5
  go_wp2
  go_ret
  exact ⟨rfl, rfl⟩
theorem big_yes (a b : Option Addr) (len cap len' cap' : Nat) (w : World) (h : ¬ (len ≤ 1048576 ∧ len' ≤ 1048576 - len)) (hm : len ≤ 9223372036854775807) (hm' : len' ≤ 9223372036854775807) :
    Calls Tryz.prog 5 #[.slice a len cap, .slice b len' cap'] w fun e w' => e = .returned (.bool true) ∧ w' = w := by
  by_cases h1 : len ≤ 1048576
  · have h2 : ¬ (1048576 : Int) < len := by omega
    have h3 : (1048576 : Int) - len < len' := by omega
    go_enter Tryz.func5, Tryz.ntmps5
    go_wp2
    go_ret
    exact ⟨rfl, rfl⟩
  · have h2 : (1048576 : Int) < len := by omega
    go_enter Tryz.func5, Tryz.ntmps5
    go_wp2
    go_ret
    exact ⟨rfl, rfl⟩
end Go.Proofs.YtpjgjpjfchfmlaaGreatDoor
