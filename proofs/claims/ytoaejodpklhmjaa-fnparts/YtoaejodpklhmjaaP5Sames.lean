/-
  PROVED HERE: what the laws' own comparing of lists answers at equal lists, whether a number is in a list, and whether all numbers of a list are in another. No other condition.
-/
import Derived.Test.YtoaejodpklhmjaaP5Plain
namespace Go.Proofs.Ytoaejodpklhmjaa
open Go.ChangeShapes Go.WideShapes Go.ChangeAt Go.RowKit
set_option linter.unusedVariables false

theorem sameI_same (a b : Option Addr) (len cap cap' : Nat) (l : List Int) (w : World) (h : Sl w a len l) (h' : Sl w b len l) (hn : len ≤ 1048576) :
    Calls Try.prog 15 #[.slice a len cap, .slice b len cap'] w fun e w' => e = .returned (.bool true) ∧ Below w.heap.size w w' := by
  obtain ⟨hlen, hsl⟩ := h
  obtain ⟨_, hsl'⟩ := h'
  have hne : ((len : Int) != len) = false := by simp
  go_enter Try.func15, Try.ntmps15
  go_wp2
  go_loopw [13] (fun i wr => ∃ (k : Nat), k ≤ len ∧ i = .int .i64 k ∧ Below w.heap.size w wr) (fun i _ => len - (intOf i).toNat)
  case atStart => exact ⟨0, Nat.zero_le _, rfl, Below.refl _ _⟩
  case round =>
    obtain ⟨k, hk, rfl, hbr⟩ := hrel
    by_cases hlt : k < len
    · obtain ⟨b1, off, rfl, hbl, hc⟩ : ∃ b off, a = some ⟨b, off, none⟩ ∧ b < w.heap.size ∧ ∀ i, i < len → w.cell? ⟨b, off + i, none⟩ = some (.int .i64 (l.getD i 0)) := by
        rcases hsl with h0 | h0
        · omega
        · exact h0
      obtain ⟨b2, off', rfl, hbl', hc'⟩ : ∃ b' off, b = some ⟨b', off, none⟩ ∧ b' < w.heap.size ∧ ∀ i, i < len → w.cell? ⟨b', off + i, none⟩ = some (.int .i64 (l.getD i 0)) := by
        rcases hsl' with h0 | h0
        · omega
        · exact h0
      have hck : wr.cell? ⟨b1, off + k, none⟩ = some (.int .i64 (l.getD k 0)) := (hbr.cell (p := ⟨b1, off + k, none⟩) hbl).trans (hc k hlt)
      have hck' : wr.cell? ⟨b2, off' + k, none⟩ = some (.int .i64 (l.getD k 0)) := (hbr.cell (p := ⟨b2, off' + k, none⟩) hbl').trans (hc' k hlt)
      clear hc hc' hsl hsl'
      generalize l.getD k 0 = z at hck hck'
      have hlt' : (k : Int) < len := by omega
      go_wp2
      go_quiet (fail)
      go_wp2
      go_roundw
      case rel => exact ⟨k + 1, by omega, by go_num, below_drewN hbr _⟩
      case measure => simp [intOf]; omega
    · go_wp2
      go_ret
      exact ⟨rfl, hbr⟩

theorem hasI_any (a : Option Addr) (len cap : Nat) (l : List Int) (z : Int) (w : World) (h : Sl w a len l) (hn : len ≤ 1048576) (hz : z ∈ l) :
    Calls Try.prog 33 #[.slice a len cap, .int .i64 z] w fun e w' => e = .returned (.bool true) ∧ w' = w := by
  have hll := h.1
  have HS := (show Hid _ from h)
  have HZ : Hid (∃ k, k < l.length ∧ l.getD k 0 = z) := by
    obtain ⟨k, hk, e⟩ := List.getElem_of_mem hz
    exact ⟨k, hk, by rw [getD_lt hk]; exact e⟩
  clear h hz
  go_enter Try.func33, Try.ntmps33
  go_wp2_with fail
  go_loopw [9] (fun i wr => ∃ (k : Nat), k ≤ len ∧ i = .int .i64 k ∧ Hid (∀ j, j < k → l.getD j 0 ≠ z) ∧ wr = w) (fun i _ => len - (intOf i).toNat)
  case atStart => exact ⟨0, Nat.zero_le _, rfl, fun j hj => absurd hj (Nat.not_lt_zero _), rfl⟩
  case round =>
    obtain ⟨k, hk, rfl, hd, rfl⟩ := hrel
    by_cases hlt : k < len
    · obtain ⟨b, off, rfl, hc⟩ := cells_of HS.out (by omega)
      have c1 := hc k hlt
      clear hc
      by_cases e : l.getD k 0 = z
      · rw [e] at c1
        have e' : (z == z) = true := by simp
        clear hd e
        go_wp2
        go_ret
        exact ⟨rfl, rfl⟩
      · have HD : Hid (∀ j, j < k + 1 → l.getD j 0 ≠ z) := fun j hj => by
          by_cases e2 : j = k
          · subst e2; exact e
          · exact hd.out j (by omega)
        have e' : (l.getD k 0 == z) = false := by simpa using e
        clear hd
        generalize l.getD k 0 = y at c1 e e'
        go_wp2
        go_roundw
        case rel => exact ⟨k + 1, by omega, by go_num, HD, (by first | trivial | rfl)⟩
        case measure => simp [intOf]; omega
    · obtain ⟨j, hj, e⟩ := HZ.out
      exact absurd e (hd.out j (by omega))

theorem within_any (a : Option Addr) (len cap : Nat) (l : List Int) (b : Option Addr) (lb cb : Nat) (m : List Int) (w : World) (h : Sl w a len l) (h2 : Sl w b lb m) (hn : len ≤ 1048576) (hn2 : lb ≤ 1048576) (hz : ∀ x ∈ l, x ∈ m) :
    Calls Try.prog 34 #[.slice a len cap, .slice b lb cb] w fun e w' => e = .returned (.bool true) ∧ w' = w := by
  have hll := h.1
  have HS := (show Hid _ from h)
  have HH : Hid (∀ k, k < len → Calls Try.prog 33 #[.slice b lb cb, .int .i64 (l.getD k 0)] w fun e w' => e = .returned (.bool true) ∧ w' = w) := fun k hk => hasI_any b lb cb m _ w h2 hn2 (hz _ (by rw [getD_lt (by omega)]; exact List.getElem_mem _))
  clear h h2 hz
  go_enter Try.func34, Try.ntmps34
  go_wp2_with fail
  go_loopw [9] (fun i wr => ∃ (k : Nat), k ≤ len ∧ i = .int .i64 k ∧ wr = w) (fun i _ => len - (intOf i).toNat)
  case atStart => exact ⟨0, Nat.zero_le _, rfl, rfl⟩
  case round =>
    obtain ⟨k, hk, rfl, rfl⟩ := hrel
    by_cases hlt : k < len
    · obtain ⟨b1, off, rfl, hc⟩ := cells_of HS.out (by omega)
      have c1 := hc k hlt
      have HK := (show Hid _ from HH.out k hlt)
      clear hc
      generalize l.getD k 0 = y at c1 HK
      go_wp2_with fail
      refine Calls.mono HK.out ?_
      rintro e w2 ⟨rfl, rfl⟩
      go_wp2
      go_roundw
      case rel => exact ⟨k + 1, by omega, by go_num, (by first | trivial | rfl)⟩
      case measure => simp [intOf]; omega
    · go_wp2
      go_ret
      exact ⟨rfl, rfl⟩
end Go.Proofs.Ytoaejodpklhmjaa
