/-
  PROVED HERE: what the laws' own copying, comparing, marking and weighing of lists of nodes answer, at every list of at most a million. No other condition.
-/
import Derived.Test.YtbchehpggoampaaDoorNodesB
namespace Go.Proofs.YtbchehpggoampaaDoor
open Go.ChangeShapes Go.WideShapes Go.ChangeAt Go.RowKit
set_option linter.unusedVariables false

theorem held_any (a : Option Addr) (len cap k : Nat) (w : World) (h : NSl w a len (marks k len)) (hn : len ≤ 1048576) (hk : k ≤ 16777216) :
    Calls Tryd.prog 41 #[.slice a len cap, .int .i64 k] w fun e w' => e = .returned (.int .i64 (k + 2 * len : Nat)) ∧ w' = w := by
  go_enter Tryd.func41, Tryd.ntmps41
  go_wp2
  go_loopw [1, 5] (fun x i wr => ∃ (j : Nat), j ≤ len ∧ i = .int .i64 j ∧ x = .int .i64 (k + 2 * j : Nat) ∧ wr = w) (fun _ i _ => len - (intOf i).toNat)
  case atStart => exact ⟨0, Nat.zero_le _, rfl, rfl, rfl⟩
  case round =>
    obtain ⟨j, hj, rfl, rfl, rfl⟩ := hrel
    by_cases hlt : j < len
    · obtain ⟨b, off, rfl, hbl, hc⟩ := h.at (by omega)
      obtain ⟨c1, c2⟩ := hc j hlt
      rw [marks_get _ _ _ hlt] at c1 c2
      clear hc h
      go_wp2
      go_roundw
      case rel => exact ⟨j + 1, by omega, by go_num, by go_num, (by first | trivial | rfl)⟩
      case measure => simp [intOf]; omega
    · obtain rfl : j = len := by omega
      go_wp2
      go_ret
      exact ⟨rfl, rfl⟩
end Go.Proofs.YtbchehpggoampaaDoor
