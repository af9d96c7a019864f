/-
  PROVED HERE: what the laws' own comparing, marking and weighing of lists of ints answer, at every list of at most a million. No other condition.
-/
import Derived.Test.YtpjgjpjfchfmlaaDoorLists
import Derived.Test.YtpjgjpjfchfmlaaDoorEqI
import Derived.Test.YtpjgjpjfchfmlaaDoorMarkI
namespace Go.Proofs.YtpjgjpjfchfmlaaDoor
open Go.ChangeShapes Go.WideShapes Go.ChangeAt Go.RowKit
set_option linter.unusedVariables false

theorem heldI_any (a : Option Addr) (len cap k : Nat) (w : World) (h : Sl w a len (marksI k len)) (hn : len ≤ 1048576) (hk : k ≤ 16777216) :
    Calls Tryd.prog 26 #[.slice a len cap, .int .i64 k] w fun e w' => e = .returned (.int .i64 (k + len : Nat)) ∧ w' = w := by
  go_enter Tryd.func26, Tryd.ntmps26
  go_wp2
  go_loopw [1, 5] (fun x i wr => ∃ (j : Nat), j ≤ len ∧ i = .int .i64 j ∧ x = .int .i64 (k + j : Nat) ∧ wr = w) (fun _ i _ => len - (intOf i).toNat)
  case atStart => exact ⟨0, Nat.zero_le _, rfl, rfl, rfl⟩
  case round =>
    obtain ⟨j, hj, rfl, rfl, rfl⟩ := hrel
    by_cases hlt : j < len
    · obtain ⟨b, off, rfl, hc⟩ := cells_of h (by omega)
      have c1 := hc j hlt
      rw [marksI_get _ _ _ hlt] at c1
      clear hc h
      go_wp2
      go_roundw
      case rel => exact ⟨j + 1, by omega, by go_num, by go_num, (by first | trivial | rfl)⟩
      case measure => simp [intOf]; omega
    · obtain rfl : j = len := by omega
      go_wp2
      go_ret
      exact ⟨rfl, rfl⟩

theorem markI_row (base e : Nat) (v : Value) (n : Nat) (L : List Int) (w : World) (h : w.ownsRow base e 1 v n (vals L)) (hn : n ≤ 1048576) :
    Calls Tryd.prog 25 #[v, .int .i64 1] w fun e w' => e = .returned (.int .i64 (1 + n : Nat)) ∧ w.grownBy w' v.ownBlock ∧ ∃ a cap, v = .slice a n cap ∧ Sl w' a n (marksI 1 n) := by
  rcases h.2 with ⟨rfl, rfl⟩ | ⟨g, cap, cur, rfl, hb, hg, _⟩
  · go_enter Tryd.func25, Tryd.ntmps25
    go_wp2
    go_loopw [1, 5] (fun x i wr => i = .int .i64 0 ∧ x = .int .i64 1 ∧ wr = w) (fun _ _ _ => 0)
    case atStart => exact ⟨rfl, rfl, rfl⟩
    case round =>
      obtain ⟨rfl, rfl, rfl⟩ := hrel
      go_wp2
      go_ret
      exact ⟨rfl, World.grownBy.refl _ _, _, _, rfl, rfl, .inl rfl⟩
  · refine (markI_any g n cap 1 w (MineI.of h) hn (by omega)).mono ?_
    rintro e w' ⟨rfl, hgr, hs⟩
    exact ⟨rfl, hgr, _, _, rfl, hs⟩
/-- What was not written stays. -/
theorem Sl.grown {w w' : World} {a : Option Addr} {len : Nat} {l : List Int} {r : Option Nat} (h : Sl w a len l) (hg : w.grownBy w' r) (hne : ∀ x, a = some x → some x.block ≠ r) : Sl w' a len l := by
  refine ⟨h.1, ?_⟩
  rcases h.2 with h0 | ⟨b, off, ha, hlt, hc⟩
  · exact .inl h0
  · refine .inr ⟨b, off, ha, Nat.lt_of_lt_of_le hlt hg.size, fun i hi => ?_⟩
    rw [← hc i hi]
    have hb := hg.block b hlt (hne _ ha)
    simp only [World.cell?, hb]
end Go.Proofs.YtpjgjpjfchfmlaaDoor
