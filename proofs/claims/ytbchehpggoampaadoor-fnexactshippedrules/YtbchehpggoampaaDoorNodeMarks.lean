/-
  PROVED HERE: what the laws' marking of an answer that is a list of nodes leaves, at every row of at most a million. No other condition.
-/
import Derived.Test.YtbchehpggoampaaDoorKeeps
namespace Go.Proofs.YtbchehpggoampaaDoor
open Go.ChangeShapes Go.WideShapes Go.ChangeAt Go.RowKit
set_option linter.unusedVariables false

theorem Mine.of {w : World} {base e n g cap : Nat} {l : List (Int × Int)} (h : w.ownsRow base e 2 (.slice (some ⟨g, 0, none⟩) n cap) n (flat l)) : Mine w g 0 n := by
  refine ⟨owns_lt h, fun i hi => ⟨?_, by rw [Nat.zero_add]; exact h.frozenAt i⟩⟩
  rw [Nat.zero_add, h.cellAt i hi]
  exact ⟨_, List.getElem?_eq_getElem (by have := h.1; omega)⟩
theorem markN_row (base e : Nat) (v : Value) (n : Nat) (L : List (Int × Int)) (w : World) (h : w.ownsRow base e 2 v n (flat L)) (hn : n ≤ 1048576) :
    Calls Tryd.prog 40 #[v, .int .i64 1] w fun e w' => e = .returned (.int .i64 (1 + 2 * n : Nat)) ∧ w.grownBy w' v.ownBlock ∧ ∃ a cap, v = .slice a n cap ∧ NSl w' a n (marks 1 n) := by
  rcases h.2 with ⟨rfl, rfl⟩ | ⟨g, cap, cur, rfl, hb, hg, _⟩
  · go_enter Tryd.func40, Tryd.ntmps40
    go_wp2
    go_loopw [1, 5] (fun x i wr => i = .int .i64 0 ∧ x = .int .i64 1 ∧ wr = w) (fun _ _ _ => 0)
    case atStart => exact ⟨rfl, rfl, rfl⟩
    case round =>
      obtain ⟨rfl, rfl, rfl⟩ := hrel
      go_wp2
      go_ret
      exact ⟨rfl, World.grownBy.refl _ _, _, _, rfl, rfl, .inl rfl⟩
  · refine (mark_any g 0 n cap 1 w (Mine.of h) hn (by omega)).mono ?_
    rintro e w' ⟨rfl, hgr, hs⟩
    exact ⟨rfl, hgr, _, _, rfl, hs⟩
end Go.Proofs.YtbchehpggoampaaDoor
