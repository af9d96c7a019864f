/-
  PROVED HERE: what the laws' marking of an answer that is a list of nodes leaves, at every row of at most a million. No other condition. what the laws' own marking of lists of ints leaves, at every list of at most a million. No other condition.
-/
import Derived.Test.YtmbggaepckgogaaDoorRun29
import Derived.Test.YtmbggaepckgogaaDoorRun3
namespace Go.Proofs.YtmbggaepckgogaaDoor
open Go.ChangeShapes Go.WideShapes Go.ChangeAt Go.RowKit
set_option linter.unusedVariables false

theorem Mine.of {w : World} {base e n g cap : Nat} {l : List (Int × Int)} (h : w.ownsRow base e 2 (.slice (some ⟨g, 0, none⟩) n cap) n (flat l)) : Mine w g 0 n := by
  refine ⟨owns_lt h, fun i hi => ⟨?_, by rw [Nat.zero_add]; exact h.frozenAt i⟩⟩
  rw [Nat.zero_add, h.cellAt i hi]
  exact ⟨_, List.getElem?_eq_getElem (by have := h.1; omega)⟩
theorem markN_row (base e : Nat) (v : Value) (n : Nat) (L : List (Int × Int)) (w : World) (h : w.ownsRow base e 2 v n (flat L)) (hn : n ≤ 1048576) :
    Calls Tryd.prog 20 #[v, .int .i64 1] w fun e w' => e = .returned (.int .i64 (1 + 2 * n : Nat)) ∧ w.grownBy w' v.ownBlock ∧ ∃ a cap, v = .slice a n cap ∧ NSl w' a n (marks 1 n) := by
  rcases h.2 with ⟨rfl, rfl⟩ | ⟨g, cap, cur, rfl, hb, hg, _⟩
  · go_enter Tryd.func20, Tryd.ntmps20
    go_wp2
    go_loopw [1, 5] (fun x i wr => i = .int .i64 0 ∧ x = .int .i64 1 ∧ wr = w) (fun _ _ _ => 0)
    case atStart => exact ⟨rfl, rfl, rfl⟩
    case round =>
      obtain ⟨rfl, rfl, rfl⟩ := hrel
      go_wp2
      go_ret
      exact ⟨rfl, World.grownBy.refl _ _, _, _, rfl, rfl, .inl rfl⟩
  · refine (mark_any g 0 n cap 1 w (Mine.of h) hn (by omega)).mono ?_
    rintro e w' ⟨rfl, hgr, hs⟩
    exact ⟨rfl, hgr, _, _, rfl, hs⟩
end Go.Proofs.YtmbggaepckgogaaDoor
namespace Go.Proofs.YtmbggaepckgogaaDoor
open Go.ChangeShapes Go.WideShapes Go.ChangeAt Go.RowKit
set_option linter.unusedVariables false

/-- What marking leaves. -/
def marksI (k len : Nat) : List Int := (List.range len).map fun i => ((k + i : Nat) : Int)
theorem marksI_len (k len : Nat) : (marksI k len).length = len := by simp [marksI]
theorem marksI_get (k len i : Nat) (h : i < len) : (marksI k len).getD i 0 = ((k + i : Nat) : Int) := by
  simp [marksI, List.getD_eq_getElem?_getD, h]
/-- A row of one's own: it may be written. -/
def MineI (w : World) (b len : Nat) : Prop := b < w.heap.size ∧ ∀ i, i < len → (∃ v, w.cell? ⟨b, i, none⟩ = some v) ∧ w.frozen? ⟨b, i, none⟩ = false
theorem MineI.of {w : World} {base e n g cap : Nat} {l : List Int} (h : w.ownsRow base e 1 (.slice (some ⟨g, 0, none⟩) n cap) n (vals l)) : MineI w g n := by
  have hl : l.length = n := by have := h.1; rw [vals_len] at this; omega
  refine ⟨owns_lt h, fun i hi => ⟨?_, ?_⟩⟩
  · rw [h.cellAt i (by omega)]
    exact ⟨_, List.getElem?_eq_getElem (by rw [vals_len]; omega)⟩
  · exact h.frozenAt i
theorem one_set (wr : World) (b p : Nat) (u : Value) (c1 : ∃ x, wr.cell? ⟨b, p, none⟩ = some x) :
    (wr.setCell ⟨b, p, none⟩ u).cell? ⟨b, p, none⟩ = some u ∧ (∀ i, i ≠ p → (wr.setCell ⟨b, p, none⟩ u).cell? ⟨b, i, none⟩ = wr.cell? ⟨b, i, none⟩) ∧ (∀ i, (wr.setCell ⟨b, p, none⟩ u).frozen? ⟨b, i, none⟩ = wr.frozen? ⟨b, i, none⟩) := by
  obtain ⟨x1, c1⟩ := c1
  refine ⟨World.cell?_setCell_same _ _ _ c1, fun i hp => ?_, fun i => by simp [go_sem]⟩
  have m1 : (⟨b, p, none⟩ : Addr) ≠ ⟨b, i, none⟩ := by intro e; injection e with _ e2 _; omega
  rw [World.cell?_setCell_other _ _ _ _ m1]
theorem grown_setI {w wr : World} {b : Nat} (h : w.grownBy wr (some b)) (p : Nat) (u : Value) : w.grownBy (wr.setCell ⟨b, p, none⟩ u) (some b) :=
  ⟨h.os, h.tape, h.output, by have := h.size; simpa [World.setCell] using this, fun i hi hne => (Below.heap_setCell _ _ _ _ (fun e => hne (by rw [e]))).trans (h.block i hi hne)⟩
theorem markI_any (b len cap k : Nat) (w : World) (h : MineI w b len) (hn : len ≤ 1048576) (hk : k ≤ 16777216) :
    Calls Tryd.prog 13 #[.slice (some ⟨b, 0, none⟩) len cap, .int .i64 k] w fun e w' => e = .returned (.int .i64 (k + len : Nat)) ∧ w.grownBy w' (some b) ∧ Sl w' (some ⟨b, 0, none⟩) len (marksI k len) := by
  obtain ⟨hb, hm⟩ := h
  go_enter Tryd.func13, Tryd.ntmps13
  go_wp2
  go_loopw [1, 5] (fun x i wr => ∃ (j : Nat), j ≤ len ∧ i = .int .i64 j ∧ x = .int .i64 (k + j : Nat) ∧ w.grownBy wr (some b) ∧ Hid (∀ i, i < len → (∃ v, wr.cell? ⟨b, i, none⟩ = some v) ∧ wr.frozen? ⟨b, i, none⟩ = false) ∧ Hid (∀ i, i < j → wr.cell? ⟨b, i, none⟩ = some (.int .i64 (k + i : Nat)))) (fun _ i _ => len - (intOf i).toNat)
  case atStart => exact ⟨0, Nat.zero_le _, rfl, rfl, World.grownBy.refl _ _, hm, fun i hi => absurd hi (Nat.not_lt_zero _)⟩
  case round =>
    obtain ⟨j, hj, rfl, rfl, hg, hmr, hdone⟩ := hrel
    clear hm
    by_cases hlt : j < len
    · obtain ⟨⟨v1, c1⟩, f1⟩ := hmr.out j hlt
      have HR : Hid (w.grownBy (wr.setCell ⟨b, j, none⟩ (.int .i64 ((k : Int) + j))) (some b) ∧ (∀ i, i < len → (∃ v, (wr.setCell ⟨b, j, none⟩ (.int .i64 ((k : Int) + j))).cell? ⟨b, i, none⟩ = some v) ∧ (wr.setCell ⟨b, j, none⟩ (.int .i64 ((k : Int) + j))).frozen? ⟨b, i, none⟩ = false) ∧ (∀ i, i < j + 1 → (wr.setCell ⟨b, j, none⟩ (.int .i64 ((k : Int) + j))).cell? ⟨b, i, none⟩ = some (.int .i64 (k + i : Nat)))) := by
        obtain ⟨t1, t2, t3⟩ := one_set wr b j (.int .i64 ((k : Int) + j)) ⟨_, c1⟩
        refine ⟨grown_setI hg _ _, fun i hi => ⟨?_, by rw [t3]; exact (hmr.out i hi).2⟩, fun i hi => ?_⟩
        · by_cases e : i = j
          · subst e; exact ⟨_, t1⟩
          · rw [t2 i e]; exact (hmr.out i hi).1
        · by_cases e : i = j
          · subst e; rw [t1]; go_num
          · rw [t2 i e]; exact hdone.out i (by omega)
      clear hdone hg hmr
      go_wp2
      go_roundw
      case rel => exact ⟨j + 1, by omega, by go_num, by go_num, HR.out.1, HR.out.2.1, HR.out.2.2⟩
      case measure => simp [intOf]; omega
    · obtain rfl : j = len := by omega
      go_wp2
      go_ret
      refine ⟨rfl, hg, marksI_len _ _, ?_⟩
      by_cases h0 : j = 0
      · exact .inl h0
      · exact .inr ⟨b, 0, rfl, Nat.lt_of_lt_of_le hb hg.size, fun i hi => by rw [marksI_get _ _ _ hi, Nat.zero_add]; exact hdone.out i hi⟩
end Go.Proofs.YtmbggaepckgogaaDoor
