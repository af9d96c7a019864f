/-
  PROVED HERE: what the laws' own marking of lists of ints leaves, at every list of at most a million. No other condition. that the laws' own comparing finds the same lists of ints to be the same, at every list of at most a million. No other condition. what the laws' own comparing, marking and weighing of lists of ints answer, at every list of at most a million. No other condition.
-/
import Derived.Test.YtbmgflapagbkcaaDoorLists
namespace Go.Proofs.YtbmgflapagbkcaaDoor
open Go.ChangeShapes Go.WideShapes Go.ChangeAt Go.RowKit
set_option linter.unusedVariables false

/-- What marking leaves. -/
def marksI (k len : Nat) : List Int := (List.range len).map fun i => ((k + i : Nat) : Int)
theorem marksI_len (k len : Nat) : (marksI k len).length = len := by simp [marksI]
theorem marksI_get (k len i : Nat) (h : i < len) : (marksI k len).getD i 0 = ((k + i : Nat) : Int) := by
  simp [marksI, List.getD_eq_getElem?_getD, h]
/-- A row of one's own: it may be written. -/
def MineI (w : World) (b len : Nat) : Prop := b < w.heap.size ∧ ∀ i, i < len → (∃ v, w.cell? ⟨b, i, none⟩ = some v) ∧ w.frozen? ⟨b, i, none⟩ = false
theorem MineI.of {w : World} {base e n g cap : Nat} {l : List Int} (h : w.ownsRow base e 1 (.slice (some ⟨g, 0, none⟩) n cap) n (vals l)) : MineI w g n := by
  have hl : l.length = n := by have := h.1; rw [vals_len] at this; omega
  refine ⟨owns_lt h, fun i hi => ⟨?_, ?_⟩⟩
  · rw [h.cellAt i (by omega)]
    exact ⟨_, List.getElem?_eq_getElem (by rw [vals_len]; omega)⟩
  · exact h.frozenAt i
theorem one_set (wr : World) (b p : Nat) (u : Value) (c1 : ∃ x, wr.cell? ⟨b, p, none⟩ = some x) :
    (wr.setCell ⟨b, p, none⟩ u).cell? ⟨b, p, none⟩ = some u ∧ (∀ i, i ≠ p → (wr.setCell ⟨b, p, none⟩ u).cell? ⟨b, i, none⟩ = wr.cell? ⟨b, i, none⟩) ∧ (∀ i, (wr.setCell ⟨b, p, none⟩ u).frozen? ⟨b, i, none⟩ = wr.frozen? ⟨b, i, none⟩) := by
  obtain ⟨x1, c1⟩ := c1
  refine ⟨World.cell?_setCell_same _ _ _ c1, fun i hp => ?_, fun i => by simp [go_sem]⟩
  have m1 : (⟨b, p, none⟩ : Addr) ≠ ⟨b, i, none⟩ := by intro e; injection e with _ e2 _; omega
  rw [World.cell?_setCell_other _ _ _ _ m1]
theorem grown_setI {w wr : World} {b : Nat} (h : w.grownBy wr (some b)) (p : Nat) (u : Value) : w.grownBy (wr.setCell ⟨b, p, none⟩ u) (some b) :=
  ⟨h.os, h.tape, h.output, by have := h.size; simpa [World.setCell] using this, fun i hi hne => (Below.heap_setCell _ _ _ _ (fun e => hne (by rw [e]))).trans (h.block i hi hne)⟩
theorem markI_any (b len cap k : Nat) (w : World) (h : MineI w b len) (hn : len ≤ 1048576) (hk : k ≤ 16777216) :
    Calls Tryd.prog 27 #[.slice (some ⟨b, 0, none⟩) len cap, .int .i64 k] w fun e w' => e = .returned (.int .i64 (k + len : Nat)) ∧ w.grownBy w' (some b) ∧ Sl w' (some ⟨b, 0, none⟩) len (marksI k len) := by
  obtain ⟨hb, hm⟩ := h
  go_enter Tryd.func27, Tryd.ntmps27
  go_wp2
  go_loopw [1, 5] (fun x i wr => ∃ (j : Nat), j ≤ len ∧ i = .int .i64 j ∧ x = .int .i64 (k + j : Nat) ∧ w.grownBy wr (some b) ∧ Hid (∀ i, i < len → (∃ v, wr.cell? ⟨b, i, none⟩ = some v) ∧ wr.frozen? ⟨b, i, none⟩ = false) ∧ Hid (∀ i, i < j → wr.cell? ⟨b, i, none⟩ = some (.int .i64 (k + i : Nat)))) (fun _ i _ => len - (intOf i).toNat)
  case atStart => exact ⟨0, Nat.zero_le _, rfl, rfl, World.grownBy.refl _ _, hm, fun i hi => absurd hi (Nat.not_lt_zero _)⟩
  case round =>
    obtain ⟨j, hj, rfl, rfl, hg, hmr, hdone⟩ := hrel
    clear hm
    by_cases hlt : j < len
    · obtain ⟨⟨v1, c1⟩, f1⟩ := hmr.out j hlt
      have HR : Hid (w.grownBy (wr.setCell ⟨b, j, none⟩ (.int .i64 ((k : Int) + j))) (some b) ∧ (∀ i, i < len → (∃ v, (wr.setCell ⟨b, j, none⟩ (.int .i64 ((k : Int) + j))).cell? ⟨b, i, none⟩ = some v) ∧ (wr.setCell ⟨b, j, none⟩ (.int .i64 ((k : Int) + j))).frozen? ⟨b, i, none⟩ = false) ∧ (∀ i, i < j + 1 → (wr.setCell ⟨b, j, none⟩ (.int .i64 ((k : Int) + j))).cell? ⟨b, i, none⟩ = some (.int .i64 (k + i : Nat)))) := by
        obtain ⟨t1, t2, t3⟩ := one_set wr b j (.int .i64 ((k : Int) + j)) ⟨_, c1⟩
        refine ⟨grown_setI hg _ _, fun i hi => ⟨?_, by rw [t3]; exact (hmr.out i hi).2⟩, fun i hi => ?_⟩
        · by_cases e : i = j
          · subst e; exact ⟨_, t1⟩
          · rw [t2 i e]; exact (hmr.out i hi).1
        · by_cases e : i = j
          · subst e; rw [t1]; go_num
          · rw [t2 i e]; exact hdone.out i (by omega)
      clear hdone hg hmr
      go_wp2
      go_roundw
      case rel => exact ⟨j + 1, by omega, by go_num, by go_num, HR.out.1, HR.out.2.1, HR.out.2.2⟩
      case measure => simp [intOf]; omega
    · obtain rfl : j = len := by omega
      go_wp2
      go_ret
      refine ⟨rfl, hg, marksI_len _ _, ?_⟩
      by_cases h0 : j = 0
      · exact .inl h0
      · exact .inr ⟨b, 0, rfl, Nat.lt_of_lt_of_le hb hg.size, fun i hi => by rw [marksI_get _ _ _ hi, Nat.zero_add]; exact hdone.out i hi⟩
end Go.Proofs.YtbmgflapagbkcaaDoor
namespace Go.Proofs.YtbmgflapagbkcaaDoor
open Go.ChangeShapes Go.WideShapes Go.ChangeAt Go.RowKit
set_option linter.unusedVariables false

theorem eqI_same (a b : Option Addr) (len cap cap' : Nat) (l : List Int) (w : World) (h : Sl w a len l) (h' : Sl w b len l) (hn : len ≤ 1048576) :
    Calls Tryd.prog 24 #[.slice a len cap, .slice b len cap'] w fun e w' => e = .returned (.bool true) ∧ Below w.heap.size w w' := by
  obtain ⟨hlen, hsl⟩ := h
  obtain ⟨_, hsl'⟩ := h'
  have hne : ((len : Int) != len) = false := by simp
  go_enter Tryd.func24, Tryd.ntmps24
  go_wp2
  go_loopw [5] (fun i wr => ∃ (k : Nat), k ≤ len ∧ i = .int .i64 k ∧ Below w.heap.size w wr) (fun i _ => len - (intOf i).toNat)
  case atStart => exact ⟨0, Nat.zero_le _, rfl, Below.refl _ _⟩
  case round =>
    obtain ⟨k, hk, rfl, hbr⟩ := hrel
    by_cases hlt : k < len
    · obtain ⟨b1, off, rfl, hbl, hc⟩ : ∃ b off, a = some ⟨b, off, none⟩ ∧ b < w.heap.size ∧ ∀ i, i < len → w.cell? ⟨b, off + i, none⟩ = some (.int .i64 (l.getD i 0)) := by
        rcases hsl with h0 | h0
        · omega
        · exact h0
      obtain ⟨b2, off', rfl, hbl', hc'⟩ : ∃ b' off, b = some ⟨b', off, none⟩ ∧ b' < w.heap.size ∧ ∀ i, i < len → w.cell? ⟨b', off + i, none⟩ = some (.int .i64 (l.getD i 0)) := by
        rcases hsl' with h0 | h0
        · omega
        · exact h0
      have hck : wr.cell? ⟨b1, off + k, none⟩ = some (.int .i64 (l.getD k 0)) := (hbr.cell (p := ⟨b1, off + k, none⟩) hbl).trans (hc k hlt)
      have hck' : wr.cell? ⟨b2, off' + k, none⟩ = some (.int .i64 (l.getD k 0)) := (hbr.cell (p := ⟨b2, off' + k, none⟩) hbl').trans (hc' k hlt)
      clear hc hc' hsl hsl'
      generalize l.getD k 0 = z at hck hck'
      have hlt' : (k : Int) < len := by omega
      go_wp2
      go_quiet (fail)
      go_wp2
      go_roundw
      case rel => exact ⟨k + 1, by omega, by go_num, below_drewN hbr _⟩
      case measure => simp [intOf]; omega
    · go_wp2
      go_ret
      exact ⟨rfl, hbr⟩
end Go.Proofs.YtbmgflapagbkcaaDoor
namespace Go.Proofs.YtbmgflapagbkcaaDoor
open Go.ChangeShapes Go.WideShapes Go.ChangeAt Go.RowKit
set_option linter.unusedVariables false

theorem heldI_any (a : Option Addr) (len cap k : Nat) (w : World) (h : Sl w a len (marksI k len)) (hn : len ≤ 1048576) (hk : k ≤ 16777216) :
    Calls Tryd.prog 28 #[.slice a len cap, .int .i64 k] w fun e w' => e = .returned (.int .i64 (k + len : Nat)) ∧ w' = w := by
  go_enter Tryd.func28, Tryd.ntmps28
  go_wp2
  go_loopw [1, 5] (fun x i wr => ∃ (j : Nat), j ≤ len ∧ i = .int .i64 j ∧ x = .int .i64 (k + j : Nat) ∧ wr = w) (fun _ i _ => len - (intOf i).toNat)
  case atStart => exact ⟨0, Nat.zero_le _, rfl, rfl, rfl⟩
  case round =>
    obtain ⟨j, hj, rfl, rfl, rfl⟩ := hrel
    by_cases hlt : j < len
    · obtain ⟨b, off, rfl, hc⟩ := cells_of h (by omega)
      have c1 := hc j hlt
      rw [marksI_get _ _ _ hlt] at c1
      clear hc h
      go_wp2
      go_roundw
      case rel => exact ⟨j + 1, by omega, by go_num, by go_num, (by first | trivial | rfl)⟩
      case measure => simp [intOf]; omega
    · obtain rfl : j = len := by omega
      go_wp2
      go_ret
      exact ⟨rfl, rfl⟩

theorem markI_row (base e : Nat) (v : Value) (n : Nat) (L : List Int) (w : World) (h : w.ownsRow base e 1 v n (vals L)) (hn : n ≤ 1048576) :
    Calls Tryd.prog 27 #[v, .int .i64 1] w fun e w' => e = .returned (.int .i64 (1 + n : Nat)) ∧ w.grownBy w' v.ownBlock ∧ ∃ a cap, v = .slice a n cap ∧ Sl w' a n (marksI 1 n) := by
  rcases h.2 with ⟨rfl, rfl⟩ | ⟨g, cap, cur, rfl, hb, hg, _⟩
  · go_enter Tryd.func27, Tryd.ntmps27
    go_wp2
    go_loopw [1, 5] (fun x i wr => i = .int .i64 0 ∧ x = .int .i64 1 ∧ wr = w) (fun _ _ _ => 0)
    case atStart => exact ⟨rfl, rfl, rfl⟩
    case round =>
      obtain ⟨rfl, rfl, rfl⟩ := hrel
      go_wp2
      go_ret
      exact ⟨rfl, World.grownBy.refl _ _, _, _, rfl, rfl, .inl rfl⟩
  · refine (markI_any g n cap 1 w (MineI.of h) hn (by omega)).mono ?_
    rintro e w' ⟨rfl, hgr, hs⟩
    exact ⟨rfl, hgr, _, _, rfl, hs⟩
/-- What was not written stays. -/
theorem Sl.grown {w w' : World} {a : Option Addr} {len : Nat} {l : List Int} {r : Option Nat} (h : Sl w a len l) (hg : w.grownBy w' r) (hne : ∀ x, a = some x → some x.block ≠ r) : Sl w' a len l := by
  refine ⟨h.1, ?_⟩
  rcases h.2 with h0 | ⟨b, off, ha, hlt, hc⟩
  · exact .inl h0
  · refine .inr ⟨b, off, ha, Nat.lt_of_lt_of_le hlt hg.size, fun i hi => ?_⟩
    rw [← hc i hi]
    have hb := hg.block b hlt (hne _ ha)
    simp only [World.cell?, hb]
end Go.Proofs.YtbmgflapagbkcaaDoor
