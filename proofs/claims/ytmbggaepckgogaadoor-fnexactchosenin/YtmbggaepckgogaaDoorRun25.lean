/-
  PROVED HERE: what the laws' own marking of lists of ints leaves, at every list of at most a million. No other condition. what the laws' own copying of lists of ints leaves, at every list of at most a million. No other condition.
-/
import Derived.Test.YtmbggaepckgogaaDoorRun3
namespace Go.Proofs.YtmbggaepckgogaaDoor
open Go.ChangeShapes Go.WideShapes Go.ChangeAt Go.RowKit
set_option linter.unusedVariables false

/-- What marking leaves. -/
def marksI (k len : Nat) : List Int := (List.range len).map fun i => ((k + i : Nat) : Int)
theorem marksI_len (k len : Nat) : (marksI k len).length = len := by simp [marksI]
theorem marksI_get (k len i : Nat) (h : i < len) : (marksI k len).getD i 0 = ((k + i : Nat) : Int) := by
  simp [marksI, List.getD_eq_getElem?_getD, h]
/-- A row of one's own: it may be written. -/
def MineI (w : World) (b len : Nat) : Prop := b < w.heap.size ∧ ∀ i, i < len → (∃ v, w.cell? ⟨b, i, none⟩ = some v) ∧ w.frozen? ⟨b, i, none⟩ = false
theorem MineI.of {w : World} {base e n g cap : Nat} {l : List Int} (h : w.ownsRow base e 1 (.slice (some ⟨g, 0, none⟩) n cap) n (vals l)) : MineI w g n := by
  have hl : l.length = n := by have := h.1; rw [vals_len] at this; omega
  refine ⟨owns_lt h, fun i hi => ⟨?_, ?_⟩⟩
  · rw [h.cellAt i (by omega)]
    exact ⟨_, List.getElem?_eq_getElem (by rw [vals_len]; omega)⟩
  · exact h.frozenAt i
theorem one_set (wr : World) (b p : Nat) (u : Value) (c1 : ∃ x, wr.cell? ⟨b, p, none⟩ = some x) :
    (wr.setCell ⟨b, p, none⟩ u).cell? ⟨b, p, none⟩ = some u ∧ (∀ i, i ≠ p → (wr.setCell ⟨b, p, none⟩ u).cell? ⟨b, i, none⟩ = wr.cell? ⟨b, i, none⟩) ∧ (∀ i, (wr.setCell ⟨b, p, none⟩ u).frozen? ⟨b, i, none⟩ = wr.frozen? ⟨b, i, none⟩) := by
  obtain ⟨x1, c1⟩ := c1
  refine ⟨World.cell?_setCell_same _ _ _ c1, fun i hp => ?_, fun i => by simp [go_sem]⟩
  have m1 : (⟨b, p, none⟩ : Addr) ≠ ⟨b, i, none⟩ := by intro e; injection e with _ e2 _; omega
  rw [World.cell?_setCell_other _ _ _ _ m1]
theorem grown_setI {w wr : World} {b : Nat} (h : w.grownBy wr (some b)) (p : Nat) (u : Value) : w.grownBy (wr.setCell ⟨b, p, none⟩ u) (some b) :=
  ⟨h.os, h.tape, h.output, by have := h.size; simpa [World.setCell] using this, fun i hi hne => (Below.heap_setCell _ _ _ _ (fun e => hne (by rw [e]))).trans (h.block i hi hne)⟩
theorem markI_any (b len cap k : Nat) (w : World) (h : MineI w b len) (hn : len ≤ 1048576) (hk : k ≤ 16777216) :
    Calls Tryd.prog 13 #[.slice (some ⟨b, 0, none⟩) len cap, .int .i64 k] w fun e w' => e = .returned (.int .i64 (k + len : Nat)) ∧ w.grownBy w' (some b) ∧ Sl w' (some ⟨b, 0, none⟩) len (marksI k len) := by
  obtain ⟨hb, hm⟩ := h
  go_enter Tryd.func13, Tryd.ntmps13
  go_wp2
  go_loopw [1, 5] (fun x i wr => ∃ (j : Nat), j ≤ len ∧ i = .int .i64 j ∧ x = .int .i64 (k + j : Nat) ∧ w.grownBy wr (some b) ∧ Hid (∀ i, i < len → (∃ v, wr.cell? ⟨b, i, none⟩ = some v) ∧ wr.frozen? ⟨b, i, none⟩ = false) ∧ Hid (∀ i, i < j → wr.cell? ⟨b, i, none⟩ = some (.int .i64 (k + i : Nat)))) (fun _ i _ => len - (intOf i).toNat)
  case atStart => exact ⟨0, Nat.zero_le _, rfl, rfl, World.grownBy.refl _ _, hm, fun i hi => absurd hi (Nat.not_lt_zero _)⟩
  case round =>
    obtain ⟨j, hj, rfl, rfl, hg, hmr, hdone⟩ := hrel
    clear hm
    by_cases hlt : j < len
    · obtain ⟨⟨v1, c1⟩, f1⟩ := hmr.out j hlt
      have HR : Hid (w.grownBy (wr.setCell ⟨b, j, none⟩ (.int .i64 ((k : Int) + j))) (some b) ∧ (∀ i, i < len → (∃ v, (wr.setCell ⟨b, j, none⟩ (.int .i64 ((k : Int) + j))).cell? ⟨b, i, none⟩ = some v) ∧ (wr.setCell ⟨b, j, none⟩ (.int .i64 ((k : Int) + j))).frozen? ⟨b, i, none⟩ = false) ∧ (∀ i, i < j + 1 → (wr.setCell ⟨b, j, none⟩ (.int .i64 ((k : Int) + j))).cell? ⟨b, i, none⟩ = some (.int .i64 (k + i : Nat)))) := by
        obtain ⟨t1, t2, t3⟩ := one_set wr b j (.int .i64 ((k : Int) + j)) ⟨_, c1⟩
        refine ⟨grown_setI hg _ _, fun i hi => ⟨?_, by rw [t3]; exact (hmr.out i hi).2⟩, fun i hi => ?_⟩
        · by_cases e : i = j
          · subst e; exact ⟨_, t1⟩
          · rw [t2 i e]; exact (hmr.out i hi).1
        · by_cases e : i = j
          · subst e; rw [t1]; go_num
          · rw [t2 i e]; exact hdone.out i (by omega)
      clear hdone hg hmr
      go_wp2
      go_roundw
      case rel => exact ⟨j + 1, by omega, by go_num, by go_num, HR.out.1, HR.out.2.1, HR.out.2.2⟩
      case measure => simp [intOf]; omega
    · obtain rfl : j = len := by omega
      go_wp2
      go_ret
      refine ⟨rfl, hg, marksI_len _ _, ?_⟩
      by_cases h0 : j = 0
      · exact .inl h0
      · exact .inr ⟨b, 0, rfl, Nat.lt_of_lt_of_le hb hg.size, fun i hi => by rw [marksI_get _ _ _ hi, Nat.zero_add]; exact hdone.out i hi⟩
end Go.Proofs.YtmbggaepckgogaaDoor
namespace Go.Proofs.YtmbggaepckgogaaDoor
open Go.ChangeShapes Go.WideShapes Go.ChangeAt Go.RowKit
set_option linter.unusedVariables false

theorem copyI5_any (a : Option Addr) (len cap : Nat) (l : List Int) (w : World) (h : Sl w a len l) (hn : len ≤ 1048576) :
    Calls Tryd.prog 28 #[.slice a len cap] w fun e w' => e = .returned (.slice (some ⟨w.heap.size, 0, none⟩) len len) ∧ Below w.heap.size w w' ∧ w.heap.size < w'.heap.size ∧ (∀ i, i < len → w'.cell? ⟨w.heap.size, i, none⟩ = some (.int .i64 (l.getD i 0)) ∧ w'.frozen? ⟨w.heap.size, i, none⟩ = false) := by
  obtain ⟨i0, hi, hz0, hz1, hz2⟩ := info_parts infoInt
  obtain ⟨hlen, hsl⟩ := h
  go_enter Tryd.func28, Tryd.ntmps28
  go_wp2_with (at_make; refine wpList_make_full _ rfl _ _ 23 rfl w.heap.size 3 i0 (.int .i64 0) 1 Tryd.underlying23 hi hz0 hz1 _ _ _ _ len rfl rfl rfl rfl (by rw [hz2]; omega) (by unfold maxLen; omega) (Nat.le_refl _) ?_; intro w1 hown hgrow)
  have hb1 : Below w.heap.size w w1 := (Below.refl _ _).grown hgrow (Nat.le_refl _) (fun k hk => by cases hk)
  clear hgrow
  go_loopw [4] (fun i wr => ∃ (k : Nat) (xs : List Value), k ≤ len ∧ i = .int .i64 k ∧ wr.ownsRow w.heap.size 3 1 (.slice (some ⟨w.heap.size, 0, none⟩) len len) len xs ∧ Hid (∀ j, j < k → xs[j]? = some (.int .i64 (l.getD j 0))) ∧ Below w.heap.size w wr) (fun i _ => len - (intOf i).toNat)
  case atStart => exact ⟨0, _, Nat.zero_le _, rfl, hown, fun j hj => absurd hj (Nat.not_lt_zero _), hb1⟩
  case round =>
    obtain ⟨k, xs, hk, rfl, howr, hx, hbr⟩ := hrel
    clear hown hb1
    by_cases hlt : k < len
    · obtain ⟨b, off, rfl, hbl, hc⟩ : ∃ b off, a = some ⟨b, off, none⟩ ∧ b < w.heap.size ∧ ∀ i, i < len → w.cell? ⟨b, off + i, none⟩ = some (.int .i64 (l.getD i 0)) := by
        rcases hsl with h0 | h0
        · omega
        · exact h0
      have hck : wr.cell? ⟨b, off + k, none⟩ = some (.int .i64 (l.getD k 0)) := (hbr.cell (p := ⟨b, off + k, none⟩) hbl).trans (hc k hlt)
      have hfr := howr.frozenAt k
      have hcg := howr.cellAt k (by omega)
      have hst := howr.stored k (.int .i64 (l.getD k 0))
      have R : Hid (∃ xs', (wr.setCell ⟨w.heap.size, k, none⟩ (.int .i64 (l.getD k 0))).ownsRow w.heap.size 3 1 (.slice (some ⟨w.heap.size, 0, none⟩) len len) len xs' ∧ (∀ j, j < k + 1 → xs'[j]? = some (.int .i64 (l.getD j 0))) ∧ Below w.heap.size w (wr.setCell ⟨w.heap.size, k, none⟩ (.int .i64 (l.getD k 0)))) := by
        refine ⟨_, hst.1, fun j hj => ?_, hbr.setCell (Nat.le_refl _) _⟩
        rw [List.getElem?_set]
        by_cases e : k = j
        · subst e
          rw [if_pos rfl, if_pos (by have := howr.1; omega)]
        · rw [if_neg e]; exact hx.out j (by omega)
      obtain ⟨y, hxk⟩ : ∃ y, xs[k]? = some y := ⟨_, List.getElem?_eq_getElem (by have := howr.1; omega)⟩
      rw [hxk] at hcg
      clear hst hc howr hx hxk
      generalize l.getD k 0 = z at hck R
      go_wp2
      go_roundw
      case rel =>
        obtain ⟨xs', r1, r2, r3⟩ := R.out
        exact ⟨k + 1, xs', by omega, by go_num, r1, r2, r3⟩
      case measure => simp [intOf]; omega
    · go_wp2
      obtain rfl : k = len := by omega
      go_ret
      refine ⟨rfl, hbr, owns_lt howr, fun i hi => ⟨?_, howr.frozenAt i⟩⟩
      rw [howr.cellAt i (by omega)]
      exact hx.out i hi
theorem MineI.keep {w w' : World} {b len : Nat} (h : MineI w b len) (hb : Below w.heap.size w w') : MineI w' b len := by
  refine ⟨Nat.lt_of_lt_of_le h.1 hb.size, fun i hi => ?_⟩
  have e := hb.block b h.1
  obtain ⟨⟨v, hv⟩, hf⟩ := h.2 i hi
  exact ⟨⟨v, by rw [← hv]; simp only [World.cell?, e]⟩, by rw [← hf]; simp only [World.frozen?, e]⟩
theorem copyI_mine (a : Option Addr) (len cap : Nat) (l : List Int) (w : World) (h : Sl w a len l) (hn : len ≤ 1048576) :
    Calls Tryd.prog 28 #[.slice a len cap] w fun e w' => e = .returned (.slice (some ⟨w.heap.size, 0, none⟩) len len) ∧ Below w.heap.size w w' ∧ Sl w' (some ⟨w.heap.size, 0, none⟩) len l ∧ MineI w' w.heap.size len := by
  refine (copyI5_any a len cap l w h hn).mono ?_
  rintro e w' ⟨rfl, hb, hlt, hc⟩
  exact ⟨rfl, hb, ⟨h.1, .inr ⟨w.heap.size, 0, rfl, hlt, fun i hi => by rw [Nat.zero_add]; exact (hc i hi).1⟩⟩, hlt, fun i hi => ⟨⟨_, (hc i hi).1⟩, (hc i hi).2⟩⟩
end Go.Proofs.YtmbggaepckgogaaDoor
