/-
  PROVED HERE: what the laws' own copying, comparing, marking and weighing of lists of nodes answer, at every list of at most a million. No other condition. what the laws' own copying, comparing, marking and weighing of lists of nodes answer, at every list of at most a million. No other condition.
-/
import Derived.Test.YtmbggaepckgogaaDoorRows
import Derived.Test.YtmbggaepckgogaaDoorRun0
import Derived.WalkKit
import Derived.ProofKit
import Derived.OpenShut
import Derived.Handy
import Derived.OwnWalk
import Derived.WalkSmall
import Derived.BigQuiet
import Derived.Deep.QuietTactic
import Derived.Deep.RegionWith
namespace Go.Proofs.YtmbggaepckgogaaDoor
open Go.ChangeShapes Go.WideShapes Go.ChangeAt Go.RowKit
set_option linter.unusedVariables false

theorem store2 {w w2 : World} {e k len : Nat} {xs : List Value} {l : List (Int × Int)} {x y : Int} (h : w2.ownsRow w.heap.size e 2 (.slice (some ⟨w.heap.size, 0, none⟩) len len) len xs) (hb : Below w.heap.size w w2)
    (hx : ∀ j, j < k → xs[j * 2]? = some (.int .i64 (l.getD j (0, 0)).1) ∧ xs[j * 2 + 1]? = some (.int .i64 (l.getD j (0, 0)).2)) (hk : k < len) (ex : (l.getD k (0, 0)).1 = x) (ey : (l.getD k (0, 0)).2 = y) :
    ∃ xs', ((w2.setCell ⟨w.heap.size, k * 2, none⟩ (.int .i64 x)).setCell ⟨w.heap.size, k * 2 + 1, none⟩ (.int .i64 y)).ownsRow w.heap.size e 2 (.slice (some ⟨w.heap.size, 0, none⟩) len len) len xs' ∧ (∀ j, j < k + 1 → xs'[j * 2]? = some (.int .i64 (l.getD j (0, 0)).1) ∧ xs'[j * 2 + 1]? = some (.int .i64 (l.getD j (0, 0)).2)) ∧ Below w.heap.size w ((w2.setCell ⟨w.heap.size, k * 2, none⟩ (.int .i64 x)).setCell ⟨w.heap.size, k * 2 + 1, none⟩ (.int .i64 y)) := by
  have hl := h.1
  refine ⟨_, ((h.stored (k * 2) (.int .i64 x)).1.stored (k * 2 + 1) (.int .i64 y)).1, fun j hj => ?_, (hb.setCell (Nat.le_refl _) _).setCell (Nat.le_refl _) _⟩
  simp only [List.getElem?_set, List.length_set]
  by_cases e1 : k = j
  · subst e1
    rw [if_neg (by omega), if_pos rfl, if_pos (by omega), if_pos rfl, if_pos (by omega), ex, ey]
    exact ⟨rfl, rfl⟩
  · rw [if_neg (by omega), if_neg (by omega), if_neg (by omega), if_neg (by omega)]
    exact hx j (by omega)

/-- A row of nodes of one's own: it may be written. -/
def Mine (w : World) (b off len : Nat) : Prop := b < w.heap.size ∧ ∀ i, i < len * 2 → (∃ v, w.cell? ⟨b, off + i, none⟩ = some v) ∧ w.frozen? ⟨b, off + i, none⟩ = false
theorem eqNode_same (x y : Int) (w : World) :
    Calls Tryd.prog 44 #[.agg #[.int .i64 x, .int .i64 y], .agg #[.int .i64 x, .int .i64 y]] w fun e w' => e = .returned (.bool true) ∧ Below w.heap.size w w' := by
  go_enter Tryd.func44, Tryd.ntmps44
  go_wp2
  go_ret
  exact ⟨rfl, ((Below.refl _ _).alloc (Nat.le_refl _) _).alloc (by simp) _⟩

theorem eqN_same (a b : Option Addr) (len cap cap' : Nat) (l : List (Int × Int)) (w : World) (h : NSl w a len l) (h' : NSl w b len l) (hn : len ≤ 1048576) :
    Calls Tryd.prog 19 #[.slice a len cap, .slice b len cap'] w fun e w' => e = .returned (.bool true) ∧ Below w.heap.size w w' := by
  have hne : ((len : Int) != len) = false := by simp
  go_enter Tryd.func19, Tryd.ntmps19
  go_wp2
  go_loopw [5] (fun i wr => ∃ (k : Nat), k ≤ len ∧ i = .int .i64 k ∧ Below w.heap.size w wr) (fun i _ => len - (intOf i).toNat)
  case atStart => exact ⟨0, Nat.zero_le _, rfl, Below.refl _ _⟩
  case round =>
    obtain ⟨k, hk, rfl, hbr⟩ := hrel
    by_cases hlt : k < len
    · obtain ⟨b1, off, rfl, hbl, hc⟩ := h.at (by omega)
      obtain ⟨b2, off', rfl, hbl', hc'⟩ := h'.at (by omega)
      have c1 := (hbr.cell (p := ⟨b1, off + k * 2, none⟩) hbl).trans (hc k hlt).1
      have c2 := (hbr.cell (p := ⟨b1, off + k * 2 + 1, none⟩) hbl).trans (hc k hlt).2
      have d1 := (hbr.cell (p := ⟨b2, off' + k * 2, none⟩) hbl').trans (hc' k hlt).1
      have d2 := (hbr.cell (p := ⟨b2, off' + k * 2 + 1, none⟩) hbl').trans (hc' k hlt).2
      clear hc hc' h h'
      generalize (l.getD k (0, 0)).1 = x at c1 d1
      generalize (l.getD k (0, 0)).2 = y at c2 d2
      have hlt' : (k : Int) < len := by omega
      go_wp2_with fail
      go_region_with (go_at_call 44; refine (eqNode_same _ _ _).mono ?_; rintro e w1 ⟨rfl, hb⟩)
      all_goals
        have hbb := hbr.drew.trans (hb.mono hbr.size)
        go_wp2
        go_roundw
        case rel => exact ⟨k + 1, by omega, by go_num, hbb⟩
        case measure => simp [intOf]; omega
    · go_wp2
      go_ret
      exact ⟨rfl, hbr⟩

/-- What marking leaves. -/
def marks (k len : Nat) : List (Int × Int) := (List.range len).map fun i => (((k + 2 * i : Nat) : Int), ((k + 2 * i + 1 : Nat) : Int))
theorem marks_len (k len : Nat) : (marks k len).length = len := by simp [marks]
theorem marks_get (k len i : Nat) (h : i < len) : (marks k len).getD i (0, 0) = (((k + 2 * i : Nat) : Int), ((k + 2 * i + 1 : Nat) : Int)) := by
  simp [marks, List.getD_eq_getElem?_getD, h]


theorem two_set (wr : World) (b p q : Nat) (u v : Value) (hpq : p ≠ q) (c1 : ∃ x, wr.cell? ⟨b, p, none⟩ = some x) (c2 : ∃ x, wr.cell? ⟨b, q, none⟩ = some x) :
    ((wr.setCell ⟨b, p, none⟩ u).setCell ⟨b, q, none⟩ v).cell? ⟨b, p, none⟩ = some u ∧ ((wr.setCell ⟨b, p, none⟩ u).setCell ⟨b, q, none⟩ v).cell? ⟨b, q, none⟩ = some v ∧
    (∀ i, i ≠ p → i ≠ q → ((wr.setCell ⟨b, p, none⟩ u).setCell ⟨b, q, none⟩ v).cell? ⟨b, i, none⟩ = wr.cell? ⟨b, i, none⟩) ∧
    (∀ i, ((wr.setCell ⟨b, p, none⟩ u).setCell ⟨b, q, none⟩ v).frozen? ⟨b, i, none⟩ = wr.frozen? ⟨b, i, none⟩) := by
  obtain ⟨x1, c1⟩ := c1
  obtain ⟨x2, c2⟩ := c2
  have n1 : (⟨b, q, none⟩ : Addr) ≠ ⟨b, p, none⟩ := by intro e; injection e with _ e2 _; omega
  have n2 : (⟨b, p, none⟩ : Addr) ≠ ⟨b, q, none⟩ := by intro e; injection e with _ e2 _; omega
  have k1 : (wr.setCell ⟨b, p, none⟩ u).cell? ⟨b, q, none⟩ = some x2 := by rw [World.cell?_setCell_other _ _ _ _ n2, c2]
  refine ⟨?_, World.cell?_setCell_same _ _ _ k1, fun i hp hq => ?_, fun i => by simp [go_sem]⟩
  · rw [World.cell?_setCell_other _ _ _ _ n1]; exact World.cell?_setCell_same _ _ _ c1
  · have m1 : (⟨b, q, none⟩ : Addr) ≠ ⟨b, i, none⟩ := by intro e; injection e with _ e2 _; omega
    have m2 : (⟨b, p, none⟩ : Addr) ≠ ⟨b, i, none⟩ := by intro e; injection e with _ e2 _; omega
    rw [World.cell?_setCell_other _ _ _ _ m1, World.cell?_setCell_other _ _ _ _ m2]
theorem grown_set {w wr : World} {b : Nat} (h : w.grownBy wr (some b)) (p : Nat) (u : Value) : w.grownBy (wr.setCell ⟨b, p, none⟩ u) (some b) :=
  ⟨h.os, h.tape, h.output, by have := h.size; simpa [World.setCell] using this, fun i hi hne => (Below.heap_setCell _ _ _ _ (fun e => hne (by rw [e]))).trans (h.block i hi hne)⟩

theorem mark_step {w wr : World} {b off j k len : Nat} {u v : Value} (hj : j < len) (hg : w.grownBy wr (some b)) (hm : ∀ i, i < len * 2 → (∃ v, wr.cell? ⟨b, off + i, none⟩ = some v) ∧ wr.frozen? ⟨b, off + i, none⟩ = false)
    (hd : ∀ i, i < j → wr.cell? ⟨b, off + i * 2, none⟩ = some (.int .i64 (k + 2 * i : Nat)) ∧ wr.cell? ⟨b, off + i * 2 + 1, none⟩ = some (.int .i64 (k + 2 * i + 1 : Nat)))
    (hu : u = .int .i64 (k + 2 * j : Nat)) (hv : v = .int .i64 (k + 2 * j + 1 : Nat)) :
    w.grownBy ((wr.setCell ⟨b, off + j * 2, none⟩ u).setCell ⟨b, off + j * 2 + 1, none⟩ v) (some b) ∧
    (∀ i, i < len * 2 → (∃ x, ((wr.setCell ⟨b, off + j * 2, none⟩ u).setCell ⟨b, off + j * 2 + 1, none⟩ v).cell? ⟨b, off + i, none⟩ = some x) ∧ ((wr.setCell ⟨b, off + j * 2, none⟩ u).setCell ⟨b, off + j * 2 + 1, none⟩ v).frozen? ⟨b, off + i, none⟩ = false) ∧
    (∀ i, i < j + 1 → ((wr.setCell ⟨b, off + j * 2, none⟩ u).setCell ⟨b, off + j * 2 + 1, none⟩ v).cell? ⟨b, off + i * 2, none⟩ = some (.int .i64 (k + 2 * i : Nat)) ∧ ((wr.setCell ⟨b, off + j * 2, none⟩ u).setCell ⟨b, off + j * 2 + 1, none⟩ v).cell? ⟨b, off + i * 2 + 1, none⟩ = some (.int .i64 (k + 2 * i + 1 : Nat))) := by
  have a1 := hm (j * 2) (by omega)
  have a2 := hm (j * 2 + 1) (by omega)
  obtain ⟨t1, t2, t3, t4⟩ := two_set wr b (off + j * 2) (off + j * 2 + 1) u v (by omega) a1.1 a2.1
  refine ⟨grown_set (grown_set hg _ _) _ _, fun i hi => ⟨?_, by rw [t4]; exact (hm i hi).2⟩, fun i hi => ?_⟩
  · by_cases e1 : i = j * 2
    · subst e1; exact ⟨_, t1⟩
    · by_cases e2 : i = j * 2 + 1
      · subst e2; exact ⟨_, t2⟩
      · rw [t3 (off + i) (by omega) (by omega)]; exact (hm i hi).1
  · by_cases e1 : i = j
    · subst e1
      rw [t1, t2, hu, hv]
      exact ⟨rfl, rfl⟩
    · rw [t3 (off + i * 2) (by omega) (by omega), t3 (off + i * 2 + 1) (by omega) (by omega)]
      exact hd i (by omega)

theorem mark_any (b off len cap k : Nat) (w : World) (h : Mine w b off len) (hn : len ≤ 1048576) (hk : k ≤ 16777216) :
    Calls Tryd.prog 20 #[.slice (some ⟨b, off, none⟩) len cap, .int .i64 k] w fun e w' => e = .returned (.int .i64 (k + 2 * len : Nat)) ∧ w.grownBy w' (some b) ∧ NSl w' (some ⟨b, off, none⟩) len (marks k len) := by
  obtain ⟨hb, hm⟩ := h
  go_enter Tryd.func20, Tryd.ntmps20
  go_wp2
  go_loopw [1, 5] (fun x i wr => ∃ (j : Nat), j ≤ len ∧ i = .int .i64 j ∧ x = .int .i64 (k + 2 * j : Nat) ∧ w.grownBy wr (some b) ∧ Hid (∀ i, i < len * 2 → (∃ v, wr.cell? ⟨b, off + i, none⟩ = some v) ∧ wr.frozen? ⟨b, off + i, none⟩ = false) ∧ Hid (∀ i, i < j → wr.cell? ⟨b, off + i * 2, none⟩ = some (.int .i64 (k + 2 * i : Nat)) ∧ wr.cell? ⟨b, off + i * 2 + 1, none⟩ = some (.int .i64 (k + 2 * i + 1 : Nat)))) (fun _ i _ => len - (intOf i).toNat)
  case atStart => exact ⟨0, Nat.zero_le _, rfl, rfl, World.grownBy.refl _ _, hm, fun i hi => absurd hi (Nat.not_lt_zero _)⟩
  case round =>
    obtain ⟨j, hj, rfl, rfl, hg, hmr, hdone⟩ := hrel
    clear hm
    by_cases hlt : j < len
    · obtain ⟨⟨v1, c1⟩, f1⟩ := hmr.out (j * 2) (by omega)
      obtain ⟨⟨v2, c2⟩, f2⟩ := hmr.out (j * 2 + 1) (by omega)
      rw [← Nat.add_assoc] at c2 f2
      have R := mark_step (k := k) (u := .int .i64 ((k : Int) + 2 * j)) (v := .int .i64 ((k : Int) + 2 * j + 1)) hlt hg hmr.out hdone.out (by go_num) (by go_num)
      have HR := (show Hid _ from R)
      clear R hdone hg hmr
      go_wp2
      go_roundw
      case rel => exact ⟨j + 1, by omega, by go_num, by go_num, HR.out.1, HR.out.2.1, HR.out.2.2⟩
      case measure => simp [intOf]; omega
    · obtain rfl : j = len := by omega
      go_wp2
      go_ret
      refine ⟨rfl, hg, marks_len _ _, ?_⟩
      by_cases h0 : j = 0
      · exact .inl h0
      · exact .inr ⟨b, off, rfl, Nat.lt_of_lt_of_le hb hg.size, fun i hi => by rw [marks_get _ _ _ hi]; exact hdone.out i hi⟩
end Go.Proofs.YtmbggaepckgogaaDoor
namespace Go.Proofs.YtmbggaepckgogaaDoor
open Go.ChangeShapes Go.WideShapes Go.ChangeAt Go.RowKit
set_option linter.unusedVariables false

theorem held_any (a : Option Addr) (len cap k : Nat) (w : World) (h : NSl w a len (marks k len)) (hn : len ≤ 1048576) (hk : k ≤ 16777216) :
    Calls Tryd.prog 21 #[.slice a len cap, .int .i64 k] w fun e w' => e = .returned (.int .i64 (k + 2 * len : Nat)) ∧ w' = w := by
  go_enter Tryd.func21, Tryd.ntmps21
  go_wp2
  go_loopw [1, 5] (fun x i wr => ∃ (j : Nat), j ≤ len ∧ i = .int .i64 j ∧ x = .int .i64 (k + 2 * j : Nat) ∧ wr = w) (fun _ i _ => len - (intOf i).toNat)
  case atStart => exact ⟨0, Nat.zero_le _, rfl, rfl, rfl⟩
  case round =>
    obtain ⟨j, hj, rfl, rfl, rfl⟩ := hrel
    by_cases hlt : j < len
    · obtain ⟨b, off, rfl, hbl, hc⟩ := h.at (by omega)
      obtain ⟨c1, c2⟩ := hc j hlt
      rw [marks_get _ _ _ hlt] at c1 c2
      clear hc h
      go_wp2
      go_roundw
      case rel => exact ⟨j + 1, by omega, by go_num, by go_num, (by first | trivial | rfl)⟩
      case measure => simp [intOf]; omega
    · obtain rfl : j = len := by omega
      go_wp2
      go_ret
      exact ⟨rfl, rfl⟩
end Go.Proofs.YtmbggaepckgogaaDoor
