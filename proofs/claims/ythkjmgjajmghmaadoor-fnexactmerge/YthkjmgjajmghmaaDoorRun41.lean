/-
  PROVED HERE: what the program's AddTerm answers, at every graph and every list of nodes, in a world whose table of arities is laid. No other condition. what the laws' own copying, comparing, marking and weighing of lists of nodes answer, at every list of at most a million. No other condition.
-/
import Derived.Test.YthkjmgjajmghmaaDoorRun40
import Derived.Test.YthkjmgjajmghmaaDoorRows
import Derived.Test.YthkjmgjajmghmaaDoorRun0
import Derived.WalkKit
import Derived.ProofKit
import Derived.OpenShut
import Derived.Handy
import Derived.OwnWalk
import Derived.WalkSmall
import Derived.BigQuiet
import Derived.Deep.QuietTactic
import Derived.Deep.RegionWith
namespace Go.Proofs.YthkjmgjajmghmaaDoor
open Go.ChangeShapes Go.WideShapes Go.ChangeAt Go.RowKit
set_option linter.unusedVariables false

end Go.Proofs.YthkjmgjajmghmaaDoor
namespace Go.Proofs.YthkjmgjajmghmaaDoor
open Go.ChangeShapes Go.WideShapes Go.ChangeAt Go.RowKit
set_option linter.unusedVariables false

theorem store2 {w w2 : World} {e k len : Nat} {xs : List Value} {l : List (Int × Int)} {x y : Int} (h : w2.ownsRow w.heap.size e 2 (.slice (some ⟨w.heap.size, 0, none⟩) len len) len xs) (hb : Below w.heap.size w w2)
    (hx : ∀ j, j < k → xs[j * 2]? = some (.int .i64 (l.getD j (0, 0)).1) ∧ xs[j * 2 + 1]? = some (.int .i64 (l.getD j (0, 0)).2)) (hk : k < len) (ex : (l.getD k (0, 0)).1 = x) (ey : (l.getD k (0, 0)).2 = y) :
    ∃ xs', ((w2.setCell ⟨w.heap.size, k * 2, none⟩ (.int .i64 x)).setCell ⟨w.heap.size, k * 2 + 1, none⟩ (.int .i64 y)).ownsRow w.heap.size e 2 (.slice (some ⟨w.heap.size, 0, none⟩) len len) len xs' ∧ (∀ j, j < k + 1 → xs'[j * 2]? = some (.int .i64 (l.getD j (0, 0)).1) ∧ xs'[j * 2 + 1]? = some (.int .i64 (l.getD j (0, 0)).2)) ∧ Below w.heap.size w ((w2.setCell ⟨w.heap.size, k * 2, none⟩ (.int .i64 x)).setCell ⟨w.heap.size, k * 2 + 1, none⟩ (.int .i64 y)) := by
  have hl := h.1
  refine ⟨_, ((h.stored (k * 2) (.int .i64 x)).1.stored (k * 2 + 1) (.int .i64 y)).1, fun j hj => ?_, (hb.setCell (Nat.le_refl _) _).setCell (Nat.le_refl _) _⟩
  simp only [List.getElem?_set, List.length_set]
  by_cases e1 : k = j
  · subst e1
    rw [if_neg (by omega), if_pos rfl, if_pos (by omega), if_pos rfl, if_pos (by omega), ex, ey]
    exact ⟨rfl, rfl⟩
  · rw [if_neg (by omega), if_neg (by omega), if_neg (by omega), if_neg (by omega)]
    exact hx j (by omega)

/-- A row of nodes of one's own: it may be written. -/
def Mine (w : World) (b off len : Nat) : Prop := b < w.heap.size ∧ ∀ i, i < len * 2 → (∃ v, w.cell? ⟨b, off + i, none⟩ = some v) ∧ w.frozen? ⟨b, off + i, none⟩ = false
/-- What marking leaves. -/
def marks (k len : Nat) : List (Int × Int) := (List.range len).map fun i => (((k + 2 * i : Nat) : Int), ((k + 2 * i + 1 : Nat) : Int))
theorem marks_len (k len : Nat) : (marks k len).length = len := by simp [marks]
theorem marks_get (k len i : Nat) (h : i < len) : (marks k len).getD i (0, 0) = (((k + 2 * i : Nat) : Int), ((k + 2 * i + 1 : Nat) : Int)) := by
  simp [marks, List.getD_eq_getElem?_getD, h]


theorem two_set (wr : World) (b p q : Nat) (u v : Value) (hpq : p ≠ q) (c1 : ∃ x, wr.cell? ⟨b, p, none⟩ = some x) (c2 : ∃ x, wr.cell? ⟨b, q, none⟩ = some x) :
    ((wr.setCell ⟨b, p, none⟩ u).setCell ⟨b, q, none⟩ v).cell? ⟨b, p, none⟩ = some u ∧ ((wr.setCell ⟨b, p, none⟩ u).setCell ⟨b, q, none⟩ v).cell? ⟨b, q, none⟩ = some v ∧
    (∀ i, i ≠ p → i ≠ q → ((wr.setCell ⟨b, p, none⟩ u).setCell ⟨b, q, none⟩ v).cell? ⟨b, i, none⟩ = wr.cell? ⟨b, i, none⟩) ∧
    (∀ i, ((wr.setCell ⟨b, p, none⟩ u).setCell ⟨b, q, none⟩ v).frozen? ⟨b, i, none⟩ = wr.frozen? ⟨b, i, none⟩) := by
  obtain ⟨x1, c1⟩ := c1
  obtain ⟨x2, c2⟩ := c2
  have n1 : (⟨b, q, none⟩ : Addr) ≠ ⟨b, p, none⟩ := by intro e; injection e with _ e2 _; omega
  have n2 : (⟨b, p, none⟩ : Addr) ≠ ⟨b, q, none⟩ := by intro e; injection e with _ e2 _; omega
  have k1 : (wr.setCell ⟨b, p, none⟩ u).cell? ⟨b, q, none⟩ = some x2 := by rw [World.cell?_setCell_other _ _ _ _ n2, c2]
  refine ⟨?_, World.cell?_setCell_same _ _ _ k1, fun i hp hq => ?_, fun i => by simp [go_sem]⟩
  · rw [World.cell?_setCell_other _ _ _ _ n1]; exact World.cell?_setCell_same _ _ _ c1
  · have m1 : (⟨b, q, none⟩ : Addr) ≠ ⟨b, i, none⟩ := by intro e; injection e with _ e2 _; omega
    have m2 : (⟨b, p, none⟩ : Addr) ≠ ⟨b, i, none⟩ := by intro e; injection e with _ e2 _; omega
    rw [World.cell?_setCell_other _ _ _ _ m1, World.cell?_setCell_other _ _ _ _ m2]
theorem grown_set {w wr : World} {b : Nat} (h : w.grownBy wr (some b)) (p : Nat) (u : Value) : w.grownBy (wr.setCell ⟨b, p, none⟩ u) (some b) :=
  ⟨h.os, h.tape, h.output, by have := h.size; simpa [World.setCell] using this, fun i hi hne => (Below.heap_setCell _ _ _ _ (fun e => hne (by rw [e]))).trans (h.block i hi hne)⟩

theorem mark_step {w wr : World} {b off j k len : Nat} {u v : Value} (hj : j < len) (hg : w.grownBy wr (some b)) (hm : ∀ i, i < len * 2 → (∃ v, wr.cell? ⟨b, off + i, none⟩ = some v) ∧ wr.frozen? ⟨b, off + i, none⟩ = false)
    (hd : ∀ i, i < j → wr.cell? ⟨b, off + i * 2, none⟩ = some (.int .i64 (k + 2 * i : Nat)) ∧ wr.cell? ⟨b, off + i * 2 + 1, none⟩ = some (.int .i64 (k + 2 * i + 1 : Nat)))
    (hu : u = .int .i64 (k + 2 * j : Nat)) (hv : v = .int .i64 (k + 2 * j + 1 : Nat)) :
    w.grownBy ((wr.setCell ⟨b, off + j * 2, none⟩ u).setCell ⟨b, off + j * 2 + 1, none⟩ v) (some b) ∧
    (∀ i, i < len * 2 → (∃ x, ((wr.setCell ⟨b, off + j * 2, none⟩ u).setCell ⟨b, off + j * 2 + 1, none⟩ v).cell? ⟨b, off + i, none⟩ = some x) ∧ ((wr.setCell ⟨b, off + j * 2, none⟩ u).setCell ⟨b, off + j * 2 + 1, none⟩ v).frozen? ⟨b, off + i, none⟩ = false) ∧
    (∀ i, i < j + 1 → ((wr.setCell ⟨b, off + j * 2, none⟩ u).setCell ⟨b, off + j * 2 + 1, none⟩ v).cell? ⟨b, off + i * 2, none⟩ = some (.int .i64 (k + 2 * i : Nat)) ∧ ((wr.setCell ⟨b, off + j * 2, none⟩ u).setCell ⟨b, off + j * 2 + 1, none⟩ v).cell? ⟨b, off + i * 2 + 1, none⟩ = some (.int .i64 (k + 2 * i + 1 : Nat))) := by
  have a1 := hm (j * 2) (by omega)
  have a2 := hm (j * 2 + 1) (by omega)
  obtain ⟨t1, t2, t3, t4⟩ := two_set wr b (off + j * 2) (off + j * 2 + 1) u v (by omega) a1.1 a2.1
  refine ⟨grown_set (grown_set hg _ _) _ _, fun i hi => ⟨?_, by rw [t4]; exact (hm i hi).2⟩, fun i hi => ?_⟩
  · by_cases e1 : i = j * 2
    · subst e1; exact ⟨_, t1⟩
    · by_cases e2 : i = j * 2 + 1
      · subst e2; exact ⟨_, t2⟩
      · rw [t3 (off + i) (by omega) (by omega)]; exact (hm i hi).1
  · by_cases e1 : i = j
    · subst e1
      rw [t1, t2, hu, hv]
      exact ⟨rfl, rfl⟩
    · rw [t3 (off + i * 2) (by omega) (by omega), t3 (off + i * 2 + 1) (by omega) (by omega)]
      exact hd i (by omega)

end Go.Proofs.YthkjmgjajmghmaaDoor
