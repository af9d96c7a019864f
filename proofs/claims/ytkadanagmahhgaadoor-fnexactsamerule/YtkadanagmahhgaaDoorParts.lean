/-
  PROVED HERE: which parts the model tells of a node, at every good list of nodes. No other condition.
-/
import Derived.Test.YtkadanagmahhgaaDoorBegin
import Derived.Test.YtkadanagmahhgaaDoorLists
import Derived.Laws.AppendOwnNone
namespace Go.Proofs.YtkadanagmahhgaaDoor
open Go.ChangeShapes Go.WideShapes Go.ChangeAt Go.RowKit
set_option linter.unusedVariables false

/-- The roots of the last m trees ahead of x, the first one first. -/
def roots (l : List (Int × Int)) : Nat → Nat → List Nat
  | 0, _ => []
  | m + 1, x => roots l m (start l (x - 1)) ++ [x - 1]
theorem roots_len (l : List (Int × Int)) : ∀ m x, (roots l m x).length = m
  | 0, _ => rfl
  | m + 1, x => by simp [roots, roots_len l m]

theorem lit_cells (w : World) (x : Int) : (w.alloc (.cells #[.int .i64 x] 3)).ownsRow w.heap.size 3 1 (.slice (some ⟨w.heap.size, 0, none⟩) 1 1) 1 [.int .i64 x] :=
  World.ownsRow_lit w #[.int .i64 x] 1 (Nat.le_refl _) (by unfold maxLen; omega) rfl

def ints (l : List Nat) : List Value := l.map fun (n : Nat) => Value.int .i64 (n : Int)
theorem ints_one (l : List Nat) : ∀ u ∈ ints l, u.oneCell' = true := by
  intro u hu
  simp only [ints, List.mem_map] at hu
  obtain ⟨n, _, rfl⟩ := hu
  rfl

theorem own_some {w : World} {base e n : Nat} {v : Value} {xs : List Value} (h : w.ownsRow base e 1 v n xs) (hn : 0 < n) : ∃ g cap, v = .slice (some ⟨g, 0, none⟩) n cap ∧ base ≤ g ∧ ∀ o, ∀ j u, xs[j]? = some u → (w.alloc o).cell? ((⟨g, 0, none⟩ : Addr).add j) = some u := by
  rcases h.2 with ⟨_, h0⟩ | ⟨g, cap, cur, rfl, hb, hg, _⟩
  · omega
  · refine ⟨g, cap, rfl, hb, fun o => ?_⟩
    exact (h.alloc o).cells rfl

/-- Roots lie ahead. -/
theorem roots_lt {l : List (Int × Int)} {q : Int} (h : pile l 0 = some q) : ∀ (m x : Nat), x ≤ l.length → (m : Int) ≤ cnt l x → ∀ r ∈ roots l m x, r < x
  | 0, _, _, _ => by intro r hr; cases hr
  | m + 1, x, hx, hm => by
    have hx0 : 0 < x := by
      rcases Nat.eq_zero_or_pos x with h0 | h0
      · subst h0; rw [cnt_zero] at hm; omega
      · exact h0
    have b1 := start_le h (x - 1) (by omega)
    have b2 := start_cnt h (x - 1) (by omega)
    rw [show x - 1 + 1 = x from by omega] at b2
    intro r hr
    rcases List.mem_append.1 hr with hr | hr
    · have := roots_lt h m (start l (x - 1)) (by omega) (by omega) r hr
      omega
    · rw [List.mem_singleton.1 hr]; omega

theorem getD_lt (l : List Nat) (B i : Nat) (h : ∀ r ∈ l, r < B) (hi : i < l.length) : l.getD i 0 < B := by
  rw [List.getD_eq_getElem?_getD, List.getElem?_eq_getElem hi]
  exact h _ (List.getElem_mem hi)
theorem ints_get (l : List Nat) (i : Nat) (hi : i < l.length) : (ints l)[i]? = some (.int .i64 (l.getD i 0 : Nat)) := by
  simp [ints, List.getElem?_map, List.getElem?_eq_getElem hi, List.getD_eq_getElem?_getD]
theorem own_row {w : World} {base n : Nat} {v : Value} {l : List Nat} (h : w.ownsRow base 3 1 v n (ints l)) (hn : 0 < n) : ∃ g cap, v = .slice (some ⟨g, 0, none⟩) n cap ∧ g < w.heap.size ∧ ∀ i, i < n → w.cell? ⟨g, i, none⟩ = some (.int .i64 (l.getD i 0 : Nat)) := by
  have hl : l.length = n := by have := h.1; simpa [ints] using this
  rcases h.2 with ⟨_, h0⟩ | ⟨g, cap, cur, rfl, hb, hg, _⟩
  · omega
  · exact ⟨g, cap, rfl, Array.getElem?_eq_some_iff.1 hg |>.1, fun i hi => by rw [h.cellAt i (by omega)]; exact ints_get l i (by omega)⟩
end Go.Proofs.YtkadanagmahhgaaDoor
