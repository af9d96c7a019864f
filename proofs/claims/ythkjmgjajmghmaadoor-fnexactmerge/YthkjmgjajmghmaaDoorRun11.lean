/-
  PROVED HERE: plain facts on pieces of a list of nodes and the pile behind them. No condition. where the model says that the tree of a node begins, at every good list of nodes. No other condition.
-/
import Derived.Test.YthkjmgjajmghmaaDoorRun10
namespace Go.Proofs.YthkjmgjajmghmaaDoor
set_option linter.unusedVariables false

def seg (l : List (Int × Int)) (a b : Nat) : List (Int × Int) := (l.drop a).take (b - a)
theorem seg_append (l : List (Int × Int)) (a b c : Nat) (h1 : a ≤ b) (h2 : b ≤ c) : seg l a c = seg l a b ++ seg l b c := by
  unfold seg
  have e : c - a = (b - a) + (c - b) := by omega
  rw [e, List.take_add, List.drop_drop, show a + (b - a) = b from by omega]
theorem seg_self (l : List (Int × Int)) (a : Nat) : seg l a a = [] := by unfold seg; rw [Nat.sub_self]; rfl
theorem seg_one (l : List (Int × Int)) (k : Nat) (h : k < l.length) : seg l k (k + 1) = [l.getD k (0, 0)] := by
  unfold seg
  have e : l.getD k (0, 0) = l[k] := by rw [List.getD_eq_getElem?_getD, List.getElem?_eq_getElem h]; rfl
  rw [show k + 1 - k = 1 from by omega, List.drop_eq_getElem_cons h, e]
  rfl
theorem pile_append (b : List (Int × Int)) : ∀ (a : List (Int × Int)) (p : Int), pile (a ++ b) p = (pile a p).bind fun q => pile b q
  | [], p => rfl
  | (op, n) :: a, p => by
    simp only [List.cons_append, pile]
    split
    · exact pile_append b a _
    · rfl

theorem fits_up {m p p' op n : Int} (h : fits m p op n = true) (hp : m ≤ p') : fits m p' op n = true := by
  have : ¬ p' < m := by omega
  simp only [fits, Bool.not_eq_true', Bool.or_eq_false_iff] at h ⊢
  exact ⟨⟨⟨h.1.1.1, decide_eq_false this⟩, h.1.2⟩, h.2⟩
theorem cnt_pos {l : List (Int × Int)} {q : Int} (h : pile l 0 = some q) (k : Nat) (h0 : 0 < k) (hk : k ≤ l.length) : 1 ≤ cnt l k := by
  obtain ⟨k, rfl⟩ : ∃ x, k = x + 1 := ⟨k - 1, by omega⟩
  obtain ⟨h1, h2⟩ := cnt_step h k (by omega)
  obtain ⟨a1, a2, _⟩ := fits_iff _ _ _ _ h1
  omega
theorem start_root {l : List (Int × Int)} (h : pile l 0 = some 1) (h1 : 1 ≤ l.length) : start l (l.length - 1) = 0 := by
  have e := start_cnt h (l.length - 1) (by omega)
  rw [show l.length - 1 + 1 = l.length from by omega] at e
  have hc : cnt l l.length = 1 := by unfold cnt; rw [List.take_of_length_le (Nat.le_refl _), h]; rfl
  have hle := start_le h (l.length - 1) (by omega)
  rcases Nat.eq_zero_or_pos (start l (l.length - 1)) with h0 | h0
  · exact h0
  · have := cnt_pos h _ h0 (by omega)
    omega
theorem seg_all (l : List (Int × Int)) : seg l 0 l.length = l := by
  unfold seg
  rw [List.drop_zero, Nat.sub_zero, List.take_of_length_le (Nat.le_refl _)]
end Go.Proofs.YthkjmgjajmghmaaDoor
namespace Go.Proofs.YthkjmgjajmghmaaDoor
open Go.ChangeShapes Go.WideShapes Go.ChangeAt Go.RowKit
set_option linter.unusedVariables false

end Go.Proofs.YthkjmgjajmghmaaDoor
