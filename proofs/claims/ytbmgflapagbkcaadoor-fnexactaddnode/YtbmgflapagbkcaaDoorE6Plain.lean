/-
  PROVED HERE: plain facts on nodes of graphs, and how lists of them lie in memory. No condition.
-/
import Derived.Test.YtbmgflapagbkcaaDoorIGoods
import Derived.Test.YtbmgflapagbkcaaDoorP5Plain
namespace Go.Proofs.YtbmgflapagbkcaaDoor
open Go.ChangeShapes Go.WideShapes Go.ChangeAt Go.RowKit
set_option linter.unusedVariables false

/-- A node of a graph: op, number, kids. -/
abbrev EN := Int × Int × List Int
def e0 : EN := (0, 0, [])
/-- The slice (a, len, cap) holds the nodes p in the world w. -/
def ESl (w : World) (a : Option Addr) (len : Nat) (p : List EN) : Prop :=
  p.length = len ∧ (len = 0 ∨ ∃ b off, a = some ⟨b, off, none⟩ ∧ b < w.heap.size ∧ ∀ i, i < len → ∃ ai li ci, w.cell? ⟨b, off + i * 3, none⟩ = some (.int .i64 (p.getD i e0).1) ∧ w.cell? ⟨b, off + i * 3 + 1, none⟩ = some (.int .i64 (p.getD i e0).2.1) ∧ w.cell? ⟨b, off + i * 3 + 2, none⟩ = some (.slice ai li ci) ∧ li ≤ 9223372036854775807 ∧ li ≤ ci ∧ Sl w ai li (p.getD i e0).2.2)
theorem ESl.keep {w w' : World} {a : Option Addr} {len : Nat} {p : List EN} (h : ESl w a len p) (hb : Below w.heap.size w w') : ESl w' a len p := by
  refine ⟨h.1, ?_⟩
  rcases h.2 with h0 | ⟨b, off, ha, hlt, hc⟩
  · exact .inl h0
  · refine .inr ⟨b, off, ha, Nat.lt_of_lt_of_le hlt hb.size, fun i hi => ?_⟩
    obtain ⟨ai, li, ci, c1, c2, c3, c4, c5, c6⟩ := hc i hi
    exact ⟨ai, li, ci, (hb.cell (p := ⟨b, off + i * 3, none⟩) hlt).trans c1, (hb.cell (p := ⟨b, off + i * 3 + 1, none⟩) hlt).trans c2, (hb.cell (p := ⟨b, off + i * 3 + 2, none⟩) hlt).trans c3, c4, c5, c6.keep hb⟩
theorem ESl.at {w : World} {a : Option Addr} {len : Nat} {p : List EN} (h : ESl w a len p) (h0 : 0 < len) :
    ∃ b off, a = some ⟨b, off, none⟩ ∧ b < w.heap.size ∧ ∀ i, i < len → ∃ ai li ci, w.cell? ⟨b, off + i * 3, none⟩ = some (.int .i64 (p.getD i e0).1) ∧ w.cell? ⟨b, off + i * 3 + 1, none⟩ = some (.int .i64 (p.getD i e0).2.1) ∧ w.cell? ⟨b, off + i * 3 + 2, none⟩ = some (.slice ai li ci) ∧ li ≤ 9223372036854775807 ∧ li ≤ ci ∧ Sl w ai li (p.getD i e0).2.2 := by
  rcases h.2 with h1 | h1
  · omega
  · exact h1

/-- Numbers within bounds. -/
def kidsB (l : List Int) (lo hi : Int) : Bool := l.all fun x => decide (lo ≤ x ∧ x ≤ hi)
theorem kidsB_drop (l : List Int) (k : Nat) (lo hi : Int) (h : k < l.length) : kidsB (l.drop k) lo hi = (decide (lo ≤ l.getD k 0 ∧ l.getD k 0 ≤ hi) && kidsB (l.drop (k + 1)) lo hi) := by
  rw [List.drop_eq_getElem_cons h, getI_lt h]; rfl
theorem kidsB_iff (l : List Int) (lo hi : Int) : kidsB l lo hi = true ↔ ∀ x ∈ l, lo ≤ x ∧ x ≤ hi := by
  unfold kidsB
  rw [List.all_eq_true]
  simp only [decide_eq_true_eq]
/-- Is a node of an op, a number and so many kids one? -/
def nodeOk (op n : Int) (m : Nat) : Bool := decide (0 ≤ ar op) && decide ((m : Int) = ar op) && numFits op n
/-- A node that may have the number k. -/
def fitE (k : Nat) (x : EN) : Bool := nodeOk x.1 x.2.1 x.2.2.length && kidsB x.2.2 0 ((k : Int) - 1)
def eachB : Nat → List EN → Bool
  | _, [] => true
  | k, x :: r => fitE k x && eachB (k + 1) r
theorem getDE_lt {p : List EN} {k : Nat} (h : k < p.length) : p.getD k e0 = p[k] := by
  rw [List.getD_eq_getElem?_getD, List.getElem?_eq_getElem h]; rfl
theorem eachB_drop (p : List EN) (k : Nat) (h : k < p.length) : eachB k (p.drop k) = (fitE k (p.getD k e0) && eachB (k + 1) (p.drop (k + 1))) := by
  rw [List.drop_eq_getElem_cons h, getDE_lt h]; rfl
def nodesB (p : List EN) : Bool := decide (p.length ≤ 120) && eachB 0 p
theorem eachB_all (p : List EN) : ∀ k, eachB k (p.drop k) = true → ∀ i, k ≤ i → i < p.length → fitE i (p.getD i e0) = true := by
  intro k
  induction hn : p.length - k generalizing k with
  | zero => intro _ i h1 h2; omega
  | succ n ih =>
    intro h i h1 h2
    rw [eachB_drop p k (by omega), Bool.and_eq_true] at h
    by_cases e : i = k
    · subst e; exact h.1
    · exact ih (k + 1) (by omega) h.2 i (by omega) h2
theorem nodesB_iff (p : List EN) : nodesB p = true ↔ p.length ≤ 120 ∧ ∀ i, i < p.length → fitE i (p.getD i e0) = true := by
  unfold nodesB
  rw [Bool.and_eq_true, decide_eq_true_iff]
  refine and_congr_right fun _ => ⟨fun h i hi => eachB_all p 0 (by simpa using h) i (Nat.zero_le _) hi, fun h => ?_⟩
  suffices ∀ n k, p.length - k = n → eachB k (p.drop k) = true by simpa using this _ 0 rfl
  intro n
  induction n with
  | zero => intro k hk; rw [List.drop_of_length_le (by omega)]; rfl
  | succ n ih => intro k hk; rw [eachB_drop p k (by omega), h k (by omega), ih (k + 1) (by omega)]; rfl
theorem fit_node {k : Nat} {x : EN} (h : fitE k x = true) : 0 ≤ ar x.1 ∧ (x.2.2.length : Int) = ar x.1 ∧ numFits x.1 x.2.1 = true ∧ ∀ y ∈ x.2.2, 0 ≤ y ∧ y < (k : Int) := by
  unfold fitE nodeOk at h
  simp only [Bool.and_eq_true, decide_eq_true_eq] at h
  obtain ⟨⟨⟨h1, h2⟩, h3⟩, h4⟩ := h
  refine ⟨h1, h2, h3, fun y hy => ?_⟩
  have := (kidsB_iff _ _ _).1 h4 y hy
  omega
theorem fit_few {k : Nat} {x : EN} (h : fitE k x = true) : x.2.2.length ≤ 3 := by
  have h1 := fit_node h
  have := (ar_range x.1).2
  omega
/-- Kids are classes. -/
def KidsCl (l : List Int) (kids : List Int) : Prop := ∀ x ∈ kids, l.getD x.toNat 0 = x
instance (l kids : List Int) : Decidable (KidsCl l kids) := inferInstanceAs (Decidable (∀ x ∈ kids, l.getD x.toNat 0 = x))
/-- A node is of one class with those ahead that are alike. -/
def OneCl (p : List EN) (l : List Int) (k : Nat) : Prop := ∀ i, i < k → p.getD k e0 = p.getD i e0 → l.getD i 0 = l.getD k 0
instance (p : List EN) (l : List Int) (k : Nat) : Decidable (OneCl p l k) := inferInstanceAs (Decidable (∀ i, i < k → p.getD k e0 = p.getD i e0 → l.getD i 0 = l.getD k 0))
def Rest (p : List EN) (l : List Int) : Prop := ∀ k, k < p.length → KidsCl l (p.getD k e0).2.2 ∧ OneCl p l k
instance (p : List EN) (l : List Int) : Decidable (Rest p l) := inferInstanceAs (Decidable (∀ k, k < p.length → KidsCl l (p.getD k e0).2.2 ∧ OneCl p l k))
/-- Nodes with as many good parts. -/
def headB (p : List EN) (l : List Int) : Bool := nodesB p && decide (l.length = p.length) && partB l
def graphB (p : List EN) (l : List Int) : Bool := headB p l && decide (Rest p l)
theorem headB_iff (p : List EN) (l : List Int) : headB p l = true ↔ nodesB p = true ∧ l.length = p.length ∧ partB l = true := by
  unfold headB
  rw [Bool.and_eq_true, Bool.and_eq_true, decide_eq_true_iff, and_assoc]
theorem graphB_iff (p : List EN) (l : List Int) : graphB p l = true ↔ headB p l = true ∧ Rest p l := by
  unfold graphB
  rw [Bool.and_eq_true, decide_eq_true_iff]
end Go.Proofs.YtbmgflapagbkcaaDoor
