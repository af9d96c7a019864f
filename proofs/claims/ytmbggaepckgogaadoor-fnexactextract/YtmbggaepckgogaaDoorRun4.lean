/-
  PROVED HERE: plain facts on lists of parents, their roots, and on parts. No condition. plain facts on nodes of graphs, and how lists of them lie in memory. No condition.
-/
import Derived.Test.YtmbggaepckgogaaDoorRun3
namespace Go.Proofs.YtmbggaepckgogaaDoor
set_option linter.unusedVariables false

/-- No number is below 0 or greater than its place. -/
def Par (l : List Int) : Prop := ∀ k, k < l.length → 0 ≤ l.getD k 0 ∧ l.getD k 0 ≤ (k : Int)
instance (l : List Int) : Decidable (Par l) := inferInstanceAs (Decidable (∀ k, k < l.length → 0 ≤ l.getD k 0 ∧ l.getD k 0 ≤ (k : Int)))
/-- Each number's own one is itself. -/
def Flat (l : List Int) : Prop := ∀ k, k < l.length → l.getD (l.getD k 0).toNat 0 = l.getD k 0
instance (l : List Int) : Decidable (Flat l) := inferInstanceAs (Decidable (∀ k, k < l.length → l.getD (l.getD k 0).toNat 0 = l.getD k 0))
def parB (l : List Int) : Bool := decide (l.length ≤ 200) && decide (Par l)
def partB (l : List Int) : Bool := parB l && decide (Flat l)
theorem parB_iff (l : List Int) : parB l = true ↔ l.length ≤ 200 ∧ Par l := by
  unfold parB; rw [Bool.and_eq_true, decide_eq_true_iff, decide_eq_true_iff]
theorem partB_iff (l : List Int) : partB l = true ↔ l.length ≤ 200 ∧ Par l ∧ Flat l := by
  unfold partB; rw [Bool.and_eq_true, decide_eq_true_iff, parB_iff, and_assoc]
/-- The parent. -/
def up (l : List Int) (k : Nat) : Nat := (l.getD k 0).toNat
theorem up_eq {l : List Int} (h : Par l) {k : Nat} (hk : k < l.length) : ((up l k : Nat) : Int) = l.getD k 0 := Int.toNat_of_nonneg (h k hk).1
theorem up_le {l : List Int} (h : Par l) {k : Nat} (hk : k < l.length) : up l k ≤ k := by
  have := (h k hk).2
  have := up_eq h hk
  omega
def rootF (l : List Int) : Nat → Nat → Nat
  | 0, k => k
  | f + 1, k => if up l k = k then k else rootF l f (up l k)
def stepF (l : List Int) : Nat → Nat → Nat
  | 0, k => 0
  | f + 1, k => if up l k = k then 0 else stepF l f (up l k) + 1
/-- The root that is come to from a number, and the steps5. -/
def root (l : List Int) (k : Nat) : Nat := rootF l k k
def steps5 (l : List Int) (k : Nat) : Nat := stepF l k k
theorem rootF_more {l : List Int} (h : Par l) : ∀ (f k : Nat), k < l.length → k ≤ f → rootF l f k = rootF l k k := by
  intro f
  induction f using Nat.strongRecOn with
  | _ f ih =>
    intro k hk hf
    match f, k, hf with
    | 0, 0, _ => rfl
    | f + 1, 0, _ =>
      have : up l 0 = 0 := by have := up_le h hk; omega
      simp [rootF, this]
    | f + 1, k + 1, hf =>
      simp only [rootF]
      have hu := up_le h hk
      split
      · rfl
      · rename_i hne
        rw [ih f (by omega) _ (by omega) (by omega), ih k (by omega) _ (by omega) (by omega)]
theorem stepF_more {l : List Int} (h : Par l) : ∀ (f k : Nat), k < l.length → k ≤ f → stepF l f k = stepF l k k := by
  intro f
  induction f using Nat.strongRecOn with
  | _ f ih =>
    intro k hk hf
    match f, k, hf with
    | 0, 0, _ => rfl
    | f + 1, 0, _ =>
      have : up l 0 = 0 := by have := up_le h hk; omega
      simp [stepF, this]
    | f + 1, k + 1, hf =>
      simp only [stepF]
      have hu := up_le h hk
      split
      · rfl
      · rename_i hne
        rw [ih f (by omega) _ (by omega) (by omega), ih k (by omega) _ (by omega) (by omega)]
theorem root_self {l : List Int} {k : Nat} (h : up l k = k) : root l k = k := by
  unfold root
  cases k with
  | zero => rfl
  | succ k => simp [rootF, h]
theorem steps_self {l : List Int} {k : Nat} (h : up l k = k) : steps5 l k = 0 := by
  unfold steps5
  cases k with
  | zero => rfl
  | succ k => simp [stepF, h]
theorem root_up {l : List Int} (h : Par l) {k : Nat} (hk : k < l.length) : root l (up l k) = root l k := by
  by_cases e : up l k = k
  · rw [e]
  · have hu := up_le h hk
    unfold root
    match k with
    | 0 => omega
    | k + 1 =>
      rw [show rootF l (k + 1) (k + 1) = rootF l k (up l (k + 1)) from by simp [rootF, e], rootF_more h k _ (by omega) (by omega)]
theorem steps_up {l : List Int} (h : Par l) {k : Nat} (hk : k < l.length) (e : up l k ≠ k) : steps5 l k = steps5 l (up l k) + 1 := by
  have hu := up_le h hk
  unfold steps5
  match k with
  | 0 => omega
  | k + 1 =>
    rw [show stepF l (k + 1) (k + 1) = stepF l k (up l (k + 1)) + 1 from by simp [stepF, e], stepF_more h k _ (by omega) (by omega)]
/-- What holds of a root, and is handed on from a parent, holds of all. -/
theorem up_ind {l : List Int} (h : Par l) (P : Nat → Prop) (h0 : ∀ k, k < l.length → up l k = k → P k) (h1 : ∀ k, k < l.length → up l k < k → P (up l k) → P k) : ∀ k, k < l.length → P k := by
  intro k
  induction k using Nat.strongRecOn with
  | _ k ih =>
    intro hk
    have hu := up_le h hk
    by_cases e : up l k = k
    · exact h0 k hk e
    · exact h1 k hk (by omega) (ih _ (by omega) (by omega))
theorem root_le {l : List Int} (h : Par l) {k : Nat} (hk : k < l.length) : root l k ≤ k := by
  refine up_ind h (fun k => root l k ≤ k) (fun k hk e => ?_) (fun k hk e ih => ?_) k hk
  · rw [root_self e]; exact Nat.le_refl _
  · rw [← root_up h hk]; omega
theorem root_fix {l : List Int} (h : Par l) {k : Nat} (hk : k < l.length) : up l (root l k) = root l k := by
  refine up_ind h (fun k => up l (root l k) = root l k) (fun k hk e => ?_) (fun k hk e ih => ?_) k hk
  · rw [root_self e]; exact e
  · rw [← root_up h hk]; exact ih
theorem steps_le {l : List Int} (h : Par l) {k : Nat} (hk : k < l.length) : steps5 l k ≤ k := by
  refine up_ind h (fun k => steps5 l k ≤ k) (fun k hk e => ?_) (fun k hk e ih => ?_) k hk
  · rw [steps_self e]; omega
  · rw [steps_up h hk (by omega)]; omega
/-- Of flat parents the root is the parent. -/
theorem root_flat {l : List Int} (h : Par l) (hf : Flat l) {k : Nat} (hk : k < l.length) : root l k = up l k := by
  have : up l (up l k) = up l k := by unfold up; rw [hf k hk]
  rw [← root_up h hk, root_self this]
theorem getI_lt {l : List Int} {k : Nat} (h : k < l.length) : l.getD k 0 = l[k] := by
  rw [List.getD_eq_getElem?_getD, List.getElem?_eq_getElem h]; rfl
/-- Lists of the same length that are alike at each place. -/
theorem list_ext {l m : List Int} (h : l.length = m.length) (he : ∀ k, k < l.length → l.getD k 0 = m.getD k 0) : l = m := by
  refine List.ext_getElem h fun k h1 h2 => ?_
  have := he k h1
  rwa [getI_lt h1, getI_lt h2] at this

/-- The parents where two numbers' roots are one. -/
def unionL (l : List Int) (a b : Nat) : List Int := l.set (max (root l a) (root l b)) ((min (root l a) (root l b) : Nat) : Int)
theorem union_len (l : List Int) (a b : Nat) : (unionL l a b).length = l.length := by simp [unionL]
theorem set_getD (l : List Int) (i : Nat) (x : Int) (k : Nat) (hk : k < l.length) : (l.set i x).getD k 0 = if k = i then x else l.getD k 0 := by
  rw [List.getD_eq_getElem?_getD, List.getD_eq_getElem?_getD, List.getElem?_set]
  by_cases e : i = k
  · subst e; simp [hk]
  · rw [if_neg e, if_neg (fun e' => e e'.symm)]
theorem union_up {l : List Int} (a b : Nat) {k : Nat} (hk : k < l.length) : up (unionL l a b) k = if k = max (root l a) (root l b) then min (root l a) (root l b) else up l k := by
  unfold up unionL
  rw [set_getD _ _ _ _ hk]
  split <;> simp
theorem union_par {l : List Int} (h : Par l) {a b : Nat} (ha : a < l.length) (hb : b < l.length) : Par (unionL l a b) := by
  intro k hk
  rw [union_len] at hk
  unfold unionL
  rw [set_getD _ _ _ _ hk]
  split
  · omega
  · exact h k hk
theorem union_root {l : List Int} (h : Par l) {a b : Nat} (ha : a < l.length) (hb : b < l.length) : ∀ k, k < l.length → root (unionL l a b) k = if root l k = max (root l a) (root l b) then min (root l a) (root l b) else root l k := by
  have hP := union_par h ha hb
  have hL := union_len l a b
  have la := root_le h ha
  have lb := root_le h hb
  have fa := root_fix h ha
  have fb := root_fix h hb
  refine up_ind h _ (fun k hk e => ?_) (fun k hk e ih => ?_)
  · rw [root_self e]
    have hu := union_up a b hk
    by_cases hM : k = max (root l a) (root l b)
    · rw [if_pos hM]
      rw [if_pos hM] at hu
      rw [← root_up hP (by omega), hu]
      refine root_self ?_
      rw [union_up a b (by omega)]
      split
      · rfl
      · rcases Nat.le_total (root l a) (root l b) with h0 | h0
        · rw [Nat.min_eq_left h0]; exact fa
        · rw [Nat.min_eq_right h0]; exact fb
    · rw [if_neg hM]
      rw [if_neg hM, e] at hu
      exact root_self hu
  · rw [← root_up h hk, ← ih, ← root_up hP (by omega), union_up a b hk, if_neg]
    intro hM
    rcases Nat.le_total (root l a) (root l b) with h0 | h0
    · rw [Nat.max_eq_right h0] at hM; rw [← hM] at fb; omega
    · rw [Nat.max_eq_left h0] at hM; rw [← hM] at fa; omega
/-- The parents with each number's root in place of its parent. -/
def flatL (l : List Int) : List Int := (List.range l.length).map fun k => ((root l k : Nat) : Int)
theorem flat_length (l : List Int) : (flatL l).length = l.length := by simp [flatL]
theorem flatL_get {l : List Int} {k : Nat} (hk : k < l.length) : (flatL l).getD k 0 = ((root l k : Nat) : Int) := by
  simp [flatL, List.getD_eq_getElem?_getD, hk]
theorem flat_par {l : List Int} (h : Par l) : Par (flatL l) := by
  intro k hk
  rw [flat_length] at hk
  rw [flatL_get hk]
  have := root_le h hk
  omega
theorem flat_flat {l : List Int} (h : Par l) : Flat (flatL l) := by
  intro k hk
  rw [flat_length] at hk
  have := root_le h hk
  rw [flatL_get hk, Int.toNat_natCast, flatL_get (by omega), root_self (root_fix h hk)]
theorem flat_same {l : List Int} (h : Par l) (hf : Flat l) : flatL l = l := by
  refine list_ext (flat_length l) fun k hk => ?_
  rw [flat_length] at hk
  rw [flatL_get hk, root_flat h hf hk, up_eq h hk]
/-- The parts in which those of two numbers are one. -/
def joinPL (l : List Int) (a b : Nat) : List Int := l.map fun n => if n = max (l.getD a 0) (l.getD b 0) then min (l.getD a 0) (l.getD b 0) else n
theorem join_len (l : List Int) (a b : Nat) : (joinPL l a b).length = l.length := by simp [joinPL]
theorem join_get (l : List Int) (a b : Nat) {k : Nat} (hk : k < l.length) : (joinPL l a b).getD k 0 = if l.getD k 0 = max (l.getD a 0) (l.getD b 0) then min (l.getD a 0) (l.getD b 0) else l.getD k 0 := by
  have e : (joinPL l a b).getD k 0 = (fun n => if n = max (l.getD a 0) (l.getD b 0) then min (l.getD a 0) (l.getD b 0) else n) l[k] := by
    simp [joinPL, List.getD_eq_getElem?_getD, hk]
  rw [e, getI_lt hk]
theorem nat_max (a b : Nat) : ((max a b : Nat) : Int) = max (a : Int) b := by omega
theorem nat_min (a b : Nat) : ((min a b : Nat) : Int) = min (a : Int) b := by omega
/-- Joining trees and making them flat is joining the parts that they tell. -/
theorem union_flat {l : List Int} (h : Par l) {a b : Nat} (ha : a < l.length) (hb : b < l.length) : flatL (unionL l a b) = joinPL (flatL l) a b := by
  refine list_ext (by rw [flat_length, union_len, join_len, flat_length]) fun k hk => ?_
  rw [flat_length, union_len] at hk
  rw [flatL_get (by rw [union_len]; exact hk), union_root h ha hb k hk, join_get _ _ _ (by rw [flat_length]; exact hk), flatL_get hk, flatL_get ha, flatL_get hb, ← nat_max, ← nat_min]
  by_cases e : root l k = max (root l a) (root l b)
  · rw [if_pos e, if_pos (by rw [e])]
  · rw [if_neg e, if_neg (fun e' => e (by omega))]
theorem join_flat {l : List Int} (h : Par l) (hf : Flat l) {a b : Nat} (ha : a < l.length) (hb : b < l.length) : flatL (unionL l a b) = joinPL l a b := by
  rw [union_flat h ha hb, flat_same h hf]
end Go.Proofs.YtmbggaepckgogaaDoor
namespace Go.Proofs.YtmbggaepckgogaaDoor
open Go.ChangeShapes Go.WideShapes Go.ChangeAt Go.RowKit
set_option linter.unusedVariables false

/-- A node of a graph: op, number, kids. -/
abbrev EN := Int × Int × List Int
def e0 : EN := (0, 0, [])
/-- The slice (a, len, cap) holds the nodes p in the world w. -/
def ESl (w : World) (a : Option Addr) (len : Nat) (p : List EN) : Prop :=
  p.length = len ∧ (len = 0 ∨ ∃ b off, a = some ⟨b, off, none⟩ ∧ b < w.heap.size ∧ ∀ i, i < len → ∃ ai li ci, w.cell? ⟨b, off + i * 3, none⟩ = some (.int .i64 (p.getD i e0).1) ∧ w.cell? ⟨b, off + i * 3 + 1, none⟩ = some (.int .i64 (p.getD i e0).2.1) ∧ w.cell? ⟨b, off + i * 3 + 2, none⟩ = some (.slice ai li ci) ∧ li ≤ 9223372036854775807 ∧ li ≤ ci ∧ Sl w ai li (p.getD i e0).2.2)
theorem ESl.keep {w w' : World} {a : Option Addr} {len : Nat} {p : List EN} (h : ESl w a len p) (hb : Below w.heap.size w w') : ESl w' a len p := by
  refine ⟨h.1, ?_⟩
  rcases h.2 with h0 | ⟨b, off, ha, hlt, hc⟩
  · exact .inl h0
  · refine .inr ⟨b, off, ha, Nat.lt_of_lt_of_le hlt hb.size, fun i hi => ?_⟩
    obtain ⟨ai, li, ci, c1, c2, c3, c4, c5, c6⟩ := hc i hi
    exact ⟨ai, li, ci, (hb.cell (p := ⟨b, off + i * 3, none⟩) hlt).trans c1, (hb.cell (p := ⟨b, off + i * 3 + 1, none⟩) hlt).trans c2, (hb.cell (p := ⟨b, off + i * 3 + 2, none⟩) hlt).trans c3, c4, c5, c6.keep hb⟩
theorem ESl.at {w : World} {a : Option Addr} {len : Nat} {p : List EN} (h : ESl w a len p) (h0 : 0 < len) :
    ∃ b off, a = some ⟨b, off, none⟩ ∧ b < w.heap.size ∧ ∀ i, i < len → ∃ ai li ci, w.cell? ⟨b, off + i * 3, none⟩ = some (.int .i64 (p.getD i e0).1) ∧ w.cell? ⟨b, off + i * 3 + 1, none⟩ = some (.int .i64 (p.getD i e0).2.1) ∧ w.cell? ⟨b, off + i * 3 + 2, none⟩ = some (.slice ai li ci) ∧ li ≤ 9223372036854775807 ∧ li ≤ ci ∧ Sl w ai li (p.getD i e0).2.2 := by
  rcases h.2 with h1 | h1
  · omega
  · exact h1

/-- Numbers within bounds. -/
def kidsB (l : List Int) (lo hi : Int) : Bool := l.all fun x => decide (lo ≤ x ∧ x ≤ hi)
theorem kidsB_drop (l : List Int) (k : Nat) (lo hi : Int) (h : k < l.length) : kidsB (l.drop k) lo hi = (decide (lo ≤ l.getD k 0 ∧ l.getD k 0 ≤ hi) && kidsB (l.drop (k + 1)) lo hi) := by
  rw [List.drop_eq_getElem_cons h, getI_lt h]; rfl
theorem kidsB_iff (l : List Int) (lo hi : Int) : kidsB l lo hi = true ↔ ∀ x ∈ l, lo ≤ x ∧ x ≤ hi := by
  unfold kidsB
  rw [List.all_eq_true]
  simp only [decide_eq_true_eq]
/-- Is a node of an op, a number and so many kids one? -/
def nodeOk (op n : Int) (m : Nat) : Bool := decide (0 ≤ ar op) && decide ((m : Int) = ar op) && numFits op n
/-- A node that may have the number k. -/
def fitE (k : Nat) (x : EN) : Bool := nodeOk x.1 x.2.1 x.2.2.length && kidsB x.2.2 0 ((k : Int) - 1)
def eachB : Nat → List EN → Bool
  | _, [] => true
  | k, x :: r => fitE k x && eachB (k + 1) r
theorem getDE_lt {p : List EN} {k : Nat} (h : k < p.length) : p.getD k e0 = p[k] := by
  rw [List.getD_eq_getElem?_getD, List.getElem?_eq_getElem h]; rfl
theorem eachB_drop (p : List EN) (k : Nat) (h : k < p.length) : eachB k (p.drop k) = (fitE k (p.getD k e0) && eachB (k + 1) (p.drop (k + 1))) := by
  rw [List.drop_eq_getElem_cons h, getDE_lt h]; rfl
def nodesB (p : List EN) : Bool := decide (p.length ≤ 120) && eachB 0 p
theorem eachB_all (p : List EN) : ∀ k, eachB k (p.drop k) = true → ∀ i, k ≤ i → i < p.length → fitE i (p.getD i e0) = true := by
  intro k
  induction hn : p.length - k generalizing k with
  | zero => intro _ i h1 h2; omega
  | succ n ih =>
    intro h i h1 h2
    rw [eachB_drop p k (by omega), Bool.and_eq_true] at h
    by_cases e : i = k
    · subst e; exact h.1
    · exact ih (k + 1) (by omega) h.2 i (by omega) h2
theorem nodesB_iff (p : List EN) : nodesB p = true ↔ p.length ≤ 120 ∧ ∀ i, i < p.length → fitE i (p.getD i e0) = true := by
  unfold nodesB
  rw [Bool.and_eq_true, decide_eq_true_iff]
  refine and_congr_right fun _ => ⟨fun h i hi => eachB_all p 0 (by simpa using h) i (Nat.zero_le _) hi, fun h => ?_⟩
  suffices ∀ n k, p.length - k = n → eachB k (p.drop k) = true by simpa using this _ 0 rfl
  intro n
  induction n with
  | zero => intro k hk; rw [List.drop_of_length_le (by omega)]; rfl
  | succ n ih => intro k hk; rw [eachB_drop p k (by omega), h k (by omega), ih (k + 1) (by omega)]; rfl
theorem fit_node {k : Nat} {x : EN} (h : fitE k x = true) : 0 ≤ ar x.1 ∧ (x.2.2.length : Int) = ar x.1 ∧ numFits x.1 x.2.1 = true ∧ ∀ y ∈ x.2.2, 0 ≤ y ∧ y < (k : Int) := by
  unfold fitE nodeOk at h
  simp only [Bool.and_eq_true, decide_eq_true_eq] at h
  obtain ⟨⟨⟨h1, h2⟩, h3⟩, h4⟩ := h
  refine ⟨h1, h2, h3, fun y hy => ?_⟩
  have := (kidsB_iff _ _ _).1 h4 y hy
  omega
theorem fit_few {k : Nat} {x : EN} (h : fitE k x = true) : x.2.2.length ≤ 3 := by
  have h1 := fit_node h
  have := (ar_range x.1).2
  omega
/-- Kids are classes. -/
def KidsCl (l : List Int) (kids : List Int) : Prop := ∀ x ∈ kids, l.getD x.toNat 0 = x
instance (l kids : List Int) : Decidable (KidsCl l kids) := inferInstanceAs (Decidable (∀ x ∈ kids, l.getD x.toNat 0 = x))
/-- A node is of one class with those ahead that are alike. -/
def OneCl (p : List EN) (l : List Int) (k : Nat) : Prop := ∀ i, i < k → p.getD k e0 = p.getD i e0 → l.getD i 0 = l.getD k 0
instance (p : List EN) (l : List Int) (k : Nat) : Decidable (OneCl p l k) := inferInstanceAs (Decidable (∀ i, i < k → p.getD k e0 = p.getD i e0 → l.getD i 0 = l.getD k 0))
def Rest (p : List EN) (l : List Int) : Prop := ∀ k, k < p.length → KidsCl l (p.getD k e0).2.2 ∧ OneCl p l k
instance (p : List EN) (l : List Int) : Decidable (Rest p l) := inferInstanceAs (Decidable (∀ k, k < p.length → KidsCl l (p.getD k e0).2.2 ∧ OneCl p l k))
/-- Nodes with as many good parts. -/
def headB (p : List EN) (l : List Int) : Bool := nodesB p && decide (l.length = p.length) && partB l
def graphB (p : List EN) (l : List Int) : Bool := headB p l && decide (Rest p l)
theorem headB_iff (p : List EN) (l : List Int) : headB p l = true ↔ nodesB p = true ∧ l.length = p.length ∧ partB l = true := by
  unfold headB
  rw [Bool.and_eq_true, Bool.and_eq_true, decide_eq_true_iff, and_assoc]
theorem graphB_iff (p : List EN) (l : List Int) : graphB p l = true ↔ headB p l = true ∧ Rest p l := by
  unfold graphB
  rw [Bool.and_eq_true, decide_eq_true_iff]
end Go.Proofs.YtmbggaepckgogaaDoor
