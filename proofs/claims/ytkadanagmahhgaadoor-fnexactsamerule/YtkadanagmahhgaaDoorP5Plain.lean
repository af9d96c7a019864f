/-
  PROVED HERE: plain facts on lists of parents, their roots, and on parts. No condition.
-/
import Derived.Test.YtkadanagmahhgaaDoorLists
namespace Go.Proofs.YtkadanagmahhgaaDoor
set_option linter.unusedVariables false

/-- No number is below 0 or greater than its place. -/
def Par (l : List Int) : Prop := ∀ k, k < l.length → 0 ≤ l.getD k 0 ∧ l.getD k 0 ≤ (k : Int)
instance (l : List Int) : Decidable (Par l) := inferInstanceAs (Decidable (∀ k, k < l.length → 0 ≤ l.getD k 0 ∧ l.getD k 0 ≤ (k : Int)))
/-- Each number's own one is itself. -/
def Flat (l : List Int) : Prop := ∀ k, k < l.length → l.getD (l.getD k 0).toNat 0 = l.getD k 0
instance (l : List Int) : Decidable (Flat l) := inferInstanceAs (Decidable (∀ k, k < l.length → l.getD (l.getD k 0).toNat 0 = l.getD k 0))
def parB (l : List Int) : Bool := decide (l.length ≤ 200) && decide (Par l)
def partB (l : List Int) : Bool := parB l && decide (Flat l)
theorem parB_iff (l : List Int) : parB l = true ↔ l.length ≤ 200 ∧ Par l := by
  unfold parB; rw [Bool.and_eq_true, decide_eq_true_iff, decide_eq_true_iff]
theorem partB_iff (l : List Int) : partB l = true ↔ l.length ≤ 200 ∧ Par l ∧ Flat l := by
  unfold partB; rw [Bool.and_eq_true, decide_eq_true_iff, parB_iff, and_assoc]
/-- The parent. -/
def up (l : List Int) (k : Nat) : Nat := (l.getD k 0).toNat
theorem up_eq {l : List Int} (h : Par l) {k : Nat} (hk : k < l.length) : ((up l k : Nat) : Int) = l.getD k 0 := Int.toNat_of_nonneg (h k hk).1
theorem up_le {l : List Int} (h : Par l) {k : Nat} (hk : k < l.length) : up l k ≤ k := by
  have := (h k hk).2
  have := up_eq h hk
  omega
def rootF (l : List Int) : Nat → Nat → Nat
  | 0, k => k
  | f + 1, k => if up l k = k then k else rootF l f (up l k)
def stepF (l : List Int) : Nat → Nat → Nat
  | 0, k => 0
  | f + 1, k => if up l k = k then 0 else stepF l f (up l k) + 1
/-- The root that is come to from a number, and the steps5. -/
def root (l : List Int) (k : Nat) : Nat := rootF l k k
def steps5 (l : List Int) (k : Nat) : Nat := stepF l k k
theorem rootF_more {l : List Int} (h : Par l) : ∀ (f k : Nat), k < l.length → k ≤ f → rootF l f k = rootF l k k := by
  intro f
  induction f using Nat.strongRecOn with
  | _ f ih =>
    intro k hk hf
    match f, k, hf with
    | 0, 0, _ => rfl
    | f + 1, 0, _ =>
      have : up l 0 = 0 := by have := up_le h hk; omega
      simp [rootF, this]
    | f + 1, k + 1, hf =>
      simp only [rootF]
      have hu := up_le h hk
      split
      · rfl
      · rename_i hne
        rw [ih f (by omega) _ (by omega) (by omega), ih k (by omega) _ (by omega) (by omega)]
theorem stepF_more {l : List Int} (h : Par l) : ∀ (f k : Nat), k < l.length → k ≤ f → stepF l f k = stepF l k k := by
  intro f
  induction f using Nat.strongRecOn with
  | _ f ih =>
    intro k hk hf
    match f, k, hf with
    | 0, 0, _ => rfl
    | f + 1, 0, _ =>
      have : up l 0 = 0 := by have := up_le h hk; omega
      simp [stepF, this]
    | f + 1, k + 1, hf =>
      simp only [stepF]
      have hu := up_le h hk
      split
      · rfl
      · rename_i hne
        rw [ih f (by omega) _ (by omega) (by omega), ih k (by omega) _ (by omega) (by omega)]
theorem root_self {l : List Int} {k : Nat} (h : up l k = k) : root l k = k := by
  unfold root
  cases k with
  | zero => rfl
  | succ k => simp [rootF, h]
theorem steps_self {l : List Int} {k : Nat} (h : up l k = k) : steps5 l k = 0 := by
  unfold steps5
  cases k with
  | zero => rfl
  | succ k => simp [stepF, h]
theorem root_up {l : List Int} (h : Par l) {k : Nat} (hk : k < l.length) : root l (up l k) = root l k := by
  by_cases e : up l k = k
  · rw [e]
  · have hu := up_le h hk
    unfold root
    match k with
    | 0 => omega
    | k + 1 =>
      rw [show rootF l (k + 1) (k + 1) = rootF l k (up l (k + 1)) from by simp [rootF, e], rootF_more h k _ (by omega) (by omega)]
theorem steps_up {l : List Int} (h : Par l) {k : Nat} (hk : k < l.length) (e : up l k ≠ k) : steps5 l k = steps5 l (up l k) + 1 := by
  have hu := up_le h hk
  unfold steps5
  match k with
  | 0 => omega
  | k + 1 =>
    rw [show stepF l (k + 1) (k + 1) = stepF l k (up l (k + 1)) + 1 from by simp [stepF, e], stepF_more h k _ (by omega) (by omega)]
/-- What holds of a root, and is handed on from a parent, holds of all. -/
theorem up_ind {l : List Int} (h : Par l) (P : Nat → Prop) (h0 : ∀ k, k < l.length → up l k = k → P k) (h1 : ∀ k, k < l.length → up l k < k → P (up l k) → P k) : ∀ k, k < l.length → P k := by
  intro k
  induction k using Nat.strongRecOn with
  | _ k ih =>
    intro hk
    have hu := up_le h hk
    by_cases e : up l k = k
    · exact h0 k hk e
    · exact h1 k hk (by omega) (ih _ (by omega) (by omega))
theorem root_le {l : List Int} (h : Par l) {k : Nat} (hk : k < l.length) : root l k ≤ k := by
  refine up_ind h (fun k => root l k ≤ k) (fun k hk e => ?_) (fun k hk e ih => ?_) k hk
  · rw [root_self e]; exact Nat.le_refl _
  · rw [← root_up h hk]; omega
theorem root_fix {l : List Int} (h : Par l) {k : Nat} (hk : k < l.length) : up l (root l k) = root l k := by
  refine up_ind h (fun k => up l (root l k) = root l k) (fun k hk e => ?_) (fun k hk e ih => ?_) k hk
  · rw [root_self e]; exact e
  · rw [← root_up h hk]; exact ih
theorem steps_le {l : List Int} (h : Par l) {k : Nat} (hk : k < l.length) : steps5 l k ≤ k := by
  refine up_ind h (fun k => steps5 l k ≤ k) (fun k hk e => ?_) (fun k hk e ih => ?_) k hk
  · rw [steps_self e]; omega
  · rw [steps_up h hk (by omega)]; omega
/-- Of flat parents the root is the parent. -/
theorem root_flat {l : List Int} (h : Par l) (hf : Flat l) {k : Nat} (hk : k < l.length) : root l k = up l k := by
  have : up l (up l k) = up l k := by unfold up; rw [hf k hk]
  rw [← root_up h hk, root_self this]
theorem getI_lt {l : List Int} {k : Nat} (h : k < l.length) : l.getD k 0 = l[k] := by
  rw [List.getD_eq_getElem?_getD, List.getElem?_eq_getElem h]; rfl
/-- Lists of the same length that are alike at each place. -/
theorem list_ext {l m : List Int} (h : l.length = m.length) (he : ∀ k, k < l.length → l.getD k 0 = m.getD k 0) : l = m := by
  refine List.ext_getElem h fun k h1 h2 => ?_
  have := he k h1
  rwa [getI_lt h1, getI_lt h2] at this

/-- The parents where two numbers' roots are one. -/
def unionL (l : List Int) (a b : Nat) : List Int := l.set (max (root l a) (root l b)) ((min (root l a) (root l b) : Nat) : Int)
theorem union_len (l : List Int) (a b : Nat) : (unionL l a b).length = l.length := by simp [unionL]
theorem set_getD (l : List Int) (i : Nat) (x : Int) (k : Nat) (hk : k < l.length) : (l.set i x).getD k 0 = if k = i then x else l.getD k 0 := by
  rw [List.getD_eq_getElem?_getD, List.getD_eq_getElem?_getD, List.getElem?_set]
  by_cases e : i = k
  · subst e; simp [hk]
  · rw [if_neg e, if_neg (fun e' => e e'.symm)]
theorem union_up {l : List Int} (a b : Nat) {k : Nat} (hk : k < l.length) : up (unionL l a b) k = if k = max (root l a) (root l b) then min (root l a) (root l b) else up l k := by
  unfold up unionL
  rw [set_getD _ _ _ _ hk]
  split <;> simp
theorem union_par {l : List Int} (h : Par l) {a b : Nat} (ha : a < l.length) (hb : b < l.length) : Par (unionL l a b) := by
  intro k hk
  rw [union_len] at hk
  unfold unionL
  rw [set_getD _ _ _ _ hk]
  split
  · omega
  · exact h k hk
theorem union_root {l : List Int} (h : Par l) {a b : Nat} (ha : a < l.length) (hb : b < l.length) : ∀ k, k < l.length → root (unionL l a b) k = if root l k = max (root l a) (root l b) then min (root l a) (root l b) else root l k := by
  have hP := union_par h ha hb
  have hL := union_len l a b
  have la := root_le h ha
  have lb := root_le h hb
  have fa := root_fix h ha
  have fb := root_fix h hb
  refine up_ind h _ (fun k hk e => ?_) (fun k hk e ih => ?_)
  · rw [root_self e]
    have hu := union_up a b hk
    by_cases hM : k = max (root l a) (root l b)
    · rw [if_pos hM]
      rw [if_pos hM] at hu
      rw [← root_up hP (by omega), hu]
      refine root_self ?_
      rw [union_up a b (by omega)]
      split
      · rfl
      · rcases Nat.le_total (root l a) (root l b) with h0 | h0
        · rw [Nat.min_eq_left h0]; exact fa
        · rw [Nat.min_eq_right h0]; exact fb
    · rw [if_neg hM]
      rw [if_neg hM, e] at hu
      exact root_self hu
  · rw [← root_up h hk, ← ih, ← root_up hP (by omega), union_up a b hk, if_neg]
    intro hM
    rcases Nat.le_total (root l a) (root l b) with h0 | h0
    · rw [Nat.max_eq_right h0] at hM; rw [← hM] at fb; omega
    · rw [Nat.max_eq_left h0] at hM; rw [← hM] at fa; omega
/-- The parents with each number's root in place of its parent. -/
def flatL (l : List Int) : List Int := (List.range l.length).map fun k => ((root l k : Nat) : Int)
theorem flat_length (l : List Int) : (flatL l).length = l.length := by simp [flatL]
theorem flatL_get {l : List Int} {k : Nat} (hk : k < l.length) : (flatL l).getD k 0 = ((root l k : Nat) : Int) := by
  simp [flatL, List.getD_eq_getElem?_getD, hk]
theorem flat_par {l : List Int} (h : Par l) : Par (flatL l) := by
  intro k hk
  rw [flat_length] at hk
  rw [flatL_get hk]
  have := root_le h hk
  omega
theorem flat_flat {l : List Int} (h : Par l) : Flat (flatL l) := by
  intro k hk
  rw [flat_length] at hk
  have := root_le h hk
  rw [flatL_get hk, Int.toNat_natCast, flatL_get (by omega), root_self (root_fix h hk)]
theorem flat_same {l : List Int} (h : Par l) (hf : Flat l) : flatL l = l := by
  refine list_ext (flat_length l) fun k hk => ?_
  rw [flat_length] at hk
  rw [flatL_get hk, root_flat h hf hk, up_eq h hk]
/-- The parts in which those of two numbers are one. -/
def joinPL (l : List Int) (a b : Nat) : List Int := l.map fun n => if n = max (l.getD a 0) (l.getD b 0) then min (l.getD a 0) (l.getD b 0) else n
theorem join_len (l : List Int) (a b : Nat) : (joinPL l a b).length = l.length := by simp [joinPL]
theorem join_get (l : List Int) (a b : Nat) {k : Nat} (hk : k < l.length) : (joinPL l a b).getD k 0 = if l.getD k 0 = max (l.getD a 0) (l.getD b 0) then min (l.getD a 0) (l.getD b 0) else l.getD k 0 := by
  have e : (joinPL l a b).getD k 0 = (fun n => if n = max (l.getD a 0) (l.getD b 0) then min (l.getD a 0) (l.getD b 0) else n) l[k] := by
    simp [joinPL, List.getD_eq_getElem?_getD, hk]
  rw [e, getI_lt hk]
theorem nat_max (a b : Nat) : ((max a b : Nat) : Int) = max (a : Int) b := by omega
theorem nat_min (a b : Nat) : ((min a b : Nat) : Int) = min (a : Int) b := by omega
/-- Joining trees and making them flat is joining the parts that they tell. -/
theorem union_flat {l : List Int} (h : Par l) {a b : Nat} (ha : a < l.length) (hb : b < l.length) : flatL (unionL l a b) = joinPL (flatL l) a b := by
  refine list_ext (by rw [flat_length, union_len, join_len, flat_length]) fun k hk => ?_
  rw [flat_length, union_len] at hk
  rw [flatL_get (by rw [union_len]; exact hk), union_root h ha hb k hk, join_get _ _ _ (by rw [flat_length]; exact hk), flatL_get hk, flatL_get ha, flatL_get hb, ← nat_max, ← nat_min]
  by_cases e : root l k = max (root l a) (root l b)
  · rw [if_pos e, if_pos (by rw [e])]
  · rw [if_neg e, if_neg (fun e' => e (by omega))]
theorem join_flat {l : List Int} (h : Par l) (hf : Flat l) {a b : Nat} (ha : a < l.length) (hb : b < l.length) : flatL (unionL l a b) = joinPL l a b := by
  rw [union_flat h ha hb, flat_same h hf]
end Go.Proofs.YtkadanagmahhgaaDoor
