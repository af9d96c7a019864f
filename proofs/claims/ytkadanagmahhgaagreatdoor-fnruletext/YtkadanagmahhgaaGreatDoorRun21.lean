/-
  PROVED HERE: plain facts on lists of parents, their roots, and on parts. No condition. which lists are good parents and good parts, to the model and to the program, at every list. No other condition. which root the model and the program find from a number of good parents, and how many steps5 that takes, at every list and every number. No other condition. what joining the roots of two numbers answers, to the model and to the program, at every list and every two numbers. No other condition.
-/
import Derived.Test.YtkadanagmahhgaaGreatDoorRun1
import Derived.Test.YtkadanagmahhgaaGreatDoorRun19
import Derived.Lib.SliceRun
import Derived.Lib.MinMax
namespace Go.Proofs.YtkadanagmahhgaaGreatDoor
set_option linter.unusedVariables false

/-- No number is below 0 or greater than its place. -/
def Par (l : List Int) : Prop := ∀ k, k < l.length → 0 ≤ l.getD k 0 ∧ l.getD k 0 ≤ (k : Int)
instance (l : List Int) : Decidable (Par l) := inferInstanceAs (Decidable (∀ k, k < l.length → 0 ≤ l.getD k 0 ∧ l.getD k 0 ≤ (k : Int)))
/-- Each number's own one is itself. -/
def Flat (l : List Int) : Prop := ∀ k, k < l.length → l.getD (l.getD k 0).toNat 0 = l.getD k 0
instance (l : List Int) : Decidable (Flat l) := inferInstanceAs (Decidable (∀ k, k < l.length → l.getD (l.getD k 0).toNat 0 = l.getD k 0))
def parB (l : List Int) : Bool := decide (l.length ≤ 200) && decide (Par l)
def partB (l : List Int) : Bool := parB l && decide (Flat l)
theorem parB_iff (l : List Int) : parB l = true ↔ l.length ≤ 200 ∧ Par l := by
  unfold parB; rw [Bool.and_eq_true, decide_eq_true_iff, decide_eq_true_iff]
theorem partB_iff (l : List Int) : partB l = true ↔ l.length ≤ 200 ∧ Par l ∧ Flat l := by
  unfold partB; rw [Bool.and_eq_true, decide_eq_true_iff, parB_iff, and_assoc]
/-- The parent. -/
def up (l : List Int) (k : Nat) : Nat := (l.getD k 0).toNat
theorem up_eq {l : List Int} (h : Par l) {k : Nat} (hk : k < l.length) : ((up l k : Nat) : Int) = l.getD k 0 := Int.toNat_of_nonneg (h k hk).1
theorem up_le {l : List Int} (h : Par l) {k : Nat} (hk : k < l.length) : up l k ≤ k := by
  have := (h k hk).2
  have := up_eq h hk
  omega
def rootF (l : List Int) : Nat → Nat → Nat
  | 0, k => k
  | f + 1, k => if up l k = k then k else rootF l f (up l k)
def stepF (l : List Int) : Nat → Nat → Nat
  | 0, k => 0
  | f + 1, k => if up l k = k then 0 else stepF l f (up l k) + 1
/-- The root that is come to from a number, and the steps5. -/
def root (l : List Int) (k : Nat) : Nat := rootF l k k
def steps5 (l : List Int) (k : Nat) : Nat := stepF l k k
theorem rootF_more {l : List Int} (h : Par l) : ∀ (f k : Nat), k < l.length → k ≤ f → rootF l f k = rootF l k k := by
  intro f
  induction f using Nat.strongRecOn with
  | _ f ih =>
    intro k hk hf
    match f, k, hf with
    | 0, 0, _ => rfl
    | f + 1, 0, _ =>
      have : up l 0 = 0 := by have := up_le h hk; omega
      simp [rootF, this]
    | f + 1, k + 1, hf =>
      simp only [rootF]
      have hu := up_le h hk
      split
      · rfl
      · rename_i hne
        rw [ih f (by omega) _ (by omega) (by omega), ih k (by omega) _ (by omega) (by omega)]
theorem stepF_more {l : List Int} (h : Par l) : ∀ (f k : Nat), k < l.length → k ≤ f → stepF l f k = stepF l k k := by
  intro f
  induction f using Nat.strongRecOn with
  | _ f ih =>
    intro k hk hf
    match f, k, hf with
    | 0, 0, _ => rfl
    | f + 1, 0, _ =>
      have : up l 0 = 0 := by have := up_le h hk; omega
      simp [stepF, this]
    | f + 1, k + 1, hf =>
      simp only [stepF]
      have hu := up_le h hk
      split
      · rfl
      · rename_i hne
        rw [ih f (by omega) _ (by omega) (by omega), ih k (by omega) _ (by omega) (by omega)]
theorem root_self {l : List Int} {k : Nat} (h : up l k = k) : root l k = k := by
  unfold root
  cases k with
  | zero => rfl
  | succ k => simp [rootF, h]
theorem steps_self {l : List Int} {k : Nat} (h : up l k = k) : steps5 l k = 0 := by
  unfold steps5
  cases k with
  | zero => rfl
  | succ k => simp [stepF, h]
theorem root_up {l : List Int} (h : Par l) {k : Nat} (hk : k < l.length) : root l (up l k) = root l k := by
  by_cases e : up l k = k
  · rw [e]
  · have hu := up_le h hk
    unfold root
    match k with
    | 0 => omega
    | k + 1 =>
      rw [show rootF l (k + 1) (k + 1) = rootF l k (up l (k + 1)) from by simp [rootF, e], rootF_more h k _ (by omega) (by omega)]
theorem steps_up {l : List Int} (h : Par l) {k : Nat} (hk : k < l.length) (e : up l k ≠ k) : steps5 l k = steps5 l (up l k) + 1 := by
  have hu := up_le h hk
  unfold steps5
  match k with
  | 0 => omega
  | k + 1 =>
    rw [show stepF l (k + 1) (k + 1) = stepF l k (up l (k + 1)) + 1 from by simp [stepF, e], stepF_more h k _ (by omega) (by omega)]
/-- What holds of a root, and is handed on from a parent, holds of all. -/
theorem up_ind {l : List Int} (h : Par l) (P : Nat → Prop) (h0 : ∀ k, k < l.length → up l k = k → P k) (h1 : ∀ k, k < l.length → up l k < k → P (up l k) → P k) : ∀ k, k < l.length → P k := by
  intro k
  induction k using Nat.strongRecOn with
  | _ k ih =>
    intro hk
    have hu := up_le h hk
    by_cases e : up l k = k
    · exact h0 k hk e
    · exact h1 k hk (by omega) (ih _ (by omega) (by omega))
theorem root_le {l : List Int} (h : Par l) {k : Nat} (hk : k < l.length) : root l k ≤ k := by
  refine up_ind h (fun k => root l k ≤ k) (fun k hk e => ?_) (fun k hk e ih => ?_) k hk
  · rw [root_self e]; exact Nat.le_refl _
  · rw [← root_up h hk]; omega
theorem root_fix {l : List Int} (h : Par l) {k : Nat} (hk : k < l.length) : up l (root l k) = root l k := by
  refine up_ind h (fun k => up l (root l k) = root l k) (fun k hk e => ?_) (fun k hk e ih => ?_) k hk
  · rw [root_self e]; exact e
  · rw [← root_up h hk]; exact ih
theorem steps_le {l : List Int} (h : Par l) {k : Nat} (hk : k < l.length) : steps5 l k ≤ k := by
  refine up_ind h (fun k => steps5 l k ≤ k) (fun k hk e => ?_) (fun k hk e ih => ?_) k hk
  · rw [steps_self e]; omega
  · rw [steps_up h hk (by omega)]; omega
/-- Of flat parents the root is the parent. -/
theorem root_flat {l : List Int} (h : Par l) (hf : Flat l) {k : Nat} (hk : k < l.length) : root l k = up l k := by
  have : up l (up l k) = up l k := by unfold up; rw [hf k hk]
  rw [← root_up h hk, root_self this]
theorem getI_lt {l : List Int} {k : Nat} (h : k < l.length) : l.getD k 0 = l[k] := by
  rw [List.getD_eq_getElem?_getD, List.getElem?_eq_getElem h]; rfl
/-- Lists of the same length that are alike at each place. -/
theorem list_ext {l m : List Int} (h : l.length = m.length) (he : ∀ k, k < l.length → l.getD k 0 = m.getD k 0) : l = m := by
  refine List.ext_getElem h fun k h1 h2 => ?_
  have := he k h1
  rwa [getI_lt h1, getI_lt h2] at this

/-- The parents where two numbers' roots are one. -/
def unionL (l : List Int) (a b : Nat) : List Int := l.set (max (root l a) (root l b)) ((min (root l a) (root l b) : Nat) : Int)
theorem union_len (l : List Int) (a b : Nat) : (unionL l a b).length = l.length := by simp [unionL]
theorem set_getD (l : List Int) (i : Nat) (x : Int) (k : Nat) (hk : k < l.length) : (l.set i x).getD k 0 = if k = i then x else l.getD k 0 := by
  rw [List.getD_eq_getElem?_getD, List.getD_eq_getElem?_getD, List.getElem?_set]
  by_cases e : i = k
  · subst e; simp [hk]
  · rw [if_neg e, if_neg (fun e' => e e'.symm)]
theorem union_up {l : List Int} (a b : Nat) {k : Nat} (hk : k < l.length) : up (unionL l a b) k = if k = max (root l a) (root l b) then min (root l a) (root l b) else up l k := by
  unfold up unionL
  rw [set_getD _ _ _ _ hk]
  split <;> simp
theorem union_par {l : List Int} (h : Par l) {a b : Nat} (ha : a < l.length) (hb : b < l.length) : Par (unionL l a b) := by
  intro k hk
  rw [union_len] at hk
  unfold unionL
  rw [set_getD _ _ _ _ hk]
  split
  · omega
  · exact h k hk
theorem union_root {l : List Int} (h : Par l) {a b : Nat} (ha : a < l.length) (hb : b < l.length) : ∀ k, k < l.length → root (unionL l a b) k = if root l k = max (root l a) (root l b) then min (root l a) (root l b) else root l k := by
  have hP := union_par h ha hb
  have hL := union_len l a b
  have la := root_le h ha
  have lb := root_le h hb
  have fa := root_fix h ha
  have fb := root_fix h hb
  refine up_ind h _ (fun k hk e => ?_) (fun k hk e ih => ?_)
  · rw [root_self e]
    have hu := union_up a b hk
    by_cases hM : k = max (root l a) (root l b)
    · rw [if_pos hM]
      rw [if_pos hM] at hu
      rw [← root_up hP (by omega), hu]
      refine root_self ?_
      rw [union_up a b (by omega)]
      split
      · rfl
      · rcases Nat.le_total (root l a) (root l b) with h0 | h0
        · rw [Nat.min_eq_left h0]; exact fa
        · rw [Nat.min_eq_right h0]; exact fb
    · rw [if_neg hM]
      rw [if_neg hM, e] at hu
      exact root_self hu
  · rw [← root_up h hk, ← ih, ← root_up hP (by omega), union_up a b hk, if_neg]
    intro hM
    rcases Nat.le_total (root l a) (root l b) with h0 | h0
    · rw [Nat.max_eq_right h0] at hM; rw [← hM] at fb; omega
    · rw [Nat.max_eq_left h0] at hM; rw [← hM] at fa; omega
/-- The parents with each number's root in place of its parent. -/
def flatL (l : List Int) : List Int := (List.range l.length).map fun k => ((root l k : Nat) : Int)
theorem flat_length (l : List Int) : (flatL l).length = l.length := by simp [flatL]
theorem flatL_get {l : List Int} {k : Nat} (hk : k < l.length) : (flatL l).getD k 0 = ((root l k : Nat) : Int) := by
  simp [flatL, List.getD_eq_getElem?_getD, hk]
theorem flat_par {l : List Int} (h : Par l) : Par (flatL l) := by
  intro k hk
  rw [flat_length] at hk
  rw [flatL_get hk]
  have := root_le h hk
  omega
theorem flat_flat {l : List Int} (h : Par l) : Flat (flatL l) := by
  intro k hk
  rw [flat_length] at hk
  have := root_le h hk
  rw [flatL_get hk, Int.toNat_natCast, flatL_get (by omega), root_self (root_fix h hk)]
theorem flat_same {l : List Int} (h : Par l) (hf : Flat l) : flatL l = l := by
  refine list_ext (flat_length l) fun k hk => ?_
  rw [flat_length] at hk
  rw [flatL_get hk, root_flat h hf hk, up_eq h hk]
/-- The parts in which those of two numbers are one. -/
def joinPL (l : List Int) (a b : Nat) : List Int := l.map fun n => if n = max (l.getD a 0) (l.getD b 0) then min (l.getD a 0) (l.getD b 0) else n
theorem join_len (l : List Int) (a b : Nat) : (joinPL l a b).length = l.length := by simp [joinPL]
theorem join_get (l : List Int) (a b : Nat) {k : Nat} (hk : k < l.length) : (joinPL l a b).getD k 0 = if l.getD k 0 = max (l.getD a 0) (l.getD b 0) then min (l.getD a 0) (l.getD b 0) else l.getD k 0 := by
  have e : (joinPL l a b).getD k 0 = (fun n => if n = max (l.getD a 0) (l.getD b 0) then min (l.getD a 0) (l.getD b 0) else n) l[k] := by
    simp [joinPL, List.getD_eq_getElem?_getD, hk]
  rw [e, getI_lt hk]
theorem nat_max (a b : Nat) : ((max a b : Nat) : Int) = max (a : Int) b := by omega
theorem nat_min (a b : Nat) : ((min a b : Nat) : Int) = min (a : Int) b := by omega
/-- Joining trees and making them flat is joining the parts that they tell. -/
theorem union_flat {l : List Int} (h : Par l) {a b : Nat} (ha : a < l.length) (hb : b < l.length) : flatL (unionL l a b) = joinPL (flatL l) a b := by
  refine list_ext (by rw [flat_length, union_len, join_len, flat_length]) fun k hk => ?_
  rw [flat_length, union_len] at hk
  rw [flatL_get (by rw [union_len]; exact hk), union_root h ha hb k hk, join_get _ _ _ (by rw [flat_length]; exact hk), flatL_get hk, flatL_get ha, flatL_get hb, ← nat_max, ← nat_min]
  by_cases e : root l k = max (root l a) (root l b)
  · rw [if_pos e, if_pos (by rw [e])]
  · rw [if_neg e, if_neg (fun e' => e (by omega))]
theorem join_flat {l : List Int} (h : Par l) (hf : Flat l) {a b : Nat} (ha : a < l.length) (hb : b < l.length) : flatL (unionL l a b) = joinPL l a b := by
  rw [union_flat h ha hb, flat_same h hf]
end Go.Proofs.YtkadanagmahhgaaGreatDoor
namespace Go.Proofs.YtkadanagmahhgaaGreatDoor
open Go.ChangeShapes Go.WideShapes Go.ChangeAt Go.RowKit
set_option linter.unusedVariables false

theorem par_no {l : List Int} {k : Nat} (hk : k < l.length) (h : l.getD k 0 < 0 ∨ (k : Int) < l.getD k 0) : ¬ Par l := fun hp => by
  have := hp k hk
  omega
end Go.Proofs.YtkadanagmahhgaaGreatDoor
namespace Go.Proofs.YtkadanagmahhgaaGreatDoor
open Go.ChangeShapes Go.WideShapes Go.ChangeAt Go.RowKit
set_option linter.unusedVariables false

/-- Whether a number is one of the list. -/
def hasB (l : List Int) (k : Int) : Bool := decide (0 ≤ k ∧ k < l.length)
theorem specHas_any (len : Nat) (l : List Int) (hl : l.length = len) (k : Int) (w : World) :
    Calls Tryz.prog 116 #[.int .i64 k, .int .i64 0, .int .i64 ((len : Int) - 1)] w fun e w' => e = .returned (.bool (hasB l k)) ∧ w' = w := by
  by_cases h0 : 0 ≤ k ∧ k < len
  · have e : hasB l k = true := by unfold hasB; rw [hl]; exact decide_eq_true h0
    rw [e]
    exact in_yes k 0 _ w (by omega) (by omega)
  · have e : hasB l k = false := by unfold hasB; rw [hl]; exact decide_eq_false h0
    rw [e]
    exact in_no k 0 _ w (by omega)

/-- FindRoot's answer. -/
def findOk (l : List Int) (k : Int) : Bool := parB l && hasB l k
def findR (l : List Int) (k : Int) : Int := if findOk l k = true then ((root l k.toNat : Nat) : Int) else 0
def findS (l : List Int) (k : Int) : Int := if findOk l k = true then ((steps5 l k.toNat : Nat) : Int) else 0

end Go.Proofs.YtkadanagmahhgaaGreatDoor
namespace Go.Proofs.YtkadanagmahhgaaGreatDoor
open Go.ChangeShapes Go.WideShapes Go.ChangeAt Go.RowKit
set_option linter.unusedVariables false

theorem own_open {w : World} {base e n : Nat} {v : Value} {xs : List Value} (h : w.ownsRow base e 1 v n xs) (h0 : 0 < n) : ∃ g cap, v = .slice (some ⟨g, 0, none⟩) n cap ∧ base ≤ g ∧ g < w.heap.size := by
  rcases h.2 with ⟨rfl, h00⟩ | ⟨g, cap, cur, rfl, hb, hg, _⟩
  · omega
  · exact ⟨g, cap, rfl, hb, Array.getElem?_eq_some_iff.1 hg |>.1⟩
theorem empty5 (w : World) : (w.alloc (.cells #[] 3)).ownsRow w.heap.size 3 1 (.slice (some ⟨w.heap.size, 0, none⟩) 0 0) 0 [] :=
  ⟨rfl, .inr ⟨w.heap.size, 0, #[], rfl, Nat.le_refl _, by unfold World.alloc; exact Array.getElem?_push_size, by omega, by unfold maxLen; omega, rfl, rfl⟩⟩
theorem own5_any (a : Option Addr) (len cap : Nat) (l : List Int) (w : World) (h : Sl w a len l) (h0 : 0 < len) (hn : len ≤ 1048576) :
    Calls Tryz.prog 151 #[.slice a len cap] w fun e w' => ∃ v : Value, e = .returned v ∧ w'.ownsRow w.heap.size 3 1 v len (vals l) ∧ Below w.heap.size w w' := by
  obtain ⟨i0, hi, hz0, hz1, hz2⟩ := info_parts infoInt
  have hll := h.1
  have hb0 : Below w.heap.size w (w.alloc (.cells #[] 3)) := (Below.refl _ _).alloc (Nat.le_refl _) _
  obtain ⟨b, off, rfl, _⟩ := cells_of h h0
  have hcs := sl_cells (h.keep hb0) 0 len (by omega)
  rw [List.drop_zero, List.take_of_length_le (by omega), Nat.add_zero] at hcs
  have HC := (show Hid _ from hcs)
  have H1 : Hid (∀ u ∈ vals l, u.oneCell' = true) := vals_one l
  have hvl : (vals l).length = len * 1 := by rw [vals_len]; omega
  clear hcs h
  go_enter Tryz.func151, Tryz.ntmps151
  go_wp2_with (at_builtin; refine wpList_append_own _ rfl _ _ 62 rfl w.heap.size 3 i0 (.int .i64 0) 1 8 Tryz.underlying62 hi hz0 hz1 hz2 rfl (by decide) _ _ _ rfl (empty5 w) ⟨b, off, none⟩ len cap (vals l) rfl hvl HC.out H1.out (by unfold maxLen; omega) (by omega) (by simp) ?_; intro v' w4 hown4 hg4 _)
  go_ret
  rw [Nat.zero_add, List.nil_append] at hown4
  exact ⟨_, rfl, hown4, hb0.grown hg4 (by simp) (fun r hr => by cases hr; exact Nat.le_refl _)⟩
theorem vals_set (l : List Int) (i : Nat) (x : Int) : vals (l.set i x) = (vals l).set i (.int .i64 x) := by simp [vals, List.map_set]
theorem vals_at {l : List Int} {i : Nat} (h : i < l.length) : (vals l)[i]? = some (.int .i64 (l.getD i 0)) := by
  simp [vals, List.getD_eq_getElem?_getD, h]
theorem has_iff {l : List Int} {k : Int} (h : hasB l k = true) : ∃ n : Nat, k = n ∧ n < l.length := by
  unfold hasB at h
  have := of_decide_eq_true h
  exact ⟨k.toNat, by omega, by omega⟩

/-- UnionRoots' answer. -/
def unionOk (l : List Int) (a b : Int) : Bool := parB l && hasB l a && hasB l b
def unionR (l : List Int) (a b : Int) : List Int := if unionOk l a b = true then unionL l a.toNat b.toNat else []
theorem union_cases (l : List Int) (a b : Int) : (unionOk l a b = true ∧ parB l = true ∧ hasB l a = true ∧ hasB l b = true) ∨ (unionOk l a b = false ∧ (parB l = false ∨ (parB l = true ∧ hasB l a = false) ∨ (parB l = true ∧ hasB l a = true ∧ hasB l b = false))) := by
  unfold unionOk
  cases parB l <;> cases hasB l a <;> cases hasB l b <;> simp

end Go.Proofs.YtkadanagmahhgaaGreatDoor
