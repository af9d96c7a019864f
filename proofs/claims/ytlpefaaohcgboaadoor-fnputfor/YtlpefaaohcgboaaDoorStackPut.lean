/-
  PROVED HERE: plain facts: what a term comes to with terms put for its variables; a variable that is surely reckoned and traps. No condition.
-/
import Derived.Test.YtlpefaaohcgboaaDoorStack
import Derived.Test.YtlpefaaohcgboaaDoorPutAll
import Derived.Test.YtlpefaaohcgboaaDoorISure
namespace Go.Proofs.YtlpefaaohcgboaaDoor
set_option linter.unusedVariables false

theorem opO_congr {g g' : Nat → Option Int} (x : Int × Int) (vs : List (Option Int)) (h : x.1 = 2 → g x.2.toNat = g' x.2.toNat) : opO g x vs = opO g' x vs := by
  unfold opO
  split
  · rfl
  · split
    · next h2 => exact h h2
    · rfl
theorem runS_congr {g g' : Nat → Option Int} : ∀ (l : List (Int × Int)) (st : List (Option Int)), (∀ x ∈ l, x.1 = 2 → g x.2.toNat = g' x.2.toNat) → runS g l st = runS g' l st
  | [], _, _ => rfl
  | x :: l, st, h => by
    show runS g l (pushS g st x) = runS g' l (pushS g' st x)
    have e : pushS g st x = pushS g' st x := by
      unfold pushS
      rw [opO_congr x _ (h x (by simp))]
    rw [e]
    exact runS_congr l _ (fun y hy => h y (by simp [hy]))
/-- What the terms that are put come to. -/
def putG (ls : List (List (Int × Int))) (g : Nat → Option Int) (v : Nat) : Option Int := val (ls.getD v []) g ((ls.getD v []).length - 1)
theorem put_run (ls : List (List (Int × Int))) (g : Nat → Option Int) (hg : ∀ i, i < 4 → goodB (ls.getD i []) = true) : ∀ (l : List (Int × Int)) (st : List (Option Int)), (∀ x ∈ l, x.1 = 2 → 0 ≤ x.2 ∧ x.2 < 4) → runS g ((l.map (sub ls)).flatten) st = runS (putG ls g) l st
  | [], _, _ => rfl
  | x :: l, st, h => by
    rw [List.map_cons, List.flatten_cons, runS_append]
    show _ = runS (putG ls g) l (pushS (putG ls g) st x)
    have e : runS g (sub ls x) st = pushS (putG ls g) st x := by
      unfold sub
      by_cases hx : x.1 = 2
      · rw [if_pos hx, good_run (hg x.2.toNat (by have := h x (by simp) hx; omega)) g st]
        unfold pushS opO putG
        rw [hx]
        rfl
      · rw [if_neg hx]
        show pushS g st x = _
        unfold pushS
        rw [opO_congr x _ (fun h2 => absurd h2 hx)]
    rw [e]
    exact put_run ls g hg l _ (fun y hy => h y (by simp [hy]))
theorem putLs_flat (l : List (Int × Int)) (ls : List (List (Int × Int))) : putLs l ls = (l.map (sub ls)).flatten := by
  unfold putLs cat
  rw [List.take_of_length_le (by rw [List.length_map]; exact Nat.le_refl _)]
theorem good_vars {l : List (Int × Int)} (hg : goodB l = true) : ∀ x ∈ l, x.1 = 2 → 0 ≤ x.2 ∧ x.2 < 4 := by
  intro x hx h2
  obtain ⟨h, _, _⟩ := good_pile hg
  obtain ⟨i, hi, rfl⟩ := List.getElem_of_mem hx
  obtain ⟨q1, _⟩ := cnt_step h i hi
  have e : l.getD i (0, 0) = l[i] := by rw [List.getD_eq_getElem?_getD, List.getElem?_eq_getElem hi]; rfl
  rw [e] at q1
  exact (fits_iff _ _ _ _ q1).2.2.1 h2
/-- What a term with terms put for its variables comes to. -/
theorem put_val {l : List (Int × Int)} {ls : List (List (Int × Int))} (hl : goodB l = true) (hg : ∀ i, i < 4 → goodB (ls.getD i []) = true) (hp : goodB (putLs l ls) = true) (g : Nat → Option Int) :
    val (putLs l ls) g ((putLs l ls).length - 1) = val l (putG ls g) (l.length - 1) := by
  have a := good_run hp g []
  have b := good_run hl (putG ls g) []
  have e : runS g (putLs l ls) [] = runS (putG ls g) l [] := by
    rw [putLs_flat]
    exact put_run ls g hg l [] (good_vars hl)
  rw [e, b] at a
  exact (List.cons.inj a).1.symm
theorem val_congr {l : List (Int × Int)} (hl : goodB l = true) {g g' : Nat → Option Int} (h : ∀ i, i < 4 → g i = g' i) : val l g (l.length - 1) = val l g' (l.length - 1) := by
  have a := good_run hl g []
  have b := good_run hl g' []
  have e : runS g l [] = runS g' l [] := runS_congr l [] (fun x hx h2 => h _ (by have := good_vars hl x hx h2; omega))
  rw [e, b] at a
  exact (List.cons.inj a).1.symm

theorem seqV_none : ∀ vs : List (Option Int), none ∈ vs → seqV vs = none
  | [], h => by cases h
  | none :: _, _ => rfl
  | some v :: vs, h => by
    have h' : none ∈ vs := by
      rcases List.mem_cons.1 h with h | h
      · cases h
      · exact h
    simp only [seqV, seqV_none vs h']
/-- Where a variable that is surely reckoned traps all traps. -/
theorem sure_none {l : List (Int × Int)} (g : Nat → Option Int) (v : Nat) (hv : g v = none) : ∀ f k, (v : Int) ∈ sureF l f k → evalG l g f k = none
  | 0, _, h => rfl
  | f + 1, k, h => by
    unfold sureF at h
    unfold evalG
    by_cases h2 : (l.getD k (0, 0)).1 = 2
    · rw [if_pos h2] at h
      have e := List.mem_singleton.1 h
      unfold opO
      rw [if_neg (by omega), if_pos h2, ← e, Int.toNat_natCast, hv]
    · rw [if_neg h2] at h
      have hin : inL (foldP (sureF l f) ((roots l (ar (l.getD k (0, 0)).1).toNat k).take (if (l.getD k (0, 0)).1 = 11 then 1 else (ar (l.getD k (0, 0)).1).toNat)) []) v = true := decide_eq_true h
      rw [inL_foldP] at hin
      simp only [show inL [] v = false from rfl, Bool.false_or, List.any_eq_true] at hin
      obtain ⟨r, hr, hrv⟩ := hin
      have hnone := sure_none g v hv f r (of_decide_eq_true hrv)
      by_cases h1 : (l.getD k (0, 0)).1 = 1
      · rw [h1] at hr
        rw [show (ar 1).toNat = 0 from rfl] at hr
        simp [roots] at hr
      unfold opO
      rw [if_neg h1, if_neg h2]
      by_cases h11 : (l.getD k (0, 0)).1 = 11
      · rw [if_pos h11] at hr ⊢
        rw [h11, show (ar 11).toNat = 3 from rfl] at hr ⊢
        have hl := roots_len l 3 k
        generalize roots l 3 k = R at hr hl
        match R, hl with
        | r0 :: R', _ =>
          simp only [List.take_succ_cons, List.take_zero, List.mem_singleton] at hr
          subst hr
          simp [hnone, ifO]
      · rw [if_neg h11] at hr ⊢
        have hm : r ∈ roots l (ar (l.getD k (0, 0)).1).toNat k := List.mem_of_mem_take hr
        rw [seqV_none _ (by rw [← hnone]; exact List.mem_map_of_mem hm)]
        rfl
end Go.Proofs.YtlpefaaohcgboaaDoor
