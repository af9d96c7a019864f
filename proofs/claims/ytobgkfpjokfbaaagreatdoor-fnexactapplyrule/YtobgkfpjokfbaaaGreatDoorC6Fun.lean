/-
  PROVED HERE: the least joining that is closed, as a function of lists. No condition.
-/
import Derived.Test.YtobgkfpjokfbaaaGreatDoorRun33
namespace Go.Proofs.YtobgkfpjokfbaaaGreatDoor
open Go.ChangeShapes Go.WideShapes Go.ChangeAt Go.RowKit
set_option linter.unusedVariables false

def pairsN (n : Nat) : List (Nat × Nat) := (List.range n).flatMap fun k => (List.range k).map fun i => (i, k)
theorem pairsN_mem (n i k : Nat) : (i, k) ∈ pairsN n ↔ i < k ∧ k < n := by
  unfold pairsN
  simp only [List.mem_flatMap, List.mem_range, List.mem_map, Prod.mk.injEq]
  constructor
  · rintro ⟨k', h1, i', h2, rfl, rfl⟩; exact ⟨h2, h1⟩
  · rintro ⟨h1, h2⟩; exact ⟨k, h2, i, h1, rfl, rfl⟩
def closeF (p : List EN) : Nat → List Int → List Int
  | 0, l => l
  | m + 1, l => match (pairsN p.length).find? (fun x => CongR p l x.1 x.2) with
    | some x => closeF p m (joinPL l x.1 x.2)
    | none => l
def closeL (p : List EN) (l : List Int) : List Int := closeF p (rootsN l p.length) l
theorem closeF_ok {p : List EN} {l0 : List Int} (hN : nodesB p = true) (hl0 : l0.length = p.length) : ∀ (m : Nat) (l : List Int), Toward p l0 l → rootsN l p.length ≤ m → Closure p l0 (closeF p m l) := by
  intro m
  induction m with
  | zero =>
    intro l hT hm
    refine toward_end hT (cong_all fun i j hij hj e => ?_)
    by_cases h : l.getD i 0 = l.getD j 0
    · exact h
    · have := meas_roots hT.1 (show i < p.length by omega) hj h
      omega
  | succ m ih =>
    intro l hT hm
    unfold closeF
    cases hf : (pairsN p.length).find? (fun x => CongR p l x.1 x.2) with
    | some x =>
      obtain ⟨i, k⟩ := x
      have hmem := List.mem_of_find?_eq_some hf
      have hR := List.find?_some hf
      obtain ⟨h1, h2⟩ := (pairsN_mem p.length i k).1 hmem
      simp only at hR
      unfold CongR at hR
      obtain ⟨h3, h4⟩ := of_decide_eq_true hR
      have := meas_roots hT.1 (show i < p.length by omega) h2 h3
      exact ih _ (toward_join hN hl0 hT (by omega) h2 h4) (by simp only; omega)
    | none =>
      refine toward_end hT (cong_all fun i j hij hj e => ?_)
      have := List.find?_eq_none.1 hf (i, j) ((pairsN_mem p.length i j).2 ⟨hij, hj⟩)
      simp only at this
      unfold CongR at this
      by_cases h : l.getD i 0 = l.getD j 0
      · exact h
      · exact absurd (decide_eq_true ⟨h, e⟩) this
theorem close_is {p : List EN} {l0 c : List Int} (hN : nodesB p = true) (hP0 : PartsN p.length l0) (hc : Closure p l0 c) : c = closeL p l0 :=
  closure_one hc (closeF_ok hN hP0.1 _ l0 (toward_start hP0) (Nat.le_refl _))
theorem close_parts {p : List EN} {l0 : List Int} (hN : nodesB p = true) (hP0 : PartsN p.length l0) : Closure p l0 (closeL p l0) := closeF_ok hN hP0.1 _ l0 (toward_start hP0) (Nat.le_refl _)
theorem specClose_any {p : List EN} {l0 : List Int} (hN : nodesB p = true) (hP0 : PartsN p.length l0) (a b : Option Addr) (n cap cb : Nat) (w : World) (hE : ESl w a n p) (hS : Sl w b n l0) :
    Calls Tryz.prog 74 #[.slice a n cap, .slice b n cb] w fun e w' => ∃ (v : Option Addr) (c : Nat), e = .returned (.slice v n c) ∧ Sl w' v n (closeL p l0) ∧ Below w.heap.size w w' := by
  refine (l6Closed_any hN hP0 a b n cap cb w hE hS).mono ?_
  rintro e w' ⟨v, c, L, h1, h2, h3, h4⟩
  rw [close_is hN hP0 h3] at h2
  exact ⟨v, c, h1, h2, h4⟩
end Go.Proofs.YtobgkfpjokfbaaaGreatDoor
