/-
  PROVED HERE: plain facts: what the law FnPutFor asks of what terms come to. No condition.
-/
import Derived.Test.YtlpefaaohcgboaaDoorStackPut
import Derived.Test.YtlpefaaohcgboaaDoorReplacedPlain
namespace Go.Proofs.YtlpefaaohcgboaaDoor
open Go.ChangeShapes Go.WideShapes Go.ChangeAt Go.RowKit
set_option linter.unusedVariables false

/-- What the first k terms come to. -/
def vsL (ls : List (List (Int × Int))) (env : List Int) (k : Nat) : List Int := (List.range k).map fun i => valO (evalT (ls.getD i []) env)
/-- Does none of the first k trap? -/
def noneT (ls : List (List (Int × Int))) (env : List Int) : Nat → Bool
  | 0 => true
  | k + 1 => noneT ls env k && !trapO (evalT (ls.getD k []) env)
/-- Does one of the first k trap that is in s? -/
def badT (ls : List (List (Int × Int))) (env s : List Int) : Nat → Bool
  | 0 => false
  | k + 1 => badT ls env s k || (trapO (evalT (ls.getD k []) env) && decide ((k : Int) ∈ s))
theorem vsL_succ (ls : List (List (Int × Int))) (env : List Int) (k : Nat) : vsL ls env (k + 1) = vsL ls env k ++ [valO (evalT (ls.getD k []) env)] := by
  unfold vsL; rw [List.range_succ, List.map_append]; rfl
theorem vsL_len (ls : List (List (Int × Int))) (env : List Int) (k : Nat) : (vsL ls env k).length = k := by simp [vsL]
theorem noneT_all (ls : List (List (Int × Int))) (env : List Int) : ∀ k, noneT ls env k = true → ∀ i, i < k → trapO (evalT (ls.getD i []) env) = false
  | 0, _, i, hi => absurd hi (Nat.not_lt_zero _)
  | k + 1, h, i, hi => by
    unfold noneT at h
    simp only [Bool.and_eq_true, Bool.not_eq_true'] at h
    rcases Nat.lt_or_ge i k with h0 | h0
    · exact noneT_all ls env k h.1 i h0
    · rw [show i = k from by omega]; exact h.2
theorem badT_one (ls : List (List (Int × Int))) (env s : List Int) : ∀ k, badT ls env s k = true → ∃ i, i < k ∧ trapO (evalT (ls.getD i []) env) = true ∧ (i : Int) ∈ s
  | 0, h => by cases h
  | k + 1, h => by
    unfold badT at h
    simp only [Bool.or_eq_true, Bool.and_eq_true, decide_eq_true_eq] at h
    rcases h with h | h
    · obtain ⟨i, h1, h2⟩ := badT_one ls env s k h
      exact ⟨i, by omega, h2⟩
    · exact ⟨k, by omega, h⟩
theorem trap_some {o : Option Int} (h : trapO o = false) : o = some (valO o) := by
  cases o
  · cases h
  · rfl
theorem trap_none {o : Option Int} (h : trapO o = true) : o = none := by
  cases o
  · rfl
  · cases h
/-- What the law asks. -/
theorem put_same {l : List (Int × Int)} {ls : List (List (Int × Int))} (hp : putOk l ls = true) : goodB l = true ∧ (∀ i, i < 4 → goodB (ls.getD i []) = true) ∧ goodB (putR l ls) = true ∧
    ∀ env : List Int, (noneT ls env 4 = true → evalT (putR l ls) env = evalT l (vsL ls env 4)) ∧ (badT ls env (sureL l) 4 = true → trapO (evalT (putR l ls) env) = true) := by
  have hin : putIn l ls = true := by
    unfold putOk at hp
    by_cases hi : putIn l ls = true
    · exact hi
    · rw [if_neg hi] at hp; cases hp
  have hga : goodB (putLs l ls) = true := by unfold putOk at hp; rwa [if_pos hin] at hp
  have eR : putR l ls = putLs l ls := by
    unfold putR madeL
    rw [if_pos hin, if_pos hga]
  unfold putIn at hin
  simp only [Bool.and_eq_true, decide_eq_true_eq] at hin
  obtain ⟨⟨hg, h4⟩, hall⟩ := hin
  have hgs : ∀ i, i < 4 → goodB (ls.getD i []) = true := by
    unfold goodAll at hall
    have := of_decide_eq_true hall
    rwa [h4] at this
  have l1 := (good_pile hg).2.1
  have l3 := (good_pile hga).2.1
  refine ⟨hg, hgs, by rw [eR]; exact hga, fun env => ?_⟩
  have hE : ∀ i, i < 4 → evalT (ls.getD i []) env = putG ls (envO env) i := fun i hi => evalT_val _ _ (good_pile (hgs i hi)).2.1
  have hV : evalT (putR l ls) env = val l (putG ls (envO env)) (l.length - 1) := by
    rw [eR, evalT_val _ _ l3]
    exact put_val hg hgs hga (envO env)
  refine ⟨fun hn => ?_, fun hb => ?_⟩
  · rw [hV, evalT_val _ _ l1]
    refine val_congr hg fun i hi => ?_
    have ht := trap_some (noneT_all ls env 4 hn i hi)
    rw [← hE i hi, ht]
    unfold envO
    have e : (vsL ls env 4).getD i 0 = valO (evalT (ls.getD i []) env) := by simp [vsL, List.getD_eq_getElem?_getD, hi]
    rw [e]
  · obtain ⟨i, hi, h1, h2⟩ := badT_one ls env (sureL l) 4 hb
    have hnone := trap_none h1
    rw [hE i hi] at hnone
    rw [hV]
    have hs : (i : Int) ∈ sureF l l.length (l.length - 1) := by
      unfold sureL at h2
      rwa [if_pos hg] at h2
    have := sure_none (putG ls (envO env)) i hnone l.length (l.length - 1) hs
    unfold val
    rw [show l.length - 1 + 1 = l.length from by omega, this]
    rfl
end Go.Proofs.YtlpefaaohcgboaaDoor
