/-
  PROVED HERE: plain facts: a part put back, or replaced by what comes to the same. No condition.
-/
import Derived.Test.YtlpefaaohcgboaaDoorStack
import Derived.Test.YtlpefaaohcgboaaDoorReplaceAt
import Derived.Test.YtlpefaaohcgboaaDoorPartAt
namespace Go.Proofs.YtlpefaaohcgboaaDoor
open Go.ChangeShapes Go.WideShapes Go.ChangeAt Go.RowKit
set_option linter.unusedVariables false

theorem opt_eq {o o' : Option Int} (h1 : valO o = valO o') (h2 : trapO o = trapO o') : o = o' := by
  cases o <;> cases o' <;> simp_all [valO, trapO]
theorem partL_seg {l : List (Int × Int)} {k : Int} (h : partOk l k = true) : partL l k = seg l (start l k.toNat) (k.toNat + 1) := by
  unfold partL; rw [if_pos h]; rfl
theorem partOk_iff {l : List (Int × Int)} {k : Int} (h : partOk l k = true) : goodB l = true ∧ 0 ≤ k ∧ k.toNat < l.length := by
  unfold partOk at h
  simp only [Bool.and_eq_true, decide_eq_true_eq] at h
  exact ⟨h.1, h.2.1, by omega⟩
/-- A part put back where it was. -/
theorem again_same {l : List (Int × Int)} {k : Int} (h : partOk l k = true) : replOk l k (partL l k) = true ∧ replL l k (partL l k) = l := by
  obtain ⟨hg, h0, hk⟩ := partOk_iff h
  have hp := part_good hg k.toNat hk
  have hr := replaced_same hg k.toNat hk
  have hin : replIn l k (partL l k) = true := by
    unfold replIn
    rw [hg, partL_seg h, hp, decide_eq_true ⟨h0, by omega⟩]
    rfl
  have e : replAll l k.toNat (partL l k) = l := by
    unfold replAll
    rw [partL_seg h]
    exact hr
  unfold replOk replL
  rw [if_pos hin, if_pos hin, e]
  exact ⟨hg, by unfold madeL; rw [if_pos hg]⟩
/-- What comes of a term whose part is replaced by what comes to the same. -/
theorem instead_same {l u : List (Int × Int)} {k : Int} (h : partOk l k = true) (hr : replOk l k u = true) (env : List Int) : goodB (partL l k) = true ∧ goodB u = true ∧ goodB l = true ∧ goodB (replL l k u) = true ∧ (evalT (partL l k) env = evalT u env → evalT (replL l k u) env = evalT l env) := by
  obtain ⟨hg, h0, hk⟩ := partOk_iff h
  have hp := part_good hg k.toNat hk
  have hin : replIn l k u = true := by
    unfold replOk at hr
    by_cases hi : replIn l k u = true
    · exact hi
    · rw [if_neg hi] at hr; cases hr
  have hgu : goodB u = true := by
    unfold replIn at hin
    simp only [Bool.and_eq_true] at hin
    exact hin.2
  have hga : goodB (replAll l k.toNat u) = true := by unfold replOk at hr; rwa [if_pos hin] at hr
  have eR : replL l k u = replAll l k.toNat u := by
    unfold replL madeL
    rw [if_pos hin, if_pos hga]
  have l1 := (good_pile hg).2.1
  have l2 := (good_pile hgu).2.1
  have l3 := (good_pile hga).2.1
  have l4 := (good_pile hp).2.1
  refine ⟨by rw [partL_seg h]; exact hp, hgu, hg, by rw [eR]; exact hga, fun he => ?_⟩
  rw [eR, evalT_val _ _ l3, evalT_val _ _ l1]
  rw [partL_seg h, evalT_val _ _ l4, evalT_val _ _ l2, part_val hg (envO env) k.toNat hk] at he
  exact replaced_val hg hgu k.toNat hk (envO env) hga he.symm

end Go.Proofs.YtlpefaaohcgboaaDoor
