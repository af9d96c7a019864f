/-
  PROVED HERE: plain facts: what ReadTerm tells, case by case. No condition.
-/
import Derived.Test.YtfadclakedfjkaaDoorReadBack
namespace Go.Proofs.YtfadclakedfjkaaDoor
open Classical
set_option linter.unusedVariables false
theorem read_big {s : List UInt8} (h : 1200 < s.length) : readOk s = false ∧ readAt s = 0 ∧ readL s = [] := by
  have h1 : readOk s = false := by unfold readOk; exact decide_eq_false (by omega)
  refine ⟨h1, ?_, ?_⟩
  · unfold readAt; rw [if_neg (by omega)]
  · unfold readL; rw [h1]; rfl
theorem read_fail {s : List UInt8} (h : s.length ≤ 1200) (hf : ¬ ((rdR s).1 = true ∧ (rdR s).2.1 = s.length)) : readOk s = false ∧ readAt s = (rdR s).2.1 ∧ readL s = [] := by
  have h1 : readOk s = false := by unfold readOk; exact decide_eq_false (fun x => hf ⟨x.2.1, x.2.2.1⟩)
  refine ⟨h1, ?_, ?_⟩
  · unfold readAt; rw [if_pos h, if_neg hf]
  · unfold readL; rw [h1]; rfl
theorem read_many {s : List UInt8} (h : s.length ≤ 1200) (hf : (rdR s).1 = true ∧ (rdR s).2.1 = s.length) (hm : 40 < (rdR s).2.2.length) : readOk s = false ∧ readAt s = 0 ∧ readL s = [] := by
  have h1 : readOk s = false := by unfold readOk; exact decide_eq_false (fun x => by have := x.2.2.2; omega)
  refine ⟨h1, ?_, ?_⟩
  · unfold readAt; rw [if_pos h, if_pos hf, if_neg (by omega)]
  · unfold readL; rw [h1]; rfl
theorem read_good {s : List UInt8} (h : s.length ≤ 1200) (hf : (rdR s).1 = true ∧ (rdR s).2.1 = s.length) (hm : (rdR s).2.2.length ≤ 40) : readOk s = true ∧ readAt s = s.length ∧ readL s = (rdR s).2.2 := by
  have h1 : readOk s = true := by unfold readOk; exact decide_eq_true ⟨h, hf.1, hf.2, hm⟩
  refine ⟨h1, ?_, ?_⟩
  · unfold readAt; rw [if_pos h, if_pos hf, if_pos hm]
  · unfold readL; rw [if_pos h1]
end Go.Proofs.YtfadclakedfjkaaDoor
