/-
  PROVED HERE: a list of lists of nodes that came in, opened by the form's own reading, holds its lists. No condition.
-/
import Derived.Test.YtlpefaaohcgboaaDoorNodeIn
import Derived.Test.YtlpefaaohcgboaaDoorMany
namespace Go.Proofs.YtlpefaaohcgboaaDoor
open Go.ChangeShapes Go.WideShapes Go.ChangeAt Go.RowKit
set_option linter.unusedVariables false

theorem cellsNodeS : Tryd.prog.cellsOf 48 = 1 := by kernel_rfl
theorem lists_in {H : Type} {enc : TypeId × Value → H} {W : World} {base : Nat} {sp : Nat → Bool} {held : Bool} {fuel : Nat} {a : Option Addr} {len cap : Nat} {x : DataW H × List MemPlace}
    (h : DataW.trod enc Tryd.prog W base sp held fuel 53 [.slice a len cap] = some x) : ∃ ls : List (List (Int × Int)), NNSl W a len ls ∧ len ≤ cap ∧ cap ≤ maxLen := by
  rcases Go.Deep.open_slice Tryd.underlying53 h with ⟨e, _⟩ | ⟨y, len', cap', m, n, D, Pl, e, _, hl, hm, hmm, _, hx⟩
  · simp only [List.cons.injEq, Value.slice.injEq, and_true] at e
    obtain ⟨rfl, rfl, rfl⟩ := e
    exact ⟨[], ⟨rfl, .inl rfl⟩, Nat.le_refl _, Nat.zero_le _⟩
  · simp only [List.cons.injEq, Value.slice.injEq, and_true] at e
    obtain ⟨rfl, rfl, rfl⟩ := e
    have hlm : len ≤ m := by rw [hmm]; split <;> omega
    have each : ∀ i, i < len → ∃ q : List (Int × Int), ∃ ai li ci, W.cell? (y.add i) = some (.slice ai li ci) ∧ li ≤ 9223372036854775807 ∧ li ≤ ci ∧ NSl W ai li q := by
      intro i hi
      obtain ⟨cs', h1, h2⟩ := hx i (by omega)
      rw [cellsNodeS, Nat.mul_one] at h1
      obtain ⟨_, hlen, hcell⟩ := World.cells?_some h1
      match cs', hlen with
      | [v], _ =>
        have e0 := hcell 0 (by omega)
        rw [Go.Deep.add_add, Nat.add_zero] at e0
        simp only [List.getElem?_cons_zero] at e0
        have h2' := h2
        rcases Go.Deep.open_slice Tryd.underlying48 h2 with ⟨e, _⟩ | ⟨y', len', cap', m', n', D', Pl', e, _⟩
        · simp only [List.cons.injEq, and_true] at e
          rw [e] at h2' e0
          obtain ⟨q, q1, q2, q3⟩ := nodes_in h2'
          exact ⟨q, none, 0, 0, e0, by omega, Nat.le_refl _, q1⟩
        · simp only [List.cons.injEq, and_true] at e
          rw [e] at h2' e0
          obtain ⟨q, q1, q2, q3⟩ := nodes_in h2'
          exact ⟨q, _, _, _, e0, by unfold maxLen at q3; omega, q2, q1⟩
    obtain ⟨q, hq⟩ := Go.Deep.choose_lt each
    refine ⟨(List.range len).map q, ⟨by simp, ?_⟩, hl, hm⟩
    by_cases h0 : len = 0
    · exact .inl h0
    obtain ⟨b, off, spot⟩ := y
    obtain ⟨a0, l0, c0, hq0, _⟩ := hq 0 (by omega)
    have hspot : spot = none := by simpa [Addr.add] using World.cell?_spot hq0
    subst hspot
    refine .inr ⟨b, off, rfl, ?_, fun i hi => ?_⟩
    · have := World.block_lt_of_cell? W _ hq0
      simpa [Addr.add] using this
    · have e : ((List.range len).map q).getD i [] = q i := by simp [List.getD_eq_getElem?_getD, hi]
      rw [e]
      obtain ⟨ai, li, ci, h1, h2, h3, h4⟩ := hq i hi
      rw [add_at] at h1
      exact ⟨ai, li, ci, h1, h2, h3, h4⟩
end Go.Proofs.YtlpefaaohcgboaaDoor
