/-
  PROVED HERE: a list of products that came in, opened by the form's own reading, holds its products, whose numbers lie within 64 bits. No condition.
-/
import Derived.Test.YtghhmallbmdoaaaPolyCmp
import Derived.Deep.SlicePairs
namespace Go.Proofs.Ytghhmallbmdoaaa
open Go.ChangeShapes Go.WideShapes Go.ChangeAt Go.RowKit
set_option linter.unusedVariables false

/-- All numbers within 64 bits. -/
def InM (p : List Mon) : Prop := ∀ x ∈ p, InI x.2
theorem wf_inI {z : Int} (h : (Lit.int .i64 z).wf = true) : InI z := by
  simp only [Lit.wf, Bool.and_eq_true, decide_eq_true_eq] at h
  have e1 : IntKind.i64.min = -9223372036854775808 := by decide
  have e2 : IntKind.i64.max = 9223372036854775807 := by decide
  unfold InI
  omega
theorem cellsMonoL : Try.prog.cellsOf 42 = 2 := by kernel_rfl
theorem cellsIntS4 : Try.prog.cellsOf 40 = 1 := by kernel_rfl
theorem cellsInt4 : Try.prog.cellsOf 3 = 1 := by kernel_rfl
theorem cellsI64M : Try.prog.cellsOf 2 = 1 := by kernel_rfl
theorem add_at4 (b off i : Nat) : (⟨b, off, none⟩ : Addr).add i = ⟨b, off + i, none⟩ := add_to b off i
theorem ints_in {H : Type} {enc : TypeId × Value → H} {W : World} {base : Nat} {sp : Nat → Bool} {held : Bool} {fuel : Nat} {v : Value} {x : DataW H × List MemPlace}
    (h : DataW.trod enc Try.prog W base sp held fuel 40 [v] = some x) : ∃ a len cap l, v = .slice a len cap ∧ Sl W a len l ∧ len ≤ cap ∧ cap ≤ maxLen := by
  rcases open_ints Try.underlying40 Try.underlying3 cellsInt4 h with ⟨hcs, _⟩ | ⟨x, l, c, zs, hcs, _, hl, hm, hz, _, hcell, hwz⟩
  · simp only [List.cons.injEq, and_true] at hcs
    exact ⟨none, 0, 0, [], hcs, ⟨rfl, .inl rfl⟩, Nat.le_refl _, Nat.zero_le _⟩
  · simp only [List.cons.injEq, and_true] at hcs
    have hlz : l ≤ zs.length := by rw [hz]; split <;> omega
    refine ⟨some x, l, c, zs.take l, hcs, ⟨by simp; omega, ?_⟩, hl, hm⟩
    by_cases h0 : l = 0
    · exact .inl h0
    obtain ⟨b, off, spot⟩ := x
    have hspot : spot = none := by simpa [Addr.add] using World.cell?_spot (hcell 0 (by omega))
    subst hspot
    refine .inr ⟨b, off, rfl, ?_, fun i hi => ?_⟩
    · have := World.block_lt_of_cell? W _ (hcell 0 (by omega))
      simpa [Addr.add] using this
    · have h1 : (zs.take l).getD i 0 = zs.getD i 0 := by
        simp only [List.getD_eq_getElem?_getD, List.getElem?_take]
        rw [if_pos hi]
      rw [h1, ← add_at4]
      exact hcell i (by omega)
theorem monos_in {H : Type} {enc : TypeId × Value → H} {W : World} {base : Nat} {sp : Nat → Bool} {held : Bool} {fuel : Nat} {a : Option Addr} {len cap : Nat} {x : DataW H × List MemPlace}
    (h : DataW.trod enc Try.prog W base sp held fuel 22 [.slice a len cap] = some x) : ∃ p : List Mon, PSl W a len p ∧ len ≤ cap ∧ cap ≤ maxLen ∧ InM p := by
  rcases Go.Deep.open_slice_pairs Try.underlying22 Try.underlying42 cellsMonoL rfl rfl cellsIntS4 cellsI64M h with ⟨e, _⟩ | ⟨y, len', cap', m, n, V0, V1, D0, D1, P0, P1, e, _, hl, hm, hmm, _, hx⟩
  · simp only [List.cons.injEq, Value.slice.injEq, and_true] at e
    obtain ⟨rfl, rfl, rfl⟩ := e
    exact ⟨[], ⟨rfl, .inl rfl⟩, Nat.le_refl _, Nat.zero_le _, fun x hx => by cases hx⟩
  · simp only [List.cons.injEq, Value.slice.injEq, and_true] at e
    obtain ⟨rfl, rfl, rfl⟩ := e
    have hlm : len ≤ m := by rw [hmm]; split <;> omega
    have each : ∀ i, i < len → ∃ q : Mon, ∃ ai li ci, W.cell? (y.add (i * 2)) = some (.slice ai li ci) ∧ li ≤ 9223372036854775807 ∧ li ≤ ci ∧ Sl W ai li q.1 ∧ W.cell? (y.add (i * 2 + 1)) = some (.int .i64 q.2) ∧ InI q.2 := by
      intro i hi
      obtain ⟨h1, h2, h3, h4⟩ := hx i (by omega)
      obtain ⟨n1, e1, _, hwf⟩ := DataW.trod_int Try.underlying2 h4
      simp only [List.cons.injEq, and_true] at e1
      rw [e1] at h2
      obtain ⟨ai, li, ci, l, e0, s1, s2, s3⟩ := ints_in h3
      rw [e0] at h1
      exact ⟨(l, n1), ai, li, ci, h1, by unfold maxLen at s3; omega, s2, s1, h2, wf_inI hwf⟩
    obtain ⟨q, hq⟩ := Go.Deep.choose_lt each
    refine ⟨(List.range len).map q, ⟨by simp, ?_⟩, hl, hm, fun x hx => ?_⟩
    · by_cases h0 : len = 0
      · exact .inl h0
      obtain ⟨b, off, spot⟩ := y
      obtain ⟨a0, l0, c0, hq0, _⟩ := hq 0 (by omega)
      have hspot : spot = none := by simpa [Addr.add] using World.cell?_spot hq0
      subst hspot
      refine .inr ⟨b, off, rfl, ?_, fun i hi => ?_⟩
      · have := World.block_lt_of_cell? W _ hq0
        simpa [Addr.add] using this
      · have e : ((List.range len).map q).getD i ([], 0) = q i := by simp [List.getD_eq_getElem?_getD, hi]
        rw [e]
        obtain ⟨ai, li, ci, g1, g2, g3, g4, g5, _⟩ := hq i hi
        rw [add_at4] at g1 g5
        exact ⟨ai, li, ci, g1, g2, g3, g4, by rw [Nat.add_assoc]; exact g5⟩
    · obtain ⟨i, hi, rfl⟩ := List.mem_map.1 hx
      obtain ⟨_, _, _, _, _, _, _, _, g6⟩ := hq i (List.mem_range.1 hi)
      exact g6
end Go.Proofs.Ytghhmallbmdoaaa
