/-
  PROVED HERE: what the program's look whether alike nodes are of one class answers, at every graph of good nodes and parts whose kids are classes. No other condition.
-/
import Derived.Test.YtbmgflapagbkcaaDoorI6Kids
import Derived.Test.YtbmgflapagbkcaaDoorI6Shape
import Derived.Deep.RegionWith
namespace Go.Proofs.YtbmgflapagbkcaaDoor
open Go.ChangeShapes Go.WideShapes Go.ChangeAt Go.RowKit
open Go.MapKept Go.ChangeMaps
set_option linter.unusedVariables false

/-- Numbers within 64 bits. -/
def InE (p : List EN) : Prop := ∀ i, i < p.length → InI (p.getD i e0).2.1
theorem part_kid {l kids : List Int} (h : KidsCl l kids) {i : Nat} (hi : i < kids.length) : partOf l kids i = kids.getD i 0 := by
  unfold partOf; rw [if_pos hi]; exact kidsCl_atI h i hi
theorem sh_same {l : List Int} {x y : EN} {i j : Nat} (hx : fitE i x = true) (hy : fitE j y = true) (kx : KidsCl l x.2.2) (ky : KidsCl l y.2.2) (h : shO l x = shO l y) : x = y := by
  obtain ⟨xo, xn, xk⟩ := x
  obtain ⟨yo, yn, yk⟩ := y
  simp only [shO, Prod.mk.injEq] at h
  obtain ⟨rfl, rfl, h0, h1, h2⟩ := h
  have lx := fit_node hx
  have ly := fit_node hy
  have fx := fit_few hx
  simp only at lx ly fx kx ky
  have hl : xk.length = yk.length := by omega
  have : xk = yk := list_ext hl fun k hk => by
    have hk3 : k = 0 ∨ k = 1 ∨ k = 2 := by omega
    rcases hk3 with rfl | rfl | rfl
    · rwa [part_kid kx hk, part_kid ky (by omega)] at h0
    · rwa [part_kid kx hk, part_kid ky (by omega)] at h1
    · rwa [part_kid kx hk, part_kid ky (by omega)] at h2
  rw [this]
theorem part_in {l : List Int} (hP : partB l = true) (kids : List Int) (i : Nat) : InI (partOf l kids i) := by
  obtain ⟨h200, hp, _⟩ := (partB_iff l).1 hP
  unfold partOf InI
  split
  · generalize (kids.getD i 0).toNat = k
    by_cases hk : k < l.length
    · have := hp k hk; omega
    · rw [List.getD_eq_getElem?_getD, List.getElem?_eq_none (by omega)]; simp
  · omega
theorem sh_in {l : List Int} (hP : partB l = true) {x : EN} {i : Nat} (hx : fitE i x = true) (hn : InI x.2.1) : ShIn (shO l x) := by
  have hf := fit_node hx
  refine ⟨?_, hn, part_in hP _ _, part_in hP _ _, part_in hP _ _⟩
  show InI x.1
  unfold InI
  rcases ops x.1 with h | h
  · have := ar_out x.1 h; omega
  · omega
/-- What the map holds behind k nodes. -/
def Held (p : List EN) (l : List Int) (k : Nat) (f : Sh → Option Int) : Prop := (∀ i, i < k → f (shO l (p.getD i e0)) = some (l.getD i 0)) ∧ ∀ e v, f e = some v → ∃ i, i < k ∧ shO l (p.getD i e0) = e ∧ l.getD i 0 = v
theorem held_none {p : List EN} {l : List Int} {k : Nat} {f : Sh → Option Int} (h : Held p l k f) (e : f (shO l (p.getD k e0)) = none) : OneCl p l k ∧ Held p l (k + 1) (setS f (shO l (p.getD k e0)) (some (l.getD k 0))) := by
  have hn : ∀ i, i < k → shO l (p.getD i e0) ≠ shO l (p.getD k e0) := fun i hi he => by
    have := h.1 i hi
    rw [he, e] at this
    cases this
  refine ⟨fun i hi he => absurd (by rw [he]) (hn i hi), fun i hi => ?_, fun e' v he' => ?_⟩
  · unfold setS
    by_cases hik : i = k
    · rw [hik, if_pos rfl]
    · rw [if_neg (hn i (by omega))]; exact h.1 i (by omega)
  · unfold setS at he'
    by_cases e1 : e' = shO l (p.getD k e0)
    · rw [if_pos e1] at he'; cases he'; exact ⟨k, by omega, e1.symm, rfl⟩
    · rw [if_neg e1] at he'
      obtain ⟨i, h1, h2⟩ := h.2 e' v he'
      exact ⟨i, by omega, h2⟩
theorem held_some {p : List EN} {l : List Int} {k : Nat} {f : Sh → Option Int} (h : Held p l k f) (e : f (shO l (p.getD k e0)) = some (l.getD k 0)) : OneCl p l k ∧ Held p l (k + 1) (setS f (shO l (p.getD k e0)) (some (l.getD k 0))) := by
  have hn : ∀ i, i < k → shO l (p.getD i e0) = shO l (p.getD k e0) → l.getD i 0 = l.getD k 0 := fun i hi he => by
    have := h.1 i hi
    rw [he, e] at this
    exact (Option.some.inj this).symm
  refine ⟨fun i hi he => hn i hi (by rw [he]), fun i hi => ?_, fun e' v he' => ?_⟩
  · unfold setS
    by_cases hik : i = k
    · rw [hik, if_pos rfl]
    · by_cases e1 : shO l (p.getD i e0) = shO l (p.getD k e0)
      · rw [if_pos e1, hn i (by omega) e1]
      · rw [if_neg e1]; exact h.1 i (by omega)
  · unfold setS at he'
    by_cases e1 : e' = shO l (p.getD k e0)
    · rw [if_pos e1] at he'; cases he'; exact ⟨k, by omega, e1.symm, rfl⟩
    · rw [if_neg e1] at he'
      obtain ⟨i, h1, h2⟩ := h.2 e' v he'
      exact ⟨i, by omega, h2⟩
theorem held_bad {p : List EN} {l : List Int} {k : Nat} {f : Sh → Option Int} (hN : nodesB p = true) (hC : AllCl p l) (hk : k < p.length) (h : Held p l k f) {v : Int} (e : f (shO l (p.getD k e0)) = some v) (hv : v ≠ l.getD k 0) : ¬ AllOne p l := by
  obtain ⟨i, h1, h2, h3⟩ := h.2 _ v e
  have hf := ((nodesB_iff p).1 hN).2
  intro ha
  have := sh_same (hf i (by omega)) (hf k hk) (hC i (by omega)) (hC k hk) h2
  exact hv (by rw [← h3]; exact ha k hk i h1 this.symm)
end Go.Proofs.YtbmgflapagbkcaaDoor
