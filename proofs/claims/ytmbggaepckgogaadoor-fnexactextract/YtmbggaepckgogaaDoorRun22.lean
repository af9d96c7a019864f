/-
  PROVED HERE: what the model's and the program's tests of a class and of a bind answer, at every two lists of parts and classes. No other condition. the first of the cheapest nodes of a class, plainly: there is one, and it is one. No condition.
-/
import Derived.Test.YtmbggaepckgogaaDoorRun4
import Derived.Test.YtmbggaepckgogaaDoorRun17
import Derived.Test.YtmbggaepckgogaaDoorRun18
import Derived.Test.YtmbggaepckgogaaDoorRun21
namespace Go.Proofs.YtmbggaepckgogaaDoor
open Go.ChangeShapes Go.WideShapes Go.ChangeAt Go.RowKit
set_option linter.unusedVariables false

/-- A number is a class of the parts. -/
def clB (l : List Int) (k : Int) : Bool := hasB l k && (l.getD k.toNat 0 == k)
/-- Each of a bind's four is none or a class. -/
def bindB (l bs : List Int) : Bool := decide (bs.length = 4) && bs.all fun c => c == -1 || clB l c
theorem all_drop {f : Int → Bool} {bs : List Int} {k : Nat} (h : k < bs.length) : (bs.drop k).all f = (f (bs.getD k 0) && (bs.drop (k + 1)).all f) := by
  rw [List.drop_eq_getElem_cons h, List.all_cons]
  congr 2
  rw [List.getD_eq_getElem?_getD, List.getElem?_eq_getElem h]; rfl
theorem specClass_any (a b : Option Addr) (lb cap cb : Nat) (l : List Int) (k : Int) (w : World) (hl : Sl w b lb l) (hm : lb ≤ 1000000) :
    Calls Tryd.prog 34 #[.agg #[.slice a lb cap, .slice b lb cb], .int .i64 k] w fun e w' => e = .returned (.bool (clB l k)) ∧ Below w.heap.size w w' := by
  have hl1 := hl.1
  obtain ⟨W1, hW1⟩ : ∃ W1, w.alloc (.cells #[.slice a lb cap, .slice b lb cb] 31) = W1 := ⟨_, rfl⟩
  have hb1 : Below w.heap.size w W1 := by rw [← hW1]; exact (Below.refl _ _).alloc (Nat.le_refl _) _
  have n0 : W1.cell? ⟨w.heap.size, 0, none⟩ = some (.slice a lb cap) := by rw [← hW1]; simp [go_sem]
  have n1 : W1.cell? ⟨w.heap.size, 1, none⟩ = some (.slice b lb cb) := by rw [← hW1]; simp [go_sem]
  have HB := (show Hid _ from hb1)
  have HH : Hid (∀ W, Calls Tryd.prog 57 #[.int .i64 k, .int .i64 0, .int .i64 ((lb : Int) - 1)] W fun e w' => e = .returned (.bool (hasB l k)) ∧ w' = W) := fun W => specHas_any lb l hl1 k W
  unfold clB
  cases hh : hasB l k with
  | false =>
    rw [hh] at HH
    rw [Bool.false_and]
    clear hb1 hl hh
    go_enter Tryd.func34, Tryd.ntmps34
    go_wp2_with fail
    (try rw [hW1])
    refine Calls.mono (HH.out _) ?_
    rintro e w2 ⟨rfl, rfl⟩
    clear HH hW1
    go_wp2
    go_ret
    exact ⟨rfl, HB.out⟩
  | true =>
    rw [hh] at HH
    rw [Bool.true_and]
    obtain ⟨n, rfl, hn⟩ := has_iff hh
    obtain ⟨bb, bo, rfl, hbl, hc⟩ : ∃ bb bo, b = some ⟨bb, bo, none⟩ ∧ bb < W1.heap.size ∧ ∀ i, i < lb → W1.cell? ⟨bb, bo + i, none⟩ = some (.int .i64 (l.getD i 0)) := by
      rcases (hl.keep hb1).2 with h0 | h0
      · omega
      · exact h0
    have c0 := hc n (by omega)
    have i1 : (n : Int) < lb := by omega
    have i0 : (0 : Int) ≤ n := by omega
    rw [Int.toNat_natCast]
    generalize l.getD n 0 = x at c0 ⊢
    clear hb1 hl hh hc hn
    by_cases hx : x = n
    · have e1 : (x == (n : Int)) = true := by simpa using hx
      rw [e1]
      go_enter Tryd.func34, Tryd.ntmps34
      go_wp2_with fail
      (try rw [hW1])
      refine Calls.mono (HH.out _) ?_
      rintro e w2 ⟨rfl, rfl⟩
      clear HH hW1
      go_wp2
      go_ret
      exact ⟨rfl, HB.out⟩
    · have e1 : (x == (n : Int)) = false := by simpa using hx
      rw [e1]
      go_enter Tryd.func34, Tryd.ntmps34
      go_wp2_with fail
      (try rw [hW1])
      refine Calls.mono (HH.out _) ?_
      rintro e w2 ⟨rfl, rfl⟩
      clear HH hW1
      go_wp2
      go_ret
      exact ⟨rfl, HB.out⟩
theorem implClass_any (a b : Option Addr) (lb cap cb : Nat) (l : List Int) (k : Int) (w : World) (hl : Sl w b lb l) (hm : lb ≤ 1000000) :
    Calls Tryd.prog 36 #[.agg #[.slice a lb cap, .slice b lb cb], .int .i64 k] w fun e w' => e = .returned (.bool (clB l k)) ∧ Below w.heap.size w w' := by
  have hl1 := hl.1
  obtain ⟨W1, hW1⟩ : ∃ W1, w.alloc (.cells #[.slice a lb cap, .slice b lb cb] 31) = W1 := ⟨_, rfl⟩
  have hb1 : Below w.heap.size w W1 := by rw [← hW1]; exact (Below.refl _ _).alloc (Nat.le_refl _) _
  have n0 : W1.cell? ⟨w.heap.size, 0, none⟩ = some (.slice a lb cap) := by rw [← hW1]; simp [go_sem]
  have n1 : W1.cell? ⟨w.heap.size, 1, none⟩ = some (.slice b lb cb) := by rw [← hW1]; simp [go_sem]
  have HB := (show Hid _ from hb1)
  have HH : Hid (∀ W, Calls Tryd.prog 58 #[.slice b lb cb, .int .i64 k] W fun e w' => e = .returned (.bool (hasB l k)) ∧ w' = W) := fun W => implHas_any b lb cb l hl1 k W
  unfold clB
  cases hh : hasB l k with
  | false =>
    rw [hh] at HH
    rw [Bool.false_and]
    clear hb1 hl hh
    go_enter Tryd.func36, Tryd.ntmps36
    go_wp2_with fail
    (try rw [hW1])
    refine Calls.mono (HH.out _) ?_
    rintro e w2 ⟨rfl, rfl⟩
    clear HH hW1
    go_wp2
    go_ret
    exact ⟨rfl, HB.out⟩
  | true =>
    rw [hh] at HH
    rw [Bool.true_and]
    obtain ⟨n, rfl, hn⟩ := has_iff hh
    obtain ⟨bb, bo, rfl, hbl, hc⟩ : ∃ bb bo, b = some ⟨bb, bo, none⟩ ∧ bb < W1.heap.size ∧ ∀ i, i < lb → W1.cell? ⟨bb, bo + i, none⟩ = some (.int .i64 (l.getD i 0)) := by
      rcases (hl.keep hb1).2 with h0 | h0
      · omega
      · exact h0
    have c0 := hc n (by omega)
    have i1 : (n : Int) < lb := by omega
    have i0 : (0 : Int) ≤ n := by omega
    rw [Int.toNat_natCast]
    generalize l.getD n 0 = x at c0 ⊢
    clear hb1 hl hh hc hn
    by_cases hx : x = n
    · have e1 : (x == (n : Int)) = true := by simpa using hx
      rw [e1]
      go_enter Tryd.func36, Tryd.ntmps36
      go_wp2_with fail
      (try rw [hW1])
      refine Calls.mono (HH.out _) ?_
      rintro e w2 ⟨rfl, rfl⟩
      clear HH hW1
      go_wp2
      go_ret
      exact ⟨rfl, HB.out⟩
    · have e1 : (x == (n : Int)) = false := by simpa using hx
      rw [e1]
      go_enter Tryd.func36, Tryd.ntmps36
      go_wp2_with fail
      (try rw [hW1])
      refine Calls.mono (HH.out _) ?_
      rintro e w2 ⟨rfl, rfl⟩
      clear HH hW1
      go_wp2
      go_ret
      exact ⟨rfl, HB.out⟩
end Go.Proofs.YtmbggaepckgogaaDoor
namespace Go.Proofs.YtmbggaepckgogaaDoor
open Go.ChangeShapes Go.WideShapes Go.ChangeAt Go.RowKit
set_option linter.unusedVariables false

/-- The first node of a class that costs what the class costs. -/
def IsCho (p : List EN) (l B : List Int) (c j : Nat) : Prop := j < p.length ∧ l.getD j 0 = c ∧ priceB B (p.getD j e0) = B.getD c 0 ∧ ∀ i, i < j → ¬ (l.getD i 0 = c ∧ priceB B (p.getD i e0) = B.getD c 0)
theorem cho_one {p : List EN} {l B : List Int} {c j j' : Nat} (h : IsCho p l B c j) (h' : IsCho p l B c j') : j = j' := by
  rcases Nat.lt_trichotomy j j' with e | e | e
  · exact absurd ⟨h.2.1, h.2.2.1⟩ (h'.2.2.2 j e)
  · exact e
  · exact absurd ⟨h'.2.1, h'.2.2.1⟩ (h.2.2.2 j' e)
theorem cho_some (p : List EN) (l B : List Int) (c : Nat) : ∃ C : Int, ∀ j, IsCho p l B c j → C = j := by
  by_cases h : ∃ j, IsCho p l B c j
  · obtain ⟨j, hj⟩ := h
    exact ⟨j, fun j' hj' => by rw [cho_one hj hj']⟩
  · exact ⟨0, fun j hj => absurd ⟨j, hj⟩ h⟩
/-- A class's node that costs what the class costs. -/
theorem cls_att {p : List EN} {l B : List Int} (hg : CostG p l) (hb : BestC p l B) (hs : StillP p l B) {c : Nat} (hc : c < p.length) (hcl : l.getD c 0 = c) : ∃ j, j < p.length ∧ l.getD j 0 = c ∧ priceB B (p.getD j e0) = B.getD c 0 := by
  obtain ⟨j, h1, h2, h3⟩ := best_att hg hb hs hc
  have hcc : clsN l c = c := by unfold clsN; rw [hcl]; rfl
  have hp := hg.pos j h1
  refine ⟨j, h1, ?_, by rw [hcc] at h3; exact h3⟩
  rw [hcc] at h2
  unfold clsN at h2
  omega
theorem still_ge {p : List EN} {l B : List Int} (hs : StillP p l B) {c j : Nat} (hj : j < p.length) (hcl : l.getD j 0 = c) : B.getD c 0 ≤ priceB B (p.getD j e0) := by
  have := hs j hj
  have hcc : clsN l j = c := by unfold clsN; rw [hcl]; rfl
  rw [hcc] at this
  omega
/-- A class's node that costs no more than any other of the class, and less than those ahead of it. -/
theorem cho_of {p : List EN} {l B : List Int} (hg : CostG p l) (hb : BestC p l B) (hs : StillP p l B) {c : Nat} (hc : c < p.length) (hcl : l.getD c 0 = c) {j : Nat} (hj : j < p.length) (hlj : l.getD j 0 = c) (h1 : ∀ i, i < p.length → l.getD i 0 = c → priceB B (p.getD j e0) ≤ priceB B (p.getD i e0)) (h2 : ∀ i, i < j → l.getD i 0 = c → priceB B (p.getD j e0) < priceB B (p.getD i e0)) : IsCho p l B c j := by
  obtain ⟨k, k1, k2, k3⟩ := cls_att hg hb hs hc hcl
  have e1 := h1 k k1 k2
  have e2 := still_ge hs hj hlj
  refine ⟨hj, hlj, by omega, fun i hi hh => ?_⟩
  have := h2 i hi hh.1
  omega
end Go.Proofs.YtmbggaepckgogaaDoor
