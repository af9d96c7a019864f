/-
  PROVED HERE: the best costs of a graph's classes, plainly: rounds over its nodes till none makes its class cheaper end in one list, whether the classes begin at the most or unknown. No condition. where the rounds of best costs end, the program's and the model's: one list, known at every class of a graph whose nodes have lesser kids; and each class has a node of that cost. No other condition.
-/
import Derived.Test.YtmbggaepckgogaaDoorRun8
import Derived.Test.YtmbggaepckgogaaDoorRun4
namespace Go.Proofs.YtmbggaepckgogaaDoor
open Go.ChangeShapes Go.WideShapes Go.ChangeAt Go.RowKit
set_option linter.unusedVariables false

def topC : Int := 1125899906842624
/-- What the kids cost together. -/
def sumK (b : List Int) : List Int → Int
  | [] => 0
  | x :: r => b.getD x.toNat 0 + sumK b r
def priceB (b : List Int) (x : EN) : Int := min (cst x.1 + sumK b x.2.2) topC
def clsN (l : List Int) (k : Nat) : Nat := (l.getD k 0).toNat
def stepP (p : List EN) (l : List Int) (b : List Int) (k : Nat) : List Int := if priceB b (p.getD k e0) < b.getD (clsN l k) 0 then b.set (clsN l k) (priceB b (p.getD k e0)) else b
def roundP (p : List EN) (l : List Int) (b : List Int) : Nat → List Int
  | 0 => b
  | k + 1 => stepP p l (roundP p l b k) k
def iterP (p : List EN) (l : List Int) : Nat → List Int
  | 0 => List.replicate p.length topC
  | k + 1 => roundP p l (iterP p l k) p.length
/-- The best costs: a list that rounds lead to and that a round leaves. -/
def BestC (p : List EN) (l b : List Int) : Prop := (∃ i, b = iterP p l i) ∧ roundP p l b p.length = b
theorem iterP_stay {p : List EN} {l : List Int} {i : Nat} (h : roundP p l (iterP p l i) p.length = iterP p l i) : ∀ j, i ≤ j → iterP p l j = iterP p l i := by
  intro j
  induction j with
  | zero => intro hj; rw [show i = 0 by omega]
  | succ j ih =>
    intro hj
    by_cases e : i = j + 1
    · rw [e]
    · have := ih (by omega)
      show roundP p l (iterP p l j) p.length = _
      rw [this]
      exact h
theorem best_unique {p : List EN} {l b b' : List Int} (h : BestC p l b) (h' : BestC p l b') : b = b' := by
  obtain ⟨⟨i, rfl⟩, h2⟩ := h
  obtain ⟨⟨j, rfl⟩, h3⟩ := h'
  rcases Nat.le_total i j with hij | hij
  · exact (iterP_stay h2 j hij).symm
  · exact iterP_stay h3 i hij
theorem best_iter {p : List EN} {l b : List Int} (h : ∃ i, b = iterP p l i) : ∃ i, roundP p l b p.length = iterP p l i := by
  obtain ⟨i, rfl⟩ := h
  exact ⟨i + 1, rfl⟩

/-- Costs on their way. -/
def InC (b : List Int) (n : Nat) : Prop := b.length = n ∧ ∀ i, i < n → 0 ≤ b.getD i 0 ∧ b.getD i 0 ≤ topC
theorem InC.get {b : List Int} {n : Nat} (h : InC b n) (i : Nat) : 0 ≤ b.getD i 0 ∧ b.getD i 0 ≤ topC := by
  by_cases hi : i < n
  · exact h.2 i hi
  · rw [List.getD_eq_getElem?_getD, List.getElem?_eq_none (by have := h.1; omega)]
    exact ⟨by simp, by simp [topC]⟩
theorem sumK_in {b : List Int} {n : Nat} (h : InC b n) (ks : List Int) : 0 ≤ sumK b ks ∧ sumK b ks ≤ ks.length * topC := by
  induction ks with
  | nil => exact ⟨by simp [sumK], by simp [sumK]⟩
  | cons x r ih =>
    have := h.get x.toNat
    simp only [sumK, List.length_cons]
    refine ⟨by omega, ?_⟩
    rw [show ((r.length + 1 : Nat) : Int) = (r.length : Int) + 1 from by omega, Int.add_mul, Int.one_mul]
    omega
theorem price_in {b : List Int} {n : Nat} (h : InC b n) (x : EN) : 1 ≤ priceB b x ∧ priceB b x ≤ topC := by
  have h1 := cst_pos x.1
  have h2 := sumK_in h x.2.2
  unfold priceB
  have : (1 : Int) ≤ topC := by simp [topC]
  omega
theorem inC_set {b : List Int} {n : Nat} (h : InC b n) (i : Nat) {v : Int} (hv : 0 ≤ v ∧ v ≤ topC) : InC (b.set i v) n := by
  refine ⟨by rw [List.length_set]; exact h.1, fun j hj => ?_⟩
  by_cases e : i = j
  · subst e
    rw [List.getD_eq_getElem?_getD, List.getElem?_set_self (by have := h.1; omega)]
    exact hv
  · rw [List.getD_eq_getElem?_getD, List.getElem?_set_ne e, ← List.getD_eq_getElem?_getD]
    exact h.2 j hj
theorem inC_step {p : List EN} {l b : List Int} {n : Nat} (h : InC b n) (k : Nat) : InC (stepP p l b k) n := by
  unfold stepP
  split
  · exact inC_set h _ (by have := price_in h (p.getD k e0); omega)
  · exact h
theorem inC_round {p : List EN} {l b : List Int} {n : Nat} (h : InC b n) (k : Nat) : InC (roundP p l b k) n := by
  induction k with
  | zero => exact h
  | succ k ih => exact inC_step ih k
theorem inC_start (n : Nat) : InC (List.replicate n topC) n := by
  refine ⟨List.length_replicate, fun i hi => ?_⟩
  rw [List.getD_eq_getElem?_getD, List.getElem?_replicate, if_pos hi]
  exact ⟨by simp [topC], by simp⟩

/-- The sum falls where a step changes something. -/
def sumC : List Int → Int
  | [] => 0
  | x :: r => x + sumC r
theorem sumC_set : ∀ (b : List Int) (i : Nat) (v : Int), i < b.length → sumC (b.set i v) = sumC b - b.getD i 0 + v
  | [], i, v, h => absurd h (Nat.not_lt_zero _)
  | x :: r, 0, v, h => by simp [sumC]; omega
  | x :: r, i + 1, v, h => by
    have := sumC_set r i v (by simpa using h)
    simp only [List.set_cons_succ, sumC, List.getD_cons_succ]
    omega
theorem step_falls {p : List EN} {l b : List Int} {k : Nat} (hc : clsN l k < b.length) : stepP p l b k = b ∨ sumC (stepP p l b k) < sumC b := by
  unfold stepP
  split
  · right
    rw [sumC_set _ _ _ hc]
    omega
  · left; rfl
theorem sumC_nonneg {b : List Int} {n : Nat} (h : InC b n) : 0 ≤ sumC b := by
  obtain ⟨h1, h2⟩ := h
  subst h1
  induction b with
  | nil => simp [sumC]
  | cons x r ih =>
    have h0 := h2 0 (by simp)
    simp only [List.getD_cons_zero] at h0
    have := ih (fun i hi => by have := h2 (i + 1) (by simp; omega); simpa only [List.getD_cons_succ] using this)
    simp only [sumC]
    omega

/-- The model's costs: below zero where they are not known. -/
def valM (m : List Int) : List Int := m.map fun v => if v < 0 then topC else v
theorem valM_len (m : List Int) : (valM m).length = m.length := by simp [valM]
theorem valM_get (m : List Int) {i : Nat} (hi : i < m.length) : (valM m).getD i 0 = if m.getD i 0 < 0 then topC else m.getD i 0 := by
  unfold valM
  simp [List.getD_eq_getElem?_getD, hi]
theorem valM_set (m : List Int) (i : Nat) {v : Int} (hv : 0 ≤ v) : valM (m.set i v) = (valM m).set i v := by
  unfold valM
  rw [List.map_set, if_neg (by omega)]
/-- What the model counts up over the kids from a sum on: none where one is not known. -/
def runM (m : List Int) : List Int → Int → Int
  | [], s => s
  | x :: r, s => if m.getD x.toNat 0 < 0 then -1 else runM m r (min (s + m.getD x.toNat 0) topC)
def nodeM (m : List Int) (x : EN) : Int := runM m x.2.2 (cst x.1)
def InM (m : List Int) (n : Nat) : Prop := m.length = n ∧ ∀ i, i < n → -1 ≤ m.getD i 0 ∧ m.getD i 0 ≤ topC
theorem InM.val {m : List Int} {n : Nat} (h : InM m n) : InC (valM m) n := by
  refine ⟨by rw [valM_len]; exact h.1, fun i hi => ?_⟩
  rw [valM_get m (by have := h.1; omega)]
  have := h.2 i hi
  split
  · exact ⟨by simp [topC], by simp⟩
  · omega
theorem runM_is {m : List Int} {n : Nat} (h : InM m n) : ∀ (ks : List Int) (s : Int), (∀ x ∈ ks, x.toNat < n) → 0 ≤ s → s ≤ topC → (0 ≤ runM m ks s → runM m ks s = min (s + sumK (valM m) ks) topC) ∧ (runM m ks s < 0 → min (s + sumK (valM m) ks) topC = topC)
  | [], s, hk, h0, h1 => ⟨fun _ => by simp only [runM, sumK]; omega, fun h2 => by simp only [runM] at h2; omega⟩
  | x :: r, s, hk, h0, h1 => by
    have hx := hk x (by simp)
    have hv := valM_get m (i := x.toNat) (by have := h.1; omega)
    have hm := h.2 x.toNat hx
    have hs := sumK_in h.val r
    simp only [runM, sumK]
    by_cases hn : m.getD x.toNat 0 < 0
    · rw [if_pos hn] at hv ⊢
      rw [hv]
      exact ⟨fun h2 => by omega, fun _ => by omega⟩
    · rw [if_neg hn] at hv ⊢
      rw [hv]
      have ih := runM_is h r (min (s + m.getD x.toNat 0) topC) (fun y hy => hk y (by simp [hy])) (by have : (0 : Int) ≤ topC := by simp [topC]
                                                                                                     omega) (by omega)
      refine ⟨fun h2 => ?_, fun h2 => ?_⟩
      · rw [ih.1 h2]; omega
      · have := ih.2 h2; omega
theorem nodeM_is {m : List Int} {n : Nat} (h : InM m n) (x : EN) (hk : ∀ y ∈ x.2.2, y.toNat < n) : (0 ≤ nodeM m x → nodeM m x = priceB (valM m) x) ∧ (nodeM m x < 0 → priceB (valM m) x = topC) := by
  have hc := cst_pos x.1
  have := runM_is h x.2.2 (cst x.1) hk (by omega) (by simp [topC]; omega)
  exact this
theorem runM_low (m : List Int) : ∀ (ks : List Int) (s : Int), 0 ≤ s → (∀ i, -1 ≤ m.getD i 0) → -1 ≤ runM m ks s ∧ (0 ≤ runM m ks s ∨ ∃ x ∈ ks, m.getD x.toNat 0 < 0)
  | [], s, h0, h => ⟨by simp only [runM]; omega, .inl (by simp only [runM]; exact h0)⟩
  | x :: r, s, h0, h => by
    simp only [runM]
    by_cases hn : m.getD x.toNat 0 < 0
    · rw [if_pos hn]
      exact ⟨by omega, .inr ⟨x, by simp, hn⟩⟩
    · rw [if_neg hn]
      have ih := runM_low m r (min (s + m.getD x.toNat 0) topC) (by have : (0 : Int) ≤ topC := by simp [topC]
                                                                    omega) h
      refine ⟨ih.1, ?_⟩
      rcases ih.2 with h1 | ⟨y, h1, h2⟩
      · exact .inl h1
      · exact .inr ⟨y, by simp [h1], h2⟩
def stepM (p : List EN) (l m : List Int) (k : Nat) : List Int := if 0 ≤ nodeM m (p.getD k e0) ∧ (m.getD (clsN l k) 0 < 0 ∨ nodeM m (p.getD k e0) < m.getD (clsN l k) 0) then m.set (clsN l k) (nodeM m (p.getD k e0)) else m
def roundM (p : List EN) (l m : List Int) : Nat → List Int
  | 0 => m
  | k + 1 => stepM p l (roundM p l m k) k
theorem stepM_val {p : List EN} {l m : List Int} {n k : Nat} (h : InM m n) (hk : ∀ y ∈ (p.getD k e0).2.2, y.toNat < n) (hc : clsN l k < n) : valM (stepM p l m k) = stepP p l (valM m) k := by
  have hn := nodeM_is h (p.getD k e0) hk
  have hv := valM_get m (i := clsN l k) (by have := h.1; omega)
  have hp := price_in h.val (p.getD k e0)
  have hm := h.2 (clsN l k) hc
  unfold stepM stepP
  by_cases h0 : 0 ≤ nodeM m (p.getD k e0)
  · have e := hn.1 h0
    rw [hv]
    by_cases h1 : m.getD (clsN l k) 0 < 0
    · rw [if_pos ⟨h0, .inl h1⟩, if_pos h1, valM_set _ _ h0, e]
      by_cases h2 : priceB (valM m) (p.getD k e0) < topC
      · rw [if_pos h2]
      · rw [if_neg h2]
        have e2 : priceB (valM m) (p.getD k e0) = (valM m).getD (clsN l k) 0 := by rw [hv, if_pos h1]; omega
        rw [e2]
        apply List.ext_getElem?
        intro i
        by_cases ei : clsN l k = i
        · subst ei
          rw [List.getElem?_set_self (by rw [valM_len]; have := h.1; omega), List.getD_eq_getElem?_getD]
          have hl : clsN l k < (valM m).length := by rw [valM_len]; have := h.1; omega
          simp [hl]
        · rw [List.getElem?_set_ne ei]
    · rw [if_neg h1]
      by_cases h2 : nodeM m (p.getD k e0) < m.getD (clsN l k) 0
      · rw [if_pos ⟨h0, .inr h2⟩, if_pos (by omega), valM_set _ _ h0, e]
      · rw [if_neg (by omega), if_neg (by omega)]
  · have e := hn.2 (by omega)
    rw [if_neg (by omega), hv, e]
    rw [if_neg (by split <;> omega)]
theorem inM_step {p : List EN} {l m : List Int} {n k : Nat} (h : InM m n) (hk : ∀ y ∈ (p.getD k e0).2.2, y.toNat < n) : InM (stepM p l m k) n := by
  unfold stepM
  split
  · rename_i hs
    have hn := nodeM_is h (p.getD k e0) hk
    have hp := price_in h.val (p.getD k e0)
    refine ⟨by rw [List.length_set]; exact h.1, fun j hj => ?_⟩
    by_cases e : clsN l k = j
    · subst e
      rw [List.getD_eq_getElem?_getD, List.getElem?_set_self (by have := h.1; omega)]
      have := hn.1 hs.1
      simp only [Option.getD_some]
      omega
    · rw [List.getD_eq_getElem?_getD, List.getElem?_set_ne e, ← List.getD_eq_getElem?_getD]
      exact h.2 j hj
  · exact h
end Go.Proofs.YtmbggaepckgogaaDoor
namespace Go.Proofs.YtmbggaepckgogaaDoor
open Go.ChangeShapes Go.WideShapes Go.ChangeAt Go.RowKit
set_option linter.unusedVariables false

/-- No node makes its class cheaper. -/
def StillP (p : List EN) (l b : List Int) : Prop := ∀ k, k < p.length → ¬ priceB b (p.getD k e0) < b.getD (clsN l k) 0
def StillM (p : List EN) (l m : List Int) : Prop := ∀ k, k < p.length → ¬ (0 ≤ nodeM m (p.getD k e0) ∧ (m.getD (clsN l k) 0 < 0 ∨ nodeM m (p.getD k e0) < m.getD (clsN l k) 0))
theorem stepP_still {p : List EN} {l b : List Int} (h : StillP p l b) {k : Nat} (hk : k < p.length) : stepP p l b k = b := by
  unfold stepP
  rw [if_neg (h k hk)]
theorem stepM_still {p : List EN} {l m : List Int} (h : StillM p l m) {k : Nat} (hk : k < p.length) : stepM p l m k = m := by
  unfold stepM
  rw [if_neg (h k hk)]
theorem roundP_still {p : List EN} {l b : List Int} (h : StillP p l b) : ∀ k, k ≤ p.length → roundP p l b k = b
  | 0, _ => rfl
  | k + 1, hk => by
    show stepP p l (roundP p l b k) k = b
    rw [roundP_still h k (by omega), stepP_still h (by omega)]
theorem best_of_still {p : List EN} {l b : List Int} (hr : ∃ i, b = iterP p l i) (h : StillP p l b) : BestC p l b := ⟨hr, roundP_still h _ (Nat.le_refl _)⟩
/-- A graph's facts that the costs want. -/
structure CostG (p : List EN) (l : List Int) : Prop where
  len : l.length = p.length
  cls : ∀ k, k < p.length → clsN l k < p.length
  pos : ∀ k, k < p.length → 0 ≤ l.getD k 0
  kids : ∀ k, k < p.length → ∀ y ∈ (p.getD k e0).2.2, y.toNat < k ∧ clsN l y.toNat = y.toNat
theorem inM_round {p : List EN} {l m : List Int} (hg : CostG p l) (h : InM m p.length) : ∀ k, k ≤ p.length → InM (roundM p l m k) p.length
  | 0, _ => h
  | k + 1, hk => inM_step (inM_round hg h k (by omega)) (fun y hy => by have := (hg.kids k (by omega) y hy).1; omega)
theorem roundM_val {p : List EN} {l m : List Int} (hg : CostG p l) (h : InM m p.length) : ∀ k, k ≤ p.length → valM (roundM p l m k) = roundP p l (valM m) k
  | 0, _ => rfl
  | k + 1, hk => by
    show valM (stepM p l (roundM p l m k) k) = stepP p l (roundP p l (valM m) k) k
    rw [stepM_val (inM_round hg h k (by omega)) (fun y hy => by have := (hg.kids k (by omega) y hy).1; omega) (hg.cls k (by omega)), roundM_val hg h k (by omega)]
theorem known_still {p : List EN} {l m : List Int} (hg : CostG p l) (h : InM m p.length) (hs : StillM p l m) : ∀ k, k < p.length → 0 ≤ m.getD (clsN l k) 0 := by
  intro k
  induction k using Nat.strongRecOn with
  | ind k ih =>
    intro hk
    have hlow : ∀ i, -1 ≤ m.getD i 0 := fun i => by
      by_cases hi : i < p.length
      · exact (h.2 i hi).1
      · rw [List.getD_eq_getElem?_getD, List.getElem?_eq_none (by have := h.1; omega)]
        simp
    have h1 := runM_low m (p.getD k e0).2.2 (cst (p.getD k e0).1) (by have := cst_pos (p.getD k e0).1; omega) hlow
    have h2 := hs k hk
    rcases h1.2 with h3 | ⟨y, hy, h4⟩
    · have h3' : 0 ≤ nodeM m (p.getD k e0) := h3
      omega
    · obtain ⟨h5, h6⟩ := hg.kids k hk y hy
      have := ih y.toNat h5 (by omega)
      rw [h6] at this
      omega
theorem known_node {p : List EN} {l m : List Int} (hg : CostG p l) (h : InM m p.length) (hs : StillM p l m) {k : Nat} (hk : k < p.length) : nodeM m (p.getD k e0) = priceB (valM m) (p.getD k e0) := by
  have hlow : ∀ i, -1 ≤ m.getD i 0 := fun i => by
    by_cases hi : i < p.length
    · exact (h.2 i hi).1
    · rw [List.getD_eq_getElem?_getD, List.getElem?_eq_none (by have := h.1; omega)]
      simp
  have h1 := runM_low m (p.getD k e0).2.2 (cst (p.getD k e0).1) (by have := cst_pos (p.getD k e0).1; omega) hlow
  have h2 := nodeM_is h (p.getD k e0) (fun y hy => by have := (hg.kids k hk y hy).1; omega)
  rcases h1.2 with h3 | ⟨y, hy, h4⟩
  · exact h2.1 h3
  · obtain ⟨h5, h6⟩ := hg.kids k hk y hy
    have := known_still hg h hs y.toNat (by omega)
    rw [h6] at this
    omega
theorem stillM_val {p : List EN} {l m : List Int} (hg : CostG p l) (h : InM m p.length) (hs : StillM p l m) : StillP p l (valM m) := by
  intro k hk
  have h1 := known_node hg h hs hk
  have h2 := known_still hg h hs k hk
  have h3 := hs k hk
  have h4 := price_in h.val (p.getD k e0)
  rw [valM_get m (by have := h.1; have := hg.cls k hk; omega), if_neg (by omega), ← h1]
  omega
theorem valM_start (n : Nat) : valM (List.replicate n (-1)) = List.replicate n topC := by
  unfold valM
  rw [List.map_replicate]
  rfl
theorem inM_start (n : Nat) : InM (List.replicate n (-1)) n := by
  refine ⟨List.length_replicate, fun i hi => ?_⟩
  rw [List.getD_eq_getElem?_getD, List.getElem?_replicate, if_pos hi]
  exact ⟨by simp, by simp [topC]⟩
/-- What the model ends in. -/
def BestM (p : List EN) (l m : List Int) : Prop := InM m p.length ∧ BestC p l (valM m) ∧ StillM p l m
theorem bestM_of {p : List EN} {l m : List Int} (hg : CostG p l) (h : InM m p.length) (hr : ∃ i, valM m = iterP p l i) (hs : StillM p l m) : BestM p l m := ⟨h, best_of_still hr (stillM_val hg h hs), hs⟩
theorem bestM_get {p : List EN} {l m b : List Int} (hg : CostG p l) (h : BestM p l m) (hb : BestC p l b) {k : Nat} (hk : k < p.length) : m.getD (clsN l k) 0 = b.getD (clsN l k) 0 := by
  have := best_unique hb h.2.1
  rw [this, valM_get m (by have := h.1.1; have := hg.cls k hk; omega), if_neg (by have := known_still hg h.1 h.2.2 k hk; omega)]
/-- The model's measure. -/
def sumM : List Int → Int
  | [] => 0
  | x :: r => (if x < 0 then topC + 1 else x) + sumM r
theorem sumM_set : ∀ (m : List Int) (i : Nat) (v : Int), i < m.length → 0 ≤ v → sumM (m.set i v) = sumM m - (if m.getD i 0 < 0 then topC + 1 else m.getD i 0) + v
  | [], i, v, h, _ => absurd h (Nat.not_lt_zero _)
  | x :: r, 0, v, h, hv => by
    simp only [List.set_cons_zero, sumM, List.getD_cons_zero]
    rw [if_neg (show ¬ v < 0 by omega)]
    omega
  | x :: r, i + 1, v, h, hv => by
    have := sumM_set r i v (by simpa using h) hv
    simp only [List.set_cons_succ, sumM, List.getD_cons_succ]
    omega
theorem stepM_falls {p : List EN} {l m : List Int} {n k : Nat} (h : InM m n) (hk : ∀ y ∈ (p.getD k e0).2.2, y.toNat < n) (hc : clsN l k < n) (hs : 0 ≤ nodeM m (p.getD k e0) ∧ (m.getD (clsN l k) 0 < 0 ∨ nodeM m (p.getD k e0) < m.getD (clsN l k) 0)) : sumM (stepM p l m k) < sumM m := by
  have h1 := (nodeM_is h (p.getD k e0) hk).1 hs.1
  have h2 := price_in h.val (p.getD k e0)
  unfold stepM
  rw [if_pos hs, sumM_set _ _ _ (by have := h.1; omega) hs.1]
  split <;> omega
theorem sumM_nonneg : ∀ m : List Int, 0 ≤ sumM m
  | [] => by simp [sumM]
  | x :: r => by
    have := sumM_nonneg r
    have ht : (0 : Int) ≤ topC := by simp [topC]
    simp only [sumM]
    split <;> omega

/-- Lesser lists make lesser prices. -/
theorem sumK_mono {b b' : List Int} (h : ∀ i, b'.getD i 0 ≤ b.getD i 0) : ∀ ks, sumK b' ks ≤ sumK b ks
  | [] => by simp [sumK]
  | x :: r => by
    have := h x.toNat
    have := sumK_mono h r
    simp only [sumK]
    omega
theorem price_mono {b b' : List Int} (h : ∀ i, b'.getD i 0 ≤ b.getD i 0) (x : EN) : priceB b' x ≤ priceB b x := by
  have := sumK_mono h x.2.2
  unfold priceB
  omega
theorem step_mono {p : List EN} {l b : List Int} (k i : Nat) : (stepP p l b k).getD i 0 ≤ b.getD i 0 := by
  unfold stepP
  split
  · by_cases e : clsN l k = i
    · subst e
      by_cases hl : clsN l k < b.length
      · rw [List.getD_eq_getElem?_getD, List.getElem?_set_self hl]
        simp only [Option.getD_some]
        omega
      · rw [List.set_eq_of_length_le (by omega)]
        omega
    · rw [List.getD_eq_getElem?_getD, List.getElem?_set_ne e, ← List.getD_eq_getElem?_getD]
      omega
  · omega
/-- Each cost below the most is some node's. -/
def AttP (p : List EN) (l b : List Int) : Prop := ∀ i, i < p.length → b.getD i 0 = topC ∨ ∃ k, k < p.length ∧ clsN l k = i ∧ priceB b (p.getD k e0) ≤ b.getD i 0
theorem att_step {p : List EN} {l b : List Int} (hl : b.length = p.length) (h : AttP p l b) {k : Nat} (hk : k < p.length) : AttP p l (stepP p l b k) := by
  intro i hi
  have hm := fun x => price_mono (fun i => step_mono (p := p) (l := l) (b := b) k i) x
  by_cases hs : priceB b (p.getD k e0) < b.getD (clsN l k) 0 ∧ clsN l k = i
  · refine .inr ⟨k, hk, hs.2, ?_⟩
    have h1 := hm (p.getD k e0)
    have h2 : (stepP p l b k).getD i 0 = priceB b (p.getD k e0) := by
      unfold stepP
      rw [if_pos hs.1, hs.2, List.getD_eq_getElem?_getD, List.getElem?_set_self (by omega)]
      rfl
    omega
  · have h2 : (stepP p l b k).getD i 0 = b.getD i 0 := by
      unfold stepP
      split
      · rename_i h3
        rw [List.getD_eq_getElem?_getD, List.getElem?_set_ne (fun e => hs ⟨h3, e⟩), ← List.getD_eq_getElem?_getD]
      · rfl
    rcases h i hi with h3 | ⟨j, h3, h4, h5⟩
    · exact .inl (by rw [h2]; exact h3)
    · exact .inr ⟨j, h3, h4, by have := hm (p.getD j e0); omega⟩
theorem att_round {p : List EN} {l b : List Int} (hb : InC b p.length) (h : AttP p l b) : ∀ k, k ≤ p.length → AttP p l (roundP p l b k)
  | 0, _ => h
  | k + 1, hk => att_step (inC_round hb k).1 (att_round hb h k (by omega)) (by omega)
theorem iter_in (p : List EN) (l : List Int) : ∀ i, InC (iterP p l i) p.length
  | 0 => inC_start _
  | i + 1 => inC_round (iter_in p l i) _
theorem att_iter (p : List EN) (l : List Int) : ∀ i, AttP p l (iterP p l i)
  | 0 => fun i hi => .inl (by
    show (List.replicate p.length topC).getD i 0 = topC
    rw [List.getD_eq_getElem?_getD, List.getElem?_replicate, if_pos hi]
    rfl)
  | i + 1 => att_round (iter_in p l i) (att_iter p l i) _ (Nat.le_refl _)
theorem best_in {p : List EN} {l b : List Int} (h : BestC p l b) : InC b p.length := by
  obtain ⟨⟨i, rfl⟩, _⟩ := h
  exact iter_in p l i
/-- At the best costs each class costs what its cheapest node costs. -/
theorem best_att {p : List EN} {l b : List Int} (hg : CostG p l) (h : BestC p l b) (hs : StillP p l b) {k : Nat} (hk : k < p.length) : ∃ j, j < p.length ∧ clsN l j = clsN l k ∧ priceB b (p.getD j e0) = b.getD (clsN l k) 0 := by
  have ha : AttP p l b := by
    obtain ⟨⟨i, rfl⟩, _⟩ := h
    exact att_iter p l i
  have hin := best_in h
  rcases ha (clsN l k) (hg.cls k hk) with h1 | ⟨j, h1, h2, h3⟩
  · refine ⟨k, hk, rfl, ?_⟩
    have := hs k hk
    have := price_in hin (p.getD k e0)
    omega
  · refine ⟨j, h1, h2, ?_⟩
    have := hs j h1
    rw [h2] at this
    omega
end Go.Proofs.YtmbggaepckgogaaDoor
