/-
  PROVED HERE: plain facts on where the trees of a term's nodes begin. No condition. plain facts on walks back over the trees of a term. No condition.
-/
import Derived.Test.YthkjmgjajmghmaaDoorRun1
namespace Go.Proofs.YthkjmgjajmghmaaDoor
set_option linter.unusedVariables false

/-- Iterate: m times from x. -/
def iter (f : Nat → Nat) : Nat → Nat → Nat
  | 0, x => x
  | m + 1, x => iter f m (f x)
/-- Where the tree of node k begins (with so much fuel). -/
def startF (l : List (Int × Int)) : Nat → Nat → Nat
  | 0, k => k
  | fuel + 1, k => iter (fun x => startF l fuel (x - 1)) (ar (l.getD k (0, 0)).1).toNat k
def start (l : List (Int × Int)) (k : Nat) : Nat := startF l (k + 1) k
/-- The pile behind the first k nodes. -/
def cnt (l : List (Int × Int)) (k : Nat) : Int := (pile (l.take k) 0).getD 0

theorem pile_snoc (l : List (Int × Int)) (x : Int × Int) : ∀ p, pile (l ++ [x]) p = (pile l p).bind fun q => if fits (ar x.1) q x.1 x.2 = true then some (q + (1 - ar x.1)) else none := by
  induction l with
  | nil => intro p; obtain ⟨a, b⟩ := x; simp [pile]
  | cons y r ih =>
    intro p
    obtain ⟨a, b⟩ := y
    simp only [List.cons_append, pile]
    split
    · exact ih _
    · rfl

theorem pile_take {l : List (Int × Int)} {q : Int} (h : pile l 0 = some q) : ∀ k, k ≤ l.length → ∃ p, pile (l.take k) 0 = some p := by
  have key : ∀ j k, k + j = l.length → ∃ p, pile (l.take k) 0 = some p := by
    intro j
    induction j with
    | zero => intro k hk; rw [List.take_of_length_le (by omega)]; exact ⟨q, h⟩
    | succ j ih =>
      intro k hk
      obtain ⟨p, hp⟩ := ih (k + 1) (by omega)
      rw [List.take_succ_eq_append_getElem (by omega), pile_snoc] at hp
      cases hq : pile (l.take k) 0 with
      | none => rw [hq] at hp; cases hp
      | some r => exact ⟨r, rfl⟩
  intro k hk
  exact key (l.length - k) k (by omega)

theorem fits_iff (m p op n : Int) (h : fits m p op n = true) : 0 ≤ m ∧ m ≤ p ∧ (op = 2 → 0 ≤ n ∧ n < 4) ∧ (0 < m → n = 0) := by
  simp [fits] at h
  omega

/-- What a step does to the pile. -/
theorem cnt_step {l : List (Int × Int)} {q : Int} (h : pile l 0 = some q) (k : Nat) (hk : k < l.length) :
    fits (ar (l.getD k (0, 0)).1) (cnt l k) (l.getD k (0, 0)).1 (l.getD k (0, 0)).2 = true ∧ cnt l (k + 1) = cnt l k + (1 - ar (l.getD k (0, 0)).1) := by
  obtain ⟨p, hp⟩ := pile_take h k (by omega)
  obtain ⟨p', hp'⟩ := pile_take h (k + 1) (by omega)
  have e : l.getD k (0, 0) = l[k] := by simp [List.getD_eq_getElem?_getD, List.getElem?_eq_getElem hk]
  have hq := hp'
  rw [List.take_succ_eq_append_getElem hk, pile_snoc, hp] at hq
  simp only [Option.bind_some] at hq
  rw [← e] at hq
  by_cases hf : fits (ar (l.getD k (0, 0)).1) p (l.getD k (0, 0)).1 (l.getD k (0, 0)).2 = true
  · rw [if_pos hf] at hq
    unfold cnt
    rw [hp, hp']
    simp only [Option.getD_some]
    exact ⟨hf, (Option.some.inj hq).symm⟩
  · rw [if_neg hf] at hq; cases hq
theorem cnt_zero (l : List (Int × Int)) : cnt l 0 = 0 := rfl

/-- The fuel does not matter. -/
theorem iter_congr {f g : Nat → Nat} (K : Nat) (hfg : ∀ x, x ≤ K → f x = g x) (hle : ∀ x, x ≤ K → f x ≤ K) : ∀ m x, x ≤ K → iter f m x = iter g m x
  | 0, _, _ => rfl
  | m + 1, x, hx => by
    show iter f m (f x) = iter g m (g x)
    rw [← hfg x hx]
    exact iter_congr K hfg hle m (f x) (hle x hx)

theorem main {l : List (Int × Int)} {q : Int} (h : pile l 0 = some q) : ∀ K k, k ≤ K → k < l.length → ∀ fuel, k < fuel →
    startF l fuel k ≤ k ∧ cnt l (k + 1) = cnt l (startF l fuel k) + 1 ∧ startF l fuel k = start l k := by
  intro K
  induction K with
  | zero =>
    intro k hk hl fuel hf
    obtain rfl : k = 0 := by omega
    obtain ⟨h1, h2⟩ := cnt_step h 0 hl
    obtain ⟨a1, a2, _⟩ := fits_iff _ _ _ _ h1
    rw [cnt_zero] at a2 h2
    have e0 : (ar (l.getD 0 (0, 0)).1).toNat = 0 := by omega
    have e1 : ∀ fuel, startF l (fuel + 1) 0 = 0 := fun fuel => by unfold startF; rw [e0]; rfl
    obtain ⟨f, rfl⟩ : ∃ f, fuel = f + 1 := ⟨fuel - 1, by omega⟩
    refine ⟨by rw [e1]; exact Nat.le_refl _, by rw [e1, cnt_zero]; omega, ?_⟩
    unfold start; rw [e1, e1]
  | succ K ih =>
    intro k hk hl fuel hf
    by_cases hkK : k ≤ K
    · exact ih k hkK hl fuel hf
    obtain rfl : k = K + 1 := by omega
    obtain ⟨h1, h2⟩ := cnt_step h (K + 1) hl
    obtain ⟨a1, a2, _⟩ := fits_iff _ _ _ _ h1
    obtain ⟨f, rfl⟩ : ∃ f, fuel = f + 1 := ⟨fuel - 1, by omega⟩
    -- each step of the walk back
    have step : ∀ g, K < g → ∀ (m x : Nat), x ≤ K + 1 → (m : Int) ≤ cnt l x →
        iter (fun x => startF l g (x - 1)) m x ≤ x ∧ cnt l (iter (fun x => startF l g (x - 1)) m x) = cnt l x - m := by
      intro g hg m
      induction m with
      | zero => intro x hx hm; exact ⟨Nat.le_refl _, by simp [iter]⟩
      | succ m ihm =>
        intro x hx hm
        have hx0 : 0 < x := by
          rcases Nat.eq_zero_or_pos x with h0 | h0
          · subst h0; rw [cnt_zero] at hm; omega
          · exact h0
        obtain ⟨b1, b2, _⟩ := ih (x - 1) (by omega) (by omega) g (by omega)
        rw [show x - 1 + 1 = x from by omega] at b2
        obtain ⟨c1, c2⟩ := ihm (startF l g (x - 1)) (by omega) (by omega)
        refine ⟨Nat.le_trans c1 (by omega), ?_⟩
        show cnt l (iter _ m (startF l g (x - 1))) = _
        rw [c2]; omega
    have hm : ((ar (l.getD (K + 1) (0, 0)).1).toNat : Int) = ar (l.getD (K + 1) (0, 0)).1 := by omega
    obtain ⟨s1, s2⟩ := step f (by omega) (ar (l.getD (K + 1) (0, 0)).1).toNat (K + 1) (Nat.le_refl _) (by omega)
    refine ⟨s1, ?_, ?_⟩
    · show cnt l (K + 1 + 1) = cnt l (iter _ _ (K + 1)) + 1
      rw [s2, h2]; omega
    · show iter (fun x => startF l f (x - 1)) _ (K + 1) = iter (fun x => startF l (K + 1) (x - 1)) _ (K + 1)
      -- both walk the same way
      have same : ∀ (m x : Nat), x ≤ K + 1 → (m : Int) ≤ cnt l x → iter (fun x => startF l f (x - 1)) m x = iter (fun x => startF l (K + 1) (x - 1)) m x := by
        intro m
        induction m with
        | zero => intro x _ _; rfl
        | succ m ihm =>
          intro x hx hm
          have hx0 : 0 < x := by
            rcases Nat.eq_zero_or_pos x with h0 | h0
            · subst h0; rw [cnt_zero] at hm; omega
            · exact h0
          obtain ⟨b1, b2, b3⟩ := ih (x - 1) (by omega) (by omega) f (by omega)
          obtain ⟨d1, d2, d3⟩ := ih (x - 1) (by omega) (by omega) (K + 1) (by omega)
          rw [show x - 1 + 1 = x from by omega] at b2
          show iter _ m (startF l f (x - 1)) = iter _ m (startF l (K + 1) (x - 1))
          rw [d3, ← b3]
          exact ihm _ (by omega) (by omega)
      exact same _ _ (Nat.le_refl _) (by omega)

theorem start_le {l : List (Int × Int)} {q : Int} (h : pile l 0 = some q) (k : Nat) (hk : k < l.length) : start l k ≤ k := (main h k k (Nat.le_refl _) hk (k + 1) (by omega)).1
theorem start_cnt {l : List (Int × Int)} {q : Int} (h : pile l 0 = some q) (k : Nat) (hk : k < l.length) : cnt l (k + 1) = cnt l (start l k) + 1 := (main h k k (Nat.le_refl _) hk (k + 1) (by omega)).2.1
/-- The walk back from x, m trees. -/
def back (l : List (Int × Int)) (m x : Nat) : Nat := iter (fun x => start l (x - 1)) m x
theorem back_succ (l : List (Int × Int)) (m x : Nat) : back l (m + 1) x = back l m (start l (x - 1)) := rfl
theorem back_le {l : List (Int × Int)} {q : Int} (h : pile l 0 = some q) : ∀ (m x : Nat), x ≤ l.length → (m : Int) ≤ cnt l x → back l m x ≤ x ∧ cnt l (back l m x) = cnt l x - m
  | 0, x, _, _ => ⟨Nat.le_refl _, by simp [back, iter]⟩
  | m + 1, x, hx, hm => by
    have hx0 : 0 < x := by
      rcases Nat.eq_zero_or_pos x with h0 | h0
      · subst h0; rw [cnt_zero] at hm; omega
      · exact h0
    have b1 := start_le h (x - 1) (by omega)
    have b2 := start_cnt h (x - 1) (by omega)
    rw [show x - 1 + 1 = x from by omega] at b2
    obtain ⟨c1, c2⟩ := back_le h m (start l (x - 1)) (by omega) (by omega)
    rw [back_succ]
    exact ⟨by omega, by rw [c2]; omega⟩
theorem start_eq {l : List (Int × Int)} {q : Int} (h : pile l 0 = some q) (k : Nat) (hk : k < l.length) : start l k = back l (ar (l.getD k (0, 0)).1).toNat k := by
  obtain ⟨h1, h2⟩ := cnt_step h k hk
  obtain ⟨a1, a2, _⟩ := fits_iff _ _ _ _ h1
  show iter (fun x => startF l k (x - 1)) _ k = iter (fun x => start l (x - 1)) _ k
  have same : ∀ (m x : Nat), x ≤ k → (m : Int) ≤ cnt l x → iter (fun x => startF l k (x - 1)) m x = iter (fun x => start l (x - 1)) m x := by
    intro m
    induction m with
    | zero => intro x _ _; rfl
    | succ m ihm =>
      intro x hx hm
      have hx0 : 0 < x := by
        rcases Nat.eq_zero_or_pos x with h0 | h0
        · subst h0; rw [cnt_zero] at hm; omega
        · exact h0
      obtain ⟨b1, b2, b3⟩ := main h (x - 1) (x - 1) (Nat.le_refl _) (by omega) k (by omega)
      rw [show x - 1 + 1 = x from by omega] at b2
      show iter _ m (startF l k (x - 1)) = iter _ m (start l (x - 1))
      rw [← b3]
      exact ihm _ (by omega) (by omega)
  exact same _ _ (Nat.le_refl _) (by omega)
end Go.Proofs.YthkjmgjajmghmaaDoor
namespace Go.Proofs.YthkjmgjajmghmaaDoor
set_option linter.unusedVariables false

theorem iter_add (f : Nat → Nat) : ∀ (m n x : Nat), iter f (m + n) x = iter f n (iter f m x)
  | 0, n, x => by rw [Nat.zero_add]; rfl
  | m + 1, n, x => by
    rw [show m + 1 + n = (m + n) + 1 from by omega]
    exact iter_add f m n (f x)
theorem back_add (l : List (Int × Int)) (m n x : Nat) : back l (m + n) x = back l n (back l m x) := iter_add _ m n x
theorem back_step {l : List (Int × Int)} {q : Int} (h : pile l 0 = some q) (n x : Nat) (hx : x < l.length) : back l (n + 1) (x + 1) = back l ((ar (l.getD x (0, 0)).1).toNat + n) x := by
  rw [back_succ, Nat.add_sub_cancel, back_add, ← start_eq h x hx]

theorem cnt_le {l : List (Int × Int)} {q : Int} (h : pile l 0 = some q) : ∀ x, x ≤ l.length → 0 ≤ cnt l x ∧ cnt l x ≤ x
  | 0, _ => by rw [cnt_zero]; omega
  | x + 1, hx => by
    have ih := cnt_le h x (by omega)
    obtain ⟨h1, h2⟩ := cnt_step h x (by omega)
    obtain ⟨a1, a2, _⟩ := fits_iff _ _ _ _ h1
    omega

end Go.Proofs.YthkjmgjajmghmaaDoor
