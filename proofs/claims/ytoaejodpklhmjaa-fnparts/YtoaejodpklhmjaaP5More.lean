/-
  PROVED HERE: plain facts on parts: what is joined, common, counted. No condition.
-/
import Derived.Test.YtoaejodpklhmjaaP5Meet
namespace Go.Proofs.Ytoaejodpklhmjaa
set_option linter.unusedVariables false

theorem has_nat {l : List Int} {k : Nat} (h : k < l.length) : hasB l (k : Int) = true := by unfold hasB; exact decide_eq_true (by omega)
/-- Of joined trees the two numbers have one root. -/
theorem union_one {l : List Int} (h : Par l) {a b : Nat} (ha : a < l.length) (hb : b < l.length) : root (unionL l a b) a = root (unionL l a b) b := by
  rw [union_root h ha hb a ha, union_root h ha hb b hb]
  split <;> split <;> omega
theorem part_flat {l : List Int} (h : Par l) (hl : l.length ≤ 200) : partB (flatL l) = true := (partB_iff _).2 ⟨by rw [flat_length]; exact hl, flat_par h, flat_flat h⟩
theorem part_join {l : List Int} (h : partB l = true) {a b : Nat} (ha : a < l.length) (hb : b < l.length) : partB (joinL l a b) = true := by
  obtain ⟨h1, h2, h3⟩ := (partB_iff l).1 h
  rw [← join_flat h2 h3 ha hb]
  exact part_flat (union_par h2 ha hb) (by rw [union_len]; exact h1)
theorem alike_symm {a b : List Int} {i k : Nat} (h : Alike a b i k) : Alike a b k i := ⟨h.1.symm, h.2.symm⟩
theorem alike_trans {a b : List Int} {i j k : Nat} (h : Alike a b i j) (h' : Alike a b j k) : Alike a b i k := ⟨h.1.trans h'.1, h.2.trans h'.2⟩
theorem meet_part {a b : List Int} (h : pairB a b = true) : partB (meetL a b) = true := by
  obtain ⟨h1, h2, h3⟩ := (pair_iff a b).1 h
  refine (partB_iff _).2 ⟨by rw [meet_len]; exact ((partB_iff a).1 h2).1, fun k hk => ?_, fun k hk => ?_⟩
  · rw [meet_len] at hk
    rw [meet_get hk]
    have := (least_ok a b k).1
    omega
  · rw [meet_len] at hk
    obtain ⟨g1, g2, g3⟩ := least_ok a b k
    rw [meet_get hk, Int.toNat_natCast, meet_get (by omega)]
    have := least_eq a b (least a b k) (least a b k) ⟨rfl, rfl⟩ (fun j hj hh => g3 j hj (alike_trans hh g2))
    omega
theorem meet_finer1 {a b : List Int} (h : pairB a b = true) : finerR (meetL a b) a = true ∧ pairB (meetL a b) a = true := by
  obtain ⟨h1, h2, h3⟩ := (pair_iff a b).1 h
  have hp : pairB (meetL a b) a = true := (pair_iff _ _).2 ⟨meet_len a b, meet_part h, h2⟩
  refine ⟨?_, hp⟩
  unfold finerR
  rw [hp, Bool.true_and]
  refine decide_eq_true fun k hk => ?_
  rw [meet_len] at hk
  rw [meet_get hk, Int.toNat_natCast]
  exact (least_ok a b k).2.1.1.symm
theorem meet_finer2 {a b : List Int} (h : pairB a b = true) : finerR (meetL a b) b = true ∧ pairB (meetL a b) b = true := by
  obtain ⟨h1, h2, h3⟩ := (pair_iff a b).1 h
  have hp : pairB (meetL a b) b = true := (pair_iff _ _).2 ⟨by rw [meet_len]; exact h1, meet_part h, h3⟩
  refine ⟨?_, hp⟩
  unfold finerR
  rw [hp, Bool.true_and]
  refine decide_eq_true fun k hk => ?_
  rw [meet_len] at hk
  rw [meet_get hk, Int.toNat_natCast]
  exact (least_ok a b k).2.1.2.symm
/-- Two numbers that are of joined parts, or of one part, are of one part then. -/
theorem join_same {l : List Int} {a b : Nat} (ha : a < l.length) (hb : b < l.length) : (joinL l a b).getD b 0 = (joinL l a b).getD a 0 := by
  rw [join_get _ _ _ ha, join_get _ _ _ hb]
  split <;> split <;> omega
theorem join_kept {l : List Int} {a b i k : Nat} (hi : i < l.length) (hk : k < l.length) (h : l.getD i 0 = l.getD k 0) : (joinL l a b).getD i 0 = (joinL l a b).getD k 0 := by
  rw [join_get _ _ _ hi, join_get _ _ _ hk, h]
theorem count_near (p q : Nat → Bool) (M : Nat) (h : ∀ i, i ≠ M → q i = p i) (hM : q M = true → p M = true) : ∀ k, (pickU q k).length ≤ (pickU p k).length ∧ (pickU p k).length ≤ (pickU q k).length + (if M < k then 1 else 0)
  | 0 => by simp [pickU]
  | k + 1 => by
    obtain ⟨h1, h2⟩ := count_near p q M h hM k
    rw [pickU_succ, pickU_succ]
    by_cases e : k = M
    · subst e
      rw [if_neg (Nat.lt_irrefl _)] at h2
      rw [if_pos (Nat.lt_succ_self _)]
      by_cases e1 : q k = true
      · rw [if_pos e1, if_pos (hM e1)]; simp; omega
      · rw [if_neg e1]
        split <;> (try simp only [List.length_append, List.length_cons, List.length_nil]) <;> omega
    · have e2 : (if M < k + 1 then 1 else 0) = (if M < k then 1 else 0) := by
        by_cases e3 : M < k
        · rw [if_pos e3, if_pos (by omega)]
        · rw [if_neg e3, if_neg (by omega)]
      rw [e2, h k e]
      split <;> (try simp only [List.length_append, List.length_cons, List.length_nil]) <;> omega
/-- A joining takes one part away at most. -/
theorem join_count {l : List Int} (h : partB l = true) {a b : Nat} (ha : a < l.length) (hb : b < l.length) : (rootsL (joinL l a b)).length ≤ (rootsL l).length ∧ (rootsL l).length ≤ (rootsL (joinL l a b)).length + 1 := by
  obtain ⟨h1, h2, h3⟩ := (partB_iff l).1 h
  unfold rootsL
  rw [join_len]
  have pa := h2 a ha
  have pb := h2 b hb
  have key : ∀ k, (pickU (fun i => decide (i < l.length) && ((joinL l a b).getD i 0 == (i : Int))) k).length ≤ (pickU (fun i => decide (i < l.length) && (l.getD i 0 == (i : Int))) k).length ∧ (pickU (fun i => decide (i < l.length) && (l.getD i 0 == (i : Int))) k).length ≤ (pickU (fun i => decide (i < l.length) && ((joinL l a b).getD i 0 == (i : Int))) k).length + (if (max (l.getD a 0) (l.getD b 0)).toNat < k then 1 else 0) := by
    refine count_near _ _ (max (l.getD a 0) (l.getD b 0)).toNat (fun i hi => ?_) (fun hq => ?_)
    · by_cases hl : i < l.length
      · have pi := h2 i hl
        rw [join_get _ _ _ hl, decide_eq_true hl, Bool.true_and, Bool.true_and]
        by_cases e : l.getD i 0 = max (l.getD a 0) (l.getD b 0)
        · rw [if_pos e]
          have e1 : (l.getD i 0 == (i : Int)) = false := by simp only [beq_eq_false_iff_ne]; omega
          have e2 : (min (l.getD a 0) (l.getD b 0) == (i : Int)) = false := by simp only [beq_eq_false_iff_ne]; omega
          rw [e1, e2]
        · rw [if_neg e]
      · rw [decide_eq_false hl, Bool.false_and, Bool.false_and]
    · rw [Bool.and_eq_true] at hq ⊢
      refine ⟨hq.1, ?_⟩
      have hM := of_decide_eq_true hq.1
      rcases Int.le_total (l.getD a 0) (l.getD b 0) with e | e
      · rw [Int.max_eq_right e] at *
        have := h3 b hb
        rw [beq_iff_eq]
        omega
      · rw [Int.max_eq_left e] at *
        have := h3 a ha
        rw [beq_iff_eq]
        omega
  have same : ∀ (m : List Int) k, k ≤ l.length → pickU (fun i => decide (i < l.length) && (m.getD i 0 == (i : Int))) k = pickU (fun i => m.getD i 0 == (i : Int)) k := fun m k hk => by
    induction k with
    | zero => rfl
    | succ k ih =>
      rw [pickU_succ, pickU_succ, ih (by omega), decide_eq_true (show k < l.length by omega), Bool.true_and]
  have := key l.length
  rw [same _ _ (Nat.le_refl _), same _ _ (Nat.le_refl _)] at this
  refine ⟨this.1, Nat.le_trans this.2 ?_⟩
  split <;> omega
end Go.Proofs.Ytoaejodpklhmjaa
