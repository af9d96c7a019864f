/-
  PROVED HERE: what is common to two lists of parts, and whether one is finer, to the model, at every two lists. No other condition.
-/
import Derived.Test.YtoaejodpklhmjaaP5Count
namespace Go.Proofs.Ytoaejodpklhmjaa
open Go.ChangeShapes Go.WideShapes Go.ChangeAt Go.RowKit
set_option linter.unusedVariables false

/-- Two lists of parts, as long as each other. -/
def pairB (a b : List Int) : Bool := decide (a.length = b.length) && partB a && partB b
theorem pair_iff (a b : List Int) : pairB a b = true ↔ a.length = b.length ∧ partB a = true ∧ partB b = true := by
  unfold pairB
  rw [Bool.and_eq_true, Bool.and_eq_true, decide_eq_true_iff, and_assoc]
def Finer (a b : List Int) : Prop := ∀ k, k < a.length → b.getD k 0 = b.getD (a.getD k 0).toNat 0
instance (a b : List Int) : Decidable (Finer a b) := inferInstanceAs (Decidable (∀ k, k < a.length → b.getD k 0 = b.getD (a.getD k 0).toNat 0))
/-- IsFinerParts' answer. -/
def finerR (a b : List Int) : Bool := pairB a b && decide (Finer a b)
/-- Two places are alike in both lists. -/
def Alike (a b : List Int) (i k : Nat) : Prop := a.getD i 0 = a.getD k 0 ∧ b.getD i 0 = b.getD k 0
instance (a b : List Int) (i k : Nat) : Decidable (Alike a b i k) := inferInstanceAs (Decidable (_ ∧ _))
def leastF (p : Nat → Bool) : Nat → Nat → Nat
  | 0, i => i
  | f + 1, i => if p i = true then i else leastF p f (i + 1)
theorem leastF_ok (p : Nat → Bool) : ∀ (f i : Nat), p (i + f) = true → i ≤ leastF p f i ∧ leastF p f i ≤ i + f ∧ p (leastF p f i) = true ∧ ∀ j, i ≤ j → j < leastF p f i → p j = false
  | 0, i, h => ⟨Nat.le_refl _, Nat.le_refl _, h, fun j h1 h2 => by simp only [leastF] at h2; omega⟩
  | f + 1, i, h => by
    simp only [leastF]
    by_cases e : p i = true
    · rw [if_pos e]
      exact ⟨Nat.le_refl _, by omega, e, fun j h1 h2 => by omega⟩
    · rw [if_neg e]
      obtain ⟨h1, h2, h3, h4⟩ := leastF_ok p f (i + 1) (by rw [show i + 1 + f = i + (f + 1) by omega]; exact h)
      refine ⟨by omega, by omega, h3, fun j h5 h6 => ?_⟩
      by_cases e2 : j = i
      · subst e2; simpa using e
      · exact h4 j (by omega) h6
/-- The first place that is alike. -/
def least (a b : List Int) (k : Nat) : Nat := leastF (fun i => decide (Alike a b i k)) k 0
theorem least_ok (a b : List Int) (k : Nat) : least a b k ≤ k ∧ Alike a b (least a b k) k ∧ ∀ j, j < least a b k → ¬ Alike a b j k := by
  obtain ⟨h1, h2, h3, h4⟩ := leastF_ok (fun i => decide (Alike a b i k)) k 0 (by rw [Nat.zero_add]; exact decide_eq_true ⟨rfl, rfl⟩)
  exact ⟨by unfold least; omega, of_decide_eq_true h3, fun j hj => of_decide_eq_false (h4 j (Nat.zero_le _) hj)⟩
theorem least_eq (a b : List Int) (k i : Nat) (h1 : Alike a b i k) (h2 : ∀ j, j < i → ¬ Alike a b j k) : i = least a b k := by
  obtain ⟨g1, g2, g3⟩ := least_ok a b k
  rcases Nat.lt_trichotomy i (least a b k) with h | h | h
  · exact absurd h1 (g3 i h)
  · exact h
  · exact absurd g2 (h2 _ h)
def meetL (a b : List Int) : List Int := (List.range a.length).map fun k => ((least a b k : Nat) : Int)
theorem meet_len (a b : List Int) : (meetL a b).length = a.length := by simp [meetL]
theorem meet_get {a b : List Int} {k : Nat} (hk : k < a.length) : (meetL a b).getD k 0 = ((least a b k : Nat) : Int) := by
  simp [meetL, List.getD_eq_getElem?_getD, hk]
theorem meet_take {a b : List Int} {k : Nat} (hk : k < a.length) : (meetL a b).take (k + 1) = (meetL a b).take k ++ [((least a b k : Nat) : Int)] := by
  rw [List.take_add_one]
  congr 1
  have := meet_get (b := b) hk
  rw [List.getD_eq_getElem?_getD] at this
  cases hh : (meetL a b)[k]? with
  | none => rw [List.getElem?_eq_none_iff, meet_len] at hh; omega
  | some x => rw [hh] at this; simp at this; simp [this]
/-- MeetParts' answer. -/
def meetR (a b : List Int) : List Int := if pairB a b = true then meetL a b else []

theorem l5Finer_any (a : Option Addr) (len cap : Nat) (l : List Int) (b : Option Addr) (cb : Nat) (m : List Int) (w : World) (h : Sl w a len l) (h2 : Sl w b len m) (hp : Par l) (hm : len ≤ 200) :
    Calls Try.prog 65 #[.slice a len cap, .slice b len cb] w fun e w' => e = .returned (.bool (decide (Finer l m))) ∧ Below w.heap.size w w' := by
  have hll := h.1
  obtain ⟨B, hB⟩ : ∃ B, decide (Finer l m) = B := ⟨_, rfl⟩
  rw [hB]
  have HB := (show Hid _ from hB)
  have HS := (show Hid _ from h)
  have HS2 := (show Hid _ from h2)
  have HP := (show Hid _ from hp)
  clear hB h h2 hp
  go_enter Try.func65, Try.ntmps65
  go_wp2_with fail
  go_loopw [8] (fun i wr => ∃ (k : Nat), k ≤ len ∧ i = .int .i64 k ∧ Hid (∀ j, j < k → m.getD j 0 = m.getD (l.getD j 0).toNat 0) ∧ Below w.heap.size w wr) (fun i _ => len - (intOf i).toNat)
  case atStart => exact ⟨0, Nat.zero_le _, rfl, fun j hj => absurd hj (Nat.not_lt_zero _), Below.refl _ _⟩
  case round =>
    obtain ⟨k, hk, rfl, hd, hbr⟩ := hrel
    by_cases hlt : k < len
    · obtain ⟨b1, o1, rfl, hc⟩ := cells_of (Sl.keep HS.out hbr) (by omega)
      obtain ⟨b2, o2, rfl, hc2⟩ := cells_of (Sl.keep HS2.out hbr) (by omega)
      have hy := HP.out k (by omega)
      have c1 := hc k hlt
      have d1 := hc2 k hlt
      have d2 := hc2 (l.getD k 0).toNat (by omega)
      have HD : Hid (m.getD k 0 = m.getD (l.getD k 0).toNat 0 → ∀ j, j < k + 1 → m.getD j 0 = m.getD (l.getD j 0).toNat 0) := fun hh j hj => by
        by_cases e : j = k
        · subst e; exact hh
        · exact hd.out j (by omega)
      have HN : Hid (m.getD k 0 ≠ m.getD (l.getD k 0).toNat 0 → B = false) := fun hh => by
        rw [← HB.out]
        exact decide_eq_false fun ht => hh (ht k (by omega))
      obtain ⟨z, hz⟩ : ∃ z : Nat, l.getD k 0 = z := ⟨_, (Int.toNat_of_nonneg hy.1).symm⟩
      rw [hz] at c1 d2 HD HN hy
      rw [Int.toNat_natCast] at d2 HD HN
      have hz1 : z < len := by omega
      have hk' : (k : Int) < len := by omega
      have hz' : (z : Int) < len := by omega
      clear hd hc hc2 hz
      generalize m.getD k 0 = x at d1 HD HN
      generalize m.getD z 0 = y at d2 HD HN
      by_cases e : x = y
      · have HD' := (show Hid _ from HD.out e)
        clear HD HN hy
        subst e
        have e' : (x != x) = false := by simp
        go_wp2
        go_quiet (fail)
        go_wp2
        go_roundw
        case rel => exact ⟨k + 1, by omega, by go_num, HD', below_drewN hbr _⟩
        case measure => simp [intOf]; omega
      · have eb := HN.out e
        subst eb
        have e' : (x != y) = true := by simpa using e
        clear HD HN hy e
        go_wp2
        go_quiet (fail)
        go_wp2
        go_ret
        exact ⟨rfl, below_drewN hbr _⟩
    · obtain rfl : k = len := by omega
      have e : B = true := by
        rw [← HB.out]
        exact decide_eq_true (fun j hj => hd.out j (by omega))
      subst e
      clear hd HB
      go_wp2
      go_ret
      exact ⟨rfl, hbr⟩

theorem specFiner2_any (a : Option Addr) (len cap : Nat) (l : List Int) (b : Option Addr) (lb cb : Nat) (m : List Int) (w : World) (h : Sl w a len l) (h2 : Sl w b lb m) (hm : len ≤ 9223372036854775807) (hm2 : lb ≤ 9223372036854775807) :
    Calls Try.prog 36 #[.slice a len cap, .slice b lb cb] w fun e w' => e = .returned (.tuple #[.bool (finerR l m), .bool (pairB l m)]) ∧ Below w.heap.size w w' := by
  have hll := h.1
  have hlm := h2.1
  have HX := (show Hid _ from specParts_any a len cap l w h hm)
  have HY := (show Hid _ from specParts_any b lb cb m w h2 hm2)
  unfold finerR
  cases e1 : partB l with
  | false =>
    rw [e1] at HX
    have e0 : pairB l m = false := by unfold pairB; rw [e1, Bool.and_false, Bool.false_and]
    rw [e0, Bool.false_and]
    clear h h2 e1 e0 HY
    go_enter Try.func36, Try.ntmps36
    go_wp2_with fail
    refine Calls.mono HX.out ?_
    rintro e w2 ⟨rfl, rfl⟩
    go_wp2
    go_ret2
    exact ⟨rfl, Below.refl _ _⟩
  | true =>
    rw [e1] at HX
    cases e2 : partB m with
    | false =>
      rw [e2] at HY
      have e0 : pairB l m = false := by unfold pairB; rw [e2, Bool.and_false]
      rw [e0, Bool.false_and]
      clear h h2 e1 e2 e0
      go_enter Try.func36, Try.ntmps36
      go_wp2_with fail
      refine Calls.mono HX.out ?_
      rintro e w2 ⟨rfl, rfl⟩
      go_wp2_with fail
      refine Calls.mono HY.out ?_
      rintro e w2 ⟨rfl, rfl⟩
      go_wp2
      go_ret2
      exact ⟨rfl, Below.refl _ _⟩
    | true =>
      rw [e2] at HY
      by_cases e3 : len = lb
      · subst e3
        have e0 : pairB l m = true := (pair_iff l m).2 ⟨by omega, e1, e2⟩
        rw [e0, Bool.true_and]
        obtain ⟨g1, g2, g3⟩ := (partB_iff l).1 e1
        have HF := (show Hid _ from l5Finer_any a len cap l b cb m w h h2 g2 (by omega))
        generalize decide (Finer l m) = F at HF
        have hne : ((len : Int) != len) = false := by simp
        clear h h2 e1 e2 e0 g2 g3
        go_enter Try.func36, Try.ntmps36
        go_wp2_with fail
        refine Calls.mono HX.out ?_
        rintro e w2 ⟨rfl, rfl⟩
        go_wp2_with fail
        refine Calls.mono HY.out ?_
        rintro e w2 ⟨rfl, rfl⟩
        go_wp2_with fail
        refine Calls.mono HF.out ?_
        rintro e w3 ⟨rfl, hb⟩
        go_wp2
        go_ret2
        exact ⟨rfl, hb⟩
      · have e0 : pairB l m = false := by unfold pairB; rw [decide_eq_false (by omega), Bool.false_and, Bool.false_and]
        rw [e0, Bool.false_and]
        have hne : ((len : Int) != lb) = true := by simp; omega
        clear h h2 e1 e2 e0
        go_enter Try.func36, Try.ntmps36
        go_wp2_with fail
        refine Calls.mono HX.out ?_
        rintro e w2 ⟨rfl, rfl⟩
        go_wp2_with fail
        refine Calls.mono HY.out ?_
        rintro e w2 ⟨rfl, rfl⟩
        go_wp2
        go_ret2
        exact ⟨rfl, Below.refl _ _⟩

theorem pairs_any (a : Option Addr) (len cap : Nat) (l : List Int) (b : Option Addr) (lb cb : Nat) (m : List Int) (w : World) (h : Sl w a len l) (h2 : Sl w b lb m) (hm : len ≤ 9223372036854775807) (hm2 : lb ≤ 9223372036854775807) :
    Calls Try.prog 57 #[.slice a len cap, .slice b lb cb] w fun e w' => e = .returned (.bool (pairB l m)) ∧ w' = w := by
  have hll := h.1
  have hlm := h2.1
  have HX := (show Hid _ from implParts_any a len cap l w h hm)
  have HY := (show Hid _ from implParts_any b lb cb m w h2 hm2)
  by_cases e3 : len = lb
  · subst e3
    have e0 : pairB l m = (partB l && partB m) := by unfold pairB; rw [decide_eq_true (by omega), Bool.true_and]
    rw [e0]
    cases e1 : partB l with
    | false =>
      rw [e1] at HX
      rw [Bool.false_and]
      clear h h2 e1 e0 HY
      go_enter Try.func57, Try.ntmps57
      go_wp2_with fail
      refine Calls.mono HX.out ?_
      rintro e w2 ⟨rfl, rfl⟩
      go_wp2
      go_ret
      exact ⟨rfl, rfl⟩
    | true =>
      rw [e1] at HX
      rw [Bool.true_and]
      generalize partB m = B at HY
      clear h h2 e1 e0
      go_enter Try.func57, Try.ntmps57
      go_wp2_with fail
      refine Calls.mono HX.out ?_
      rintro e w2 ⟨rfl, rfl⟩
      go_wp2_with fail
      refine Calls.mono HY.out ?_
      rintro e w2 ⟨rfl, rfl⟩
      go_wp2
      go_ret
      exact ⟨rfl, rfl⟩
  · have e0 : pairB l m = false := by unfold pairB; rw [decide_eq_false (by omega), Bool.false_and, Bool.false_and]
    rw [e0]
    have hne : ((len : Int) == lb) = false := by simp; omega
    clear h h2 e0 HX HY
    go_enter Try.func57, Try.ntmps57
    go_wp2
    go_ret
    exact ⟨rfl, rfl⟩

theorem implFiner2_any (a : Option Addr) (len cap : Nat) (l : List Int) (b : Option Addr) (lb cb : Nat) (m : List Int) (w : World) (h : Sl w a len l) (h2 : Sl w b lb m) (hm : len ≤ 9223372036854775807) (hm2 : lb ≤ 9223372036854775807) :
    Calls Try.prog 27 #[.slice a len cap, .slice b lb cb] w fun e w' => e = .returned (.tuple #[.bool (finerR l m), .bool (pairB l m)]) ∧ Below w.heap.size w w' := by
  have hll := h.1
  have hlm := h2.1
  have HX := (show Hid _ from pairs_any a len cap l b lb cb m w h h2 hm hm2)
  unfold finerR
  cases e1 : pairB l m with
  | false =>
    rw [e1] at HX
    rw [Bool.false_and]
    clear h h2 e1
    go_enter Try.func27, Try.ntmps27
    go_wp2_with fail
    refine Calls.mono HX.out ?_
    rintro e w2 ⟨rfl, rfl⟩
    go_wp2
    go_ret2
    exact ⟨rfl, Below.refl _ _⟩
  | true =>
    rw [e1] at HX
    rw [Bool.true_and]
    obtain ⟨f1, f2, f3⟩ := (pair_iff l m).1 e1
    obtain ⟨g1, g2, g3⟩ := (partB_iff l).1 f2
    obtain rfl : len = lb := by omega
    have h200 : len ≤ 200 := by omega
    obtain ⟨B, hB⟩ : ∃ B, decide (Finer l m) = B := ⟨_, rfl⟩
    rw [hB]
    have HB := (show Hid _ from hB)
    have HS := (show Hid _ from h)
    have HS2 := (show Hid _ from h2)
    have HP := (show Hid _ from g2)
    clear hB h h2 e1 f1 f2 f3 g1 g2 g3
    go_enter Try.func27, Try.ntmps27
    go_wp2_with fail
    refine Calls.mono HX.out ?_
    rintro e w2 ⟨rfl, rfl⟩
    go_wp2_with fail
    go_loopw [14] (fun i wr => ∃ (k : Nat), k ≤ len ∧ i = .int .i64 k ∧ Hid (∀ j, j < k → m.getD j 0 = m.getD (l.getD j 0).toNat 0) ∧ Below w2.heap.size w2 wr) (fun i _ => len - (intOf i).toNat)
    case atStart => exact ⟨0, Nat.zero_le _, rfl, fun j hj => absurd hj (Nat.not_lt_zero _), Below.refl _ _⟩
    case round =>
      obtain ⟨k, hk, rfl, hd, hbr⟩ := hrel
      by_cases hlt : k < len
      · obtain ⟨b1, o1, rfl, hc⟩ := cells_of (Sl.keep HS.out hbr) (by omega)
        obtain ⟨b2, o2, rfl, hc2⟩ := cells_of (Sl.keep HS2.out hbr) (by omega)
        have hy := HP.out k (by omega)
        have c1 := hc k hlt
        have d1 := hc2 k hlt
        have d2 := hc2 (l.getD k 0).toNat (by omega)
        have HD : Hid (m.getD k 0 = m.getD (l.getD k 0).toNat 0 → ∀ j, j < k + 1 → m.getD j 0 = m.getD (l.getD j 0).toNat 0) := fun hh j hj => by
          by_cases e : j = k
          · subst e; exact hh
          · exact hd.out j (by omega)
        have HN : Hid (m.getD k 0 ≠ m.getD (l.getD k 0).toNat 0 → B = false) := fun hh => by
          rw [← HB.out]
          exact decide_eq_false fun ht => hh (ht k (by omega))
        obtain ⟨z, hz⟩ : ∃ z : Nat, l.getD k 0 = z := ⟨_, (Int.toNat_of_nonneg hy.1).symm⟩
        rw [hz] at c1 d2 HD HN hy
        rw [Int.toNat_natCast] at d2 HD HN
        have hz1 : z < len := by omega
        have hk' : (k : Int) < len := by omega
        have hz' : (z : Int) < len := by omega
        clear hd hc hc2 hz
        generalize m.getD k 0 = x at d1 HD HN
        generalize m.getD z 0 = y at d2 HD HN
        by_cases e : x = y
        · have HD' := (show Hid _ from HD.out e)
          clear HD HN hy
          subst e
          have e' : (x != x) = false := by simp
          go_wp2
          go_quiet (fail)
          go_wp2
          go_roundw
          case rel => exact ⟨k + 1, by omega, by go_num, HD', below_drewN hbr _⟩
          case measure => simp [intOf]; omega
        · have eb := HN.out e
          subst eb
          have e' : (x != y) = true := by simpa using e
          clear HD HN hy e
          go_wp2
          go_quiet (fail)
          go_wp2
          go_ret2
          exact ⟨rfl, below_drewN hbr _⟩
      · obtain rfl : k = len := by omega
        have e : B = true := by
          rw [← HB.out]
          exact decide_eq_true (fun j hj => hd.out j (by omega))
        subst e
        clear hd HB
        go_wp2
        go_ret2
        exact ⟨rfl, hbr⟩
end Go.Proofs.Ytoaejodpklhmjaa
