/-
  PROVED HERE: which root the model and the program find from a number of good parents, and how many steps that takes, at every list and every number. No other condition.
-/
import Derived.Test.YtoaejodpklhmjaaP5Good
namespace Go.Proofs.Ytoaejodpklhmjaa
open Go.ChangeShapes Go.WideShapes Go.ChangeAt Go.RowKit
set_option linter.unusedVariables false

theorem specRoot_any (a : Option Addr) (len cap : Nat) (l : List Int) (k : Nat) (w : World) (h : Sl w a len l) (hp : Par l) (hm : len ≤ 200) (hk : k < len) :
    Calls Try.prog 48 #[.slice a len cap, .int .i64 k] w fun e w' => e = .returned (.tuple #[.int .i64 (root l k : Nat), .int .i64 (steps l k : Nat)]) ∧ w' = w := by
  have hll := h.1
  obtain ⟨b, off, rfl, hc⟩ := cells_of h (by omega)
  have HC := (show Hid _ from hc)
  have HP := (show Hid _ from hp)
  have hsl := steps_le hp (show k < l.length by omega)
  obtain ⟨R, hR⟩ : ∃ R, root l k = R := ⟨_, rfl⟩
  obtain ⟨S, hS⟩ : ∃ S, steps l k = S := ⟨_, rfl⟩
  rw [hR, hS]
  rw [hS] at hsl
  have H0 : Hid (root l k = R ∧ 0 + steps l k = S) := ⟨hR, by omega⟩
  clear hR hS h hc hp
  go_enter Try.func48, Try.ntmps48
  go_wp2_with fail
  go_loopw [1, 6] (fun x n wr => ∃ (j m : Nat), j ≤ k ∧ m ≤ S ∧ x = .int .i64 j ∧ n = .int .i64 m ∧ Hid (root l j = R ∧ m + steps l j = S) ∧ wr = w) (fun x _ _ => (intOf x).toNat)
  case atStart => exact ⟨k, 0, Nat.le_refl _, Nat.zero_le _, rfl, rfl, H0, rfl⟩
  case round =>
    obtain ⟨j, m, hj, hm', rfl, rfl, hI, rfl⟩ := hrel
    have c1 := HC.out j (by omega)
    have hu := up_le HP.out (show j < l.length by omega)
    have he := up_eq HP.out (show j < l.length by omega)
    rw [← he] at c1
    have hjl : j < len := by omega
    by_cases e : up l j = j
    · have h1 : j = R := by rw [← hI.out.1, root_self e]
      have h2 : m = S := by have := hI.out.2; rw [steps_self e] at this; omega
      subst h1 h2
      rw [e] at c1
      clear e he hu hI HC H0
      go_wp2
      go_ret2
      exact ⟨rfl, rfl⟩
    · have h1 : Hid (root l (up l j) = R ∧ (m + 1) + steps l (up l j) = S) := ⟨by rw [root_up HP.out (by omega)]; exact hI.out.1, by have := hI.out.2; rw [steps_up HP.out (by omega) e] at this; omega⟩
      have h2 : m + 1 ≤ S := by have := h1.out.2; omega
      have e' : (((up l j : Nat) : Int) != (j : Int)) = true := by simp; omega
      have e2 : ¬ ((up l j : Nat) : Int) = (j : Int) := by omega
      clear he hI HC H0
      generalize up l j = u at c1 hu e h1 e' e2
      go_wp2
      go_roundw
      case rel => exact ⟨u, m + 1, by omega, by omega, by first | trivial | rfl, by go_num, h1, (by first | trivial | rfl)⟩
      case measure => simp [intOf]; omega

theorem implRoot_any (a : Option Addr) (len cap : Nat) (l : List Int) (k : Nat) (w : World) (h : Sl w a len l) (hp : Par l) (hm : len ≤ 200) (hk : k < len) :
    Calls Try.prog 54 #[.slice a len cap, .int .i64 k] w fun e w' => e = .returned (.tuple #[.int .i64 (root l k : Nat), .int .i64 (steps l k : Nat)]) ∧ w' = w := by
  have hll := h.1
  obtain ⟨b, off, rfl, hc⟩ := cells_of h (by omega)
  have HC := (show Hid _ from hc)
  have HP := (show Hid _ from hp)
  have hsl := steps_le hp (show k < l.length by omega)
  obtain ⟨R, hR⟩ : ∃ R, root l k = R := ⟨_, rfl⟩
  obtain ⟨S, hS⟩ : ∃ S, steps l k = S := ⟨_, rfl⟩
  rw [hR, hS]
  rw [hS] at hsl
  have H0 : Hid (root l k = R ∧ 0 + steps l k = S) := ⟨hR, by omega⟩
  clear hR hS h hc hp
  go_enter Try.func54, Try.ntmps54
  go_wp2_with fail
  go_loopw [1, 6] (fun x n wr => ∃ (j m : Nat), j ≤ k ∧ m ≤ S ∧ x = .int .i64 j ∧ n = .int .i64 m ∧ Hid (root l j = R ∧ m + steps l j = S) ∧ wr = w) (fun x _ _ => (intOf x).toNat)
  case atStart => exact ⟨k, 0, Nat.le_refl _, Nat.zero_le _, rfl, rfl, H0, rfl⟩
  case round =>
    obtain ⟨j, m, hj, hm', rfl, rfl, hI, rfl⟩ := hrel
    have c1 := HC.out j (by omega)
    have hu := up_le HP.out (show j < l.length by omega)
    have he := up_eq HP.out (show j < l.length by omega)
    rw [← he] at c1
    have hjl : j < len := by omega
    by_cases e : up l j = j
    · have h1 : j = R := by rw [← hI.out.1, root_self e]
      have h2 : m = S := by have := hI.out.2; rw [steps_self e] at this; omega
      subst h1 h2
      rw [e] at c1
      clear e he hu hI HC H0
      go_wp2
      go_ret2
      exact ⟨rfl, rfl⟩
    · have h1 : Hid (root l (up l j) = R ∧ (m + 1) + steps l (up l j) = S) := ⟨by rw [root_up HP.out (by omega)]; exact hI.out.1, by have := hI.out.2; rw [steps_up HP.out (by omega) e] at this; omega⟩
      have h2 : m + 1 ≤ S := by have := h1.out.2; omega
      have e' : (((up l j : Nat) : Int) != (j : Int)) = true := by simp; omega
      have e2 : ¬ ((up l j : Nat) : Int) = (j : Int) := by omega
      clear he hI HC H0
      generalize up l j = u at c1 hu e h1 e' e2
      go_wp2
      go_roundw
      case rel => exact ⟨u, m + 1, by omega, by omega, by first | trivial | rfl, by go_num, h1, (by first | trivial | rfl)⟩
      case measure => simp [intOf]; omega

/-- Whether a number is one of the list. -/
def hasB (l : List Int) (k : Int) : Bool := decide (0 ≤ k ∧ k < l.length)
theorem implHas_any (a : Option Addr) (len cap : Nat) (l : List Int) (hl : l.length = len) (k : Int) (w : World) :
    Calls Try.prog 45 #[.slice a len cap, .int .i64 k] w fun e w' => e = .returned (.bool (hasB l k)) ∧ w' = w := by
  by_cases h0 : 0 ≤ k
  · have e : hasB l k = decide (k < len) := by unfold hasB; rw [hl]; exact decide_eq_decide.2 (by omega)
    rw [e]
    clear e hl
    go_enter Try.func45, Try.ntmps45
    go_wp2
    go_ret
    exact ⟨rfl, rfl⟩
  · have e : hasB l k = false := by unfold hasB; exact decide_eq_false (by omega)
    rw [e]
    have h0' : (0 ≤ k) = False := by simp; omega
    clear e hl
    go_enter Try.func45, Try.ntmps45
    go_wp2
    go_ret
    exact ⟨rfl, rfl⟩
theorem specHas_any (len : Nat) (l : List Int) (hl : l.length = len) (k : Int) (w : World) :
    Calls Try.prog 47 #[.int .i64 k, .int .i64 0, .int .i64 ((len : Int) - 1)] w fun e w' => e = .returned (.bool (hasB l k)) ∧ w' = w := by
  by_cases h0 : 0 ≤ k ∧ k < len
  · have e : hasB l k = true := by unfold hasB; rw [hl]; exact decide_eq_true h0
    rw [e]
    exact in_yes k 0 _ w (by omega) (by omega)
  · have e : hasB l k = false := by unfold hasB; rw [hl]; exact decide_eq_false h0
    rw [e]
    exact in_no k 0 _ w (by omega)

/-- FindRoot's answer. -/
def findOk (l : List Int) (k : Int) : Bool := parB l && hasB l k
def findR (l : List Int) (k : Int) : Int := if findOk l k = true then ((root l k.toNat : Nat) : Int) else 0
def findS (l : List Int) (k : Int) : Int := if findOk l k = true then ((steps l k.toNat : Nat) : Int) else 0

theorem specFind_any (a : Option Addr) (len cap : Nat) (l : List Int) (k : Int) (w : World) (h : Sl w a len l) (hm : len ≤ 9223372036854775807) :
    Calls Try.prog 22 #[.slice a len cap, .int .i64 k] w fun e w' => e = .returned (.tuple #[.int .i64 (findR l k), .int .i64 (findS l k), .bool (findOk l k)]) ∧ w' = w := by
  have hll := h.1
  have HG := (show Hid _ from specParents_any a len cap l w h hm)
  have HH := (show Hid _ from specHas_any len l hll k w)
  unfold findR findS
  by_cases hp : parB l = true
  · by_cases hk : hasB l k = true
    · have hok : findOk l k = true := by unfold findOk; rw [hp, hk]; rfl
      rw [if_pos hok, if_pos hok, hok]
      obtain ⟨h2, hP⟩ := (parB_iff l).1 hp
      have hk' : 0 ≤ k ∧ k < l.length := by unfold hasB at hk; exact of_decide_eq_true hk
      obtain ⟨kn, rfl⟩ := Int.eq_ofNat_of_zero_le hk'.1
      rw [Int.toNat_natCast]
      have HR := (show Hid _ from specRoot_any a len cap l kn w h hP (by omega) (by omega))
      rw [hp] at HG
      rw [hk] at HH
      generalize root l kn = R at HR
      generalize steps l kn = S at HR
      clear hp hk hok h hP hk'
      go_enter Try.func22, Try.ntmps22
      go_wp2_with fail
      refine Calls.mono HG.out ?_
      rintro e w2 ⟨rfl, rfl⟩
      go_wp2_with fail
      refine Calls.mono HH.out ?_
      rintro e w2 ⟨rfl, rfl⟩
      go_wp2_with fail
      refine Calls.mono HR.out ?_
      rintro e w2 ⟨rfl, rfl⟩
      go_wp2
      go_ret3
      exact ⟨rfl, rfl⟩
    · have hk' : hasB l k = false := by simpa using hk
      have hok : findOk l k = false := by unfold findOk; rw [hk', Bool.and_false]
      rw [hok, if_neg (by decide), if_neg (by decide)]
      rw [hp] at HG
      rw [hk'] at HH
      clear hp hk hok h hk'
      go_enter Try.func22, Try.ntmps22
      go_wp2_with fail
      refine Calls.mono HG.out ?_
      rintro e w2 ⟨rfl, rfl⟩
      go_wp2_with fail
      refine Calls.mono HH.out ?_
      rintro e w2 ⟨rfl, rfl⟩
      go_wp2
      go_ret3
      exact ⟨rfl, rfl⟩
  · have hp' : parB l = false := by simpa using hp
    have hok : findOk l k = false := by unfold findOk; rw [hp', Bool.false_and]
    rw [hok, if_neg (by decide), if_neg (by decide)]
    rw [hp'] at HG
    clear hp hp' hok h
    go_enter Try.func22, Try.ntmps22
    go_wp2_with fail
    refine Calls.mono HG.out ?_
    rintro e w2 ⟨rfl, rfl⟩
    go_wp2
    go_ret3
    exact ⟨rfl, rfl⟩

theorem implFind_any (a : Option Addr) (len cap : Nat) (l : List Int) (k : Int) (w : World) (h : Sl w a len l) (hm : len ≤ 9223372036854775807) :
    Calls Try.prog 19 #[.slice a len cap, .int .i64 k] w fun e w' => e = .returned (.tuple #[.int .i64 (findR l k), .int .i64 (findS l k), .bool (findOk l k)]) ∧ w' = w := by
  have hll := h.1
  have HG := (show Hid _ from implParents_any a len cap l w h hm)
  have HH := (show Hid _ from implHas_any a len cap l hll k w)
  unfold findR findS
  by_cases hp : parB l = true
  · by_cases hk : hasB l k = true
    · have hok : findOk l k = true := by unfold findOk; rw [hp, hk]; rfl
      rw [if_pos hok, if_pos hok, hok]
      obtain ⟨h2, hP⟩ := (parB_iff l).1 hp
      have hk' : 0 ≤ k ∧ k < l.length := by unfold hasB at hk; exact of_decide_eq_true hk
      obtain ⟨kn, rfl⟩ := Int.eq_ofNat_of_zero_le hk'.1
      rw [Int.toNat_natCast]
      have HR := (show Hid _ from implRoot_any a len cap l kn w h hP (by omega) (by omega))
      rw [hp] at HG
      rw [hk] at HH
      generalize root l kn = R at HR
      generalize steps l kn = S at HR
      clear hp hk hok h hP hk'
      go_enter Try.func19, Try.ntmps19
      go_wp2_with fail
      refine Calls.mono HG.out ?_
      rintro e w2 ⟨rfl, rfl⟩
      go_wp2_with fail
      refine Calls.mono HH.out ?_
      rintro e w2 ⟨rfl, rfl⟩
      go_wp2_with fail
      refine Calls.mono HR.out ?_
      rintro e w2 ⟨rfl, rfl⟩
      go_wp2
      go_ret3
      exact ⟨rfl, rfl⟩
    · have hk' : hasB l k = false := by simpa using hk
      have hok : findOk l k = false := by unfold findOk; rw [hk', Bool.and_false]
      rw [hok, if_neg (by decide), if_neg (by decide)]
      rw [hp] at HG
      rw [hk'] at HH
      clear hp hk hok h hk'
      go_enter Try.func19, Try.ntmps19
      go_wp2_with fail
      refine Calls.mono HG.out ?_
      rintro e w2 ⟨rfl, rfl⟩
      go_wp2_with fail
      refine Calls.mono HH.out ?_
      rintro e w2 ⟨rfl, rfl⟩
      go_wp2
      go_ret3
      exact ⟨rfl, rfl⟩
  · have hp' : parB l = false := by simpa using hp
    have hok : findOk l k = false := by unfold findOk; rw [hp', Bool.false_and]
    rw [hok, if_neg (by decide), if_neg (by decide)]
    rw [hp'] at HG
    clear hp hp' hok h
    go_enter Try.func19, Try.ntmps19
    go_wp2_with fail
    refine Calls.mono HG.out ?_
    rintro e w2 ⟨rfl, rfl⟩
    go_wp2
    go_ret3
    exact ⟨rfl, rfl⟩
end Go.Proofs.Ytoaejodpklhmjaa
