/-
  PROVED HERE: which root the model and the program find from a number of good parents, and how many steps5 that takes, at every list and every number. No other condition.
-/
import Derived.Test.YtbmgflapagbkcaaDoorP5Good
namespace Go.Proofs.YtbmgflapagbkcaaDoor
open Go.ChangeShapes Go.WideShapes Go.ChangeAt Go.RowKit
set_option linter.unusedVariables false

theorem implRoot_any (a : Option Addr) (len cap : Nat) (l : List Int) (k : Nat) (w : World) (h : Sl w a len l) (hp : Par l) (hm : len ≤ 200) (hk : k < len) :
    Calls Tryd.prog 74 #[.slice a len cap, .int .i64 k] w fun e w' => e = .returned (.tuple #[.int .i64 (root l k : Nat), .int .i64 (steps5 l k : Nat)]) ∧ w' = w := by
  have hll := h.1
  obtain ⟨b, off, rfl, hc⟩ := cells_of h (by omega)
  have HC := (show Hid _ from hc)
  have HP := (show Hid _ from hp)
  have hsl := steps_le hp (show k < l.length by omega)
  obtain ⟨R, hR⟩ : ∃ R, root l k = R := ⟨_, rfl⟩
  obtain ⟨S, hS⟩ : ∃ S, steps5 l k = S := ⟨_, rfl⟩
  rw [hR, hS]
  rw [hS] at hsl
  have H0 : Hid (root l k = R ∧ 0 + steps5 l k = S) := ⟨hR, by omega⟩
  clear hR hS h hc hp
  go_enter Tryd.func74, Tryd.ntmps74
  go_wp2_with fail
  go_loopw [1, 6] (fun x n wr => ∃ (j m : Nat), j ≤ k ∧ m ≤ S ∧ x = .int .i64 j ∧ n = .int .i64 m ∧ Hid (root l j = R ∧ m + steps5 l j = S) ∧ wr = w) (fun x _ _ => (intOf x).toNat)
  case atStart => exact ⟨k, 0, Nat.le_refl _, Nat.zero_le _, rfl, rfl, H0, rfl⟩
  case round =>
    obtain ⟨j, m, hj, hm', rfl, rfl, hI, rfl⟩ := hrel
    have c1 := HC.out j (by omega)
    have hu := up_le HP.out (show j < l.length by omega)
    have he := up_eq HP.out (show j < l.length by omega)
    rw [← he] at c1
    have hjl : j < len := by omega
    by_cases e : up l j = j
    · have h1 : j = R := by rw [← hI.out.1, root_self e]
      have h2 : m = S := by have := hI.out.2; rw [steps_self e] at this; omega
      subst h1 h2
      rw [e] at c1
      clear e he hu hI HC H0
      go_wp2
      go_ret2
      exact ⟨rfl, rfl⟩
    · have h1 : Hid (root l (up l j) = R ∧ (m + 1) + steps5 l (up l j) = S) := ⟨by rw [root_up HP.out (by omega)]; exact hI.out.1, by have := hI.out.2; rw [steps_up HP.out (by omega) e] at this; omega⟩
      have h2 : m + 1 ≤ S := by have := h1.out.2; omega
      have e' : (((up l j : Nat) : Int) != (j : Int)) = true := by simp; omega
      have e2 : ¬ ((up l j : Nat) : Int) = (j : Int) := by omega
      clear he hI HC H0
      generalize up l j = u at c1 hu e h1 e' e2
      go_wp2
      go_roundw
      case rel => exact ⟨u, m + 1, by omega, by omega, by first | trivial | rfl, by go_num, h1, (by first | trivial | rfl)⟩
      case measure => simp [intOf]; omega

/-- Whether a number is one of the list. -/
def hasB (l : List Int) (k : Int) : Bool := decide (0 ≤ k ∧ k < l.length)
theorem implHas_any (a : Option Addr) (len cap : Nat) (l : List Int) (hl : l.length = len) (k : Int) (w : World) :
    Calls Tryd.prog 44 #[.slice a len cap, .int .i64 k] w fun e w' => e = .returned (.bool (hasB l k)) ∧ w' = w := by
  by_cases h0 : 0 ≤ k
  · have e : hasB l k = decide (k < len) := by unfold hasB; rw [hl]; exact decide_eq_decide.2 (by omega)
    rw [e]
    clear e hl
    go_enter Tryd.func44, Tryd.ntmps44
    go_wp2
    go_ret
    exact ⟨rfl, rfl⟩
  · have e : hasB l k = false := by unfold hasB; exact decide_eq_false (by omega)
    rw [e]
    have h0' : (0 ≤ k) = False := by simp; omega
    clear e hl
    go_enter Tryd.func44, Tryd.ntmps44
    go_wp2
    go_ret
    exact ⟨rfl, rfl⟩
theorem specHas_any (len : Nat) (l : List Int) (hl : l.length = len) (k : Int) (w : World) :
    Calls Tryd.prog 42 #[.int .i64 k, .int .i64 0, .int .i64 ((len : Int) - 1)] w fun e w' => e = .returned (.bool (hasB l k)) ∧ w' = w := by
  by_cases h0 : 0 ≤ k ∧ k < len
  · have e : hasB l k = true := by unfold hasB; rw [hl]; exact decide_eq_true h0
    rw [e]
    exact in_yes k 0 _ w (by omega) (by omega)
  · have e : hasB l k = false := by unfold hasB; rw [hl]; exact decide_eq_false h0
    rw [e]
    exact in_no k 0 _ w (by omega)

/-- FindRoot's answer. -/
def findOk (l : List Int) (k : Int) : Bool := parB l && hasB l k
def findR (l : List Int) (k : Int) : Int := if findOk l k = true then ((root l k.toNat : Nat) : Int) else 0
def findS (l : List Int) (k : Int) : Int := if findOk l k = true then ((steps5 l k.toNat : Nat) : Int) else 0

end Go.Proofs.YtbmgflapagbkcaaDoor
