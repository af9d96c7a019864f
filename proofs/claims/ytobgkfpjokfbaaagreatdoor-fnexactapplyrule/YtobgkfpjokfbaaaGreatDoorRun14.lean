/-
  PROVED HERE: which lists are good parents and good parts, to the model and to the program, at every list. No other condition. which root the model and the program find from a number of good parents, and how many steps5 that takes, at every list and every number. No other condition. what joining the roots of two numbers answers, to the model and to the program, at every list and every two numbers. No other condition.
-/
import Derived.Test.YtobgkfpjokfbaaaGreatDoorRun2
import Derived.Test.YtobgkfpjokfbaaaGreatDoorRun12
import Derived.Lib.SliceRun
import Derived.Lib.MinMax
namespace Go.Proofs.YtobgkfpjokfbaaaGreatDoor
open Go.ChangeShapes Go.WideShapes Go.ChangeAt Go.RowKit
set_option linter.unusedVariables false

theorem par_no {l : List Int} {k : Nat} (hk : k < l.length) (h : l.getD k 0 < 0 ∨ (k : Int) < l.getD k 0) : ¬ Par l := fun hp => by
  have := hp k hk
  omega
theorem implIsGood_any (a : Option Addr) (len cap : Nat) (l : List Int) (w : World) (h : Sl w a len l) (hm : len ≤ 9223372036854775807) :
    Calls Tryz.prog 112 #[.slice a len cap] w fun e w' => e = .returned (.bool (decide (Par l))) ∧ w' = w := by
  have hll := h.1
  obtain ⟨B, hB⟩ : ∃ B, decide (Par l) = B := ⟨_, rfl⟩
  rw [hB]
  have HB := (show Hid _ from hB)
  have HS := (show Hid _ from h)
  clear hB h
  go_enter Tryz.func112, Tryz.ntmps112
  go_wp2_with fail
  go_loopw [7] (fun i wr => ∃ (k : Nat), k ≤ len ∧ i = .int .i64 k ∧ Hid (∀ j, j < k → 0 ≤ l.getD j 0 ∧ l.getD j 0 ≤ (j : Int)) ∧ wr = w) (fun i _ => len - (intOf i).toNat)
  case atStart => exact ⟨0, Nat.zero_le _, rfl, fun j hj => absurd hj (Nat.not_lt_zero _), rfl⟩
  case round =>
    obtain ⟨k, hk, rfl, hd, rfl⟩ := hrel
    by_cases hlt : k < len
    · obtain ⟨b, off, rfl, hc⟩ := cells_of HS.out (by omega)
      have c1 := hc k hlt
      clear hc
      by_cases hy : 0 ≤ l.getD k 0
      · by_cases hz : l.getD k 0 ≤ (k : Int)
        · have HD : Hid (∀ j, j < k + 1 → 0 ≤ l.getD j 0 ∧ l.getD j 0 ≤ (j : Int)) := fun j hj => by
            by_cases e : j = k
            · subst e; exact ⟨hy, hz⟩
            · exact hd.out j (by omega)
          have hy' : ¬ l.getD k 0 < 0 := by omega
          have hz' : ¬ (k : Int) < l.getD k 0 := by omega
          clear hd
          generalize l.getD k 0 = z at c1 hy hy' hz hz'
          go_wp2
          go_roundw
          case rel => exact ⟨k + 1, by omega, by go_num, HD, (by first | trivial | rfl)⟩
          case measure => simp [intOf]; omega
        · have e : B = false := by
            rw [← HB.out]
            exact decide_eq_false (par_no (k := k) (by omega) (by omega))
          subst e
          have hy' : ¬ l.getD k 0 < 0 := by omega
          have hz' : (k : Int) < l.getD k 0 := by omega
          clear hd
          generalize l.getD k 0 = z at c1 hy hy' hz hz'
          go_wp2
          go_ret
          exact ⟨rfl, rfl⟩
      · have e : B = false := by
          rw [← HB.out]
          exact decide_eq_false (par_no (k := k) (by omega) (by omega))
        subst e
        have hy' : l.getD k 0 < 0 := by omega
        clear hd
        generalize l.getD k 0 = z at c1 hy hy'
        go_wp2
        go_ret
        exact ⟨rfl, rfl⟩
    · obtain rfl : k = len := by omega
      have e : B = true := by
        rw [← HB.out]
        exact decide_eq_true (fun j hj => hd.out j (by omega))
      subst e
      clear hd HB
      go_wp2
      go_ret
      exact ⟨rfl, rfl⟩

theorem implParents_any (a : Option Addr) (len cap : Nat) (l : List Int) (w : World) (h : Sl w a len l) (hm : len ≤ 9223372036854775807) :
    Calls Tryz.prog 109 #[.slice a len cap] w fun e w' => e = .returned (.bool (parB l)) ∧ w' = w := by
  have hll := h.1
  by_cases h2 : len ≤ 200
  · have HG := (show Hid _ from implIsGood_any a len cap l w h hm)
    have e : parB l = decide (Par l) := by unfold parB; rw [decide_eq_true (by omega), Bool.true_and]
    rw [e]
    generalize decide (Par l) = B at HG
    have h2' : (len : Int) ≤ 200 := by omega
    clear h e hll
    go_enter Tryz.func109, Tryz.ntmps109
    go_wp2_with fail
    refine Calls.mono HG.out ?_
    rintro e w2 ⟨rfl, rfl⟩
    go_wp2
    go_ret
    exact ⟨rfl, rfl⟩
  · have e : parB l = false := by unfold parB; rw [decide_eq_false (by omega), Bool.false_and]
    rw [e]
    have h2' : ¬ (len : Int) ≤ 200 := by omega
    clear h e hll
    go_enter Tryz.func109, Tryz.ntmps109
    go_wp2
    go_ret
    exact ⟨rfl, rfl⟩

theorem specParts_any (a : Option Addr) (len cap : Nat) (l : List Int) (w : World) (h : Sl w a len l) (hm : len ≤ 9223372036854775807) :
    Calls Tryz.prog 67 #[.slice a len cap] w fun e w' => e = .returned (.bool (partB l)) ∧ w' = w := by
  have hll := h.1
  obtain ⟨B, hB⟩ : ∃ B, partB l = B := ⟨_, rfl⟩
  rw [hB]
  have HB := (show Hid _ from hB)
  have HS := (show Hid _ from h)
  clear hB h
  by_cases h2 : len ≤ 200
  · have h2' : ¬ (200 : Int) < len := by omega
    go_enter Tryz.func67, Tryz.ntmps67
    go_wp2_with fail
    go_loopw [10] (fun i wr => ∃ (k : Nat), k ≤ len ∧ i = .int .i64 k ∧ Hid (∀ j, j < k → (0 ≤ l.getD j 0 ∧ l.getD j 0 ≤ (j : Int)) ∧ l.getD (l.getD j 0).toNat 0 = l.getD j 0) ∧ wr = w) (fun i _ => len - (intOf i).toNat)
    case atStart => exact ⟨0, Nat.zero_le _, rfl, fun j hj => absurd hj (Nat.not_lt_zero _), rfl⟩
    case round =>
      obtain ⟨k, hk, rfl, hd, rfl⟩ := hrel
      by_cases hlt : k < len
      · obtain ⟨b, off, rfl, hc⟩ := cells_of HS.out (by omega)
        have c1 := hc k hlt
        by_cases hy : 0 ≤ l.getD k 0 ∧ l.getD k 0 ≤ (k : Int)
        · have HI := (show Hid _ from in_yes (l.getD k 0) 0 k wr hy.1 hy.2)
          have c2 := hc (l.getD k 0).toNat (by omega)
          have HD : Hid (l.getD (l.getD k 0).toNat 0 = l.getD k 0 → ∀ j, j < k + 1 → (0 ≤ l.getD j 0 ∧ l.getD j 0 ≤ (j : Int)) ∧ l.getD (l.getD j 0).toNat 0 = l.getD j 0) := fun hh j hj => by
            by_cases e : j = k
            · subst e; exact ⟨hy, hh⟩
            · exact hd.out j (by omega)
          have HN : Hid (l.getD (l.getD k 0).toNat 0 ≠ l.getD k 0 → B = false) := fun hh => by
            rw [← HB.out]
            refine Bool.eq_false_iff.2 fun ht => hh ?_
            exact ((partB_iff l).1 ht).2.2 k (by omega)
          obtain ⟨z, hz⟩ : ∃ z : Nat, l.getD k 0 = z := ⟨_, (Int.toNat_of_nonneg hy.1).symm⟩
          rw [hz] at c1 HI c2 HD HN hy
          rw [Int.toNat_natCast] at c2 HD HN
          have hz1 : z < len := by omega
          clear hd hc hz
          generalize l.getD z 0 = y at c2 HD HN
          by_cases e : y = z
          · have HD' := (show Hid _ from HD.out e)
            clear HD HN hy
            subst e
            go_wp2_with fail
            refine Calls.mono HI.out ?_
            rintro e w2 ⟨rfl, rfl⟩
            go_wp2
            go_roundw
            case rel => exact ⟨k + 1, by omega, by go_num, HD', (by first | trivial | rfl)⟩
            case measure => simp [intOf]; omega
          · have eb := HN.out e
            subst eb
            have e' : (y != (z : Int)) = true := by simpa using e
            clear HD HN hy e
            go_wp2_with fail
            refine Calls.mono HI.out ?_
            rintro e w2 ⟨rfl, rfl⟩
            go_wp2
            go_ret
            exact ⟨rfl, rfl⟩
        · have HI := (show Hid _ from in_no (l.getD k 0) 0 k wr (by omega))
          have e : B = false := by
            rw [← HB.out]
            refine Bool.eq_false_iff.2 fun ht => hy ?_
            exact ((partB_iff l).1 ht).2.1 k (by omega)
          subst e
          clear hy hd hc
          generalize l.getD k 0 = z at c1 HI
          go_wp2_with fail
          refine Calls.mono HI.out ?_
          rintro e w2 ⟨rfl, rfl⟩
          go_wp2
          go_ret
          exact ⟨rfl, rfl⟩
      · obtain rfl : k = len := by omega
        have e : B = true := by
          rw [← HB.out, partB_iff]
          exact ⟨by omega, fun j hj => (hd.out j (by omega)).1, fun j hj => (hd.out j (by omega)).2⟩
        subst e
        clear hd HB
        go_wp2
        go_ret
        exact ⟨rfl, rfl⟩
  · have h2' : (200 : Int) < len := by omega
    have e : B = false := by
      rw [← HB.out]
      exact Bool.eq_false_iff.2 fun ht => by have := ((partB_iff l).1 ht).1; omega
    subst e
    go_enter Tryz.func67, Tryz.ntmps67
    go_wp2
    go_ret
    exact ⟨rfl, rfl⟩

theorem implIsFlat_any (a : Option Addr) (len cap : Nat) (l : List Int) (w : World) (h : Sl w a len l) (hp : Par l) (hm : len ≤ 200) :
    Calls Tryz.prog 110 #[.slice a len cap] w fun e w' => e = .returned (.bool (decide (Flat l))) ∧ w' = w := by
  have hll := h.1
  obtain ⟨B, hB⟩ : ∃ B, decide (Flat l) = B := ⟨_, rfl⟩
  rw [hB]
  have HB := (show Hid _ from hB)
  have HS := (show Hid _ from h)
  have HP := (show Hid _ from hp)
  clear hB h hp
  go_enter Tryz.func110, Tryz.ntmps110
  go_wp2_with fail
  go_loopw [7] (fun i wr => ∃ (k : Nat), k ≤ len ∧ i = .int .i64 k ∧ Hid (∀ j, j < k → l.getD (l.getD j 0).toNat 0 = l.getD j 0) ∧ wr = w) (fun i _ => len - (intOf i).toNat)
  case atStart => exact ⟨0, Nat.zero_le _, rfl, fun j hj => absurd hj (Nat.not_lt_zero _), rfl⟩
  case round =>
    obtain ⟨k, hk, rfl, hd, rfl⟩ := hrel
    by_cases hlt : k < len
    · obtain ⟨b, off, rfl, hc⟩ := cells_of HS.out (by omega)
      have c1 := hc k hlt
      have hy := HP.out k (by omega)
      have c2 := hc (l.getD k 0).toNat (by omega)
      have HD : Hid (l.getD (l.getD k 0).toNat 0 = l.getD k 0 → ∀ j, j < k + 1 → l.getD (l.getD j 0).toNat 0 = l.getD j 0) := fun hh j hj => by
        by_cases e : j = k
        · subst e; exact hh
        · exact hd.out j (by omega)
      have HN : Hid (l.getD (l.getD k 0).toNat 0 ≠ l.getD k 0 → B = false) := fun hh => by
        rw [← HB.out]
        exact decide_eq_false fun ht => hh (ht k (by omega))
      obtain ⟨z, hz⟩ : ∃ z : Nat, l.getD k 0 = z := ⟨_, (Int.toNat_of_nonneg hy.1).symm⟩
      rw [hz] at c1 c2 HD HN hy
      rw [Int.toNat_natCast] at c2 HD HN
      have hz1 : z < len := by omega
      clear hd hc hz
      generalize l.getD z 0 = y at c2 HD HN
      by_cases e : y = z
      · have HD' := (show Hid _ from HD.out e)
        clear HD HN hy
        subst e
        go_wp2
        go_roundw
        case rel => exact ⟨k + 1, by omega, by go_num, HD', (by first | trivial | rfl)⟩
        case measure => simp [intOf]; omega
      · have eb := HN.out e
        subst eb
        have e' : (y != (z : Int)) = true := by simpa using e
        clear HD HN hy e
        go_wp2
        go_ret
        exact ⟨rfl, rfl⟩
    · obtain rfl : k = len := by omega
      have e : B = true := by
        rw [← HB.out]
        exact decide_eq_true (fun j hj => hd.out j (by omega))
      subst e
      clear hd HB
      go_wp2
      go_ret
      exact ⟨rfl, rfl⟩

theorem implParts_any (a : Option Addr) (len cap : Nat) (l : List Int) (w : World) (h : Sl w a len l) (hm : len ≤ 9223372036854775807) :
    Calls Tryz.prog 100 #[.slice a len cap] w fun e w' => e = .returned (.bool (partB l)) ∧ w' = w := by
  have hll := h.1
  have HG := (show Hid _ from implParents_any a len cap l w h hm)
  by_cases hp : parB l = true
  · obtain ⟨h2, hP⟩ := (parB_iff l).1 hp
    have HF := (show Hid _ from implIsFlat_any a len cap l w h hP (by omega))
    have e : partB l = decide (Flat l) := by unfold partB; rw [hp, Bool.true_and]
    rw [e]
    rw [hp] at HG
    generalize decide (Flat l) = B at HF
    clear h e hll hp hP
    go_enter Tryz.func100, Tryz.ntmps100
    go_wp2_with fail
    refine Calls.mono HG.out ?_
    rintro e w2 ⟨rfl, rfl⟩
    go_wp2_with fail
    refine Calls.mono HF.out ?_
    rintro e w2 ⟨rfl, rfl⟩
    go_wp2
    go_ret
    exact ⟨rfl, rfl⟩
  · have hp' : parB l = false := by simpa using hp
    have e : partB l = false := by unfold partB; rw [hp', Bool.false_and]
    rw [e]
    rw [hp'] at HG
    clear h e hll hp hp'
    go_enter Tryz.func100, Tryz.ntmps100
    go_wp2_with fail
    refine Calls.mono HG.out ?_
    rintro e w2 ⟨rfl, rfl⟩
    go_wp2
    go_ret
    exact ⟨rfl, rfl⟩
end Go.Proofs.YtobgkfpjokfbaaaGreatDoor
namespace Go.Proofs.YtobgkfpjokfbaaaGreatDoor
open Go.ChangeShapes Go.WideShapes Go.ChangeAt Go.RowKit
set_option linter.unusedVariables false

theorem implRoot_any (a : Option Addr) (len cap : Nat) (l : List Int) (k : Nat) (w : World) (h : Sl w a len l) (hp : Par l) (hm : len ≤ 200) (hk : k < len) :
    Calls Tryz.prog 106 #[.slice a len cap, .int .i64 k] w fun e w' => e = .returned (.tuple #[.int .i64 (root l k : Nat), .int .i64 (steps5 l k : Nat)]) ∧ w' = w := by
  have hll := h.1
  obtain ⟨b, off, rfl, hc⟩ := cells_of h (by omega)
  have HC := (show Hid _ from hc)
  have HP := (show Hid _ from hp)
  have hsl := steps_le hp (show k < l.length by omega)
  obtain ⟨R, hR⟩ : ∃ R, root l k = R := ⟨_, rfl⟩
  obtain ⟨S, hS⟩ : ∃ S, steps5 l k = S := ⟨_, rfl⟩
  rw [hR, hS]
  rw [hS] at hsl
  have H0 : Hid (root l k = R ∧ 0 + steps5 l k = S) := ⟨hR, by omega⟩
  clear hR hS h hc hp
  go_enter Tryz.func106, Tryz.ntmps106
  go_wp2_with fail
  go_loopw [1, 6] (fun x n wr => ∃ (j m : Nat), j ≤ k ∧ m ≤ S ∧ x = .int .i64 j ∧ n = .int .i64 m ∧ Hid (root l j = R ∧ m + steps5 l j = S) ∧ wr = w) (fun x _ _ => (intOf x).toNat)
  case atStart => exact ⟨k, 0, Nat.le_refl _, Nat.zero_le _, rfl, rfl, H0, rfl⟩
  case round =>
    obtain ⟨j, m, hj, hm', rfl, rfl, hI, rfl⟩ := hrel
    have c1 := HC.out j (by omega)
    have hu := up_le HP.out (show j < l.length by omega)
    have he := up_eq HP.out (show j < l.length by omega)
    rw [← he] at c1
    have hjl : j < len := by omega
    by_cases e : up l j = j
    · have h1 : j = R := by rw [← hI.out.1, root_self e]
      have h2 : m = S := by have := hI.out.2; rw [steps_self e] at this; omega
      subst h1 h2
      rw [e] at c1
      clear e he hu hI HC H0
      go_wp2
      go_ret2
      exact ⟨rfl, rfl⟩
    · have h1 : Hid (root l (up l j) = R ∧ (m + 1) + steps5 l (up l j) = S) := ⟨by rw [root_up HP.out (by omega)]; exact hI.out.1, by have := hI.out.2; rw [steps_up HP.out (by omega) e] at this; omega⟩
      have h2 : m + 1 ≤ S := by have := h1.out.2; omega
      have e' : (((up l j : Nat) : Int) != (j : Int)) = true := by simp; omega
      have e2 : ¬ ((up l j : Nat) : Int) = (j : Int) := by omega
      clear he hI HC H0
      generalize up l j = u at c1 hu e h1 e' e2
      go_wp2
      go_roundw
      case rel => exact ⟨u, m + 1, by omega, by omega, by first | trivial | rfl, by go_num, h1, (by first | trivial | rfl)⟩
      case measure => simp [intOf]; omega

/-- Whether a number is one of the list. -/
def hasB (l : List Int) (k : Int) : Bool := decide (0 ≤ k ∧ k < l.length)
theorem implHas_any (a : Option Addr) (len cap : Nat) (l : List Int) (hl : l.length = len) (k : Int) (w : World) :
    Calls Tryz.prog 61 #[.slice a len cap, .int .i64 k] w fun e w' => e = .returned (.bool (hasB l k)) ∧ w' = w := by
  by_cases h0 : 0 ≤ k
  · have e : hasB l k = decide (k < len) := by unfold hasB; rw [hl]; exact decide_eq_decide.2 (by omega)
    rw [e]
    clear e hl
    go_enter Tryz.func61, Tryz.ntmps61
    go_wp2
    go_ret
    exact ⟨rfl, rfl⟩
  · have e : hasB l k = false := by unfold hasB; exact decide_eq_false (by omega)
    rw [e]
    have h0' : (0 ≤ k) = False := by simp; omega
    clear e hl
    go_enter Tryz.func61, Tryz.ntmps61
    go_wp2
    go_ret
    exact ⟨rfl, rfl⟩
theorem specHas_any (len : Nat) (l : List Int) (hl : l.length = len) (k : Int) (w : World) :
    Calls Tryz.prog 69 #[.int .i64 k, .int .i64 0, .int .i64 ((len : Int) - 1)] w fun e w' => e = .returned (.bool (hasB l k)) ∧ w' = w := by
  by_cases h0 : 0 ≤ k ∧ k < len
  · have e : hasB l k = true := by unfold hasB; rw [hl]; exact decide_eq_true h0
    rw [e]
    exact in_yes k 0 _ w (by omega) (by omega)
  · have e : hasB l k = false := by unfold hasB; rw [hl]; exact decide_eq_false h0
    rw [e]
    exact in_no k 0 _ w (by omega)

/-- FindRoot's answer. -/
def findOk (l : List Int) (k : Int) : Bool := parB l && hasB l k
def findR (l : List Int) (k : Int) : Int := if findOk l k = true then ((root l k.toNat : Nat) : Int) else 0
def findS (l : List Int) (k : Int) : Int := if findOk l k = true then ((steps5 l k.toNat : Nat) : Int) else 0

end Go.Proofs.YtobgkfpjokfbaaaGreatDoor
namespace Go.Proofs.YtobgkfpjokfbaaaGreatDoor
open Go.ChangeShapes Go.WideShapes Go.ChangeAt Go.RowKit
set_option linter.unusedVariables false

theorem own_open {w : World} {base e n : Nat} {v : Value} {xs : List Value} (h : w.ownsRow base e 1 v n xs) (h0 : 0 < n) : ∃ g cap, v = .slice (some ⟨g, 0, none⟩) n cap ∧ base ≤ g ∧ g < w.heap.size := by
  rcases h.2 with ⟨rfl, h00⟩ | ⟨g, cap, cur, rfl, hb, hg, _⟩
  · omega
  · exact ⟨g, cap, rfl, hb, Array.getElem?_eq_some_iff.1 hg |>.1⟩
theorem empty5 (w : World) : (w.alloc (.cells #[] 3)).ownsRow w.heap.size 3 1 (.slice (some ⟨w.heap.size, 0, none⟩) 0 0) 0 [] :=
  ⟨rfl, .inr ⟨w.heap.size, 0, #[], rfl, Nat.le_refl _, by unfold World.alloc; exact Array.getElem?_push_size, by omega, by unfold maxLen; omega, rfl, rfl⟩⟩
theorem own5_any (a : Option Addr) (len cap : Nat) (l : List Int) (w : World) (h : Sl w a len l) (h0 : 0 < len) (hn : len ≤ 1048576) :
    Calls Tryz.prog 97 #[.slice a len cap] w fun e w' => ∃ v : Value, e = .returned v ∧ w'.ownsRow w.heap.size 3 1 v len (vals l) ∧ Below w.heap.size w w' := by
  obtain ⟨i0, hi, hz0, hz1, hz2⟩ := info_parts infoInt
  have hll := h.1
  have hb0 : Below w.heap.size w (w.alloc (.cells #[] 3)) := (Below.refl _ _).alloc (Nat.le_refl _) _
  obtain ⟨b, off, rfl, _⟩ := cells_of h h0
  have hcs := sl_cells (h.keep hb0) 0 len (by omega)
  rw [List.drop_zero, List.take_of_length_le (by omega), Nat.add_zero] at hcs
  have HC := (show Hid _ from hcs)
  have H1 : Hid (∀ u ∈ vals l, u.oneCell' = true) := vals_one l
  have hvl : (vals l).length = len * 1 := by rw [vals_len]; omega
  clear hcs h
  go_enter Tryz.func97, Tryz.ntmps97
  go_wp2_with (at_builtin; refine wpList_append_own _ rfl _ _ 23 rfl w.heap.size 3 i0 (.int .i64 0) 1 8 Tryz.underlying23 hi hz0 hz1 hz2 rfl (by decide) _ _ _ rfl (empty5 w) ⟨b, off, none⟩ len cap (vals l) rfl hvl HC.out H1.out (by unfold maxLen; omega) (by omega) (by simp) ?_; intro v' w4 hown4 hg4 _)
  go_ret
  rw [Nat.zero_add, List.nil_append] at hown4
  exact ⟨_, rfl, hown4, hb0.grown hg4 (by simp) (fun r hr => by cases hr; exact Nat.le_refl _)⟩
theorem clone5_any (a : Option Addr) (len cap : Nat) (l : List Int) (w : World) (h : Sl w a len l) (hn : len ≤ 1048576) (hz : a = none → len = 0) :
    Calls Tryz.prog 107 #[.slice a len cap] w fun e w' => ∃ v : Value, e = .returned v ∧ w'.ownsRow w.heap.size 3 1 v len (vals l) ∧ Below w.heap.size w w' := by
  have q : ∀ (w : World) (a : Option Addr) (n c n' c' : Nat), (binOp .eql 93 (.slice a n c) (.slice none n' c')).run Tryz.prog w = .ok (.bool a.isNone) w := fun w a n c n' c' => Lib.run_eql_slice_nil w _ _ a n c n' c' Tryz.underlying93
  have hll := h.1
  cases a with
  | none =>
    have := hz rfl
    subst this
    have : l = [] := List.length_eq_zero_iff.1 hll
    subst this
    clear h hll
    go_enter Tryz.func107, Tryz.ntmps107
    go_wp2
    go_ret
    exact ⟨_, rfl, World.ownsRow_nil _ _ _ _, Below.refl _ _⟩
  | some x =>
    obtain ⟨i0, hi, hz0, hz1, hz2⟩ := info_parts infoInt
    have hb0 : Below w.heap.size w (w.alloc (.cells #[] 3)) := (Below.refl _ _).alloc (Nat.le_refl _) _
    have HC : Hid (∀ j u, (vals l)[j]? = some u → (w.alloc (.cells #[] 3)).cell? (x.add j) = some u) := by
      by_cases h0 : len = 0
      · subst h0
        have : l = [] := List.length_eq_zero_iff.1 hll
        subst this
        intro j u hj
        simp [vals] at hj
      · obtain ⟨b, off, e, _⟩ := cells_of h (by omega)
        cases e
        have hcs := sl_cells (h.keep hb0) 0 len (by omega)
        rw [List.drop_zero, List.take_of_length_le (by omega), Nat.add_zero] at hcs
        exact hcs
    have H1 : Hid (∀ u ∈ vals l, u.oneCell' = true) := vals_one l
    have hvl : (vals l).length = len * 1 := by rw [vals_len]; omega
    clear h hz
    go_enter Tryz.func107, Tryz.ntmps107
    go_wp2_with (at_builtin; refine wpList_append_own _ rfl _ _ 93 rfl w.heap.size 3 i0 (.int .i64 0) 1 8 Tryz.underlying93 hi hz0 hz1 hz2 rfl (by decide) _ _ _ rfl (empty5 w) x len cap (vals l) rfl hvl HC.out H1.out (by unfold maxLen; omega) (by omega) (by simp) ?_; intro v' w4 hown4 hg4 _)
    go_ret
    rw [Nat.zero_add, List.nil_append] at hown4
    exact ⟨_, rfl, hown4, hb0.grown hg4 (by simp) (fun r hr => by cases hr; exact Nat.le_refl _)⟩

theorem most5_any (x y : Nat) (w : World) : Calls Tryz.prog 99 #[.int .i64 x, .int .i64 y] w fun e w' => e = .returned (.int .i64 (max x y : Nat)) ∧ w' = w := by
  by_cases h : (y : Int) < x
  · have e : max x y = x := by omega
    rw [e]
    go_enter Tryz.func99, Tryz.ntmps99
    go_wp2
    go_ret
    exact ⟨rfl, rfl⟩
  · have e : max x y = y := by omega
    rw [e]
    go_enter Tryz.func99, Tryz.ntmps99
    go_wp2
    go_ret
    exact ⟨rfl, rfl⟩
theorem least5_any (x y : Nat) (w : World) : Calls Tryz.prog 98 #[.int .i64 x, .int .i64 y] w fun e w' => e = .returned (.int .i64 (min x y : Nat)) ∧ w' = w := by
  by_cases h : (x : Int) < y
  · have e : min x y = x := by omega
    rw [e]
    go_enter Tryz.func98, Tryz.ntmps98
    go_wp2
    go_ret
    exact ⟨rfl, rfl⟩
  · have e : min x y = y := by omega
    rw [e]
    go_enter Tryz.func98, Tryz.ntmps98
    go_wp2
    go_ret
    exact ⟨rfl, rfl⟩
theorem vals_set (l : List Int) (i : Nat) (x : Int) : vals (l.set i x) = (vals l).set i (.int .i64 x) := by simp [vals, List.map_set]
theorem vals_at {l : List Int} {i : Nat} (h : i < l.length) : (vals l)[i]? = some (.int .i64 (l.getD i 0)) := by
  simp [vals, List.getD_eq_getElem?_getD, h]
theorem has_iff {l : List Int} {k : Int} (h : hasB l k = true) : ∃ n : Nat, k = n ∧ n < l.length := by
  unfold hasB at h
  have := of_decide_eq_true h
  exact ⟨k.toNat, by omega, by omega⟩

theorem joined_any (a : Option Addr) (len cap : Nat) (l : List Int) (x y : Nat) (w : World) (h : Sl w a len l) (hp : Par l) (hm : len ≤ 200) (hx : x < len) (hy : y < len) :
    Calls Tryz.prog 87 #[.slice a len cap, .int .i64 x, .int .i64 y] w fun e w' => ∃ v : Value, e = .returned v ∧ w'.ownsRow w.heap.size 3 1 v len (vals (unionL l x y)) ∧ Below w.heap.size w w' := by
  have hll := h.1
  have HX := (show Hid _ from implRoot_any a len cap l x w h hp hm hx)
  have HY := (show Hid _ from implRoot_any a len cap l y w h hp hm hy)
  have HC := (show Hid _ from clone5_any a len cap l w h (by omega) (fun e => by subst e; rcases cells_of h (by omega) with ⟨_, _, e, _⟩; cases e))
  have lx := root_le hp (show x < l.length by omega)
  have ly := root_le hp (show y < l.length by omega)
  unfold unionL
  generalize root l x = X at HX lx ⊢
  generalize root l y = Y at HY ly ⊢
  generalize steps5 l x = X' at HX
  generalize steps5 l y = Y' at HY
  have hM : max (X : Int) (Y : Int) = ((max X Y : Nat) : Int) := (nat_max X Y).symm
  have hm' : min (X : Int) (Y : Int) = ((min X Y : Nat) : Int) := (nat_min X Y).symm
  have hMl : max X Y < len := by omega
  generalize max X Y = M at hM hMl ⊢
  generalize min X Y = m at hm' ⊢
  clear h hp
  go_enter Tryz.func87, Tryz.ntmps87
  go_wp2_with fail
  refine Calls.mono HX.out ?_
  rintro e w2 ⟨rfl, rfl⟩
  go_wp2_with fail
  refine Calls.mono HY.out ?_
  rintro e w2 ⟨rfl, rfl⟩
  go_wp2_with fail
  refine Calls.mono HC.out ?_
  rintro e w3 ⟨v, rfl, hown, hb⟩
  obtain ⟨g, c, rfl, hg1, hg2⟩ := own_open hown (by omega)
  have hfr := hown.frozenAt M
  have hcg := hown.cellAt M (by omega)
  rw [vals_at (by omega)] at hcg
  have hst := (show Hid _ from hown.stored M (.int .i64 m))
  clear hown HX HY HC
  go_wp2
  go_ret
  exact ⟨_, rfl, by rw [vals_set]; exact hst.out.1, hb.setCell hg1 _⟩

/-- UnionRoots' answer. -/
def unionOk (l : List Int) (a b : Int) : Bool := parB l && hasB l a && hasB l b
def unionR (l : List Int) (a b : Int) : List Int := if unionOk l a b = true then unionL l a.toNat b.toNat else []
theorem union_cases (l : List Int) (a b : Int) : (unionOk l a b = true ∧ parB l = true ∧ hasB l a = true ∧ hasB l b = true) ∨ (unionOk l a b = false ∧ (parB l = false ∨ (parB l = true ∧ hasB l a = false) ∨ (parB l = true ∧ hasB l a = true ∧ hasB l b = false))) := by
  unfold unionOk
  cases parB l <;> cases hasB l a <;> cases hasB l b <;> simp

end Go.Proofs.YtobgkfpjokfbaaaGreatDoor
