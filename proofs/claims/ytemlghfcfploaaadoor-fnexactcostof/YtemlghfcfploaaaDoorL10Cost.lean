/-
  PROVED HERE: what a term costs, the program's and the model's, at every list of nodes; in a world whose tables of arities and of costs are laid. No other condition.
-/
import Derived.Test.YtemlghfcfploaaaDoorL10Op
import Derived.Test.YtemlghfcfploaaaDoorGood
import Derived.Test.YtemlghfcfploaaaDoorIGood
namespace Go.Proofs.YtemlghfcfploaaaDoor
open Go.ChangeShapes Go.WideShapes Go.ChangeAt Go.RowKit
set_option linter.unusedVariables false

/-- What the first k nodes of a term cost. -/
def cstK (l : List (Int × Int)) : Nat → Int
  | 0 => 0
  | k + 1 => cstK l k + cst (l.getD k (0, 0)).1
theorem cstK_le (l : List (Int × Int)) (k : Nat) : 0 ≤ cstK l k ∧ cstK l k ≤ 20 * k := by
  induction k with
  | zero => exact ⟨Int.le_refl _, by simp [cstK]⟩
  | succ k ih =>
    have := cst_pos (l.getD k (0, 0)).1
    simp only [cstK]
    omega
theorem pile_ops (l : List (Int × Int)) : ∀ p q : Int, pile l p = some q → ∀ k, k < l.length → 0 ≤ ar (l.getD k (0, 0)).1 := by
  induction l with
  | nil => intro p q _ k hk; simp at hk
  | cons x r ih =>
    obtain ⟨op, n⟩ := x
    intro p q h k hk
    simp only [pile] at h
    split at h
    · rename_i hf
      cases k with
      | zero =>
        rw [fits_eq] at hf
        simp only [Bool.and_eq_true, decide_eq_true_eq] at hf
        exact hf.1.1
      | succ k =>
        have := ih _ _ h k (by simp at hk; omega)
        simpa using this
    · cases h
theorem good_ops {l : List (Int × Int)} (h : goodB l = true) (k : Nat) (hk : k < l.length) : 1 ≤ (l.getD k (0, 0)).1 ∧ (l.getD k (0, 0)).1 ≤ 11 := by
  have := pile_ops l 0 1 (good_pile h).1 k hk
  have hr : ¬ ((l.getD k (0, 0)).1 < 1 ∨ 11 < (l.getD k (0, 0)).1) := fun hc => by rw [ar_out _ hc] at this; omega
  omega

theorem l10Cost_any (a : Option Addr) (len cap : Nat) (l : List (Int × Int)) (w : World) (h : NSl w a len l) (hm : len ≤ 40) :
    Calls Tryd.prog 22 #[.slice a len cap] w fun e w' => e = .returned (.int .i64 (cstK l len)) ∧ Below w.heap.size w w' := by
  have hll := h.1
  go_enter Tryd.func22, Tryd.ntmps22
  go_wp2_with fail
  go_loopw [3, 8] (fun x i wr => ∃ (k : Nat), k ≤ len ∧ i = .int .i64 k ∧ x = .int .i64 (cstK l k) ∧ Below w.heap.size w wr) (fun _ i _ => len - (intOf i).toNat)
  case atStart => exact ⟨0, Nat.zero_le _, rfl, rfl, Below.refl _ _⟩
  case round =>
    obtain ⟨k, hk, rfl, rfl, hbr⟩ := hrel
    by_cases hlt : k < len
    · obtain ⟨b, off, rfl, hbl, hc⟩ := h.at (by omega)
      have c1 := (hbr.cell (p := ⟨b, off + k * 2, none⟩) hbl).trans (hc k hlt).1
      have c2 := (hbr.cell (p := ⟨b, off + k * 2 + 1, none⟩) hbl).trans (hc k hlt).2
      have hstep : cstK l (k + 1) = cstK l k + cst (l.getD k (0, 0)).1 := rfl
      have hle := cstK_le l k
      have hcp := cst_pos (l.getD k (0, 0)).1
      clear hc h
      generalize (l.getD k (0, 0)).1 = x at c1 hstep hcp
      generalize (l.getD k (0, 0)).2 = y at c2
      have HS : Hid (cstK l (k + 1) = cstK l k + cst x) := hstep
      clear hstep
      have HC : Hid (∀ W, Calls Tryd.prog 19 #[.int .i64 x] W fun e w' => e = .returned (.int .i64 (cst x)) ∧ w' = W) := fun W => l10Op_any x W
      generalize cst x = C at HC HS hcp
      generalize cstK l k = S at HS hle ⊢
      obtain ⟨p1, p2⟩ := hle
      obtain ⟨p3, p4⟩ := hcp
      have hbr' := hbr.alloc hbr.size (.cells #[.int .i64 x, .int .i64 y] 50)
      go_wp2_with (go_at_call 19; refine Calls.mono (HC.out _) ?_; rintro e w1 ⟨rfl, rfl⟩)
      go_roundw
      case rel => exact ⟨k + 1, by omega, by go_num, by rw [HS.out], hbr'⟩
      case measure => simp [intOf]; omega
    · obtain rfl : k = len := by omega
      go_wp2
      go_ret
      exact ⟨rfl, hbr⟩
/-- What CostOf tells. -/
def costOf (l : List (Int × Int)) : Int := if goodB l = true then cstK l l.length else 0
theorem specCost_any (a : Option Addr) (len cap : Nat) (l : List (Int × Int)) (w : World) (h : NSl w a len l) (hm : len ≤ 9223372036854775807) :
    Calls Tryd.prog 9 #[.slice a len cap] w fun e w' => e = .returned (.tuple #[.int .i64 (costOf l), .bool (goodB l)]) ∧ Below w.heap.size w w' := by
  have hll := h.1
  have HG := (show Hid _ from specGood_any a len cap l w h hm)
  unfold costOf
  by_cases hg : goodB l = true
  · have h40 := (good_pile hg).2.2
    have HC : Hid (∀ W, Below w.heap.size w W → Calls Tryd.prog 22 #[.slice a len cap] W fun e w' => e = .returned (.int .i64 (cstK l len)) ∧ Below W.heap.size W w') := fun W hW => l10Cost_any a len cap l W (h.keep hW) (by omega)
    rw [if_pos hg, hll]
    rw [hg] at HG ⊢
    generalize cstK l len = C at HC ⊢
    clear h hll h40 hg hm
    go_enter Tryd.func9, Tryd.ntmps9
    go_wp2_with fail
    refine Calls.mono HG.out ?_
    rintro e w2 ⟨rfl, hb2⟩
    go_wp2_with fail
    refine Calls.mono (HC.out _ hb2) ?_
    rintro e w3 ⟨rfl, hb3⟩
    go_wp2
    go_ret2
    exact ⟨rfl, hb2.trans (hb3.mono hb2.size)⟩
  · rw [if_neg hg]
    rw [Bool.not_eq_true] at hg
    rw [hg] at HG ⊢
    clear h hll hg hm
    go_enter Tryd.func9, Tryd.ntmps9
    go_wp2_with fail
    refine Calls.mono HG.out ?_
    rintro e w2 ⟨rfl, hb2⟩
    go_wp2
    go_ret2
    exact ⟨rfl, hb2⟩
theorem implCost_any (a : Option Addr) (len cap : Nat) (l : List (Int × Int)) (w : World) (ht : Tab w) (hc : Cst w) (h : NSl w a len l) (hm : len ≤ 9223372036854775807) :
    Calls Tryd.prog 11 #[.slice a len cap] w fun e w' => e = .returned (.tuple #[.int .i64 (costOf l), .bool (goodB l)]) ∧ Below w.heap.size w w' := by
  have hll := h.1
  have HG := (show Hid _ from implGood_any a len cap l w ht h hm)
  unfold costOf
  by_cases hg : goodB l = true
  · have h40 := (good_pile hg).2.2
    have HO := (show Hid _ from fun k hk => good_ops hg k hk)
    rw [if_pos hg, hll]
    rw [hg] at HG ⊢
    have HT : Hid (Cst w) := hc
    clear hg hm ht hc
    go_enter Tryd.func11, Tryd.ntmps11
    go_wp2_with fail
    refine Calls.mono HG.out ?_
    rintro e w2 ⟨rfl, hb2⟩
    clear HG
    go_wp2_with fail
    go_loopw [4, 12] (fun x i wr => ∃ (k : Nat), k ≤ len ∧ i = .int .i64 k ∧ x = .int .i64 (cstK l k) ∧ Below w.heap.size w wr) (fun _ i _ => len - (intOf i).toNat)
    case atStart => exact ⟨0, Nat.zero_le _, rfl, rfl, hb2⟩
    case round =>
      obtain ⟨k, hk, rfl, rfl, hbr⟩ := hrel
      by_cases hlt : k < len
      · obtain ⟨b, off, rfl, hbl, hc⟩ := h.at (by omega)
        have c1 := (hbr.cell (p := ⟨b, off + k * 2, none⟩) hbl).trans (hc k hlt).1
        have c2 := (hbr.cell (p := ⟨b, off + k * 2 + 1, none⟩) hbl).trans (hc k hlt).2
        have hstep : cstK l (k + 1) = cstK l k + cst (l.getD k (0, 0)).1 := rfl
        have hle := cstK_le l k
        have hcp := cst_pos (l.getD k (0, 0)).1
        obtain ⟨o1, o2⟩ := HO.out k (by omega)
        clear hc h
        generalize (l.getD k (0, 0)).1 = x at c1 hstep hcp o1 o2
        generalize (l.getD k (0, 0)).2 = y at c2
        obtain ⟨n, rfl⟩ := Int.eq_ofNat_of_zero_le (show 0 ≤ x by omega)
        have hbr' := hbr.alloc hbr.size (.cells #[.int .i64 n, .int .i64 y] 50)
        have c3 := (HT.out.keeps hbr') n (by omega)
        rw [ctab_get n (by omega)] at c3
        have HS : Hid (cstK l (k + 1) = cstK l k + cst n) := hstep
        clear hstep
        have o3 : (n : Int) < 12 := by omega
        generalize cst n = C at HS hcp c3
        generalize cstK l k = S at HS hle ⊢
        obtain ⟨p1, p2⟩ := hle
        obtain ⟨p3, p4⟩ := hcp
        clear HO HT
        go_wp2
        go_roundw
        case rel => exact ⟨k + 1, by omega, by go_num, by rw [HS.out], hbr'⟩
        case measure => simp [intOf]; omega
      · obtain rfl : k = len := by omega
        go_wp2
        go_ret2
        exact ⟨rfl, hbr⟩
  · rw [if_neg hg]
    rw [Bool.not_eq_true] at hg
    rw [hg] at HG ⊢
    clear h hll hg hm hc ht
    go_enter Tryd.func11, Tryd.ntmps11
    go_wp2_with fail
    refine Calls.mono HG.out ?_
    rintro e w2 ⟨rfl, hb2⟩
    go_wp2
    go_ret2
    exact ⟨rfl, hb2⟩
end Go.Proofs.YtemlghfcfploaaaDoor
