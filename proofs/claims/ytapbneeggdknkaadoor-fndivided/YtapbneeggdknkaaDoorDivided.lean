/-
  PROVED HERE: the law FnDivided's own run, whatever the bytes; the table of arities is laid. No other condition.
-/
import Derived.Test.YtapbneeggdknkaaDoorLongs
import Derived.Test.YtapbneeggdknkaaDoorDoAll
import Derived.Test.YtapbneeggdknkaaDoorPowOdd
namespace Go.Proofs.YtapbneeggdknkaaDoor
open Go.ChangeShapes Go.WideShapes Go.ChangeAt Go.RowKit
open Odd
set_option linter.unusedVariables false

theorem two_cells' (W : World) (x y : Int) : (W.alloc (.cells #[.int .i64 x, .int .i64 y] 2)).cell? ⟨W.heap.size, 0, none⟩ = some (.int .i64 x) ∧ (W.alloc (.cells #[.int .i64 x, .int .i64 y] 2)).cell? ⟨W.heap.size, 0 + 1, none⟩ = some (.int .i64 y) := by
  constructor <;> simp [go_sem]
theorem lit_below' {W w' : World} {o : Obj} (h : Below (W.alloc o).heap.size (W.alloc o) w') : Below W.heap.size W w' :=
  ((Below.refl _ _).alloc (Nat.le_refl _) o).trans (h.mono (by simp))
theorem lit8zero (W : World) (x : Int) (ht : Tab W) : Calls Tryd.prog 9 #[.int .i64 8, .slice (some ⟨W.heap.size, 0, none⟩) 2 2] (W.alloc (.cells #[.int .i64 x, .int .i64 0] 2)) fun e w' => e = .returned (.tuple #[.int .i64 0, .bool true, .bool true]) ∧ Below W.heap.size W w' :=
  (implDo8zero _ 0 2 x _ (ht.keep ((Below.refl _ _).alloc (Nat.le_refl _) _)) (two_cells' W x 0).1 (two_cells' W x 0).2).mono fun e w' ⟨he, hb⟩ => ⟨he, lit_below' hb⟩
theorem lit8any (W : World) (x y : Int) (ht : Tab W) (h : y ≠ 0) : Calls Tryd.prog 9 #[.int .i64 8, .slice (some ⟨W.heap.size, 0, none⟩) 2 2] (W.alloc (.cells #[.int .i64 x, .int .i64 y] 2)) fun e w' => ∃ q : Int, e = .returned (.tuple #[.int .i64 q, .bool false, .bool true]) ∧ Hid (q = wrap64 (x.tdiv y)) ∧ Below W.heap.size W w' :=
  (implDo8any _ 0 2 x y _ (ht.keep ((Below.refl _ _).alloc (Nat.le_refl _) _)) h (two_cells' W x y).1 (two_cells' W x y).2).mono fun e w' ⟨he, hb⟩ => ⟨_, he, rfl, lit_below' hb⟩

theorem emod_le (a b : Int) (h : 0 ≤ a) (hb : 0 < b) : a % b ≤ a := by
  have h1 := Int.mul_ediv_add_emod a b
  have h2 : 0 ≤ b * (a / b) := Int.mul_nonneg (by omega) (Int.ediv_nonneg h (by omega))
  omega
theorem tmod_two (a : Int) : a.tmod 2 = if 0 ≤ a then a % 2 else -((-a) % 2) := by
  by_cases h : 0 ≤ a
  · rw [if_pos h, Int.tmod_eq_emod_of_nonneg h]
  · rw [if_neg h, show a = -(-a) from by omega, Int.neg_tmod, Int.tmod_eq_emod_of_nonneg (by omega)]; simp
/-- What is left of a number behind its quotient times the divisor. -/
theorem left_over (a b q : Int) (ha : InI a) (hb : 0 < b) (hq : q = wrap64 (a.tdiv b)) : wrap64 (a - wrap64 (q * b)) = a.tmod b := by
  obtain ⟨h1, h2⟩ := ha
  have e := Int.mul_tdiv_add_tmod a b
  have hqr : q = a.tdiv b := by
    rw [hq]
    have : -9223372036854775808 ≤ a.tdiv b ∧ a.tdiv b ≤ 9223372036854775807 := by
      by_cases h0 : 0 ≤ a
      · have h3 : a.tdiv b = a / b := Int.tdiv_eq_ediv_of_nonneg h0
        have h4 : a / b ≤ a := Int.ediv_le_self _ h0
        have h5 : 0 ≤ a / b := Int.ediv_nonneg h0 (by omega)
        omega
      · have h3 : a.tdiv b = -((-a) / b) := by
          rw [show a = -(-a) from by omega, Int.neg_tdiv, Int.tdiv_eq_ediv_of_nonneg (by omega)]; simp
        have h4 : (-a) / b ≤ -a := Int.ediv_le_self _ (by omega)
        have h5 : 0 ≤ (-a) / b := Int.ediv_nonneg (by omega) (by omega)
        omega
    unfold wrap64; omega
  rw [hqr, Int.mul_comm]
  have hm : b * a.tdiv b = a - a.tmod b := by omega
  rw [hm]
  have hr : (0 ≤ a → 0 ≤ a.tmod b ∧ a.tmod b ≤ a) ∧ (a < 0 → a ≤ a.tmod b ∧ a.tmod b ≤ 0) := by
    constructor
    · intro h0
      rw [Int.tmod_eq_emod_of_nonneg h0]
      exact ⟨Int.emod_nonneg _ (by omega), emod_le a b h0 (by omega)⟩
    · intro h0
      have h3 : a.tmod b = -((-a) % b) := by
        rw [show a = -(-a) from by omega, Int.neg_tmod, Int.tmod_eq_emod_of_nonneg (by omega)]; simp
      have h4 := Int.emod_nonneg (-a) (show b ≠ 0 by omega)
      have h5 : (-a) % b ≤ -a := emod_le (-a) b (by omega) (by omega)
      omega
  unfold wrap64
  by_cases h0 : 0 ≤ a
  · have := hr.1 h0; omega
  · have := hr.2 (by omega); omega

theorem left_range (a b : Int) (hb : 0 < b) : a.tmod b < b ∧ -b < a.tmod b := by
  have h1 := Int.tmod_lt_of_pos a hb
  have h2 : -b < a.tmod b := Int.lt_tmod_of_pos a hb
  exact ⟨h1, h2⟩
theorem left_sign (a b : Int) (hb : 0 < b) (h : a.tmod b ≠ 0) : (decide (a.tmod b < 0) == decide (a < 0)) = true := by
  by_cases h0 : 0 ≤ a
  · have h3 : 0 ≤ a.tmod b := Int.tmod_nonneg b h0
    have e1 : decide (a.tmod b < 0) = false := by simp; omega
    have e2 : decide (a < 0) = false := by simp; omega
    rw [e1, e2]; rfl
  · have h3 : a.tmod b = -((-a) % b) := by
      rw [show a = -(-a) from by omega, Int.neg_tmod, Int.tmod_eq_emod_of_nonneg (by omega)]; simp
    have h4 := Int.emod_nonneg (-a) (show b ≠ 0 by omega)
    have e1 : decide (a.tmod b < 0) = true := by simp; omega
    have e2 : decide (a < 0) = true := by simp; omega
    rw [e1, e2]; rfl
theorem even_mod (a : Int) (h : a % 2 = 0) : (a.tmod 2 != 0) = false := by
  have h1 : a.tmod 2 = 0 := by rw [tmod_two]; split <;> omega
  simp [h1]
theorem odd_mod (a : Int) (h : a % 2 = 1) : (a.tmod 2 != 0) = true := by
  rw [bne_iff_ne, tmod_two]; split <;> omega
theorem inv_one (a : Int) (h : a % 2 = 1) : (wrap64 (inv5 a * a) != 1) = false := by
  obtain ⟨k, hk⟩ := inv5_dvd a h
  rw [Int.mul_comm] at hk
  have : wrap64 (inv5 a * a) = 1 := by unfold wrap64; omega
  simp [this]

set_option maxRecDepth 100000 in
set_option maxHeartbeats 4000000 in
theorem lawDivided (a b : Option Addr) (len cap len' cap' : Nat) (w : World) (ht : Tab w) (hA : Bytes w w.heap.size a len) (hB : Bytes w w.heap.size b len') (hm : len ≤ 9223372036854775807) (hm' : len' ≤ 9223372036854775807) :
    Calls Tryd.prog 4 #[.slice a len cap, .slice b len' cap'] w fun e w' => e = .returned (.bool true) ∧ Below w.heap.size w w' := by
  by_cases hbig : len ≤ 1048576 ∧ len' ≤ 1048576 - len
  · obtain ⟨hl, hl'⟩ := hbig
    go_enter Tryd.func4, Tryd.ntmps4
    go_wp2_with fail
    refine (big_no _ _ _ _ _ _ _ hl hl').mono ?_
    rintro e w0 ⟨rfl, rfl⟩
    go_wp2_with fail
    refine (drawOdd _ _ _ _ hA hl).mono ?_
    rintro e w1 ⟨x, rfl, hx, hb1⟩
    have ht1 := ht.keep hb1
    have hB1 := hB.keep hb1
    have HX : Hid (InI x) := hx
    clear hx ht hB hA
    rcases Int.emod_two_eq x with hpar | hpar
    · go_wp2_with fail
      refine (PowOdd.impl_even _ _ hpar).mono ?_
      rintro e w1' ⟨rfl, rfl⟩
      go_wp2_with fail
      refine (PowOdd.spec_even _ _ hpar).mono ?_
      rintro e w1'' ⟨rfl, rfl⟩
      have hmod := even_mod x hpar
      clear hpar
      go_wp2_with fail
      refine (drawPower _ _ _ _ hB1 (by omega)).mono ?_
      rintro e w2 ⟨y, n, rfl, hy, hn, hb2⟩
      have ht2 := ht1.keep hb2
      have hB2 := hb1.trans (hb2.mono hb1.size)
      clear ht1 hB1 hb1 hb2 hy
      by_cases hout : n < 0 ∨ 64 < n
      · go_wp2_with fail
        refine (PowOdd.impl_out _ _ _ hout).mono ?_
        rintro e w2' ⟨rfl, rfl⟩
        go_wp2_with fail
        refine (PowOdd.spec_out _ _ _ hout).mono ?_
        rintro e w2'' ⟨rfl, rfl⟩
        clear hout hn
        go_wp2_with fail
        by_cases hy0 : y = 0
        · subst hy0
          refine (lit8zero _ _ ht2).mono ?_
          rintro e w3 ⟨rfl, hb3⟩
          have hB3 := hB2.trans (hb3.mono hB2.size)
          go_wp2
          go_ret
          exact ⟨rfl, hB3⟩
        · have hy1 : (y == 0) = false := by simpa using hy0
          refine (lit8any _ _ _ ht2 hy0).mono ?_
          rintro e w3 ⟨q, rfl, hq, hb3⟩
          have hB3 := hB2.trans (hb3.mono hB2.size)
          clear ht2 hB2 hb3
          by_cases hpos : 0 < y
          · by_cases hlt : y < 2147483648
            · have hr := left_over x y q HX.out hpos hq.out
              have hrr := left_range x y hpos
              have hrs := left_sign x y hpos
              generalize x.tmod y = r at hr hrr hrs
              obtain ⟨hr1, hr2⟩ := hrr
              by_cases hr0 : r = 0
              · subst hr0
                clear hrs
                go_wp2
                go_ret
                exact ⟨rfl, hB3⟩
              · have hr3 : (r == 0) = false := by simpa using hr0
                have hr4 := hrs hr0
                clear hrs
                go_wp2
                go_ret
                exact ⟨rfl, hB3⟩
            · go_wp2
              go_ret
              exact ⟨rfl, hB3⟩
          · go_wp2
            go_ret
            exact ⟨rfl, hB3⟩
      · obtain ⟨k, rfl⟩ := Int.eq_ofNat_of_zero_le (show 0 ≤ n by omega)
        have hk : k ≤ 64 := by omega
        clear hout hn
        rcases k with _ | k
        · go_wp2_with fail
          refine (PowOdd.impl_in _ 0 _ hk).mono ?_
          rintro e w2' ⟨rfl, rfl⟩
          go_wp2_with fail
          refine (PowOdd.spec_in _ 0 _ hk).mono ?_
          rintro e w2'' ⟨rfl, rfl⟩
          have hp0 : ¬ (0 : Int) < ((0 : Nat) : Int) := by omega
          go_wp2_with fail
          by_cases hy0 : y = 0
          · subst hy0
            refine (lit8zero _ _ ht2).mono ?_
            rintro e w3 ⟨rfl, hb3⟩
            have hB3 := hB2.trans (hb3.mono hB2.size)
            go_wp2
            go_ret
            exact ⟨rfl, hB3⟩
          · have hy1 : (y == 0) = false := by simpa using hy0
            refine (lit8any _ _ _ ht2 hy0).mono ?_
            rintro e w3 ⟨q, rfl, hq, hb3⟩
            have hB3 := hB2.trans (hb3.mono hB2.size)
            clear ht2 hB2 hb3
            by_cases hpos : 0 < y
            · by_cases hlt : y < 2147483648
              · have hr := left_over x y q HX.out hpos hq.out
                have hrr := left_range x y hpos
                have hrs := left_sign x y hpos
                generalize x.tmod y = r at hr hrr hrs
                obtain ⟨hr1, hr2⟩ := hrr
                by_cases hr0 : r = 0
                · subst hr0
                  clear hrs
                  go_wp2
                  go_ret
                  exact ⟨rfl, hB3⟩
                · have hr3 : (r == 0) = false := by simpa using hr0
                  have hr4 := hrs hr0
                  clear hrs
                  go_wp2
                  go_ret
                  exact ⟨rfl, hB3⟩
              · go_wp2
                go_ret
                exact ⟨rfl, hB3⟩
            · go_wp2
              go_ret
              exact ⟨rfl, hB3⟩
        · go_wp2_with fail
          refine (PowOdd.impl_in _ (k + 1) _ hk).mono ?_
          rintro e w2' ⟨rfl, rfl⟩
          go_wp2_with fail
          refine (PowOdd.spec_in _ (k + 1) _ hk).mono ?_
          rintro e w2'' ⟨rfl, rfl⟩
          have hp0 : (0 : Int) < ((k + 1 : Nat) : Int) := by omega
          rw [show PowOdd.pw y (k + 1) = wrap64 (PowOdd.pw y k * y) from rfl]
          go_wp2_with fail
          refine (PowOdd.impl_in _ k _ (by omega)).mono ?_
          rintro e w2t ⟨rfl, rfl⟩
          generalize PowOdd.pw y k = z
          go_wp2_with fail
          by_cases hy0 : y = 0
          · subst hy0
            refine (lit8zero _ _ ht2).mono ?_
            rintro e w3 ⟨rfl, hb3⟩
            have hB3 := hB2.trans (hb3.mono hB2.size)
            go_wp2
            go_ret
            exact ⟨rfl, hB3⟩
          · have hy1 : (y == 0) = false := by simpa using hy0
            refine (lit8any _ _ _ ht2 hy0).mono ?_
            rintro e w3 ⟨q, rfl, hq, hb3⟩
            have hB3 := hB2.trans (hb3.mono hB2.size)
            clear ht2 hB2 hb3
            by_cases hpos : 0 < y
            · by_cases hlt : y < 2147483648
              · have hr := left_over x y q HX.out hpos hq.out
                have hrr := left_range x y hpos
                have hrs := left_sign x y hpos
                generalize x.tmod y = r at hr hrr hrs
                obtain ⟨hr1, hr2⟩ := hrr
                by_cases hr0 : r = 0
                · subst hr0
                  clear hrs
                  go_wp2
                  go_ret
                  exact ⟨rfl, hB3⟩
                · have hr3 : (r == 0) = false := by simpa using hr0
                  have hr4 := hrs hr0
                  clear hrs
                  go_wp2
                  go_ret
                  exact ⟨rfl, hB3⟩
              · go_wp2
                go_ret
                exact ⟨rfl, hB3⟩
            · go_wp2
              go_ret
              exact ⟨rfl, hB3⟩
    · go_wp2_with fail
      refine (PowOdd.impl_odd _ _ hpar).mono ?_
      rintro e w1' ⟨rfl, rfl⟩
      go_wp2_with fail
      refine (PowOdd.spec_odd _ _ hpar).mono ?_
      rintro e w1'' ⟨rfl, rfl⟩
      have hmod := odd_mod x hpar
      have hinv := inv_one x hpar
      generalize inv5 x = iv at hinv
      clear hpar
      go_wp2_with fail
      refine (drawPower _ _ _ _ hB1 (by omega)).mono ?_
      rintro e w2 ⟨y, n, rfl, hy, hn, hb2⟩
      have ht2 := ht1.keep hb2
      have hB2 := hb1.trans (hb2.mono hb1.size)
      clear ht1 hB1 hb1 hb2 hy
      by_cases hout : n < 0 ∨ 64 < n
      · go_wp2_with fail
        refine (PowOdd.impl_out _ _ _ hout).mono ?_
        rintro e w2' ⟨rfl, rfl⟩
        go_wp2_with fail
        refine (PowOdd.spec_out _ _ _ hout).mono ?_
        rintro e w2'' ⟨rfl, rfl⟩
        clear hout hn
        go_wp2_with fail
        by_cases hy0 : y = 0
        · subst hy0
          refine (lit8zero _ _ ht2).mono ?_
          rintro e w3 ⟨rfl, hb3⟩
          have hB3 := hB2.trans (hb3.mono hB2.size)
          go_wp2
          go_ret
          exact ⟨rfl, hB3⟩
        · have hy1 : (y == 0) = false := by simpa using hy0
          refine (lit8any _ _ _ ht2 hy0).mono ?_
          rintro e w3 ⟨q, rfl, hq, hb3⟩
          have hB3 := hB2.trans (hb3.mono hB2.size)
          clear ht2 hB2 hb3
          by_cases hpos : 0 < y
          · by_cases hlt : y < 2147483648
            · have hr := left_over x y q HX.out hpos hq.out
              have hrr := left_range x y hpos
              have hrs := left_sign x y hpos
              generalize x.tmod y = r at hr hrr hrs
              obtain ⟨hr1, hr2⟩ := hrr
              by_cases hr0 : r = 0
              · subst hr0
                clear hrs
                go_wp2
                go_ret
                exact ⟨rfl, hB3⟩
              · have hr3 : (r == 0) = false := by simpa using hr0
                have hr4 := hrs hr0
                clear hrs
                go_wp2
                go_ret
                exact ⟨rfl, hB3⟩
            · go_wp2
              go_ret
              exact ⟨rfl, hB3⟩
          · go_wp2
            go_ret
            exact ⟨rfl, hB3⟩
      · obtain ⟨k, rfl⟩ := Int.eq_ofNat_of_zero_le (show 0 ≤ n by omega)
        have hk : k ≤ 64 := by omega
        clear hout hn
        rcases k with _ | k
        · go_wp2_with fail
          refine (PowOdd.impl_in _ 0 _ hk).mono ?_
          rintro e w2' ⟨rfl, rfl⟩
          go_wp2_with fail
          refine (PowOdd.spec_in _ 0 _ hk).mono ?_
          rintro e w2'' ⟨rfl, rfl⟩
          have hp0 : ¬ (0 : Int) < ((0 : Nat) : Int) := by omega
          go_wp2_with fail
          by_cases hy0 : y = 0
          · subst hy0
            refine (lit8zero _ _ ht2).mono ?_
            rintro e w3 ⟨rfl, hb3⟩
            have hB3 := hB2.trans (hb3.mono hB2.size)
            go_wp2
            go_ret
            exact ⟨rfl, hB3⟩
          · have hy1 : (y == 0) = false := by simpa using hy0
            refine (lit8any _ _ _ ht2 hy0).mono ?_
            rintro e w3 ⟨q, rfl, hq, hb3⟩
            have hB3 := hB2.trans (hb3.mono hB2.size)
            clear ht2 hB2 hb3
            by_cases hpos : 0 < y
            · by_cases hlt : y < 2147483648
              · have hr := left_over x y q HX.out hpos hq.out
                have hrr := left_range x y hpos
                have hrs := left_sign x y hpos
                generalize x.tmod y = r at hr hrr hrs
                obtain ⟨hr1, hr2⟩ := hrr
                by_cases hr0 : r = 0
                · subst hr0
                  clear hrs
                  go_wp2
                  go_ret
                  exact ⟨rfl, hB3⟩
                · have hr3 : (r == 0) = false := by simpa using hr0
                  have hr4 := hrs hr0
                  clear hrs
                  go_wp2
                  go_ret
                  exact ⟨rfl, hB3⟩
              · go_wp2
                go_ret
                exact ⟨rfl, hB3⟩
            · go_wp2
              go_ret
              exact ⟨rfl, hB3⟩
        · go_wp2_with fail
          refine (PowOdd.impl_in _ (k + 1) _ hk).mono ?_
          rintro e w2' ⟨rfl, rfl⟩
          go_wp2_with fail
          refine (PowOdd.spec_in _ (k + 1) _ hk).mono ?_
          rintro e w2'' ⟨rfl, rfl⟩
          have hp0 : (0 : Int) < ((k + 1 : Nat) : Int) := by omega
          rw [show PowOdd.pw y (k + 1) = wrap64 (PowOdd.pw y k * y) from rfl]
          go_wp2_with fail
          refine (PowOdd.impl_in _ k _ (by omega)).mono ?_
          rintro e w2t ⟨rfl, rfl⟩
          generalize PowOdd.pw y k = z
          go_wp2_with fail
          by_cases hy0 : y = 0
          · subst hy0
            refine (lit8zero _ _ ht2).mono ?_
            rintro e w3 ⟨rfl, hb3⟩
            have hB3 := hB2.trans (hb3.mono hB2.size)
            go_wp2
            go_ret
            exact ⟨rfl, hB3⟩
          · have hy1 : (y == 0) = false := by simpa using hy0
            refine (lit8any _ _ _ ht2 hy0).mono ?_
            rintro e w3 ⟨q, rfl, hq, hb3⟩
            have hB3 := hB2.trans (hb3.mono hB2.size)
            clear ht2 hB2 hb3
            by_cases hpos : 0 < y
            · by_cases hlt : y < 2147483648
              · have hr := left_over x y q HX.out hpos hq.out
                have hrr := left_range x y hpos
                have hrs := left_sign x y hpos
                generalize x.tmod y = r at hr hrr hrs
                obtain ⟨hr1, hr2⟩ := hrr
                by_cases hr0 : r = 0
                · subst hr0
                  clear hrs
                  go_wp2
                  go_ret
                  exact ⟨rfl, hB3⟩
                · have hr3 : (r == 0) = false := by simpa using hr0
                  have hr4 := hrs hr0
                  clear hrs
                  go_wp2
                  go_ret
                  exact ⟨rfl, hB3⟩
              · go_wp2
                go_ret
                exact ⟨rfl, hB3⟩
            · go_wp2
              go_ret
              exact ⟨rfl, hB3⟩
  · go_enter Tryd.func4, Tryd.ntmps4
    go_wp2_with fail
    refine (big_yes _ _ _ _ _ _ _ hbig hm hm').mono ?_
    rintro e w0 ⟨rfl, rfl⟩
    go_wp2
    go_ret
    exact ⟨rfl, Below.refl _ _⟩
end Go.Proofs.YtapbneeggdknkaaDoor
