/-
  PROVED HERE: the law FnNumText's own run, whatever the bytes. The library's tables and sentinels are laid. No other condition.
-/
import Derived.Test.YtbfoaiglecpgoaaDoorSpoil
import Derived.Test.YtbfoaiglecpgoaaDoorReadAll
namespace Go.Proofs.YtbfoaiglecpgoaaDoor
open Go.ChangeShapes Go.WideShapes Go.ChangeAt Go.RowKit
set_option linter.unusedVariables false

theorem big_no (a b : Option Addr) (len cap len' cap' : Nat) (w : World) (h : len ≤ 1048576) (h' : len' ≤ 1048576 - len) :
    Calls Tryd.prog 6 #[.slice a len cap, .slice b len' cap'] w fun e w' => e = .returned (.bool false) ∧ w' = w := by
  have h1 : ¬ (1048576 : Int) < len := by omega
  have h2 : ¬ (1048576 : Int) - len < len' := by omega
  go_enter Tryd.func6, Tryd.ntmps6
  go_wp2
  go_ret
  exact ⟨rfl, rfl⟩
theorem big_yes (a b : Option Addr) (len cap len' cap' : Nat) (w : World) (h : ¬ (len ≤ 1048576 ∧ len' ≤ 1048576 - len)) (hm : len ≤ 9223372036854775807) (hm' : len' ≤ 9223372036854775807) :
    Calls Tryd.prog 6 #[.slice a len cap, .slice b len' cap'] w fun e w' => e = .returned (.bool true) ∧ w' = w := by
  by_cases h1 : len ≤ 1048576
  · have h2 : ¬ (1048576 : Int) < len := by omega
    have h3 : (1048576 : Int) - len < len' := by omega
    go_enter Tryd.func6, Tryd.ntmps6
    go_wp2
    go_ret
    exact ⟨rfl, rfl⟩
  · have h2 : (1048576 : Int) < len := by omega
    go_enter Tryd.func6, Tryd.ntmps6
    go_wp2
    go_ret
    exact ⟨rfl, rfl⟩

theorem drawNum (w : World) (a : Option Addr) (len cap : Nat) (hb : Bytes w w.heap.size a len) (hl : len ≤ 1048576) :
    Calls Tryd.prog 7 #[.slice a len cap] w fun e w' => ∃ v : Int, e = .returned (.int .i64 v) ∧ InI v ∧ Below w.heap.size w w' := by
  go_enter Tryd.func7, Tryd.ntmps7
  go_wp2_with fail
  refine (drawOdd _ _ _ _ hb hl).mono ?_
  rintro e w1 ⟨v, rfl, hv, hb1⟩
  go_wp2
  go_ret
  exact ⟨_, rfl, hv, hb1⟩

set_option maxRecDepth 100000 in
set_option maxHeartbeats 2000000 in
theorem lawText (a b : Option Addr) (len cap len' cap' : Nat) (w : World) (hp : Pow w) (he : Errs w) (hA : Bytes w w.heap.size a len) (hB : Bytes w w.heap.size b len') (hm : len ≤ 9223372036854775807) (hm' : len' ≤ 9223372036854775807) :
    Calls Tryd.prog 3 #[.slice a len cap, .slice b len' cap'] w fun e w' => e = .returned (.bool true) ∧ Below w.heap.size w w' := by
  by_cases hbig : len ≤ 1048576 ∧ len' ≤ 1048576 - len
  · obtain ⟨hl, hl'⟩ := hbig
    go_enter Tryd.func3, Tryd.ntmps3
    go_wp2_with fail
    refine (big_no _ _ _ _ _ _ _ hl hl').mono ?_
    rintro e w0 ⟨rfl, rfl⟩
    go_wp2_with fail
    refine (drawNum _ _ _ _ hA hl).mono ?_
    rintro e w1 ⟨n, rfl, hn, hb1⟩
    have hp1 := hp.keep hb1
    have he1 := he.keep hb1
    have HB : Hid (Bytes w0 w0.heap.size b len') := hB
    clear hp he hA hB
    have H1 := impl_any n w1 hn hp1
    have H2 : Hid (∀ w, Pow w → Calls Tryd.prog 9 #[.string ⟨(Lib.itoa n).toArray⟩] w fun e w' => e = .returned (.tuple #[.int .i64 n, .bool true]) ∧ Below w.heap.size w w') := fun w hw => implRead_some n _ w hn (by simp) hw
    have H3 : Hid (∀ w, Calls Tryd.prog 10 #[.int .i64 n] w fun e w' => e = .returned (.string ⟨(Lib.itoa n).toArray⟩) ∧ Below w.heap.size w w') := fun w => spec_any n w hn
    generalize Lib.itoa n = L at H1 H2 H3
    clear hn
    go_wp2_with fail
    refine H1.mono ?_
    rintro e w2 ⟨rfl, hb2⟩
    have hp2 := hp1.keep hb2
    have he2 := he1.keep hb2
    have hB2 := hb1.trans (hb2.mono hb1.size)
    clear H1 hp1 he1 hb1 hb2
    go_wp2_with fail
    refine (H2.out _ hp2).mono ?_
    rintro e w3 ⟨rfl, hb3⟩
    have hp3 := hp2.keep hb3
    have he3 := he2.keep hb3
    have hB3 := hB2.trans (hb3.mono hB2.size)
    clear H2 hp2 he2 hB2 hb3
    go_wp2_with fail
    refine (H3.out _).mono ?_
    rintro e w4 ⟨rfl, hb4⟩
    have hp4 := hp3.keep hb4
    have he4 := he3.keep hb4
    have hB4 := hB3.trans (hb4.mono hB3.size)
    clear H3 hp3 he3 hB3 hb4
    go_wp2_with fail
    refine (drawRead _ _ _ _ (HB.out.keep hB4) (by omega)).mono ?_
    rintro e w5 ⟨t, rfl, ht, hb5⟩
    have hp5 := hp4.keep hb5
    have he5 := he4.keep hb5
    have hB5 := hB4.trans (hb5.mono hB4.size)
    clear hp4 he4 hB4 hb5 HB
    obtain ⟨v, k, G1, G2, hk1, hk2⟩ := read_any t (by omega)
    have F1 : Hid (∀ w, Calls Tryd.prog 12 #[.string t] w fun e w' => e = .returned (.tuple #[.int .i64 v, .bool k]) ∧ Below w.heap.size w w') := G1
    have F2 : Hid (∀ w, Pow w → Errs w → Calls Tryd.prog 9 #[.string t] w fun e w' => e = .returned (.tuple #[.int .i64 v, .bool k]) ∧ Below w.heap.size w w') := G2
    have K1 : Hid (k = true → InI v ∧ Lib.itoa v = t.data.toList) := hk1
    clear G1 G2 hk1 hk2
    go_wp2_with fail
    refine (F2.out _ hp5 he5).mono ?_
    rintro e w6 ⟨rfl, hb6⟩
    have hp6 := hp5.keep hb6
    have hB6 := hB5.trans (hb6.mono hB5.size)
    clear F2 hp5 he5 hB5 hb6
    go_wp2_with fail
    refine (F1.out _).mono ?_
    rintro e w7 ⟨rfl, hb7⟩
    have hp7 := hp6.keep hb7
    have hB7 := hB6.trans (hb7.mono hB6.size)
    clear F1 hp6 hB6 hb7
    cases k
    · go_wp2
      go_ret
      exact ⟨rfl, hB7⟩
    · obtain ⟨hv, hvl⟩ := K1.out rfl
      have H4 := impl_any v w7 hv hp7
      rw [hvl, ← tl] at H4
      have hne : (t.toList == t.toList) = true := by simp
      clear hv hvl K1
      go_wp2_with fail
      refine H4.mono ?_
      rintro e w8 ⟨rfl, hb8⟩
      have hB8 := hB7.trans (hb8.mono hB7.size)
      clear H4 hp7 hB7 hb8
      go_wp2
      go_ret
      exact ⟨rfl, hB8⟩
  · go_enter Tryd.func3, Tryd.ntmps3
    go_wp2_with fail
    refine (big_yes _ _ _ _ _ _ _ hbig hm hm').mono ?_
    rintro e w0 ⟨rfl, rfl⟩
    go_wp2
    go_ret
    exact ⟨rfl, Below.refl _ _⟩
end Go.Proofs.YtbfoaiglecpgoaaDoor
