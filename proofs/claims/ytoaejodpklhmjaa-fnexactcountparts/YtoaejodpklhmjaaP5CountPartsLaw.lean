/-
  PROVED HERE: the law FnExactCountParts's own run, at every argument. No other condition.
-/
import Derived.Test.YtoaejodpklhmjaaP5Count
import Derived.Test.YtoaejodpklhmjaaCopyI
import Derived.Test.YtoaejodpklhmjaaInts
import Derived.Test.YtoaejodpklhmjaaP5Keeps
import Derived.Test.YtoaejodpklhmjaaRow
namespace Go.Proofs.Ytoaejodpklhmjaa
open Go.ChangeShapes Go.WideShapes Go.ChangeAt Go.RowKit
set_option linter.unusedVariables false

set_option maxHeartbeats 1600000 in
theorem countLaw_any (a : Option Addr) (len cap : Nat) (l : List Int) (w : World) (h : Sl w a len l) (hm : len ≤ 9223372036854775807) :
    Calls Try.prog 8 #[.slice a len cap] w fun e w' => e = .returned (.bool true) ∧ Below w.heap.size w w' := by
  by_cases hna : len ≤ 1048576
  · have hbia : ¬ (1048576 : Int) < len := by omega
    have HS : Hid (∀ W (g0 : Option Addr), Sl W g0 len l → Calls Try.prog 38 #[.slice g0 len len] W fun e w' => e = .returned (.tuple #[.int .i64 (countR l), .bool (partB l)]) ∧ Below W.heap.size W w') := fun W g0 hW0 => (specCount_any g0 len len l W hW0 hm).mono fun e w' ⟨t1, t2⟩ => ⟨t1, by rw [t2]; exact Below.refl _ _⟩
    have HI : Hid (∀ W (g0 : Option Addr), Sl W g0 len l → Calls Try.prog 32 #[.slice g0 len len] W fun e w' => e = .returned (.tuple #[.int .i64 (countR l), .bool (partB l)]) ∧ Below W.heap.size W w') := fun W g0 hW0 => implCount2_any g0 len len l W hW0 hm
    have HCa : Hid (∀ W, Sl W a len l → Calls Try.prog 39 #[.slice a len cap] W fun e w' => e = .returned (.slice (some ⟨W.heap.size, 0, none⟩) len len) ∧ Below W.heap.size W w' ∧ Sl w' (some ⟨W.heap.size, 0, none⟩) len l ∧ MineI w' W.heap.size len) := fun W hW => copyI_mine a len cap l W hW hna
    have HEa : Hid (∀ W (g g' : Option Addr), Sl W g len l → Sl W g' len l → Calls Try.prog 40 #[.slice g len len, .slice g' len len] W fun e w' => e = .returned (.bool true) ∧ Below W.heap.size W w') := fun W g g' h1 h2 => eqI_same g g' len len len l W h1 h2 hna
    generalize countR l = VA at HS HI
    have hVA : (VA != VA) = false := by simp
    generalize partB l = VB at HS HI
    have hVB : (VB != VB) = false := by simp
    go_enter Try.func8, Try.ntmps8
    go_wp2_with fail
    refine (HCa.out _ h).mono ?_
    rintro e w2 ⟨rfl, hb2, hs2, _⟩
    have hB2 := hb2
    go_wp2_with fail
    refine (HS.out _ _ hs2).mono ?_
    rintro e w3 ⟨rfl, hb3⟩
    have hB3 := hB2.trans (hb3.mono hB2.size)
    go_wp2_with fail
    refine (HCa.out _ (h.keep hB3)).mono ?_
    rintro e w4 ⟨rfl, hb4, hs4, _⟩
    have hB4 := hB3.trans (hb4.mono hB3.size)
    go_wp2_with fail
    refine (HI.out _ _ hs4).mono ?_
    rintro e w5 ⟨rfl, hb5⟩
    have hB5 := hB4.trans (hb5.mono hB4.size)
    have hs4k5 := hs4.keep hb5
    go_wp2_with fail
    refine (HCa.out _ (h.keep hB5)).mono ?_
    rintro e w6 ⟨rfl, hb6, hs6, _⟩
    have hB6 := hB5.trans (hb6.mono hB5.size)
    have hs4k5k6 := hs4k5.keep hb6
    go_wp2_with fail
    refine (HEa.out _ _ _ hs4k5k6 hs6).mono ?_
    rintro e w7 ⟨rfl, hb7⟩
    have hB7 := hB6.trans (hb7.mono hB6.size)
    have hs4k5k6k7 := hs4k5k6.keep hb7
    go_wp2
    go_ret
    exact ⟨rfl, hB7⟩
  · have hbia : (1048576 : Int) < len := by omega
    go_enter Try.func8, Try.ntmps8
    go_wp2
    go_ret
    exact ⟨rfl, Below.refl _ _⟩
end Go.Proofs.Ytoaejodpklhmjaa
