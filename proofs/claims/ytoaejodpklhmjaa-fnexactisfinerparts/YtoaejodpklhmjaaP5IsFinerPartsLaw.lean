/-
  PROVED HERE: the law FnExactIsFinerParts's own run, at every argument. No other condition.
-/
import Derived.Test.YtoaejodpklhmjaaP5Meet
import Derived.Test.YtoaejodpklhmjaaCopyI
import Derived.Test.YtoaejodpklhmjaaInts
import Derived.Test.YtoaejodpklhmjaaP5Keeps
import Derived.Test.YtoaejodpklhmjaaRow
namespace Go.Proofs.Ytoaejodpklhmjaa
open Go.ChangeShapes Go.WideShapes Go.ChangeAt Go.RowKit
set_option linter.unusedVariables false

set_option maxHeartbeats 1600000 in
theorem finerLaw_any (a : Option Addr) (len cap : Nat) (l : List Int) (b : Option Addr) (lb cb : Nat) (m : List Int) (w : World) (h : Sl w a len l) (hm : len ≤ 9223372036854775807) (h2 : Sl w b lb m) (hm2 : lb ≤ 9223372036854775807) :
    Calls Try.prog 7 #[.slice a len cap, .slice b lb cb] w fun e w' => e = .returned (.bool true) ∧ Below w.heap.size w w' := by
  by_cases hna : len ≤ 1048576
  · have hbia : ¬ (1048576 : Int) < len := by omega
    by_cases hnb : lb ≤ 1048576
    · have hbib : ¬ (1048576 : Int) < lb := by omega
      have HS : Hid (∀ W (g0 g1 : Option Addr), Sl W g0 len l → Sl W g1 lb m → Calls Try.prog 36 #[.slice g0 len len, .slice g1 lb lb] W fun e w' => e = .returned (.tuple #[.bool (finerR l m), .bool (pairB l m)]) ∧ Below W.heap.size W w') := fun W g0 g1 hW0 hW1 => specFiner2_any g0 len len l g1 lb lb m W hW0 hW1 hm hm2
      have HI : Hid (∀ W (g0 g1 : Option Addr), Sl W g0 len l → Sl W g1 lb m → Calls Try.prog 27 #[.slice g0 len len, .slice g1 lb lb] W fun e w' => e = .returned (.tuple #[.bool (finerR l m), .bool (pairB l m)]) ∧ Below W.heap.size W w') := fun W g0 g1 hW0 hW1 => implFiner2_any g0 len len l g1 lb lb m W hW0 hW1 hm hm2
      have HCa : Hid (∀ W, Sl W a len l → Calls Try.prog 39 #[.slice a len cap] W fun e w' => e = .returned (.slice (some ⟨W.heap.size, 0, none⟩) len len) ∧ Below W.heap.size W w' ∧ Sl w' (some ⟨W.heap.size, 0, none⟩) len l ∧ MineI w' W.heap.size len) := fun W hW => copyI_mine a len cap l W hW hna
      have HEa : Hid (∀ W (g g' : Option Addr), Sl W g len l → Sl W g' len l → Calls Try.prog 40 #[.slice g len len, .slice g' len len] W fun e w' => e = .returned (.bool true) ∧ Below W.heap.size W w') := fun W g g' h1 h2 => eqI_same g g' len len len l W h1 h2 hna
      have HCb : Hid (∀ W, Sl W b lb m → Calls Try.prog 39 #[.slice b lb cb] W fun e w' => e = .returned (.slice (some ⟨W.heap.size, 0, none⟩) lb lb) ∧ Below W.heap.size W w' ∧ Sl w' (some ⟨W.heap.size, 0, none⟩) lb m ∧ MineI w' W.heap.size lb) := fun W hW => copyI_mine b lb cb m W hW hnb
      have HEb : Hid (∀ W (g g' : Option Addr), Sl W g lb m → Sl W g' lb m → Calls Try.prog 40 #[.slice g lb lb, .slice g' lb lb] W fun e w' => e = .returned (.bool true) ∧ Below W.heap.size W w') := fun W g g' h1 h2 => eqI_same g g' lb lb lb m W h1 h2 hnb
      generalize finerR l m = VA at HS HI
      have hVA : (VA != VA) = false := by simp
      generalize pairB l m = VB at HS HI
      have hVB : (VB != VB) = false := by simp
      go_enter Try.func7, Try.ntmps7
      go_wp2_with fail
      refine (HCa.out _ h).mono ?_
      rintro e w2 ⟨rfl, hb2, hs2, _⟩
      have hB2 := hb2
      go_wp2_with fail
      refine (HCb.out _ (h2.keep hB2)).mono ?_
      rintro e w3 ⟨rfl, hb3, hs3, _⟩
      have hB3 := hB2.trans (hb3.mono hB2.size)
      have hs2k3 := hs2.keep hb3
      go_wp2_with fail
      refine (HS.out _ _ _ hs2k3 hs3).mono ?_
      rintro e w4 ⟨rfl, hb4⟩
      have hB4 := hB3.trans (hb4.mono hB3.size)
      go_wp2_with fail
      refine (HCa.out _ (h.keep hB4)).mono ?_
      rintro e w5 ⟨rfl, hb5, hs5, _⟩
      have hB5 := hB4.trans (hb5.mono hB4.size)
      go_wp2_with fail
      refine (HCb.out _ (h2.keep hB5)).mono ?_
      rintro e w6 ⟨rfl, hb6, hs6, _⟩
      have hB6 := hB5.trans (hb6.mono hB5.size)
      have hs5k6 := hs5.keep hb6
      go_wp2_with fail
      refine (HI.out _ _ _ hs5k6 hs6).mono ?_
      rintro e w7 ⟨rfl, hb7⟩
      have hB7 := hB6.trans (hb7.mono hB6.size)
      have hs5k6k7 := hs5k6.keep hb7
      have hs6k7 := hs6.keep hb7
      go_wp2_with fail
      refine (HCa.out _ (h.keep hB7)).mono ?_
      rintro e w8 ⟨rfl, hb8, hs8, _⟩
      have hB8 := hB7.trans (hb8.mono hB7.size)
      have hs5k6k7k8 := hs5k6k7.keep hb8
      have hs6k7k8 := hs6k7.keep hb8
      go_wp2_with fail
      refine (HEa.out _ _ _ hs5k6k7k8 hs8).mono ?_
      rintro e w9 ⟨rfl, hb9⟩
      have hB9 := hB8.trans (hb9.mono hB8.size)
      have hs5k6k7k8k9 := hs5k6k7k8.keep hb9
      have hs6k7k8k9 := hs6k7k8.keep hb9
      go_wp2_with fail
      refine (HCb.out _ (h2.keep hB9)).mono ?_
      rintro e w10 ⟨rfl, hb10, hs10, _⟩
      have hB10 := hB9.trans (hb10.mono hB9.size)
      have hs5k6k7k8k9k10 := hs5k6k7k8k9.keep hb10
      have hs6k7k8k9k10 := hs6k7k8k9.keep hb10
      go_wp2_with fail
      refine (HEb.out _ _ _ hs6k7k8k9k10 hs10).mono ?_
      rintro e w11 ⟨rfl, hb11⟩
      have hB11 := hB10.trans (hb11.mono hB10.size)
      have hs5k6k7k8k9k10k11 := hs5k6k7k8k9k10.keep hb11
      have hs6k7k8k9k10k11 := hs6k7k8k9k10.keep hb11
      go_wp2
      go_ret
      exact ⟨rfl, hB11⟩
    · have hbib : (1048576 : Int) < lb := by omega
      go_enter Try.func7, Try.ntmps7
      go_wp2
      go_ret
      exact ⟨rfl, Below.refl _ _⟩
  · have hbia : (1048576 : Int) < len := by omega
    go_enter Try.func7, Try.ntmps7
    go_wp2
    go_ret
    exact ⟨rfl, Below.refl _ _⟩
end Go.Proofs.Ytoaejodpklhmjaa
