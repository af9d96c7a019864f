/-
  PROVED HERE: the law FnExactEvalPoly's own run, at every list of products and every list of values. No other condition.
-/
import Derived.Test.YtghhmallbmdoaaaPolyEval
import Derived.Test.YtghhmallbmdoaaaMonoCopy
import Derived.Test.YtghhmallbmdoaaaMonoEq
import Derived.Test.YtghhmallbmdoaaaMonoIn
import Derived.Test.YtghhmallbmdoaaaCopy
import Derived.Test.YtghhmallbmdoaaaRow
namespace Go.Proofs.Ytghhmallbmdoaaa
open Go.ChangeShapes Go.WideShapes Go.ChangeAt Go.RowKit
set_option linter.unusedVariables false

theorem evalPolyLaw_any (a : Option Addr) (len cap : Nat) (p : List Mon) (b : Option Addr) (lb cb : Nat) (env : List Int) (w : World) (h : PSl w a len p) (hm : len ≤ 9223372036854775807) (hv : Sl w b lb env) (hmv : lb ≤ 9223372036854775807) :
    Calls Try.prog 6 #[.slice a len cap, .slice b lb cb] w fun e w' => e = .returned (.bool true) ∧ Below w.heap.size w w' := by
  have hll := h.1
  by_cases hb : lb ≤ 1048576
  · have hbi : ¬ (1048576 : Int) < lb := by omega
    have HZ := (show Hid _ from szP_any a len cap p 1048576 w h ⟨by omega, by omega⟩ hm)
    have HI : Hid (∀ W (g g' : Option Addr), PSl W g len p → Sl W g' lb env → Calls Try.prog 20 #[.slice g len len, .slice g' lb lb] W fun e w' => e = .returned (.tuple #[.int .i64 (evalPV p env), .bool (evalPok p env)]) ∧ Below W.heap.size W w') := fun W g g' hW hW' => implEvalP_any g len len p g' lb lb env W hW hW' hm hmv
    have HS : Hid (∀ W (g g' : Option Addr), PSl W g len p → Sl W g' lb env → Calls Try.prog 18 #[.slice g len len, .slice g' lb lb] W fun e w' => e = .returned (.tuple #[.int .i64 (evalPV p env), .bool (evalPok p env)]) ∧ Below W.heap.size W w') := fun W g g' hW hW' => specEvalP_any g len len p g' lb lb env W hW hW' hm hmv
    have HD : Hid (∀ W, Sl W b lb env → Calls Try.prog 19 #[.slice b lb cb] W fun e w' => e = .returned (.slice (some ⟨W.heap.size, 0, none⟩) lb lb) ∧ Below W.heap.size W w' ∧ Sl w' (some ⟨W.heap.size, 0, none⟩) lb env) := fun W hW => copy_any b lb cb env W hW hb
    have HF : Hid (∀ W (g g' : Option Addr), Sl W g lb env → Sl W g' lb env → Calls Try.prog 21 #[.slice g lb lb, .slice g' lb lb] W fun e w' => e = .returned (.bool true) ∧ Below W.heap.size W w') := fun W g g' h1 h2 => eq_same g g' lb lb lb env W h1 h2 hb
    generalize evalPV p env = A1 at HI HS
    generalize evalPok p env = A2 at HI HS
    have hG1 : (A1 != A1) = false := by simp
    have hG2 : (A2 != A2) = false := by simp
    go_enter Try.func6, Try.ntmps6
    go_wp2_with fail
    refine Calls.mono HZ.out ?_
    rintro e w1 ⟨z, rfl, hb1, hz⟩
    clear HZ
    rcases hz with hz | ⟨hz, hz1, hz2⟩
    · go_wp2
      go_ret
      exact ⟨rfl, hb1⟩
    · have hn : len ≤ 1048576 := by unfold lensUp at hz2; omega
      have hp : ∀ i, i < len → (p.getD i ([], 0)).1.length ≤ 1048576 := fun i hi => by have := lens_le p len i hi hll; omega
      have HC : Hid (∀ W, PSl W a len p → Calls Try.prog 9 #[.slice a len cap] W fun e w' => e = .returned (.slice (some ⟨W.heap.size, 0, none⟩) len len) ∧ Below W.heap.size W w' ∧ PSl w' (some ⟨W.heap.size, 0, none⟩) len p) := fun W hW => (copyP_mine a len cap p W hW hn hp).mono fun e w' ⟨h1, h2, h3⟩ => ⟨h1, h2, h3.psl (fun i hi => by have := hp i hi; omega)⟩
      have HE : Hid (∀ W (g g' : Option Addr), PSl W g len p → PSl W g' len p → Calls Try.prog 11 #[.slice g len len, .slice g' len len] W fun e w' => e = .returned (.bool true) ∧ Below W.heap.size W w') := fun W g g' h1 h2 => eqP_same g g' len len len p W h1 h2 hn hp
      have hz' : ¬ z < 0 := by omega
      clear hp hz2
      go_wp2_with fail
      refine (HC.out _ (h.keep hb1)).mono ?_
      rintro e w2 ⟨rfl, hb2, hs2⟩
      have hB2 := hb1.trans (hb2.mono hb1.size)
      clear hb2
      go_wp2_with fail
      refine (HD.out _ (hv.keep hB2)).mono ?_
      rintro e w3 ⟨rfl, hb3, hv3⟩
      have hs3 := hs2.keep hb3
      have hB3 := hB2.trans (hb3.mono hB2.size)
      clear hb3 hs2 hB2
      go_wp2_with fail
      refine (HS.out _ _ _ hs3 hv3).mono ?_
      rintro e w4 ⟨rfl, hb4⟩
      have hB4 := hB3.trans (hb4.mono hB3.size)
      clear hB3 hb4 hs3 hv3 HS
      go_wp2_with fail
      refine (HC.out _ (h.keep hB4)).mono ?_
      rintro e w5 ⟨rfl, hb5, hs5⟩
      have hB5 := hB4.trans (hb5.mono hB4.size)
      clear hb5 hB4
      go_wp2_with fail
      refine (HD.out _ (hv.keep hB5)).mono ?_
      rintro e w6 ⟨rfl, hb6, hv6⟩
      have hs6 := hs5.keep hb6
      have hB6 := hB5.trans (hb6.mono hB5.size)
      clear hb6 hB5 hs5
      go_wp2_with fail
      refine (HI.out _ _ _ hs6 hv6).mono ?_
      rintro e w7 ⟨rfl, hb7⟩
      have hB7 := hB6.trans (hb7.mono hB6.size)
      have hs7 := hs6.keep hb7
      have hv7 := hv6.keep hb7
      clear hb7 hB6 hs6 hv6 HI
      go_wp2_with fail
      refine (HC.out _ (h.keep hB7)).mono ?_
      rintro e w8 ⟨rfl, hb8, hs8⟩
      have hB8 := hB7.trans (hb8.mono hB7.size)
      have hs8' := hs7.keep hb8
      have hv8 := hv7.keep hb8
      clear hb8 hB7 hs7 hv7
      go_wp2_with fail
      refine (HE.out _ _ _ hs8' hs8).mono ?_
      rintro e w9 ⟨rfl, hb9⟩
      have hB9 := hB8.trans (hb9.mono hB8.size)
      have hv9 := hv8.keep hb9
      clear hb9 hB8 hs8 hs8' hv8
      go_wp2_with fail
      refine (HD.out _ (hv.keep hB9)).mono ?_
      rintro e w10 ⟨rfl, hb10, hv10⟩
      have hB10 := hB9.trans (hb10.mono hB9.size)
      have hv10' := hv9.keep hb10
      clear hb10 hB9 hv9
      go_wp2_with fail
      refine (HF.out _ _ _ hv10' hv10).mono ?_
      rintro e w11 ⟨rfl, hb11⟩
      have hB11 := hB10.trans (hb11.mono hB10.size)
      go_wp2
      go_ret
      exact ⟨rfl, hB11⟩
  · have hbi : (1048576 : Int) < lb := by omega
    go_enter Try.func6, Try.ntmps6
    go_wp2
    go_ret
    exact ⟨rfl, Below.refl _ _⟩
end Go.Proofs.Ytghhmallbmdoaaa
