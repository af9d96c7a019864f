/-
  PROVED HERE: the law FnExactEvalTerm's own run, once the program's EvalTerm is known to answer as the model (a premise here; a theorem of the landed code where it is used).
-/
import Derived.Test.YtoppbchacdpenaaDoorNodes
import Derived.Test.YtoppbchacdpenaaDoorEvalTerm
namespace Go.Proofs.YtoppbchacdpenaaDoor
open Go.ChangeShapes Go.WideShapes Go.ChangeAt Go.RowKit
set_option linter.unusedVariables false

theorem evalLaw_any (Pw : World → Prop) (keep : ∀ W W', Pw W → Below W.heap.size W W' → Pw W')
    (HI : ∀ W (a : Option Addr) (len cap : Nat) (l : List (Int × Int)) (b : Option Addr) (lb cb : Nat) (env : List Int), Pw W → NSl W a len l → len ≤ cap → len ≤ 1048576 → Sl W b lb env → lb ≤ cb → lb ≤ 1048576 → Calls Tryd.prog 16 #[.slice a len cap, .slice b lb cb] W fun e w' => e = .returned (.tuple #[.int .i64 (evalV l env), .bool (evalTr l env), .bool (evalOk l env)]) ∧ Below W.heap.size W w')
    (a : Option Addr) (len cap : Nat) (l : List (Int × Int)) (b : Option Addr) (lb cb : Nat) (env : List Int) (w : World) (hp : Pw w) (h : NSl w a len l) (hm : len ≤ 9223372036854775807) (hv : Sl w b lb env) (hmv : lb ≤ 9223372036854775807) :
    Calls Tryd.prog 4 #[.slice a len cap, .slice b lb cb] w fun e w' => e = .returned (.bool true) ∧ Below w.heap.size w w' := by
  have hll := h.1
  have HZ := sz_any a len cap 1048576 w (Nat.le_refl _) hm
  by_cases hb : lb ≤ 1048576
  · have hbi : ¬ (1048576 : Int) < lb := by omega
    by_cases hn : len ≤ 1048576
    · rw [if_pos hn] at HZ
      have hz0 : ¬ ((1048576 - len : Nat) : Int) < 0 := by omega
      generalize ((1048576 - len : Nat) : Int) = z at HZ hz0
      have HZ' := (show Hid _ from HZ)
      have HC : Hid (∀ W, NSl W a len l → Calls Tryd.prog 11 #[.slice a len cap] W fun e w' => e = .returned (.slice (some ⟨W.heap.size, 0, none⟩) len len) ∧ Below W.heap.size W w' ∧ NSl w' (some ⟨W.heap.size, 0, none⟩) len l) := fun W hW => copyN_any a len cap l W hW hn
      have HD : Hid (∀ W, Sl W b lb env → Calls Tryd.prog 15 #[.slice b lb cb] W fun e w' => e = .returned (.slice (some ⟨W.heap.size, 0, none⟩) lb lb) ∧ Below W.heap.size W w' ∧ Sl w' (some ⟨W.heap.size, 0, none⟩) lb env) := fun W hW => copy_any b lb cb env W hW hb
      have HSp : Hid (∀ W (g g' : Option Addr), NSl W g len l → Sl W g' lb env → Calls Tryd.prog 14 #[.slice g len len, .slice g' lb lb] W fun e w' => e = .returned (.tuple #[.int .i64 (evalV l env), .bool (evalTr l env), .bool (evalOk l env)]) ∧ Below W.heap.size W w') := fun W g g' hW hW' => specEval_any g len len l g' lb lb env W hW hW' hm hmv
      have HIm : Hid (∀ W (g g' : Option Addr), Pw W → NSl W g len l → Sl W g' lb env → Calls Tryd.prog 16 #[.slice g len len, .slice g' lb lb] W fun e w' => e = .returned (.tuple #[.int .i64 (evalV l env), .bool (evalTr l env), .bool (evalOk l env)]) ∧ Below W.heap.size W w') := fun W g g' hW hS hS' => HI W g len len l g' lb lb env hW hS (Nat.le_refl _) hn hS' (Nat.le_refl _) hb
      have HE : Hid (∀ W (g g' : Option Addr), NSl W g len l → NSl W g' len l → Calls Tryd.prog 13 #[.slice g len len, .slice g' len len] W fun e w' => e = .returned (.bool true) ∧ Below W.heap.size W w') := fun W g g' h1 h2 => eqN_same g g' len len len l W h1 h2 hn
      have HF : Hid (∀ W (g g' : Option Addr), Sl W g lb env → Sl W g' lb env → Calls Tryd.prog 17 #[.slice g lb lb, .slice g' lb lb] W fun e w' => e = .returned (.bool true) ∧ Below W.heap.size W w') := fun W g g' h1 h2 => eq_same g g' lb lb lb env W h1 h2 hb
      have HP : Hid (Pw w) := hp
      have HK : Hid (∀ W W', Pw W → Below W.heap.size W W' → Pw W') := keep
      generalize evalV l env = A1 at HSp HIm
      generalize evalTr l env = A2 at HSp HIm
      generalize evalOk l env = A3 at HSp HIm
      have hG1 : (A1 != A1) = false := by simp
      have hG2 : (A2 != A2) = false := by simp
      have hG3 : (A3 != A3) = false := by simp
      clear HZ HI hp keep
      go_enter Tryd.func4, Tryd.ntmps4
      go_wp2_with fail
      refine Calls.mono HZ'.out ?_
      rintro e w1 ⟨rfl, rfl⟩
      clear HZ'
      go_wp2_with fail
      refine (HC.out _ h).mono ?_
      rintro e w2 ⟨rfl, hb2, hs2⟩
      go_wp2_with fail
      refine (HD.out _ (hv.keep hb2)).mono ?_
      rintro e w3 ⟨rfl, hb3, hv3⟩
      have hs3 := hs2.keep hb3
      have hB3 := hb2.trans (hb3.mono hb2.size)
      clear hb2 hb3 hs2
      go_wp2_with fail
      refine (HSp.out _ _ _ hs3 hv3).mono ?_
      rintro e w4 ⟨rfl, hb4⟩
      have hB4 := hB3.trans (hb4.mono hB3.size)
      clear hB3 hb4 hs3 hv3 HSp
      go_wp2_with fail
      refine (HC.out _ (h.keep hB4)).mono ?_
      rintro e w5 ⟨rfl, hb5, hs5⟩
      have hB5 := hB4.trans (hb5.mono hB4.size)
      clear hb5 hB4
      go_wp2_with fail
      refine (HD.out _ (hv.keep hB5)).mono ?_
      rintro e w6 ⟨rfl, hb6, hv6⟩
      have hs6 := hs5.keep hb6
      have hB6 := hB5.trans (hb6.mono hB5.size)
      clear hb6 hB5 hs5
      go_wp2_with fail
      refine (HIm.out _ _ _ (HK.out _ _ HP.out hB6) hs6 hv6).mono ?_
      rintro e w7 ⟨rfl, hb7⟩
      have hB7 := hB6.trans (hb7.mono hB6.size)
      have hs7 := hs6.keep hb7
      have hv7 := hv6.keep hb7
      clear hb7 hB6 hs6 hv6 HIm
      go_wp2_with fail
      refine (HC.out _ (h.keep hB7)).mono ?_
      rintro e w8 ⟨rfl, hb8, hs8⟩
      have hB8 := hB7.trans (hb8.mono hB7.size)
      have hs8' := hs7.keep hb8
      have hv8 := hv7.keep hb8
      clear hb8 hB7 hs7 hv7
      go_wp2_with fail
      refine (HE.out _ _ _ hs8' hs8).mono ?_
      rintro e w9 ⟨rfl, hb9⟩
      have hB9 := hB8.trans (hb9.mono hB8.size)
      have hv9 := hv8.keep hb9
      clear hb9 hB8 hs8 hs8' hv8
      go_wp2_with fail
      refine (HD.out _ (hv.keep hB9)).mono ?_
      rintro e w10 ⟨rfl, hb10, hv10⟩
      have hB10 := hB9.trans (hb10.mono hB9.size)
      have hv10' := hv9.keep hb10
      clear hb10 hB9 hv9
      go_wp2_with fail
      refine (HF.out _ _ _ hv10' hv10).mono ?_
      rintro e w11 ⟨rfl, hb11⟩
      have hB11 := hB10.trans (hb11.mono hB10.size)
      go_wp2
      go_ret
      exact ⟨rfl, hB11⟩
    · rw [if_neg hn] at HZ
      have HZ' := (show Hid _ from HZ)
      clear HZ HI hp keep
      go_enter Tryd.func4, Tryd.ntmps4
      go_wp2_with fail
      refine Calls.mono HZ'.out ?_
      rintro e w1 ⟨rfl, rfl⟩
      go_wp2
      go_ret
      exact ⟨rfl, Below.refl _ _⟩
  · have hbi : (1048576 : Int) < lb := by omega
    clear HZ HI hp keep
    go_enter Tryd.func4, Tryd.ntmps4
    go_wp2
    go_ret
    exact ⟨rfl, Below.refl _ _⟩
end Go.Proofs.YtoppbchacdpenaaDoor
