/-
  PROVED HERE: the law FnExactCostOf's own run, at every list of nodes, in a world whose tables of arities and of costs are laid. No other condition.
-/
import Derived.Test.YtemlghfcfploaaaDoorL10Cost
import Derived.Test.YtemlghfcfploaaaDoorNodes
namespace Go.Proofs.YtemlghfcfploaaaDoor
open Go.ChangeShapes Go.WideShapes Go.ChangeAt Go.RowKit
set_option linter.unusedVariables false

theorem costLaw_any (a : Option Addr) (len cap : Nat) (l : List (Int × Int)) (w : World) (ht : Tab w) (hc : Cst w) (h : NSl w a len l) (hm : len ≤ 9223372036854775807) :
    Calls Tryd.prog 4 #[.slice a len cap] w fun e w' => e = .returned (.bool true) ∧ Below w.heap.size w w' := by
  have hll := h.1
  have HZ := sz_any a len cap 1048576 w (Nat.le_refl _) hm
  by_cases hn : len ≤ 1048576
  · rw [if_pos hn] at HZ
    have hz0 : ¬ ((1048576 - len : Nat) : Int) < 0 := by omega
    generalize ((1048576 - len : Nat) : Int) = z at HZ hz0
    have HZ' := (show Hid _ from HZ)
    have HC : Hid (∀ W, NSl W a len l → Calls Tryd.prog 10 #[.slice a len cap] W fun e w' => e = .returned (.slice (some ⟨W.heap.size, 0, none⟩) len len) ∧ Below W.heap.size W w' ∧ NSl w' (some ⟨W.heap.size, 0, none⟩) len l) := fun W hW => copyN_any a len cap l W hW hn
    have HSp : Hid (∀ W (g : Option Addr), NSl W g len l → Calls Tryd.prog 9 #[.slice g len len] W fun e w' => e = .returned (.tuple #[.int .i64 (costOf l), .bool (goodB l)]) ∧ Below W.heap.size W w') := fun W g hW => specCost_any g len len l W hW hm
    have HIm : Hid (∀ W (g : Option Addr), Tab W → Cst W → NSl W g len l → Calls Tryd.prog 11 #[.slice g len len] W fun e w' => e = .returned (.tuple #[.int .i64 (costOf l), .bool (goodB l)]) ∧ Below W.heap.size W w') := fun W g hW hV hS => implCost_any g len len l W hW hV hS hm
    have HE : Hid (∀ W (g g' : Option Addr), NSl W g len l → NSl W g' len l → Calls Tryd.prog 12 #[.slice g len len, .slice g' len len] W fun e w' => e = .returned (.bool true) ∧ Below W.heap.size W w') := fun W g g' h1 h2 => eqN_same g g' len len len l W h1 h2 hn
    have HP : Hid (∀ W, Below w.heap.size w W → Tab W ∧ Cst W) := fun W hW => ⟨ht.keeps hW, hc.keeps hW⟩
    generalize goodB l = G at HSp HIm
    generalize costOf l = V at HSp HIm
    have hVV : (V != V) = false := by simp
    have hGG : (G != G) = false := by simp
    clear HZ ht hc
    go_enter Tryd.func4, Tryd.ntmps4
    go_wp2_with fail
    refine Calls.mono HZ'.out ?_
    rintro e w1 ⟨rfl, rfl⟩
    clear HZ'
    go_wp2_with fail
    refine (HC.out _ h).mono ?_
    rintro e w2 ⟨rfl, hb2, hs2⟩
    go_wp2_with fail
    refine (HSp.out _ _ hs2).mono ?_
    rintro e w3 ⟨rfl, hb3⟩
    have hB3 := hb2.trans (hb3.mono hb2.size)
    clear hb2 hb3 hs2 HSp
    go_wp2_with fail
    refine (HC.out _ (h.keep hB3)).mono ?_
    rintro e w4 ⟨rfl, hb4, hs4⟩
    have hB4 := hB3.trans (hb4.mono hB3.size)
    clear hb4 hB3
    go_wp2_with fail
    refine (HIm.out _ _ (HP.out _ hB4).1 (HP.out _ hB4).2 hs4).mono ?_
    rintro e w5 ⟨rfl, hb5⟩
    have hB5 := hB4.trans (hb5.mono hB4.size)
    have hs5 := hs4.keep hb5
    clear hb5 hB4 hs4 HIm
    go_wp2_with fail
    refine (HC.out _ (h.keep hB5)).mono ?_
    rintro e w6 ⟨rfl, hb6, hs6⟩
    have hB6 := hB5.trans (hb6.mono hB5.size)
    have hs6' := hs5.keep hb6
    clear hb6 hB5 hs5
    go_wp2_with fail
    refine (HE.out _ _ _ hs6' hs6).mono ?_
    rintro e w7 ⟨rfl, hb7⟩
    have hB7 := hB6.trans (hb7.mono hB6.size)
    go_wp2
    go_ret
    exact ⟨rfl, hB7⟩
  · rw [if_neg hn] at HZ
    have HZ' := (show Hid _ from HZ)
    clear HZ ht hc
    go_enter Tryd.func4, Tryd.ntmps4
    go_wp2_with fail
    refine Calls.mono HZ'.out ?_
    rintro e w1 ⟨rfl, rfl⟩
    go_wp2
    go_ret
    exact ⟨rfl, Below.refl _ _⟩
end Go.Proofs.YtemlghfcfploaaaDoor
