/-
  PROVED HERE: the law FnExactGoodPoly's own run, at every list of products. No other condition.
-/
import Derived.Test.YtghhmallbmdoaaaIPolyGood
import Derived.Test.YtghhmallbmdoaaaMonoCopy
import Derived.Test.YtghhmallbmdoaaaMonoEq
import Derived.Test.YtghhmallbmdoaaaMonoIn
namespace Go.Proofs.Ytghhmallbmdoaaa
open Go.ChangeShapes Go.WideShapes Go.ChangeAt Go.RowKit
set_option linter.unusedVariables false

theorem goodPolyLaw_any (a : Option Addr) (len cap : Nat) (p : List Mon) (w : World) (h : PSl w a len p) (hm : len ≤ 9223372036854775807) :
    Calls Try.prog 3 #[.slice a len cap] w fun e w' => e = .returned (.bool true) ∧ Below w.heap.size w w' := by
  have hll := h.1
  have HZ := (show Hid _ from szP_any a len cap p 1048576 w h ⟨by omega, by omega⟩ hm)
  have HI : Hid (∀ W (g : Option Addr), PSl W g len p → Calls Try.prog 10 #[.slice g len len] W fun e w' => e = .returned (.bool (polyB p)) ∧ Below W.heap.size W w') := fun W g hW => implPoly_any g len len p W hW hm
  have HS : Hid (∀ W (g : Option Addr), PSl W g len p → Calls Try.prog 8 #[.slice g len len] W fun e w' => e = .returned (.bool (polyB p)) ∧ Below W.heap.size W w') := fun W g hW => specPoly_any g len len p W hW hm
  generalize polyB p = G at HI HS
  have hGG : (G != G) = false := by simp
  go_enter Try.func3, Try.ntmps3
  go_wp2_with fail
  refine Calls.mono HZ.out ?_
  rintro e w1 ⟨z, rfl, hb1, hz⟩
  clear HZ
  rcases hz with hz | ⟨hz, hz1, hz2⟩
  · go_wp2
    go_ret
    exact ⟨rfl, hb1⟩
  · have hn : len ≤ 1048576 := by unfold lensUp at hz2; omega
    have hp : ∀ i, i < len → (p.getD i ([], 0)).1.length ≤ 1048576 := fun i hi => by have := lens_le p len i hi hll; omega
    have HC : Hid (∀ W, PSl W a len p → Calls Try.prog 9 #[.slice a len cap] W fun e w' => e = .returned (.slice (some ⟨W.heap.size, 0, none⟩) len len) ∧ Below W.heap.size W w' ∧ PSl w' (some ⟨W.heap.size, 0, none⟩) len p) := fun W hW => (copyP_mine a len cap p W hW hn hp).mono fun e w' ⟨h1, h2, h3⟩ => ⟨h1, h2, h3.psl (fun i hi => by have := hp i hi; omega)⟩
    have HE : Hid (∀ W (g g' : Option Addr), PSl W g len p → PSl W g' len p → Calls Try.prog 11 #[.slice g len len, .slice g' len len] W fun e w' => e = .returned (.bool true) ∧ Below W.heap.size W w') := fun W g g' h1 h2 => eqP_same g g' len len len p W h1 h2 hn hp
    have hz' : ¬ z < 0 := by omega
    have h1 := h.keep hb1
    clear hp hz2
    go_wp2_with fail
    refine (HC.out _ h1).mono ?_
    rintro e w2 ⟨rfl, hb2, hs2⟩
    have hB2 := hb1.trans (hb2.mono hb1.size)
    clear hb2
    go_wp2_with fail
    refine (HS.out _ _ hs2).mono ?_
    rintro e w3 ⟨rfl, hb3⟩
    have hB3 := hB2.trans (hb3.mono hB2.size)
    clear hb3 hs2 HS hB2
    go_wp2_with fail
    refine (HC.out _ (h.keep hB3)).mono ?_
    rintro e w4 ⟨rfl, hb4, hs4⟩
    have hB4 := hB3.trans (hb4.mono hB3.size)
    clear hb4 hB3
    go_wp2_with fail
    refine (HI.out _ _ hs4).mono ?_
    rintro e w5 ⟨rfl, hb5⟩
    have hB5 := hB4.trans (hb5.mono hB4.size)
    have hs5 := hs4.keep hb5
    clear hb5 hB4 hs4 HI
    go_wp2_with fail
    refine (HC.out _ (h.keep hB5)).mono ?_
    rintro e w6 ⟨rfl, hb6, hs6⟩
    have hB6 := hB5.trans (hb6.mono hB5.size)
    have hs6' := hs5.keep hb6
    clear hb6 hB5 hs5
    go_wp2_with fail
    refine (HE.out _ _ _ hs6' hs6).mono ?_
    rintro e w7 ⟨rfl, hb7⟩
    have hB7 := hB6.trans (hb7.mono hB6.size)
    go_wp2
    go_ret
    exact ⟨rfl, hB7⟩
end Go.Proofs.Ytghhmallbmdoaaa
