/-
  PROVED HERE: what the program's PolyOf answers, at every list of nodes, in a world whose table of arities is laid. No other condition.
-/
import Derived.Test.YtpjgjpjfchfmlaaDoorIPolyTree
namespace Go.Proofs.YtpjgjpjfchfmlaaDoor
open Go.ChangeShapes Go.WideShapes Go.ChangeAt Go.RowKit
set_option linter.unusedVariables false

/-- The sum of a term; none: it is no ring term, or its sum is too great. -/
def ofT (l : List (Int × Int)) : Option (List Mon) := if isRingB l = true then ofF l l.length (l.length - 1) else none
theorem implPolyOf_any (a : Option Addr) (len cap : Nat) (l : List (Int × Int)) (w : World) (hT : Tab w) (h : NSl w a len l) (hm : len ≤ 9223372036854775807) (hI : ∀ k, InI (l.getD k (0, 0)).2) :
    Calls Tryd.prog 8 #[.slice a len cap] w fun r w' => IOf w (ofT l) r w' := by
  have HR := (show Hid _ from implIsRing_any a len cap l w hT h hm)
  have hll := h.1
  have HT : Hid (Tab w) := hT
  have HS : Hid (NSl w a len l) := h
  unfold ofT
  cases hg : isRingB l with
  | true =>
    have hgr : goodB l = true ∧ ringB l = true := by unfold isRingB at hg; rw [Bool.and_eq_true] at hg; exact hg
    obtain ⟨hp, g1, g2⟩ := good_pile hgr.1
    rw [hg, hgr.1] at HR
    rw [if_pos rfl]
    have HTr : Hid (∀ W, Tab W → NSl W a len l → Calls Tryd.prog 22 #[.slice a len cap] W fun e w' => ∃ v, e = .returned v ∧ IsTree w' (fun g => W.heap.size ≤ g) l len (len - 1) v ∧ Below W.heap.size W w') := fun W hT hS => treeOf_any hp a len cap W hT hS (by omega) (by omega)
    have HP : Hid (∀ W ok x, IsTree W ok l len (len - 1) x → Tab W → Calls Tryd.prog 21 #[x] W fun r w' => IOf W (ofF l l.length (l.length - 1)) r w') := fun W ok x ht hT => by
      rw [hll]
      exact polyTree_any hp hgr.2 hI ok len (len - 1) x W (by omega) ht hT W (Below.refl _ _)
    obtain ⟨O, hO⟩ : ∃ O, ofF l l.length (l.length - 1) = O := ⟨_, rfl⟩
    rw [hO] at HP ⊢
    clear h hT hp hg hgr hO hI
    go_enter Tryd.func8, Tryd.ntmps8
    go_wp2_with fail
    refine Calls.mono HR.out ?_
    rintro e w1 ⟨rfl, hb1⟩
    clear HR
    go_wp2_with fail
    refine Calls.mono (HTr.out _ (HT.out.keeps hb1) (HS.out.keep hb1)) ?_
    rintro e w2 ⟨x, rfl, htree, hb2⟩
    have hB2 := hb1.trans (hb2.mono hb1.size)
    have HX := (show Hid _ from htree)
    obtain ⟨tt, xx, rfl⟩ := htree.form
    clear htree
    go_wp2_with fail
    refine Calls.mono (HP.out _ _ _ HX.out (HT.out.keeps hB2)) ?_
    rintro e w3 h3
    obtain ⟨v3, rfl, o3, hb3⟩ := IOf.up hB2 h3
    go_wp2
    go_ret2
    exact ⟨_, rfl, o3, hb3⟩
  | false =>
    rw [hg] at HR
    rw [if_neg (by simp)]
    obtain ⟨G, hG⟩ : ∃ G, goodB l = G := ⟨_, rfl⟩
    rw [hG] at HR
    clear h hT hg hI hG
    go_enter Tryd.func8, Tryd.ntmps8
    go_wp2_with fail
    refine Calls.mono HR.out ?_
    rintro e w1 ⟨rfl, hb1⟩
    clear HR
    go_wp2
    go_ret2
    exact ⟨_, rfl, OwnV.nil _ _, hb1⟩
end Go.Proofs.YtpjgjpjfchfmlaaDoor
