/-
  PROVED HERE: what the program says of a term whose part at a node is replaced, at every two lists of nodes and every number, in a world whose table of arities is laid. No other condition.
-/
import Derived.Test.YtlpefaaohcgboaaDoorIReplaceIn
namespace Go.Proofs.YtlpefaaohcgboaaDoor
open Go.ChangeShapes Go.WideShapes Go.ChangeAt Go.RowKit
set_option linter.unusedVariables false

theorem implReplace_any (a : Option Addr) (len cap : Nat) (l : List (Int × Int)) (k : Int) (au : Option Addr) (lu cu : Nat) (u : List (Int × Int)) (w : World) (hT : Tab w) (h : NSl w a len l) (hm : len ≤ 9223372036854775807) (hcap : len ≤ cap) (hu : NSl w au lu u) (hmu : lu ≤ 9223372036854775807) :
    Calls Tryd.prog 21 #[.slice a len cap, .int .i64 k, .slice au lu cu] w fun e w' => ∃ v : Value, e = .returned (.tuple #[v, .bool (replOk l k u)]) ∧ w'.ownsRow w.heap.size 69 2 v (replL l k u).length (flat (replL l k u)) ∧ Below w.heap.size w w' := by
  have hll := h.1
  have HG := (show Hid _ from implGood_any a len cap l w hT h hm)
  have HGu : Hid (∀ W, Below w.heap.size w W → Calls Tryd.prog 15 #[.slice au lu cu] W fun e w' => e = .returned (.bool (goodB u)) ∧ Below W.heap.size W w') := fun W hW => implGood_any au lu cu u W (hT.keeps hW) (hu.keep hW) hmu
  by_cases hg : goodB l = true
  · by_cases hgu : goodB u = true
    · by_cases hk : 0 ≤ k ∧ k < len
      · have hj : replIn l k u = true := by unfold replIn; rw [hg, hgu, hll, decide_eq_true hk]; rfl
        have e1 : replOk l k u = goodB (replAll l k.toNat u) := by unfold replOk; rw [if_pos hj]
        have e2 : replL l k u = madeL (replAll l k.toNat u) := by unfold replL; rw [if_pos hj]
        rw [e1, e2]
        obtain ⟨kn, rfl⟩ := Int.eq_ofNat_of_zero_le hk.1
        rw [Int.toNat_natCast]
        obtain ⟨_, g1, g2⟩ := good_pile hg
        obtain ⟨_, g3, g4⟩ := good_pile hgu
        have hlu := hu.1
        obtain ⟨b, off, rfl, _, _⟩ := h.at (by omega)
        obtain ⟨b', off', rfl, _, _⟩ := hu.at (by omega)
        exact implReplace_in b off len cap l kn b' off' lu cu u w hT h hu hcap hg hgu (by omega)
      · have hj : replIn l k u = false := by unfold replIn; rw [hg, hgu, hll, decide_eq_false hk]; rfl
        have e1 : replOk l k u = false := by unfold replOk; rw [hj]; rfl
        have e2 : replL l k u = [] := by unfold replL; rw [hj]; rfl
        rw [e1, e2]
        rw [hg] at HG
        rw [hgu] at HGu
        by_cases h0 : k < 0
        · clear hk hj e1 e2 hg hgu h hu hT
          go_enter Tryd.func21, Tryd.ntmps21
          go_wp2_with fail
          refine Calls.mono HG.out ?_
          rintro e w1 ⟨rfl, hb1⟩
          go_wp2_with fail
          refine Calls.mono (HGu.out _ hb1) ?_
          rintro e w2 ⟨rfl, hb2⟩
          go_wp2
          go_ret2
          exact ⟨_, rfl, World.ownsRow_nil _ _ _ _, hb1.trans (hb2.mono hb1.size)⟩
        · have j2 : (len : Int) ≤ k := by omega
          clear hk hj e1 e2 hg hgu h hu hT
          go_enter Tryd.func21, Tryd.ntmps21
          go_wp2_with fail
          refine Calls.mono HG.out ?_
          rintro e w1 ⟨rfl, hb1⟩
          go_wp2_with fail
          refine Calls.mono (HGu.out _ hb1) ?_
          rintro e w2 ⟨rfl, hb2⟩
          go_wp2
          go_ret2
          exact ⟨_, rfl, World.ownsRow_nil _ _ _ _, hb1.trans (hb2.mono hb1.size)⟩
    · have hgu' : goodB u = false := by simpa using hgu
      have hj : replIn l k u = false := by unfold replIn; rw [hgu', Bool.and_false]
      have e1 : replOk l k u = false := by unfold replOk; rw [hj]; rfl
      have e2 : replL l k u = [] := by unfold replL; rw [hj]; rfl
      rw [e1, e2]
      rw [hg] at HG
      rw [hgu'] at HGu
      clear hj e1 e2 hg hgu hgu' h hu hT
      go_enter Tryd.func21, Tryd.ntmps21
      go_wp2_with fail
      refine Calls.mono HG.out ?_
      rintro e w1 ⟨rfl, hb1⟩
      go_wp2_with fail
      refine Calls.mono (HGu.out _ hb1) ?_
      rintro e w2 ⟨rfl, hb2⟩
      go_wp2
      go_ret2
      exact ⟨_, rfl, World.ownsRow_nil _ _ _ _, hb1.trans (hb2.mono hb1.size)⟩
  · have hg' : goodB l = false := by simpa using hg
    have hj : replIn l k u = false := by unfold replIn; rw [hg', Bool.false_and, Bool.false_and]
    have e1 : replOk l k u = false := by unfold replOk; rw [hj]; rfl
    have e2 : replL l k u = [] := by unfold replL; rw [hj]; rfl
    rw [e1, e2]
    rw [hg'] at HG
    clear hj e1 e2 hg hg' h hu hT
    go_enter Tryd.func21, Tryd.ntmps21
    go_wp2_with fail
    refine Calls.mono HG.out ?_
    rintro e w1 ⟨rfl, hb1⟩
    go_wp2
    go_ret2
    exact ⟨_, rfl, World.ownsRow_nil _ _ _ _, hb1⟩
end Go.Proofs.YtlpefaaohcgboaaDoor
