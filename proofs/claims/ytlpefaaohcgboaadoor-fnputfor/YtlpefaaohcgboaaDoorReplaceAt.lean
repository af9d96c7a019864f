/-
  PROVED HERE: what the model says of a term whose part at a node is replaced, at every two lists of nodes and every number. No other condition.
-/
import Derived.Test.YtlpefaaohcgboaaDoorMade
import Derived.Test.YtlpefaaohcgboaaDoorOwn
import Derived.Test.YtlpefaaohcgboaaDoorFrom
import Derived.Test.YtlpefaaohcgboaaDoorIn
namespace Go.Proofs.YtlpefaaohcgboaaDoor
open Go.ChangeShapes Go.WideShapes Go.ChangeAt Go.RowKit
set_option linter.unusedVariables false

def replIn (l : List (Int × Int)) (k : Int) (u : List (Int × Int)) : Bool := goodB l && decide (0 ≤ k ∧ k < l.length) && goodB u
def replAll (l : List (Int × Int)) (k : Nat) (u : List (Int × Int)) : List (Int × Int) := l.take (start l k) ++ u ++ l.drop (k + 1)
def replOk (l : List (Int × Int)) (k : Int) (u : List (Int × Int)) : Bool := if replIn l k u = true then goodB (replAll l k.toNat u) else false
def replL (l : List (Int × Int)) (k : Int) (u : List (Int × Int)) : List (Int × Int) := if replIn l k u = true then madeL (replAll l k.toNat u) else []

set_option maxHeartbeats 1600000 in
theorem specReplace_in (b off len cap : Nat) (l : List (Int × Int)) (kn : Nat) (b' off' lu cu : Nat) (u : List (Int × Int)) (w : World) (h : NSl w (some ⟨b, off, none⟩) len l) (hu : NSl w (some ⟨b', off', none⟩) lu u) (hcap : len ≤ cap)
    (hg : goodB l = true) (hgu : goodB u = true) (hkn : kn < len) :
    Calls Tryd.prog 22 #[.slice (some ⟨b, off, none⟩) len cap, .int .i64 kn, .slice (some ⟨b', off', none⟩) lu cu] w fun e w' => ∃ v : Value, e = .returned (.tuple #[v, .bool (goodB (replAll l kn u))]) ∧ w'.ownsRow w.heap.size 69 2 v (madeL (replAll l kn u)).length (flat (madeL (replAll l kn u))) ∧ Below w.heap.size w w' := by
  obtain ⟨i0, hi, hz0, hz1, hz2⟩ := info_parts infoNode
  obtain ⟨hp, g1, g2⟩ := good_pile hg
  obtain ⟨_, g3, g4⟩ := good_pile hgu
  have hll := h.1
  have hlu := hu.1
  have HG1 : Hid (∀ W, NSl W (some ⟨b, off, none⟩) len l → Calls Tryd.prog 16 #[.slice (some ⟨b, off, none⟩) len cap] W fun e w' => e = .returned (.bool true) ∧ Below W.heap.size W w') := fun W hW => by
    have := specGood_any _ len cap l W hW (by omega)
    rwa [hg] at this
  have HG2 : Hid (∀ W, NSl W (some ⟨b', off', none⟩) lu u → Calls Tryd.prog 16 #[.slice (some ⟨b', off', none⟩) lu cu] W fun e w' => e = .returned (.bool true) ∧ Below W.heap.size W w') := fun W hW => by
    have := specGood_any _ lu cu u W hW (by omega)
    rwa [hgu] at this
  have hsk := start_le hp kn (by omega)
  have HF : Hid (∀ W, NSl W (some ⟨b, off, none⟩) len l → Calls Tryd.prog 57 #[.slice (some ⟨b, off, none⟩) len cap, .int .i64 kn] W fun e w' => e = .returned (.int .i64 (start l kn)) ∧ w' = W) := fun W hW => from_any hp _ len cap W hW (by omega) kn hkn
  have eL : replAll l kn u = l.take (start l kn) ++ u ++ l.drop (kn + 1) := rfl
  rw [eL]
  clear eL
  generalize start l kn = s at HF hsk ⊢
  have HO : Hid (∀ W, NSl W (some ⟨b, off, none⟩) len l → ∀ c, Calls Tryd.prog 56 #[.slice (some ⟨b, off, none⟩) s c] W fun e w' => ∃ v : Value, e = .returned v ∧ w'.ownsRow W.heap.size 69 2 v s (flat (l.take s)) ∧ Below W.heap.size W w') :=
    fun W hW c => by
      have hS := hW.sub 0 s (by omega)
      rw [List.drop_zero, Nat.zero_mul, Nat.add_zero] at hS
      exact own_any b off s c _ W hS (by omega)
  have HT : Hid (∀ W, NSl W (some ⟨b, off, none⟩) len l → NSl W (some ⟨b, off + (kn + 1) * 2, none⟩) (len - (kn + 1)) (l.drop (kn + 1))) := fun W hW => by
    have := hW.sub (kn + 1) (len - (kn + 1)) (by omega)
    rwa [List.take_of_length_le (by rw [List.length_drop]; omega)] at this
  have hd : (l.drop (kn + 1)).length = len - (kn + 1) := by rw [List.length_drop]; omega
  generalize l.take s = L1 at HO ⊢
  generalize l.drop (kn + 1) = L3 at HT hd ⊢
  have HM : Hid (∀ (v : Value) (W : World), W.ownsRow w.heap.size 69 2 v (s + lu + (len - (kn + 1))) (flat (L1 ++ u ++ L3)) → w.heap.size ≤ W.heap.size → Calls Tryd.prog 43 #[v] W fun e w' => ∃ v' : Value, e = .returned (.tuple #[v', .bool (goodB (L1 ++ u ++ L3))]) ∧ w'.ownsRow w.heap.size 69 2 v' (madeL (L1 ++ u ++ L3)).length (flat (madeL (L1 ++ u ++ L3))) ∧ Below W.heap.size W w') :=
    fun v W hr hb => made_any _ v _ _ W hr hb (by omega)
  have hfl : Hid (flat (L1 ++ u ++ L3) = flat L1 ++ flat u ++ flat L3) := by show flat _ = _; rw [flat_append, flat_append]
  obtain ⟨F, hF⟩ : ∃ F, flat (L1 ++ u ++ L3) = F := ⟨_, rfl⟩
  obtain ⟨F', hF'⟩ : ∃ F, flat (madeL (L1 ++ u ++ L3)) = F := ⟨_, rfl⟩
  obtain ⟨G, hG⟩ : ∃ G, goodB (L1 ++ u ++ L3) = G := ⟨_, rfl⟩
  obtain ⟨N, hN⟩ : ∃ N, (madeL (L1 ++ u ++ L3)).length = N := ⟨_, rfl⟩
  rw [hF, hF', hG, hN] at HM
  rw [hF] at hfl
  rw [hF', hG, hN]
  clear hF hF' hG hN hp hg hgu
  have i1 : (0 : Int) ≤ kn := by omega
  have i2 : (kn : Int) ≤ (len : Int) - 1 := by omega
  have i3 : (s : Int) ≤ cap := by omega
  have i4 : (kn : Int) + 1 ≤ len := by omega
  have i5 : (len : Int) ≤ cap := by omega
  go_enter Tryd.func22, Tryd.ntmps22
  go_wp2_with fail
  refine (HG1.out _ h).mono ?_
  rintro e w1 ⟨rfl, hb1⟩
  go_wp2_with fail
  refine (in_yes _ _ _ _ i1 i2).mono ?_
  rintro e w2 ⟨rfl, rfl⟩
  go_wp2_with fail
  refine (HG2.out _ (hu.keep hb1)).mono ?_
  rintro e w2 ⟨rfl, hb2⟩
  have hB2 := hb1.trans (hb2.mono hb1.size)
  clear hb1 hb2
  go_wp2_with fail
  refine (HF.out _ (h.keep hB2)).mono ?_
  rintro e w3 ⟨rfl, rfl⟩
  go_wp2_with fail
  refine (HO.out _ (h.keep hB2) _).mono ?_
  rintro e w3 ⟨v, rfl, hown, hb3⟩
  have hB3 := hB2.trans (hb3.mono hB2.size)
  have hown' := own_base hown hB2.size
  clear hown hb3 hB2
  have hcu := flat_cells (hu.keep hB3)
  obtain ⟨o, ho, hoc⟩ : ∃ o, (if cap = kn + 1 then some (⟨b, off, none⟩ : Addr) else some ⟨b, off + (kn + 1) * 2, none⟩) = some ⟨b, o, none⟩ ∧ Hid (∀ W, NSl W (some ⟨b, off, none⟩) len l → NSl W (some ⟨b, o, none⟩) (len - (kn + 1)) L3) := by
    by_cases h0 : cap = kn + 1
    · refine ⟨off, by rw [if_pos h0], fun W hW => ⟨by omega, .inl (by omega)⟩⟩
    · exact ⟨off + (kn + 1) * 2, by rw [if_neg h0], HT.out⟩
  have c1 : kn + 1 ≤ len := by omega
  have c2 : s ≤ cap := by omega
  clear HT
  go_wp2_with (first
    | (at_builtin; refine wpList_append_own _ rfl _ _ 24 rfl w.heap.size 69 i0 (.agg #[.int .i64 0, .int .i64 0]) 2 16 Tryd.underlying24 hi hz0 hz1 hz2 rfl (by decide) _ _ _ rfl hown4 ⟨b, o, none⟩ (len - (kn + 1)) (cap - (kn + 1)) (flat L3) rfl (by rw [flat_len, hd]) (flat_cells (hoc.out _ (h.keep hB4))) (flat_one L3) (by unfold maxLen; omega) (by omega) hB4.size ?_; intro v5 w5 hown5 hg5 _; have hB5 : Below w.heap.size w w5 := hB4.grown hg5 hB4.size (own_ge hown4); clear hg5 hown4 hB4)
    | (at_builtin; refine wpList_append_own _ rfl _ _ 24 rfl w.heap.size 69 i0 (.agg #[.int .i64 0, .int .i64 0]) 2 16 Tryd.underlying24 hi hz0 hz1 hz2 rfl (by decide) _ _ _ rfl hown' ⟨b', off', none⟩ lu cu (flat u) rfl (by rw [flat_len]; omega) hcu (flat_one u) (by unfold maxLen; omega) (by omega) hB3.size ?_; intro v4 w4 hown4 hg4 _; have hB4 : Below w.heap.size w w4 := hB3.grown hg4 hB3.size (own_ge hown'); clear hg4 hown' hcu hB3))
  rw [← hfl.out] at hown5
  refine (HM.out _ _ hown5 hB5.size).mono ?_
  rintro e w6 ⟨v6, rfl, hown6, hb6⟩
  have hB6 := hB5.trans (hb6.mono hB5.size)
  clear hown5 hb6 hB5
  go_wp2
  go_ret2
  exact ⟨_, rfl, hown6, hB6⟩

theorem specReplace_any (a : Option Addr) (len cap : Nat) (l : List (Int × Int)) (k : Int) (au : Option Addr) (lu cu : Nat) (u : List (Int × Int)) (w : World) (h : NSl w a len l) (hu : NSl w au lu u) (hm : len ≤ 9223372036854775807) (hmu : lu ≤ 9223372036854775807) (hcap : len ≤ cap) :
    Calls Tryd.prog 22 #[.slice a len cap, .int .i64 k, .slice au lu cu] w fun e w' => ∃ v : Value, e = .returned (.tuple #[v, .bool (replOk l k u)]) ∧ w'.ownsRow w.heap.size 69 2 v (replL l k u).length (flat (replL l k u)) ∧ Below w.heap.size w w' := by
  have hll := h.1
  by_cases hin : replIn l k u = true
  · have e1 : replOk l k u = goodB (replAll l k.toNat u) := by unfold replOk; rw [if_pos hin]
    have e2 : replL l k u = madeL (replAll l k.toNat u) := by unfold replL; rw [if_pos hin]
    rw [e1, e2]
    simp only [replIn, Bool.and_eq_true, decide_eq_true_eq] at hin
    obtain ⟨⟨hg, hk⟩, hgu⟩ := hin
    obtain ⟨_, g1, g2⟩ := good_pile hg
    obtain ⟨_, g3, g4⟩ := good_pile hgu
    obtain ⟨kn, rfl⟩ := Int.eq_ofNat_of_zero_le hk.1
    rw [Int.toNat_natCast]
    obtain ⟨b, off, rfl, _, _⟩ := h.at (by omega)
    obtain ⟨b', off', rfl, _, _⟩ := hu.at (by have := hu.1; omega)
    exact specReplace_in b off len cap l kn b' off' lu cu u w h hu hcap hg hgu (by omega)
  · have e1 : replOk l k u = false := by unfold replOk; rw [if_neg hin]
    have e2 : replL l k u = [] := by unfold replL; rw [if_neg hin]
    rw [e1, e2]
    clear e1 e2
    have HG1 := specGood_any _ len cap l w h hm
    by_cases hg : goodB l = true
    · rw [hg] at HG1
      have HG1' := (show Hid _ from HG1)
      clear HG1
      obtain ⟨_, g1, g2⟩ := good_pile hg
      have j1 : (1 : Int) ≤ len := by omega
      by_cases hk : 0 ≤ k ∧ k < len
      · have hgu : goodB u = false := by
          cases hx : goodB u with
          | false => rfl
          | true => exact absurd (by unfold replIn; rw [hg, hx, hll, decide_eq_true hk]; rfl) hin
        have i1 : 0 ≤ k := hk.1
        have i2 : k ≤ (len : Int) - 1 := by omega
        have HG2 : Hid (∀ W, NSl W au lu u → Calls Tryd.prog 16 #[.slice au lu cu] W fun e w' => e = .returned (.bool false) ∧ Below W.heap.size W w') := fun W hW => by
          have := specGood_any _ lu cu u W hW hmu
          rwa [hgu] at this
        clear hin hk hg hgu
        go_enter Tryd.func22, Tryd.ntmps22
        go_wp2_with fail
        refine Calls.mono HG1'.out ?_
        rintro e w1 ⟨rfl, hb1⟩
        go_wp2_with fail
        refine (in_yes _ _ _ _ i1 i2).mono ?_
        rintro e w2 ⟨rfl, rfl⟩
        go_wp2_with fail
        refine (HG2.out _ (hu.keep hb1)).mono ?_
        rintro e w2 ⟨rfl, hb2⟩
        have hB2 := hb1.trans (hb2.mono hb1.size)
        go_wp2
        go_ret2
        exact ⟨_, rfl, World.ownsRow_nil _ _ _ _, hB2⟩
      · have i2 : k < 0 ∨ (len : Int) - 1 < k := by omega
        clear hin hk hg
        go_enter Tryd.func22, Tryd.ntmps22
        go_wp2_with fail
        refine Calls.mono HG1'.out ?_
        rintro e w1 ⟨rfl, hb1⟩
        go_wp2_with fail
        refine (in_no _ _ _ _ i2).mono ?_
        rintro e w2 ⟨rfl, rfl⟩
        go_wp2
        go_ret2
        exact ⟨_, rfl, World.ownsRow_nil _ _ _ _, hb1⟩
    · have hg' : goodB l = false := by simpa using hg
      rw [hg'] at HG1
      have HG1' := (show Hid _ from HG1)
      clear HG1 hin hg hg'
      go_enter Tryd.func22, Tryd.ntmps22
      go_wp2_with fail
      refine Calls.mono HG1'.out ?_
      rintro e w1 ⟨rfl, hb1⟩
      go_wp2
      go_ret2
      exact ⟨_, rfl, World.ownsRow_nil _ _ _ _, hb1⟩
end Go.Proofs.YtlpefaaohcgboaaDoor
