/-
  PROVED HERE: what the program says of a term with terms put for its variables, at every list of nodes and every list of lists of nodes, in a world whose table of arities is laid. No other condition.
-/
import Derived.Test.YtlpefaaohcgboaaDoorIAll
import Derived.Test.YtlpefaaohcgboaaDoorPutAll
import Derived.Test.YtlpefaaohcgboaaDoorMade
namespace Go.Proofs.YtlpefaaohcgboaaDoor
open Go.ChangeShapes Go.WideShapes Go.ChangeAt Go.RowKit
set_option linter.unusedVariables false

set_option maxHeartbeats 3200000 in
set_option maxRecDepth 20000 in
theorem implPut_in (a : Option Addr) (len cap : Nat) (l : List (Int × Int)) (b : Option Addr) (cb : Nat) (ls : List (List (Int × Int))) (w : World) (hTab : Tab w) (h : NSl w a len l) (hb : NNSl w b 4 ls) (hg : goodB l = true) (hall : goodAll ls = true) :
    Calls Tryd.prog 9 #[.slice a len cap, .slice b 4 cb] w fun e w' => ∃ v : Value, e = .returned (.tuple #[v, .bool (putOk l ls)]) ∧ w'.ownsRow w.heap.size 69 2 v (putR l ls).length (flat (putR l ls)) ∧ Below w.heap.size w w' := by
  obtain ⟨i0, hi, hz0, hz1, hz2⟩ := info_parts infoNode
  have hll := h.1
  have hlb := hb.1
  obtain ⟨hp, g1, g2⟩ := good_pile hg
  have HTab : Hid (Tab w) := hTab
  have HG0 : Hid (Calls Tryd.prog 15 #[.slice a len cap] w fun e w' => e = .returned (.bool true) ∧ Below w.heap.size w w') := by
    have := implGood_any a len cap l w hTab h (by omega)
    rwa [hg] at this
  have HA0 : Hid (∀ W, Below w.heap.size w W → Calls Tryd.prog 41 #[.slice b 4 cb] W fun e w' => e = .returned (.bool true) ∧ Below W.heap.size W w') := fun W hbW => by
    have := implAll_any b 4 cb ls W (hTab.keeps hbW) (hb.keep hbW) (by omega)
    rwa [show allB ls = true from hall] at this
  have hg4 : Hid (∀ i, i < 4 → goodB (ls.getD i []) = true) := by
    unfold goodAll at hall
    have := of_decide_eq_true hall
    rw [hlb] at this
    exact this
  have HF : Hid (putOk l ls = goodB (cat (l.map (sub ls)) len) ∧ putR l ls = madeL (cat (l.map (sub ls)) len)) := by
    unfold putOk putR putIn putLs
    rw [hall, hg, hlb, hll]
    exact ⟨rfl, rfl⟩
  have HM : Hid (∀ (v : Value) (n : Nat) (L : List (Int × Int)) (W : World), W.ownsRow w.heap.size 69 2 v n (flat L) → Below w.heap.size w W → n ≤ 10000 → Calls Tryd.prog 42 #[v] W fun e w' => ∃ v' : Value, e = .returned (.tuple #[v', .bool (goodB L)]) ∧ w'.ownsRow w.heap.size 69 2 v' (madeL L).length (flat (madeL L)) ∧ Below W.heap.size W w') :=
    fun v n L W hr hbW hn => implWhere_any _ v _ _ W (hTab.keeps hbW) hr hbW.size (by omega)
  have HVar : Hid (∀ k, k < len → (l.getD k (0, 0)).1 = 2 → 0 ≤ (l.getD k (0, 0)).2 ∧ (l.getD k (0, 0)).2 < 4) := fun k hk h2 => by
    obtain ⟨q1, _⟩ := cnt_step hp k (by omega)
    exact (fits_iff _ _ _ _ q1).2.2.1 h2
  have HCat : Hid (∀ k, k < len → cat (l.map (sub ls)) (k + 1) = cat (l.map (sub ls)) k ++ sub ls (l.getD k (0, 0))) := fun k hk => by
    rw [cat_succ _ _ (by rw [List.length_map]; omega), sub_get l ls k (by omega)]
  generalize putOk l ls = K at HF ⊢
  generalize putR l ls = J at HF ⊢
  generalize l.map (sub ls) = ms at HF HCat
  have HS : Hid (NNSl w b 4 ls) := hb
  have HT : Hid (NSl w a len l) := h
  clear hb h hg hp hTab hall
  go_enter Tryd.func9, Tryd.ntmps9
  go_wp2_with fail
  refine Calls.mono HG0.out ?_
  rintro e w1 ⟨rfl, hb1⟩
  clear HG0
  go_wp2_with fail
  refine Calls.mono (HA0.out _ hb1) ?_
  rintro e w2 ⟨rfl, hb2⟩
  have hbr := hb1.trans (hb2.mono hb1.size)
  clear HA0 hb1 hb2
  go_wp2_with fail
  go_loopw [6, 24] (fun y i w4 => ∃ k : Nat, k ≤ len ∧ i = .int .i64 k ∧ w4.ownsRow w.heap.size 69 2 y (cat ms k).length (flat (cat ms k)) ∧ (cat ms k).length ≤ k * 40 ∧ Below w.heap.size w w4) (fun _ i _ => len - (intOf i).toNat)
  case atStart => exact ⟨0, Nat.zero_le _, rfl, World.ownsRow_nil _ _ _ _, by simp [cat], hbr⟩
  case round =>
    clear hbr
    obtain ⟨k, hk, rfl, hrow, h40, hbk⟩ := hrel
    by_cases hkl : k < len
    · obtain ⟨tb, toff, rfl, htl, htc⟩ := (HT.out.keep hbk).at (by omega)
      have c1 := (htc k hkl).1
      have c2 := (htc k hkl).2
      have hv := HVar.out k hkl
      have hcat := HCat.out k hkl
      have hxy : l.getD k (0, 0) = ((l.getD k (0, 0)).1, (l.getD k (0, 0)).2) := rfl
      rw [hxy] at hcat
      clear htc hxy
      generalize (l.getD k (0, 0)).1 = x at c1 hv hcat
      generalize (l.getD k (0, 0)).2 = y at c2 hv hcat
      have hba := hbk.alloc hbk.size (.cells #[.int .i64 x, .int .i64 y] 69)
      have hrow' := hrow.alloc (.cells #[.int .i64 x, .int .i64 y] 69)
      by_cases hx : x = 2
      · obtain ⟨y0, y4⟩ := hv hx
        have hx2 : (x == 2) = true := by simpa using hx
        obtain ⟨yn, rfl⟩ := Int.eq_ofNat_of_zero_le y0
        have hy : yn < 4 := by omega
        have hgy := hg4.out yn hy
        obtain ⟨bb, boff, rfl, hbl, hc⟩ := (HS.out.keep hba).at (by omega)
        obtain ⟨ai, li, ci, cc, hli, _, hsl⟩ := hc yn hy
        rw [show sub ls (x, (yn : Int)) = ls.getD yn [] from by unfold sub; rw [if_pos hx]; rfl] at hcat
        generalize ls.getD yn [] = L at hsl hgy hcat
        obtain ⟨_, q1, q2⟩ := good_pile hgy
        have hL := hsl.1
        obtain ⟨b4, off4, rfl, _, _⟩ := hsl.at (by omega)
        have hfl : Hid (flat (cat ms (k + 1)) = flat (cat ms k) ++ flat L ∧ (cat ms (k + 1)).length = (cat ms k).length + li) := by
          rw [hcat, flat_append, List.length_append, hL]; exact ⟨rfl, rfl⟩
        have hcs := flat_cells hsl
        clear hcat hc hv hgy hrow hbk hx
        generalize cat ms k = N0 at hrow' h40 hfl
        go_wp2_with (at_builtin; refine wpList_append_own _ rfl _ _ 24 rfl w.heap.size 69 i0 (.agg #[.int .i64 0, .int .i64 0]) 2 16 Tryd.underlying24 hi hz0 hz1 hz2 rfl (by decide) _ _ _ rfl hrow' ⟨b4, off4, none⟩ li ci (flat L) rfl (by rw [flat_len]; omega) hcs (flat_one L) (by unfold maxLen; omega) (by omega) hba.size ?_; intro v5 w5 hown5 hg5 _)
        have hB5 : Below w.heap.size w w5 := hba.grown hg5 hba.size (own_ge hrow')
        clear hg5 hrow' hcs hba
        go_roundw
        case rel => exact ⟨k + 1, by omega, by go_num, by rw [hfl.out.1, hfl.out.2]; exact hown5, by have := hfl.out.2; omega, hB5⟩
        case measure => simp [intOf]; omega
      · have hx2 : (x == 2) = false := by simpa using hx
        rw [show sub ls (x, y) = [(x, y)] from by unfold sub; rw [if_neg hx]] at hcat
        have hfl : Hid (flat (cat ms (k + 1)) = flat (cat ms k) ++ flat [(x, y)] ∧ (cat ms (k + 1)).length = (cat ms k).length + 1) := by
          rw [hcat, flat_append, List.length_append]; exact ⟨rfl, rfl⟩
        have hnode := node_row_at (wr.alloc (.cells #[.int .i64 x, .int .i64 y] 69)) (wr.heap.size + 1) (by simp) x y
        have hba2 := hba.alloc hba.size (.cells #[.int .i64 x, .int .i64 y] 69)
        have hrow2 := hrow'.alloc (.cells #[.int .i64 x, .int .i64 y] 69)
        clear hcat hv hx hrow hbk hrow' hba
        generalize cat ms k = N0 at hrow2 h40 hfl
        go_wp2_with (at_builtin; refine wpList_append_own _ rfl _ _ 24 rfl w.heap.size 69 i0 (.agg #[.int .i64 0, .int .i64 0]) 2 16 Tryd.underlying24 hi hz0 hz1 hz2 rfl (by decide) _ _ _ rfl hrow2 ⟨wr.heap.size + 1, 0, none⟩ 1 1 (flat [(x, y)]) rfl rfl (flat_cells hnode) (flat_one _) (by unfold maxLen; omega) (by omega) hba2.size ?_; intro v5 w5 hown5 hg5 _)
        have hB5 : Below w.heap.size w w5 := hba2.grown hg5 hba2.size (own_ge hrow2)
        clear hg5 hrow2 hnode hba2
        go_roundw
        case rel => exact ⟨k + 1, by omega, by go_num, by rw [hfl.out.1, hfl.out.2]; exact hown5, by have := hfl.out.2; omega, hB5⟩
        case measure => simp [intOf]; omega
    · obtain rfl : k = len := by omega
      go_wp2_with fail
      refine (HM.out _ _ _ _ hrow hbk (by omega)).mono ?_
      rw [← HF.out.1, ← HF.out.2]
      rintro e w6 ⟨v6, rfl, hown6, hb6⟩
      have hB6 := hbk.trans (hb6.mono hbk.size)
      clear hrow hb6 hbk
      go_wp2
      go_ret2
      exact ⟨_, rfl, hown6, hB6⟩


theorem implPut_any (a : Option Addr) (len cap : Nat) (l : List (Int × Int)) (b : Option Addr) (lb cb : Nat) (ls : List (List (Int × Int))) (w : World) (hTab : Tab w) (h : NSl w a len l) (hm : len ≤ 9223372036854775807) (hb : NNSl w b lb ls) (hmb : lb ≤ 9223372036854775806) :
    Calls Tryd.prog 9 #[.slice a len cap, .slice b lb cb] w fun e w' => ∃ v : Value, e = .returned (.tuple #[v, .bool (putOk l ls)]) ∧ w'.ownsRow w.heap.size 69 2 v (putR l ls).length (flat (putR l ls)) ∧ Below w.heap.size w w' := by
  have hlb := hb.1
  have HG := (show Hid _ from implGood_any a len cap l w hTab h hm)
  by_cases hg : goodB l = true
  · by_cases h4 : lb = 4
    · subst h4
      by_cases ha : goodAll ls = true
      · exact implPut_in a len cap l b cb ls w hTab h hb hg ha
      · have ha' : goodAll ls = false := by simpa using ha
        have hj : putIn l ls = false := by unfold putIn; rw [ha', Bool.and_false]
        have e1 : putOk l ls = false := by unfold putOk; rw [hj]; rfl
        have e2 : putR l ls = [] := by unfold putR; rw [hj]; rfl
        rw [e1, e2]
        rw [hg] at HG
        have HA0 : Hid (∀ W, Below w.heap.size w W → Calls Tryd.prog 41 #[.slice b 4 cb] W fun e w' => e = .returned (.bool false) ∧ Below W.heap.size W w') := fun W hbW => by
          have := implAll_any b 4 cb ls W (hTab.keeps hbW) (hb.keep hbW) (by omega)
          rwa [show allB ls = false from ha'] at this
        clear e1 e2 hj hg ha ha' h hb hTab
        go_enter Tryd.func9, Tryd.ntmps9
        go_wp2_with fail
        refine Calls.mono HG.out ?_
        rintro e w1 ⟨rfl, hb1⟩
        clear HG
        go_wp2_with fail
        refine Calls.mono (HA0.out _ hb1) ?_
        rintro e w2 ⟨rfl, hb2⟩
        have hbr := hb1.trans (hb2.mono hb1.size)
        go_wp2
        go_ret2
        exact ⟨_, rfl, World.ownsRow_nil _ _ _ _, hbr⟩
    · have hj : putIn l ls = false := by unfold putIn; rw [hlb, decide_eq_false h4, Bool.and_false, Bool.false_and]
      have e1 : putOk l ls = false := by unfold putOk; rw [hj]; rfl
      have e2 : putR l ls = [] := by unfold putR; rw [hj]; rfl
      rw [e1, e2]
      rw [hg] at HG
      have i4 : ((lb : Int) != 4) = true := by rw [bne_iff_ne]; omega
      clear e1 e2 hj hg h hb hTab
      go_enter Tryd.func9, Tryd.ntmps9
      go_wp2_with fail
      refine Calls.mono HG.out ?_
      rintro e w1 ⟨rfl, hb1⟩
      go_wp2
      go_ret2
      exact ⟨_, rfl, World.ownsRow_nil _ _ _ _, hb1⟩
  · have hg' : goodB l = false := by simpa using hg
    have hj : putIn l ls = false := by unfold putIn; rw [hg', Bool.false_and, Bool.false_and]
    have e1 : putOk l ls = false := by unfold putOk; rw [hj]; rfl
    have e2 : putR l ls = [] := by unfold putR; rw [hj]; rfl
    rw [e1, e2]
    rw [hg'] at HG
    clear e1 e2 hj hg hg' h hb hTab
    go_enter Tryd.func9, Tryd.ntmps9
    go_wp2_with fail
    refine Calls.mono HG.out ?_
    rintro e w1 ⟨rfl, hb1⟩
    go_wp2
    go_ret2
    exact ⟨_, rfl, World.ownsRow_nil _ _ _ _, hb1⟩
end Go.Proofs.YtlpefaaohcgboaaDoor
