/-
  PROVED HERE: what the model says of a term with terms put for its variables, at every list of nodes and every list of lists of nodes. No other condition.
-/
import Derived.Test.YtlpefaaohcgboaaDoorMany
import Derived.Test.YtlpefaaohcgboaaDoorStart
namespace Go.Proofs.YtlpefaaohcgboaaDoor
open Go.ChangeShapes Go.WideShapes Go.ChangeAt Go.RowKit
set_option linter.unusedVariables false

def goodAll (ls : List (List (Int × Int))) : Bool := decide (∀ i, i < ls.length → goodB (ls.getD i []) = true)
/-- What stands for a node. -/
def sub (ls : List (List (Int × Int))) (x : Int × Int) : List (Int × Int) := if x.1 = 2 then ls.getD x.2.toNat [] else [x]
def putIn (l : List (Int × Int)) (ls : List (List (Int × Int))) : Bool := goodB l && decide (ls.length = 4) && goodAll ls
def putLs (l : List (Int × Int)) (ls : List (List (Int × Int))) : List (Int × Int) := cat (l.map (sub ls)) l.length
def putOk (l : List (Int × Int)) (ls : List (List (Int × Int))) : Bool := if putIn l ls = true then goodB (putLs l ls) else false
def putR (l : List (Int × Int)) (ls : List (List (Int × Int))) : List (Int × Int) := if putIn l ls = true then madeL (putLs l ls) else []

theorem sub_get (l : List (Int × Int)) (ls : List (List (Int × Int))) (k : Nat) (h : k < l.length) : (l.map (sub ls)).getD k [] = sub ls (l.getD k (0, 0)) := by
  simp [List.getD_eq_getElem?_getD, List.getElem?_map, List.getElem?_eq_getElem h]

set_option maxHeartbeats 3200000 in
theorem put_in (a : Option Addr) (len cap : Nat) (l : List (Int × Int)) (b : Option Addr) (cb : Nat) (ls : List (List (Int × Int))) (w : World) (h : NSl w a len l) (hb : NNSl w b 4 ls) (hg : goodB l = true) :
    Calls Tryd.prog 10 #[.slice a len cap, .slice b 4 cb] w fun e w' => ∃ v : Value, e = .returned (.tuple #[v, .bool (putOk l ls)]) ∧ w'.ownsRow w.heap.size 69 2 v (putR l ls).length (flat (putR l ls)) ∧ Below w.heap.size w w' := by
  obtain ⟨i0, hi, hz0, hz1, hz2⟩ := info_parts infoNode
  have hll := h.1
  have hlb := hb.1
  obtain ⟨hp, g1, g2⟩ := good_pile hg
  have HG : Hid (∀ W ai li ci l, NSl W ai li l → li ≤ 9223372036854775807 → Calls Tryd.prog 16 #[.slice ai li ci] W fun e w' => e = .returned (.bool (goodB l)) ∧ Below W.heap.size W w') := fun W ai li ci l hW hm => specGood_any ai li ci l W hW hm
  have HG0 : Hid (Calls Tryd.prog 16 #[.slice a len cap] w fun e w' => e = .returned (.bool true) ∧ Below w.heap.size w w') := by
    have := specGood_any a len cap l w h (by omega)
    rwa [hg] at this
  have HBad : Hid (∀ i, i < 4 → goodB (ls.getD i []) = false → putOk l ls = false ∧ putR l ls = []) := fun i hi' hbd => by
    have : goodAll ls = false := by
      unfold goodAll
      rw [decide_eq_false]
      intro hh
      rw [hh i (by omega)] at hbd
      cases hbd
    unfold putOk putR putIn
    rw [this, Bool.and_false]
    exact ⟨rfl, rfl⟩
  have HAll : Hid ((∀ i, i < 4 → goodB (ls.getD i []) = true) → putOk l ls = goodB (cat (l.map (sub ls)) len) ∧ putR l ls = madeL (cat (l.map (sub ls)) len)) := fun hh => by
    have : goodAll ls = true := by unfold goodAll; rw [decide_eq_true]; rw [hlb]; exact hh
    unfold putOk putR putIn putLs
    rw [this, hg, hlb, hll]
    exact ⟨rfl, rfl⟩
  have HM : Hid (∀ (v : Value) (n : Nat) (L : List (Int × Int)) (W : World), W.ownsRow w.heap.size 69 2 v n (flat L) → w.heap.size ≤ W.heap.size → n ≤ 10000 → Calls Tryd.prog 43 #[v] W fun e w' => ∃ v' : Value, e = .returned (.tuple #[v', .bool (goodB L)]) ∧ w'.ownsRow w.heap.size 69 2 v' (madeL L).length (flat (madeL L)) ∧ Below W.heap.size W w') :=
    fun v n L W hr hb hn => made_any _ v _ _ W hr hb (by omega)
  have HVar : Hid (∀ k, k < len → (l.getD k (0, 0)).1 = 2 → 0 ≤ (l.getD k (0, 0)).2 ∧ (l.getD k (0, 0)).2 < 4) := fun k hk h2 => by
    obtain ⟨q1, _⟩ := cnt_step hp k (by omega)
    exact (fits_iff _ _ _ _ q1).2.2.1 h2
  have HCat : Hid (∀ k, k < len → cat (l.map (sub ls)) (k + 1) = cat (l.map (sub ls)) k ++ sub ls (l.getD k (0, 0))) := fun k hk => by
    rw [cat_succ _ _ (by rw [List.length_map]; omega), sub_get l ls k (by omega)]
  generalize putOk l ls = K at HBad HAll ⊢
  generalize putR l ls = J at HBad HAll ⊢
  generalize l.map (sub ls) = ms at HAll HCat
  have HS : Hid (NNSl w b 4 ls) := hb
  have HT : Hid (NSl w a len l) := h
  clear hb h hg hp
  go_enter Tryd.func10, Tryd.ntmps10
  go_wp2_with fail
  refine Calls.mono HG0.out ?_
  rintro e w1 ⟨rfl, hb1⟩
  clear HG0
  go_wp2_with fail
  go_loopw [21] (fun i wr => ∃ n : Nat, n ≤ 4 ∧ i = .int .i64 n ∧ Hid (∀ i, i < n → goodB (ls.getD i []) = true) ∧ Below w.heap.size w wr) (fun i _ => 4 - (intOf i).toNat)
  case atStart => exact ⟨0, Nat.zero_le _, rfl, fun i hi => absurd hi (Nat.not_lt_zero _), hb1⟩
  case round =>
    clear hb1
    obtain ⟨n, hn, rfl, hgood, hbr⟩ := hrel
    by_cases hlt : n < 4
    · obtain ⟨bb, boff, rfl, hbl, hc⟩ := (HS.out.keep hbr).at (by omega)
      obtain ⟨ai, li, ci, cc, hli, _, hsl⟩ := hc n hlt
      have hbad := HBad.out n hlt
      have C := HG.out wr ai li ci _ hsl hli
      have hgn : goodB (ls.getD n []) = true → Hid (∀ i, i < n + 1 → goodB (ls.getD i []) = true) := fun hh i hi' => by
        rcases Nat.lt_or_ge i n with h0 | h0
        · exact hgood.out i h0
        · rw [show i = n from by omega]; exact hh
      clear hc hgood
      have i4 : (n : Int) < 4 := by omega
      generalize ls.getD n [] = L at hsl hbad C hgn
      cases hg : goodB L with
      | false =>
        rw [hg] at C
        have HB := (show Hid _ from hbad hg)
        have C' := (show Hid _ from C)
        clear C hbad hgn hg
        go_wp2_with fail
        refine Calls.mono C'.out ?_
        rintro e w3 ⟨rfl, hb3⟩
        have hB3 := hbr.trans (hb3.mono hbr.size)
        go_wp2
        go_ret2
        rw [HB.out.1, HB.out.2]
        exact ⟨_, rfl, World.ownsRow_nil _ _ _ _, hB3⟩
      | true =>
        rw [hg] at C
        have HGN := hgn hg
        have C' := (show Hid _ from C)
        clear C hbad hgn hg
        go_wp2_with fail
        refine Calls.mono C'.out ?_
        rintro e w3 ⟨rfl, hb3⟩
        have hB3 := hbr.trans (hb3.mono hbr.size)
        clear hbr hb3 C'
        go_wp2
        go_roundw
        case rel => exact ⟨n + 1, by omega, by go_num, HGN, hB3⟩
        case measure => simp [intOf]; omega
    · have hg4 : Hid (∀ i, i < 4 → goodB (ls.getD i []) = true) := fun i hi' => hgood.out i (by omega)
      have n4 : ¬ (n : Int) < 4 := by omega
      have HF := (show Hid _ from HAll.out hg4.out)
      clear HAll HBad
      go_wp2_with fail
      go_loopw [8, 31] (fun y i w4 => ∃ k : Nat, k ≤ len ∧ i = .int .i64 k ∧ w4.ownsRow w.heap.size 69 2 y (cat ms k).length (flat (cat ms k)) ∧ (cat ms k).length ≤ k * 40 ∧ Below w.heap.size w w4) (fun _ i _ => len - (intOf i).toNat)
      case atStart => exact ⟨0, Nat.zero_le _, rfl, World.ownsRow_nil _ _ _ _, by simp [cat], hbr⟩
      case round =>
        clear hbr
        obtain ⟨k, hk, rfl, hrow, h40, hbk⟩ := hrel
        by_cases hkl : k < len
        · obtain ⟨tb, toff, rfl, htl, htc⟩ := (HT.out.keep hbk).at (by omega)
          have c1 := (htc k hkl).1
          have c2 := (htc k hkl).2
          have hv := HVar.out k hkl
          have hcat := HCat.out k hkl
          have hxy : l.getD k (0, 0) = ((l.getD k (0, 0)).1, (l.getD k (0, 0)).2) := rfl
          rw [hxy] at hcat
          clear htc hxy
          generalize (l.getD k (0, 0)).1 = x at c1 hv hcat
          generalize (l.getD k (0, 0)).2 = y at c2 hv hcat
          have hba := hbk.alloc hbk.size (.cells #[.int .i64 x, .int .i64 y] 69)
          have hrow' := hrow.alloc (.cells #[.int .i64 x, .int .i64 y] 69)
          by_cases hx : x = 2
          · obtain ⟨y0, y4⟩ := hv hx
            have hx2 : (x == 2) = true := by simpa using hx
            obtain ⟨yn, rfl⟩ := Int.eq_ofNat_of_zero_le y0
            have hy : yn < 4 := by omega
            have hgy := hg4.out yn hy
            obtain ⟨bb, boff, rfl, hbl, hc⟩ := (HS.out.keep hba).at (by omega)
            obtain ⟨ai, li, ci, cc, hli, _, hsl⟩ := hc yn hy
            rw [show sub ls (x, (yn : Int)) = ls.getD yn [] from by unfold sub; rw [if_pos hx]; rfl] at hcat
            generalize ls.getD yn [] = L at hsl hgy hcat
            obtain ⟨_, q1, q2⟩ := good_pile hgy
            have hL := hsl.1
            obtain ⟨b4, off4, rfl, _, _⟩ := hsl.at (by omega)
            have hfl : Hid (flat (cat ms (k + 1)) = flat (cat ms k) ++ flat L ∧ (cat ms (k + 1)).length = (cat ms k).length + li) := by
              rw [hcat, flat_append, List.length_append, hL]; exact ⟨rfl, rfl⟩
            have hcs := flat_cells hsl
            clear hcat hc hv hgy hrow hbk hx
            generalize cat ms k = N0 at hrow' h40 hfl
            go_wp2_with (at_builtin; refine wpList_append_own _ rfl _ _ 24 rfl w.heap.size 69 i0 (.agg #[.int .i64 0, .int .i64 0]) 2 16 Tryd.underlying24 hi hz0 hz1 hz2 rfl (by decide) _ _ _ rfl hrow' ⟨b4, off4, none⟩ li ci (flat L) rfl (by rw [flat_len]; omega) hcs (flat_one L) (by unfold maxLen; omega) (by omega) hba.size ?_; intro v5 w5 hown5 hg5 _)
            have hB5 : Below w.heap.size w w5 := hba.grown hg5 hba.size (own_ge hrow')
            clear hg5 hrow' hcs hba
            go_roundw
            case rel => exact ⟨k + 1, by omega, by go_num, by rw [hfl.out.1, hfl.out.2]; exact hown5, by have := hfl.out.2; omega, hB5⟩
            case measure => simp [intOf]; omega
          · have hx2 : (x == 2) = false := by simpa using hx
            rw [show sub ls (x, y) = [(x, y)] from by unfold sub; rw [if_neg hx]] at hcat
            have hfl : Hid (flat (cat ms (k + 1)) = flat (cat ms k) ++ flat [(x, y)] ∧ (cat ms (k + 1)).length = (cat ms k).length + 1) := by
              rw [hcat, flat_append, List.length_append]; exact ⟨rfl, rfl⟩
            have hnode := node_row_at (wr.alloc (.cells #[.int .i64 x, .int .i64 y] 69)) (wr.heap.size + 1) (by simp) x y
            have hba2 := hba.alloc hba.size (.cells #[.int .i64 x, .int .i64 y] 69)
            have hrow2 := hrow'.alloc (.cells #[.int .i64 x, .int .i64 y] 69)
            clear hcat hv hx hrow hbk hrow' hba
            generalize cat ms k = N0 at hrow2 h40 hfl
            go_wp2_with (at_builtin; refine wpList_append_own _ rfl _ _ 24 rfl w.heap.size 69 i0 (.agg #[.int .i64 0, .int .i64 0]) 2 16 Tryd.underlying24 hi hz0 hz1 hz2 rfl (by decide) _ _ _ rfl hrow2 ⟨wr.heap.size + 1, 0, none⟩ 1 1 (flat [(x, y)]) rfl rfl (flat_cells hnode) (flat_one _) (by unfold maxLen; omega) (by omega) hba2.size ?_; intro v5 w5 hown5 hg5 _)
            have hB5 : Below w.heap.size w w5 := hba2.grown hg5 hba2.size (own_ge hrow2)
            clear hg5 hrow2 hnode hba2
            go_roundw
            case rel => exact ⟨k + 1, by omega, by go_num, by rw [hfl.out.1, hfl.out.2]; exact hown5, by have := hfl.out.2; omega, hB5⟩
            case measure => simp [intOf]; omega
        · obtain rfl : k = len := by omega
          go_wp2_with fail
          refine (HM.out _ _ _ _ hrow hbk.size (by omega)).mono ?_
          rw [← HF.out.1, ← HF.out.2]
          rintro e w6 ⟨v6, rfl, hown6, hb6⟩
          have hB6 := hbk.trans (hb6.mono hbk.size)
          clear hrow hb6 hbk
          go_wp2
          go_ret2
          exact ⟨_, rfl, hown6, hB6⟩

theorem specPut_any (a : Option Addr) (len cap : Nat) (l : List (Int × Int)) (b : Option Addr) (lb cb : Nat) (ls : List (List (Int × Int))) (w : World) (h : NSl w a len l) (hb : NNSl w b lb ls) (hm : len ≤ 9223372036854775807) (hmb : lb ≤ 9223372036854775807) :
    Calls Tryd.prog 10 #[.slice a len cap, .slice b lb cb] w fun e w' => ∃ v : Value, e = .returned (.tuple #[v, .bool (putOk l ls)]) ∧ w'.ownsRow w.heap.size 69 2 v (putR l ls).length (flat (putR l ls)) ∧ Below w.heap.size w w' := by
  have hlb := hb.1
  have HG := specGood_any a len cap l w h hm
  by_cases hg : goodB l = true
  · by_cases h4 : lb = 4
    · subst h4
      exact put_in a len cap l b cb ls w h hb hg
    · have hj : putIn l ls = false := by unfold putIn; rw [hlb, decide_eq_false h4, Bool.and_false, Bool.false_and]
      have e1 : putOk l ls = false := by unfold putOk; rw [hj]; rfl
      have e2 : putR l ls = [] := by unfold putR; rw [hj]; rfl
      rw [e1, e2]
      rw [hg] at HG
      have HG' := (show Hid _ from HG)
      have i4 : ((lb : Int) != 4) = true := by rw [bne_iff_ne]; omega
      clear HG e1 e2 hj hg
      go_enter Tryd.func10, Tryd.ntmps10
      go_wp2_with fail
      refine Calls.mono HG'.out ?_
      rintro e w1 ⟨rfl, hb1⟩
      go_wp2
      go_ret2
      exact ⟨_, rfl, World.ownsRow_nil _ _ _ _, hb1⟩
  · have hg' : goodB l = false := by simpa using hg
    have hj : putIn l ls = false := by unfold putIn; rw [hg', Bool.false_and, Bool.false_and]
    have e1 : putOk l ls = false := by unfold putOk; rw [hj]; rfl
    have e2 : putR l ls = [] := by unfold putR; rw [hj]; rfl
    rw [e1, e2]
    rw [hg'] at HG
    have HG' := (show Hid _ from HG)
    clear HG e1 e2 hj hg hg'
    go_enter Tryd.func10, Tryd.ntmps10
    go_wp2_with fail
    refine Calls.mono HG'.out ?_
    rintro e w1 ⟨rfl, hb1⟩
    go_wp2
    go_ret2
    exact ⟨_, rfl, World.ownsRow_nil _ _ _ _, hb1⟩
end Go.Proofs.YtlpefaaohcgboaaDoor
