/-
  PROVED HERE: what the program's CheckRule answers, at every two lists of nodes. The tables are laid, and the library's bound on short searches holds some number. No other condition. what the model's CheckRule answers, at every two lists of nodes. No other condition. the law FnExactCheckRule's own run, at every argument, in a world whose tables are laid; the library's bound on short searches holds some number. No other condition. what the lists of laid variables give: the tables of powers of ten, of arities, of signs, the two sentinels. No condition.
-/
import Derived.Test.YtkadanagmahhgaaGreatDoorRun24
import Derived.Test.YtkadanagmahhgaaGreatDoorRun36
import Derived.Test.YtkadanagmahhgaaGreatDoorRun34
import Derived.Deep.CutRange
import Derived.Test.YtkadanagmahhgaaGreatDoorRun23
import Derived.Test.YtkadanagmahhgaaGreatDoorRun27
import Derived.Test.YtkadanagmahhgaaGreatDoorRun3
import Derived.Test.YtkadanagmahhgaaGreatDoorRun13
import Derived.Test.YtkadanagmahhgaaGreatDoorRun4
import Derived.Lib.LaidTab
import Derived.MakeChecks
import Derived.Stop.Joined
import Derived.Stop.LaidErr
namespace Go.Proofs.YtkadanagmahhgaaGreatDoor
open Go.ChangeShapes Go.WideShapes Go.ChangeAt Go.RowKit
set_option linter.unusedVariables false

set_option maxHeartbeats 1600000 in
theorem index8_any (a : Option Addr) (len cap : Nat) (l : List Int) (v : Int) (w : World) (h : Sl w a len l) (hm : len ≤ 1000) :
    Calls Tryz.prog 107 #[.slice a len cap, .int .i64 v] w fun e w' => ∃ z : Int, e = .returned (.int .i64 z) ∧ decide (0 ≤ z) = decide (v ∈ l) ∧ w' = w := by
  have hll := h.1
  have HS : Hid (Sl w a len l) := h
  have HY : Hid (∀ k, k < len → l.getD k 0 = v → true = decide (v ∈ l)) := fun k hk e => by
    rw [decide_eq_true]
    rw [← e, List.getD_eq_getElem?_getD, List.getElem?_eq_getElem (by omega)]
    exact List.getElem_mem _
  have HN : Hid ((∀ k, k < len → ¬ l.getD k 0 = v) → false = decide (v ∈ l)) := fun hx => by
    rw [decide_eq_false]
    intro hm
    obtain ⟨k, hk, e⟩ := List.getElem_of_mem hm
    refine hx k (by omega) ?_
    rw [List.getD_eq_getElem?_getD, List.getElem?_eq_getElem hk]
    exact e
  generalize decide (v ∈ l) = R at HY HN ⊢
  clear h hll
  go_enter Tryz.func107, Tryz.ntmps107
  go_wp2_with fail
  go_loopw [8] (fun x wr => ∃ (k : Nat), k ≤ len ∧ x = .int .i64 k ∧ Hid (∀ j, j < k → ¬ l.getD j 0 = v) ∧ wr = w) (fun x _ => len - (intOf x).toNat)
  case atStart => exact ⟨0, Nat.zero_le _, rfl, fun j hj => absurd hj (Nat.not_lt_zero _), rfl⟩
  case round =>
    obtain ⟨k, hk, rfl, hE, rfl⟩ := hrel
    by_cases hlt : k < len
    · obtain ⟨b, off, rfl, hb⟩ : ∃ b off, a = some ⟨b, off, none⟩ ∧ wr.cell? ⟨b, off + k, none⟩ = some (.int .i64 (l.getD k 0)) := by
        rcases HS.out.2 with h0 | ⟨b, off, e, _, hc⟩
        · omega
        · exact ⟨b, off, e, hc k hlt⟩
      have hkl : (k : Int) < len := by omega
      by_cases e : l.getD k 0 = v
      · have hR := HY.out k hlt e
        subst hR
        rw [e] at hb
        have e2 : (v == v) = true := by simp
        clear HY HN hE e
        go_wp2
        go_ret
        exact ⟨(k : Int), rfl, decide_eq_true (by omega), rfl⟩
      · have HE2 : Hid (∀ j, j < k + 1 → ¬ l.getD j 0 = v) := fun j hj => by
          by_cases e2 : j = k
          · rw [e2]; exact e
          · exact hE.out j (by omega)
        have e2 : (v == l.getD k 0) = false := by simpa using fun h => e h.symm
        clear e hE
        generalize l.getD k 0 = y at hb e2
        go_wp2
        exact ⟨⟨k + 1, by omega, by go_num, HE2, trivial⟩, by simp [intOf]; omega⟩
    · obtain rfl : k = len := by omega
      have hN := HN.out hE.out
      subst hN
      go_wp2
      go_ret
      exact ⟨-1, rfl, by decide, rfl⟩
theorem contains8_any (a : Option Addr) (len cap : Nat) (l : List Int) (v : Int) (w : World) (h : Sl w a len l) (hm : len ≤ 1000) :
    Calls Tryz.prog 69 #[.slice a len cap, .int .i64 v] w fun e w' => e = .returned (.bool (decide (v ∈ l))) ∧ w' = w := by
  have HI := (show Hid _ from index8_any a len cap l v w h hm)
  generalize decide (v ∈ l) = R at HI ⊢
  clear h
  go_enter Tryz.func69, Tryz.ntmps69
  go_wp2_with fail
  refine Calls.mono HI.out ?_
  rintro e w2 ⟨z, rfl, hz, rfl⟩
  clear HI
  by_cases h0 : 0 ≤ z
  · obtain rfl : true = R := by rw [← hz, decide_eq_true h0]
    go_wp2
    go_ret
    exact ⟨rfl, rfl⟩
  · obtain rfl : false = R := by rw [← hz, decide_eq_false h0]
    go_wp2
    go_ret
    exact ⟨rfl, rfl⟩
set_option maxHeartbeats 1600000 in
theorem hasAll8_any (a b : Option Addr) (n c m d : Nat) (l k : List Int) (w : World) (h : Sl w a n l) (h' : Sl w b m k) (hn : n ≤ 1000) (hm : m ≤ 1000) :
    Calls Tryz.prog 35 #[.slice a n c, .slice b m d] w fun e w' => e = .returned (.bool (subV k l)) ∧ w' = w := by
  have hkl := h'.1
  have HS : Hid (Sl w b m k) := h'
  have HC : Hid (∀ v, Calls Tryz.prog 69 #[.slice a n c, .int .i64 v] w fun e w' => e = .returned (.bool (decide (v ∈ l))) ∧ w' = w) := fun v => contains8_any a n c l v w h hn
  have HY : Hid ((∀ i, i < m → k.getD i 0 ∈ l) → true = subV k l) := fun hx => subV_yes (fun i hi => hx i (by omega))
  have HN : Hid (∀ i, i < m → k.getD i 0 ∉ l → false = subV k l) := fun i hi hx => subV_no (by omega) hx
  generalize subV k l = R at HY HN ⊢
  clear h h' hkl
  go_enter Tryz.func35, Tryz.ntmps35
  go_wp2_with fail
  go_loopw [9] (fun x wr => ∃ (i : Nat), i ≤ m ∧ x = .int .i64 i ∧ Hid (∀ j, j < i → k.getD j 0 ∈ l) ∧ wr = w) (fun x _ => m - (intOf x).toNat)
  case atStart => exact ⟨0, Nat.zero_le _, rfl, fun j hj => absurd hj (Nat.not_lt_zero _), rfl⟩
  case round =>
    obtain ⟨i, hi, rfl, hE, rfl⟩ := hrel
    by_cases hlt : i < m
    · obtain ⟨bb, off, rfl, hb⟩ : ∃ bb off, b = some ⟨bb, off, none⟩ ∧ wr.cell? ⟨bb, off + i, none⟩ = some (.int .i64 (k.getD i 0)) := by
        rcases HS.out.2 with h0 | ⟨bb, off, e, _, hc⟩
        · omega
        · exact ⟨bb, off, e, hc i hlt⟩
      have hil : (i : Int) < m := by omega
      have HCi := (show Hid _ from HC.out (k.getD i 0))
      by_cases e : k.getD i 0 ∈ l
      · rw [decide_eq_true e] at HCi
        have HE2 : Hid (∀ j, j < i + 1 → k.getD j 0 ∈ l) := fun j hj => by
          by_cases e2 : j = i
          · rw [e2]; exact e
          · exact hE.out j (by omega)
        clear e hE
        generalize k.getD i 0 = y at hb HCi
        go_wp2_with fail
        refine Calls.mono HCi.out ?_
        rintro e w2 ⟨rfl, rfl⟩
        clear HCi
        go_wp2
        exact ⟨⟨i + 1, by omega, by go_num, HE2, trivial⟩, by simp [intOf]; omega⟩
      · rw [decide_eq_false e] at HCi
        have hR := HN.out i hlt e
        subst hR
        clear e hE HN HY
        generalize k.getD i 0 = y at hb HCi
        go_wp2_with fail
        refine Calls.mono HCi.out ?_
        rintro e w2 ⟨rfl, rfl⟩
        clear HCi
        go_wp2
        go_ret
        exact ⟨rfl, rfl⟩
    · obtain rfl : i = m := by omega
      have hY := HY.out hE.out
      subst hY
      go_wp2
      go_ret
      exact ⟨rfl, rfl⟩
theorem ringRule_any (a b : Option Addr) (n c m d : Nat) (p r : List (Int × Int)) (w : World) (ht : Tab w) (h1 : NSl w a n p) (h2 : NSl w b m r) (hm : n ≤ 1000) (hm2 : m ≤ 1000) :
    Calls Tryz.prog 37 #[.agg #[.slice a n c, .slice b m d]] w fun e w' => e = .returned (.bool (isRingB p && isRingB r)) ∧ Below w.heap.size w w' := by
  obtain ⟨W1, hW1⟩ : ∃ W1, w.alloc (.cells #[.slice a n c, .slice b m d] 26) = W1 := ⟨_, rfl⟩
  have hb1 : Below w.heap.size w W1 := by rw [← hW1]; exact (Below.refl _ _).alloc (Nat.le_refl _) _
  have hs1 : w.heap.size < W1.heap.size := by rw [← hW1]; simp
  have n0 : W1.cell? ⟨w.heap.size, 0, none⟩ = some (.slice a n c) := by rw [← hW1]; simp [go_sem]
  have n1 : W1.cell? ⟨w.heap.size, 1, none⟩ = some (.slice b m d) := by rw [← hW1]; simp [go_sem]
  have HB := (show Hid _ from hb1)
  have HP := (show Hid _ from implIsRing_any a n c p W1 (ht.keeps hb1) (h1.keep hb1) (by omega))
  have HQ : Hid (∀ W, Below W1.heap.size W1 W → Calls Tryz.prog 74 #[.slice b m d] W fun e w' => e = .returned (.tuple #[.bool (isRingB r), .bool (goodB r)]) ∧ Below W.heap.size W w') := fun W hW => implIsRing_any b m d r W ((ht.keeps hb1).keeps hW) ((h2.keep hb1).keep hW) (by omega)
  generalize isRingB p = X at HP ⊢
  generalize isRingB r = Y at HQ ⊢
  generalize goodB p = G1 at HP
  generalize goodB r = G2 at HQ
  clear ht h1 h2 hb1
  go_enter Tryz.func37, Tryz.ntmps37
  go_wp2_with fail
  (try rw [hW1])
  refine Calls.mono HP.out ?_
  rintro e w2 ⟨rfl, hb2⟩
  have q1 := (hb2.cell (p := ⟨w.heap.size, 1, none⟩) hs1).trans n1
  have HQ2 := (show Hid _ from HQ.out _ hb2)
  have HB2 : Hid (Below w.heap.size w w2) := HB.out.trans (hb2.mono HB.out.size)
  clear HP hW1 hb2 HQ HB
  go_wp2_with fail
  refine Calls.mono HQ2.out ?_
  rintro e w3 ⟨rfl, hb3⟩
  have HB3 : Hid (Below w.heap.size w w3) := HB2.out.trans (hb3.mono HB2.out.size)
  clear HQ2 hb3 HB2
  cases X
  · go_wp2
    go_ret
    exact ⟨rfl, HB3.out⟩
  · go_wp2
    go_ret
    exact ⟨by simp, HB3.out⟩
set_option maxHeartbeats 6400000 in
set_option maxRecDepth 20000 in
theorem implCheck_any (a b : Option Addr) (n c m d : Nat) (p r : List (Int × Int)) (w : World) (hE : Env w) (hT : Tab w) (hM : MaxL w) (h1 : NSl w a n p) (h2 : NSl w b m r) (hm : n ≤ 9223372036854775807) (hm2 : m ≤ 9223372036854775807) (hI : ∀ k, InI (p.getD k (0, 0)).2) (hI' : ∀ k, InI (r.getD k (0, 0)).2) :
    Calls Tryz.prog 16 #[.agg #[.slice a n c, .slice b m d]] w fun e w' => e = .returned (.tuple #[.int .i64 (codeR p r), .bool (ruleB p r)]) ∧ Below w.heap.size w w' := by
  obtain ⟨W1, hW1⟩ : ∃ W1, w.alloc (.cells #[.slice a n c, .slice b m d] 26) = W1 := ⟨_, rfl⟩
  have hb1 : Below w.heap.size w W1 := by rw [← hW1]; exact (Below.refl _ _).alloc (Nat.le_refl _) _
  have hs1 : w.heap.size < W1.heap.size := by rw [← hW1]; simp
  have n0 : W1.cell? ⟨w.heap.size, 0, none⟩ = some (.slice a n c) := by rw [← hW1]; simp [go_sem]
  have n1 : W1.cell? ⟨w.heap.size, 1, none⟩ = some (.slice b m d) := by rw [← hW1]; simp [go_sem]
  have HF : Hid (∀ W, Below W1.heap.size W1 W → (W.cell? ⟨w.heap.size, 0, none⟩ = some (.slice a n c) ∧ W.cell? ⟨w.heap.size, 1, none⟩ = some (.slice b m d)) ∧ Below w.heap.size w W) := fun W hW => ⟨⟨(hW.cell (p := ⟨w.heap.size, 0, none⟩) hs1).trans n0, (hW.cell (p := ⟨w.heap.size, 1, none⟩) hs1).trans n1⟩, hb1.trans (hW.mono hb1.size)⟩
  have HG := (show Hid _ from implRule_any a b n c m d p r W1 (hT.keeps hb1) (h1.keep hb1) (h2.keep hb1) hm hm2)
  unfold codeR
  cases hg : ruleB p r with
  | false =>
    rw [hg] at HG
    rw [if_neg (by decide)]
    clear hE hT hM h1 h2 hb1 hg hs1
    go_enter Tryz.func16, Tryz.ntmps16
    go_wp2_with fail
    (try rw [hW1])
    refine Calls.mono HG.out ?_
    rintro e w2 ⟨rfl, hb2⟩
    have HB2 := (show Hid _ from (HF.out _ hb2).2)
    clear HG hW1 HF hb2
    go_wp2
    go_ret2
    exact ⟨rfl, HB2.out⟩
  | true =>
    rw [hg] at HG
    rw [if_pos rfl]
    have hgg := hg
    unfold ruleB patB at hgg
    simp only [Bool.and_eq_true, decide_eq_true_eq] at hgg
    obtain ⟨⟨gp, gp7⟩, gr, gr7⟩ := hgg
    obtain ⟨hpp, hp1, -⟩ := good_pile gp
    obtain ⟨hpr, hr1, -⟩ := good_pile gr
    have hl1 := h1.1
    have hl2 := h2.1
    obtain ⟨e1, o1, rfl, he1, hc1⟩ := h1.at (by omega)
    have hv1 : varsL p = varsF p [] := by unfold varsL; rw [if_pos gp]
    have hv2 : varsL r = varsF r [] := by unfold varsL; rw [if_pos gr]
    have hf1 := varsF_few8 p []
    have hf2 := varsF_few8 r []
    simp only [List.length_nil, Nat.zero_add] at hf1 hf2
    have HV1 : Hid (∀ W, Below W1.heap.size W1 W → Calls Tryz.prog 34 #[.slice (some ⟨e1, o1, none⟩) n c] W fun e w' => ∃ x cx, e = .returned (.tuple #[.slice x (varsF p []).length cx, .bool true]) ∧ Sl w' x (varsF p []).length (varsF p []) ∧ Below W.heap.size W w') := fun W hW => by
      have := implVars_any (some ⟨e1, o1, none⟩) n c p W ((hT.keeps hb1).keeps hW) ((h1.keep hb1).keep hW) hm
      rw [hv1, gp] at this
      refine this.mono fun e w' ⟨v, f1, f2, f3⟩ => ?_
      obtain ⟨x, cx, rfl, f4⟩ := Sl.vals f2
      exact ⟨x, cx, f1, f4, f3⟩
    have HV2 : Hid (∀ W, Below W1.heap.size W1 W → Calls Tryz.prog 34 #[.slice b m d] W fun e w' => ∃ x cx, e = .returned (.tuple #[.slice x (varsF r []).length cx, .bool true]) ∧ Sl w' x (varsF r []).length (varsF r []) ∧ Below W.heap.size W w') := fun W hW => by
      have := implVars_any b m d r W ((hT.keeps hb1).keeps hW) ((h2.keep hb1).keep hW) hm2
      rw [hv2, gr] at this
      refine this.mono fun e w' ⟨v, f1, f2, f3⟩ => ?_
      obtain ⟨x, cx, rfl, f4⟩ := Sl.vals f2
      exact ⟨x, cx, f1, f4, f3⟩
    have HP0 : Hid (∀ W, Below W1.heap.size W1 W → W.cell? ⟨e1, o1, none⟩ = some (.int .i64 (p.getD 0 (0, 0)).1)) := fun W hW => by
      have := (((hb1.trans (hW.mono hb1.size)).cell (p := ⟨e1, o1 + 0 * 2, none⟩) he1).trans (hc1 0 (by omega)).1)
      simpa using this
    have HAx : Hid (∀ W, Below W1.heap.size W1 W → Calls Tryz.prog 36 #[.agg #[.slice (some ⟨e1, o1, none⟩) n c, .slice b m d]] W fun e w' => e = .returned (.bool (knownS p r)) ∧ Below W.heap.size W w') := fun W hW => isAxiom_any _ b n c m d p r W ((hE.keep hb1).keep hW) ((hT.keeps hb1).keeps hW) ((hM.keep hb1).keep hW) ((h1.keep hb1).keep hW) ((h2.keep hb1).keep hW) hg
    have HRg : Hid (∀ W, Below W1.heap.size W1 W → Calls Tryz.prog 37 #[.agg #[.slice (some ⟨e1, o1, none⟩) n c, .slice b m d]] W fun e w' => e = .returned (.bool (ringB p && ringB r)) ∧ Below W.heap.size W w') := fun W hW => by
      have := ringRule_any (some ⟨e1, o1, none⟩) b n c m d p r W ((hT.keeps hb1).keeps hW) ((h1.keep hb1).keep hW) ((h2.keep hb1).keep hW) (by omega) (by omega)
      unfold isRingB at this
      rw [gp, gr, Bool.true_and, Bool.true_and] at this
      exact this
    have HSm : Hid (∀ W, Below W1.heap.size W1 W → Calls Tryz.prog 39 #[.slice (some ⟨e1, o1, none⟩) n c, .slice b m d] W fun e w' => e = .returned (.tuple #[.bool (sameR p r), .bool (sameOk p r)]) ∧ Below W.heap.size W w') := fun W hW => implSame_any _ n c p b m d r W ((hT.keeps hb1).keeps hW) ((h1.keep hb1).keep hW) ((h2.keep hb1).keep hW) hm hm2 hI hI'
    have HHa : Hid (∀ W x cx y cy, Sl W x (varsF p []).length (varsF p []) → Sl W y (varsF r []).length (varsF r []) → Calls Tryz.prog 35 #[.slice x (varsF p []).length cx, .slice y (varsF r []).length cy] W fun e w' => e = .returned (.bool (subV (varsF r []) (varsF p []))) ∧ w' = W) := fun W x cx y cy f1 f2 => hasAll8_any x y _ cx _ cy _ _ W f1 f2 (by omega) (by omega)
    have HEq : Hid (∀ W x cx y cy, Sl W x (varsF p []).length (varsF p []) → Sl W y (varsF r []).length (varsF r []) → Calls Tryz.prog 38 #[.slice x (varsF p []).length cx, .slice y (varsF r []).length cy] W fun e w' => e = .returned (.bool (decide (varsF p [] = varsF r []))) ∧ Below W.heap.size W w') := fun W x cx y cy f1 f2 => equalI_any x y _ cx _ cy _ _ W f1 f2 (by omega) (by omega)
    have hlast := last_var gp
    rw [hl1] at hlast
    have HK0 : Hid (((p.getD 0 (0, 0)).1 = 2 ∧ n = 1) → codeC p r = 1) := fun hx => by
      unfold codeC
      rw [hl1, if_pos (hlast.2 hx)]
    have HK1 : Hid (¬ ((p.getD 0 (0, 0)).1 = 2 ∧ n = 1) → codeC p r = if subV (varsF r []) (varsF p []) = false then 2 else if knownS p r = true then 0 else if (ringB p && ringB r && decide (varsF p [] = varsF r [])) = false then 3 else if sameR p r = false then 4 else 0) := fun hx => by
      unfold codeC
      rw [hl1, if_neg (fun h => hx (hlast.1 h))]
    have h0n : (0 : Int) < n := by omega
    have hIV : Hid ((p.getD 0 (0, 0)).1 = 2 ∧ n = 1 ∨ ¬ ((p.getD 0 (0, 0)).1 = 2 ∧ n = 1)) := Classical.em _
    generalize codeC p r = Z at HK0 HK1 ⊢
    generalize (p.getD 0 (0, 0)).1 = x0 at HP0 HK0 HK1 hIV
    generalize (varsF p []).length = k1 at HV1 HHa HEq
    generalize (varsF r []).length = k2 at HV2 HHa HEq
    generalize subV (varsF r []) (varsF p []) = S at HHa HK1
    generalize knownS p r = K at HAx HK1
    generalize (ringB p && ringB r) = Q at HRg HK1
    generalize decide (varsF p [] = varsF r []) = V at HEq HK1
    generalize sameR p r = M at HSm HK1
    generalize sameOk p r = M2 at HSm
    generalize varsF p [] = l1 at HV1 HHa HEq
    generalize varsF r [] = l2 at HV2 HHa HEq
    clear hE hT hM h1 h2 hb1 hg hs1 hc1 he1 hlast hv1 hv2 hf1 hf2 gp gr gp7 gr7 hpp hpr hp1 hr1 hl1 hl2
    go_enter Tryz.func16, Tryz.ntmps16
    go_wp2_with fail
    (try rw [hW1])
    refine Calls.mono HG.out ?_
    rintro e w2 ⟨rfl, hb2⟩
    obtain ⟨⟨x00, x01⟩, -⟩ := HF.out _ hb2
    have HV12 := (show Hid _ from HV1.out _ hb2)
    have HB2 := (show Hid _ from hb2)
    clear HG hW1 hb2 HV1 n0 n1
    go_wp2_with fail
    refine Calls.mono HV12.out ?_
    rintro e w3 ⟨u1, cu1, rfl, hs3, hb3⟩
    have hB3 := HB2.out.trans (hb3.mono HB2.out.size)
    obtain ⟨⟨y00, y01⟩, -⟩ := HF.out _ hB3
    have HV23 := (show Hid _ from HV2.out _ hB3)
    have HB3 := (show Hid _ from hB3)
    clear HV12 hb3 HB2 hB3 HV2 x00 x01
    go_wp2_with fail
    refine Calls.mono HV23.out ?_
    rintro e w4 ⟨u2, cu2, rfl, hs4, hb4⟩
    have hB4 := HB3.out.trans (hb4.mono HB3.out.size)
    obtain ⟨⟨z00, z01⟩, -⟩ := HF.out _ hB4
    have hp0 := HP0.out _ hB4
    have HH4 := (show Hid _ from HHa.out w4 u1 cu1 u2 cu2 (hs3.keep hb4) hs4)
    have HB4 : Hid (Below W1.heap.size W1 w4 ∧ Sl w4 u1 k1 l1 ∧ Sl w4 u2 k2 l2) := ⟨hB4, hs3.keep hb4, hs4⟩
    clear HV23 hb4 HB3 hB4 y00 y01 hs3 hs4 HHa
    go_upto_region 5 with fail
    go_cut [25] from 26 to 37 (fun s wx => s = .bool (decide (x0 = 2 ∧ n = 1)) ∧ wx = w4)
    case first =>
      by_cases hx : x0 = 2
      · subst hx
        by_cases hn1 : n = 1
        · subst hn1
          go_wp2_with fail
          go_meet
          exact ⟨by simp, rfl⟩
        · have e1 : ((n : Int) == 1) = false := by simp; omega
          go_wp2_with fail
          go_meet
          exact ⟨congrArg Value.bool (decide_eq_false (fun h => hn1 h.2)).symm, rfl⟩
      · have e1 : (x0 == 2) = false := by simpa using hx
        go_wp2_with fail
        go_meet
        exact ⟨congrArg Value.bool (decide_eq_false (fun h => hx h.1)).symm, rfl⟩
    case rest =>
    obtain ⟨hs25, rfl⟩ := hcut
    clear hp0
    rcases hIV.out with hx | hx
    · rw [decide_eq_true hx] at hs25
      subst hs25
      obtain rfl := HK0.out hx
      have HE4 := (show Hid _ from (HF.out _ HB4.out.1).2)
      go_wp2
      go_ret2
      exact ⟨rfl, HE4.out⟩
    rw [decide_eq_false hx] at hs25
    subst hs25
    have HZ := (show Hid _ from HK1.out hx)
    clear hIV hx HK0 HK1
    go_wp2_with fail
    refine Calls.mono HH4.out ?_
    rintro e w5 ⟨rfl, rfl⟩
    clear HH4
    cases S with
    | false =>
      rw [if_pos rfl] at HZ
      obtain rfl := HZ.out
      have HE4 := (show Hid _ from (HF.out _ HB4.out.1).2)
      go_wp2
      go_ret2
      exact ⟨rfl, HE4.out⟩
    | true =>
      rw [if_neg (by decide)] at HZ
      have HA5 := (show Hid _ from HAx.out _ HB4.out.1)
      clear HAx
      go_wp2_with fail
      refine Calls.mono HA5.out ?_
      rintro e w6 ⟨rfl, hb6⟩
      have hB6 := HB4.out.1.trans (hb6.mono HB4.out.1.size)
      obtain ⟨⟨x00, x01⟩, hE6⟩ := HF.out _ hB6
      have HE6 := (show Hid _ from hE6)
      have HB6 : Hid (Below W1.heap.size W1 w6 ∧ Sl w6 u1 k1 l1 ∧ Sl w6 u2 k2 l2) := ⟨hB6, HB4.out.2.1.keep hb6, HB4.out.2.2.keep hb6⟩
      clear HA5 hb6 hB6 hE6 HB4 z00 z01
      cases K with
      | true =>
        rw [if_pos rfl] at HZ
        obtain rfl := HZ.out
        go_wp2
        go_ret2
        exact ⟨rfl, HE6.out⟩
      | false =>
        rw [if_neg (by decide)] at HZ
        have HR6 := (show Hid _ from HRg.out _ HB6.out.1)
        clear HRg HE6
        go_wp2_with fail
        refine Calls.mono HR6.out ?_
        rintro e w7 ⟨rfl, hb7⟩
        have hB7 := HB6.out.1.trans (hb7.mono HB6.out.1.size)
        obtain ⟨⟨y00, y01⟩, hE7⟩ := HF.out _ hB7
        have HE7 := (show Hid _ from hE7)
        have HQ7 := (show Hid _ from HEq.out w7 u1 cu1 u2 cu2 (HB6.out.2.1.keep hb7) (HB6.out.2.2.keep hb7))
        have HB7 := (show Hid _ from hB7)
        clear HR6 hb7 hB7 hE7 HB6 x00 x01 HEq
        cases Q with
        | false =>
          rw [Bool.false_and, if_pos rfl] at HZ
          obtain rfl := HZ.out
          go_wp2
          go_ret2
          exact ⟨rfl, HE7.out⟩
        | true =>
          rw [Bool.true_and] at HZ
          go_wp2_with fail
          refine Calls.mono HQ7.out ?_
          rintro e w8 ⟨rfl, hb8⟩
          have hB8 := HB7.out.trans (hb8.mono HB7.out.size)
          obtain ⟨⟨z00, z01⟩, hE8⟩ := HF.out _ hB8
          have HE8 := (show Hid _ from hE8)
          have HS8 := (show Hid _ from HSm.out _ hB8)
          have HB8 := (show Hid _ from hB8)
          clear HQ7 hb8 hB8 hE8 HB7 y00 y01 HSm HE7
          cases V with
          | false =>
            rw [if_pos rfl] at HZ
            obtain rfl := HZ.out
            go_wp2
            go_ret2
            exact ⟨rfl, HE8.out⟩
          | true =>
            rw [if_neg (by decide)] at HZ
            clear HE8
            go_wp2_with fail
            refine Calls.mono HS8.out ?_
            rintro e w9 ⟨rfl, hb9⟩
            have HE9 := (show Hid _ from (HF.out _ (HB8.out.trans (hb9.mono HB8.out.size))).2)
            clear HS8 hb9 HB8 HF z00 z01
            cases M with
            | false =>
              rw [if_pos rfl] at HZ
              obtain rfl := HZ.out
              go_wp2
              go_ret2
              exact ⟨rfl, HE9.out⟩
            | true =>
              rw [if_neg (by decide)] at HZ
              obtain rfl := HZ.out
              go_wp2
              go_ret2
              exact ⟨rfl, HE9.out⟩
end Go.Proofs.YtkadanagmahhgaaGreatDoor
namespace Go.Proofs.YtkadanagmahhgaaGreatDoor
open Go.ChangeShapes Go.WideShapes Go.ChangeAt Go.RowKit
set_option linter.unusedVariables false

set_option maxHeartbeats 6400000 in
set_option maxRecDepth 20000 in
theorem l8Check_any (a b : Option Addr) (n c m d : Nat) (p r : List (Int × Int)) (w : World) (h1 : NSl w a n p) (h2 : NSl w b m r) (hg : ruleB p r = true) (hI : ∀ k, InI (p.getD k (0, 0)).2) (hI' : ∀ k, InI (r.getD k (0, 0)).2) :
    Calls Tryz.prog 32 #[.agg #[.slice a n c, .slice b m d]] w fun e w' => e = .returned (.int .i64 (codeC p r)) ∧ Below w.heap.size w w' := by
  obtain ⟨W1, hW1⟩ : ∃ W1, w.alloc (.cells #[.slice a n c, .slice b m d] 26) = W1 := ⟨_, rfl⟩
  have hb1 : Below w.heap.size w W1 := by rw [← hW1]; exact (Below.refl _ _).alloc (Nat.le_refl _) _
  have hs1 : w.heap.size < W1.heap.size := by rw [← hW1]; simp
  have n0 : W1.cell? ⟨w.heap.size, 0, none⟩ = some (.slice a n c) := by rw [← hW1]; simp [go_sem]
  have n1 : W1.cell? ⟨w.heap.size, 1, none⟩ = some (.slice b m d) := by rw [← hW1]; simp [go_sem]
  have HF : Hid (∀ W, Below W1.heap.size W1 W → (W.cell? ⟨w.heap.size, 0, none⟩ = some (.slice a n c) ∧ W.cell? ⟨w.heap.size, 1, none⟩ = some (.slice b m d)) ∧ Below w.heap.size w W) := fun W hW => ⟨⟨(hW.cell (p := ⟨w.heap.size, 0, none⟩) hs1).trans n0, (hW.cell (p := ⟨w.heap.size, 1, none⟩) hs1).trans n1⟩, hb1.trans (hW.mono hb1.size)⟩
  have hgg := hg
  unfold ruleB patB at hgg
  simp only [Bool.and_eq_true, decide_eq_true_eq] at hgg
  obtain ⟨⟨gp, gp7⟩, gr, gr7⟩ := hgg
  obtain ⟨hpp, hp1, -⟩ := good_pile gp
  obtain ⟨hpr, hr1, -⟩ := good_pile gr
  have hl1 := h1.1
  have hl2 := h2.1
  obtain ⟨e1, o1, rfl, he1, hc1⟩ := h1.at (by omega)
  have hf1 := varsF_few8 p []
  have hf2 := varsF_few8 r []
  simp only [List.length_nil, Nat.zero_add] at hf1 hf2
  obtain ⟨k, hk⟩ : ∃ k, n = k + 1 := ⟨n - 1, by omega⟩
  have HV1 : Hid (∀ W, Below W1.heap.size W1 W → Calls Tryz.prog 61 #[.slice (some ⟨e1, o1, none⟩) n c] W fun e w' => ∃ x cx, e = .returned (.slice x (varsF p []).length cx) ∧ Sl w' x (varsF p []).length (varsF p []) ∧ Below W.heap.size W w') := fun W hW => by
    refine (vars_any (some ⟨e1, o1, none⟩) n c p W ((h1.keep hb1).keep hW) (by omega)).mono fun e w' ⟨v, f1, f2, f3⟩ => ?_
    obtain ⟨x, cx, rfl, f4⟩ := Sl.vals f2
    exact ⟨x, cx, f1, f4, f3⟩
  have HV2 : Hid (∀ W, Below W1.heap.size W1 W → Calls Tryz.prog 61 #[.slice b m d] W fun e w' => ∃ x cx, e = .returned (.slice x (varsF r []).length cx) ∧ Sl w' x (varsF r []).length (varsF r []) ∧ Below W.heap.size W w') := fun W hW => by
    refine (vars_any b m d r W ((h2.keep hb1).keep hW) (by omega)).mono fun e w' ⟨v, f1, f2, f3⟩ => ?_
    obtain ⟨x, cx, rfl, f4⟩ := Sl.vals f2
    exact ⟨x, cx, f1, f4, f3⟩
  have hp0 : W1.cell? ⟨e1, o1 + k * 2, none⟩ = some (.int .i64 (p.getD k (0, 0)).1) := (hb1.cell (p := ⟨e1, o1 + k * 2, none⟩) he1).trans (hc1 k (by omega)).1
  have HAx : Hid (∀ W, Below W1.heap.size W1 W → Calls Tryz.prog 63 #[.agg #[.slice (some ⟨e1, o1, none⟩) n c, .slice b m d]] W fun e w' => e = .returned (.bool (knownS p r)) ∧ Below W.heap.size W w') := fun W hW => l8Known_any _ b n c m d p r W ((h1.keep hb1).keep hW) ((h2.keep hb1).keep hW) hg
  have HR1 : Hid (∀ W, Below W1.heap.size W1 W → Calls Tryz.prog 64 #[.slice (some ⟨e1, o1, none⟩) n c] W fun e w' => e = .returned (.bool (ringB p)) ∧ Below W.heap.size W w') := fun W hW => l4Ring_any (fun k hk => good_ops hpp k hk) _ n c W ((h1.keep hb1).keep hW) (by omega)
  have HR2 : Hid (∀ W, Below W1.heap.size W1 W → Calls Tryz.prog 64 #[.slice b m d] W fun e w' => e = .returned (.bool (ringB r)) ∧ Below W.heap.size W w') := fun W hW => l4Ring_any (fun k hk => good_ops hpr k hk) _ m d W ((h2.keep hb1).keep hW) (by omega)
  have HSm : Hid (∀ W, Below W1.heap.size W1 W → Calls Tryz.prog 66 #[.slice (some ⟨e1, o1, none⟩) n c, .slice b m d] W fun e w' => e = .returned (.tuple #[.bool (sameR p r), .bool (sameOk p r)]) ∧ Below W.heap.size W w') := fun W hW => specSame_any _ n c p b m d r W ((h1.keep hb1).keep hW) ((h2.keep hb1).keep hW) (by omega) (by omega) hI hI'
  have hSO : sameR p r = true → sameOk p r = true := fun h => by unfold sameR at h; rw [Bool.and_eq_true] at h; exact h.1
  have HHa : Hid (∀ W x cx v, Sl W x (varsF p []).length (varsF p []) → Calls Tryz.prog 62 #[.slice x (varsF p []).length cx, .int .i64 v] W fun e w' => e = .returned (.bool (decide (v ∈ varsF p []))) ∧ w' = W) := fun W x cx v f1 => has8_any x _ cx _ v W f1 (by omega)
  have HEq : Hid (∀ W x cx y cy, Sl W x (varsF p []).length (varsF p []) → Sl W y (varsF r []).length (varsF r []) → Calls Tryz.prog 65 #[.slice x (varsF p []).length cx, .slice y (varsF r []).length cy] W fun e w' => e = .returned (.bool (decide (varsF p [] = varsF r []))) ∧ Below W.heap.size W w') := fun W x cx y cy f1 f2 => l1Same_any x y _ cx _ cy _ _ W f1 f2 (by omega) (by omega)
  have HK0 : Hid ((p.getD k (0, 0)).1 = 2 → codeC p r = 1) := fun hx => by
    unfold codeC
    rw [hl1, hk, Nat.add_sub_cancel, if_pos hx]
  have HK1 : Hid (¬ (p.getD k (0, 0)).1 = 2 → codeC p r = if subV (varsF r []) (varsF p []) = false then 2 else if knownS p r = true then 0 else if (ringB p && ringB r && decide (varsF p [] = varsF r [])) = false then 3 else if sameR p r = false then 4 else 0) := fun hx => by
    unfold codeC
    rw [hl1, hk, Nat.add_sub_cancel, if_neg hx]
  have HY : Hid ((∀ i, i < (varsF r []).length → (varsF r []).getD i 0 ∈ varsF p []) → true = subV (varsF r []) (varsF p [])) := subV_yes
  have HN : Hid (∀ i, i < (varsF r []).length → (varsF r []).getD i 0 ∉ varsF p [] → false = subV (varsF r []) (varsF p [])) := fun i hi hx => subV_no hi hx
  have hsub : (n : Int) - 1 = (k : Int) := by omega
  have hwr : IntKind.i64.wrap ((n : Int) - 1) = (k : Int) := by rw [IntKind.wrap_i64]; omega
  have hkn : (k : Int) < n := by omega
  have hk40 : (k : Int) ≤ 40 := by omega
  have hw64 : wrap64 (k : Int) = (k : Int) := by unfold wrap64; omega
  have hk2 : (varsF r []).length ≤ 40 := by omega
  generalize codeC p r = Z at HK0 HK1 ⊢
  generalize (p.getD k (0, 0)).1 = x0 at hp0 HK0 HK1
  generalize subV (varsF r []) (varsF p []) = S at HY HN HK1
  generalize knownS p r = K at HAx HK1
  generalize ringB p = Q1 at HR1 HK1
  generalize ringB r = Q2 at HR2 HK1
  generalize decide (varsF p [] = varsF r []) = V at HEq HK1
  generalize sameR p r = M at HSm HK1 hSO
  generalize sameOk p r = M2 at HSm hSO
  generalize hV1 : varsF p [] = l1 at HV1 HHa HEq HY HN
  generalize hV2 : varsF r [] = l2 at HV2 HEq HY HN hk2
  clear hV1 hV2
  generalize hK1l : l1.length = k1 at HV1 HHa HEq
  generalize hK2l : l2.length = k2 at HV2 HEq HY HN hk2
  clear h1 h2 hb1 hg hs1 hc1 he1 hf1 hf2 gp gr gp7 gr7 hpp hpr hp1 hr1 hl1 hl2 hk hK1l hK2l
  by_cases hx : x0 = 2
  · rw [HK0.out hx]
    subst hx
    have HB := (show Hid _ from (HF.out W1 (Below.refl _ _)).2)
    clear HF HY HN HK0 HK1
    go_enter Tryz.func32, Tryz.ntmps32
    go_wp2_with fail
    (try rw [hW1])
    go_wp2
    go_ret
    exact ⟨rfl, HB.out⟩
  have e0 : (x0 == 2) = false := by simpa using hx
  have HZ := (show Hid _ from HK1.out hx)
  clear HK0 HK1 hx
  have HV21 := (show Hid _ from HV2.out W1 (Below.refl _ _))
  go_enter Tryz.func32, Tryz.ntmps32
  go_wp2_with fail
  (try rw [hW1])
  refine Calls.mono HV21.out ?_
  rintro e w3 ⟨ys2, cy2, rfl, hs3, hb3⟩
  have HS3 : Hid (Sl w3 ys2 k2 l2 ∧ Below W1.heap.size W1 w3) := ⟨hs3, hb3⟩
  clear HV21 hs3 hb3 hW1 hp0 n0 n1
  go_wp2_with fail
  go_loopw [21] (fun x wr => ∃ (i : Nat), i ≤ k2 ∧ x = .int .i64 i ∧ Hid ((∀ j, j < i → l2.getD j 0 ∈ l1) ∧ Sl wr ys2 k2 l2 ∧ Below W1.heap.size W1 wr)) (fun x _ => k2 - (intOf x).toNat)
  case atStart => exact ⟨0, Nat.zero_le _, rfl, fun j hj => absurd hj (Nat.not_lt_zero _), HS3.out⟩
  case round =>
    obtain ⟨i, hi, rfl, hR⟩ := hrel
    clear HS3
    obtain ⟨⟨z0, z1⟩, hEw⟩ := HF.out _ hR.out.2.2
    by_cases hlt : i < k2
    · obtain ⟨bb, off, rfl, hb⟩ : ∃ bb off, ys2 = some ⟨bb, off, none⟩ ∧ wr.cell? ⟨bb, off + i, none⟩ = some (.int .i64 (l2.getD i 0)) := by
        rcases hR.out.2.1.2 with h0 | ⟨bb, off, e, _, hc⟩
        · omega
        · exact ⟨bb, off, e, hc i hlt⟩
      have hil : (i : Int) < k2 := by omega
      have HV1i := (show Hid _ from HV1.out _ hR.out.2.2)
      by_cases e : l2.getD i 0 ∈ l1
      · have HJ : Hid (∀ j, j < i + 1 → l2.getD j 0 ∈ l1) := fun j hj => by
          by_cases e2 : j = i
          · rw [e2]; exact e
          · exact hR.out.1 j (by omega)
        have HHi : Hid (∀ W x cx, Sl W x k1 l1 → Calls Tryz.prog 62 #[.slice x k1 cx, .int .i64 (l2.getD i 0)] W fun e w' => e = .returned (.bool true) ∧ w' = W) := fun W x cx f1 => by
          have := HHa.out W x cx (l2.getD i 0) f1
          rw [decide_eq_true e] at this
          exact this
        clear e hEw
        generalize l2.getD i 0 = y at hb HHi
        go_wp2_with fail
        refine Calls.mono HV1i.out ?_
        rintro e w5 ⟨ys1, cy1, rfl, hs5, hb5⟩
        have HH5 := (show Hid _ from HHi.out w5 ys1 cy1 hs5)
        have HB5 : Hid (Sl w5 (some ⟨bb, off, none⟩) k2 l2 ∧ Below W1.heap.size W1 w5) := ⟨hR.out.2.1.keep hb5, hR.out.2.2.trans (hb5.mono hR.out.2.2.size)⟩
        clear HV1i hs5 hb5 HHi hR
        go_wp2_with fail
        refine Calls.mono HH5.out ?_
        rintro e w6 ⟨rfl, rfl⟩
        clear HH5
        go_wp2
        exact ⟨⟨i + 1, by omega, by go_num, HJ.out, HB5.out⟩, by simp [intOf]; omega⟩
      · have hN := HN.out i hlt e
        subst hN
        rw [if_pos rfl] at HZ
        obtain rfl := HZ.out
        have HHi : Hid (∀ W x cx, Sl W x k1 l1 → Calls Tryz.prog 62 #[.slice x k1 cx, .int .i64 (l2.getD i 0)] W fun e w' => e = .returned (.bool false) ∧ w' = W) := fun W x cx f1 => by
          have := HHa.out W x cx (l2.getD i 0) f1
          rw [decide_eq_false e] at this
          exact this
        clear e hEw HY HN
        generalize l2.getD i 0 = y at hb HHi
        go_wp2_with fail
        refine Calls.mono HV1i.out ?_
        rintro e w5 ⟨ys1, cy1, rfl, hs5, hb5⟩
        have HH5 := (show Hid _ from HHi.out w5 ys1 cy1 hs5)
        have HB5 := (show Hid _ from (HF.out _ (hR.out.2.2.trans (hb5.mono hR.out.2.2.size))).2)
        clear HV1i hs5 hb5 HHi hR
        go_wp2_with fail
        refine Calls.mono HH5.out ?_
        rintro e w6 ⟨rfl, rfl⟩
        clear HH5
        go_wp2
        go_ret
        exact ⟨rfl, HB5.out⟩
    · obtain rfl : i = k2 := by omega
      have hY := HY.out hR.out.1
      subst hY
      rw [if_neg (by decide)] at HZ
      have HAr := (show Hid _ from HAx.out _ hR.out.2.2)
      clear HY HN hEw HAx
      go_wp2_with fail
      refine Calls.mono HAr.out ?_
      rintro e w5 ⟨rfl, hb5⟩
      have hB5 := hR.out.2.2.trans (hb5.mono hR.out.2.2.size)
      have HB5 := (show Hid _ from hB5)
      clear HAr hb5 hR hB5 z0 z1
      cases K with
      | true =>
        rw [if_pos rfl] at HZ
        obtain rfl := HZ.out
        have HE5 := (show Hid _ from (HF.out _ HB5.out).2)
        go_wp2
        go_ret
        exact ⟨rfl, HE5.out⟩
      | false =>
        rw [if_neg (by decide)] at HZ
        go_upto_region 11 with fail
        go_cut [53] from 34 to 53 (fun s wx => s = .bool (!(Q1 && Q2 && V)) ∧ Below W1.heap.size W1 wx)
        case first =>
          have hD : Below W1.heap.size W1 w5.drew := HB5.out.drew
          obtain ⟨⟨z0, z1⟩, -⟩ := HF.out _ hD
          have H36 := (show Hid _ from HR1.out _ hD)
          cases Q1 with
          | false =>
            first | (go_region_with (first
              | (go_at_call 64; refine Calls.mono H36.out ?_; rintro e v6 ⟨rfl, hb6⟩; have HB6 : Hid (Below W1.heap.size W1 v6) := hD.trans (hb6.mono hD.size); obtain ⟨⟨x0, x1⟩, -⟩ := HF.out _ HB6.out; clear H36))) | fail
            all_goals
              go_wp2_with fail
              go_meet
              exact ⟨rfl, HB6.out⟩
          | true =>
            cases Q2 with
            | false =>
              first | (go_region_with (first
                | (go_at_call 64; first
                    | (refine Calls.mono H36.out ?_; rintro e v6 ⟨rfl, hb6⟩; have hB6 := hD.trans (hb6.mono hD.size); obtain ⟨⟨x0, x1⟩, -⟩ := HF.out _ hB6; have H41 := (show Hid _ from HR2.out _ hB6); clear H36)
                    | (refine Calls.mono H41.out ?_; rintro e v7 ⟨rfl, hb7⟩; have HB7 : Hid (Below W1.heap.size W1 v7) := hB6.trans (hb7.mono hB6.size); obtain ⟨⟨y0, y1⟩, -⟩ := HF.out _ HB7.out; clear H41)))) | fail
              all_goals
                go_wp2_with fail
                go_meet
                exact ⟨rfl, HB7.out⟩
            | true =>
              first | (go_region_with (first
                | (go_at_call 64; first
                    | (refine Calls.mono H36.out ?_; rintro e v6 ⟨rfl, hb6⟩; have hB6 := hD.trans (hb6.mono hD.size); obtain ⟨⟨x0, x1⟩, -⟩ := HF.out _ hB6; have H41 := (show Hid _ from HR2.out _ hB6); clear H36)
                    | (refine Calls.mono H41.out ?_; rintro e v7 ⟨rfl, hb7⟩; have hB7 := hB6.trans (hb7.mono hB6.size); obtain ⟨⟨y0, y1⟩, -⟩ := HF.out _ hB7; have H47 := (show Hid _ from HV1.out _ hB7); clear H41))
                | (go_at_call 61; first
                    | (refine Calls.mono H47.out ?_; rintro e v8 ⟨ys8, c8, rfl, hs8, hb8⟩; have hB8 := hB7.trans (hb8.mono hB7.size); obtain ⟨⟨t0, t1⟩, -⟩ := HF.out _ hB8; have H50 := (show Hid _ from HV2.out _ hB8); clear H47)
                    | (refine Calls.mono H50.out ?_; rintro e v9 ⟨ys9, c9, rfl, hs9, hb9⟩; have hB9 := hB8.trans (hb9.mono hB8.size); have H51 := (show Hid _ from HEq.out v9 ys8 c8 ys9 c9 (hs8.keep hb9) hs9); clear H50))
                | (go_at_call 65; refine Calls.mono H51.out ?_; rintro e v10 ⟨rfl, hb10⟩; have HB10 : Hid (Below W1.heap.size W1 v10) := hB9.trans (hb10.mono hB9.size); clear H51))) | fail
              all_goals
                go_wp2_with fail
                go_meet
                exact ⟨rfl, HB10.out⟩
        case rest =>
        obtain ⟨rfl, hcw⟩ := hcut
        obtain ⟨w6, hw6⟩ : ∃ w6, w6 = wc := ⟨_, rfl⟩
        subst hw6
        have HB6 := (show Hid _ from hcw)
        clear hcw HB5 HR1 HR2 HEq HV1 HV2
        generalize (Q1 && Q2 && V) = Q at HZ ⊢
        obtain ⟨⟨z0, z1⟩, hE6⟩ := HF.out _ HB6.out
        have HE6 := (show Hid _ from hE6)
        clear hE6
        cases Q with
        | false =>
          rw [if_pos rfl] at HZ
          obtain rfl := HZ.out
          go_wp2
          go_ret
          exact ⟨rfl, HE6.out⟩
        | true =>
          rw [if_neg (by decide)] at HZ
          have HS6 := (show Hid _ from HSm.out _ HB6.out)
          clear HE6 HSm
          go_wp2_with fail
          refine Calls.mono HS6.out ?_
          rintro e w9 ⟨rfl, hb9⟩
          have HE9 := (show Hid _ from (HF.out _ (HB6.out.trans (hb9.mono HB6.out.size))).2)
          clear HS6 hb9 HB6 HF z0 z1
          cases M with
          | false =>
            rw [if_pos rfl] at HZ
            obtain rfl := HZ.out
            go_wp2
            go_ret
            exact ⟨rfl, HE9.out⟩
          | true =>
            rw [if_neg (by decide)] at HZ
            have hm2 := hSO rfl
            subst hm2
            obtain rfl := HZ.out
            go_wp2
            go_ret
            exact ⟨rfl, HE9.out⟩
theorem specCheck_any (a b : Option Addr) (n c m d : Nat) (p r : List (Int × Int)) (w : World) (h1 : NSl w a n p) (h2 : NSl w b m r) (hm : n ≤ 9223372036854775807) (hm2 : m ≤ 9223372036854775807) (hI : ∀ k, InI (p.getD k (0, 0)).2) (hI' : ∀ k, InI (r.getD k (0, 0)).2) :
    Calls Tryz.prog 14 #[.agg #[.slice a n c, .slice b m d]] w fun e w' => e = .returned (.tuple #[.int .i64 (codeR p r), .bool (ruleB p r)]) ∧ Below w.heap.size w w' := by
  obtain ⟨W1, hW1⟩ : ∃ W1, w.alloc (.cells #[.slice a n c, .slice b m d] 26) = W1 := ⟨_, rfl⟩
  have hb1 : Below w.heap.size w W1 := by rw [← hW1]; exact (Below.refl _ _).alloc (Nat.le_refl _) _
  have hs1 : w.heap.size < W1.heap.size := by rw [← hW1]; simp
  have n0 : W1.cell? ⟨w.heap.size, 0, none⟩ = some (.slice a n c) := by rw [← hW1]; simp [go_sem]
  have n1 : W1.cell? ⟨w.heap.size, 1, none⟩ = some (.slice b m d) := by rw [← hW1]; simp [go_sem]
  have HG := (show Hid _ from specRule_any a b n c m d p r W1 (h1.keep hb1) (h2.keep hb1) hm hm2)
  have HB := (show Hid _ from hb1)
  unfold codeR
  cases hg : ruleB p r with
  | false =>
    rw [hg] at HG
    rw [if_neg (by decide)]
    clear h1 h2 hb1 hg hs1
    go_enter Tryz.func14, Tryz.ntmps14
    go_wp2_with fail
    (try rw [hW1])
    refine Calls.mono HG.out ?_
    rintro e w2 ⟨rfl, hb2⟩
    have HB2 : Hid (Below w.heap.size w w2) := HB.out.trans (hb2.mono HB.out.size)
    clear HG hW1 HB hb2
    go_wp2
    go_ret2
    exact ⟨rfl, HB2.out⟩
  | true =>
    rw [hg] at HG
    rw [if_pos rfl]
    have HC : Hid (∀ W, Below W1.heap.size W1 W → Calls Tryz.prog 32 #[.agg #[.slice a n c, .slice b m d]] W fun e w' => e = .returned (.int .i64 (codeC p r)) ∧ Below W.heap.size W w') := fun W hW => l8Check_any a b n c m d p r W ((h1.keep hb1).keep hW) ((h2.keep hb1).keep hW) hg hI hI'
    generalize codeC p r = Z at HC ⊢
    clear h1 h2 hb1 hg
    go_enter Tryz.func14, Tryz.ntmps14
    go_wp2_with fail
    (try rw [hW1])
    refine Calls.mono HG.out ?_
    rintro e w2 ⟨rfl, hb2⟩
    have q0 := (hb2.cell (p := ⟨w.heap.size, 0, none⟩) hs1).trans n0
    have q1 := (hb2.cell (p := ⟨w.heap.size, 1, none⟩) hs1).trans n1
    have HC2 := (show Hid _ from HC.out _ hb2)
    have HB2 : Hid (Below w.heap.size w w2) := HB.out.trans (hb2.mono HB.out.size)
    clear HG hW1 HB hb2 HC
    go_wp2_with fail
    refine Calls.mono HC2.out ?_
    rintro e w3 ⟨rfl, hb3⟩
    have HB3 : Hid (Below w.heap.size w w3) := HB2.out.trans (hb3.mono HB2.out.size)
    clear HC2 hb3 HB2
    go_wp2
    go_ret2
    exact ⟨rfl, HB3.out⟩
end Go.Proofs.YtkadanagmahhgaaGreatDoor
namespace Go.Proofs.YtkadanagmahhgaaGreatDoor
open Go.ChangeShapes Go.WideShapes Go.ChangeAt Go.RowKit
set_option linter.unusedVariables false

set_option maxHeartbeats 3200000 in
theorem checkRuleLaw_any (a b : Option Addr) (len cap lb cb : Nat) (p q : List (Int × Int)) (w : World) (hE : Env w) (ht : Tab w) (hM : MaxL w) (h : NSl w a len p) (hl : NSl w b lb q) (hm : len ≤ 9223372036854775807) (hm2 : lb ≤ 9223372036854775807) (hI : ∀ k, InI (p.getD k (0, 0)).2) (hI' : ∀ k, InI (q.getD k (0, 0)).2) :
    Calls Tryz.prog 4 #[.agg #[.slice a len cap, .slice b lb cb]] w fun e w' => e = .returned (.bool true) ∧ Below w.heap.size w w' := by
  obtain ⟨W1, hW1⟩ : ∃ W1, w.alloc (.cells #[.slice a len cap, .slice b lb cb] 36) = W1 := ⟨_, rfl⟩
  have hb1 : Below w.heap.size w W1 := by rw [← hW1]; exact (Below.refl _ _).alloc (Nat.le_refl _) _
  have n0 : W1.cell? ⟨w.heap.size, 0, none⟩ = some (.slice a len cap) := by rw [← hW1]; simp [go_sem]
  have n1 : W1.cell? ⟨w.heap.size, 1, none⟩ = some (.slice b lb cb) := by rw [← hW1]; simp [go_sem]
  have hs1 : w.heap.size < W1.heap.size := by rw [← hW1]; simp
  have HZ := (show Hid _ from szR_any a b len cap lb cb 1048576 W1 (Nat.le_refl _) hm hm2)
  have HF : Hid (∀ W, Below W1.heap.size W1 W → Below w.heap.size w W) := fun W hW => hb1.trans (hW.mono hb1.size)
  have HT : Hid (∀ W, Below W1.heap.size W1 W → (Env W ∧ Tab W ∧ MaxL W) ∧ NSl W a len p ∧ NSl W b lb q) := fun W hW => ⟨⟨(hE.keep hb1).keep hW, (ht.keeps hb1).keeps hW, (hM.keep hb1).keep hW⟩, (h.keep hb1).keep hW, (hl.keep hb1).keep hW⟩
  by_cases hfit : len + lb ≤ 1048576
  · have hz : ¬ szRV 1048576 len lb < 0 := by unfold szRV; rw [if_pos hfit]; omega
    have hn : len ≤ 1048576 := by omega
    have hn2 : lb ≤ 1048576 := by omega
    have HC : Hid (∀ W, Below W1.heap.size W1 W → Calls Tryz.prog 15 #[.agg #[.slice a len cap, .slice b lb cb]] W fun e w' => ∃ g gp, e = .returned (.agg #[.slice (some ⟨g, 0, none⟩) len len, .slice (some ⟨gp, 0, none⟩) lb lb]) ∧ Below W.heap.size W w' ∧ NSl w' (some ⟨g, 0, none⟩) len p ∧ NSl w' (some ⟨gp, 0, none⟩) lb q) := fun W hW => copyR_any a b len cap lb cb p q W (HT.out W hW).2.1 (HT.out W hW).2.2 hn hn2
    have HSp : Hid (∀ W (g gp : Nat), NSl W (some ⟨g, 0, none⟩) len p → NSl W (some ⟨gp, 0, none⟩) lb q → Calls Tryz.prog 14 #[.agg #[.slice (some ⟨g, 0, none⟩) len len, .slice (some ⟨gp, 0, none⟩) lb lb]] W fun e w' => e = .returned (.tuple #[.int .i64 (codeR p q), .bool (ruleB p q)]) ∧ Below W.heap.size W w') := fun W g gp h1 h2 => specCheck_any _ _ len len lb lb p q W h1 h2 hm hm2 hI hI'
    have HIm : Hid (∀ W (g gp : Nat), (Env W ∧ Tab W ∧ MaxL W) → NSl W (some ⟨g, 0, none⟩) len p → NSl W (some ⟨gp, 0, none⟩) lb q → Calls Tryz.prog 16 #[.agg #[.slice (some ⟨g, 0, none⟩) len len, .slice (some ⟨gp, 0, none⟩) lb lb]] W fun e w' => e = .returned (.tuple #[.int .i64 (codeR p q), .bool (ruleB p q)]) ∧ Below W.heap.size W w') := fun W g gp h0 h1 h2 => implCheck_any _ _ len len lb lb p q W h0.1 h0.2.1 h0.2.2 h1 h2 hm hm2 hI hI'
    have HQ : Hid (∀ W (g gp g' gp' : Nat), NSl W (some ⟨g, 0, none⟩) len p → NSl W (some ⟨gp, 0, none⟩) lb q → NSl W (some ⟨g', 0, none⟩) len p → NSl W (some ⟨gp', 0, none⟩) lb q → Calls Tryz.prog 17 #[.agg #[.slice (some ⟨g, 0, none⟩) len len, .slice (some ⟨gp, 0, none⟩) lb lb], .agg #[.slice (some ⟨g', 0, none⟩) len len, .slice (some ⟨gp', 0, none⟩) lb lb]] W fun e w' => e = .returned (.bool true) ∧ Below W.heap.size W w') := fun W g gp g' gp' h1 h2 h3 h4 => eqR_same _ _ _ _ len len len lb lb lb p q W h1 h3 h2 h4 hn hn2
    generalize ruleB p q = B at HSp HIm
    generalize codeR p q = Z at HSp HIm
    have hZZ : (Z != Z) = false := by simp
    generalize szRV 1048576 len lb = s at HZ hz
    have hBB : (B != B) = false := by simp
    clear h hl hb1 hE ht hM hI hI' hn hn2 hfit
    go_enter Tryz.func4, Tryz.ntmps4
    go_wp2_with fail
    (try rw [hW1])
    refine Calls.mono HZ.out ?_
    rintro e w2 ⟨rfl, hb2⟩
    have q0 := (hb2.cell (p := ⟨w.heap.size, 0, none⟩) hs1).trans n0
    have q1 := (hb2.cell (p := ⟨w.heap.size, 1, none⟩) hs1).trans n1
    clear HZ hW1
    go_wp2_with fail
    refine Calls.mono (HC.out _ hb2) ?_
    rintro e w3 ⟨g, gp, rfl, hb3, hE3, hS3⟩
    have hB3 : Below W1.heap.size W1 w3 := hb2.trans (hb3.mono hb2.size)
    clear hb3 q0 q1
    go_wp2_with fail
    refine Calls.mono (HSp.out _ _ _ hE3 hS3) ?_
    rintro e w4 ⟨rfl, hb4⟩
    have hB4 : Below W1.heap.size W1 w4 := hB3.trans (hb4.mono hB3.size)
    have q0 := (hB4.cell (p := ⟨w.heap.size, 0, none⟩) hs1).trans n0
    have q1 := (hB4.cell (p := ⟨w.heap.size, 1, none⟩) hs1).trans n1
    clear hb4 hE3 hS3 hB3
    go_wp2_with fail
    refine Calls.mono (HC.out _ hB4) ?_
    rintro e w5 ⟨g2, gp2, rfl, hb5, hE5, hS5⟩
    have hB5 : Below W1.heap.size W1 w5 := hB4.trans (hb5.mono hB4.size)
    clear hb5 hB4 q0 q1
    obtain ⟨W6, hW6⟩ : ∃ W6, w5.alloc (.cells #[.slice (some ⟨g2, 0, none⟩) len len, .slice (some ⟨gp2, 0, none⟩) lb lb] 26) = W6 := ⟨_, rfl⟩
    have hb6 : Below w5.heap.size w5 W6 := by rw [← hW6]; exact (Below.refl _ _).alloc (Nat.le_refl _) _
    have t0 : W6.cell? ⟨w5.heap.size, 0, none⟩ = some (.slice (some ⟨g2, 0, none⟩) len len) := by rw [← hW6]; simp [go_sem]
    have t1 : W6.cell? ⟨w5.heap.size, 1, none⟩ = some (.slice (some ⟨gp2, 0, none⟩) lb lb) := by rw [← hW6]; simp [go_sem]
    have hs6 : w5.heap.size < W6.heap.size := by rw [← hW6]; simp
    have hB6 : Below W1.heap.size W1 W6 := hB5.trans (hb6.mono hB5.size)
    have hE6 := hE5.keep hb6
    have hS6 := hS5.keep hb6
    have hT6 := (HT.out _ hB6).1
    clear hb6 hB5 hE5 hS5
    go_wp2_with fail
    (try rw [hW6])
    refine Calls.mono (HIm.out _ _ _ hT6 hE6 hS6) ?_
    rintro e w7 ⟨rfl, hb7⟩
    have hb7d : Below W6.heap.size W6 w7.drew := hb7.drew
    have hB7 : Below W1.heap.size W1 w7.drew := hB6.trans (hb7d.mono hB6.size)
    have hE7 := hE6.keep hb7d
    have hS7 := hS6.keep hb7d
    have v0 : w7.drew.cell? ⟨w5.heap.size, 0, none⟩ = some (.slice (some ⟨g2, 0, none⟩) len len) := (hb7d.cell (p := ⟨w5.heap.size, 0, none⟩) hs6).trans t0
    have v1 : w7.drew.cell? ⟨w5.heap.size, 1, none⟩ = some (.slice (some ⟨gp2, 0, none⟩) lb lb) := (hb7d.cell (p := ⟨w5.heap.size, 1, none⟩) hs6).trans t1
    have q0 : w7.drew.cell? ⟨w.heap.size, 0, none⟩ = some (.slice a len cap) := (hB7.cell (p := ⟨w.heap.size, 0, none⟩) hs1).trans n0
    have q1 : w7.drew.cell? ⟨w.heap.size, 1, none⟩ = some (.slice b lb cb) := (hB7.cell (p := ⟨w.heap.size, 1, none⟩) hs1).trans n1
    have hs7 : w5.heap.size < w7.drew.heap.size := Nat.lt_of_lt_of_le hs6 hb7d.size
    have HB7 : Hid (Below W1.heap.size W1 w7.drew) := hB7
    have HE7 : Hid (NSl w7.drew (some ⟨g2, 0, none⟩) len p ∧ NSl w7.drew (some ⟨gp2, 0, none⟩) lb q) := ⟨hE7, hS7⟩
    clear hb7 hb7d hB6 hE6 hS6 hT6 t0 t1 hW6 hs6 hB7 hE7 hS7 HSp HIm
    go_wp2_with fail
    go_region_with (first
      | (go_at_call 15; refine Calls.mono (HC.out _ HB7.out) ?_; rintro e w8 ⟨g3, gp3, rfl, hb8, hE8, hS8⟩; have hB8 := HB7.out.trans (hb8.mono HB7.out.size); have hE9 := HE7.out.1.keep hb8; have hS9 := HE7.out.2.keep hb8; have x0 := (hb8.cell (p := ⟨w5.heap.size, 0, none⟩) hs7).trans v0; have x1 := (hb8.cell (p := ⟨w5.heap.size, 1, none⟩) hs7).trans v1; clear hb8)
      | (go_at_call 17; refine Calls.mono (HQ.out _ _ _ _ _ hE9 hS9 hE8 hS8) ?_; rintro e w9 ⟨rfl, hb9⟩; have hB9 := hB8.trans (hb9.mono hB8.size); clear hb9))
    all_goals
      have HB9 := (show Hid _ from HF.out _ hB9)
      clear hB9 hB8 hE8 hS8 hE9 hS9
      go_wp2
      go_ret
      exact ⟨rfl, HB9.out⟩
  · have hz : szRV 1048576 len lb = -1 := by unfold szRV; rw [if_neg hfit]
    rw [hz] at HZ
    clear h hl hb1 hE ht hM hI hI' HT hz hfit
    go_enter Tryz.func4, Tryz.ntmps4
    go_wp2_with fail
    (try rw [hW1])
    refine Calls.mono HZ.out ?_
    rintro e w2 ⟨rfl, hb2⟩
    clear HZ hW1
    go_wp2
    go_ret
    exact ⟨rfl, HF.out _ hb2⟩
end Go.Proofs.YtkadanagmahhgaaGreatDoor
namespace Go.Proofs.YtkadanagmahhgaaGreatDoor
open Go.ChangeShapes Go.WideShapes Go.ChangeAt Go.RowKit
set_option linter.unusedVariables false
/-- An array of strings that reads as a table holds the table's strings, cell for cell. -/
theorem cells_of_strs {H : Type} {enc : TypeId × Value → H} {P : Program} {w : World} {base : Nat} {sp : Nat → Bool} {held : Bool} {fuel : Nat} {t e : TypeId} {n : Nat} {cs : List Value} {ss : List (List UInt8)} {p : List MemPlace}
    (ht : P.underlying t = some (.array n e)) (he : P.underlying e = some .string) (hce : P.cellsOf e = 1) (hct : P.cellsOf t = n)
    (h : DataW.trod enc P w base sp held fuel t cs = some (.agg (ss.map fun s => .lit (.string s)), p)) : cs = ss.map fun s => Value.string ⟨s.toArray⟩ := by
  cases fuel with
  | zero => simp [DataW.trod] at h
  | succ fuel =>
    simp only [DataW.trod, ht, hce, hct, Nat.mul_one] at h
    split at h
    · rename_i hl
      obtain ⟨xs, hm, hx⟩ := Option.map_eq_some_iff.1 h
      have hxs : xs.map (·.1) = ss.map fun s => (DataW.lit (.string s) : DataW H) := by
        have := congrArg Prod.fst hx
        simpa using this
      have hxl : xs.length = n := by simpa using Lib.mapM_length hm
      have hzl : ss.length = n := by
        have := congrArg List.length hxs
        simp at this
        omega
      apply List.ext_getElem?
      intro i
      by_cases hi : i < n
      · obtain ⟨b, hb, hf⟩ := Lib.mapM_at hm i i (by simp [hi])
        obtain ⟨z, hc, rfl, _⟩ := DataW.trod_string he hf
        have h1 : cs[i]? = some (.string z) := by
          have := congrArg (·[0]?) hc
          simpa [List.getElem?_take, List.getElem?_drop] using this
        have h2 : (xs.map (·.1))[i]? = some (DataW.lit (.string z.data.toList) : DataW H) := by simp [hb]
        rw [hxs] at h2
        simp only [List.getElem?_map, Option.map_eq_some_iff, DataW.lit.injEq, Lit.string.injEq] at h2
        obtain ⟨z', hz', e'⟩ := h2
        rw [h1, List.getElem?_map, hz']
        subst e'
        obtain ⟨⟨l⟩⟩ := z
        rfl
      · rw [List.getElem?_eq_none (by omega), List.getElem?_eq_none (by simp; omega)]
    · cases h
theorem strs_of_head {P : Program} {W : World} {name : String} {ss : List (List UInt8)} {rest : List (String × DataW Unit)} {g : Nat} {t e : TypeId} {n : Nat}
    (hg : P.globalNamed name = some g) (hty : (P.globals[g]?).map (·.type) = some t) (ht : P.underlying t = some (.array n e)) (he : P.underlying e = some .string) (hce : P.cellsOf e = 1) (hct : P.cellsOf t = n)
    (h : laidMet P ((name, .agg (ss.map fun s => .lit (.string s))) :: rest) W) : W.var? P name = some (ss.map fun s => Value.string ⟨s.toArray⟩).toArray := by
  obtain ⟨ps, ⟨g', t', cs, fuel, p, q, hg', ht', hvar, hd, _, _⟩, _⟩ := h
  obtain rfl := Option.some.inj (hg.symm.trans hg')
  obtain rfl := Option.some.inj (hty.symm.trans ht')
  rw [hvar, ← cells_of_strs ht he hce hct hd]

theorem gPowType : (Tryz.prog.globals[3]?).map (·.type) = some 211 := by kernel_rfl
theorem cellsPow : Tryz.prog.cellsOf 211 = 20 := by kernel_rfl
theorem cellsU64 : Tryz.prog.cellsOf 51 = 1 := by kernel_rfl
theorem gESType : (Tryz.prog.globals[6]?).map (·.type) = some 197 := by kernel_rfl
theorem gERType : (Tryz.prog.globals[7]?).map (·.type) = some 197 := by kernel_rfl
theorem cellsEs : Tryz.prog.cellsOf 253 = 1 := by kernel_rfl
theorem cellsStr : Tryz.prog.cellsOf 9 = 1 := by kernel_rfl
theorem star : "*" ++ "errors.errorString" = "*errors.errorString" := by decide
theorem rowEs (u : TypeId) (h : Tryz.prog.typeName? 3 u = some "*errors.errorString") : u = 251 :=
  typeName_ptr_named (nm := "errors.errorString") (by rw [star]; kernel_rfl) (by kernel_rfl) (by decide) u (by rw [star]; exact h)
theorem gAr : Tryz.prog.globalNamed "loop.example/g00694/impl.arities" = some 0 := by kernel_rfl
theorem gArType : (Tryz.prog.globals[0]?).map (·.type) = some 153 := by kernel_rfl
theorem cellsAr : Tryz.prog.cellsOf 153 = 12 := by kernel_rfl
theorem cellsIntT : Tryz.prog.cellsOf 3 = 1 := by kernel_rfl
theorem gSg : Tryz.prog.globalNamed "loop.example/g00694/impl.signs" = some 1 := by kernel_rfl
theorem gSgType : (Tryz.prog.globals[1]?).map (·.type) = some 155 := by kernel_rfl
theorem cellsSg : Tryz.prog.cellsOf 155 = 11 := by kernel_rfl
def arCells : Array Value := #[.int .i64 0, .int .i64 0, .int .i64 0, .int .i64 1, .int .i64 2, .int .i64 2, .int .i64 2, .int .i64 2, .int .i64 2, .int .i64 2, .int .i64 2, .int .i64 3]
def sgCells : Array Value := #[.string ⟨#[]⟩, .string ⟨#[]⟩, .string ⟨#[]⟩, .string ⟨#[]⟩, .string ⟨#[43]⟩, .string ⟨#[45]⟩, .string ⟨#[42]⟩, .string ⟨#[60, 60]⟩, .string ⟨#[47]⟩, .string ⟨#[61, 61]⟩, .string ⟨#[60]⟩]
def sgL : List (List UInt8) := [[], [], [], [], [43], [45], [42], [60, 60], [47], [61, 61], [60]]
/-- What the signs' variable is to its cells. -/
theorem sig_of {W : World} (h : W.var? Tryz.prog "loop.example/g00694/impl.signs" = some sgCells) : Sig W := by
  intro i hi
  have := World.var?_cell gSg h i
  rw [this]
  rcases (show i = 0 ∨ i = 1 ∨ i = 2 ∨ i = 3 ∨ i = 4 ∨ i = 5 ∨ i = 6 ∨ i = 7 ∨ i = 8 ∨ i = 9 ∨ i = 10 by omega) with rfl | rfl | rfl | rfl | rfl | rfl | rfl | rfl | rfl | rfl | rfl <;> rfl
theorem tab_of {W : World} (h : Lib.TabIs Tryz.prog W "loop.example/g00694/impl.arities" .i64 [0, 0, 0, 1, 2, 2, 2, 2, 2, 2, 2, 3]) : Tab W := fun i hi => h.cell gAr i hi
theorem sg_head {W : World} {rest : List (String × DataW Unit)} (h : laidMet Tryz.prog (("loop.example/g00694/impl.signs", Rows.laid_loop_example_g00694_impl_signs) :: rest) W) : W.var? Tryz.prog "loop.example/g00694/impl.signs" = some sgCells :=
  strs_of_head (ss := sgL) gSg gSgType Tryz.underlying155 Tryz.underlying9 cellsStr cellsSg h
theorem ar_head {W : World} {rest : List (String × DataW Unit)} (h : laidMet Tryz.prog (("loop.example/g00694/impl.arities", Rows.laid_loop_example_g00694_impl_arities) :: rest) W) : Lib.TabIs Tryz.prog W "loop.example/g00694/impl.arities" .i64 [0, 0, 0, 1, 2, 2, 2, 2, 2, 2, 2, 3] :=
  Lib.tabIs_of_head gAr gArType Tryz.underlying153 Tryz.underlying3 cellsIntT cellsAr h
theorem pow_head {W : World} {rest : List (String × DataW Unit)} (h : laidMet Tryz.prog (("internal/strconv.uint64pow10", Rows.laid_internal_strconv_uint64pow10) :: rest) W) : Pow W :=
  Lib.tabIs_of_head (zs := Lib.pow10Tab) gPow gPowType Tryz.underlying211 Tryz.underlying51 cellsU64 cellsPow h
theorem errs_heads {W : World} {r1 r2 : List (String × DataW Unit)} (h1 : laidMet Tryz.prog (("strconv.ErrRange", Rows.laid_strconv_ErrRange) :: r1) W) (h2 : laidMet Tryz.prog (("strconv.ErrSyntax", Rows.laid_strconv_ErrSyntax) :: r2) W) : Errs W := by
  refine ⟨?_, ?_⟩
  · obtain ⟨a0, s0, hv0, -, -, -⟩ := laid_sentinel h2 gES gESType Tryz.underlying197 rowEs Tryz.underlying251 Tryz.underlying253 rfl rfl Tryz.underlying9 cellsEs cellsStr
    exact ⟨_, _, hv0⟩
  · obtain ⟨a0, s0, hv0, -, -, -⟩ := laid_sentinel h1 gER gERType Tryz.underlying197 rowEs Tryz.underlying251 Tryz.underlying253 rfl rfl Tryz.underlying9 cellsEs cellsStr
    exact ⟨_, _, hv0⟩
end Go.Proofs.YtkadanagmahhgaaGreatDoor
