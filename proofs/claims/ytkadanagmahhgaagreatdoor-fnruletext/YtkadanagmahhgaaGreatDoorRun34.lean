/-
  PROVED HERE: what IsRing answers, the program's, and the model's own look at nodes, at every list of nodes, in a world whose table of arities is laid. No other condition. which sum of products the program makes of the tree of a ring term, in a world whose table of arities is laid. No other condition. what the program's PolyOf answers, at every list of nodes, in a world whose table of arities is laid. No other condition. whether two lists of numbers, or two sums of products, are the same, to the model and to the program. No other condition.
-/
import Derived.Test.YtkadanagmahhgaaGreatDoorRun4
import Derived.Test.YtkadanagmahhgaaGreatDoorRun2
import Derived.Test.YtkadanagmahhgaaGreatDoorRun27
import Derived.Test.YtkadanagmahhgaaGreatDoorRun33
import Derived.Test.YtkadanagmahhgaaGreatDoorRun25
import Derived.Test.YtkadanagmahhgaaGreatDoorRun30
import Derived.Test.YtkadanagmahhgaaGreatDoorRun26
namespace Go.Proofs.YtkadanagmahhgaaGreatDoor
open Go.ChangeShapes Go.WideShapes Go.ChangeAt Go.RowKit
set_option linter.unusedVariables false

theorem ringAt_any {l : List (Int × Int)} (a : Option Addr) (len cap k : Nat) (w : World) (h : NSl w a len l) (hm : len ≤ 1048576) (hk : k < len) (hops : 1 ≤ (l.getD k (0, 0)).1 ∧ (l.getD k (0, 0)).1 ≤ 11 ∧ ((l.getD k (0, 0)).1 = 7 → 1 ≤ k)) :
    Calls Tryz.prog 112 #[.slice a len cap, .int .i64 k] w fun e w' => e = .returned (.bool (ringAt l k)) ∧ w' = w := by
  obtain ⟨b, off, rfl, hbl, hc⟩ := h.at (by omega)
  obtain ⟨c1, c2⟩ := hc k hk
  obtain ⟨o1, o2, o3⟩ := hops
  have hR : ringAt l k = if (l.getD k (0, 0)).1 = 7 then decide ((l.getD (k - 1) (0, 0)).1 = 1) else decide ((l.getD k (0, 0)).1 ≤ 6) := rfl
  have i1 : (k : Int) < len := by omega
  by_cases h7 : (l.getD k (0, 0)).1 = 7
  · have hk1 := o3 h7
    obtain ⟨d1, d2⟩ := hc (k - 1) (by omega)
    obtain ⟨j, rfl⟩ : ∃ j, k = j + 1 := ⟨k - 1, by omega⟩
    rw [show j + 1 - 1 = j from by omega] at d1 d2 hR
    rw [if_pos h7] at hR
    rw [hR]
    rw [h7] at c1
    have jj : (j : Int) < len := by omega
    generalize (l.getD j (0, 0)).1 = x at d1
    clear hc o1 o2 o3 h7 d2 hR h
    by_cases hx : x = 1
    · rw [decide_eq_true hx]
      subst hx
      go_enter Tryz.func112, Tryz.ntmps112
      go_wp2
      go_ret
      exact ⟨rfl, rfl⟩
    · rw [decide_eq_false hx]
      have hz : (x == 1) = false := by simpa using hx
      go_enter Tryz.func112, Tryz.ntmps112
      go_wp2
      go_ret
      exact ⟨rfl, rfl⟩
  · rw [if_neg h7] at hR
    rw [hR]
    generalize (l.getD k (0, 0)).1 = x at c1 o1 o2 h7
    clear hc o3 hR h
    have hx' : x = 1 ∨ x = 2 ∨ x = 3 ∨ x = 4 ∨ x = 5 ∨ x = 6 ∨ x = 8 ∨ x = 9 ∨ x = 10 ∨ x = 11 := by omega
    clear o1 o2 h7
    rcases hx' with rfl | rfl | rfl | rfl | rfl | rfl | rfl | rfl | rfl | rfl
    all_goals
      go_enter Tryz.func112, Tryz.ntmps112
      go_wp2
      go_ret
      exact ⟨rfl, rfl⟩
set_option maxHeartbeats 1600000 in
theorem implIsRing_any (a : Option Addr) (len cap : Nat) (l : List (Int × Int)) (w : World) (ht : Tab w) (h : NSl w a len l) (hm : len ≤ 9223372036854775807) :
    Calls Tryz.prog 74 #[.slice a len cap] w fun e w' => e = .returned (.tuple #[.bool (isRingB l), .bool (goodB l)]) ∧ Below w.heap.size w w' := by
  have hll := h.1
  have HG := (show Hid _ from implGood_any a len cap l w ht h hm)
  unfold isRingB
  cases hg : goodB l with
  | false =>
    rw [hg] at HG
    go_enter Tryz.func74, Tryz.ntmps74
    go_wp2_with fail
    refine Calls.mono HG.out ?_
    rintro e w1 ⟨rfl, hb1⟩
    clear HG
    go_wp2
    go_ret2
    exact ⟨rfl, hb1⟩
  | true =>
    rw [hg] at HG
    obtain ⟨hp, h1, h40⟩ := good_pile hg
    have HR : Hid (∀ W k, Below w.heap.size w W → k < len → Calls Tryz.prog 112 #[.slice a len cap, .int .i64 (k : Nat)] W fun e w' => e = .returned (.bool (ringAt l k)) ∧ w' = W) := fun W k hW hk => ringAt_any a len cap k W (h.keep hW) (by omega) hk (good_ops hp k (by omega))
    clear hp ht h
    rw [Bool.true_and]
    go_enter Tryz.func74, Tryz.ntmps74
    go_wp2_with fail
    refine Calls.mono HG.out ?_
    rintro e w1 ⟨rfl, hb1⟩
    clear HG
    go_wp2_with fail
    go_loopw [10] (fun i wr => ∃ k : Nat, k ≤ len ∧ i = .int .i64 (k : Int) ∧ wr = w1 ∧ Hid (∀ j, j < k → ringAt l j = true)) (fun i _ => len - (intOf i).toNat)
    case atStart => exact ⟨0, Nat.zero_le _, rfl, rfl, fun j hj => absurd hj (by omega)⟩
    case round =>
      obtain ⟨k, hk, rfl, rfl, HT⟩ := hrel
      by_cases hlt : k < len
      · have HC := (show Hid _ from HR.out _ k hb1 hlt)
        have i1 : (k : Int) < len := by omega
        cases hr : ringAt l k with
        | false =>
          rw [hr] at HC
          have HN : Hid (ringB l = false) := ring_no (k := k) (by omega) hr
          clear hr HT
          go_wp2_with fail
          refine Calls.mono HC.out ?_
          rintro e w2 ⟨rfl, rfl⟩
          clear HC
          go_wp2
          go_ret2
          exact ⟨by rw [HN.out]; rfl, hb1⟩
        | true =>
          rw [hr] at HC
          have HN : Hid (∀ i, i < k + 1 → ringAt l i = true) := fun i hi => by
            by_cases e : i = k
            · rw [e, hr]
            · exact HT.out i (by omega)
          clear hr HT
          go_wp2_with fail
          refine Calls.mono HC.out ?_
          rintro e w2 ⟨rfl, rfl⟩
          clear HC
          go_wp2
          go_roundw
          case rel => exact ⟨k + 1, by omega, by go_num, by first | trivial | rfl, HN⟩
          case measure => simp [intOf]; omega
      · obtain rfl : k = len := by omega
        have HN : Hid (ringB l = true) := ring_yes (fun i hi => HT.out i (by omega))
        clear HT
        go_wp2
        go_ret2
        exact ⟨by rw [HN.out]; rfl, hb1⟩
end Go.Proofs.YtkadanagmahhgaaGreatDoor
namespace Go.Proofs.YtkadanagmahhgaaGreatDoor
open Go.ChangeShapes Go.WideShapes Go.ChangeAt Go.RowKit
set_option linter.unusedVariables false

theorem polyTree_any {l : List (Int × Int)} {q : Int} (h : pile l 0 = some q) (hr : ringB l = true) (hI : ∀ k, InI (l.getD k (0, 0)).2) (ok : Nat → Prop) : ∀ (f k : Nat) (v : Value) (W : World), k < l.length → IsTree W ok l f k v → Tab W → HasSum W v (ofF l f k)
  | 0, _, _, _, _, ht, _ => ht.elim
  | f + 1, k, v, W, hk, ht, hT => by
    intro W' hb
    have good := fun k p => ofF_good (fun k _ => hI k) (vars4 h) f k p
    have hro := ring_ops hr hk
    obtain ⟨h1, h2⟩ := cnt_step h k hk
    obtain ⟨a1, a2, a3, _⟩ := fits_iff _ _ _ _ h1
    have IH := fun k v W hk ht hT => polyTree_any h hr hI ok f k v W hk ht hT
    rcases ht with ⟨h0, rfl⟩ | ⟨h0, rfl⟩ | ⟨h0, v0, v1, v2, rfl, t0, t1, t2⟩ | ⟨h0, h0', g, cap, vs, rfl, hok, hg, hc⟩
    · have e : ofF l (f + 1) k = some (numP (l.getD k (0, 0)).2) := by unfold ofF; rw [if_pos h0]
      rw [e]
      exact ofNum _ (hI k) W'
    · obtain ⟨n0, n4⟩ := a3 h0
      have e : ofF l (f + 1) k = some (varP (l.getD k (0, 0)).2.toNat) := by unfold ofF; rw [if_neg (by omega), if_pos h0]
      rw [e]
      obtain ⟨n, hn⟩ := Int.eq_ofNat_of_zero_le n0
      rw [hn, Int.toNat_natCast]
      exact ofVar n (by omega) W'
    · omega
    · obtain ⟨m, hm⟩ : ∃ m : Nat, ar (l.getD k (0, 0)).1 = m := ⟨(ar (l.getD k (0, 0)).1).toNat, by omega⟩
      rw [hm, Int.toNat_natCast] at hc
      rw [hm, Int.toNat_natCast]
      have hrt : ∀ i, i < m → (roots l m k).getD i 0 < l.length := fun i hi => by
        have := getD_lt (roots l m k) k i (roots_lt h m k (by omega) (by omega)) (by rw [roots_len]; exact hi)
        omega
      refine ofOp _ _ _ _ _ W' (fun W1 hb1 => ?_)
      have hbW := hb.trans (hb1.mono hb.size)
      have S : ∀ i, i < m → HasSum W1 (vs i) (ofF l f ((roots l m k).getD i 0)) := fun i hi => IH _ _ W1 (hrt i hi) ((hc i hi).2.keep hbW) (hT.keeps hbW)
      have cc : ∀ i, i < m → W1.cell? ⟨g, i, none⟩ = some (vs i) := fun i hi => (hbW.cell (p := ⟨g, i, none⟩) hg).trans (hc i hi).1
      have fm : ∀ i, i < m → ∃ t x, vs i = .iface t x := fun i hi => (hc i hi).2.form
      have hsh : (l.getD k (0, 0)).1 = 7 → vs 1 = .iface 108 (.agg #[.int .i64 (l.getD (k - 1) (0, 0)).2]) := fun h7 => by
        have hm2 : m = 2 := by rw [h7] at hm; have e0 : ar 7 = 2 := rfl; omega
        subst hm2
        have ht1 := (hc 1 (by omega)).2
        have er : (roots l 2 k).getD 1 0 = k - 1 := by
          show ((roots l 0 _ ++ [_]) ++ [k - 1]).getD 1 0 = k - 1
          rfl
        rw [er] at ht1
        have hn1 : (l.getD (k - 1) (0, 0)).1 = 1 := by rcases hro with h6 | h7'; omega; exact h7'.2
        cases f with
        | zero => exact ht1.elim
        | succ f =>
          rcases ht1 with ⟨_, e⟩ | ⟨z, _⟩ | ⟨z, _⟩ | ⟨z, _⟩
          · exact e
          · omega
          · omega
          · omega
      have e : ofF l (f + 1) k = match ofF l f ((roots l m k).getD 0 0) with
          | none => none
          | some p =>
            if (l.getD k (0, 0)).1 = 3 then okP (mulP p (numP (-1)))
            else if (l.getD k (0, 0)).1 = 7 then okP (mulP p (numP (shlN (l.getD (k - 1) (0, 0)).2)))
            else match ofF l f ((roots l m k).getD 1 0) with
              | none => none
              | some q => okP (twoP (l.getD k (0, 0)).1 p q) := by
        show (if _ then _ else _) = _
        rw [if_neg (by omega), if_neg (by omega), hm, Int.toNat_natCast]
        cases ofF l f ((roots l m k).getD 0 0) with
        | none => rfl
        | some p =>
          cases ofF l f ((roots l m k).getD 1 0) with
          | none => rfl
          | some q => rfl
      rw [e]
      generalize hop : (l.getD k (0, 0)).1 = op at *
      have hm1 : 1 ≤ m := by
        rcases hro with h6 | h7
        · have : op = 3 ∨ op = 4 ∨ op = 5 ∨ op = 6 := by omega
          rcases this with rfl | rfl | rfl | rfl
          · have e0 : ar 3 = 1 := rfl; omega
          · have e0 : ar 4 = 2 := rfl; omega
          · have e0 : ar 5 = 2 := rfl; omega
          · have e0 : ar 6 = 2 := rfl; omega
        · obtain ⟨rfl, _⟩ := h7
          have e0 : ar 7 = 2 := rfl
          omega
      obtain ⟨t0, x0, e0⟩ := fm 0 (by omega)
      have s0 := S 0 (by omega)
      have c0 := cc 0 (by omega)
      rw [e0] at s0 c0
      cases hq0 : ofF l f ((roots l m k).getD 0 0) with
      | none =>
        rw [hq0] at s0
        exact opNone op m g cap W1 t0 x0 hm1 c0 s0
      | some p =>
        rw [hq0] at s0
        have gp := good _ _ hq0
        simp only
        by_cases h3 : op = 3
        · rw [if_pos h3]
          subst h3
          obtain rfl : m = 1 := by have e0 : ar 3 = 1 := rfl; omega
          exact opNeg g cap W1 t0 x0 p c0 s0 gp
        · rw [if_neg h3]
          by_cases h7 : op = 7
          · rw [if_pos h7]
            have hs := hsh h7
            subst h7
            obtain rfl : m = 2 := by have e0 : ar 7 = 2 := rfl; omega
            have c1 := cc 1 (by omega)
            rw [hs] at c1
            exact opShl g cap W1 (hT.keeps hbW) t0 x0 _ p c0 c1 s0 gp
          · rw [if_neg h7]
            have hop4 : op = 4 ∨ op = 5 ∨ op = 6 := by omega
            obtain rfl : m = 2 := by
              rcases hop4 with rfl | rfl | rfl
              · have e0 : ar 4 = 2 := rfl; omega
              · have e0 : ar 5 = 2 := rfl; omega
              · have e0 : ar 6 = 2 := rfl; omega
            obtain ⟨t1, x1, e1⟩ := fm 1 (by omega)
            have s1 := S 1 (by omega)
            have c1 := cc 1 (by omega)
            rw [e1] at s1 c1
            cases hq1 : ofF l f ((roots l 2 k).getD 1 0) with
            | none =>
              rw [hq1] at s1
              exact opPairNone op hop4 g cap W1 t0 t1 x0 x1 p c0 c1 s0 s1
            | some q0 =>
              rw [hq1] at s1
              exact opPair op hop4 g cap W1 t0 t1 x0 x1 p q0 c0 c1 s0 s1 gp (good _ _ hq1)
end Go.Proofs.YtkadanagmahhgaaGreatDoor
namespace Go.Proofs.YtkadanagmahhgaaGreatDoor
open Go.ChangeShapes Go.WideShapes Go.ChangeAt Go.RowKit
set_option linter.unusedVariables false

theorem implPolyOf_any (a : Option Addr) (len cap : Nat) (l : List (Int × Int)) (w : World) (hT : Tab w) (h : NSl w a len l) (hm : len ≤ 9223372036854775807) (hI : ∀ k, InI (l.getD k (0, 0)).2) :
    Calls Tryz.prog 75 #[.slice a len cap] w fun r w' => IOf w (ofT l) r w' := by
  have HR := (show Hid _ from implIsRing_any a len cap l w hT h hm)
  have hll := h.1
  have HT : Hid (Tab w) := hT
  have HS : Hid (NSl w a len l) := h
  unfold ofT
  cases hg : isRingB l with
  | true =>
    have hgr : goodB l = true ∧ ringB l = true := by unfold isRingB at hg; rw [Bool.and_eq_true] at hg; exact hg
    obtain ⟨hp, g1, g2⟩ := good_pile hgr.1
    rw [hg, hgr.1] at HR
    rw [if_pos rfl]
    have HTr : Hid (∀ W, Tab W → NSl W a len l → Calls Tryz.prog 45 #[.slice a len cap] W fun e w' => ∃ v, e = .returned v ∧ IsTree w' (fun g => W.heap.size ≤ g) l len (len - 1) v ∧ Below W.heap.size W w') := fun W hT hS => treeOf_any hp a len cap W hT hS (by omega) (by omega)
    have HP : Hid (∀ W ok x, IsTree W ok l len (len - 1) x → Tab W → Calls Tryz.prog 113 #[x] W fun r w' => IOf W (ofF l l.length (l.length - 1)) r w') := fun W ok x ht hT => by
      rw [hll]
      exact polyTree_any hp hgr.2 hI ok len (len - 1) x W (by omega) ht hT W (Below.refl _ _)
    obtain ⟨O, hO⟩ : ∃ O, ofF l l.length (l.length - 1) = O := ⟨_, rfl⟩
    rw [hO] at HP ⊢
    clear h hT hp hg hgr hO hI
    go_enter Tryz.func75, Tryz.ntmps75
    go_wp2_with fail
    refine Calls.mono HR.out ?_
    rintro e w1 ⟨rfl, hb1⟩
    clear HR
    go_wp2_with fail
    refine Calls.mono (HTr.out _ (HT.out.keeps hb1) (HS.out.keep hb1)) ?_
    rintro e w2 ⟨x, rfl, htree, hb2⟩
    have hB2 := hb1.trans (hb2.mono hb1.size)
    have HX := (show Hid _ from htree)
    obtain ⟨tt, xx, rfl⟩ := htree.form
    clear htree
    go_wp2_with fail
    refine Calls.mono (HP.out _ _ _ HX.out (HT.out.keeps hB2)) ?_
    rintro e w3 h3
    obtain ⟨v3, rfl, o3, hb3⟩ := IOf.up hB2 h3
    go_wp2
    go_ret2
    exact ⟨_, rfl, o3, hb3⟩
  | false =>
    rw [hg] at HR
    rw [if_neg (by simp)]
    obtain ⟨G, hG⟩ : ∃ G, goodB l = G := ⟨_, rfl⟩
    rw [hG] at HR
    clear h hT hg hI hG
    go_enter Tryz.func75, Tryz.ntmps75
    go_wp2_with fail
    refine Calls.mono HR.out ?_
    rintro e w1 ⟨rfl, hb1⟩
    clear HR
    go_wp2
    go_ret2
    exact ⟨_, rfl, OwnV.nil _ _, hb1⟩
end Go.Proofs.YtkadanagmahhgaaGreatDoor
namespace Go.Proofs.YtkadanagmahhgaaGreatDoor
open Go.ChangeShapes Go.WideShapes Go.ChangeAt Go.RowKit
set_option linter.unusedVariables false

theorem ints_ext {l m : List Int} (h : l.length = m.length) (he : ∀ k, k < l.length → l.getD k 0 = m.getD k 0) : l = m := by
  refine List.ext_getElem h fun k h1 h2 => ?_
  have := he k h1
  simpa [List.getD_eq_getElem?_getD, List.getElem?_eq_getElem h1, List.getElem?_eq_getElem h2] using this
theorem mons_ext {l m : List Mon} (h : l.length = m.length) (he : ∀ k, k < l.length → l.getD k ([], 0) = m.getD k ([], 0)) : l = m := by
  refine List.ext_getElem h fun k h1 h2 => ?_
  have := he k h1
  simpa [List.getD_eq_getElem?_getD, List.getElem?_eq_getElem h1, List.getElem?_eq_getElem h2] using this

theorem l1Same_any (a b : Option Addr) (la ca lb cb : Nat) (l m : List Int) (w : World) (h : Sl w a la l) (h' : Sl w b lb m) (hn : la ≤ 1048576) (hn' : lb ≤ 1048576) :
    Calls Tryz.prog 65 #[.slice a la ca, .slice b lb cb] w fun e w' => e = .returned (.bool (decide (l = m))) ∧ Below w.heap.size w w' := by
  have hll := h.1
  have hlm := h'.1
  obtain ⟨B, hB⟩ : ∃ B, decide (l = m) = B := ⟨_, rfl⟩
  rw [hB]
  have HB := (show Hid _ from hB)
  have HS := (show Hid _ from h)
  have HS' := (show Hid _ from h')
  clear hB h h'
  by_cases hl : la = lb
  · subst hl
    have hne : ((la : Int) != la) = false := by simp
    go_enter Tryz.func65, Tryz.ntmps65
    go_wp2_with fail
    go_loopw [13] (fun i wr => ∃ (k : Nat), k ≤ la ∧ i = .int .i64 k ∧ Hid (∀ j, j < k → l.getD j 0 = m.getD j 0) ∧ Below w.heap.size w wr) (fun i _ => la - (intOf i).toNat)
    case atStart => exact ⟨0, Nat.zero_le _, rfl, fun j hj => absurd hj (Nat.not_lt_zero _), Below.refl _ _⟩
    case round =>
      obtain ⟨k, hk, rfl, hd, hbr⟩ := hrel
      by_cases hlt : k < la
      · obtain ⟨b1, o1, rfl, hc⟩ := cells_of (Sl.keep HS.out hbr) (by omega)
        obtain ⟨b2, o2, rfl, hc'⟩ := cells_of (Sl.keep HS'.out hbr) (by omega)
        have c1 := hc k hlt
        have c2 := hc' k hlt
        have hkl : (k : Int) < la := by omega
        by_cases e : l.getD k 0 = m.getD k 0
        · have HD : Hid (∀ j, j < k + 1 → l.getD j 0 = m.getD j 0) := fun j hj => by
            by_cases e2 : j = k
            · subst e2; exact e
            · exact hd.out j (by omega)
          rw [e] at c1
          have e' : (m.getD k 0 != m.getD k 0) = false := by simp
          clear hc hc' hd e
          generalize m.getD k 0 = z at c1 c2 e'
          go_wp2
          go_quiet (fail)
          go_wp2
          go_roundw
          case rel => exact ⟨k + 1, by omega, by go_num, HD, Go.below_drewN hbr _⟩
          case measure => simp [intOf]; omega
        · have eb : B = false := by
            rw [← HB.out]
            exact decide_eq_false fun hh => e (by rw [hh])
          subst eb
          have e' : (l.getD k 0 != m.getD k 0) = true := by simpa using e
          clear hc hc' hd e
          generalize m.getD k 0 = z at c2 e'
          generalize l.getD k 0 = y at c1 e'
          go_wp2
          go_quiet (fail)
          go_wp2
          go_ret
          exact ⟨rfl, Go.below_drewN hbr _⟩
      · obtain rfl : k = la := by omega
        have eb : B = true := by
          rw [← HB.out]
          exact decide_eq_true (ints_ext (by omega) fun j hj => hd.out j (by omega))
        subst eb
        clear hd HB
        go_wp2
        go_ret
        exact ⟨rfl, hbr⟩
  · have hne : ((la : Int) != lb) = true := by simp; omega
    have eb : B = false := by
      rw [← HB.out]
      exact decide_eq_false fun hh => hl (by rw [← hll, ← hlm, hh])
    subst eb
    go_enter Tryz.func65, Tryz.ntmps65
    go_wp2
    go_ret
    exact ⟨rfl, Below.refl _ _⟩

theorem equalI_any (a b : Option Addr) (la ca lb cb : Nat) (l m : List Int) (w : World) (h : Sl w a la l) (h' : Sl w b lb m) (hn : la ≤ 1048576) (hn' : lb ≤ 1048576) :
    Calls Tryz.prog 38 #[.slice a la ca, .slice b lb cb] w fun e w' => e = .returned (.bool (decide (l = m))) ∧ Below w.heap.size w w' := by
  have hll := h.1
  have hlm := h'.1
  obtain ⟨B, hB⟩ : ∃ B, decide (l = m) = B := ⟨_, rfl⟩
  rw [hB]
  have HB := (show Hid _ from hB)
  have HS := (show Hid _ from h)
  have HS' := (show Hid _ from h')
  clear hB h h'
  by_cases hl : la = lb
  · subst hl
    have hne : ((la : Int) != la) = false := by simp
    go_enter Tryz.func38, Tryz.ntmps38
    go_wp2_with fail
    go_loopw [13] (fun i wr => ∃ (k : Nat), k ≤ la ∧ i = .int .i64 k ∧ Hid (∀ j, j < k → l.getD j 0 = m.getD j 0) ∧ Below w.heap.size w wr) (fun i _ => la - (intOf i).toNat)
    case atStart => exact ⟨0, Nat.zero_le _, rfl, fun j hj => absurd hj (Nat.not_lt_zero _), Below.refl _ _⟩
    case round =>
      obtain ⟨k, hk, rfl, hd, hbr⟩ := hrel
      by_cases hlt : k < la
      · obtain ⟨b1, o1, rfl, hc⟩ := cells_of (Sl.keep HS.out hbr) (by omega)
        obtain ⟨b2, o2, rfl, hc'⟩ := cells_of (Sl.keep HS'.out hbr) (by omega)
        have c1 := hc k hlt
        have c2 := hc' k hlt
        have hkl : (k : Int) < la := by omega
        by_cases e : l.getD k 0 = m.getD k 0
        · have HD : Hid (∀ j, j < k + 1 → l.getD j 0 = m.getD j 0) := fun j hj => by
            by_cases e2 : j = k
            · subst e2; exact e
            · exact hd.out j (by omega)
          rw [e] at c1
          have e' : (m.getD k 0 != m.getD k 0) = false := by simp
          clear hc hc' hd e
          generalize m.getD k 0 = z at c1 c2 e'
          go_wp2
          go_quiet (fail)
          go_wp2
          go_roundw
          case rel => exact ⟨k + 1, by omega, by go_num, HD, Go.below_drewN hbr _⟩
          case measure => simp [intOf]; omega
        · have eb : B = false := by
            rw [← HB.out]
            exact decide_eq_false fun hh => e (by rw [hh])
          subst eb
          have e' : (l.getD k 0 != m.getD k 0) = true := by simpa using e
          clear hc hc' hd e
          generalize m.getD k 0 = z at c2 e'
          generalize l.getD k 0 = y at c1 e'
          go_wp2
          go_quiet (fail)
          go_wp2
          go_ret
          exact ⟨rfl, Go.below_drewN hbr _⟩
      · obtain rfl : k = la := by omega
        have eb : B = true := by
          rw [← HB.out]
          exact decide_eq_true (ints_ext (by omega) fun j hj => hd.out j (by omega))
        subst eb
        clear hd HB
        go_wp2
        go_ret
        exact ⟨rfl, hbr⟩
  · have hne : ((la : Int) != lb) = true := by simp; omega
    have eb : B = false := by
      rw [← HB.out]
      exact decide_eq_false fun hh => hl (by rw [← hll, ← hlm, hh])
    subst eb
    go_enter Tryz.func38, Tryz.ntmps38
    go_wp2
    go_ret
    exact ⟨rfl, Below.refl _ _⟩

theorem sameMono_any (a b : Option Addr) (la ca lb cb : Nat) (l m : List Int) (x y : Int) (w : World) (h : Sl w a la l) (h' : Sl w b lb m) (hn : la ≤ 1048576) (hn' : lb ≤ 1048576) :
    Calls Tryz.prog 77 #[.agg #[.slice a la ca, .int .i64 x], .agg #[.slice b lb cb, .int .i64 y]] w fun e w' => e = .returned (.bool (decide ((l, x) = (m, y)))) ∧ Below w.heap.size w w' := by
  obtain ⟨W1, hW1⟩ : ∃ W1, (w.alloc (.cells #[.slice a la ca, .int .i64 x] 100)).alloc (.cells #[.slice b lb cb, .int .i64 y] 100) = W1 := ⟨_, rfl⟩
  have hb1 : Below w.heap.size w W1 := by rw [← hW1]; exact ((Below.refl _ _).alloc (Nat.le_refl _) _).alloc (by simp) _
  have n0 : W1.cell? ⟨w.heap.size, 0, none⟩ = some (.slice a la ca) := by rw [← hW1]; simp [go_sem]
  have n1 : W1.cell? ⟨w.heap.size, 1, none⟩ = some (.int .i64 x) := by rw [← hW1]; simp [go_sem]
  have m0 : W1.cell? ⟨w.heap.size + 1, 0, none⟩ = some (.slice b lb cb) := by rw [← hW1]; simp [go_sem]
  have m1 : W1.cell? ⟨w.heap.size + 1, 1, none⟩ = some (.int .i64 y) := by rw [← hW1]; simp [go_sem]
  have HE := (show Hid _ from equalI_any a b la ca lb cb l m W1 (h.keep hb1) (h'.keep hb1) hn hn')
  obtain ⟨B, hB⟩ : ∃ B, decide ((l, x) = (m, y)) = B := ⟨_, rfl⟩
  rw [hB]
  clear h h'
  by_cases e : x = y
  · subst e
    have eb : decide (l = m) = B := by
      rw [← hB]
      exact decide_eq_decide.2 ⟨fun h => by rw [h], fun h => (Prod.mk.inj h).1⟩
    rw [eb] at HE
    have exx : (x == x) = true := by simp
    clear hB eb
    go_enter Tryz.func77, Tryz.ntmps77
    go_wp2_with fail
    (try rw [hW1])
    refine Calls.mono HE.out ?_
    rintro e w2 ⟨rfl, hb2⟩
    have HB : Hid (Below w.heap.size w w2) := hb1.trans (hb2.mono hb1.size)
    clear hb2 HE n0 n1 m0 m1 hW1 hb1
    go_wp2
    go_ret
    exact ⟨rfl, HB.out⟩
  · have eb : B = false := by
      rw [← hB]
      exact decide_eq_false fun h => e (Prod.mk.inj h).2
    subst eb
    have exy : (x == y) = false := by simpa using e
    have HB := (show Hid _ from hb1)
    have HW := (show Hid _ from hW1)
    clear hB HE n0 n1 m0 m1 hW1 hb1
    go_enter Tryz.func77, Tryz.ntmps77
    go_wp2
    go_ret
    exact ⟨rfl, by rw [HW.out]; exact HB.out⟩

set_option maxHeartbeats 3200000 in
set_option maxRecDepth 20000 in
theorem l4Same_any (a b : Option Addr) (la ca lb cb : Nat) (p q : List Mon) (w : World) (h : PSl w a la p) (h' : PSl w b lb q) (hn : la ≤ 1048576) (hn' : lb ≤ 1048576) (hp : ∀ m ∈ p, m.1.length = 4) (hq : ∀ m ∈ q, m.1.length = 4) :
    Calls Tryz.prog 106 #[.slice a la ca, .slice b lb cb] w fun e w' => e = .returned (.bool (decide (p = q))) ∧ Below w.heap.size w w' := by
  have hll := h.1
  have hlm := h'.1
  have H4 : Hid (∀ k, k < la → (p.getD k ([], 0)).1.length = 4) := fun k hk => hp _ (by rw [List.getD_eq_getElem?_getD, List.getElem?_eq_getElem (by omega)]; exact List.getElem_mem _)
  have H4' : Hid (∀ k, k < lb → (q.getD k ([], 0)).1.length = 4) := fun k hk => hq _ (by rw [List.getD_eq_getElem?_getD, List.getElem?_eq_getElem (by omega)]; exact List.getElem_mem _)
  obtain ⟨B, hB⟩ : ∃ B, decide (p = q) = B := ⟨_, rfl⟩
  rw [hB]
  have HB := (show Hid _ from hB)
  have HS := (show Hid _ from h)
  have HS' := (show Hid _ from h')
  clear hB h h' hp hq
  by_cases hl : la = lb
  · subst hl
    have hne : ((la : Int) != la) = false := by simp
    go_enter Tryz.func106, Tryz.ntmps106
    go_wp2_with fail
    go_loopw [13] (fun i wr => ∃ (k : Nat), k ≤ la ∧ i = .int .i64 k ∧ Hid (∀ j, j < k → p.getD j ([], 0) = q.getD j ([], 0)) ∧ Below w.heap.size w wr) (fun i _ => la - (intOf i).toNat)
    case atStart => exact ⟨0, Nat.zero_le _, rfl, fun j hj => absurd hj (Nat.not_lt_zero _), Below.refl _ _⟩
    case round =>
      obtain ⟨k, hk, rfl, hd, hbr⟩ := hrel
      by_cases hlt : k < la
      · obtain ⟨b1, o1, rfl, hbl, hc⟩ := (PSl.keep HS.out hbr).at (by omega)
        obtain ⟨b2, o2, rfl, hbl', hc'⟩ := (PSl.keep HS'.out hbr).at (by omega)
        obtain ⟨ai, li, ci, c1, hli, hci, hS, c2⟩ := hc k hlt
        obtain ⟨aj, lj, cj, d1, hlj, hcj, hS', d2⟩ := hc' k hlt
        have e4 := H4.out k hlt
        have e4' := H4'.out k hlt
        have hlt' : (k : Int) < la := by omega
        have HD : Hid (p.getD k ([], 0) = q.getD k ([], 0) → ∀ j, j < k + 1 → p.getD j ([], 0) = q.getD j ([], 0)) := fun e j hj => by
          by_cases e2 : j = k
          · subst e2; exact e
          · exact hd.out j (by omega)
        have HN : Hid (p.getD k ([], 0) ≠ q.getD k ([], 0) → B = false) := fun e => by
          rw [← HB.out]
          exact decide_eq_false fun hh => e (by rw [hh])
        have ep : p.getD k ([], 0) = ((p.getD k ([], 0)).1, (p.getD k ([], 0)).2) := rfl
        have eq : q.getD k ([], 0) = ((q.getD k ([], 0)).1, (q.getD k ([], 0)).2) := rfl
        rw [ep, eq] at HD HN
        clear hc hc' hd ep eq
        generalize (p.getD k ([], 0)).1 = l at hS HD HN e4
        generalize (q.getD k ([], 0)).1 = m at hS' HD HN e4'
        generalize (p.getD k ([], 0)).2 = x at c2 HD HN
        generalize (q.getD k ([], 0)).2 = y at d2 HD HN
        have HE : Hid (∀ z : Ahead wr, Calls Tryz.prog 65 #[.slice ai li ci, .slice aj lj cj] z.w fun e w' => e = .returned (.bool (decide (l = m))) ∧ Below z.w.heap.size z.w w') := fun z => l1Same_any ai aj li ci lj cj l m z.w (hS.keep z.h) (hS'.keep z.h) (by have := hS.1; omega) (by have := hS'.1; omega)
        have k1 : ∀ z : Ahead wr, z.w.cell? ⟨b1, o1 + k * 2, none⟩ = some (.slice ai li ci) := fun z => (z.h.cell (p := ⟨b1, o1 + k * 2, none⟩) hbl).trans c1
        have k2 : ∀ z : Ahead wr, z.w.cell? ⟨b1, o1 + k * 2 + 1, none⟩ = some (.int .i64 x) := fun z => (z.h.cell (p := ⟨b1, o1 + k * 2 + 1, none⟩) hbl).trans c2
        have k3 : ∀ z : Ahead wr, z.w.cell? ⟨b2, o2 + k * 2, none⟩ = some (.slice aj lj cj) := fun z => (z.h.cell (p := ⟨b2, o2 + k * 2, none⟩) hbl').trans d1
        have k4 : ∀ z : Ahead wr, z.w.cell? ⟨b2, o2 + k * 2 + 1, none⟩ = some (.int .i64 y) := fun z => (z.h.cell (p := ⟨b2, o2 + k * 2 + 1, none⟩) hbl').trans d2
        clear hS hS' c1 c2 d1 d2 e4 e4'
        by_cases ex : x = y
        · subst ex
          have exx : (x != x) = false := by simp
          by_cases el : l = m
          · have HD' := (show Hid _ from HD.out (by rw [el]))
            rw [decide_eq_true el] at HE
            clear HD HN el
            go_wp2_with fail
            have hne := ahead_some wr
            refine wp_region_ahead (by kernel_rfl) (by kernel_rfl) ?_
            repeat (first
              | go_big_quiet_skip
              | (go_big_quiet_want; go_big_quiet_op; first | go_big_quiet_on | (apply Exists.intro; refine ⟨fun x => ?_, ?_⟩; (focus (exact ahead_of (HE.out x))); go_big_quiet_on)))
            refine wpQuiet_nil ?_
            intro _ hw'
            obtain ⟨xq, rfl⟩ := hw'
            have hB := hbr.trans (xq.h.mono hbr.size)
            go_wp2
            go_roundw
            case rel => exact ⟨k + 1, by omega, by go_num, HD', hB⟩
            case measure => simp [intOf]; omega
          · have eb := HN.out (fun h => el (Prod.mk.inj h).1)
            subst eb
            rw [decide_eq_false el] at HE
            clear HD HN el
            go_wp2_with fail
            have hne := ahead_some wr
            refine wp_region_ahead (by kernel_rfl) (by kernel_rfl) ?_
            repeat (first
              | go_big_quiet_skip
              | (go_big_quiet_want; go_big_quiet_op; first | go_big_quiet_on | (apply Exists.intro; refine ⟨fun x => ?_, ?_⟩; (focus (exact ahead_of (HE.out x))); go_big_quiet_on)))
            refine wpQuiet_nil ?_
            intro _ hw'
            obtain ⟨xq, rfl⟩ := hw'
            have hB := hbr.trans (xq.h.mono hbr.size)
            go_wp2
            go_ret
            exact ⟨rfl, hB⟩
        · have eb := HN.out (fun h => ex (Prod.mk.inj h).2)
          subst eb
          have exy : (x != y) = true := by simpa using ex
          clear HD HN HE
          go_wp2_with fail
          have hne := ahead_some wr
          refine wp_region_ahead (by kernel_rfl) (by kernel_rfl) ?_
          repeat (first
            | go_big_quiet_skip
            | (go_big_quiet_want; go_big_quiet_op; go_big_quiet_on))
          refine wpQuiet_nil ?_
          intro _ hw'
          obtain ⟨xq, rfl⟩ := hw'
          have hB := hbr.trans (xq.h.mono hbr.size)
          go_wp2
          go_ret
          exact ⟨rfl, hB⟩
      · obtain rfl : k = la := by omega
        have eb : B = true := by
          rw [← HB.out]
          exact decide_eq_true (mons_ext (by omega) fun j hj => hd.out j (by omega))
        subst eb
        clear hd HB
        go_wp2
        go_ret
        exact ⟨rfl, hbr⟩
  · have hne : ((la : Int) != lb) = true := by simp; omega
    have eb : B = false := by
      rw [← HB.out]
      exact decide_eq_false fun hh => hl (by rw [← hll, ← hlm, hh])
    subst eb
    go_enter Tryz.func106, Tryz.ntmps106
    go_wp2
    go_ret
    exact ⟨rfl, Below.refl _ _⟩

set_option maxHeartbeats 3200000 in
set_option maxRecDepth 20000 in
theorem equalF_any (a b : Option Addr) (la ca lb cb : Nat) (p q : List Mon) (w : World) (h : PSl w a la p) (h' : PSl w b lb q) (hn : la ≤ 1048576) (hn' : lb ≤ 1048576) (hp : ∀ m ∈ p, m.1.length = 4) (hq : ∀ m ∈ q, m.1.length = 4) :
    Calls Tryz.prog 76 #[.slice a la ca, .slice b lb cb, .func (.func 77) #[] #[]] w fun e w' => e = .returned (.bool (decide (p = q))) ∧ Below w.heap.size w w' := by
  have hll := h.1
  have hlm := h'.1
  have H4 : Hid (∀ k, k < la → (p.getD k ([], 0)).1.length = 4) := fun k hk => hp _ (by rw [List.getD_eq_getElem?_getD, List.getElem?_eq_getElem (by omega)]; exact List.getElem_mem _)
  have H4' : Hid (∀ k, k < lb → (q.getD k ([], 0)).1.length = 4) := fun k hk => hq _ (by rw [List.getD_eq_getElem?_getD, List.getElem?_eq_getElem (by omega)]; exact List.getElem_mem _)
  obtain ⟨B, hB⟩ : ∃ B, decide (p = q) = B := ⟨_, rfl⟩
  rw [hB]
  have HB := (show Hid _ from hB)
  have HS := (show Hid _ from h)
  have HS' := (show Hid _ from h')
  clear hB h h' hp hq
  by_cases hl : la = lb
  · subst hl
    have hne : ((la : Int) != la) = false := by simp
    go_enter Tryz.func76, Tryz.ntmps76
    go_wp2_with fail
    go_loopw [17] (fun i wr => ∃ (k : Nat), k ≤ la ∧ i = .int .i64 k ∧ Hid (∀ j, j < k → p.getD j ([], 0) = q.getD j ([], 0)) ∧ Below w.heap.size w wr) (fun i _ => la - (intOf i).toNat)
    case atStart => exact ⟨0, Nat.zero_le _, rfl, fun j hj => absurd hj (Nat.not_lt_zero _), Below.refl _ _⟩
    case round =>
      obtain ⟨k, hk, rfl, hd, hbr⟩ := hrel
      by_cases hlt : k < la
      · obtain ⟨b1, o1, rfl, hbl, hc⟩ := (PSl.keep HS.out hbr).at (by omega)
        obtain ⟨b2, o2, rfl, hbl', hc'⟩ := (PSl.keep HS'.out hbr).at (by omega)
        obtain ⟨ai, li, ci, c1, hli, hci, hS, c2⟩ := hc k hlt
        obtain ⟨aj, lj, cj, d1, hlj, hcj, hS', d2⟩ := hc' k hlt
        have e4 := H4.out k hlt
        have e4' := H4'.out k hlt
        have hlt' : (k : Int) < la := by omega
        have HD : Hid (p.getD k ([], 0) = q.getD k ([], 0) → ∀ j, j < k + 1 → p.getD j ([], 0) = q.getD j ([], 0)) := fun e j hj => by
          by_cases e2 : j = k
          · subst e2; exact e
          · exact hd.out j (by omega)
        have HN : Hid (p.getD k ([], 0) ≠ q.getD k ([], 0) → B = false) := fun e => by
          rw [← HB.out]
          exact decide_eq_false fun hh => e (by rw [hh])
        have ep : p.getD k ([], 0) = ((p.getD k ([], 0)).1, (p.getD k ([], 0)).2) := rfl
        have eq : q.getD k ([], 0) = ((q.getD k ([], 0)).1, (q.getD k ([], 0)).2) := rfl
        rw [ep, eq] at HD HN
        clear hc hc' hd ep eq
        generalize (p.getD k ([], 0)).1 = l at hS HD HN e4
        generalize (q.getD k ([], 0)).1 = m at hS' HD HN e4'
        generalize (p.getD k ([], 0)).2 = x at c2 HD HN
        generalize (q.getD k ([], 0)).2 = y at d2 HD HN
        have hbne : ¬ b2 = wr.heap.size := by omega
        have HE : Hid (∀ W, Below wr.heap.size wr W → Calls Tryz.prog 77 #[.agg #[.slice ai li ci, .int .i64 x], .agg #[.slice aj lj cj, .int .i64 y]] W fun e w' => e = .returned (.bool (decide ((l, x) = (m, y)))) ∧ Below W.heap.size W w') := fun W hW => sameMono_any ai aj li ci lj cj l m x y W (hS.keep hW) (hS'.keep hW) (by have := hS.1; omega) (by have := hS'.1; omega)
        have HA : Hid (Below wr.heap.size wr ((wr.alloc (.cells #[.slice ai li ci, .int .i64 x] 100)).alloc (.cells #[.slice aj lj cj, .int .i64 y] 100))) := ((Below.refl _ _).alloc (Nat.le_refl _) _).alloc (by simp) _
        clear hS hS' e4 e4'
        by_cases el : (l, x) = (m, y)
        · have HD' := (show Hid _ from HD.out el)
          rw [decide_eq_true el] at HE
          clear HD HN el
          go_wp2_with fail
          refine Calls.mono (HE.out _ HA.out) ?_
          rintro e w2 ⟨rfl, hb2⟩
          have hB := hbr.trans ((HA.out.trans (hb2.mono HA.out.size)).mono hbr.size)
          clear hb2 HE HA c1 c2 d1 d2 hbr
          go_wp2
          go_roundw
          case rel => exact ⟨k + 1, by omega, by go_num, HD', hB⟩
          case measure => simp [intOf]; omega
        · have eb := HN.out el
          subst eb
          rw [decide_eq_false el] at HE
          clear HD HN el
          go_wp2_with fail
          refine Calls.mono (HE.out _ HA.out) ?_
          rintro e w2 ⟨rfl, hb2⟩
          have hB := hbr.trans ((HA.out.trans (hb2.mono HA.out.size)).mono hbr.size)
          clear hb2 HE HA c1 c2 d1 d2 hbr
          go_wp2
          go_ret
          exact ⟨rfl, hB⟩
      · obtain rfl : k = la := by omega
        have eb : B = true := by
          rw [← HB.out]
          exact decide_eq_true (mons_ext (by omega) fun j hj => hd.out j (by omega))
        subst eb
        clear hd HB
        go_wp2
        go_ret
        exact ⟨rfl, hbr⟩
  · have hne : ((la : Int) != lb) = true := by simp; omega
    have eb : B = false := by
      rw [← HB.out]
      exact decide_eq_false fun hh => hl (by rw [← hll, ← hlm, hh])
    subst eb
    go_enter Tryz.func76, Tryz.ntmps76
    go_wp2
    go_ret
    exact ⟨rfl, Below.refl _ _⟩
end Go.Proofs.YtkadanagmahhgaaGreatDoor
