/-
  PROVED HERE: what IsRing answers, the program's, and the model's own look at nodes, at every list of nodes, in a world whose table of arities is laid. No other condition. which sum of products the program makes of the tree of a ring term, in a world whose table of arities is laid. No other condition. what the program's PolyOf answers, at every list of nodes, in a world whose table of arities is laid. No other condition.
-/
import Derived.Test.YtpjgjpjfchfmlaaGreatDoorIGoods
import Derived.Test.YtpjgjpjfchfmlaaGreatDoorInFirst
import Derived.Test.YtpjgjpjfchfmlaaGreatDoorRingMs
import Derived.Test.YtpjgjpjfchfmlaaGreatDoorIPolyOfs
namespace Go.Proofs.YtpjgjpjfchfmlaaGreatDoor
open Go.ChangeShapes Go.WideShapes Go.ChangeAt Go.RowKit
set_option linter.unusedVariables false

theorem ringAt_any {l : List (Int × Int)} (a : Option Addr) (len cap k : Nat) (w : World) (h : NSl w a len l) (hm : len ≤ 1048576) (hk : k < len) (hops : 1 ≤ (l.getD k (0, 0)).1 ∧ (l.getD k (0, 0)).1 ≤ 11 ∧ ((l.getD k (0, 0)).1 = 7 → 1 ≤ k)) :
    Calls Tryz.prog 32 #[.slice a len cap, .int .i64 k] w fun e w' => e = .returned (.bool (ringAt l k)) ∧ w' = w := by
  obtain ⟨b, off, rfl, hbl, hc⟩ := h.at (by omega)
  obtain ⟨c1, c2⟩ := hc k hk
  obtain ⟨o1, o2, o3⟩ := hops
  have hR : ringAt l k = if (l.getD k (0, 0)).1 = 7 then decide ((l.getD (k - 1) (0, 0)).1 = 1) else decide ((l.getD k (0, 0)).1 ≤ 6) := rfl
  have i1 : (k : Int) < len := by omega
  by_cases h7 : (l.getD k (0, 0)).1 = 7
  · have hk1 := o3 h7
    obtain ⟨d1, d2⟩ := hc (k - 1) (by omega)
    obtain ⟨j, rfl⟩ : ∃ j, k = j + 1 := ⟨k - 1, by omega⟩
    rw [show j + 1 - 1 = j from by omega] at d1 d2 hR
    rw [if_pos h7] at hR
    rw [hR]
    rw [h7] at c1
    have jj : (j : Int) < len := by omega
    generalize (l.getD j (0, 0)).1 = x at d1
    clear hc o1 o2 o3 h7 d2 hR h
    by_cases hx : x = 1
    · rw [decide_eq_true hx]
      subst hx
      go_enter Tryz.func32, Tryz.ntmps32
      go_wp2
      go_ret
      exact ⟨rfl, rfl⟩
    · rw [decide_eq_false hx]
      have hz : (x == 1) = false := by simpa using hx
      go_enter Tryz.func32, Tryz.ntmps32
      go_wp2
      go_ret
      exact ⟨rfl, rfl⟩
  · rw [if_neg h7] at hR
    rw [hR]
    generalize (l.getD k (0, 0)).1 = x at c1 o1 o2 h7
    clear hc o3 hR h
    have hx' : x = 1 ∨ x = 2 ∨ x = 3 ∨ x = 4 ∨ x = 5 ∨ x = 6 ∨ x = 8 ∨ x = 9 ∨ x = 10 ∨ x = 11 := by omega
    clear o1 o2 h7
    rcases hx' with rfl | rfl | rfl | rfl | rfl | rfl | rfl | rfl | rfl | rfl
    all_goals
      go_enter Tryz.func32, Tryz.ntmps32
      go_wp2
      go_ret
      exact ⟨rfl, rfl⟩
set_option maxHeartbeats 1600000 in
theorem implIsRing_any (a : Option Addr) (len cap : Nat) (l : List (Int × Int)) (w : World) (ht : Tab w) (h : NSl w a len l) (hm : len ≤ 9223372036854775807) :
    Calls Tryz.prog 9 #[.slice a len cap] w fun e w' => e = .returned (.tuple #[.bool (isRingB l), .bool (goodB l)]) ∧ Below w.heap.size w w' := by
  have hll := h.1
  have HG := (show Hid _ from implGood_any a len cap l w ht h hm)
  unfold isRingB
  cases hg : goodB l with
  | false =>
    rw [hg] at HG
    go_enter Tryz.func9, Tryz.ntmps9
    go_wp2_with fail
    refine Calls.mono HG.out ?_
    rintro e w1 ⟨rfl, hb1⟩
    clear HG
    go_wp2
    go_ret2
    exact ⟨rfl, hb1⟩
  | true =>
    rw [hg] at HG
    obtain ⟨hp, h1, h40⟩ := good_pile hg
    have HR : Hid (∀ W k, Below w.heap.size w W → k < len → Calls Tryz.prog 32 #[.slice a len cap, .int .i64 (k : Nat)] W fun e w' => e = .returned (.bool (ringAt l k)) ∧ w' = W) := fun W k hW hk => ringAt_any a len cap k W (h.keep hW) (by omega) hk (good_ops hp k (by omega))
    clear hp ht h
    rw [Bool.true_and]
    go_enter Tryz.func9, Tryz.ntmps9
    go_wp2_with fail
    refine Calls.mono HG.out ?_
    rintro e w1 ⟨rfl, hb1⟩
    clear HG
    go_wp2_with fail
    go_loopw [10] (fun i wr => ∃ k : Nat, k ≤ len ∧ i = .int .i64 (k : Int) ∧ wr = w1 ∧ Hid (∀ j, j < k → ringAt l j = true)) (fun i _ => len - (intOf i).toNat)
    case atStart => exact ⟨0, Nat.zero_le _, rfl, rfl, fun j hj => absurd hj (by omega)⟩
    case round =>
      obtain ⟨k, hk, rfl, rfl, HT⟩ := hrel
      by_cases hlt : k < len
      · have HC := (show Hid _ from HR.out _ k hb1 hlt)
        have i1 : (k : Int) < len := by omega
        cases hr : ringAt l k with
        | false =>
          rw [hr] at HC
          have HN : Hid (ringB l = false) := ring_no (k := k) (by omega) hr
          clear hr HT
          go_wp2_with fail
          refine Calls.mono HC.out ?_
          rintro e w2 ⟨rfl, rfl⟩
          clear HC
          go_wp2
          go_ret2
          exact ⟨by rw [HN.out]; rfl, hb1⟩
        | true =>
          rw [hr] at HC
          have HN : Hid (∀ i, i < k + 1 → ringAt l i = true) := fun i hi => by
            by_cases e : i = k
            · rw [e, hr]
            · exact HT.out i (by omega)
          clear hr HT
          go_wp2_with fail
          refine Calls.mono HC.out ?_
          rintro e w2 ⟨rfl, rfl⟩
          clear HC
          go_wp2
          go_roundw
          case rel => exact ⟨k + 1, by omega, by go_num, by first | trivial | rfl, HN⟩
          case measure => simp [intOf]; omega
      · obtain rfl : k = len := by omega
        have HN : Hid (ringB l = true) := ring_yes (fun i hi => HT.out i (by omega))
        clear HT
        go_wp2
        go_ret2
        exact ⟨by rw [HN.out]; rfl, hb1⟩
end Go.Proofs.YtpjgjpjfchfmlaaGreatDoor
namespace Go.Proofs.YtpjgjpjfchfmlaaGreatDoor
open Go.ChangeShapes Go.WideShapes Go.ChangeAt Go.RowKit
set_option linter.unusedVariables false

theorem polyTree_any {l : List (Int × Int)} {q : Int} (h : pile l 0 = some q) (hr : ringB l = true) (hI : ∀ k, InI (l.getD k (0, 0)).2) (ok : Nat → Prop) : ∀ (f k : Nat) (v : Value) (W : World), k < l.length → IsTree W ok l f k v → Tab W → HasSum W v (ofF l f k)
  | 0, _, _, _, _, ht, _ => ht.elim
  | f + 1, k, v, W, hk, ht, hT => by
    intro W' hb
    have good := fun k p => ofF_good (fun k _ => hI k) (vars4 h) f k p
    have hro := ring_ops hr hk
    obtain ⟨h1, h2⟩ := cnt_step h k hk
    obtain ⟨a1, a2, a3, _⟩ := fits_iff _ _ _ _ h1
    have IH := fun k v W hk ht hT => polyTree_any h hr hI ok f k v W hk ht hT
    rcases ht with ⟨h0, rfl⟩ | ⟨h0, rfl⟩ | ⟨h0, v0, v1, v2, rfl, t0, t1, t2⟩ | ⟨h0, h0', g, cap, vs, rfl, hok, hg, hc⟩
    · have e : ofF l (f + 1) k = some (numP (l.getD k (0, 0)).2) := by unfold ofF; rw [if_pos h0]
      rw [e]
      exact ofNum _ (hI k) W'
    · obtain ⟨n0, n4⟩ := a3 h0
      have e : ofF l (f + 1) k = some (varP (l.getD k (0, 0)).2.toNat) := by unfold ofF; rw [if_neg (by omega), if_pos h0]
      rw [e]
      obtain ⟨n, hn⟩ := Int.eq_ofNat_of_zero_le n0
      rw [hn, Int.toNat_natCast]
      exact ofVar n (by omega) W'
    · omega
    · obtain ⟨m, hm⟩ : ∃ m : Nat, ar (l.getD k (0, 0)).1 = m := ⟨(ar (l.getD k (0, 0)).1).toNat, by omega⟩
      rw [hm, Int.toNat_natCast] at hc
      rw [hm, Int.toNat_natCast]
      have hrt : ∀ i, i < m → (roots l m k).getD i 0 < l.length := fun i hi => by
        have := getD_lt (roots l m k) k i (roots_lt h m k (by omega) (by omega)) (by rw [roots_len]; exact hi)
        omega
      refine ofOp _ _ _ _ _ W' (fun W1 hb1 => ?_)
      have hbW := hb.trans (hb1.mono hb.size)
      have S : ∀ i, i < m → HasSum W1 (vs i) (ofF l f ((roots l m k).getD i 0)) := fun i hi => IH _ _ W1 (hrt i hi) ((hc i hi).2.keep hbW) (hT.keeps hbW)
      have cc : ∀ i, i < m → W1.cell? ⟨g, i, none⟩ = some (vs i) := fun i hi => (hbW.cell (p := ⟨g, i, none⟩) hg).trans (hc i hi).1
      have fm : ∀ i, i < m → ∃ t x, vs i = .iface t x := fun i hi => (hc i hi).2.form
      have hsh : (l.getD k (0, 0)).1 = 7 → vs 1 = .iface 83 (.agg #[.int .i64 (l.getD (k - 1) (0, 0)).2]) := fun h7 => by
        have hm2 : m = 2 := by rw [h7] at hm; have e0 : ar 7 = 2 := rfl; omega
        subst hm2
        have ht1 := (hc 1 (by omega)).2
        have er : (roots l 2 k).getD 1 0 = k - 1 := by
          show ((roots l 0 _ ++ [_]) ++ [k - 1]).getD 1 0 = k - 1
          rfl
        rw [er] at ht1
        have hn1 : (l.getD (k - 1) (0, 0)).1 = 1 := by rcases hro with h6 | h7'; omega; exact h7'.2
        cases f with
        | zero => exact ht1.elim
        | succ f =>
          rcases ht1 with ⟨_, e⟩ | ⟨z, _⟩ | ⟨z, _⟩ | ⟨z, _⟩
          · exact e
          · omega
          · omega
          · omega
      have e : ofF l (f + 1) k = match ofF l f ((roots l m k).getD 0 0) with
          | none => none
          | some p =>
            if (l.getD k (0, 0)).1 = 3 then okP (mulP p (numP (-1)))
            else if (l.getD k (0, 0)).1 = 7 then okP (mulP p (numP (shlN (l.getD (k - 1) (0, 0)).2)))
            else match ofF l f ((roots l m k).getD 1 0) with
              | none => none
              | some q => okP (twoP (l.getD k (0, 0)).1 p q) := by
        show (if _ then _ else _) = _
        rw [if_neg (by omega), if_neg (by omega), hm, Int.toNat_natCast]
        cases ofF l f ((roots l m k).getD 0 0) with
        | none => rfl
        | some p =>
          cases ofF l f ((roots l m k).getD 1 0) with
          | none => rfl
          | some q => rfl
      rw [e]
      generalize hop : (l.getD k (0, 0)).1 = op at *
      have hm1 : 1 ≤ m := by
        rcases hro with h6 | h7
        · have : op = 3 ∨ op = 4 ∨ op = 5 ∨ op = 6 := by omega
          rcases this with rfl | rfl | rfl | rfl
          · have e0 : ar 3 = 1 := rfl; omega
          · have e0 : ar 4 = 2 := rfl; omega
          · have e0 : ar 5 = 2 := rfl; omega
          · have e0 : ar 6 = 2 := rfl; omega
        · obtain ⟨rfl, _⟩ := h7
          have e0 : ar 7 = 2 := rfl
          omega
      obtain ⟨t0, x0, e0⟩ := fm 0 (by omega)
      have s0 := S 0 (by omega)
      have c0 := cc 0 (by omega)
      rw [e0] at s0 c0
      cases hq0 : ofF l f ((roots l m k).getD 0 0) with
      | none =>
        rw [hq0] at s0
        exact opNone op m g cap W1 t0 x0 hm1 c0 s0
      | some p =>
        rw [hq0] at s0
        have gp := good _ _ hq0
        simp only
        by_cases h3 : op = 3
        · rw [if_pos h3]
          subst h3
          obtain rfl : m = 1 := by have e0 : ar 3 = 1 := rfl; omega
          exact opNeg g cap W1 t0 x0 p c0 s0 gp
        · rw [if_neg h3]
          by_cases h7 : op = 7
          · rw [if_pos h7]
            have hs := hsh h7
            subst h7
            obtain rfl : m = 2 := by have e0 : ar 7 = 2 := rfl; omega
            have c1 := cc 1 (by omega)
            rw [hs] at c1
            exact opShl g cap W1 (hT.keeps hbW) t0 x0 _ p c0 c1 s0 gp
          · rw [if_neg h7]
            have hop4 : op = 4 ∨ op = 5 ∨ op = 6 := by omega
            obtain rfl : m = 2 := by
              rcases hop4 with rfl | rfl | rfl
              · have e0 : ar 4 = 2 := rfl; omega
              · have e0 : ar 5 = 2 := rfl; omega
              · have e0 : ar 6 = 2 := rfl; omega
            obtain ⟨t1, x1, e1⟩ := fm 1 (by omega)
            have s1 := S 1 (by omega)
            have c1 := cc 1 (by omega)
            rw [e1] at s1 c1
            cases hq1 : ofF l f ((roots l 2 k).getD 1 0) with
            | none =>
              rw [hq1] at s1
              exact opPairNone op hop4 g cap W1 t0 t1 x0 x1 p c0 c1 s0 s1
            | some q0 =>
              rw [hq1] at s1
              exact opPair op hop4 g cap W1 t0 t1 x0 x1 p q0 c0 c1 s0 s1 gp (good _ _ hq1)
end Go.Proofs.YtpjgjpjfchfmlaaGreatDoor
namespace Go.Proofs.YtpjgjpjfchfmlaaGreatDoor
open Go.ChangeShapes Go.WideShapes Go.ChangeAt Go.RowKit
set_option linter.unusedVariables false

theorem implPolyOf_any (a : Option Addr) (len cap : Nat) (l : List (Int × Int)) (w : World) (hT : Tab w) (h : NSl w a len l) (hm : len ≤ 9223372036854775807) (hI : ∀ k, InI (l.getD k (0, 0)).2) :
    Calls Tryz.prog 7 #[.slice a len cap] w fun r w' => IOf w (ofT l) r w' := by
  have HR := (show Hid _ from implIsRing_any a len cap l w hT h hm)
  have hll := h.1
  have HT : Hid (Tab w) := hT
  have HS : Hid (NSl w a len l) := h
  unfold ofT
  cases hg : isRingB l with
  | true =>
    have hgr : goodB l = true ∧ ringB l = true := by unfold isRingB at hg; rw [Bool.and_eq_true] at hg; exact hg
    obtain ⟨hp, g1, g2⟩ := good_pile hgr.1
    rw [hg, hgr.1] at HR
    rw [if_pos rfl]
    have HTr : Hid (∀ W, Tab W → NSl W a len l → Calls Tryz.prog 27 #[.slice a len cap] W fun e w' => ∃ v, e = .returned v ∧ IsTree w' (fun g => W.heap.size ≤ g) l len (len - 1) v ∧ Below W.heap.size W w') := fun W hT hS => treeOf_any hp a len cap W hT hS (by omega) (by omega)
    have HP : Hid (∀ W ok x, IsTree W ok l len (len - 1) x → Tab W → Calls Tryz.prog 26 #[x] W fun r w' => IOf W (ofF l l.length (l.length - 1)) r w') := fun W ok x ht hT => by
      rw [hll]
      exact polyTree_any hp hgr.2 hI ok len (len - 1) x W (by omega) ht hT W (Below.refl _ _)
    obtain ⟨O, hO⟩ : ∃ O, ofF l l.length (l.length - 1) = O := ⟨_, rfl⟩
    rw [hO] at HP ⊢
    clear h hT hp hg hgr hO hI
    go_enter Tryz.func7, Tryz.ntmps7
    go_wp2_with fail
    refine Calls.mono HR.out ?_
    rintro e w1 ⟨rfl, hb1⟩
    clear HR
    go_wp2_with fail
    refine Calls.mono (HTr.out _ (HT.out.keeps hb1) (HS.out.keep hb1)) ?_
    rintro e w2 ⟨x, rfl, htree, hb2⟩
    have hB2 := hb1.trans (hb2.mono hb1.size)
    have HX := (show Hid _ from htree)
    obtain ⟨tt, xx, rfl⟩ := htree.form
    clear htree
    go_wp2_with fail
    refine Calls.mono (HP.out _ _ _ HX.out (HT.out.keeps hB2)) ?_
    rintro e w3 h3
    obtain ⟨v3, rfl, o3, hb3⟩ := IOf.up hB2 h3
    go_wp2
    go_ret2
    exact ⟨_, rfl, o3, hb3⟩
  | false =>
    rw [hg] at HR
    rw [if_neg (by simp)]
    obtain ⟨G, hG⟩ : ∃ G, goodB l = G := ⟨_, rfl⟩
    rw [hG] at HR
    clear h hT hg hI hG
    go_enter Tryz.func7, Tryz.ntmps7
    go_wp2_with fail
    refine Calls.mono HR.out ?_
    rintro e w1 ⟨rfl, hb1⟩
    clear HR
    go_wp2
    go_ret2
    exact ⟨_, rfl, OwnV.nil _ _, hb1⟩
end Go.Proofs.YtpjgjpjfchfmlaaGreatDoor
