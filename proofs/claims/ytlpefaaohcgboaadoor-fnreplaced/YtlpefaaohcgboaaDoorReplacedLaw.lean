/-
  PROVED HERE: the law FnReplaced's own run, at every two lists of bytes, in a world whose table of arities is laid. No other condition.
-/
import Derived.Test.YtlpefaaohcgboaaDoorDrawn
import Derived.Test.YtlpefaaohcgboaaDoorSames
import Derived.Test.YtlpefaaohcgboaaDoorReplacedPlain
import Derived.Test.YtlpefaaohcgboaaDoorReplaceLaw
import Derived.Test.YtlpefaaohcgboaaDoorLongs
import Derived.Test.YtlpefaaohcgboaaDoorIReplace
import Derived.Test.YtlpefaaohcgboaaDoorIPart
import Derived.Test.YtlpefaaohcgboaaDoorIEval
import Derived.Test.YtlpefaaohcgboaaDoorIJoin
namespace Go.Proofs.YtlpefaaohcgboaaDoor
open Go.ChangeShapes Go.WideShapes Go.ChangeAt Go.RowKit
set_option linter.unusedVariables false

theorem partL_short (l : List (Int × Int)) (kk : Int) : (partL l kk).length ≤ 40 := by
  unfold partL
  split
  · next h =>
    unfold partOk at h
    simp only [Bool.and_eq_true] at h
    have := (good_pile h.1).2.2
    rw [List.length_take, List.length_drop]; omega
  · simp
theorem joinL_short (op : Int) (ls : List (List (Int × Int))) : (joinL op ls).length ≤ 40 := by
  unfold joinL
  split
  · exact madeL_len _
  · simp
/-- What a good term comes to, once more. -/
theorem implEval_good (L : List (Int × Int)) (a : Option Addr) (len c : Nat) (ys : List Int) (va : Option Addr) (vc : Nat) (W : World) (hg : goodB L = true) (hT : Tab W) (hs : NSl W a len L) (he : Sl W va 4 ys) :
    Calls Tryd.prog 18 #[.slice a len c, .slice va 4 vc] W fun e w' => e = .returned (.tuple #[.int .i64 (valO (evalT L ys)), .bool (trapO (evalT L ys)), .bool true]) ∧ Below W.heap.size W w' := by
  have hk : evalOk L ys = true := by unfold evalOk; rw [hg, he.1]; rfl
  have hl := (good_pile hg).2.2
  have h := implEval_any a len c L va 4 vc ys W hT hs he (by have := hs.1; omega) (by omega)
  rw [hk] at h
  unfold evalV evalTr at h
  rw [if_pos hk, if_pos hk] at h
  exact h

set_option maxHeartbeats 3200000 in
set_option maxRecDepth 20000 in
theorem lawReplaced (a0 a1 : Option Addr) (len0 cap0 len1 cap1 : Nat) (w : World) (hT : Tab w) (hb0 : Bytes w w.heap.size a0 len0) (hb1 : Bytes w w.heap.size a1 len1) (hm0 : len0 ≤ 9223372036854775807) (hm1 : len1 ≤ 9223372036854775807) :
    Calls Tryd.prog 4 #[.slice a0 len0 cap0, .slice a1 len1 cap1] w fun e w' => e = .returned (.bool true) ∧ Below w.heap.size w w' := by
  by_cases hbig : len0 ≤ 1048576 ∧ len1 ≤ 1048576 - len0
  · obtain ⟨hl0, hl1⟩ := hbig
    have CB := (show Hid _ from big_no a0 a1 len0 cap0 len1 cap1 w hl0 hl1)
    have CD := (show Hid _ from drawReplace w a0 len0 cap0 hb0 hl0)
    have HT : Hid (Tab w) := hT
    have HMo : Hid (∀ W, Below w.heap.size w W → Bytes W W.heap.size a1 len1) := fun W hW => hb1.keep hW
    have hl1' : len1 ≤ 1048576 := by omega
    clear hT hb0 hb1
    go_enter Tryd.func4, Tryd.ntmps4
    go_wp2_with fail
    refine Calls.mono CB.out ?_
    rintro e w0 ⟨rfl, rfl⟩
    clear CB
    go_wp2_with fail
    refine Calls.mono CD.out ?_
    rintro e w1 ⟨vt, l, k, vu, u, rfl, hNt, hNu, hB⟩
    clear CD
    obtain ⟨ta, tl, tc, rfl, St, htc, ht40, _⟩ := hNt
    obtain ⟨ua, ul, uc, rfl, Su, huc, hu40, _⟩ := hNu
    have HR : Hid (∀ W, Tab W → NSl W ta tl l → NSl W ua ul u → Calls Tryd.prog 21 #[.slice ta tl tc, .int .i64 k, .slice ua ul uc] W fun e w' => ∃ v : Value, e = .returned (.tuple #[v, .bool (replOk l k u)]) ∧ w'.ownsRow W.heap.size 69 2 v (replL l k u).length (flat (replL l k u)) ∧ Below W.heap.size W w') := fun W hT h1 h2 => implReplace_any ta tl tc l k ua ul uc u W hT h1 (by omega) htc h2 (by omega)
    have HRs : Hid (∀ W, NSl W ta tl l → NSl W ua ul u → Calls Tryd.prog 22 #[.slice ta tl tc, .int .i64 k, .slice ua ul uc] W fun e w' => ∃ v : Value, e = .returned (.tuple #[v, .bool (replOk l k u)]) ∧ w'.ownsRow W.heap.size 69 2 v (replL l k u).length (flat (replL l k u)) ∧ Below W.heap.size W w') := fun W h1 h2 => specReplace_any ta tl tc l k ua ul uc u W h1 h2 (by omega) (by omega) htc
    have HP : Hid (∀ W, Tab W → NSl W ta tl l → Calls Tryd.prog 23 #[.slice ta tl tc, .int .i64 k] W fun e w' => ∃ v : Value, e = .returned (.tuple #[v, .bool (partOk l k)]) ∧ w'.ownsRow W.heap.size 69 2 v (partL l k).length (flat (partL l k)) ∧ Below W.heap.size W w') := fun W hT h1 => implPart_any ta tl tc l k W hT h1 (by omega) htc
    have HPs : Hid (∀ W, NSl W ta tl l → Calls Tryd.prog 24 #[.slice ta tl tc, .int .i64 k] W fun e w' => ∃ v : Value, e = .returned (.tuple #[v, .bool (partOk l k)]) ∧ w'.ownsRow W.heap.size 69 2 v (partL l k).length (flat (partL l k)) ∧ Below W.heap.size W w') := fun W h1 => specPart_any ta tl tc l k W h1 (by omega) htc
    have HAg : Hid (partOk l k = true → ∀ W pa pc, Tab W → NSl W ta tl l → NSl W pa (partL l k).length (partL l k) → Calls Tryd.prog 21 #[.slice ta tl tc, .int .i64 k, .slice pa (partL l k).length pc] W fun e w' => ∃ v : Value, e = .returned (.tuple #[v, .bool true]) ∧ w'.ownsRow W.heap.size 69 2 v l.length (flat l) ∧ Below W.heap.size W w') := fun hp W pa pc hT h1 h2 => by
      have := implReplace_any ta tl tc l k pa (partL l k).length pc (partL l k) W hT h1 (by omega) htc h2 (by have := partL_short l k; omega)
      rw [(again_same hp).1, (again_same hp).2] at this
      exact this
    have HIn : Hid (partOk l k = true → replOk l k u = true → ∀ env, goodB (partL l k) = true ∧ goodB u = true ∧ goodB l = true ∧ goodB (replL l k u) = true ∧ (evalT (partL l k) env = evalT u env → evalT (replL l k u) env = evalT l env)) := fun h1 h2 env => instead_same h1 h2 env
    have hRl := replL_len l k u
    have hPl := partL_short l k
    generalize replOk l k u = G at HR HRs HIn
    generalize replL l k u = R at HR HRs HIn hRl
    generalize partOk l k = O at HP HPs HAg HIn
    generalize partL l k = P at HP HPs HAg HIn hPl
    have hGG : (G != G) = false := by simp
    have hOO : (O != O) = false := by simp
    have hll : l.length = tl := St.1
    go_wp2_with fail
    refine Calls.mono (HR.out _ (HT.out.keeps hB) St Su) ?_
    rintro e wn ⟨vr, rfl, rr, hb⟩
    replace St := St.keep hb
    replace Su := Su.keep hb
    replace hB := hB.trans (hb.mono hB.size)
    obtain ⟨ra, rc, rfl, Sr⟩ := NSl.row rr
    clear rr
    clear hb
    go_wp2_with fail
    refine Calls.mono (HRs.out _ St Su) ?_
    rintro e wn ⟨vr, rfl, rr, hb⟩
    replace St := St.keep hb
    replace Su := Su.keep hb
    replace Sr := Sr.keep hb
    replace hB := hB.trans (hb.mono hB.size)
    obtain ⟨wa, wc, rfl, Sw⟩ := NSl.row rr
    clear rr HR HRs
    clear hb
    go_wp2_with fail
    refine Calls.mono (HP.out _ (HT.out.keeps hB) St) ?_
    rintro e wn ⟨vr, rfl, rr, hb⟩
    replace St := St.keep hb
    replace Su := Su.keep hb
    replace Sr := Sr.keep hb
    replace Sw := Sw.keep hb
    replace hB := hB.trans (hb.mono hB.size)
    obtain ⟨pa, pc, rfl, Sp⟩ := NSl.row rr
    clear rr HP
    clear hb
    go_wp2_with fail
    refine Calls.mono (HPs.out _ St) ?_
    rintro e wn ⟨vr, rfl, rr, hb⟩
    replace St := St.keep hb
    replace Su := Su.keep hb
    replace Sr := Sr.keep hb
    replace Sw := Sw.keep hb
    replace Sp := Sp.keep hb
    replace hB := hB.trans (hb.mono hB.size)
    obtain ⟨qa, qc, rfl, Sq⟩ := NSl.row rr
    clear rr HPs
    clear hb
    go_wp2_with fail
    refine Calls.mono (sameN_same ra wa _ rc wc R _ Sr Sw (by omega)) ?_
    rintro e wn ⟨rfl, hb⟩
    replace St := St.keep hb
    replace Su := Su.keep hb
    replace Sr := Sr.keep hb
    replace Sw := Sw.keep hb
    replace Sp := Sp.keep hb
    replace Sq := Sq.keep hb
    replace hB := hB.trans (hb.mono hB.size)
    clear hb
    go_wp2_with fail
    refine Calls.mono (sameN_same pa qa _ pc qc P _ Sp Sq (by omega)) ?_
    rintro e wn ⟨rfl, hb⟩
    replace St := St.keep hb
    replace Su := Su.keep hb
    replace Sr := Sr.keep hb
    replace Sw := Sw.keep hb
    replace Sp := Sp.keep hb
    replace Sq := Sq.keep hb
    replace hB := hB.trans (hb.mono hB.size)
    clear Sw Sq
    clear hb
    cases O
    · clear HAg HIn Sr Sp Su St
      cases G
      · skip
        have CJ := (show Hid _ from drawJoin wn a1 len1 cap1 (HMo.out _ hB) hl1')
        go_wp2_with fail
        refine Calls.mono CJ.out ?_
        rintro e wj ⟨op, vp, m, ls, xs, rfl, hm3, hG, hb⟩
        clear CJ
        replace hB := hB.trans (hb.mono hB.size)
        clear hb
        obtain ⟨ja, jc, rfl, _, Sj⟩ := hG.lists
        clear hG
        have CI := (show Hid _ from implJoin_any op ja m jc ls wj (HT.out.keeps hB) Sj (by omega))
        have HSJ : Hid (∀ W, NNSl W ja m ls → Calls Tryd.prog 27 #[.int .i64 op, .slice ja m jc] W fun e w' => ∃ v : Value, e = .returned (.tuple #[v, .bool (joinOk op ls)]) ∧ w'.ownsRow W.heap.size 69 2 v (joinL op ls).length (flat (joinL op ls)) ∧ Below W.heap.size W w') := fun W h => specJoin_any op ja m jc ls W h (by omega)
        have hJl := joinL_short op ls
        generalize joinOk op ls = JG at CI HSJ
        generalize joinL op ls = JL at CI HSJ hJl
        have hJJ : (JG == JG) = true := by simp
        go_wp2_with fail
        refine Calls.mono CI.out ?_
        rintro e wk ⟨vj, rfl, rj, hb⟩
        clear CI
        replace hB := hB.trans (hb.mono hB.size)
        replace Sj := Sj.keep hb
        clear hb
        obtain ⟨xa, xc, rfl, Sx⟩ := NSl.row rj
        clear rj
        go_wp2_with fail
        refine Calls.mono (HSJ.out _ Sj) ?_
        rintro e wl ⟨vj, rfl, rj, hb⟩
        replace hB := hB.trans (hb.mono hB.size)
        replace Sx := Sx.keep hb
        clear hb Sj HSJ
        obtain ⟨ya, yc, rfl, Sy⟩ := NSl.row rj
        clear rj
        go_wp2_with fail
        refine Calls.mono (sameN_same xa ya _ xc yc JL _ Sx Sy (by omega)) ?_
        rintro e wm ⟨rfl, hb⟩
        replace hB := hB.trans (hb.mono hB.size)
        go_wp2
        go_ret
        exact ⟨rfl, hB⟩
      · skip
        have CJ := (show Hid _ from drawJoin wn a1 len1 cap1 (HMo.out _ hB) hl1')
        go_wp2_with fail
        refine Calls.mono CJ.out ?_
        rintro e wj ⟨op, vp, m, ls, xs, rfl, hm3, hG, hb⟩
        clear CJ
        replace hB := hB.trans (hb.mono hB.size)
        clear hb
        obtain ⟨ja, jc, rfl, _, Sj⟩ := hG.lists
        clear hG
        have CI := (show Hid _ from implJoin_any op ja m jc ls wj (HT.out.keeps hB) Sj (by omega))
        have HSJ : Hid (∀ W, NNSl W ja m ls → Calls Tryd.prog 27 #[.int .i64 op, .slice ja m jc] W fun e w' => ∃ v : Value, e = .returned (.tuple #[v, .bool (joinOk op ls)]) ∧ w'.ownsRow W.heap.size 69 2 v (joinL op ls).length (flat (joinL op ls)) ∧ Below W.heap.size W w') := fun W h => specJoin_any op ja m jc ls W h (by omega)
        have hJl := joinL_short op ls
        generalize joinOk op ls = JG at CI HSJ
        generalize joinL op ls = JL at CI HSJ hJl
        have hJJ : (JG == JG) = true := by simp
        go_wp2_with fail
        refine Calls.mono CI.out ?_
        rintro e wk ⟨vj, rfl, rj, hb⟩
        clear CI
        replace hB := hB.trans (hb.mono hB.size)
        replace Sj := Sj.keep hb
        clear hb
        obtain ⟨xa, xc, rfl, Sx⟩ := NSl.row rj
        clear rj
        go_wp2_with fail
        refine Calls.mono (HSJ.out _ Sj) ?_
        rintro e wl ⟨vj, rfl, rj, hb⟩
        replace hB := hB.trans (hb.mono hB.size)
        replace Sx := Sx.keep hb
        clear hb Sj HSJ
        obtain ⟨ya, yc, rfl, Sy⟩ := NSl.row rj
        clear rj
        go_wp2_with fail
        refine Calls.mono (sameN_same xa ya _ xc yc JL _ Sx Sy (by omega)) ?_
        rintro e wm ⟨rfl, hb⟩
        replace hB := hB.trans (hb.mono hB.size)
        go_wp2
        go_ret
        exact ⟨rfl, hB⟩
    · have CAg := (show Hid _ from HAg.out rfl _ pa pc (HT.out.keeps hB) St Sp)
      have HIn1 := (show Hid _ from HIn.out rfl)
      clear HAg HIn
      go_wp2_with fail
      refine Calls.mono CAg.out ?_
      rintro e wn2 ⟨vr, rfl, rr, hb⟩
      clear CAg
      replace St := St.keep hb
      replace Su := Su.keep hb
      replace Sr := Sr.keep hb
      replace Sp := Sp.keep hb
      replace hB := hB.trans (hb.mono hB.size)
      clear hb
      obtain ⟨sa, sc, rfl, Ss⟩ := NSl.row rr
      clear rr
      rw [hll] at Ss ⊢
      go_wp2_with fail
      refine Calls.mono (sameN_same sa ta tl sc tc l _ Ss St (by omega)) ?_
      rintro e wn ⟨rfl, hb⟩
      replace St := St.keep hb
      replace Su := Su.keep hb
      replace Sr := Sr.keep hb
      replace Sp := Sp.keep hb
      replace hB := hB.trans (hb.mono hB.size)
      clear hb Ss
      cases G
      · clear HIn1 Sr Sp Su St
        have CJ := (show Hid _ from drawJoin wn a1 len1 cap1 (HMo.out _ hB) hl1')
        go_wp2_with fail
        refine Calls.mono CJ.out ?_
        rintro e wj ⟨op, vp, m, ls, xs, rfl, hm3, hG, hb⟩
        clear CJ
        replace hB := hB.trans (hb.mono hB.size)
        clear hb
        obtain ⟨ja, jc, rfl, _, Sj⟩ := hG.lists
        clear hG
        have CI := (show Hid _ from implJoin_any op ja m jc ls wj (HT.out.keeps hB) Sj (by omega))
        have HSJ : Hid (∀ W, NNSl W ja m ls → Calls Tryd.prog 27 #[.int .i64 op, .slice ja m jc] W fun e w' => ∃ v : Value, e = .returned (.tuple #[v, .bool (joinOk op ls)]) ∧ w'.ownsRow W.heap.size 69 2 v (joinL op ls).length (flat (joinL op ls)) ∧ Below W.heap.size W w') := fun W h => specJoin_any op ja m jc ls W h (by omega)
        have hJl := joinL_short op ls
        generalize joinOk op ls = JG at CI HSJ
        generalize joinL op ls = JL at CI HSJ hJl
        have hJJ : (JG == JG) = true := by simp
        go_wp2_with fail
        refine Calls.mono CI.out ?_
        rintro e wk ⟨vj, rfl, rj, hb⟩
        clear CI
        replace hB := hB.trans (hb.mono hB.size)
        replace Sj := Sj.keep hb
        clear hb
        obtain ⟨xa, xc, rfl, Sx⟩ := NSl.row rj
        clear rj
        go_wp2_with fail
        refine Calls.mono (HSJ.out _ Sj) ?_
        rintro e wl ⟨vj, rfl, rj, hb⟩
        replace hB := hB.trans (hb.mono hB.size)
        replace Sx := Sx.keep hb
        clear hb Sj HSJ
        obtain ⟨ya, yc, rfl, Sy⟩ := NSl.row rj
        clear rj
        go_wp2_with fail
        refine Calls.mono (sameN_same xa ya _ xc yc JL _ Sx Sy (by omega)) ?_
        rintro e wm ⟨rfl, hb⟩
        replace hB := hB.trans (hb.mono hB.size)
        go_wp2
        go_ret
        exact ⟨rfl, hB⟩
      · have HIn2 := (show Hid _ from HIn1.out rfl)
        clear HIn1
        have CLo := (show Hid _ from longs_any wn a1 len1 cap1 4 (HMo.out _ hB) hl1' (by omega))
        go_wp2_with fail
        refine Calls.mono CLo.out ?_
        rintro e wn ⟨vv, ys, rfl, rv, _, hb⟩
        clear CLo
        replace St := St.keep hb
        replace Su := Su.keep hb
        replace Sr := Sr.keep hb
        replace Sp := Sp.keep hb
        replace hB := hB.trans (hb.mono hB.size)
        clear hb
        obtain ⟨va, vc, rfl, Sv⟩ := Sl.vals (ys := ys) rv
        clear rv
        obtain ⟨g1, g2, g3, g4, g5⟩ := HIn2.out ys
        clear HIn2
        have E1 := (show Hid _ from implEval_good P pa P.length pc ys va vc _ g1 (HT.out.keeps hB) Sp Sv)
        go_wp2_with fail
        refine Calls.mono E1.out ?_
        rintro e wn ⟨rfl, hb⟩
        clear E1
        replace St := St.keep hb
        replace Su := Su.keep hb
        replace Sr := Sr.keep hb
        replace Sp := Sp.keep hb
        replace Sv := Sv.keep hb
        replace hB := hB.trans (hb.mono hB.size)
        clear hb
        have E2 := (show Hid _ from implEval_good u ua ul uc ys va vc _ g2 (HT.out.keeps hB) Su Sv)
        go_wp2_with fail
        refine Calls.mono E2.out ?_
        rintro e wn ⟨rfl, hb⟩
        clear E2
        replace St := St.keep hb
        replace Su := Su.keep hb
        replace Sr := Sr.keep hb
        replace Sp := Sp.keep hb
        replace Sv := Sv.keep hb
        replace hB := hB.trans (hb.mono hB.size)
        clear hb
        have E3 := (show Hid _ from implEval_good l ta tl tc ys va vc _ g3 (HT.out.keeps hB) St Sv)
        go_wp2_with fail
        refine Calls.mono E3.out ?_
        rintro e wn ⟨rfl, hb⟩
        clear E3
        replace St := St.keep hb
        replace Su := Su.keep hb
        replace Sr := Sr.keep hb
        replace Sp := Sp.keep hb
        replace Sv := Sv.keep hb
        replace hB := hB.trans (hb.mono hB.size)
        clear hb
        have E4 := (show Hid _ from implEval_good R ra R.length rc ys va vc _ g4 (HT.out.keeps hB) Sr Sv)
        go_wp2_with fail
        refine Calls.mono E4.out ?_
        rintro e wn ⟨rfl, hb⟩
        clear E4
        replace St := St.keep hb
        replace Su := Su.keep hb
        replace Sr := Sr.keep hb
        replace Sp := Sp.keep hb
        replace Sv := Sv.keep hb
        replace hB := hB.trans (hb.mono hB.size)
        clear hb
        clear Sp Su St Sr Sv g1 g2 g3 g4
        by_cases he : evalT P ys = evalT u ys
        · have h4 := g5 he
          rw [he, h4]
          have z1 : (valO (evalT l ys) != valO (evalT l ys)) = false := by simp
          have z2 : (trapO (evalT l ys) != trapO (evalT l ys)) = false := by simp
          have z3 : (valO (evalT u ys) == valO (evalT u ys)) = true := by simp
          have z4 : (trapO (evalT u ys) == trapO (evalT u ys)) = true := by simp
          generalize valO (evalT l ys) = zz at z1 ⊢
          generalize trapO (evalT l ys) = cc at z2 ⊢
          generalize valO (evalT u ys) = yy at z3 ⊢
          generalize trapO (evalT u ys) = bb at z4 ⊢
          clear g5 he h4
          have CJ := (show Hid _ from drawJoin wn a1 len1 cap1 (HMo.out _ hB) hl1')
          go_wp2_with fail
          refine Calls.mono CJ.out ?_
          rintro e wj ⟨op, vp, m, ls, xs, rfl, hm3, hG, hb⟩
          clear CJ
          replace hB := hB.trans (hb.mono hB.size)
          clear hb
          obtain ⟨ja, jc, rfl, _, Sj⟩ := hG.lists
          clear hG
          have CI := (show Hid _ from implJoin_any op ja m jc ls wj (HT.out.keeps hB) Sj (by omega))
          have HSJ : Hid (∀ W, NNSl W ja m ls → Calls Tryd.prog 27 #[.int .i64 op, .slice ja m jc] W fun e w' => ∃ v : Value, e = .returned (.tuple #[v, .bool (joinOk op ls)]) ∧ w'.ownsRow W.heap.size 69 2 v (joinL op ls).length (flat (joinL op ls)) ∧ Below W.heap.size W w') := fun W h => specJoin_any op ja m jc ls W h (by omega)
          have hJl := joinL_short op ls
          generalize joinOk op ls = JG at CI HSJ
          generalize joinL op ls = JL at CI HSJ hJl
          have hJJ : (JG == JG) = true := by simp
          go_wp2_with fail
          refine Calls.mono CI.out ?_
          rintro e wk ⟨vj, rfl, rj, hb⟩
          clear CI
          replace hB := hB.trans (hb.mono hB.size)
          replace Sj := Sj.keep hb
          clear hb
          obtain ⟨xa, xc, rfl, Sx⟩ := NSl.row rj
          clear rj
          go_wp2_with fail
          refine Calls.mono (HSJ.out _ Sj) ?_
          rintro e wl ⟨vj, rfl, rj, hb⟩
          replace hB := hB.trans (hb.mono hB.size)
          replace Sx := Sx.keep hb
          clear hb Sj HSJ
          obtain ⟨ya, yc, rfl, Sy⟩ := NSl.row rj
          clear rj
          go_wp2_with fail
          refine Calls.mono (sameN_same xa ya _ xc yc JL _ Sx Sy (by omega)) ?_
          rintro e wm ⟨rfl, hb⟩
          replace hB := hB.trans (hb.mono hB.size)
          go_wp2
          go_ret
          exact ⟨rfl, hB⟩
        · have hne : (valO (evalT P ys) == valO (evalT u ys)) = false ∨ ((valO (evalT P ys) == valO (evalT u ys)) = true ∧ (trapO (evalT P ys) == trapO (evalT u ys)) = false) := by
            by_cases e1 : valO (evalT P ys) = valO (evalT u ys)
            · refine .inr ⟨by simpa using e1, ?_⟩
              by_cases e2 : trapO (evalT P ys) = trapO (evalT u ys)
              · exact absurd (opt_eq e1 e2) he
              · simpa using e2
            · exact .inl (by simpa using e1)
          generalize valO (evalT l ys) = zz
          generalize trapO (evalT l ys) = cc
          generalize valO (evalT R ys) = ww
          generalize trapO (evalT R ys) = dd
          generalize valO (evalT u ys) = yy at hne ⊢
          generalize trapO (evalT u ys) = bb at hne ⊢
          generalize valO (evalT P ys) = xx at hne ⊢
          generalize trapO (evalT P ys) = aa at hne ⊢
          clear g5 he
          rcases hne with z1 | ⟨z1, z2⟩
          · skip
            have CJ := (show Hid _ from drawJoin wn a1 len1 cap1 (HMo.out _ hB) hl1')
            go_wp2_with fail
            refine Calls.mono CJ.out ?_
            rintro e wj ⟨op, vp, m, ls, xs, rfl, hm3, hG, hb⟩
            clear CJ
            replace hB := hB.trans (hb.mono hB.size)
            clear hb
            obtain ⟨ja, jc, rfl, _, Sj⟩ := hG.lists
            clear hG
            have CI := (show Hid _ from implJoin_any op ja m jc ls wj (HT.out.keeps hB) Sj (by omega))
            have HSJ : Hid (∀ W, NNSl W ja m ls → Calls Tryd.prog 27 #[.int .i64 op, .slice ja m jc] W fun e w' => ∃ v : Value, e = .returned (.tuple #[v, .bool (joinOk op ls)]) ∧ w'.ownsRow W.heap.size 69 2 v (joinL op ls).length (flat (joinL op ls)) ∧ Below W.heap.size W w') := fun W h => specJoin_any op ja m jc ls W h (by omega)
            have hJl := joinL_short op ls
            generalize joinOk op ls = JG at CI HSJ
            generalize joinL op ls = JL at CI HSJ hJl
            have hJJ : (JG == JG) = true := by simp
            go_wp2_with fail
            refine Calls.mono CI.out ?_
            rintro e wk ⟨vj, rfl, rj, hb⟩
            clear CI
            replace hB := hB.trans (hb.mono hB.size)
            replace Sj := Sj.keep hb
            clear hb
            obtain ⟨xa, xc, rfl, Sx⟩ := NSl.row rj
            clear rj
            go_wp2_with fail
            refine Calls.mono (HSJ.out _ Sj) ?_
            rintro e wl ⟨vj, rfl, rj, hb⟩
            replace hB := hB.trans (hb.mono hB.size)
            replace Sx := Sx.keep hb
            clear hb Sj HSJ
            obtain ⟨ya, yc, rfl, Sy⟩ := NSl.row rj
            clear rj
            go_wp2_with fail
            refine Calls.mono (sameN_same xa ya _ xc yc JL _ Sx Sy (by omega)) ?_
            rintro e wm ⟨rfl, hb⟩
            replace hB := hB.trans (hb.mono hB.size)
            go_wp2
            go_ret
            exact ⟨rfl, hB⟩
          · skip
            have CJ := (show Hid _ from drawJoin wn a1 len1 cap1 (HMo.out _ hB) hl1')
            go_wp2_with fail
            refine Calls.mono CJ.out ?_
            rintro e wj ⟨op, vp, m, ls, xs, rfl, hm3, hG, hb⟩
            clear CJ
            replace hB := hB.trans (hb.mono hB.size)
            clear hb
            obtain ⟨ja, jc, rfl, _, Sj⟩ := hG.lists
            clear hG
            have CI := (show Hid _ from implJoin_any op ja m jc ls wj (HT.out.keeps hB) Sj (by omega))
            have HSJ : Hid (∀ W, NNSl W ja m ls → Calls Tryd.prog 27 #[.int .i64 op, .slice ja m jc] W fun e w' => ∃ v : Value, e = .returned (.tuple #[v, .bool (joinOk op ls)]) ∧ w'.ownsRow W.heap.size 69 2 v (joinL op ls).length (flat (joinL op ls)) ∧ Below W.heap.size W w') := fun W h => specJoin_any op ja m jc ls W h (by omega)
            have hJl := joinL_short op ls
            generalize joinOk op ls = JG at CI HSJ
            generalize joinL op ls = JL at CI HSJ hJl
            have hJJ : (JG == JG) = true := by simp
            go_wp2_with fail
            refine Calls.mono CI.out ?_
            rintro e wk ⟨vj, rfl, rj, hb⟩
            clear CI
            replace hB := hB.trans (hb.mono hB.size)
            replace Sj := Sj.keep hb
            clear hb
            obtain ⟨xa, xc, rfl, Sx⟩ := NSl.row rj
            clear rj
            go_wp2_with fail
            refine Calls.mono (HSJ.out _ Sj) ?_
            rintro e wl ⟨vj, rfl, rj, hb⟩
            replace hB := hB.trans (hb.mono hB.size)
            replace Sx := Sx.keep hb
            clear hb Sj HSJ
            obtain ⟨ya, yc, rfl, Sy⟩ := NSl.row rj
            clear rj
            go_wp2_with fail
            refine Calls.mono (sameN_same xa ya _ xc yc JL _ Sx Sy (by omega)) ?_
            rintro e wm ⟨rfl, hb⟩
            replace hB := hB.trans (hb.mono hB.size)
            go_wp2
            go_ret
            exact ⟨rfl, hB⟩
  · have CB := (show Hid _ from big_yes a0 a1 len0 cap0 len1 cap1 w hbig hm0 hm1)
    clear hT hb0 hb1
    go_enter Tryd.func4, Tryd.ntmps4
    go_wp2_with fail
    refine Calls.mono CB.out ?_
    rintro e w0 ⟨rfl, rfl⟩
    go_wp2
    go_ret
    exact ⟨rfl, Below.refl _ _⟩
end Go.Proofs.YtlpefaaohcgboaaDoor
