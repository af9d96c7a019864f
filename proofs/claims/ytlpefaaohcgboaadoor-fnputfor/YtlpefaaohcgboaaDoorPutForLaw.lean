/-
  PROVED HERE: the law FnPutFor's own run, at every two lists of bytes, in a world whose table of arities is laid. No other condition.
-/
import Derived.Test.YtlpefaaohcgboaaDoorDrawn
import Derived.Test.YtlpefaaohcgboaaDoorSames
import Derived.Test.YtlpefaaohcgboaaDoorPutForPlain
import Derived.Test.YtlpefaaohcgboaaDoorLongs
import Derived.Test.YtlpefaaohcgboaaDoorIPut
import Derived.Test.YtlpefaaohcgboaaDoorISure
import Derived.Test.YtlpefaaohcgboaaDoorIEvalGood
namespace Go.Proofs.YtlpefaaohcgboaaDoor
open Go.ChangeShapes Go.WideShapes Go.ChangeAt Go.RowKit
set_option linter.unusedVariables false

theorem putR_short (l : List (Int × Int)) (ls : List (List (Int × Int))) : (putR l ls).length ≤ 40 := by
  unfold putR
  split
  · unfold madeL
    split
    · next h => exact (good_pile h).2.2
    · simp
  · simp
theorem sureL_short (l : List (Int × Int)) : (sureL l).length ≤ 4 := by
  unfold sureL
  split
  · next h =>
    obtain ⟨hp, h1, h2⟩ := good_pile h
    exact (few_sure hp l.length (l.length - 1) (by omega)).len
  · simp

set_option maxHeartbeats 3200000 in
set_option maxRecDepth 20000 in
theorem lawPutFor (a0 a1 : Option Addr) (len0 cap0 len1 cap1 : Nat) (w : World) (hT : Tab w) (hb0 : Bytes w w.heap.size a0 len0) (hb1 : Bytes w w.heap.size a1 len1) (hm0 : len0 ≤ 9223372036854775807) (hm1 : len1 ≤ 9223372036854775807) :
    Calls Tryd.prog 3 #[.slice a0 len0 cap0, .slice a1 len1 cap1] w fun e w' => e = .returned (.bool true) ∧ Below w.heap.size w w' := by
  by_cases hbig : len0 ≤ 1048576 ∧ len1 ≤ 1048576 - len0
  · obtain ⟨hl0, hl1⟩ := hbig
    have CB := (show Hid _ from big_no a0 a1 len0 cap0 len1 cap1 w hl0 hl1)
    have CD := (show Hid _ from drawPut w a0 len0 cap0 hb0 hl0)
    have HT : Hid (Tab w) := hT
    have HMo : Hid (∀ W, Below w.heap.size w W → Bytes W W.heap.size a1 len1) := fun W hW => hb1.keep hW
    have hl1' : len1 ≤ 1048576 := by omega
    obtain ⟨i64, hi, hz0, hz1, hz2⟩ := info_parts info2
    clear hT hb0 hb1
    go_enter Tryd.func3, Tryd.ntmps3
    go_wp2_with fail
    refine Calls.mono CB.out ?_
    rintro e w0 ⟨rfl, rfl⟩
    clear CB
    go_wp2_with fail
    refine Calls.mono CD.out ?_
    rintro e w1 ⟨vt, l, vb, ls, xs, rfl, hNt, hG, hB⟩
    clear CD
    obtain ⟨ta, tl, tc, rfl, St, htc, ht40, _⟩ := hNt
    obtain ⟨ba, bc, rfl, hbc, Sb⟩ := hG.lists
    clear hG
    have HP : Hid (∀ W, Tab W → NSl W ta tl l → NNSl W ba 4 ls → Calls Tryd.prog 9 #[.slice ta tl tc, .slice ba 4 bc] W fun e w' => ∃ v : Value, e = .returned (.tuple #[v, .bool (putOk l ls)]) ∧ w'.ownsRow W.heap.size 69 2 v (putR l ls).length (flat (putR l ls)) ∧ Below W.heap.size W w') := fun W hT h1 h2 => implPut_any ta tl tc l ba 4 bc ls W hT h1 (by omega) h2 (by omega)
    have HPs : Hid (∀ W, NSl W ta tl l → NNSl W ba 4 ls → Calls Tryd.prog 10 #[.slice ta tl tc, .slice ba 4 bc] W fun e w' => ∃ v : Value, e = .returned (.tuple #[v, .bool (putOk l ls)]) ∧ w'.ownsRow W.heap.size 69 2 v (putR l ls).length (flat (putR l ls)) ∧ Below W.heap.size W w') := fun W h1 h2 => specPut_any ta tl tc l ba 4 bc ls W h1 h2 (by omega) (by omega)
    have HS : Hid (∀ W, Tab W → NSl W ta tl l → Calls Tryd.prog 11 #[.slice ta tl tc] W fun e w' => ∃ v : Value, e = .returned (.tuple #[v, .bool (goodB l)]) ∧ w'.ownsRow W.heap.size 3 1 v (sureL l).length (vals (sureL l)) ∧ Below W.heap.size W w') := fun W hT h1 => implSure_any ta tl tc l W hT h1 (by omega)
    have HSs : Hid (∀ W, NSl W ta tl l → Calls Tryd.prog 12 #[.slice ta tl tc] W fun e w' => ∃ v : Value, e = .returned (.tuple #[v, .bool (goodB l)]) ∧ w'.ownsRow W.heap.size 3 1 v (sureL l).length (vals (sureL l)) ∧ Below W.heap.size W w') := fun W h1 => specSure_any ta tl tc l W h1 (by omega)
    have HGi : Hid (∀ W, Tab W → NSl W ta tl l → Calls Tryd.prog 15 #[.slice ta tl tc] W fun e w' => e = .returned (.bool (goodB l)) ∧ Below W.heap.size W w') := fun W hT h1 => implGood_any ta tl tc l W hT h1 (by omega)
    have HGs : Hid (∀ W, NSl W ta tl l → Calls Tryd.prog 16 #[.slice ta tl tc] W fun e w' => e = .returned (.bool (goodB l)) ∧ Below W.heap.size W w') := fun W h1 => specGood_any ta tl tc l W h1 (by omega)
    have HIn : Hid (putOk l ls = true → goodB l = true ∧ (∀ i, i < 4 → goodB (ls.getD i []) = true) ∧ goodB (putR l ls) = true ∧ ∀ env : List Int, (noneT ls env 4 = true → evalT (putR l ls) env = evalT l (vsL ls env 4)) ∧ (badT ls env (sureL l) 4 = true → trapO (evalT (putR l ls) env) = true)) := fun h => put_same h
    have hRl := putR_short l ls
    have hSl := sureL_short l
    generalize putOk l ls = G at HP HPs HIn
    generalize putR l ls = R at HP HPs HIn hRl
    generalize sureL l = S at HS HSs HIn hSl
    generalize goodB l = K at HS HSs HGi HGs
    have hGG : (G != G) = false := by simp
    have hKK : (K != K) = false := by simp
    have hll : l.length = tl := St.1
    go_wp2_with fail
    refine Calls.mono (HP.out _ (HT.out.keeps hB) St Sb) ?_
    rintro e wn ⟨vr, rfl, rr, hb⟩
    replace St := St.keep hb
    replace Sb := Sb.keep hb
    replace hB := hB.trans (hb.mono hB.size)
    obtain ⟨pa, pc, rfl, Sp⟩ := NSl.row rr
    clear rr HP
    clear hb
    go_wp2_with fail
    refine Calls.mono (HPs.out _ St Sb) ?_
    rintro e wn ⟨vr, rfl, rr, hb⟩
    replace St := St.keep hb
    replace Sb := Sb.keep hb
    replace Sp := Sp.keep hb
    replace hB := hB.trans (hb.mono hB.size)
    obtain ⟨qa, qc, rfl, Sq⟩ := NSl.row rr
    clear rr HPs
    clear hb
    go_wp2_with fail
    refine Calls.mono (HS.out _ (HT.out.keeps hB) St) ?_
    rintro e wn ⟨vr, rfl, rr, hb⟩
    replace St := St.keep hb
    replace Sb := Sb.keep hb
    replace Sp := Sp.keep hb
    replace Sq := Sq.keep hb
    replace hB := hB.trans (hb.mono hB.size)
    obtain ⟨sa, sc, rfl, Ss⟩ := Sl.vals rr
    clear rr HS
    clear hb
    go_wp2_with fail
    refine Calls.mono (HSs.out _ St) ?_
    rintro e wn ⟨vr, rfl, rr, hb⟩
    replace St := St.keep hb
    replace Sb := Sb.keep hb
    replace Sp := Sp.keep hb
    replace Sq := Sq.keep hb
    replace Ss := Ss.keep hb
    replace hB := hB.trans (hb.mono hB.size)
    obtain ⟨za, zc, rfl, Sz⟩ := Sl.vals rr
    clear rr HSs
    clear hb
    go_wp2_with fail
    refine Calls.mono (sameN_same pa qa _ pc qc R _ Sp Sq (by omega)) ?_
    rintro e wn ⟨rfl, hb⟩
    replace St := St.keep hb
    replace Sb := Sb.keep hb
    replace Sp := Sp.keep hb
    replace Sq := Sq.keep hb
    replace Ss := Ss.keep hb
    replace Sz := Sz.keep hb
    replace hB := hB.trans (hb.mono hB.size)
    clear hb
    go_wp2_with fail
    refine Calls.mono (sameI_same sa za _ sc zc S _ Ss Sz (by omega)) ?_
    rintro e wn ⟨rfl, hb⟩
    replace St := St.keep hb
    replace Sb := Sb.keep hb
    replace Sp := Sp.keep hb
    replace Sq := Sq.keep hb
    replace Ss := Ss.keep hb
    replace Sz := Sz.keep hb
    replace hB := hB.trans (hb.mono hB.size)
    clear Sq Sz
    clear hb
    go_wp2_with fail
    refine Calls.mono (HGi.out _ (HT.out.keeps hB) St) ?_
    rintro e wn ⟨rfl, hb⟩
    replace St := St.keep hb
    replace Sb := Sb.keep hb
    replace Sp := Sp.keep hb
    replace Ss := Ss.keep hb
    replace hB := hB.trans (hb.mono hB.size)
    clear hb
    go_wp2_with fail
    refine Calls.mono (HGs.out _ St) ?_
    rintro e wn ⟨rfl, hb⟩
    replace St := St.keep hb
    replace Sb := Sb.keep hb
    replace Sp := Sp.keep hb
    replace Ss := Ss.keep hb
    replace hB := hB.trans (hb.mono hB.size)
    clear HGi HGs
    clear hb
    cases G
    · clear HIn
      go_wp2
      go_ret
      exact ⟨rfl, hB⟩
    · have HIn2 := (show Hid _ from HIn.out rfl)
      clear HIn
      have CLo := (show Hid _ from longs_any wn a1 len1 cap1 4 (HMo.out _ hB) hl1' (by omega))
      go_wp2_with fail
      refine Calls.mono CLo.out ?_
      rintro e wn ⟨vv, ys, rfl, rv, _, hb⟩
      clear CLo
      replace St := St.keep hb
      replace Sb := Sb.keep hb
      replace Sp := Sp.keep hb
      replace Ss := Ss.keep hb
      replace hB := hB.trans (hb.mono hB.size)
      clear hb
      obtain ⟨va, vc, rfl, Sv⟩ := Sl.vals (ys := ys) rv
      clear rv
      obtain ⟨g1, g2, g3, g4⟩ := HIn2.out
      have HG2 : Hid (∀ i, i < 4 → goodB (ls.getD i []) = true) := g2
      have HG4 := (show Hid _ from g4 ys)
      clear HIn2 g2 g4
      have HX := (show Hid _ from And.intro St (And.intro Sb (And.intro Sp (And.intro Ss (And.intro Sv hB)))))
      clear St Sb Sp Ss Sv
      go_wp2_with fail
      go_loopw [16, 17, 18, 93] (fun vv no bd i wr => ∃ k : Nat, k ≤ 4 ∧ i = .int .i64 k ∧ wr.ownsRow wn.heap.size 2 1 vv k (vals (vsL ls ys k)) ∧ no = .bool (noneT ls ys k) ∧ bd = .bool (badT ls ys S k) ∧ Below wn.heap.size wn wr) (fun _ _ _ i _ => 4 - (intOf i).toNat)
      case atStart => exact ⟨0, Nat.zero_le _, rfl, World.ownsRow_nil _ _ _ _, rfl, rfl, Below.refl _ _⟩
      case round =>
        obtain ⟨k, hk, rfl, hown, rfl, rfl, hbr⟩ := hrel
        obtain ⟨St0, Sb0, Sp0, Ss0, Sv0, hB0⟩ := HX.out
        have hBr := hB0.trans (hbr.mono hB0.size)
        by_cases hlt : k < 4
        · have hlt' : (k : Int) < 4 := by omega
          obtain ⟨bb, boff, rfl, _, hc⟩ := (NNSl.keep Sb0 hbr).at (by omega)
          obtain ⟨ai, li, ci, cc, hli, _, hsl⟩ := hc k hlt
          have CE := (show Hid _ from implEval_good (ls.getD k []) ai li ci ys va vc wr (HG2.out k hlt) (HT.out.keeps hBr) hsl (Sl.keep Sv0 hbr))
          have HN : Hid (noneT ls ys (k + 1) = (noneT ls ys k && !trapO (evalT (ls.getD k []) ys)) ∧ badT ls ys S (k + 1) = (badT ls ys S k || (trapO (evalT (ls.getD k []) ys) && decide ((k : Int) ∈ S))) ∧ vsL ls ys (k + 1) = vsL ls ys k ++ [valO (evalT (ls.getD k []) ys)]) := ⟨rfl, rfl, vsL_succ ls ys k⟩
          have HHas : Hid (∀ W, Below wn.heap.size wn W → Calls Tryd.prog 19 #[.slice sa S.length sc, .int .i64 (k : Int)] W fun e w' => e = .returned (.bool (decide ((k : Int) ∈ S))) ∧ w' = W) := fun W hW => has_any sa S.length sc S k W (Sl.keep Ss0 hW) (by omega)
          clear hc hsl St0 Sb0 Sp0 Ss0 Sv0 hB0
          generalize valO (evalT (ls.getD k []) ys) = nv at CE HN
          generalize trapO (evalT (ls.getD k []) ys) = tr at CE HN
          generalize badT ls ys S k = bd at HN ⊢
          generalize noneT ls ys k = nn at HN ⊢
          generalize decide ((k : Int) ∈ S) = hs at HHas HN
          go_wp2_with fail
          refine Calls.mono CE.out ?_
          rintro e w2 ⟨rfl, hb2⟩
          clear CE
          have hown2 := own_keep hown hb2
          have hbr2 := hbr.trans (hb2.mono hbr.size)
          have hba := hbr2.alloc hbr2.size (.cells #[.int .i64 nv] 2)
          clear hown hb2 hbr hBr
          cases bd <;> cases tr <;> cases nn
          all_goals
            go_wp2_with (first | (at_builtin; refine wpList_append_own _ rfl _ _ 36 rfl wn.heap.size 2 i64 (.int .i64 0) 1 8 Tryd.underlying36 hi hz0 hz1 hz2 rfl (by decide) u16 _ _ rfl (hown2.alloc _) ⟨w2.heap.size, 0, none⟩ 1 1 [.int .i64 nv] rfl (by simp) (cell_new1 w2 .i64 nv 2) (one_cell1 .i64 nv) (by unfold maxLen; omega) (by omega) hba.size ?_; intro v5 w5 hown5 hg5 _; have hB5 := hba.grown hg5 hba.size (own_ge hown2)) | (go_at_call 19; refine Calls.mono (HHas.out _ hB5) ?_; rintro e w6 ⟨rfl, rfl⟩))
            go_roundw
            case rel => exact ⟨k + 1, by omega, by go_num, by rw [HN.out.2.2, vals_append]; exact hown5, by rw [HN.out.1]; rfl, by rw [HN.out.2.1]; first | rfl | simp, hB5⟩
            case measure => simp [intOf]; omega
        · obtain rfl : k = 4 := by omega
          obtain ⟨va4, vc4, rfl, Sv4⟩ := Sl.vals hown
          have HE1 : Hid (Calls Tryd.prog 18 #[.slice pa R.length pc, .slice va 4 vc] wr fun e w' => e = .returned (.tuple #[.int .i64 (valO (evalT R ys)), .bool (trapO (evalT R ys)), .bool true]) ∧ Below wr.heap.size wr w') := implEval_good R pa R.length pc ys va vc wr g3 (HT.out.keeps hBr) (NSl.keep Sp0 hbr) (Sl.keep Sv0 hbr)
          have HE2 : Hid (∀ W, Below wr.heap.size wr W → Calls Tryd.prog 18 #[.slice ta tl tc, .slice va4 4 vc4] W fun e w' => e = .returned (.tuple #[.int .i64 (valO (evalT l (vsL ls ys 4))), .bool (trapO (evalT l (vsL ls ys 4))), .bool true]) ∧ Below W.heap.size W w') := fun W hW => implEval_good l ta tl tc (vsL ls ys 4) va4 vc4 W g1 ((HT.out.keeps hBr).keeps hW) ((NSl.keep St0 hbr).keep hW) (Sv4.keep hW)
          obtain ⟨f1, f2⟩ := HG4.out
          clear St0 Sb0 Sp0 Ss0 Sv0 hB0 hown Sv4 HG4 g1 g3 hbr
          generalize evalT R ys = o1 at HE1 f1 f2
          generalize evalT l (vsL ls ys 4) = o2 at HE2 f1
          generalize badT ls ys S 4 = bd at f2 ⊢
          generalize noneT ls ys 4 = nn at f1 ⊢
          cases nn
          · clear f1
            cases bd
            · clear f2
              go_wp2_with fail
              refine Calls.mono HE1.out ?_
              rintro e w5 ⟨rfl, hb5⟩
              go_wp2_with fail
              refine Calls.mono (HE2.out _ hb5) ?_
              rintro e w6 ⟨rfl, hb6⟩
              have hB6 := (hBr.trans (hb5.mono hBr.size)).trans (hb6.mono (Nat.le_trans hBr.size hb5.size))
              clear HE1 HE2
              go_wp2
              all_goals
                go_ret
                exact ⟨by simp_all, hB6⟩
            · have z := f2 rfl
              rw [z] at HE1
              clear f2 z
              go_wp2_with fail
              refine Calls.mono HE1.out ?_
              rintro e w5 ⟨rfl, hb5⟩
              go_wp2_with fail
              refine Calls.mono (HE2.out _ hb5) ?_
              rintro e w6 ⟨rfl, hb6⟩
              have hB6 := (hBr.trans (hb5.mono hBr.size)).trans (hb6.mono (Nat.le_trans hBr.size hb5.size))
              clear HE1 HE2
              go_wp2
              all_goals
                go_ret
                exact ⟨by simp_all, hB6⟩
          · obtain rfl := f1 rfl
            clear f1
            have z1 : (valO o1 == valO o1) = true := by simp
            have z2 : (trapO o1 == trapO o1) = true := by simp
            cases bd
            · clear f2
              go_wp2_with fail
              refine Calls.mono HE1.out ?_
              rintro e w5 ⟨rfl, hb5⟩
              go_wp2_with fail
              refine Calls.mono (HE2.out _ hb5) ?_
              rintro e w6 ⟨rfl, hb6⟩
              have hB6 := (hBr.trans (hb5.mono hBr.size)).trans (hb6.mono (Nat.le_trans hBr.size hb5.size))
              clear HE1 HE2
              go_wp2
              all_goals
                go_ret
                exact ⟨by simp_all, hB6⟩
            · have z := f2 rfl
              rw [z] at HE1 HE2 z2
              clear f2 z
              go_wp2_with fail
              refine Calls.mono HE1.out ?_
              rintro e w5 ⟨rfl, hb5⟩
              go_wp2_with fail
              refine Calls.mono (HE2.out _ hb5) ?_
              rintro e w6 ⟨rfl, hb6⟩
              have hB6 := (hBr.trans (hb5.mono hBr.size)).trans (hb6.mono (Nat.le_trans hBr.size hb5.size))
              clear HE1 HE2
              go_wp2
              all_goals
                go_ret
                exact ⟨by simp_all, hB6⟩
  · have CB := (show Hid _ from big_yes a0 a1 len0 cap0 len1 cap1 w hbig hm0 hm1)
    clear hT hb0 hb1
    go_enter Tryd.func3, Tryd.ntmps3
    go_wp2_with fail
    refine Calls.mono CB.out ?_
    rintro e w0 ⟨rfl, rfl⟩
    go_wp2
    go_ret
    exact ⟨rfl, Below.refl _ _⟩
end Go.Proofs.YtlpefaaohcgboaaDoor
