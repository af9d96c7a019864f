/-
  PROVED HERE: the law FnTermText's own run. The tables are laid. No other condition.
-/
import Derived.Test.YtfadclakedfjkaaDoorDrawnThree
import Derived.Test.YtfadclakedfjkaaDoorDrawing
import Derived.Test.YtfadclakedfjkaaDoorSmallBits
import Derived.Test.YtfadclakedfjkaaDoorIText
import Derived.Test.YtfadclakedfjkaaDoorIReadTerm
import Derived.Test.YtfadclakedfjkaaDoorTermRead
namespace Go.Proofs.YtfadclakedfjkaaDoor
open Go.ChangeShapes Go.WideShapes Go.ChangeAt Go.RowKit
set_option linter.unusedVariables false

theorem readAt_le (s : List UInt8) : readAt s ≤ s.length := by
  have := (rdR_ok s).2.1
  unfold readAt
  split
  · split
    · split
      · exact Nat.le_refl _
      · exact Nat.zero_le _
    · exact this
  · exact Nat.zero_le _
theorem bytes_back (u : ByteArray) : (⟨u.data.toList.toArray⟩ : ByteArray) = u := by obtain ⟨⟨l⟩⟩ := u; rfl
set_option maxHeartbeats 4000000 in
set_option maxRecDepth 20000 in
/-- The law's second half: a text that is drawn. -/
theorem half_two (W0 w : World) (hE : Env W0) (hT : Tab W0) (hB0 : Below W0.heap.size W0 w) (u : ByteArray) (hu : u.size ≤ 1202) :
    Hid (∀ W, Below W0.heap.size W0 W → Calls Tryd.prog 11 #[.string u] W fun e w' => ∃ v : Value, e = .returned (.tuple #[v, .int .i64 (readAt u.data.toList : Nat), .bool (readOk u.data.toList)]) ∧ w'.ownsRow W.heap.size 55 2 v (readL u.data.toList).length (flat (readL u.data.toList)) ∧ Below W.heap.size W w') ∧
    Hid (∀ W, Calls Tryd.prog 15 #[.string u] W fun e w' => ∃ v : Value, e = .returned (.tuple #[v, .int .i64 (readAt u.data.toList : Nat), .bool (readOk u.data.toList)]) ∧ w'.ownsRow W.heap.size 55 2 v (readL u.data.toList).length (flat (readL u.data.toList)) ∧ Below W.heap.size W w') ∧
    Hid (readOk u.data.toList = true → ∀ W (a : Option Addr) (cap : Nat), Below W0.heap.size W0 W → NSl W a (readL u.data.toList).length (readL u.data.toList) → Calls Tryd.prog 9 #[.slice a (readL u.data.toList).length cap] W fun e w' => e = .returned (.tuple #[.string u, .bool true]) ∧ Below W.heap.size W w') := by
  refine ⟨fun W hb => implReadTerm_any u W (hE.keep hb) (by omega), fun W => specReadTerm_any u W (by omega), fun hok W a cap hb hs => ?_⟩
  obtain ⟨g1, g2, g3, _⟩ := read_text hok
  have hl := readL_len u.data.toList
  have := implText_any a _ cap _ W (hT.keeps hb) (hE.1.keep hb) (hE.2.2.keep hb) hs (by omega) g2
  unfold termT at this
  rw [if_pos g1, g1, g3, bytes_back] at this
  exact this
set_option maxHeartbeats 8000000 in
set_option maxRecDepth 20000 in
theorem lawTermText (a0 a1 : Option Addr) (len0 cap0 len1 cap1 : Nat) (w : World) (hE : Env w) (hT : Tab w) (hb0 : Bytes w w.heap.size a0 len0) (hb1 : Bytes w w.heap.size a1 len1) (hm0 : len0 ≤ 9223372036854775807) (hm1 : len1 ≤ 9223372036854775807) :
    Calls Tryd.prog 3 #[.slice a0 len0 cap0, .slice a1 len1 cap1] w fun e w' => e = .returned (.bool true) ∧ Below w.heap.size w w' := by
  by_cases hbig : len0 ≤ 1048576 ∧ len1 ≤ 1048576 - len0
  · obtain ⟨hl0, hl1⟩ := hbig
    have CB := (show Hid _ from big_no a0 a1 len0 cap0 len1 cap1 w hl0 hl1)
    have CD := (show Hid _ from drawTerm w a0 len0 cap0 hb0 hl0)
    have HE : Hid (Env w) := hE
    have HT : Hid (Tab w) := hT
    have HMo : Hid (∀ W, Below w.heap.size w W → Bytes W W.heap.size a1 len1) := fun W hW => hb1.keep hW
    have hl1' : len1 ≤ 1048576 := by omega
    have HSN : Hid (∀ W (x y : Value) (l : List (Int × Int)) (b b' : Nat), l.length ≤ 1000 → (∃ a c, x = .slice a l.length c ∧ NSl W a l.length l) → (∃ a c, y = .slice a l.length c ∧ NSl W a l.length l) → Calls Tryd.prog 13 #[x, y] W fun e w' => e = .returned (.bool true) ∧ Below W.heap.size W w') := by
      rintro W x y l b b' hl ⟨a, c, rfl, h1⟩ ⟨a', c', rfl, h2⟩
      exact sameN_same a a' _ c c' l W h1 h2 (by omega)
    clear hE hT hb0 hb1
    go_enter Tryd.func3, Tryd.ntmps3
    go_wp2_with fail
    refine Calls.mono CB.out ?_
    rintro e w0 ⟨rfl, rfl⟩
    clear CB
    go_wp2_with fail
    refine Calls.mono CD.out ?_
    rintro e w1 ⟨v, l, rfl, ⟨a, len, cap, rfl, hs1, _, hl40, _⟩, hI, hB1⟩
    have hIN := inN_of hI
    obtain rfl := hs1.1
    have HIm : Hid (∀ W, Below w0.heap.size w0 W → NSl W a l.length l → Calls Tryd.prog 9 #[.slice a l.length cap] W fun e w' => e = .returned (.tuple #[.string ⟨(termT l).toArray⟩, .bool (goodB l)]) ∧ Below W.heap.size W w') := fun W hb hs => implText_any a _ cap l W (HT.out.keeps hb) (HE.out.1.keep hb) (HE.out.2.2.keep hb) hs (by omega) hIN
    have HSp : Hid (∀ W, NSl W a l.length l → Calls Tryd.prog 10 #[.slice a l.length cap] W fun e w' => e = .returned (.tuple #[.string ⟨(termT l).toArray⟩, .bool (goodB l)]) ∧ Below W.heap.size W w') := fun W hs => specText_any a _ cap l W hs (by omega) hIN
    have HGd : Hid (goodB l = true → (∀ W, Below w0.heap.size w0 W → Calls Tryd.prog 11 #[.string ⟨(termT l).toArray⟩] W fun e w' => ∃ v : Value, e = .returned (.tuple #[v, .int .i64 ((termT l).length : Nat), .bool true]) ∧ w'.ownsRow W.heap.size 55 2 v l.length (flat l) ∧ Below W.heap.size W w') ∧
        (∀ W, Below w0.heap.size w0 W → Calls Tryd.prog 12 #[.string ⟨(termT l).toArray⟩] W fun e w' => e = .returned (.tuple #[.int .i64 (l.length : Nat), .bool true]) ∧ Below W.heap.size W w')) := by
      intro hg
      have ht : termT l = textT l := by unfold termT; rw [if_pos hg]
      have hln := termT_len hIN
      rw [ht] at hln ⊢
      obtain ⟨r1, r2, r3⟩ := text_read hg hIN hln
      have hd : (⟨(textT l).toArray⟩ : ByteArray).data.toList = textT l := by simp
      have hsz : (⟨(textT l).toArray⟩ : ByteArray).size ≤ 9223372036854775807 := by
        have e0 : (⟨(textT l).toArray⟩ : ByteArray).size = (textT l).length := by simp [ByteArray.size]
        omega
      refine ⟨fun W hb => ?_, fun W hb => ?_⟩
      · have := implReadTerm_any ⟨(textT l).toArray⟩ W (HE.out.keep hb) hsz
        rw [hd, r1, r2, r3] at this
        exact this
      · have := implCount_any ⟨(textT l).toArray⟩ W (HE.out.keep hb) hsz
        rw [hd, r1, r2] at this
        exact this
    have hTl := termT_len hIN
    have HS1 : Hid (NSl w1 a l.length l) := hs1
    have hl40' : (l.length : Int) ≤ 40 := by omega
    generalize termT l = L at HIm HSp HGd hTl
    generalize goodB l = G at HIm HSp HGd
    have hLL : (L == L) = true := by simp
    have hLn : ((L.length : Int) != (L.length : Int)) = false := by simp
    have hnl : ((l.length : Int) != (l.length : Int)) = false := by simp
    have DR : Hid (∀ W, Below w0.heap.size w0 W → Calls Tryd.prog 14 #[.slice a1 len1 cap1] W fun e w' => ∃ s : ByteArray, e = .returned (.string s) ∧ s.size ≤ 1202 ∧ Below W.heap.size W w') := fun W hb => drawReadTerm W a1 len1 cap1 (HMo.out W hb) hl1'
    clear CD hI hIN hs1 HMo
    have HC2 := (show Hid _ from HIm.out w1 hB1 HS1.out)
    go_wp2_with fail
    refine Calls.mono HC2.out ?_
    rintro e w2 ⟨rfl, hb2⟩
    have hB2 := hB1.trans (hb2.mono hB1.size)
    have hs2 := HS1.out.keep hb2
    clear HC2 HS1 hB1 hb2 HIm
    have HC3 := (show Hid _ from HSp.out w2 hs2)
    have HS2 : Hid (NSl w2 a l.length l) := hs2
    clear hs2
    go_wp2_with fail
    refine Calls.mono HC3.out ?_
    rintro e w3 ⟨rfl, hb3⟩
    have hB3 := hB2.trans (hb3.mono hB2.size)
    have HS3 : Hid (NSl w3 a l.length l) := HS2.out.keep hb3
    clear HC3 HS2 hB2 hb3 HSp
    have hGG : (G != G) = false := by simp
    cases G with
    | false =>
      clear HGd HS3
      have HDr := (show Hid _ from DR.out w3 hB3)
      clear DR
      go_wp2_with fail
      refine Calls.mono HDr.out ?_
      rintro e w10 ⟨u, rfl, hu, hb10⟩
      have hB10 := hB3.trans (hb10.mono hB3.size)
      clear HDr hb10
      obtain ⟨X1, X2, X3⟩ := half_two w0 w10 HE.out HT.out hB10 u hu
      have hrl := readL_len u.data.toList
      have hal := readAt_le u.data.toList
      rw [size_list] at hal
      have huu : (u.toList == u.toList) = true := by simp
      generalize readL u.data.toList = RL at X1 X2 X3 hrl
      generalize readOk u.data.toList = OK at X1 X2 X3
      generalize readAt u.data.toList = AT at X1 X2 hal
      have hAA : ((AT : Int) != (AT : Int)) = false := by simp
      have hOO : (OK != OK) = false := by simp
      have hA0 : (0 : Int) ≤ AT := by omega
      have hA1 : (AT : Int) ≤ u.size := by omega
      have HR1 := (show Hid _ from X1.out w10 hB10)
      clear X1
      go_wp2_with fail
      refine Calls.mono HR1.out ?_
      rintro e w11 ⟨vx, rfl, hox, hb11⟩
      have hB11 := hB10.trans (hb11.mono hB10.size)
      have HR2 := (show Hid _ from X2.out w11)
      clear HR1 X2 hb11
      go_wp2_with fail
      refine Calls.mono HR2.out ?_
      rintro e w12 ⟨vy, rfl, hoy, hb12⟩
      have hB12 := hB11.trans (hb12.mono hB11.size)
      have hox2 := own_keep hox hb12
      obtain ⟨px, cx, rfl, hsx⟩ := NSl.row hox2
      obtain ⟨py, cy, rfl, hsy⟩ := NSl.row hoy
      have HSm := (show Hid _ from HSN.out w12 (.slice px RL.length cx) (.slice py RL.length cy) RL 0 0 (by omega) ⟨_, _, rfl, hsx⟩ ⟨_, _, rfl, hsy⟩)
      have HSx : Hid (NSl w12 px RL.length RL) := hsx
      clear HR2 hb12 hox hox2 hoy hsx hsy HSN
      go_wp2_with fail
      refine Calls.mono HSm.out ?_
      rintro e w13 ⟨rfl, hb13⟩
      have hB13 := hB12.trans (hb13.mono hB12.size)
      have HSx2 : Hid (NSl w13 px RL.length RL) := HSx.out.keep hb13
      clear HSm HSx hb13
      cases OK with
      | true =>
        have HQ := (show Hid _ from X3.out rfl w13 px cx hB13 HSx2.out)
        clear X3
        go_wp2_with fail
        refine Calls.mono HQ.out ?_
        rintro e w14 ⟨rfl, hb14⟩
        have hB14 := hB13.trans (hb14.mono hB13.size)
        clear HQ
        go_wp2
        go_ret
        exact ⟨by simp, hB14⟩
      | false =>
        clear X3
        go_wp2
        go_ret
        exact ⟨by simp, hB13⟩
    | true =>
      obtain ⟨G1, G2⟩ := HGd.out rfl
      have HG1 := (show Hid _ from G1 w3 hB3)
      have HG2 : Hid (∀ W, Below w0.heap.size w0 W → Calls Tryd.prog 12 #[.string ⟨L.toArray⟩] W fun e w' => e = .returned (.tuple #[.int .i64 (l.length : Nat), .bool true]) ∧ Below W.heap.size W w') := G2
      clear HGd G1 G2
      go_wp2_with fail
      refine Calls.mono HG1.out ?_
      rintro e w4 ⟨vx, rfl, hox, hb4⟩
      have hB4 := hB3.trans (hb4.mono hB3.size)
      have HS4 : Hid (NSl w4 a l.length l) := HS3.out.keep hb4
      have HCt := (show Hid _ from HG2.out w4 hB4)
      clear HG1 HG2 HS3 hb4 hB3
      go_wp2_with fail
      refine Calls.mono HCt.out ?_
      rintro e w5 ⟨rfl, hb5⟩
      have hB5 := hB4.trans (hb5.mono hB4.size)
      have HS5 : Hid (NSl w5 a l.length l) := HS4.out.keep hb5
      have hox5 := own_keep hox hb5
      obtain ⟨px, cx, rfl, hsx⟩ := NSl.row hox5
      have HSm := (show Hid _ from HSN.out w5 (.slice px l.length cx) (.slice a l.length cap) l 0 0 (by omega) ⟨_, _, rfl, hsx⟩ ⟨_, _, rfl, HS5.out⟩)
      clear HCt HS4 hb5 hB4 hox hox5 hsx HS5
      go_wp2_with fail
      refine Calls.mono HSm.out ?_
      rintro e w6 ⟨rfl, hb6⟩
      have hB6 := hB5.trans (hb6.mono hB5.size)
      clear HSm hb6 hB5
      have HDr := (show Hid _ from DR.out w6 hB6)
      clear DR
      go_wp2_with fail
      refine Calls.mono HDr.out ?_
      rintro e w10 ⟨u, rfl, hu, hb10⟩
      have hB10 := hB6.trans (hb10.mono hB6.size)
      clear HDr hb10
      obtain ⟨X1, X2, X3⟩ := half_two w0 w10 HE.out HT.out hB10 u hu
      have hrl := readL_len u.data.toList
      have hal := readAt_le u.data.toList
      rw [size_list] at hal
      have huu : (u.toList == u.toList) = true := by simp
      generalize readL u.data.toList = RL at X1 X2 X3 hrl
      generalize readOk u.data.toList = OK at X1 X2 X3
      generalize readAt u.data.toList = AT at X1 X2 hal
      have hAA : ((AT : Int) != (AT : Int)) = false := by simp
      have hOO : (OK != OK) = false := by simp
      have hA0 : (0 : Int) ≤ AT := by omega
      have hA1 : (AT : Int) ≤ u.size := by omega
      have HR1 := (show Hid _ from X1.out w10 hB10)
      clear X1
      go_wp2_with fail
      refine Calls.mono HR1.out ?_
      rintro e w11 ⟨vx, rfl, hox, hb11⟩
      have hB11 := hB10.trans (hb11.mono hB10.size)
      have HR2 := (show Hid _ from X2.out w11)
      clear HR1 X2 hb11
      go_wp2_with fail
      refine Calls.mono HR2.out ?_
      rintro e w12 ⟨vy, rfl, hoy, hb12⟩
      have hB12 := hB11.trans (hb12.mono hB11.size)
      have hox2 := own_keep hox hb12
      obtain ⟨px, cx, rfl, hsx⟩ := NSl.row hox2
      obtain ⟨py, cy, rfl, hsy⟩ := NSl.row hoy
      have HSm := (show Hid _ from HSN.out w12 (.slice px RL.length cx) (.slice py RL.length cy) RL 0 0 (by omega) ⟨_, _, rfl, hsx⟩ ⟨_, _, rfl, hsy⟩)
      have HSx : Hid (NSl w12 px RL.length RL) := hsx
      clear HR2 hb12 hox hox2 hoy hsx hsy HSN
      go_wp2_with fail
      refine Calls.mono HSm.out ?_
      rintro e w13 ⟨rfl, hb13⟩
      have hB13 := hB12.trans (hb13.mono hB12.size)
      have HSx2 : Hid (NSl w13 px RL.length RL) := HSx.out.keep hb13
      clear HSm HSx hb13
      cases OK with
      | true =>
        have HQ := (show Hid _ from X3.out rfl w13 px cx hB13 HSx2.out)
        clear X3
        go_wp2_with fail
        refine Calls.mono HQ.out ?_
        rintro e w14 ⟨rfl, hb14⟩
        have hB14 := hB13.trans (hb14.mono hB13.size)
        clear HQ
        go_wp2
        go_ret
        exact ⟨by simp, hB14⟩
      | false =>
        clear X3
        go_wp2
        go_ret
        exact ⟨by simp, hB13⟩
  · have CB := (show Hid _ from big_yes a0 a1 len0 cap0 len1 cap1 w hbig hm0 hm1)
    clear hE hT hb0 hb1
    go_enter Tryd.func3, Tryd.ntmps3
    go_wp2_with fail
    refine Calls.mono CB.out ?_
    rintro e w0 ⟨rfl, rfl⟩
    go_wp2
    go_ret
    exact ⟨rfl, Below.refl _ _⟩
end Go.Proofs.YtfadclakedfjkaaDoor
