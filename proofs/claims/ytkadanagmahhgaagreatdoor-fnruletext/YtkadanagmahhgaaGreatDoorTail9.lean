/-
  PROVED HERE: the laws' own comparing of two rules that are the same. No condition. when the laws' inputs are too long for them. No condition. the law FnRuleText's own run. The tables are laid. No other condition. what the list of laid variables of FnRuleText gives. No condition.
-/
import Derived.Test.YtkadanagmahhgaaGreatDoorTail8
import Derived.Test.YtkadanagmahhgaaGreatDoorTail0
import Derived.Test.YtkadanagmahhgaaGreatDoorTail7
import Derived.Test.YtkadanagmahhgaaGreatDoorRun37
namespace Go.Proofs.YtkadanagmahhgaaGreatDoor
open Go.ChangeShapes Go.WideShapes Go.ChangeAt Go.RowKit
set_option linter.unusedVariables false

theorem NewR.nsl {w : World} {B : Nat} {a : Option Addr} {m ca : Nat} {l : List (Int × Int)} (h : NewR w B (.slice a m ca) l) : NSl w a m l ∧ m ≤ 100 := by
  obtain ⟨a', len', cap', e, h1, h2, h3, h4⟩ := h
  cases e
  exact ⟨h1, h2⟩
set_option maxHeartbeats 1600000 in
theorem sameRule_any (w : World) (B : Nat) {a a' b b' : Option Addr} {m k ca ca' cb cb' : Nat} {p q : List (Int × Int)} (hp : NSl w a m p) (hp' : NSl w a' m p) (hq : NSl w b k q) (hq' : NSl w b' k q) (hm : m ≤ 100) (hk : k ≤ 100) :
    Calls Tryz.prog 10 #[.agg #[.slice a m ca, .slice b k cb], .agg #[.slice a' m ca', .slice b' k cb']] w fun e w' => e = .returned (.bool true) ∧ Below w.heap.size w w' := by
  have HA : Hid (∀ W, Below w.heap.size w W → Calls Tryz.prog 25 #[.slice a m ca, .slice a' m ca'] W fun e w' => e = .returned (.bool true) ∧ Below W.heap.size W w') := fun W hW => sameN_same a a' m ca ca' p W (hp.keep hW) (hp'.keep hW) (by omega)
  have HB : Hid (∀ W, Below w.heap.size w W → Calls Tryz.prog 25 #[.slice b k cb, .slice b' k cb'] W fun e w' => e = .returned (.bool true) ∧ Below W.heap.size W w') := fun W hW => sameN_same b b' k cb cb' q W (hq.keep hW) (hq'.keep hW) (by omega)
  clear hp hp' hq hq'
  obtain ⟨W1, hW1⟩ : ∃ W1, w.alloc (.cells #[.slice a m ca, .slice b k cb] 26) = W1 := ⟨_, rfl⟩
  have hb1 : Below w.heap.size w W1 := by rw [← hW1]; exact (Below.refl _ _).alloc (Nat.le_refl _) _
  have hs1 : W1.heap.size = w.heap.size + 1 := by rw [← hW1]; simp
  have a0 : W1.cell? ⟨w.heap.size, 0, none⟩ = some (.slice a m ca) := by rw [← hW1]; simp [go_sem]
  have a1 : W1.cell? ⟨w.heap.size, 1, none⟩ = some (.slice b k cb) := by rw [← hW1]; simp [go_sem]
  obtain ⟨W2, hW2⟩ : ∃ W2, W1.alloc (.cells #[.slice a' m ca', .slice b' k cb'] 26) = W2 := ⟨_, rfl⟩
  have hb2 : Below W1.heap.size W1 W2 := by rw [← hW2]; exact (Below.refl _ _).alloc (Nat.le_refl _) _
  have hs2 : W1.heap.size < W2.heap.size := by rw [← hW2]; simp
  have c0 : W2.cell? ⟨W1.heap.size, 0, none⟩ = some (.slice a' m ca') := by rw [← hW2]; simp [go_sem]
  have c1 : W2.cell? ⟨W1.heap.size, 1, none⟩ = some (.slice b' k cb') := by rw [← hW2]; simp [go_sem]
  have d0 := (hb2.cell (p := ⟨w.heap.size, 0, none⟩) (by show w.heap.size < _; omega)).trans a0
  have d1 := (hb2.cell (p := ⟨w.heap.size, 1, none⟩) (by show w.heap.size < _; omega)).trans a1
  have hbw : Below w.heap.size w W2 := hb1.trans (hb2.mono hb1.size)
  have HBW := (show Hid _ from hbw)
  have HK : Hid (w.heap.size < W2.heap.size ∧ W1.heap.size < W2.heap.size) := ⟨by omega, hs2⟩
  clear a0 a1 hb1 hb2 hs1 hs2 hbw
  have HA2 := (show Hid _ from HA.out W2 HBW.out)
  clear HA
  go_enter Tryz.func10, Tryz.ntmps10
  go_wp2_with fail
  refine Calls.mono HA2.out ?_
  rintro e w3 ⟨rfl, hb3⟩
  have e1 := (hb3.cell (p := ⟨w.heap.size, 1, none⟩) HK.out.1).trans d1
  have e2 := (hb3.cell (p := ⟨W1.heap.size, 1, none⟩) HK.out.2).trans c1
  have hbw3 : Below w.heap.size w w3 := HBW.out.trans (hb3.mono HBW.out.size)
  have HB3 := (show Hid _ from HB.out w3 hbw3)
  have HBW3 := (show Hid _ from hbw3)
  clear HA2 hb3 c0 c1 d0 d1 HB hbw3
  go_wp2_with fail
  refine Calls.mono HB3.out ?_
  rintro e w4 ⟨rfl, hb4⟩
  have hbw4 : Below w.heap.size w w4 := HBW3.out.trans (hb4.mono HBW3.out.size)
  go_wp2
  go_ret
  exact ⟨rfl, hbw4⟩
end Go.Proofs.YtkadanagmahhgaaGreatDoor
namespace Go.Proofs.YtkadanagmahhgaaGreatDoor
open Go.ChangeShapes Go.WideShapes Go.ChangeAt Go.RowKit
set_option linter.unusedVariables false
theorem big_no (a b : Option Addr) (len cap len' cap' : Nat) (w : World) (h : len ≤ 1048576) (h' : len' ≤ 1048576 - len) :
    Calls Tryz.prog 5 #[.slice a len cap, .slice b len' cap'] w fun e w' => e = .returned (.bool false) ∧ w' = w := by
  have h1 : ¬ (1048576 : Int) < len := by omega
  have h2 : ¬ (1048576 : Int) - len < len' := by omega
  go_enter Tryz.func5, Tryz.ntmps5
  go_wp2
  go_ret
  exact ⟨rfl, rfl⟩
theorem big_yes (a b : Option Addr) (len cap len' cap' : Nat) (w : World) (h : ¬ (len ≤ 1048576 ∧ len' ≤ 1048576 - len)) (hm : len ≤ 9223372036854775807) (hm' : len' ≤ 9223372036854775807) :
    Calls Tryz.prog 5 #[.slice a len cap, .slice b len' cap'] w fun e w' => e = .returned (.bool true) ∧ w' = w := by
  by_cases h1 : len ≤ 1048576
  · have h2 : ¬ (1048576 : Int) < len := by omega
    have h3 : (1048576 : Int) - len < len' := by omega
    go_enter Tryz.func5, Tryz.ntmps5
    go_wp2
    go_ret
    exact ⟨rfl, rfl⟩
  · have h2 : (1048576 : Int) < len := by omega
    go_enter Tryz.func5, Tryz.ntmps5
    go_wp2
    go_ret
    exact ⟨rfl, rfl⟩

end Go.Proofs.YtkadanagmahhgaaGreatDoor
namespace Go.Proofs.YtkadanagmahhgaaGreatDoor
open Go.ChangeShapes Go.WideShapes Go.ChangeAt Go.RowKit
set_option linter.unusedVariables false

theorem NewR.inN8 {w : World} {B : Nat} {v : Value} {l : List (Int × Int)} (h : NewR w B v l) : InN l := by
  obtain ⟨a', len', cap', e, h1, h2, h3, h4⟩ := h
  exact inN_of h3
/-- A rule that was read, its lists. -/
theorem ReadR.two {w w' : World} {b : List UInt8} {e : Ending} (h : ReadR w w' b e) : ∃ (v : Option Addr) (cv : Nat) (u : Option Addr) (cu : Nat), e = .returned (.tuple #[.agg #[.slice v (ruleL b).length cv, .slice u (ruleR b).length cu], .int .i64 (ruleAt b : Nat), .bool (ruleOk b)]) ∧ (NSl w' v (ruleL b).length (ruleL b) ∧ NSl w' u (ruleR b).length (ruleR b)) ∧ Below w.heap.size w w' := by
  obtain ⟨v, u, rfl, hT, hb⟩ := h
  obtain ⟨h1, h2⟩ := twoR_new hT
  obtain ⟨a, ca, rfl⟩ := h1.shape
  obtain ⟨b, cb, rfl⟩ := h2.shape
  exact ⟨_, _, _, _, rfl, ⟨h1.nsl.1, h2.nsl.1⟩, hb⟩
theorem ruleT_le {p q : List (Int × Int)} (ip : InN p) (iq : InN q) : (ruleT p q).length ≤ 2002 := by
  have h1 := termT_len ip
  have h2 := termT_len iq
  unfold ruleT
  split
  · next h =>
    unfold ruleB at h
    simp only [Bool.and_eq_true] at h
    unfold termT at h1 h2
    rw [if_pos (patB_goodT h.1).1] at h1
    rw [if_pos (patB_goodT h.2).1] at h2
    simp only [List.length_append, List.length_cons, List.length_nil]
    omega
  · simp
theorem bytes_back8 (u : ByteArray) : (⟨u.data.toList.toArray⟩ : ByteArray) = u := by obtain ⟨⟨l⟩⟩ := u; rfl
set_option maxHeartbeats 4000000 in
set_option maxRecDepth 20000 in
/-- The law's second half: a text that is drawn. -/
theorem half_two8 (W0 : World) (hE : Env W0) (hT : Tab W0) (hM : MaxL W0) (u : ByteArray) (hu : u.size ≤ 3002) :
    Hid (∀ W, Below W0.heap.size W0 W → Calls Tryz.prog 9 #[.string u] W fun e w' => ∃ (v : Option Addr) (cv : Nat) (x : Option Addr) (cu : Nat), e = .returned (.tuple #[.agg #[.slice v (ruleL u.data.toList).length cv, .slice x (ruleR u.data.toList).length cu], .int .i64 (ruleAt u.data.toList : Nat), .bool (ruleOk u.data.toList)]) ∧ (NSl w' v (ruleL u.data.toList).length (ruleL u.data.toList) ∧ NSl w' x (ruleR u.data.toList).length (ruleR u.data.toList)) ∧ Below W.heap.size W w') ∧
    Hid (∀ W, Calls Tryz.prog 12 #[.string u] W fun e w' => ∃ (v : Option Addr) (cv : Nat) (x : Option Addr) (cu : Nat), e = .returned (.tuple #[.agg #[.slice v (ruleL u.data.toList).length cv, .slice x (ruleR u.data.toList).length cu], .int .i64 (ruleAt u.data.toList : Nat), .bool (ruleOk u.data.toList)]) ∧ (NSl w' v (ruleL u.data.toList).length (ruleL u.data.toList) ∧ NSl w' x (ruleR u.data.toList).length (ruleR u.data.toList)) ∧ Below W.heap.size W w') ∧
    Hid (ruleOk u.data.toList = true → ∀ W (a b : Option Addr) (ca cb : Nat), Below W0.heap.size W0 W → NSl W a (ruleL u.data.toList).length (ruleL u.data.toList) → NSl W b (ruleR u.data.toList).length (ruleR u.data.toList) → Calls Tryz.prog 7 #[.agg #[.slice a (ruleL u.data.toList).length ca, .slice b (ruleR u.data.toList).length cb]] W fun e w' => e = .returned (.tuple #[.string u, .bool true]) ∧ Below W.heap.size W w') := by
  refine ⟨fun W hb => (implReadRule_any u W (hE.keep hb) (hT.keeps hb) (hM.keep hb) (by omega)).mono fun e w' h => h.two, fun W => (specReadRule_any u W (by omega)).mono fun e w' h => h.two, fun hok W a b ca cb hb h1 h2 => ?_⟩
  obtain ⟨g1, g2, g3, g4⟩ := rule_text hok
  have hl := ruleL_len u.data.toList
  have hr := ruleR_len u.data.toList
  have := implRuleText_any a b _ ca _ cb _ _ W (hT.keeps hb) (hE.keep hb).1 (hE.keep hb).2.2 h1 h2 (by omega) (by omega) g2 g3
  rw [g1, g4, bytes_back8] at this
  exact this
set_option maxHeartbeats 8000000 in
set_option maxRecDepth 20000 in
theorem lawRuleText (a0 a1 : Option Addr) (len0 cap0 len1 cap1 : Nat) (w : World) (hE : Env w) (hT : Tab w) (hM : MaxL w) (hb0 : Bytes w w.heap.size a0 len0) (hb1 : Bytes w w.heap.size a1 len1) (hm0 : len0 ≤ 9223372036854775807) (hm1 : len1 ≤ 9223372036854775807) :
    Calls Tryz.prog 3 #[.slice a0 len0 cap0, .slice a1 len1 cap1] w fun e w' => e = .returned (.bool true) ∧ Below w.heap.size w w' := by
  by_cases hbig : len0 ≤ 1048576 ∧ len1 ≤ 1048576 - len0
  · obtain ⟨hl0, hl1⟩ := hbig
    have CB := (show Hid _ from big_no a0 a1 len0 cap0 len1 cap1 w hl0 hl1)
    have CD := (show Hid _ from drawRuleText w a0 len0 cap0 hb0 hl0)
    have HE : Hid (Env w) := hE
    have HT : Hid (Tab w) := hT
    have HM : Hid (MaxL w) := hM
    have hl1' : len1 ≤ 1048576 := by omega
    have DR : Hid (∀ W, Below w.heap.size w W → Calls Tryz.prog 11 #[.slice a1 len1 cap1] W fun e w' => ∃ s : ByteArray, e = .returned (.string s) ∧ s.size ≤ 3002 ∧ Below W.heap.size W w') := fun W hW => drawReadRule W a1 len1 cap1 (hb1.keep hW) hl1'
    clear hE hT hM hb0 hb1
    go_enter Tryz.func3, Tryz.ntmps3
    go_wp2_with fail
    refine Calls.mono CB.out ?_
    rintro e w0 ⟨rfl, rfl⟩
    clear CB
    go_wp2_with fail
    refine Calls.mono CD.out ?_
    rintro e w1 ⟨a, ca, b, cb, p, q, rfl, hp, hq, hB1⟩
    have ip := hp.inN8
    have iq := hq.inN8
    obtain ⟨np, lp⟩ := hp.nsl
    obtain ⟨nq, lq⟩ := hq.nsl
    obtain ⟨W2, hW2⟩ : ∃ W2, w1.alloc (.cells #[.slice a p.length ca, .slice b q.length cb] 26) = W2 := ⟨_, rfl⟩
    have hb2 : Below w1.heap.size w1 W2 := by rw [← hW2]; exact (Below.refl _ _).alloc (Nat.le_refl _) _
    have hs2 : w1.heap.size < W2.heap.size := by rw [← hW2]; simp
    have n0 : W2.cell? ⟨w1.heap.size, 0, none⟩ = some (.slice a p.length ca) := by rw [← hW2]; simp [go_sem]
    have n1 : W2.cell? ⟨w1.heap.size, 1, none⟩ = some (.slice b q.length cb) := by rw [← hW2]; simp [go_sem]
    have HQ : Hid (∀ W, Below W2.heap.size W2 W → W.cell? ⟨w1.heap.size, 0, none⟩ = some (.slice a p.length ca) ∧ W.cell? ⟨w1.heap.size, 1, none⟩ = some (.slice b q.length cb) ∧ NSl W a p.length p ∧ NSl W b q.length q ∧ Below w0.heap.size w0 W) := fun W hW =>
      ⟨(hW.cell (p := ⟨w1.heap.size, 0, none⟩) hs2).trans n0, (hW.cell (p := ⟨w1.heap.size, 1, none⟩) hs2).trans n1, np.keep (hb2.trans (hW.mono hb2.size)), nq.keep (hb2.trans (hW.mono hb2.size)), hB1.trans ((hb2.trans (hW.mono hb2.size)).mono hB1.size)⟩
    have HIm : Hid (∀ W, Below w0.heap.size w0 W → NSl W a p.length p → NSl W b q.length q → Calls Tryz.prog 7 #[.agg #[.slice a p.length ca, .slice b q.length cb]] W fun e w' => e = .returned (.tuple #[.string ⟨(ruleT p q).toArray⟩, .bool (ruleB p q)]) ∧ Below W.heap.size W w') := fun W hW h1 h2 => implRuleText_any a b _ ca _ cb p q W (HT.out.keeps hW) (HE.out.keep hW).1 (HE.out.keep hW).2.2 h1 h2 (by omega) (by omega) ip iq
    have HSp : Hid (∀ W, NSl W a p.length p → NSl W b q.length q → Calls Tryz.prog 8 #[.agg #[.slice a p.length ca, .slice b q.length cb]] W fun e w' => e = .returned (.tuple #[.string ⟨(ruleT p q).toArray⟩, .bool (ruleB p q)]) ∧ Below W.heap.size W w') := fun W h1 h2 => specRuleText_any a b _ ca _ cb p q W h1 h2 (by omega) (by omega) ip iq
    have hTl := ruleT_le ip iq
    have HGd : Hid (ruleB p q = true → ∀ W, Below w0.heap.size w0 W → Calls Tryz.prog 9 #[.string ⟨(ruleT p q).toArray⟩] W fun e w' => ∃ (v : Option Addr) (cv : Nat) (x : Option Addr) (cu : Nat), e = .returned (.tuple #[.agg #[.slice v p.length cv, .slice x q.length cu], .int .i64 ((ruleT p q).length : Nat), .bool true]) ∧ (NSl w' v p.length p ∧ NSl w' x q.length q) ∧ Below W.heap.size W w') := by
      intro hg W hb
      obtain ⟨r1, r2, r3, r4⟩ := rule_back hg ip iq
      have hsz : (⟨(ruleT p q).toArray⟩ : ByteArray).size ≤ 1048576 := by
        have e0 : (⟨(ruleT p q).toArray⟩ : ByteArray).size = (ruleT p q).length := by simp [ByteArray.size]
        omega
      refine (implReadRule_any ⟨(ruleT p q).toArray⟩ W (HE.out.keep hb) (HT.out.keeps hb) (HM.out.keep hb) hsz).mono fun e w' h => ?_
      have h2 := h.two
      rw [show (⟨(ruleT p q).toArray⟩ : ByteArray).data.toList = ruleT p q by simp, r1, r2, r3, r4] at h2
      exact h2
    generalize ruleT p q = L at HIm HSp HGd hTl
    generalize ruleB p q = G at HIm HSp HGd
    have hLL : (L == L) = true := by simp
    have hLn : ((L.length : Int) != (L.length : Int)) = false := by simp
    have hGG : (G != G) = false := by simp
    obtain ⟨-, -, np2, nq2, hBw2⟩ := HQ.out W2 (Below.refl _ _)
    have HC2 := (show Hid _ from HIm.out W2 hBw2 np2 nq2)
    clear CD ip iq np nq hp hq hb2 hs2 np2 nq2 hBw2 HIm hB1
    go_wp2_with fail
    (try rw [hW2])
    refine Calls.mono HC2.out ?_
    rintro e w3 ⟨rfl, hb3⟩
    clear HC2 n0 n1 hW2
    obtain ⟨m0, m1, np3, nq3, -⟩ := HQ.out w3 hb3
    have HC3 := (show Hid _ from HSp.out w3 np3 nq3)
    have HB3 := (show Hid _ from hb3)
    clear np3 nq3 hb3 HSp
    go_wp2_with fail
    refine Calls.mono HC3.out ?_
    rintro e w4 ⟨rfl, hb4⟩
    have HB4 : Hid (Below W2.heap.size W2 w4) := HB3.out.trans (hb4.mono HB3.out.size)
    clear HC3 hb4 HB3 m0 m1
    go_upto_if 45 with fail
    go_cut [] from 46 to 65 (fun wx => Below w0.heap.size w0 wx)
    case first =>
      have hBw := (HQ.out w4 HB4.out).2.2.2.2
      cases G with
      | false =>
        go_wp2_with fail
        go_meet
        exact hBw
      | true =>
        have HG := (show Hid _ from HGd.out rfl w4 hBw)
        clear HGd hBw
        go_wp2_with fail
        refine Calls.mono HG.out ?_
        rintro e w5 ⟨v, cv, x, cu, rfl, ⟨nv, nx⟩, hb5⟩
        have hB5 := HB4.out.trans (hb5.mono HB4.out.size)
        obtain ⟨W6, hW6⟩ : ∃ W6, w5.alloc (.cells #[.slice v p.length cv, .slice x q.length cu] 26) = W6 := ⟨_, rfl⟩
        have hb6 : Below w5.heap.size w5 W6 := by rw [← hW6]; exact (Below.refl _ _).alloc (Nat.le_refl _) _
        have k0 : W6.cell? ⟨w5.heap.size, 0, none⟩ = some (.slice v p.length cv) := by rw [← hW6]; simp [go_sem]
        have k1 : W6.cell? ⟨w5.heap.size, 1, none⟩ = some (.slice x q.length cu) := by rw [← hW6]; simp [go_sem]
        have hB6 := hB5.trans (hb6.mono hB5.size)
        obtain ⟨m0, m1, np6, nq6, hBw6⟩ := HQ.out W6 hB6
        have HS := (show Hid _ from sameRule_any (ca := cv) (cb := cu) (ca' := ca) (cb' := cb) W6 0 (nv.keep hb6) np6 (nx.keep hb6) nq6 lp lq)
        have HBW6 := (show Hid _ from hBw6)
        clear HG hb5 hB5 hb6 hB6 np6 nq6 hBw6 nv nx
        go_wp2_with fail
        (try rw [hW6])
        refine Calls.mono HS.out ?_
        rintro e w7 ⟨rfl, hb7⟩
        have hB7 : Hid (Below w0.heap.size w0 w7) := HBW6.out.trans (hb7.mono HBW6.out.size)
        clear HS hb7 HBW6 k0 k1 m0 m1 hW6
        go_wp2_with fail
        go_meet
        exact hB7.out
    case rest =>
      clear HGd HQ HB4 hTl hLL hLn hGG
      obtain ⟨w8, hw8⟩ : ∃ x, x = wc := ⟨_, rfl⟩
      subst hw8
      have HDr := (show Hid _ from DR.out w8 hcut)
      have hB8 : Hid (Below w0.heap.size w0 w8) := hcut
      clear DR hcut
      go_wp2_with fail
      refine Calls.mono HDr.out ?_
      rintro e w10 ⟨u, rfl, hu, hb10⟩
      have hB10 := hB8.out.trans (hb10.mono hB8.out.size)
      clear HDr hb10 hB8
      obtain ⟨X1, X2, X3⟩ := half_two8 w0 HE.out HT.out HM.out u hu
      have hll := ruleL_len u.data.toList
      have hrl := ruleR_len u.data.toList
      have hal := (show Hid _ from ruleAt_le u.data.toList)
      have huu : (u.toList == u.toList) = true := by simp
      generalize ruleL u.data.toList = RL at X1 X2 X3 hll
      generalize ruleR u.data.toList = RR at X1 X2 X3 hrl
      generalize ruleOk u.data.toList = OK at X1 X2 X3 hal
      generalize ruleAt u.data.toList = AT at X1 X2 hal
      have hAA : ((AT : Int) != (AT : Int)) = false := by simp
      have hOO : (OK != OK) = false := by simp
      have HR1 := (show Hid _ from X1.out w10 hB10)
      have HB10 := (show Hid _ from hB10)
      clear X1 hB10
      go_wp2_with fail
      refine Calls.mono HR1.out ?_
      rintro e w11 ⟨v, cv, x, cu, rfl, ⟨nv, nx⟩, hb11⟩
      have hB11 := HB10.out.trans (hb11.mono HB10.out.size)
      obtain ⟨W12, hW12⟩ : ∃ W12, w11.alloc (.cells #[.slice v RL.length cv, .slice x RR.length cu] 26) = W12 := ⟨_, rfl⟩
      have hb12 : Below w11.heap.size w11 W12 := by rw [← hW12]; exact (Below.refl _ _).alloc (Nat.le_refl _) _
      have hs12 : w11.heap.size < W12.heap.size := by rw [← hW12]; simp
      have k0 : W12.cell? ⟨w11.heap.size, 0, none⟩ = some (.slice v RL.length cv) := by rw [← hW12]; simp [go_sem]
      have k1 : W12.cell? ⟨w11.heap.size, 1, none⟩ = some (.slice x RR.length cu) := by rw [← hW12]; simp [go_sem]
      have HQ : Hid (∀ W, Below W12.heap.size W12 W → W.cell? ⟨w11.heap.size, 0, none⟩ = some (.slice v RL.length cv) ∧ W.cell? ⟨w11.heap.size, 1, none⟩ = some (.slice x RR.length cu) ∧ NSl W v RL.length RL ∧ NSl W x RR.length RR ∧ Below w0.heap.size w0 W) := fun W hW =>
        ⟨(hW.cell (p := ⟨w11.heap.size, 0, none⟩) hs12).trans k0, (hW.cell (p := ⟨w11.heap.size, 1, none⟩) hs12).trans k1, nv.keep (hb12.trans (hW.mono hb12.size)), nx.keep (hb12.trans (hW.mono hb12.size)), hB11.trans ((hb12.trans (hW.mono hb12.size)).mono hB11.size)⟩
      have HR2 := (show Hid _ from X2.out W12)
      clear HR1 X2 hb11 hB11 hb12 hs12 nv nx k0 k1
      go_wp2_with fail
      (try rw [hW12])
      refine Calls.mono HR2.out ?_
      rintro e w13 ⟨v', cv', x', cu', rfl, ⟨nv', nx'⟩, hb13⟩
      obtain ⟨W14, hW14⟩ : ∃ W14, w13.alloc (.cells #[.slice v' RL.length cv', .slice x' RR.length cu'] 26) = W14 := ⟨_, rfl⟩
      have hb14 : Below w13.heap.size w13 W14 := by rw [← hW14]; exact (Below.refl _ _).alloc (Nat.le_refl _) _
      have j0 : W14.cell? ⟨w13.heap.size, 0, none⟩ = some (.slice v' RL.length cv') := by rw [← hW14]; simp [go_sem]
      have j1 : W14.cell? ⟨w13.heap.size, 1, none⟩ = some (.slice x' RR.length cu') := by rw [← hW14]; simp [go_sem]
      have hB14 := hb13.trans (hb14.mono hb13.size)
      obtain ⟨m0, m1, y0, y1, -⟩ := HQ.out W14 hB14
      have HS := (show Hid _ from sameRule_any (ca := cv) (cb := cu) (ca' := cv') (cb' := cu') W14 0 y0 (nv'.keep hb14) y1 (nx'.keep hb14) (by omega) (by omega))
      have HB14 := (show Hid _ from hB14)
      clear HR2 hb13 hb14 hB14 y0 y1 nv' nx' hW12
      go_wp2_with fail
      (try rw [hW14])
      refine Calls.mono HS.out ?_
      rintro e w15 ⟨rfl, hb15⟩
      have hB15 := HB14.out.trans (hb15.mono HB14.out.size)
      clear HS hb15 HB14 j0 j1 m0 m1 hW14
      obtain ⟨m0, m1, y0, y1, hBw⟩ := HQ.out w15 hB15
      clear HQ hB15
      cases OK with
      | true =>
        have HX := (show Hid _ from X3.out rfl w15 v x cv cu hBw y0 y1)
        have HBw := (show Hid _ from hBw)
        clear X3 y0 y1 hBw hal
        go_wp2_with fail
        refine Calls.mono HX.out ?_
        rintro e w16 ⟨rfl, hb16⟩
        have hB16 := HBw.out.trans (hb16.mono HBw.out.size)
        clear HX hb16 HBw
        go_wp2
        go_ret
        exact ⟨by simp, hB16⟩
      | false =>
        have ha := hal.out rfl
        rw [size_list] at ha
        have hA0 : (0 : Int) ≤ AT := by omega
        have hA1 : (AT : Int) ≤ u.size := by omega
        clear X3 y0 y1
        go_wp2
        go_ret
        exact ⟨by simp, hBw⟩
  · have CB := (show Hid _ from big_yes a0 a1 len0 cap0 len1 cap1 w hbig hm0 hm1)
    clear hE hT hM hb0 hb1
    go_enter Tryz.func3, Tryz.ntmps3
    go_wp2_with fail
    refine Calls.mono CB.out ?_
    rintro e w0 ⟨rfl, rfl⟩
    go_wp2
    go_ret
    exact ⟨rfl, Below.refl _ _⟩
end Go.Proofs.YtkadanagmahhgaaGreatDoor
namespace Go.Proofs.YtkadanagmahhgaaGreatDoor
open Go.ChangeShapes Go.WideShapes Go.ChangeAt Go.RowKit
set_option linter.unusedVariables false
/-- All seven variables. -/
theorem laidRT {W : World} (h : laidMetH Tryz.prog Rows.fnRuleTextRow.laid W) : Env W ∧ Tab W ∧ W.var? Tryz.prog "loop.example/g00694/impl.arities" = some arCells ∧ W.var? Tryz.prog "loop.example/g00694/impl.signs" = some sgCells := by
  rw [MakeChecks.laidMetH_plain _ _ _ (by kernel_rfl)] at h
  have hs := sg_head h.tail.tail.tail.tail.tail.tail
  have ha := ar_head h.tail.tail.tail.tail.tail
  exact ⟨⟨pow_head h.tail.tail, errs_heads h.tail.tail.tail h.tail.tail.tail.tail, sig_of hs⟩, tab_of ha, ha, hs⟩
end Go.Proofs.YtkadanagmahhgaaGreatDoor
