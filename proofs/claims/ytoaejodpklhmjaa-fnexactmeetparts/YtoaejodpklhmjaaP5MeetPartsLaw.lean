/-
  PROVED HERE: the law FnExactMeetParts's own run, at every argument. No other condition.
-/
import Derived.Test.YtoaejodpklhmjaaP5MeetS
import Derived.Test.YtoaejodpklhmjaaP5MeetI
import Derived.Test.YtoaejodpklhmjaaCopyI
import Derived.Test.YtoaejodpklhmjaaInts
import Derived.Test.YtoaejodpklhmjaaP5Keeps
import Derived.Test.YtoaejodpklhmjaaRow
namespace Go.Proofs.Ytoaejodpklhmjaa
open Go.ChangeShapes Go.WideShapes Go.ChangeAt Go.RowKit
set_option linter.unusedVariables false

theorem fewMeet (l m : List Int) : (meetR l m).length ≤ 200 := by
  unfold meetR
  split
  · rename_i h; rw [meet_len]; exact ((partB_iff l).1 ((pair_iff l m).1 h).2.1).1
  · simp
set_option maxHeartbeats 6400000 in
theorem meetLaw_any (a : Option Addr) (len cap : Nat) (l : List Int) (b : Option Addr) (lb cb : Nat) (m : List Int) (w : World) (h : Sl w a len l) (hm : len ≤ 9223372036854775807) (h2 : Sl w b lb m) (hm2 : lb ≤ 9223372036854775807) :
    Calls Try.prog 6 #[.slice a len cap, .slice b lb cb] w fun e w' => e = .returned (.bool true) ∧ Below w.heap.size w w' := by
  have hll := h.1
  have hlm := h2.1
  by_cases hn : len ≤ 1048576
  · have hbi : ¬ (1048576 : Int) < len := by omega
    by_cases hn2 : lb ≤ 1048576
    · have hbi2 : ¬ (1048576 : Int) < lb := by omega
      have HC : Hid (∀ W, Sl W a len l → Calls Try.prog 39 #[.slice a len cap] W fun e w' => e = .returned (.slice (some ⟨W.heap.size, 0, none⟩) len len) ∧ Below W.heap.size W w' ∧ Sl w' (some ⟨W.heap.size, 0, none⟩) len l ∧ MineI w' W.heap.size len) := fun W hW => copyI_mine a len cap l W hW hn
      have HD : Hid (∀ W, Sl W b lb m → Calls Try.prog 39 #[.slice b lb cb] W fun e w' => e = .returned (.slice (some ⟨W.heap.size, 0, none⟩) lb lb) ∧ Below W.heap.size W w' ∧ Sl w' (some ⟨W.heap.size, 0, none⟩) lb m ∧ MineI w' W.heap.size lb) := fun W hW => copyI_mine b lb cb m W hW hn2
      have HSp : Hid (∀ W (g g' : Option Addr), Sl W g len l → Sl W g' lb m → Calls Try.prog 25 #[.slice g len len, .slice g' lb lb] W fun e w' => ∃ v : Value, e = .returned (.tuple #[v, .bool (pairB l m)]) ∧ w'.ownsRow W.heap.size 3 1 v (meetR l m).length (vals (meetR l m)) ∧ Below W.heap.size W w') := fun W g g' hW hW' => specMeet_any g len len l g' lb lb m W hW hW' hm hm2
      have HIm : Hid (∀ W (g g' : Option Addr), Sl W g len l → Sl W g' lb m → Calls Try.prog 24 #[.slice g len len, .slice g' lb lb] W fun e w' => ∃ v : Value, e = .returned (.tuple #[v, .bool (pairB l m)]) ∧ w'.ownsRow W.heap.size 3 1 v (meetR l m).length (vals (meetR l m)) ∧ Below W.heap.size W w') := fun W g g' hW hW' => implMeet_any g len len l g' lb lb m W hW hW' hm hm2
      have HE : Hid (∀ W (g g' : Option Addr), Sl W g len l → Sl W g' len l → Calls Try.prog 40 #[.slice g len len, .slice g' len len] W fun e w' => e = .returned (.bool true) ∧ Below W.heap.size W w') := fun W g g' h1 h2 => eqI_same g g' len len len l W h1 h2 hn
      have HF : Hid (∀ W (g g' : Option Addr), Sl W g lb m → Sl W g' lb m → Calls Try.prog 40 #[.slice g lb lb, .slice g' lb lb] W fun e w' => e = .returned (.bool true) ∧ Below W.heap.size W w') := fun W g g' h1 h2 => eqI_same g g' lb lb lb m W h1 h2 hn2
      have hL := fewMeet l m
      generalize pairB l m = G at HSp HIm
      generalize meetR l m = L at HSp HIm hL
      have HQ : Hid (∀ W (u v : Value) (b b' : Nat), W.ownsRow b 3 1 u L.length (vals L) → W.ownsRow b' 3 1 v L.length (vals L) → Calls Try.prog 40 #[u, v] W fun e w' => e = .returned (.bool true) ∧ Below W.heap.size W w') := fun W u v b b' h1 h2 => by
        obtain ⟨a1, c1, rfl, s1⟩ := Sl.vals h1
        obtain ⟨a2, c2, rfl, s2⟩ := Sl.vals h2
        exact eqI_same a1 a2 _ c1 c2 L W s1 s2 (by omega)
      have HM : Hid (∀ W b, MineI W b len → Calls Try.prog 41 #[.slice (some ⟨b, 0, none⟩) len len, .int .i64 1] W fun e w' => e = .returned (.int .i64 (1 + len : Nat)) ∧ W.grownBy w' (some b)) := fun W b hW => (markI_any b len len 1 W hW hn (by omega)).mono fun e w' ⟨h1, h2, _⟩ => ⟨h1, h2⟩
      have HM2 : Hid (∀ W b, MineI W b lb → Calls Try.prog 41 #[.slice (some ⟨b, 0, none⟩) lb lb, .int .i64 (1 + len : Nat)] W fun e w' => e = .returned (.int .i64 (1 + len + lb : Nat)) ∧ W.grownBy w' (some b)) := fun W b hW => (markI_any b lb lb (1 + len) W hW hn2 (by omega)).mono fun e w' ⟨h1, h2, _⟩ => ⟨h1, h2⟩
      have HMI : Hid (∀ W (v : Value) b, W.ownsRow b 3 1 v L.length (vals L) → Calls Try.prog 41 #[v, .int .i64 1] W fun e w' => e = .returned (.int .i64 (1 + L.length : Nat)) ∧ W.grownBy w' v.ownBlock ∧ ∃ a cap, v = .slice a L.length cap ∧ Sl w' a L.length (marksI 1 L.length)) := fun W v b hW => markI_row b _ v _ L W hW (by omega)
      have HH : Hid (∀ W (a : Option Addr) (c : Nat), Sl W a L.length (marksI 1 L.length) → Calls Try.prog 42 #[.slice a L.length c, .int .i64 1] W fun e w' => e = .returned (.int .i64 (1 + L.length : Nat)) ∧ w' = W) := fun W a c hW => heldI_any a _ c 1 W hW (by omega) (by omega)
      have hGG : (G != G) = false := by simp
      have hk1 : ¬ ((1 + len + lb : Nat) : Int) < 0 := by omega
      generalize ((1 + len + lb : Nat) : Int) = zj at HM2 hk1
      generalize ((1 + len : Nat) : Int) = zk at HM HM2
      have hq1 : ¬ ((1 + L.length : Nat) : Int) < 0 := by omega
      generalize ((1 + L.length : Nat) : Int) = zq at HMI HH hq1
      have hqq : (zq != zq) = false := by simp
      clear hll hlm
      go_enter Try.func6, Try.ntmps6
      go_wp2_with fail
      refine (HC.out _ h).mono ?_
      rintro e w1 ⟨rfl, hb1, hs1, _⟩
      go_wp2_with fail
      refine (HD.out _ (h2.keep hb1)).mono ?_
      rintro e w2 ⟨rfl, hb2, ht2, _⟩
      have hB2 := hb1.trans (hb2.mono hb1.size)
      have hs2 := hs1.keep hb2
      go_wp2_with fail
      refine (HSp.out _ _ _ hs2 ht2).mono ?_
      rintro e w3 ⟨vW, rfl, rW3, hb3⟩
      have hB3 := hB2.trans (hb3.mono hB2.size)
      have hWin := row_in rW3
      clear hb1 hb2 hb3 hs2 hs1 ht2 hB2 HSp
      go_wp2_with fail
      refine (HC.out _ (h.keep hB3)).mono ?_
      rintro e w4 ⟨rfl, hb4, hs4, hm4⟩
      have hB4 := hB3.trans (hb4.mono hB3.size)
      have rW4 := row_keep rW3 hb4
      have hX : w3.heap.size < w4.heap.size := hm4.1
      have hX0 := hB3.size
      clear hb4 hB3 rW3
      go_wp2_with fail
      refine (HD.out _ (h2.keep hB4)).mono ?_
      rintro e w5 ⟨rfl, hb5, ht5, hn5⟩
      have hB5 := hB4.trans (hb5.mono hB4.size)
      have rW5 := row_keep rW4 hb5
      have hs5 := hs4.keep hb5
      have hm5 := hm4.keep hb5
      have hY : w4.heap.size < w5.heap.size := hn5.1
      clear hb5 hB4 rW4 hs4 hm4
      go_wp2_with fail
      refine (HIm.out _ _ _ hs5 ht5).mono ?_
      rintro e w6 ⟨vG, rfl, rG6, hb6⟩
      have hB6 := hB5.trans (hb6.mono hB5.size)
      have rW6 := row_keep rW5 hb6
      have hs6 := hs5.keep hb6
      have ht6 := ht5.keep hb6
      have hm6 := hm5.keep hb6
      have hn6 := hn5.keep hb6
      have hGge := own_ge rG6
      clear hb6 rW5 hs5 hm5 ht5 hn5 hB5
      go_wp2_with fail
      refine (HQ.out _ _ _ _ _ rG6 rW6).mono ?_
      rintro e w7 ⟨rfl, hb7⟩
      have hB7 := hB6.trans (hb7.mono hB6.size)
      have rW7 := row_keep rW6 hb7
      have rG7 := row_keep rG6 hb7
      have hs7 := hs6.keep hb7
      have ht7 := ht6.keep hb7
      have hm7 := hm6.keep hb7
      have hn7 := hn6.keep hb7
      clear hb7 rW6 rG6 hs6 hm6 ht6 hn6 hB6
      go_wp2_with fail
      refine (HC.out _ (h.keep hB7)).mono ?_
      rintro e w8 ⟨rfl, hb8, hs8', _⟩
      have hB8 := hB7.trans (hb8.mono hB7.size)
      have rW8 := row_keep rW7 hb8
      have rG8 := row_keep rG7 hb8
      have hs8 := hs7.keep hb8
      have ht8 := ht7.keep hb8
      have hm8 := hm7.keep hb8
      have hn8 := hn7.keep hb8
      clear hb8 rW7 rG7 hs7 hm7 ht7 hn7 hB7
      go_wp2_with fail
      refine (HE.out _ _ _ hs8 hs8').mono ?_
      rintro e w9 ⟨rfl, hb9⟩
      have hB9 := hB8.trans (hb9.mono hB8.size)
      have rW9 := row_keep rW8 hb9
      have rG9 := row_keep rG8 hb9
      have ht9 := ht8.keep hb9
      have hm9 := hm8.keep hb9
      have hn9 := hn8.keep hb9
      clear hb9 rW8 rG8 hs8 hs8' hm8 ht8 hn8 hB8
      go_wp2_with fail
      refine (HD.out _ (h2.keep hB9)).mono ?_
      rintro e w10 ⟨rfl, hb10, ht10', _⟩
      have hB10 := hB9.trans (hb10.mono hB9.size)
      have rW10 := row_keep rW9 hb10
      have rG10 := row_keep rG9 hb10
      have ht10 := ht9.keep hb10
      have hm10 := hm9.keep hb10
      have hn10 := hn9.keep hb10
      clear hb10 rW9 rG9 hm9 ht9 hn9 hB9
      go_wp2_with fail
      refine (HF.out _ _ _ ht10 ht10').mono ?_
      rintro e w11 ⟨rfl, hb11⟩
      have hB11 := hB10.trans (hb11.mono hB10.size)
      have rW11 := row_keep rW10 hb11
      have rG11 := row_keep rG10 hb11
      have hm11 := hm10.keep hb11
      have hn11 := hn10.keep hb11
      clear hb11 rW10 rG10 hm10 ht10 ht10' hn10 hB10
      go_wp2_with fail
      refine (HM.out _ _ hm11).mono ?_
      rintro e w12 ⟨rfl, hg12⟩
      have hB12 : Below w.heap.size w w12 := hB11.grown hg12 hB11.size (fun r hr => by cases hr; exact hX0)
      have rW12 := row_grown rW11 hg12 (fun x hx e => by cases e; exact absurd (hWin _ hx) (Nat.lt_irrefl _))
      have rG12 := row_grown rG11 hg12 (fun x hx e => by cases e; have := hGge _ hx; omega)
      have hn12 : MineI w12 w4.heap.size lb := by
        have e := hg12.block w4.heap.size hn11.1 (by simp; omega)
        refine ⟨Nat.lt_of_lt_of_le hn11.1 hg12.size, fun i hi => ?_⟩
        obtain ⟨⟨v, hv⟩, hf⟩ := hn11.2 i hi
        exact ⟨⟨v, by rw [← hv]; simp only [World.cell?, e]⟩, by rw [← hf]; simp only [World.frozen?, e]⟩
      clear hg12 rW11 rG11 hm11 hB11 hn11
      go_wp2_with fail
      refine (HM2.out _ _ hn12).mono ?_
      rintro e w13 ⟨rfl, hg13⟩
      have hB13 : Below w.heap.size w w13 := hB12.grown hg13 hB12.size (fun r hr => by cases hr; omega)
      have rW13 := row_grown rW12 hg13 (fun x hx e => by cases e; have := hWin _ hx; omega)
      have rG13 := row_grown rG12 hg13 (fun x hx e => by cases e; have := hGge _ hx; omega)
      clear hg13 rW12 rG12 hn12 hB12
      go_wp2_with fail
      refine (HQ.out _ _ _ _ _ rG13 rW13).mono ?_
      rintro e w14 ⟨rfl, hb14⟩
      have hB14 := hB13.trans (hb14.mono hB13.size)
      have rW14 := row_keep rW13 hb14
      have rG14 := row_keep rG13 hb14
      clear hb14 rW13 rG13 hB13
      go_wp2_with fail
      refine (HMI.out _ _ _ rG14).mono ?_
      rintro e w15 ⟨rfl, hg15, aG, cG, rfl, hsG15⟩
      have hB15 : Below w.heap.size w w15 := hB14.grown hg15 hB14.size (fun r hr => by have := hGge r hr; omega)
      have rW15 := row_grown rW14 hg15 (fun x hx e => by have := hWin _ hx; have := hGge _ e.symm; omega)
      clear hg15 rW14 rG14 hB14
      go_wp2_with fail
      refine (HH.out _ _ _ hsG15).mono ?_
      rintro e w16 ⟨rfl, rfl⟩
      go_wp2_with fail
      refine (HC.out _ (h.keep hB15)).mono ?_
      rintro e w17 ⟨rfl, hb17, hs17, _⟩
      have hB17 := hB15.trans (hb17.mono hB15.size)
      have rW17 := row_keep rW15 hb17
      have hsG17 := hsG15.keep hb17
      clear hb17 rW15 hsG15 hB15
      go_wp2_with fail
      refine (HD.out _ (h2.keep hB17)).mono ?_
      rintro e w18 ⟨rfl, hb18, ht18, _⟩
      have hB18 := hB17.trans (hb18.mono hB17.size)
      have rW18 := row_keep rW17 hb18
      have hsG18 := hsG17.keep hb18
      have hs18 := hs17.keep hb18
      clear hb18 rW17 hsG17 hB17 hs17
      go_wp2_with fail
      refine (HIm.out _ _ _ hs18 ht18).mono ?_
      rintro e w19 ⟨vH, rfl, rH19, hb19⟩
      have hB19 := hB18.trans (hb19.mono hB18.size)
      have rW19 := row_keep rW18 hb19
      have hsG19 := hsG18.keep hb19
      clear hb19 rW18 hsG18 hs18 ht18 hB18
      go_wp2_with fail
      refine (HQ.out _ _ _ _ _ rH19 rW19).mono ?_
      rintro e w20 ⟨rfl, hb20⟩
      have hB20 := hB19.trans (hb20.mono hB19.size)
      have hsG20 := hsG19.keep hb20
      clear hb20 rW19 rH19 hsG19 hB19
      go_wp2_with fail
      refine (HH.out _ _ _ hsG20).mono ?_
      rintro e w21 ⟨rfl, rfl⟩
      go_wp2
      go_ret
      exact ⟨rfl, hB20⟩
    · have hbi2 : (1048576 : Int) < lb := by omega
      clear hll hlm
      go_enter Try.func6, Try.ntmps6
      go_wp2
      go_ret
      exact ⟨rfl, Below.refl _ _⟩
  · have hbi : (1048576 : Int) < len := by omega
    clear hll hlm
    go_enter Try.func6, Try.ntmps6
    go_wp2
    go_ret
    exact ⟨rfl, Below.refl _ _⟩
end Go.Proofs.Ytoaejodpklhmjaa
