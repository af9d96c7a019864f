/-
  PROVED HERE: the law FnExactSameRule's own run, at every argument, in a world whose table of arities is laid. No other condition.
-/
import Derived.Test.YtkadanagmahhgaaDoorS8Rule
import Derived.Test.YtkadanagmahhgaaDoorR8Copy
import Derived.Deep.CutRange
namespace Go.Proofs.YtkadanagmahhgaaDoor
open Go.ChangeShapes Go.WideShapes Go.ChangeAt Go.RowKit
set_option linter.unusedVariables false

set_option maxHeartbeats 6400000 in
set_option maxRecDepth 20000 in
theorem sameRuleLaw_any (a b : Option Addr) (len cap lb cb : Nat) (p q : List (Int × Int)) (a' b' : Option Addr) (len' cap' lb' cb' : Nat) (p' q' : List (Int × Int)) (w : World) (ht : Tab w) (h : NSl w a len p) (hl : NSl w b lb q) (h' : NSl w a' len' p') (hl' : NSl w b' lb' q') (hm : len ≤ 9223372036854775807) (hm2 : lb ≤ 9223372036854775807) (hm3 : len' ≤ 9223372036854775807) (hm4 : lb' ≤ 9223372036854775807) :
    Calls Tryd.prog 3 #[.agg #[.slice a len cap, .slice b lb cb], .agg #[.slice a' len' cap', .slice b' lb' cb']] w fun e w' => e = .returned (.bool true) ∧ Below w.heap.size w w' := by
  obtain ⟨W1, hW1⟩ : ∃ W1, (w.alloc (.cells #[.slice a len cap, .slice b lb cb] 24)).alloc (.cells #[.slice a' len' cap', .slice b' lb' cb'] 24) = W1 := ⟨_, rfl⟩
  have hb1 : Below w.heap.size w W1 := by rw [← hW1]; exact ((Below.refl _ _).alloc (Nat.le_refl _) _).alloc (by simp) _
  have hs1 : W1.heap.size = w.heap.size + 2 := by rw [← hW1]; simp
  have n0 : W1.cell? ⟨w.heap.size, 0, none⟩ = some (.slice a len cap) := by rw [← hW1]; simp [go_sem]
  have n1 : W1.cell? ⟨w.heap.size, 1, none⟩ = some (.slice b lb cb) := by rw [← hW1]; simp [go_sem]
  have n2 : W1.cell? ⟨w.heap.size + 1, 0, none⟩ = some (.slice a' len' cap') := by rw [← hW1]; simp [go_sem]
  have n3 : W1.cell? ⟨w.heap.size + 1, 1, none⟩ = some (.slice b' lb' cb') := by rw [← hW1]; simp [go_sem]
  have HZ := (show Hid _ from szR_any a b len cap lb cb 1048576 W1 (Nat.le_refl _) hm hm2)
  have HF : Hid (∀ W, Below W1.heap.size W1 W → W.cell? ⟨w.heap.size, 0, none⟩ = some (.slice a len cap) ∧ W.cell? ⟨w.heap.size, 1, none⟩ = some (.slice b lb cb) ∧ W.cell? ⟨w.heap.size + 1, 0, none⟩ = some (.slice a' len' cap') ∧ W.cell? ⟨w.heap.size + 1, 1, none⟩ = some (.slice b' lb' cb')) := fun W hW => ⟨(hW.cell (p := ⟨w.heap.size, 0, none⟩) (by show w.heap.size < _; omega)).trans n0, (hW.cell (p := ⟨w.heap.size, 1, none⟩) (by show w.heap.size < _; omega)).trans n1, (hW.cell (p := ⟨w.heap.size + 1, 0, none⟩) (by show w.heap.size + 1 < _; omega)).trans n2, (hW.cell (p := ⟨w.heap.size + 1, 1, none⟩) (by show w.heap.size + 1 < _; omega)).trans n3⟩
  have HW : Hid (∀ W, Below W1.heap.size W1 W → Below w.heap.size w W) := fun W hW => hb1.trans (hW.mono hb1.size)
  have HT : Hid (∀ W, Below W1.heap.size W1 W → Tab W) := fun W hW => (ht.keeps hb1).keeps hW
  by_cases hfit : len + lb ≤ 1048576
  case neg =>
    have hz : szRV 1048576 len lb = -1 := by unfold szRV; rw [if_neg hfit]
    rw [hz] at HZ
    clear h hl h' hl' hb1 ht HT hz hfit HF
    go_enter Tryd.func3, Tryd.ntmps3
    go_wp2_with fail
    (try rw [hW1])
    refine Calls.mono HZ.out ?_
    rintro e w2 ⟨rfl, hb2⟩
    clear HZ hW1
    go_wp2
    go_ret
    exact ⟨rfl, HW.out _ hb2⟩
  obtain ⟨s1, hs⟩ : ∃ s1 : Nat, szRV 1048576 len lb = s1 := ⟨1048576 - len - lb, by unfold szRV; rw [if_pos hfit]⟩
  have hs1m : s1 ≤ 1048576 := by unfold szRV at hs; rw [if_pos hfit] at hs; omega
  rw [hs] at HZ
  have hz : ¬ (s1 : Int) < 0 := by omega
  have HZ2 : Hid (∀ W, Calls Tryd.prog 4 #[.agg #[.slice a' len' cap', .slice b' lb' cb'], .int .i64 (s1 : Int)] W fun e w' => e = .returned (.int .i64 (szRV s1 len' lb')) ∧ Below W.heap.size W w') := fun W => szR_any a' b' len' cap' lb' cb' s1 W hs1m hm3 hm4
  have hn : len ≤ 1048576 := by omega
  have hn2 : lb ≤ 1048576 := by omega
  by_cases hfit2 : len' + lb' ≤ s1
  case neg =>
    have hz2 : szRV s1 len' lb' = -1 := by unfold szRV; rw [if_neg hfit2]
    rw [hz2] at HZ2
    clear h hl h' hl' hb1 ht HT hz2 hfit hfit2 hs hs1m hn hn2
    go_enter Tryd.func3, Tryd.ntmps3
    go_wp2_with fail
    (try rw [hW1])
    refine Calls.mono HZ.out ?_
    rintro e w2 ⟨rfl, hb2⟩
    obtain ⟨q0, q1, q2, q3⟩ := HF.out _ hb2
    clear HZ hW1
    go_wp2_with fail
    refine Calls.mono (HZ2.out _) ?_
    rintro e w3 ⟨rfl, hb3⟩
    have HE := (show Hid _ from HW.out _ (hb2.trans (hb3.mono hb2.size)))
    clear HZ2 hb2 hb3 q0 q1 q2 q3
    go_wp2
    go_ret
    exact ⟨rfl, HE.out⟩
  have hn3 : len' ≤ 1048576 := by omega
  have hn4 : lb' ≤ 1048576 := by omega
  have hz2 : ¬ szRV s1 len' lb' < 0 := by unfold szRV; rw [if_pos hfit2]; omega
  generalize szRV s1 len' lb' = s2 at HZ2 hz2
  have HC : Hid (∀ W, Below W1.heap.size W1 W → Calls Tryd.prog 6 #[.agg #[.slice a len cap, .slice b lb cb]] W fun e w' => ∃ g gp, e = .returned (.agg #[.slice (some ⟨g, 0, none⟩) len len, .slice (some ⟨gp, 0, none⟩) lb lb]) ∧ Below W.heap.size W w' ∧ NSl w' (some ⟨g, 0, none⟩) len p ∧ NSl w' (some ⟨gp, 0, none⟩) lb q) := fun W hW => copyR_any a b len cap lb cb p q W ((h.keep hb1).keep hW) ((hl.keep hb1).keep hW) hn hn2
  have HD : Hid (∀ W, Below W1.heap.size W1 W → Calls Tryd.prog 6 #[.agg #[.slice a' len' cap', .slice b' lb' cb']] W fun e w' => ∃ g gp, e = .returned (.agg #[.slice (some ⟨g, 0, none⟩) len' len', .slice (some ⟨gp, 0, none⟩) lb' lb']) ∧ Below W.heap.size W w' ∧ NSl w' (some ⟨g, 0, none⟩) len' p' ∧ NSl w' (some ⟨gp, 0, none⟩) lb' q') := fun W hW => copyR_any a' b' len' cap' lb' cb' p' q' W ((h'.keep hb1).keep hW) ((hl'.keep hb1).keep hW) hn3 hn4
  have HSp : Hid (∀ W (g gp g' gp' : Nat), NSl W (some ⟨g, 0, none⟩) len p → NSl W (some ⟨gp, 0, none⟩) lb q → NSl W (some ⟨g', 0, none⟩) len' p' → NSl W (some ⟨gp', 0, none⟩) lb' q' → Calls Tryd.prog 5 #[.agg #[.slice (some ⟨g, 0, none⟩) len len, .slice (some ⟨gp, 0, none⟩) lb lb], .agg #[.slice (some ⟨g', 0, none⟩) len' len', .slice (some ⟨gp', 0, none⟩) lb' lb']] W fun e w' => e = .returned (.tuple #[.bool (sameB8 p q p' q'), .bool (sameOk8 p q p' q')]) ∧ Below W.heap.size W w') := fun W g gp g' gp' h1 h2 h3 h4 => specSame8_any _ _ _ _ len len lb lb len' len' lb' lb' p q p' q' W h1 h2 h3 h4 hm hm2 hm3 hm4
  have HIm : Hid (∀ W (g gp g' gp' : Nat), Tab W → NSl W (some ⟨g, 0, none⟩) len p → NSl W (some ⟨gp, 0, none⟩) lb q → NSl W (some ⟨g', 0, none⟩) len' p' → NSl W (some ⟨gp', 0, none⟩) lb' q' → Calls Tryd.prog 7 #[.agg #[.slice (some ⟨g, 0, none⟩) len len, .slice (some ⟨gp, 0, none⟩) lb lb], .agg #[.slice (some ⟨g', 0, none⟩) len' len', .slice (some ⟨gp', 0, none⟩) lb' lb']] W fun e w' => e = .returned (.tuple #[.bool (sameB8 p q p' q'), .bool (sameOk8 p q p' q')]) ∧ Below W.heap.size W w') := fun W g gp g' gp' h0 h1 h2 h3 h4 => implSame8_any _ _ _ _ len len lb lb len' len' lb' lb' p q p' q' W h0 h1 h2 h3 h4 hm hm2 hm3 hm4
  have HQ : Hid (∀ W (g gp g' gp' : Nat), NSl W (some ⟨g, 0, none⟩) len p → NSl W (some ⟨gp, 0, none⟩) lb q → NSl W (some ⟨g', 0, none⟩) len p → NSl W (some ⟨gp', 0, none⟩) lb q → Calls Tryd.prog 8 #[.agg #[.slice (some ⟨g, 0, none⟩) len len, .slice (some ⟨gp, 0, none⟩) lb lb], .agg #[.slice (some ⟨g', 0, none⟩) len len, .slice (some ⟨gp', 0, none⟩) lb lb]] W fun e w' => e = .returned (.bool true) ∧ Below W.heap.size W w') := fun W g gp g' gp' h1 h2 h3 h4 => eqR_same _ _ _ _ len len len lb lb lb p q W h1 h3 h2 h4 hn hn2
  have HQ2 : Hid (∀ W (g gp g' gp' : Nat), NSl W (some ⟨g, 0, none⟩) len' p' → NSl W (some ⟨gp, 0, none⟩) lb' q' → NSl W (some ⟨g', 0, none⟩) len' p' → NSl W (some ⟨gp', 0, none⟩) lb' q' → Calls Tryd.prog 8 #[.agg #[.slice (some ⟨g, 0, none⟩) len' len', .slice (some ⟨gp, 0, none⟩) lb' lb'], .agg #[.slice (some ⟨g', 0, none⟩) len' len', .slice (some ⟨gp', 0, none⟩) lb' lb']] W fun e w' => e = .returned (.bool true) ∧ Below W.heap.size W w') := fun W g gp g' gp' h1 h2 h3 h4 => eqR_same _ _ _ _ len' len' len' lb' lb' lb' p' q' W h1 h3 h2 h4 hn3 hn4
  generalize sameB8 p q p' q' = V at HSp HIm
  generalize sameOk8 p q p' q' = K at HSp HIm
  have hVV : (V != V) = false := by simp
  have hKK : (K != K) = false := by simp
  clear h hl h' hl' hb1 ht hn hn2 hn3 hn4 hfit hfit2 hs hs1m hs1
  go_enter Tryd.func3, Tryd.ntmps3
  go_wp2_with fail
  (try rw [hW1])
  refine Calls.mono HZ.out ?_
  rintro e w2 ⟨rfl, hb2⟩
  obtain ⟨q0, q1, q2, q3⟩ := HF.out _ hb2
  clear HZ hW1 n0 n1 n2 n3
  go_wp2_with fail
  refine Calls.mono (HZ2.out _) ?_
  rintro e w3 ⟨rfl, hb3⟩
  have HB3 : Hid (Below W1.heap.size W1 w3) := hb2.trans (hb3.mono hb2.size)
  clear HZ2 hb2 hb3 q0 q1 q2 q3
  go_upto_region 8 with fail
  go_cut [6, 7] from 22 to 29 (fun s6 s7 wx => s6 = .bool V ∧ s7 = .bool K ∧ Below W1.heap.size W1 wx)
  case first =>
    have hBd : Below W1.heap.size W1 w3.drew := HB3.out.drew
    obtain ⟨z0, z1, z2, z3⟩ := HF.out _ hBd
    have H24 := (show Hid _ from HC.out _ hBd)
    go_region_with (first
      | (go_at_call 6; first
          | (refine Calls.mono H24.out ?_; rintro e v4 ⟨g, gp, rfl, hb4, hE4, hS4⟩; have hB4 := hBd.trans (hb4.mono hBd.size); obtain ⟨x0, x1, x2, x3⟩ := HF.out _ hB4; have H26 := (show Hid _ from HD.out _ hB4); clear H24)
          | (refine Calls.mono H26.out ?_; rintro e v5 ⟨g', gp', rfl, hb5, hE5, hS5⟩; have hB5 := hB4.trans (hb5.mono hB4.size); have H27 := (show Hid _ from HSp.out v5 _ _ _ _ (hE4.keep hb5) (hS4.keep hb5) hE5 hS5); clear H26))
      | (go_at_call 5; refine Calls.mono H27.out ?_; rintro e v6 ⟨rfl, hb6⟩; have HB6 : Hid (Below W1.heap.size W1 v6) := hB5.trans (hb6.mono hB5.size); clear H27))
    all_goals
      go_wp2_with fail
      go_meet
      exact ⟨rfl, rfl, HB6.out⟩
  case rest =>
  obtain ⟨rfl, rfl, hcw⟩ := hcut
  obtain ⟨w6, hw6⟩ : ∃ w6, w6 = wc := ⟨_, rfl⟩
  subst hw6
  obtain ⟨q0, q1, q2, q3⟩ := HF.out _ hcw
  have HC6 := (show Hid _ from HC.out _ hcw)
  have HB6 := (show Hid _ from hcw)
  clear hcw HB3 HSp
  go_wp2_with fail
  refine Calls.mono HC6.out ?_
  rintro e w7 ⟨g2, gp2, rfl, hb7, hE7, hS7⟩
  obtain ⟨W8, hW8⟩ : ∃ W8, w7.alloc (.cells #[.slice (some ⟨g2, 0, none⟩) len len, .slice (some ⟨gp2, 0, none⟩) lb lb] 30) = W8 := ⟨_, rfl⟩
  have hb8 : Below w7.heap.size w7 W8 := by rw [← hW8]; exact (Below.refl _ _).alloc (Nat.le_refl _) _
  have t0 : W8.cell? ⟨w7.heap.size, 0, none⟩ = some (.slice (some ⟨g2, 0, none⟩) len len) := by rw [← hW8]; simp [go_sem]
  have t1 : W8.cell? ⟨w7.heap.size, 1, none⟩ = some (.slice (some ⟨gp2, 0, none⟩) lb lb) := by rw [← hW8]; simp [go_sem]
  have hs8 : w7.heap.size < W8.heap.size := by rw [← hW8]; simp
  obtain ⟨B8, hB8e⟩ : ∃ B8, w7.heap.size = B8 := ⟨_, rfl⟩
  rw [hB8e] at t0 t1 hs8
  have hB8 : Below W1.heap.size W1 W8 := HB6.out.trans ((hb7.trans (hb8.mono hb7.size)).mono HB6.out.size)
  have HX8 : Hid (∀ W, Below W8.heap.size W8 W → Below W1.heap.size W1 W ∧ W.cell? ⟨B8, 0, none⟩ = some (.slice (some ⟨g2, 0, none⟩) len len) ∧ W.cell? ⟨B8, 1, none⟩ = some (.slice (some ⟨gp2, 0, none⟩) lb lb) ∧ NSl W (some ⟨g2, 0, none⟩) len p ∧ NSl W (some ⟨gp2, 0, none⟩) lb q) := fun W hW => ⟨hB8.trans (hW.mono hB8.size), (hW.cell (p := ⟨B8, 0, none⟩) hs8).trans t0, (hW.cell (p := ⟨B8, 1, none⟩) hs8).trans t1, (hE7.keep hb8).keep hW, (hS7.keep hb8).keep hW⟩
  have HD8 := (show Hid _ from HD.out _ hB8)
  obtain ⟨-, -, x2, x3⟩ := HF.out _ hB8
  clear HC6 hb7 hE7 hS7 hb8 t0 t1 q0 q1 q2 q3 HB6 hB8 hs8
  go_wp2_with fail
  (try rw [hW8])
  (try rw [hB8e])
  refine Calls.mono HD8.out ?_
  rintro e w9 ⟨g3, gp3, rfl, hb9, hE9, hS9⟩
  obtain ⟨W10, hW10⟩ : ∃ W10, w9.alloc (.cells #[.slice (some ⟨g3, 0, none⟩) len' len', .slice (some ⟨gp3, 0, none⟩) lb' lb'] 30) = W10 := ⟨_, rfl⟩
  have hb10 : Below w9.heap.size w9 W10 := by rw [← hW10]; exact (Below.refl _ _).alloc (Nat.le_refl _) _
  have t2 : W10.cell? ⟨w9.heap.size, 0, none⟩ = some (.slice (some ⟨g3, 0, none⟩) len' len') := by rw [← hW10]; simp [go_sem]
  have t3 : W10.cell? ⟨w9.heap.size, 1, none⟩ = some (.slice (some ⟨gp3, 0, none⟩) lb' lb') := by rw [← hW10]; simp [go_sem]
  have hs10 : w9.heap.size < W10.heap.size := by rw [← hW10]; simp
  obtain ⟨B10, hB10e⟩ : ∃ B10, w9.heap.size = B10 := ⟨_, rfl⟩
  rw [hB10e] at t2 t3 hs10
  have hb810 : Below W8.heap.size W8 W10 := hb9.trans (hb10.mono hb9.size)
  have HX10 : Hid (∀ W, Below W10.heap.size W10 W → Below W8.heap.size W8 W ∧ W.cell? ⟨B10, 0, none⟩ = some (.slice (some ⟨g3, 0, none⟩) len' len') ∧ W.cell? ⟨B10, 1, none⟩ = some (.slice (some ⟨gp3, 0, none⟩) lb' lb') ∧ NSl W (some ⟨g3, 0, none⟩) len' p' ∧ NSl W (some ⟨gp3, 0, none⟩) lb' q') := fun W hW => ⟨hb810.trans (hW.mono hb810.size), (hW.cell (p := ⟨B10, 0, none⟩) hs10).trans t2, (hW.cell (p := ⟨B10, 1, none⟩) hs10).trans t3, (hE9.keep hb10).keep hW, (hS9.keep hb10).keep hW⟩
  obtain ⟨h810, c2, c3, c4, c5⟩ := HX10.out _ (Below.refl _ _)
  obtain ⟨h110, d2, d3, d4, d5⟩ := HX8.out _ h810
  have HI10 := (show Hid _ from HIm.out W10 _ _ _ _ (HT.out _ h110) d4 d5 c4 c5)
  clear HD8 hb9 hE9 hS9 hb10 hb810 t2 t3 hs10 x2 x3 h810 h110 d4 d5 c4 c5 hW8 hB8e HIm
  go_wp2_with fail
  (try rw [hW10])
  (try rw [hB10e])
  refine Calls.mono HI10.out ?_
  rintro e w11 ⟨rfl, hb11⟩
  have HB11 : Hid (Below W10.heap.size W10 w11) := hb11
  clear HI10 hb11 hW10 hB10e d2 d3 c2 c3
  go_upto_region 14 with fail
  go_cut [52] from 48 to 52 (fun s wx => s = .bool false ∧ Below W10.heap.size W10 wx)
  case first =>
    have hD : Below W10.heap.size W10 w11.drew := HB11.out.drew
    obtain ⟨h8, -, -, -, -⟩ := HX10.out _ hD
    obtain ⟨h1, d2, d3, d4, d5⟩ := HX8.out _ h8
    obtain ⟨q0, q1, -, -⟩ := HF.out _ h1
    have HC12 := (show Hid _ from HC.out _ h1)
    clear h8 h1 d4 d5
    go_region_with (first
      | (go_at_call 6; refine Calls.mono HC12.out ?_; rintro e v4 ⟨g, gp, rfl, hb4, hE4, hS4⟩; have hD4 := hD.trans (hb4.mono hD.size); obtain ⟨-, x0, x1, x2, x3⟩ := HX8.out _ (HX10.out _ hD4).1; have HQ4 := (show Hid _ from HQ.out v4 _ _ _ _ x2 x3 hE4 hS4); clear HC12 x2 x3 hE4 hS4 hb4)
      | (go_at_call 8; refine Calls.mono HQ4.out ?_; rintro e v5 ⟨rfl, hb5⟩; have HD5 : Hid (Below W10.heap.size W10 v5) := hD4.trans (hb5.mono hD4.size); clear HQ4 hb5))
    all_goals
      go_wp2_with fail
      go_meet
      exact ⟨rfl, HD5.out⟩
  case rest =>
  obtain ⟨rfl, hcw⟩ := hcut
  obtain ⟨w14, hw14⟩ : ∃ w14, w14 = wc := ⟨_, rfl⟩
  subst hw14
  have HB14 := (show Hid _ from hcw)
  clear hcw HB11
  go_upto_region 16 with fail
  go_cut [57] from 53 to 57 (fun s wx => s = .bool false ∧ Below W10.heap.size W10 wx)
  case first =>
    have hD : Below W10.heap.size W10 w14.drew := HB14.out.drew
    obtain ⟨h8, c2, c3, -, -⟩ := HX10.out _ hD
    obtain ⟨h1, -, -, -, -⟩ := HX8.out _ h8
    obtain ⟨-, -, q2, q3⟩ := HF.out _ h1
    have HC12 := (show Hid _ from HD.out _ h1)
    clear h8 h1
    go_region_with (first
      | (go_at_call 6; refine Calls.mono HC12.out ?_; rintro e v4 ⟨g, gp, rfl, hb4, hE4, hS4⟩; have hD4 := hD.trans (hb4.mono hD.size); obtain ⟨-, x0, x1, x2, x3⟩ := HX10.out _ hD4; have HQ4 := (show Hid _ from HQ2.out v4 _ _ _ _ x2 x3 hE4 hS4); clear HC12 x2 x3 hE4 hS4 hb4)
      | (go_at_call 8; refine Calls.mono HQ4.out ?_; rintro e v5 ⟨rfl, hb5⟩; have HD5 : Hid (Below W10.heap.size W10 v5) := hD4.trans (hb5.mono hD4.size); clear HQ4 hb5))
    all_goals
      go_wp2_with fail
      go_meet
      exact ⟨rfl, HD5.out⟩
  case rest =>
  obtain ⟨rfl, hcw⟩ := hcut
  obtain ⟨w16, hw16⟩ : ∃ w16, w16 = wc := ⟨_, rfl⟩
  subst hw16
  have HE := (show Hid _ from HW.out _ (HX8.out _ (HX10.out _ hcw).1).1)
  clear hcw HB14
  go_wp2
  go_ret
  exact ⟨rfl, HE.out⟩
end Go.Proofs.YtkadanagmahhgaaDoor
