/-
  PROVED HERE: the law FnExactHoldsTerm's own run, at every argument, in a world whose table of arities is laid. No other condition.
-/
import Derived.Test.YtemlghfcfploaaaDoorRun28
import Derived.Test.YtemlghfcfploaaaDoorRun29
namespace Go.Proofs.YtemlghfcfploaaaDoor
open Go.ChangeShapes Go.WideShapes Go.ChangeAt Go.RowKit
set_option linter.unusedVariables false

set_option maxHeartbeats 6400000 in
theorem holdsTermLaw_any (a b : Option Addr) (len cap lb cb : Nat) (p : List EN) (l : List Int) (c : Int) (ta : Option Addr) (tl tc : Nat) (t : List (Int × Int)) (w : World) (ht : Tab w) (h : ESl w a len p) (hl : Sl w b lb l) (hI : InE p) (hN : NSl w ta tl t) (hIt : ∀ k, k < t.length → InI (t.getD k (0, 0)).2) (hm : len ≤ 9223372036854775807) (hm2 : lb ≤ 9223372036854775807) (hm3 : tl ≤ 9223372036854775807) :
    Calls Tryd.prog 5 #[.agg #[.slice a len cap, .slice b lb cb], .int .i64 c, .slice ta tl tc] w fun e w' => e = .returned (.bool true) ∧ Below w.heap.size w w' := by
  have hll := h.1
  have hl1 := hl.1
  obtain ⟨W1, hW1⟩ : ∃ W1, w.alloc (.cells #[.slice a len cap, .slice b lb cb] 35) = W1 := ⟨_, rfl⟩
  have hb1 : Below w.heap.size w W1 := by rw [← hW1]; exact (Below.refl _ _).alloc (Nat.le_refl _) _
  have n0 : W1.cell? ⟨w.heap.size, 0, none⟩ = some (.slice a len cap) := by rw [← hW1]; simp [go_sem]
  have n1 : W1.cell? ⟨w.heap.size, 1, none⟩ = some (.slice b lb cb) := by rw [← hW1]; simp [go_sem]
  have hs1 : w.heap.size < W1.heap.size := by rw [← hW1]; simp
  have HZ := (show Hid _ from szG_any a b len cap lb cb p l 1048576 W1 (h.keep hb1) (hl.keep hb1) (by omega) hm hm2)
  have HF : Hid (∀ W, Below W1.heap.size W1 W → Below w.heap.size w W) := fun W hW => hb1.trans (hW.mono hb1.size)
  have HT : Hid (∀ W, Below W1.heap.size W1 W → Tab W ∧ ESl W a len p ∧ Sl W b lb l ∧ NSl W ta tl t) := fun W hW => ⟨(ht.keeps hb1).keeps hW, (h.keep hb1).keep hW, (hl.keep hb1).keep hW, (hN.keep hb1).keep hW⟩
  rcases szG_all p l with hz | ⟨z0, z1, z2, z3, z4⟩
  · rw [hz] at HZ
    clear h hl hb1 ht HT hz hN
    go_enter Tryd.func5, Tryd.ntmps5
    go_wp2_with fail
    (try rw [hW1])
    refine Calls.mono HZ.out ?_
    rintro e w2 ⟨rfl, hb2⟩
    clear HZ hW1
    go_wp2
    go_ret
    exact ⟨rfl, HF.out _ hb2⟩
  · obtain ⟨sN, hsN⟩ : ∃ sN : Nat, szG 1048576 p l = sN := ⟨(szG 1048576 p l).toNat, by omega⟩
    rw [hsN] at HZ z0 z1
    have hz : ¬ (sN : Int) < 0 := by omega
    have hn : len ≤ 1048576 := by omega
    have hn2 : lb ≤ 1048576 := by omega
    rw [hll] at z4
    have HZ2 : Hid (∀ W, Calls Tryd.prog 8 #[.slice ta tl tc, .int .i64 sN] W fun e w' => e = .returned (.int .i64 (if tl ≤ sN then ((sN - tl : Nat) : Int) else -1)) ∧ w' = W) := fun W => sz_any ta tl tc sN W (by omega) hm3
    by_cases htn : tl ≤ sN
    · rw [if_pos htn] at HZ2
      obtain ⟨s2, hs2⟩ : ∃ s2 : Nat, sN - tl = s2 := ⟨_, rfl⟩
      rw [hs2] at HZ2
      have hz2 : ¬ (s2 : Int) < 0 := by omega
      have htm : tl ≤ 1048576 := by omega
      have HC : Hid (∀ W, Below W1.heap.size W1 W → Calls Tryd.prog 15 #[.agg #[.slice a len cap, .slice b lb cb]] W fun e w' => ∃ g gp, e = .returned (.agg #[.slice (some ⟨g, 0, none⟩) len len, .slice (some ⟨gp, 0, none⟩) lb lb]) ∧ Below W.heap.size W w' ∧ ESl w' (some ⟨g, 0, none⟩) len p ∧ Sl w' (some ⟨gp, 0, none⟩) lb l) := fun W hW => (copyG_any a b len cap lb cb p l W (HT.out W hW).2.1 (HT.out W hW).2.2.1 hn z4 hn2).mono fun e w' ⟨g, gp, hi, r1, r2, _, r4, _, _, r7⟩ => ⟨g, gp, r1, r2, r4.esl (fun i hi => by have := z4 i hi; omega), r7⟩
      have HCN : Hid (∀ W, Below W1.heap.size W1 W → Calls Tryd.prog 10 #[.slice ta tl tc] W fun e w' => e = .returned (.slice (some ⟨W.heap.size, 0, none⟩) tl tl) ∧ Below W.heap.size W w' ∧ NSl w' (some ⟨W.heap.size, 0, none⟩) tl t) := fun W hW => copyN_any ta tl tc t W (HT.out W hW).2.2.2 htm
      have HSp : Hid (∀ W (g gp gt : Nat), ESl W (some ⟨g, 0, none⟩) len p → Sl W (some ⟨gp, 0, none⟩) lb l → NSl W (some ⟨gt, 0, none⟩) tl t → Calls Tryd.prog 14 #[.agg #[.slice (some ⟨g, 0, none⟩) len len, .slice (some ⟨gp, 0, none⟩) lb lb], .int .i64 c, .slice (some ⟨gt, 0, none⟩) tl tl] W fun e w' => e = .returned (.tuple #[.bool (holdsR p l c t), .bool (holdsOk p l c t)]) ∧ Below W.heap.size W w') := fun W g gp gt h1 h2 h3 => specHolds_any _ _ len len lb lb p l c _ tl tl t W h1 h2 h3 hm hm2 hm3
      have HIm : Hid (∀ W (g gp gt : Nat), Tab W → ESl W (some ⟨g, 0, none⟩) len p → Sl W (some ⟨gp, 0, none⟩) lb l → NSl W (some ⟨gt, 0, none⟩) tl t → Calls Tryd.prog 16 #[.agg #[.slice (some ⟨g, 0, none⟩) len len, .slice (some ⟨gp, 0, none⟩) lb lb], .int .i64 c, .slice (some ⟨gt, 0, none⟩) tl tl] W fun e w' => e = .returned (.tuple #[.bool (holdsR p l c t), .bool (holdsOk p l c t)]) ∧ Below W.heap.size W w') := fun W g gp gt h0 h1 h2 h3 => implHolds_any _ _ len len lb lb p l c _ tl tl t W h0 h1 h2 h3 hI hIt hm hm2 hm3
      have HQ : Hid (∀ W (g gp g' gp' : Nat), ESl W (some ⟨g, 0, none⟩) len p → Sl W (some ⟨gp, 0, none⟩) lb l → ESl W (some ⟨g', 0, none⟩) len p → Sl W (some ⟨gp', 0, none⟩) lb l → Calls Tryd.prog 17 #[.agg #[.slice (some ⟨g, 0, none⟩) len len, .slice (some ⟨gp, 0, none⟩) lb lb], .agg #[.slice (some ⟨g', 0, none⟩) len len, .slice (some ⟨gp', 0, none⟩) lb lb]] W fun e w' => e = .returned (.bool true) ∧ Below W.heap.size W w') := fun W g gp g' gp' h1 h2 h3 h4 => eqG_same _ _ _ _ len len len lb lb lb p l W h1 h3 h2 h4 hn z4 hn2
      have HQN : Hid (∀ W (g g' : Nat), NSl W (some ⟨g, 0, none⟩) tl t → NSl W (some ⟨g', 0, none⟩) tl t → Calls Tryd.prog 12 #[.slice (some ⟨g, 0, none⟩) tl tl, .slice (some ⟨g', 0, none⟩) tl tl] W fun e w' => e = .returned (.bool true) ∧ Below W.heap.size W w') := fun W g g' h1 h2 => eqN_same _ _ tl tl tl t W h1 h2 htm
      generalize holdsR p l c t = C at HSp HIm
      generalize holdsOk p l c t = B at HSp HIm
      have hBB : (B != B) = false := by simp
      have hCC : (C != C) = false := by simp
      clear h hl hb1 ht hll hl1 z0 z1 z2 z3 z4 hn hn2 hI hN hIt hsN htn hs2 htm
      go_enter Tryd.func5, Tryd.ntmps5
      go_wp2_with fail
      (try rw [hW1])
      refine Calls.mono HZ.out ?_
      rintro e w2 ⟨rfl, hb2⟩
      have q0 := (hb2.cell (p := ⟨w.heap.size, 0, none⟩) hs1).trans n0
      have q1 := (hb2.cell (p := ⟨w.heap.size, 1, none⟩) hs1).trans n1
      clear HZ hW1
      go_wp2_with fail
      refine Calls.mono (HZ2.out _) ?_
      rintro e w2' ⟨rfl, rfl⟩
      clear HZ2
      go_wp2_with fail
      refine Calls.mono (HC.out _ hb2) ?_
      rintro e w3 ⟨g, gp, rfl, hb3, hE3, hS3⟩
      have hB3 : Below W1.heap.size W1 w3 := hb2.trans (hb3.mono hb2.size)
      clear hb3 q0 q1 hb2
      go_wp2_with fail
      refine Calls.mono (HCN.out _ hB3) ?_
      rintro e w4 ⟨rfl, hb4, hN4⟩
      have hB4 : Below W1.heap.size W1 w4 := hB3.trans (hb4.mono hB3.size)
      have hE4 := hE3.keep hb4
      have hS4 := hS3.keep hb4
      clear hb4 hE3 hS3 hB3
      go_wp2_with fail
      refine Calls.mono (HSp.out _ _ _ _ hE4 hS4 hN4) ?_
      rintro e w5 ⟨rfl, hb5⟩
      have hB5 : Below W1.heap.size W1 w5 := hB4.trans (hb5.mono hB4.size)
      have q0 := (hB5.cell (p := ⟨w.heap.size, 0, none⟩) hs1).trans n0
      have q1 := (hB5.cell (p := ⟨w.heap.size, 1, none⟩) hs1).trans n1
      clear hb5 hE4 hS4 hN4 hB4
      go_wp2_with fail
      refine Calls.mono (HC.out _ hB5) ?_
      rintro e w6 ⟨g2, gp2, rfl, hb6, hE6, hS6⟩
      have hB6 : Below W1.heap.size W1 w6 := hB5.trans (hb6.mono hB5.size)
      clear hb6 hB5 q0 q1
      obtain ⟨W7, hW7⟩ : ∃ W7, w6.alloc (.cells #[.slice (some ⟨g2, 0, none⟩) len len, .slice (some ⟨gp2, 0, none⟩) lb lb] 41) = W7 := ⟨_, rfl⟩
      have hb7 : Below w6.heap.size w6 W7 := by rw [← hW7]; exact (Below.refl _ _).alloc (Nat.le_refl _) _
      have t0 : W7.cell? ⟨w6.heap.size, 0, none⟩ = some (.slice (some ⟨g2, 0, none⟩) len len) := by rw [← hW7]; simp [go_sem]
      have t1 : W7.cell? ⟨w6.heap.size, 1, none⟩ = some (.slice (some ⟨gp2, 0, none⟩) lb lb) := by rw [← hW7]; simp [go_sem]
      have hs7 : w6.heap.size < W7.heap.size := by rw [← hW7]; simp
      have hB7 : Below W1.heap.size W1 W7 := hB6.trans (hb7.mono hB6.size)
      have hE7 := hE6.keep hb7
      have hS7 := hS6.keep hb7
      obtain ⟨B8, hB8⟩ : ∃ B8, w6.heap.size = B8 := ⟨_, rfl⟩
      rw [hB8] at t0 t1 hs7
      clear hb7 hB6 hE6 hS6
      go_wp2_with fail
      (try rw [hW7])
      (try rw [hB8])
      refine Calls.mono (HCN.out _ hB7) ?_
      rintro e w8 ⟨rfl, hb8, hN8⟩
      have hB8' : Below W1.heap.size W1 w8 := hB7.trans (hb8.mono hB7.size)
      have hE8 := hE7.keep hb8
      have hS8 := hS7.keep hb8
      have v0 := (hb8.cell (p := ⟨B8, 0, none⟩) hs7).trans t0
      have v1 := (hb8.cell (p := ⟨B8, 1, none⟩) hs7).trans t1
      have hs8 := Nat.lt_of_lt_of_le hs7 hb8.size
      have hT8 := (HT.out _ hB8').1
      clear hb8 hB7 hE7 hS7 t0 t1 hW7 hB8 hs7
      go_wp2_with fail
      refine Calls.mono (HIm.out _ _ _ _ hT8 hE8 hS8 hN8) ?_
      rintro e w9 ⟨rfl, hb9⟩
      have hb9d : Below w8.heap.size w8 w9.drew := hb9.drew
      have hB9 : Below W1.heap.size W1 w9.drew := hB8'.trans (hb9d.mono hB8'.size)
      have hE9 := hE8.keep hb9d
      have hS9 := hS8.keep hb9d
      have hN9 := hN8.keep hb9d
      have x0 : w9.drew.cell? ⟨B8, 0, none⟩ = some (.slice (some ⟨g2, 0, none⟩) len len) := (hb9d.cell (p := ⟨B8, 0, none⟩) hs8).trans v0
      have x1 : w9.drew.cell? ⟨B8, 1, none⟩ = some (.slice (some ⟨gp2, 0, none⟩) lb lb) := (hb9d.cell (p := ⟨B8, 1, none⟩) hs8).trans v1
      have q0 : w9.drew.cell? ⟨w.heap.size, 0, none⟩ = some (.slice a len cap) := (hB9.cell (p := ⟨w.heap.size, 0, none⟩) hs1).trans n0
      have q1 : w9.drew.cell? ⟨w.heap.size, 1, none⟩ = some (.slice b lb cb) := (hB9.cell (p := ⟨w.heap.size, 1, none⟩) hs1).trans n1
      have hs9 : B8 < w9.drew.heap.size := Nat.lt_of_lt_of_le hs8 hb9d.size
      have HB9 : Hid (Below W1.heap.size W1 w9.drew) := hB9
      have HE9 : Hid (ESl w9.drew (some ⟨g2, 0, none⟩) len p ∧ Sl w9.drew (some ⟨gp2, 0, none⟩) lb l) := ⟨hE9, hS9⟩
      obtain ⟨gt, hgt⟩ : ∃ gt, W7.heap.size = gt := ⟨_, rfl⟩
      rw [hgt] at hN9
      have HN9 : Hid (NSl w9.drew (some ⟨gt, 0, none⟩) tl t) := hN9
      clear hb9 hb9d hB8' hE8 hS8 hN8 hT8 v0 v1 hs8 hB9 hE9 hS9 hN9 HSp HIm
      go_wp2_with fail
      (try rw [hgt])
      clear hgt
      go_region_with (first
        | (go_at_call 15; refine Calls.mono (HC.out _ HB9.out) ?_; rintro e wa ⟨g3, gp3, rfl, hba, hEa, hSa⟩; have hBa := HB9.out.trans (hba.mono HB9.out.size); have hE10 := HE9.out.1.keep hba; have hS10 := HE9.out.2.keep hba; have hN10 := NSl.keep HN9.out hba; have y0 := (hba.cell (p := ⟨B8, 0, none⟩) hs9).trans x0; have y1 := (hba.cell (p := ⟨B8, 1, none⟩) hs9).trans x1; clear hba)
        | (go_at_call 17; refine Calls.mono (HQ.out _ _ _ _ _ hE10 hS10 hEa hSa) ?_; rintro e wb ⟨rfl, hbb⟩; have hBb := hBa.trans (hbb.mono hBa.size); have hN11 := NSl.keep hN10 hbb; clear hbb))
      all_goals
        have HBb := (show Hid _ from hBb)
        have HN11 : Hid (NSl wb (some ⟨gt, 0, none⟩) tl t) := hN11
        have HCNb := (show Hid _ from HCN.out wb hBb)
        clear hBb hBa hEa hSa hE10 hS10 hN10 hN11 HC HCN HQ y0 y1 q0 q1 x0 x1 HE9 HN9
        go_wp2_with fail
        refine Calls.mono HCNb.out ?_
        rintro e wc ⟨rfl, hbc, hNc⟩
        have HQc := (show Hid _ from HQN.out wc _ _ (NSl.keep HN11.out hbc) hNc)
        have HBc := (show Hid _ from HBb.out.trans (hbc.mono HBb.out.size))
        clear HCNb HQN hNc HN11 HBb hbc
        go_wp2_with fail
        refine Calls.mono HQc.out ?_
        rintro e wd ⟨rfl, hbd⟩
        have HE := (show Hid _ from HF.out _ (HBc.out.trans (hbd.mono HBc.out.size)))
        clear HQc HBc hbd
        go_wp2
        go_ret
        exact ⟨rfl, HE.out⟩
    · rw [if_neg htn] at HZ2
      clear h hl hb1 ht hll hl1 z0 z1 z2 z3 z4 hn hn2 hI hN hIt hsN htn HT
      go_enter Tryd.func5, Tryd.ntmps5
      go_wp2_with fail
      (try rw [hW1])
      refine Calls.mono HZ.out ?_
      rintro e w2 ⟨rfl, hb2⟩
      clear HZ hW1
      go_wp2_with fail
      refine Calls.mono (HZ2.out _) ?_
      rintro e w2' ⟨rfl, rfl⟩
      clear HZ2
      go_wp2
      go_ret
      exact ⟨rfl, HF.out _ hb2⟩
end Go.Proofs.YtemlghfcfploaaaDoor
