/-
  PROVED HERE: the law FnExactChosenIn's own run, at every argument, in a world whose tables of arities and of costs are laid. No other condition.
-/
import Derived.Test.YtmbggaepckgogaaDoorRun24
import Derived.Test.YtmbggaepckgogaaDoorRun27
import Derived.Test.YtmbggaepckgogaaDoorRun12
import Derived.Test.YtmbggaepckgogaaDoorRun17
namespace Go.Proofs.YtmbggaepckgogaaDoor
open Go.ChangeShapes Go.WideShapes Go.ChangeAt Go.RowKit
set_option linter.unusedVariables false

set_option maxHeartbeats 3200000 in
theorem chosenLaw_any (a b : Option Addr) (len cap lb cb : Nat) (p : List EN) (l : List Int) (c : Int) (w : World) (ht : Tab w) (hc : Cst w) (h : ESl w a len p) (hl : Sl w b lb l) (hI : InE p) (hm : len ≤ 9223372036854775807) (hm2 : lb ≤ 9223372036854775807) :
    Calls Tryd.prog 4 #[.agg #[.slice a len cap, .slice b lb cb], .int .i64 c] w fun e w' => e = .returned (.bool true) ∧ Below w.heap.size w w' := by
  obtain ⟨C, hC⟩ := choC_some p l c
  have hll := h.1
  have hl1 := hl.1
  obtain ⟨W1, hW1⟩ : ∃ W1, w.alloc (.cells #[.slice a len cap, .slice b lb cb] 25) = W1 := ⟨_, rfl⟩
  have hb1 : Below w.heap.size w W1 := by rw [← hW1]; exact (Below.refl _ _).alloc (Nat.le_refl _) _
  have n0 : W1.cell? ⟨w.heap.size, 0, none⟩ = some (.slice a len cap) := by rw [← hW1]; simp [go_sem]
  have n1 : W1.cell? ⟨w.heap.size, 1, none⟩ = some (.slice b lb cb) := by rw [← hW1]; simp [go_sem]
  have hs1 : w.heap.size < W1.heap.size := by rw [← hW1]; simp
  have HZ := (show Hid _ from szG_any a b len cap lb cb p l 1048576 W1 (h.keep hb1) (hl.keep hb1) (by omega) hm hm2)
  have HF : Hid (∀ W, Below W1.heap.size W1 W → Below w.heap.size w W) := fun W hW => hb1.trans (hW.mono hb1.size)
  have HT : Hid (∀ W, Below W1.heap.size W1 W → (Tab W ∧ Cst W) ∧ ESl W a len p ∧ Sl W b lb l) := fun W hW => ⟨⟨(ht.keeps hb1).keeps hW, (hc.keeps hb1).keeps hW⟩, (h.keep hb1).keep hW, (hl.keep hb1).keep hW⟩
  rcases szG_all p l with hz | ⟨z0, z1, z2, z3, z4⟩
  · rw [hz] at HZ
    clear h hl hb1 ht hc HT hz hC
    go_enter Tryd.func4, Tryd.ntmps4
    go_wp2_with fail
    (try rw [hW1])
    refine Calls.mono HZ.out ?_
    rintro e w2 ⟨rfl, hb2⟩
    clear HZ hW1
    go_wp2
    go_ret
    exact ⟨rfl, HF.out _ hb2⟩
  · have hz : ¬ szG 1048576 p l < 0 := by omega
    have hn : len ≤ 1048576 := by omega
    have hn2 : lb ≤ 1048576 := by omega
    rw [hll] at z4
    have HC : Hid (∀ W, Below W1.heap.size W1 W → Calls Tryd.prog 8 #[.agg #[.slice a len cap, .slice b lb cb]] W fun e w' => ∃ g gp hi, e = .returned (.agg #[.slice (some ⟨g, 0, none⟩) len len, .slice (some ⟨gp, 0, none⟩) lb lb]) ∧ Below W.heap.size W w' ∧ ESl w' (some ⟨g, 0, none⟩) len p ∧ Sl w' (some ⟨gp, 0, none⟩) lb l) := fun W hW => (copyG_any a b len cap lb cb p l W (HT.out W hW).2.1 (HT.out W hW).2.2 hn z4 hn2).mono fun e w' ⟨g, gp, hi, x1, x2, x3, x4, x5, x6, x7⟩ => ⟨g, gp, hi, x1, x2, x4.esl (fun i hi => by have := z4 i hi; omega), x7⟩
    have HSp : Hid (∀ W (g gp : Nat), ESl W (some ⟨g, 0, none⟩) len p → Sl W (some ⟨gp, 0, none⟩) lb l → Calls Tryd.prog 15 #[.agg #[.slice (some ⟨g, 0, none⟩) len len, .slice (some ⟨gp, 0, none⟩) lb lb], .int .i64 c] W fun e w' => e = .returned (.tuple #[.int .i64 C, .bool (choOk p l c)]) ∧ Below W.heap.size W w') := fun W g gp h1 h2 => specChosen_any _ _ len len lb lb p l c C hC W h1 h2 hm hm2
    have HIm : Hid (∀ W (g gp : Nat), Tab W ∧ Cst W → ESl W (some ⟨g, 0, none⟩) len p → Sl W (some ⟨gp, 0, none⟩) lb l → Calls Tryd.prog 16 #[.agg #[.slice (some ⟨g, 0, none⟩) len len, .slice (some ⟨gp, 0, none⟩) lb lb], .int .i64 c] W fun e w' => e = .returned (.tuple #[.int .i64 C, .bool (choOk p l c)]) ∧ Below W.heap.size W w') := fun W g gp h0 h1 h2 => implChosen_any _ _ len len lb lb p l c C hC W h0.1 h0.2 hI h1 h2 hm hm2
    have HQ : Hid (∀ W (g gp g' gp' : Nat), ESl W (some ⟨g, 0, none⟩) len p → Sl W (some ⟨gp, 0, none⟩) lb l → ESl W (some ⟨g', 0, none⟩) len p → Sl W (some ⟨gp', 0, none⟩) lb l → Calls Tryd.prog 11 #[.agg #[.slice (some ⟨g, 0, none⟩) len len, .slice (some ⟨gp, 0, none⟩) lb lb], .agg #[.slice (some ⟨g', 0, none⟩) len len, .slice (some ⟨gp', 0, none⟩) lb lb]] W fun e w' => e = .returned (.bool true) ∧ Below W.heap.size W w') := fun W g gp g' gp' h1 h2 h3 h4 => eqG_same _ _ _ _ len len len lb lb lb p l W h1 h3 h2 h4 hn z4 hn2
    generalize choOk p l c = B at HSp HIm
    generalize szG 1048576 p l = s at HZ hz
    have hBB : (B != B) = false := by simp
    have hCC : (C != C) = false := by simp
    clear h hl hb1 ht hc hC hll hl1 z0 z1 z2 z3 z4 hn hn2 hI
    go_enter Tryd.func4, Tryd.ntmps4
    go_wp2_with fail
    (try rw [hW1])
    refine Calls.mono HZ.out ?_
    rintro e w2 ⟨rfl, hb2⟩
    have q0 := (hb2.cell (p := ⟨w.heap.size, 0, none⟩) hs1).trans n0
    have q1 := (hb2.cell (p := ⟨w.heap.size, 1, none⟩) hs1).trans n1
    clear HZ hW1
    go_wp2_with fail
    refine Calls.mono (HC.out _ hb2) ?_
    rintro e w3 ⟨g, gp, hi, rfl, hb3, hE3, hS3⟩
    have hB3 : Below W1.heap.size W1 w3 := hb2.trans (hb3.mono hb2.size)
    clear hb3 q0 q1
    go_wp2_with fail
    refine Calls.mono (HSp.out _ _ _ hE3 hS3) ?_
    rintro e w4 ⟨rfl, hb4⟩
    have hB4 : Below W1.heap.size W1 w4 := hB3.trans (hb4.mono hB3.size)
    have q0 := (hB4.cell (p := ⟨w.heap.size, 0, none⟩) hs1).trans n0
    have q1 := (hB4.cell (p := ⟨w.heap.size, 1, none⟩) hs1).trans n1
    clear hb4 hE3 hS3 hB3
    go_wp2_with fail
    refine Calls.mono (HC.out _ hB4) ?_
    rintro e w5 ⟨g2, gp2, hi2, rfl, hb5, hE5, hS5⟩
    have hB5 : Below W1.heap.size W1 w5 := hB4.trans (hb5.mono hB4.size)
    clear hb5 hB4 q0 q1
    obtain ⟨W6, hW6⟩ : ∃ W6, w5.alloc (.cells #[.slice (some ⟨g2, 0, none⟩) len len, .slice (some ⟨gp2, 0, none⟩) lb lb] 31) = W6 := ⟨_, rfl⟩
    have hb6 : Below w5.heap.size w5 W6 := by rw [← hW6]; exact (Below.refl _ _).alloc (Nat.le_refl _) _
    have t0 : W6.cell? ⟨w5.heap.size, 0, none⟩ = some (.slice (some ⟨g2, 0, none⟩) len len) := by rw [← hW6]; simp [go_sem]
    have t1 : W6.cell? ⟨w5.heap.size, 1, none⟩ = some (.slice (some ⟨gp2, 0, none⟩) lb lb) := by rw [← hW6]; simp [go_sem]
    have hs6 : w5.heap.size < W6.heap.size := by rw [← hW6]; simp
    have hB6 : Below W1.heap.size W1 W6 := hB5.trans (hb6.mono hB5.size)
    have hE6 := hE5.keep hb6
    have hS6 := hS5.keep hb6
    have hT6 := (HT.out _ hB6).1
    clear hb6 hB5 hE5 hS5
    go_wp2_with fail
    (try rw [hW6])
    refine Calls.mono (HIm.out _ _ _ hT6 hE6 hS6) ?_
    rintro e w7 ⟨rfl, hb7⟩
    have hb7d : Below W6.heap.size W6 w7.drew := hb7.drew
    have hB7 : Below W1.heap.size W1 w7.drew := hB6.trans (hb7d.mono hB6.size)
    have hE7 := hE6.keep hb7d
    have hS7 := hS6.keep hb7d
    have v0 : w7.drew.cell? ⟨w5.heap.size, 0, none⟩ = some (.slice (some ⟨g2, 0, none⟩) len len) := (hb7d.cell (p := ⟨w5.heap.size, 0, none⟩) hs6).trans t0
    have v1 : w7.drew.cell? ⟨w5.heap.size, 1, none⟩ = some (.slice (some ⟨gp2, 0, none⟩) lb lb) := (hb7d.cell (p := ⟨w5.heap.size, 1, none⟩) hs6).trans t1
    have q0 : w7.drew.cell? ⟨w.heap.size, 0, none⟩ = some (.slice a len cap) := (hB7.cell (p := ⟨w.heap.size, 0, none⟩) hs1).trans n0
    have q1 : w7.drew.cell? ⟨w.heap.size, 1, none⟩ = some (.slice b lb cb) := (hB7.cell (p := ⟨w.heap.size, 1, none⟩) hs1).trans n1
    have hs7 : w5.heap.size < w7.drew.heap.size := Nat.lt_of_lt_of_le hs6 hb7d.size
    have HB7 : Hid (Below W1.heap.size W1 w7.drew) := hB7
    have HE7 : Hid (ESl w7.drew (some ⟨g2, 0, none⟩) len p ∧ Sl w7.drew (some ⟨gp2, 0, none⟩) lb l) := ⟨hE7, hS7⟩
    clear hb7 hb7d hB6 hE6 hS6 hT6 t0 t1 hW6 hs6 hB7 hE7 hS7 HSp HIm
    go_wp2_with fail
    go_region_with (first
      | (go_at_call 8; refine Calls.mono (HC.out _ HB7.out) ?_; rintro e w8 ⟨g3, gp3, hi3, rfl, hb8, hE8, hS8⟩; have hB8 := HB7.out.trans (hb8.mono HB7.out.size); have hE9 := HE7.out.1.keep hb8; have hS9 := HE7.out.2.keep hb8; have x0 := (hb8.cell (p := ⟨w5.heap.size, 0, none⟩) hs7).trans v0; have x1 := (hb8.cell (p := ⟨w5.heap.size, 1, none⟩) hs7).trans v1; clear hb8)
      | (go_at_call 11; refine Calls.mono (HQ.out _ _ _ _ _ hE9 hS9 hE8 hS8) ?_; rintro e w9 ⟨rfl, hb9⟩; have hB9 := hB8.trans (hb9.mono hB8.size); clear hb9))
    all_goals
      have HB9 := (show Hid _ from HF.out _ hB9)
      clear hB9 hB8 hE8 hS8 hE9 hS9
      go_wp2
      go_ret
      exact ⟨rfl, HB9.out⟩
end Go.Proofs.YtmbggaepckgogaaDoor
