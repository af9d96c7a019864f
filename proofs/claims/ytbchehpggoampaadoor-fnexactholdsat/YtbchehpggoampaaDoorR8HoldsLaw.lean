/-
  PROVED HERE: the law FnExactHoldsAt's own run, at every argument, in a world whose table of arities is laid. No other condition.
-/
import Derived.Test.YtbchehpggoampaaDoorR8Copy
import Derived.Test.YtbchehpggoampaaDoorR8Holds
namespace Go.Proofs.YtbchehpggoampaaDoor
open Go.ChangeShapes Go.WideShapes Go.ChangeAt Go.RowKit
set_option linter.unusedVariables false

set_option maxHeartbeats 3200000 in
theorem holdsLaw_any (a b v : Option Addr) (len cap lb cb lv cv : Nat) (p q : List (Int × Int)) (env : List Int) (w : World) (ht : Tab w) (h : NSl w a len p) (hl : NSl w b lb q) (hv : Sl w v lv env) (hm : len ≤ 9223372036854775807) (hm2 : lb ≤ 9223372036854775807) (hm3 : lv ≤ 9223372036854775807) :
    Calls Tryd.prog 8 #[.agg #[.slice a len cap, .slice b lb cb], .slice v lv cv] w fun e w' => e = .returned (.bool true) ∧ Below w.heap.size w w' := by
  obtain ⟨W1, hW1⟩ : ∃ W1, w.alloc (.cells #[.slice a len cap, .slice b lb cb] 24) = W1 := ⟨_, rfl⟩
  have hb1 : Below w.heap.size w W1 := by rw [← hW1]; exact (Below.refl _ _).alloc (Nat.le_refl _) _
  have n0 : W1.cell? ⟨w.heap.size, 0, none⟩ = some (.slice a len cap) := by rw [← hW1]; simp [go_sem]
  have n1 : W1.cell? ⟨w.heap.size, 1, none⟩ = some (.slice b lb cb) := by rw [← hW1]; simp [go_sem]
  have hs1 : w.heap.size < W1.heap.size := by rw [← hW1]; simp
  have HZ := (show Hid _ from szR_any a b len cap lb cb 1048576 W1 (Nat.le_refl _) hm hm2)
  have HF : Hid (∀ W, Below W1.heap.size W1 W → Below w.heap.size w W) := fun W hW => hb1.trans (hW.mono hb1.size)
  have HT : Hid (∀ W, Below W1.heap.size W1 W → Tab W ∧ NSl W a len p ∧ NSl W b lb q ∧ Sl W v lv env) := fun W hW => ⟨(ht.keeps hb1).keeps hW, (h.keep hb1).keep hW, (hl.keep hb1).keep hW, (hv.keep hb1).keep hW⟩
  by_cases hbig : lv ≤ 1048576
  · have hbi : ¬ (1048576 : Int) < lv := by omega
    by_cases hfit : len + lb ≤ 1048576
    · have hz : ¬ szRV 1048576 len lb < 0 := by unfold szRV; rw [if_pos hfit]; omega
      have hn : len ≤ 1048576 := by omega
      have hn2 : lb ≤ 1048576 := by omega
      have HC : Hid (∀ W, Below W1.heap.size W1 W → Calls Tryd.prog 11 #[.agg #[.slice a len cap, .slice b lb cb]] W fun e w' => ∃ g gp, e = .returned (.agg #[.slice (some ⟨g, 0, none⟩) len len, .slice (some ⟨gp, 0, none⟩) lb lb]) ∧ Below W.heap.size W w' ∧ NSl w' (some ⟨g, 0, none⟩) len p ∧ NSl w' (some ⟨gp, 0, none⟩) lb q) := fun W hW => copyR_any a b len cap lb cb p q W (HT.out W hW).2.1 (HT.out W hW).2.2.1 hn hn2
      have HD : Hid (∀ W, Below W1.heap.size W1 W → Calls Tryd.prog 28 #[.slice v lv cv] W fun e w' => e = .returned (.slice (some ⟨W.heap.size, 0, none⟩) lv lv) ∧ Below W.heap.size W w' ∧ Sl w' (some ⟨W.heap.size, 0, none⟩) lv env) := fun W hW => copy_any v lv cv env W (HT.out W hW).2.2.2 hbig
      have HSp : Hid (∀ W (g gp gv : Nat), NSl W (some ⟨g, 0, none⟩) len p → NSl W (some ⟨gp, 0, none⟩) lb q → Sl W (some ⟨gv, 0, none⟩) lv env → Calls Tryd.prog 27 #[.agg #[.slice (some ⟨g, 0, none⟩) len len, .slice (some ⟨gp, 0, none⟩) lb lb], .slice (some ⟨gv, 0, none⟩) lv lv] W fun e w' => e = .returned (.tuple #[.bool (holdsB p q env), .bool (holdsOk p q env)]) ∧ Below W.heap.size W w') := fun W g gp gv h1 h2 h3 => specHolds_any _ _ _ len len lb lb lv lv p q env W h1 h2 h3 hm hm2 hm3
      have HIm : Hid (∀ W (g gp gv : Nat), Tab W → NSl W (some ⟨g, 0, none⟩) len p → NSl W (some ⟨gp, 0, none⟩) lb q → Sl W (some ⟨gv, 0, none⟩) lv env → Calls Tryd.prog 29 #[.agg #[.slice (some ⟨g, 0, none⟩) len len, .slice (some ⟨gp, 0, none⟩) lb lb], .slice (some ⟨gv, 0, none⟩) lv lv] W fun e w' => e = .returned (.tuple #[.bool (holdsB p q env), .bool (holdsOk p q env)]) ∧ Below W.heap.size W w') := fun W g gp gv h0 h1 h2 h3 => implHolds_any _ _ _ len len lb lb lv lv p q env W h0 h1 h2 h3 hm hm2 hm3
      have HQ : Hid (∀ W (g gp g' gp' : Nat), NSl W (some ⟨g, 0, none⟩) len p → NSl W (some ⟨gp, 0, none⟩) lb q → NSl W (some ⟨g', 0, none⟩) len p → NSl W (some ⟨gp', 0, none⟩) lb q → Calls Tryd.prog 13 #[.agg #[.slice (some ⟨g, 0, none⟩) len len, .slice (some ⟨gp, 0, none⟩) lb lb], .agg #[.slice (some ⟨g', 0, none⟩) len len, .slice (some ⟨gp', 0, none⟩) lb lb]] W fun e w' => e = .returned (.bool true) ∧ Below W.heap.size W w') := fun W g gp g' gp' h1 h2 h3 h4 => eqR_same _ _ _ _ len len len lb lb lb p q W h1 h3 h2 h4 hn hn2
      have HV : Hid (∀ W (g g' : Nat), Sl W (some ⟨g, 0, none⟩) lv env → Sl W (some ⟨g', 0, none⟩) lv env → Calls Tryd.prog 30 #[.slice (some ⟨g, 0, none⟩) lv lv, .slice (some ⟨g', 0, none⟩) lv lv] W fun e w' => e = .returned (.bool true) ∧ Below W.heap.size W w') := fun W g g' h1 h2 => eq_same _ _ lv lv lv env W h1 h2 hbig
      generalize holdsB p q env = B at HSp HIm
      generalize holdsOk p q env = K at HSp HIm
      generalize szRV 1048576 len lb = s at HZ hz
      have hBB : (B != B) = false := by simp
      have hKK : (K != K) = false := by simp
      clear h hl hv hb1 ht hn hn2 hfit hbig
      go_enter Tryd.func8, Tryd.ntmps8
      go_wp2_with fail
      (try rw [hW1])
      refine Calls.mono HZ.out ?_
      rintro e w2 ⟨rfl, hb2⟩
      have q0 := (hb2.cell (p := ⟨w.heap.size, 0, none⟩) hs1).trans n0
      have q1 := (hb2.cell (p := ⟨w.heap.size, 1, none⟩) hs1).trans n1
      clear HZ hW1
      go_wp2_with fail
      refine Calls.mono (HC.out _ hb2) ?_
      rintro e w3 ⟨g, gp, rfl, hb3, hE3, hS3⟩
      have hB3 : Below W1.heap.size W1 w3 := hb2.trans (hb3.mono hb2.size)
      clear hb3 q0 q1
      go_wp2_with fail
      refine Calls.mono (HD.out _ hB3) ?_
      rintro e w3v ⟨rfl, hb3v, hv3⟩
      have hB3v : Below W1.heap.size W1 w3v := hB3.trans (hb3v.mono hB3.size)
      have hE3v := hE3.keep hb3v
      have hS3v := hS3.keep hb3v
      clear hb3v hE3 hS3
      go_wp2_with fail
      refine Calls.mono (HSp.out _ _ _ _ hE3v hS3v hv3) ?_
      rintro e w4 ⟨rfl, hb4⟩
      have hB4 : Below W1.heap.size W1 w4 := hB3v.trans (hb4.mono hB3v.size)
      have q0 := (hB4.cell (p := ⟨w.heap.size, 0, none⟩) hs1).trans n0
      have q1 := (hB4.cell (p := ⟨w.heap.size, 1, none⟩) hs1).trans n1
      clear hb4 hE3v hS3v hv3 hB3 hB3v
      go_wp2_with fail
      refine Calls.mono (HC.out _ hB4) ?_
      rintro e w5 ⟨g2, gp2, rfl, hb5, hE5, hS5⟩
      have hB5 : Below W1.heap.size W1 w5 := hB4.trans (hb5.mono hB4.size)
      clear hb5 hB4 q0 q1
      obtain ⟨W6, hW6⟩ : ∃ W6, w5.alloc (.cells #[.slice (some ⟨g2, 0, none⟩) len len, .slice (some ⟨gp2, 0, none⟩) lb lb] 29) = W6 := ⟨_, rfl⟩
      have hb6 : Below w5.heap.size w5 W6 := by rw [← hW6]; exact (Below.refl _ _).alloc (Nat.le_refl _) _
      have t0 : W6.cell? ⟨w5.heap.size, 0, none⟩ = some (.slice (some ⟨g2, 0, none⟩) len len) := by rw [← hW6]; simp [go_sem]
      have t1 : W6.cell? ⟨w5.heap.size, 1, none⟩ = some (.slice (some ⟨gp2, 0, none⟩) lb lb) := by rw [← hW6]; simp [go_sem]
      have hs6 : w5.heap.size < W6.heap.size := by rw [← hW6]; simp
      have hB6 : Below W1.heap.size W1 W6 := hB5.trans (hb6.mono hB5.size)
      have hE6 := hE5.keep hb6
      have hS6 := hS5.keep hb6
      clear hb6 hB5 hE5 hS5
      go_wp2_with fail
      (try rw [hW6])
      refine Calls.mono (HD.out _ hB6) ?_
      rintro e w6v ⟨rfl, hb6v, hv6⟩
      obtain ⟨gv, hgv⟩ : ∃ gv, W6.heap.size = gv := ⟨_, rfl⟩
      have hB6v : Below W1.heap.size W1 w6v := hB6.trans (hb6v.mono hB6.size)
      have hE6v := hE6.keep hb6v
      have hS6v := hS6.keep hb6v
      have u0 := (hb6v.cell (p := ⟨w5.heap.size, 0, none⟩) hs6).trans t0
      have u1 := (hb6v.cell (p := ⟨w5.heap.size, 1, none⟩) hs6).trans t1
      have hs6v : w5.heap.size < w6v.heap.size := Nat.lt_of_lt_of_le hs6 hb6v.size
      have hT6 := (HT.out _ hB6v).1
      rw [hgv] at hv6 ⊢
      clear hb6v hB6 hE6 hS6 t0 t1 hW6 hs6 hgv
      go_wp2_with fail
      refine Calls.mono (HIm.out _ _ _ _ hT6 hE6v hS6v hv6) ?_
      rintro e w7 ⟨rfl, hb7⟩
      have hb7d : Below w6v.heap.size w6v w7.drew := hb7.drew
      have hB7 : Below W1.heap.size W1 w7.drew := hB6v.trans (hb7d.mono hB6v.size)
      have hE7 := hE6v.keep hb7d
      have hS7 := hS6v.keep hb7d
      have hv7 := hv6.keep hb7d
      have v0 : w7.drew.cell? ⟨w5.heap.size, 0, none⟩ = some (.slice (some ⟨g2, 0, none⟩) len len) := (hb7d.cell (p := ⟨w5.heap.size, 0, none⟩) hs6v).trans u0
      have v1 : w7.drew.cell? ⟨w5.heap.size, 1, none⟩ = some (.slice (some ⟨gp2, 0, none⟩) lb lb) := (hb7d.cell (p := ⟨w5.heap.size, 1, none⟩) hs6v).trans u1
      have q0 : w7.drew.cell? ⟨w.heap.size, 0, none⟩ = some (.slice a len cap) := (hB7.cell (p := ⟨w.heap.size, 0, none⟩) hs1).trans n0
      have q1 : w7.drew.cell? ⟨w.heap.size, 1, none⟩ = some (.slice b lb cb) := (hB7.cell (p := ⟨w.heap.size, 1, none⟩) hs1).trans n1
      have hs7 : w5.heap.size < w7.drew.heap.size := Nat.lt_of_lt_of_le hs6v hb7d.size
      have HB7 : Hid (Below W1.heap.size W1 w7.drew) := hB7
      have HE7 : Hid (NSl w7.drew (some ⟨g2, 0, none⟩) len p ∧ NSl w7.drew (some ⟨gp2, 0, none⟩) lb q ∧ Sl w7.drew (some ⟨gv, 0, none⟩) lv env) := ⟨hE7, hS7, hv7⟩
      clear hb7 hb7d hB6v hE6v hS6v hv6 hT6 u0 u1 hs6v hB7 hE7 hS7 hv7 HSp HIm
      go_wp2_with fail
      go_region_with (first
        | (go_at_call 11; refine Calls.mono (HC.out _ HB7.out) ?_; rintro e w8 ⟨g3, gp3, rfl, hb8, hE8, hS8⟩; have hB8 := HB7.out.trans (hb8.mono HB7.out.size); have hE9 := HE7.out.1.keep hb8; have hS9 := HE7.out.2.1.keep hb8; have hv8 := HE7.out.2.2.keep hb8; have x0 := (hb8.cell (p := ⟨w5.heap.size, 0, none⟩) hs7).trans v0; have x1 := (hb8.cell (p := ⟨w5.heap.size, 1, none⟩) hs7).trans v1; clear hb8)
        | (go_at_call 13; refine Calls.mono (HQ.out _ _ _ _ _ hE9 hS9 hE8 hS8) ?_; rintro e w9 ⟨rfl, hb9⟩; have hB9 := hB8.trans (hb9.mono hB8.size); have hv9 := hv8.keep hb9; clear hb9))
      all_goals
        have HB9 := (show Hid _ from hB9)
        have HV9 : Hid (Sl _ (some ⟨gv, 0, none⟩) lv env) := hv9
        clear hB9 hB8 hE8 hS8 hE9 hS9 hv8 hv9
        go_wp2_with fail
        refine Calls.mono (HD.out _ HB9.out) ?_
        rintro e w10 ⟨rfl, hb10, hv10⟩
        have hB10 := HB9.out.trans (hb10.mono HB9.out.size)
        have hv10' := HV9.out.keep hb10
        clear hb10
        go_wp2_with fail
        refine Calls.mono (HV.out _ _ _ hv10' hv10) ?_
        rintro e w11 ⟨rfl, hb11⟩
        have HB11 := (show Hid _ from HF.out _ (hB10.trans (hb11.mono hB10.size)))
        clear hb11 hB10 hv10 hv10'
        go_wp2
        go_ret
        exact ⟨rfl, HB11.out⟩
    · have hz : szRV 1048576 len lb = -1 := by unfold szRV; rw [if_neg hfit]
      rw [hz] at HZ
      clear h hl hv hb1 ht HT hz hfit
      go_enter Tryd.func8, Tryd.ntmps8
      go_wp2_with fail
      (try rw [hW1])
      refine Calls.mono HZ.out ?_
      rintro e w2 ⟨rfl, hb2⟩
      clear HZ hW1
      go_wp2
      go_ret
      exact ⟨rfl, HF.out _ hb2⟩
  · have hbi : (1048576 : Int) < lv := by omega
    have HB : Hid (Below w.heap.size w W1) := hb1
    clear h hl hv hb1 ht HT HZ
    go_enter Tryd.func8, Tryd.ntmps8
    go_wp2
    go_ret
    exact ⟨rfl, by first | exact HB.out | (rw [hW1]; exact HB.out)⟩
end Go.Proofs.YtbchehpggoampaaDoor
