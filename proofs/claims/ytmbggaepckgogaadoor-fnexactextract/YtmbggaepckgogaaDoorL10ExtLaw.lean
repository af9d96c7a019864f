/-
  PROVED HERE: the law FnExactExtract's own run, at every argument, in a world whose tables of arities and of costs are laid. No other condition.
-/
import Derived.Test.YtmbggaepckgogaaDoorRun27
import Derived.Test.YtmbggaepckgogaaDoorRun28
import Derived.Test.YtmbggaepckgogaaDoorRun30
import Derived.Test.YtmbggaepckgogaaDoorRun33
import Derived.Test.YtmbggaepckgogaaDoorRun13
import Derived.Test.YtmbggaepckgogaaDoorRow
namespace Go.Proofs.YtmbggaepckgogaaDoor
open Go.ChangeShapes Go.WideShapes Go.ChangeAt Go.RowKit
set_option linter.unusedVariables false

set_option maxHeartbeats 6400000 in
theorem extractLaw_any (a b : Option Addr) (len cap lb cb : Nat) (p : List EN) (l : List Int) (k : Int) (w : World) (ht : Tab w) (hc : Cst w) (h : ESl w a len p) (hl : Sl w b lb l) (hI : InE p) (hm : len ≤ 9223372036854775807) (hm2 : lb ≤ 9223372036854775807) :
    Calls Tryd.prog 5 #[.agg #[.slice a len cap, .slice b lb cb], .int .i64 k] w fun e w' => e = .returned (.bool true) ∧ Below w.heap.size w w' := by
  obtain ⟨T, hC⟩ := extC_some p l k
  have hll := h.1
  have hl1 := hl.1
  obtain ⟨W1, hW1⟩ : ∃ W1, w.alloc (.cells #[.slice a len cap, .slice b lb cb] 25) = W1 := ⟨_, rfl⟩
  have hb1 : Below w.heap.size w W1 := by rw [← hW1]; exact (Below.refl _ _).alloc (Nat.le_refl _) _
  have n0 : W1.cell? ⟨w.heap.size, 0, none⟩ = some (.slice a len cap) := by rw [← hW1]; simp [go_sem]
  have n1 : W1.cell? ⟨w.heap.size, 1, none⟩ = some (.slice b lb cb) := by rw [← hW1]; simp [go_sem]
  have hs1 : w.heap.size < W1.heap.size := by rw [← hW1]; simp
  have HZ := (show Hid _ from szG_any a b len cap lb cb p l 1048576 W1 (h.keep hb1) (hl.keep hb1) (by omega) hm hm2)
  have HF : Hid (∀ W, Below W1.heap.size W1 W → Below w.heap.size w W) := fun W hW => hb1.trans (hW.mono hb1.size)
  have HT : Hid (∀ W, Below W1.heap.size W1 W → (Tab W ∧ Cst W) ∧ ESl W a len p ∧ Sl W b lb l) := fun W hW => ⟨⟨(ht.keeps hb1).keeps hW, (hc.keeps hb1).keeps hW⟩, (h.keep hb1).keep hW, (hl.keep hb1).keep hW⟩
  rcases szG_all p l with hz | ⟨z0, z1, z2, z3, z4⟩
  · rw [hz] at HZ
    clear h hl hb1 ht hc HT hz hC
    go_enter Tryd.func5, Tryd.ntmps5
    go_wp2_with fail
    (try rw [hW1])
    refine Calls.mono HZ.out ?_
    rintro e w2 ⟨rfl, hb2⟩
    clear HZ hW1
    go_wp2
    go_ret
    exact ⟨rfl, HF.out _ hb2⟩
  · have hz : ¬ szG 1048576 p l < 0 := by omega
    have hn : len ≤ 1048576 := by omega
    have hn2 : lb ≤ 1048576 := by omega
    rw [hll] at z4
    have hst := szG_marks p l z0
    rw [hll] at hst
    have HC : Hid (∀ W, Below W1.heap.size W1 W → Calls Tryd.prog 8 #[.agg #[.slice a len cap, .slice b lb cb]] W fun e w' => ∃ g gp hi, e = .returned (.agg #[.slice (some ⟨g, 0, none⟩) len len, .slice (some ⟨gp, 0, none⟩) lb lb]) ∧ Below W.heap.size W w' ∧ ESl w' (some ⟨g, 0, none⟩) len p ∧ Sl w' (some ⟨gp, 0, none⟩) lb l ∧ Hid (W.heap.size ≤ g ∧ EMine w' g hi g len p ∧ hi ≤ gp ∧ MineI w' gp lb)) := fun W hW => (copyG_any a b len cap lb cb p l W (HT.out W hW).2.1 (HT.out W hW).2.2 hn z4 hn2).mono fun e w' ⟨g, gp, hi, x1, x2, x3, x4, x5, x6, x7⟩ => ⟨g, gp, hi, x1, x2, x4.esl (fun i hi => by have := z4 i hi; omega), x7, x3, x4, x5, x6⟩
    have HSp : Hid (∀ W (g gp : Nat), ESl W (some ⟨g, 0, none⟩) len p → Sl W (some ⟨gp, 0, none⟩) lb l → Calls Tryd.prog 17 #[.agg #[.slice (some ⟨g, 0, none⟩) len len, .slice (some ⟨gp, 0, none⟩) lb lb], .int .i64 k] W fun e w' => ∃ v : Value, e = .returned (.tuple #[v, .int .i64 (extV p l k T), .bool (extOk p l k T)]) ∧ w'.ownsRow W.heap.size 68 2 v (extL p l k T).length (flat (extL p l k T)) ∧ Below W.heap.size W w') := fun W g gp h1 h2 => specExtract_any _ _ len len lb lb p l k T hC W h1 h2 hm hm2
    have HIm : Hid (∀ W (g gp : Nat), Tab W ∧ Cst W → ESl W (some ⟨g, 0, none⟩) len p → Sl W (some ⟨gp, 0, none⟩) lb l → Calls Tryd.prog 18 #[.agg #[.slice (some ⟨g, 0, none⟩) len len, .slice (some ⟨gp, 0, none⟩) lb lb], .int .i64 k] W fun e w' => ∃ v : Value, e = .returned (.tuple #[v, .int .i64 (extV p l k T), .bool (extOk p l k T)]) ∧ w'.ownsRow W.heap.size 68 2 v (extL p l k T).length (flat (extL p l k T)) ∧ Below W.heap.size W w') := fun W g gp h0 h1 h2 => implExtract_any _ _ len len lb lb p l k T hC W h0.1 h0.2 hI h1 h2 hm hm2
    have HG : Hid (∀ W (g gp g' gp' : Nat), ESl W (some ⟨g, 0, none⟩) len p → Sl W (some ⟨gp, 0, none⟩) lb l → ESl W (some ⟨g', 0, none⟩) len p → Sl W (some ⟨gp', 0, none⟩) lb l → Calls Tryd.prog 11 #[.agg #[.slice (some ⟨g, 0, none⟩) len len, .slice (some ⟨gp, 0, none⟩) lb lb], .agg #[.slice (some ⟨g', 0, none⟩) len len, .slice (some ⟨gp', 0, none⟩) lb lb]] W fun e w' => e = .returned (.bool true) ∧ Below W.heap.size W w') := fun W g gp g' gp' h1 h2 h3 h4 => eqG_same _ _ _ _ len len len lb lb lb p l W h1 h3 h2 h4 hn z4 hn2
    have HMG : Hid (∀ W (g gp hi : Nat), EMine W g hi g len p → hi ≤ gp → MineI W gp lb → Calls Tryd.prog 12 #[.agg #[.slice (some ⟨g, 0, none⟩) len len, .slice (some ⟨gp, 0, none⟩) lb lb], .int .i64 1] W fun e w' => e = .returned (.int .i64 (stE 1 p len + lb : Nat)) ∧ TurnE g (gp + 1) W w') := fun W g gp hi h1 h2 h3 => markG_any hi g len len gp lb lb p W h1 h2 h3 (by omega) z4 hn hn2
    have hL := extL_few p l k T
    generalize extOk p l k T = G at HSp HIm
    generalize extV p l k T = C at HSp HIm
    generalize extL p l k T = L at HSp HIm hL
    have HQ : Hid (∀ W (u v : Value) (b b' : Nat), W.ownsRow b 68 2 u L.length (flat L) → W.ownsRow b' 68 2 v L.length (flat L) → Calls Tryd.prog 19 #[u, v] W fun e w' => e = .returned (.bool true) ∧ Below W.heap.size W w') := fun W u v b b' h1 h2 => by
      obtain ⟨a1, c1, rfl, s1⟩ := NSl.row h1
      obtain ⟨a2, c2, rfl, s2⟩ := NSl.row h2
      exact eqN_same a1 a2 _ c1 c2 L W s1 s2 (by omega)
    have HMI : Hid (∀ W (v : Value) b, W.ownsRow b 68 2 v L.length (flat L) → Calls Tryd.prog 20 #[v, .int .i64 1] W fun e w' => e = .returned (.int .i64 (1 + 2 * L.length : Nat)) ∧ W.grownBy w' v.ownBlock ∧ ∃ a cap, v = .slice a L.length cap ∧ NSl w' a L.length (marks 1 L.length)) := fun W v b hW => markN_row b _ v _ L W hW (by omega)
    have HH : Hid (∀ W (a : Option Addr) (c : Nat), NSl W a L.length (marks 1 L.length) → Calls Tryd.prog 21 #[.slice a L.length c, .int .i64 1] W fun e w' => e = .returned (.int .i64 (1 + 2 * L.length : Nat)) ∧ w' = W) := fun W a c hW => held_any a _ c 1 W hW (by omega) (by omega)
    generalize szG 1048576 p l = s at HZ hz
    have hGG : (G != G) = false := by simp
    have hCC : (C != C) = false := by simp
    have hk1 : ¬ ((stE 1 p len + lb : Nat) : Int) < 0 := by omega
    generalize ((stE 1 p len + lb : Nat) : Int) = zk at HMG hk1
    have hq1 : ¬ ((1 + 2 * L.length : Nat) : Int) < 0 := by omega
    generalize ((1 + 2 * L.length : Nat) : Int) = zq at HMI HH hq1
    have hqq : (zq != zq) = false := by simp
    clear h hl hb1 ht hc hC hll hl1 z0 z1 z2 z3 z4 hn hn2 hI hst hL
    go_enter Tryd.func5, Tryd.ntmps5
    go_wp2_with fail
    (try rw [hW1])
    refine Calls.mono HZ.out ?_
    rintro e w2 ⟨rfl, hb2⟩
    have q0 := (hb2.cell (p := ⟨w.heap.size, 0, none⟩) hs1).trans n0
    have q1 := (hb2.cell (p := ⟨w.heap.size, 1, none⟩) hs1).trans n1
    clear HZ hW1
    go_wp2_with fail
    refine Calls.mono (HC.out _ hb2) ?_
    rintro e w3 ⟨g, gp, hi, rfl, hb3, hE3, hS3, _⟩
    have hB3 : Below W1.heap.size W1 w3 := hb2.trans (hb3.mono hb2.size)
    clear hb3 q0 q1
    go_wp2_with fail
    refine Calls.mono (HSp.out _ _ _ hE3 hS3) ?_
    rintro e w4 ⟨vW, rfl, rW4, hb4⟩
    have hB4 : Below W1.heap.size W1 w4 := hB3.trans (hb4.mono hB3.size)
    have hWin := row_in rW4
    have q0 := (hB4.cell (p := ⟨w.heap.size, 0, none⟩) hs1).trans n0
    have q1 := (hB4.cell (p := ⟨w.heap.size, 1, none⟩) hs1).trans n1
    clear hb4 hE3 hS3 hB3 HSp
    go_wp2_with fail
    refine Calls.mono (HC.out _ hB4) ?_
    rintro e w5 ⟨g2, gp2, hi2, rfl, hb5, hE5, hS5, hO5⟩
    have hB5 : Below W1.heap.size W1 w5 := hB4.trans (hb5.mono hB4.size)
    have rW5 := row_keep rW4 hb5
    clear hb5 q0 q1 rW4
    obtain ⟨W6, hW6⟩ : ∃ W6, w5.alloc (.cells #[.slice (some ⟨g2, 0, none⟩) len len, .slice (some ⟨gp2, 0, none⟩) lb lb] 31) = W6 := ⟨_, rfl⟩
    have hb6 : Below w5.heap.size w5 W6 := by rw [← hW6]; exact (Below.refl _ _).alloc (Nat.le_refl _) _
    have t0 : W6.cell? ⟨w5.heap.size, 0, none⟩ = some (.slice (some ⟨g2, 0, none⟩) len len) := by rw [← hW6]; simp [go_sem]
    have t1 : W6.cell? ⟨w5.heap.size, 1, none⟩ = some (.slice (some ⟨gp2, 0, none⟩) lb lb) := by rw [← hW6]; simp [go_sem]
    have hs6 : w5.heap.size < W6.heap.size := by rw [← hW6]; simp
    have hB6 : Below W1.heap.size W1 W6 := hB5.trans (hb6.mono hB5.size)
    have hE6 := hE5.keep hb6
    have hS6 := hS5.keep hb6
    have rW6 := row_keep rW5 hb6
    have hT6 := (HT.out _ hB6).1
    have hg2 : w4.heap.size ≤ g2 := hO5.out.1
    have hgp2 : g2 < gp2 := by have := hO5.out.2.1.2.2.1; have := hO5.out.2.2.1; omega
    have hgp3 : gp2 < w5.heap.size := hO5.out.2.2.2.1
    have HO6 : Hid (EMine W6 g2 hi2 g2 len p ∧ hi2 ≤ gp2 ∧ MineI W6 gp2 lb) := ⟨hO5.out.2.1.keep hb6, hO5.out.2.2.1, hO5.out.2.2.2.keep hb6⟩
    have hB41 := hB4.size
    clear hb6 hB5 hE5 hS5 rW5 hO5 hB4
    go_wp2_with fail
    (try rw [hW6])
    refine Calls.mono (HIm.out _ _ _ hT6 hE6 hS6) ?_
    rintro e w7 ⟨vG, rfl, rG7, hb7⟩
    have hB7 : Below W1.heap.size W1 w7 := hB6.trans (hb7.mono hB6.size)
    have hGge := own_ge rG7
    have rW7 := row_keep rW6 hb7
    clear rW6 hT6 hW6
    go_wp2_with fail
    refine Calls.mono (HQ.out _ _ _ _ _ rG7 rW7) ?_
    rintro e w8 ⟨rfl, hb8⟩
    have hb68 : Below W6.heap.size W6 w8.drew := (hb7.trans (hb8.mono hb7.size)).drew
    have hb8d : Below w7.heap.size w7 w8.drew := hb8.drew
    have hB8 : Below W1.heap.size W1 w8.drew := hB6.trans (hb68.mono hB6.size)
    have hE8 := hE6.keep hb68
    have hS8 := hS6.keep hb68
    have rW8 := row_keep rW7 hb8d
    have rG8 := row_keep rG7 hb8d
    have v0 : w8.drew.cell? ⟨w5.heap.size, 0, none⟩ = some (.slice (some ⟨g2, 0, none⟩) len len) := (hb68.cell (p := ⟨w5.heap.size, 0, none⟩) hs6).trans t0
    have v1 : w8.drew.cell? ⟨w5.heap.size, 1, none⟩ = some (.slice (some ⟨gp2, 0, none⟩) lb lb) := (hb68.cell (p := ⟨w5.heap.size, 1, none⟩) hs6).trans t1
    have q0 : w8.drew.cell? ⟨w.heap.size, 0, none⟩ = some (.slice a len cap) := (hB8.cell (p := ⟨w.heap.size, 0, none⟩) hs1).trans n0
    have q1 : w8.drew.cell? ⟨w.heap.size, 1, none⟩ = some (.slice b lb cb) := (hB8.cell (p := ⟨w.heap.size, 1, none⟩) hs1).trans n1
    have hs8 : w5.heap.size < w8.drew.heap.size := Nat.lt_of_lt_of_le hs6 hb68.size
    have HB8 : Hid (Below W1.heap.size W1 w8.drew) := hB8
    have HE8 : Hid (ESl w8.drew (some ⟨g2, 0, none⟩) len p ∧ Sl w8.drew (some ⟨gp2, 0, none⟩) lb l) := ⟨hE8, hS8⟩
    have HR8 : Hid (∀ W, Below w8.drew.heap.size w8.drew W → w8.drew.heap.size ≤ W.heap.size ∧ Below W1.heap.size W1 W ∧ W.ownsRow w3.heap.size 68 2 vW L.length (flat L) ∧ W.ownsRow W6.heap.size 68 2 vG L.length (flat L) ∧ EMine W g2 hi2 g2 len p ∧ hi2 ≤ gp2 ∧ MineI W gp2 lb) := fun W hW => ⟨hW.size, hB8.trans (hW.mono hB8.size), row_keep rW8 hW, row_keep rG8 hW, (HO6.out.1.keep hb68).keep hW, HO6.out.2.1, (HO6.out.2.2.keep hb68).keep hW⟩
    clear hb7 hb8 hb68 hb8d hB7 hB6 hE6 hS6 t0 t1 hB8 hE8 hS8 rW7 rG7 rW8 rG8 HO6
    go_wp2_with fail
    go_region_with (first
      | (go_at_call 8; refine Calls.mono (HC.out _ HB8.out) ?_; rintro e w9 ⟨g3, gp3, hi3, rfl, hb9, hE9, hS9, _⟩; have hE9' := HE8.out.1.keep hb9; have hS9' := HE8.out.2.keep hb9; have x0 := (hb9.cell (p := ⟨w5.heap.size, 0, none⟩) hs8).trans v0; have x1 := (hb9.cell (p := ⟨w5.heap.size, 1, none⟩) hs8).trans v1)
      | (go_at_call 11; refine Calls.mono (HG.out _ _ _ _ _ hE9' hS9' hE9 hS9) ?_; rintro e w10 ⟨rfl, hb10⟩; have hb810 := hb9.trans (hb10.mono hb9.size); clear hb10))
    all_goals
      have y0 := (hb810.cell (p := ⟨w5.heap.size, 0, none⟩) hs8).trans v0
      have y1 := (hb810.cell (p := ⟨w5.heap.size, 1, none⟩) hs8).trans v1
      obtain ⟨hs10, hB10, rW10, rG10, hm10, hh10, hi10⟩ := HR8.out w10 hb810
      have hsz10 : w5.heap.size < w10.heap.size := Nat.lt_of_lt_of_le hs8 hs10
      clear hb9 hE9 hS9 hE9' hS9' x0 x1 hb810 HR8 HE8 HB8 v0 v1 q0 q1 HG
      go_wp2_with fail
      refine Calls.mono (HMG.out _ _ _ _ hm10 hh10 hi10) ?_
      rintro e w11 ⟨rfl, t11⟩
      have hbl11 : Below g2 w10 w11 := t11.below (by omega)
      have hB11 : Below W1.heap.size W1 w11 := hB10.trans (hbl11.mono (by omega))
      have rW11 := row_turn rW10 t11.2.2.2.1 (fun x hx => t11.2.2.2.2 x (by have := hWin _ hx; omega) (.inl (by have := hWin _ hx; omega)))
      have rG11 := row_turn rG10 t11.2.2.2.1 (fun x hx => t11.2.2.2.2 x (row_in rG10 x hx) (.inr (by have := hGge _ hx; omega)))
      have hs11 : w10.heap.size ≤ w11.heap.size := t11.2.2.2.1
      clear t11 hbl11 rW10 rG10 hm10 hi10 hB10 HMG y0 y1
      go_wp2_with fail
      refine Calls.mono (HQ.out _ _ _ _ _ rG11 rW11) ?_
      rintro e w12 ⟨rfl, hb12⟩
      have hB12 := hB11.trans (hb12.mono hB11.size)
      have rW12 := row_keep rW11 hb12
      have rG12 := row_keep rG11 hb12
      have hs12 := hb12.size
      clear hb12 rW11 rG11 hB11
      go_wp2_with fail
      refine Calls.mono (HMI.out _ _ _ rG12) ?_
      rintro e w13 ⟨rfl, hg13, aG, cG, rfl, hsG13⟩
      have hB13 : Below W1.heap.size W1 w13 := hB12.grown hg13 hB12.size (fun r hr => by have := hGge r hr; omega)
      have rW13 := row_grown rW12 hg13 (fun x hx e => by have := hWin _ hx; have := hGge _ e.symm; omega)
      clear hg13 rW12 rG12 hB12 HMI
      go_wp2_with fail
      refine Calls.mono (HH.out _ _ _ hsG13) ?_
      rintro e w14 ⟨rfl, rfl⟩
      have q0 := (hB13.cell (p := ⟨w.heap.size, 0, none⟩) hs1).trans n0
      have q1 := (hB13.cell (p := ⟨w.heap.size, 1, none⟩) hs1).trans n1
      go_wp2_with fail
      refine Calls.mono (HC.out _ hB13) ?_
      rintro e w15 ⟨g4, gp4, hi4, rfl, hb15, hE15, hS15, _⟩
      have hB15 := hB13.trans (hb15.mono hB13.size)
      have rW15 := row_keep rW13 hb15
      have hsG15 := hsG13.keep hb15
      have hT15 := (HT.out _ hB15).1
      clear hb15 rW13 hsG13 hB13 q0 q1 HC
      go_wp2_with fail
      refine Calls.mono (HIm.out _ _ _ hT15 hE15 hS15) ?_
      rintro e w16 ⟨vH, rfl, rH16, hb16⟩
      have hB16 := hB15.trans (hb16.mono hB15.size)
      have rW16 := row_keep rW15 hb16
      have hsG16 := hsG15.keep hb16
      clear hb16 rW15 hsG15 hB15 hE15 hS15 hT15 HIm
      go_wp2_with fail
      refine Calls.mono (HQ.out _ _ _ _ _ rH16 rW16) ?_
      rintro e w17 ⟨rfl, hb17⟩
      have hB17 := HF.out _ (hB16.trans (hb17.mono hB16.size))
      have hsG17 := hsG16.keep hb17
      clear hb17 rW16 rH16 hsG16 hB16 HQ
      go_wp2_with fail
      refine Calls.mono (HH.out _ _ _ hsG17) ?_
      rintro e w18 ⟨rfl, rfl⟩
      go_wp2
      go_ret
      exact ⟨rfl, hB17⟩
end Go.Proofs.YtmbggaepckgogaaDoor
