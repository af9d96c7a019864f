/-
  PROVED HERE: the law FnExactMerge's own run, at every argument, in a world whose table of arities is laid. No other condition.
-/
import Derived.Test.YthkjmgjajmghmaaDoorC6MergeU
import Derived.Test.YthkjmgjajmghmaaDoorRun38
import Derived.Test.YthkjmgjajmghmaaDoorRun41
namespace Go.Proofs.YthkjmgjajmghmaaDoor
open Go.ChangeShapes Go.WideShapes Go.ChangeAt Go.RowKit
set_option linter.unusedVariables false

theorem mergeR_few {p : List EN} {l : List Int} {x y : Int} : (mergeR p l x y).1.length ≤ 120 ∧ (mergeR p l x y).2.length = (mergeR p l x y).1.length ∧ ∀ i, i < (mergeR p l x y).1.length → ((mergeR p l x y).1.getD i e0).2.2.length ≤ 3 := by
  cases h : mergeOk p l x y with
  | false =>
    have : mergeR p l x y = ([], []) := by unfold mergeR; rw [h]; rfl
    rw [this]
    exact ⟨by simp, rfl, fun i hi => absurd hi (Nat.not_lt_zero _)⟩
  | true =>
    have hr : mergeR p l x y = mergeG p l x.toNat y.toNat := by unfold mergeR; rw [h]; rfl
    unfold mergeOk at h
    simp only [Bool.and_eq_true] at h
    obtain ⟨⟨hgb, hax⟩, hay⟩ := h
    have hgh := (headB_iff p l).1 ((graphB_iff p l).1 hgb).1
    have hgN := hgh.1
    have hgP : PartsN p.length l := ⟨hgh.2.1, ((partB_iff l).1 hgh.2.2).2⟩
    have hpl := hgh.2.1
    obtain ⟨X, rfl, hX⟩ := has_iff hax
    obtain ⟨Y, rfl, hY⟩ := has_iff hay
    rw [Int.toNat_natCast, Int.toNat_natCast] at hr
    rw [hr]
    have hmL := mergeG_len hgN hgP (show X < p.length by omega) (show Y < p.length by omega)
    rw [hmL.1, hmL.2]
    refine ⟨((nodesB_iff p).1 hgN).1, rfl, fun i hi => ?_⟩
    unfold mergeG
    rw [withL_get _ p hi]
    simp only
    rw [kidsL_len]
    exact fit_few (((nodesB_iff p).1 hgN).2 i hi)
set_option maxHeartbeats 12800000 in
set_option maxRecDepth 20000 in
theorem mergeLaw_any (a b : Option Addr) (len cap lb cb : Nat) (p : List EN) (l : List Int) (x y : Int) (w : World) (ht : Tab w) (h : ESl w a len p) (hl : Sl w b lb l) (hI : InE p) (hm : len ≤ 9223372036854775807) (hm2 : lb ≤ 9223372036854775807) :
    Calls Tryd.prog 3 #[.agg #[.slice a len cap, .slice b lb cb], .int .i64 x, .int .i64 y] w fun e w' => e = .returned (.bool true) ∧ Below w.heap.size w w' := by
  have hll := h.1
  have hl1 := hl.1
  obtain ⟨W1, hW1⟩ : ∃ W1, w.alloc (.cells #[.slice a len cap, .slice b lb cb] 25) = W1 := ⟨_, rfl⟩
  have hb1 : Below w.heap.size w W1 := by rw [← hW1]; exact (Below.refl _ _).alloc (Nat.le_refl _) _
  have n0 : W1.cell? ⟨w.heap.size, 0, none⟩ = some (.slice a len cap) := by rw [← hW1]; simp [go_sem]
  have n1 : W1.cell? ⟨w.heap.size, 1, none⟩ = some (.slice b lb cb) := by rw [← hW1]; simp [go_sem]
  have hs1 : w.heap.size < W1.heap.size := by rw [← hW1]; simp
  have HZ := (show Hid _ from szG_any a b len cap lb cb p l 1048576 W1 (h.keep hb1) (hl.keep hb1) (by omega) hm hm2)
  have HF : Hid (∀ W, Below W1.heap.size W1 W → Below w.heap.size w W ∧ Tab W ∧ W.cell? ⟨w.heap.size, 0, none⟩ = some (.slice a len cap) ∧ W.cell? ⟨w.heap.size, 1, none⟩ = some (.slice b lb cb)) := fun W hW => ⟨hb1.trans (hW.mono hb1.size), (ht.keeps hb1).keeps hW, (hW.cell (p := ⟨w.heap.size, 0, none⟩) hs1).trans n0, (hW.cell (p := ⟨w.heap.size, 1, none⟩) hs1).trans n1⟩
  rcases szG_all p l with hz | ⟨z0, z1, z2, z3, z4⟩
  · rw [hz] at HZ
    clear h hl hb1 ht hz
    go_enter Tryd.func3, Tryd.ntmps3
    go_wp2_with fail
    (try rw [hW1])
    refine Calls.mono HZ.out ?_
    rintro e w2 ⟨rfl, hb2⟩
    clear HZ hW1
    go_wp2
    go_ret
    exact ⟨rfl, (HF.out _ hb2).1⟩
  · obtain ⟨sN, hsN⟩ : ∃ sN : Nat, szG 1048576 p l = sN := ⟨(szG 1048576 p l).toNat, by omega⟩
    have hst := szG_marks p l z0
    rw [hll, hl1] at hst
    rw [hsN] at HZ z0 z1
    have hz : ¬ (sN : Int) < 0 := by omega
    have hn : len ≤ 1048576 := by omega
    have hn2 : lb ≤ 1048576 := by omega
    rw [hll] at z4
    have HC : Hid (∀ W, Below W1.heap.size W1 W → Calls Tryd.prog 7 #[.agg #[.slice a len cap, .slice b lb cb]] W fun e w' => ∃ g gp hi, e = .returned (.agg #[.slice (some ⟨g, 0, none⟩) len len, .slice (some ⟨gp, 0, none⟩) lb lb]) ∧ Below W.heap.size W w' ∧ ESl w' (some ⟨g, 0, none⟩) len p ∧ Sl w' (some ⟨gp, 0, none⟩) lb l ∧ W.heap.size ≤ g ∧ EMine w' g hi g len p ∧ hi ≤ gp ∧ MineI w' gp lb) := fun W hW => (copyG_any a b len cap lb cb p l W ((h.keep hb1).keep hW) ((hl.keep hb1).keep hW) hn z4 hn2).mono fun e w' ⟨g, gp, hi, r1, r2, r3, r4, r5, r6, r7⟩ => ⟨g, gp, hi, r1, r2, r4.esl (fun i hi => by have := z4 i hi; omega), r7, r3, r4, r5, r6⟩
    have HSp : Hid (∀ W (g gp : Nat), ESl W (some ⟨g, 0, none⟩) len p → Sl W (some ⟨gp, 0, none⟩) lb l → Calls Tryd.prog 6 #[.agg #[.slice (some ⟨g, 0, none⟩) len len, .slice (some ⟨gp, 0, none⟩) lb lb], .int .i64 x, .int .i64 y] W fun e w' => ∃ va vb, e = .returned (.tuple #[.agg #[va, vb], .bool (mergeOk p l x y)]) ∧ ReadG w' va vb (mergeR p l x y) ∧ Below W.heap.size W w') := fun W g gp h1 h2 => specMerge_any _ _ len len lb lb p l x y W h1 h2 hm hm2
    have HIm : Hid (∀ W (g gp : Nat), Tab W → ESl W (some ⟨g, 0, none⟩) len p → Sl W (some ⟨gp, 0, none⟩) lb l → Calls Tryd.prog 8 #[.agg #[.slice (some ⟨g, 0, none⟩) len len, .slice (some ⟨gp, 0, none⟩) lb lb], .int .i64 x, .int .i64 y] W fun e w' => ∃ va vb, e = .returned (.tuple #[.agg #[va, vb], .bool (mergeOk p l x y)]) ∧ AnsI w' (fun x => W.heap.size ≤ x) va vb (mergeR p l x y) ∧ Below W.heap.size W w') := fun W g gp h0 h1 h2 => implMerge_any _ _ len len lb lb p l x y W h0 h1 h2 hI hm hm2
    have HQ : Hid (∀ W (g gp g' gp' : Nat), ESl W (some ⟨g, 0, none⟩) len p → Sl W (some ⟨gp, 0, none⟩) lb l → ESl W (some ⟨g', 0, none⟩) len p → Sl W (some ⟨gp', 0, none⟩) lb l → Calls Tryd.prog 9 #[.agg #[.slice (some ⟨g, 0, none⟩) len len, .slice (some ⟨gp, 0, none⟩) lb lb], .agg #[.slice (some ⟨g', 0, none⟩) len len, .slice (some ⟨gp', 0, none⟩) lb lb]] W fun e w' => e = .returned (.bool true) ∧ Below W.heap.size W w') := fun W g gp g' gp' h1 h2 h3 h4 => eqG_same _ _ _ _ len len len lb lb lb p l W h1 h3 h2 h4 hn z4 hn2
    have hfw := @mergeR_few p l x y
    obtain ⟨A, hA⟩ : ∃ A, mergeR p l x y = A := ⟨_, rfl⟩
    rw [hA] at HSp HIm hfw
    have HQA : Hid (∀ W (u1 u2 v1 v2 : Value), ReadG W u1 u2 A → ReadG W v1 v2 A → Calls Tryd.prog 9 #[.agg #[u1, u2], .agg #[v1, v2]] W fun e w' => e = .returned (.bool true) ∧ Below W.heap.size W w') := fun W u1 u2 v1 v2 h1 h2 => eqA_any u1 u2 v1 v2 A W h1 h2 hfw.1 hfw.2.1 hfw.2.2
    have HMG : Hid (∀ W (g gp hi : Nat), EMine W g hi g len p → hi ≤ gp → MineI W gp lb → Calls Tryd.prog 10 #[.agg #[.slice (some ⟨g, 0, none⟩) len len, .slice (some ⟨gp, 0, none⟩) lb lb], .int .i64 1] W fun e w' => e = .returned (.int .i64 (stE 1 p len + lb : Nat)) ∧ TurnE g (gp + 1) W w') := fun W g gp hi h1 h2 h3 => markG_any hi g len len gp lb lb p W h1 h2 h3 (by omega) z4 hn hn2
    have hk0 : stE 1 p len + lb ≤ 3145729 := hst
    obtain ⟨K0, hK0⟩ : ∃ K0 : Nat, stE 1 p len + lb = K0 := ⟨_, rfl⟩
    rw [hK0] at HMG hk0
    have hk1 : ¬ (K0 : Int) < 0 := by omega
    have HMA : Hid (∀ W va vb (S : Nat → Prop), AnsI W S va vb A → Calls Tryd.prog 10 #[.agg #[va, vb], .int .i64 1] W fun e w' => e = .returned (.int .i64 ((ansK A : Nat) : Int)) ∧ KB S W w' ∧ HeldG w' va vb A) := fun W va vb S h1 => markA_any va vb A S W h1
    have HHA : Hid (∀ W va vb, HeldG W va vb A → Calls Tryd.prog 11 #[.agg #[va, vb], .int .i64 1] W fun e w' => e = .returned (.int .i64 ((ansK A : Nat) : Int)) ∧ Below W.heap.size W w') := fun W va vb h1 => heldA_any va vb A W h1
    obtain ⟨zq, hzq⟩ : ∃ zq : Int, ((ansK A : Nat) : Int) = zq := ⟨_, rfl⟩
    have hq1 : ¬ zq < 0 := by omega
    have hqq : (zq != zq) = false := by simp
    rw [hzq] at HMA HHA
    generalize mergeOk p l x y = B at HSp HIm
    have hBB : (B != B) = false := by simp
    clear h hl hb1 ht hll hl1 z0 z1 z2 z3 z4 hn hn2 hI hsN hst hfw hA hK0 hzq hk0
    go_enter Tryd.func3, Tryd.ntmps3
    go_wp2_with fail
    (try rw [hW1])
    refine Calls.mono HZ.out ?_
    rintro e w2 ⟨rfl, hb2⟩
    obtain ⟨-, -, q0, q1⟩ := HF.out w2 hb2
    clear HZ hW1
    go_wp2_with fail
    refine Calls.mono (HC.out _ hb2) ?_
    rintro e w3 ⟨g, gp, hi, rfl, hb3, hE3, hS3, -⟩
    have hB3 : Below W1.heap.size W1 w3 := hb2.trans (hb3.mono hb2.size)
    clear hb3 q0 q1 hb2
    go_wp2_with fail
    refine Calls.mono (HSp.out _ _ _ hE3 hS3) ?_
    rintro e w5 ⟨sa, sb, rfl, hR5, hb5⟩
    obtain ⟨sa1, sca, sb1, scb, rfl, rfl, -⟩ := id hR5
    have hB5 : Below W1.heap.size W1 w5 := hB3.trans (hb5.mono hB3.size)
    clear hb5 hE3 hS3 hB3 HSp
    -- the model's answer in its box
    obtain ⟨W6, hW6⟩ : ∃ W6, w5.alloc (.cells #[.slice sa1 A.1.length sca, .slice sb1 A.2.length scb] 29) = W6 := ⟨_, rfl⟩
    have hb6 : Below w5.heap.size w5 W6 := by rw [← hW6]; exact (Below.refl _ _).alloc (Nat.le_refl _) _
    have u0 : W6.cell? ⟨w5.heap.size, 0, none⟩ = some (.slice sa1 A.1.length sca) := by rw [← hW6]; simp [go_sem]
    have u1 : W6.cell? ⟨w5.heap.size, 1, none⟩ = some (.slice sb1 A.2.length scb) := by rw [← hW6]; simp [go_sem]
    have hs6 : w5.heap.size < W6.heap.size := by rw [← hW6]; simp
    have hB6 : Below W1.heap.size W1 W6 := hB5.trans (hb6.mono hB5.size)
    obtain ⟨B6, hB6e⟩ : ∃ B6, w5.heap.size = B6 := ⟨_, rfl⟩
    rw [hB6e] at u0 u1 hs6
    have H6 : Hid (∀ W, Below W6.heap.size W6 W → Below W1.heap.size W1 W ∧ W.cell? ⟨B6, 0, none⟩ = some (.slice sa1 A.1.length sca) ∧ W.cell? ⟨B6, 1, none⟩ = some (.slice sb1 A.2.length scb) ∧ ReadG W (.slice sa1 A.1.length sca) (.slice sb1 A.2.length scb) A) := fun W hW => ⟨hB6.trans (hW.mono hB6.size), (hW.cell (p := ⟨B6, 0, none⟩) hs6).trans u0, (hW.cell (p := ⟨B6, 1, none⟩) hs6).trans u1, (hR5.keep hb6).keep hW⟩
    obtain ⟨-, -, q0, q1⟩ := HF.out W6 hB6
    have HC6 := (show Hid _ from HC.out W6 hB6)
    clear hB5 hb6 hR5 u0 u1 hs6 hB6
    go_wp2_with fail
    (try rw [hW6])
    (try rw [hB6e])
    refine Calls.mono HC6.out ?_
    rintro e w7 ⟨g2, gp2, hi2, rfl, hb7, hE7, hS7, hg7, hM7, hh7, hI7⟩
    clear HC6 hW6 hB6e q0 q1
    -- the graph that is handed over in its box
    obtain ⟨W8, hW8⟩ : ∃ W8, w7.alloc (.cells #[.slice (some ⟨g2, 0, none⟩) len len, .slice (some ⟨gp2, 0, none⟩) lb lb] 29) = W8 := ⟨_, rfl⟩
    have hb8 : Below w7.heap.size w7 W8 := by rw [← hW8]; exact (Below.refl _ _).alloc (Nat.le_refl _) _
    have t0 : W8.cell? ⟨w7.heap.size, 0, none⟩ = some (.slice (some ⟨g2, 0, none⟩) len len) := by rw [← hW8]; simp [go_sem]
    have t1 : W8.cell? ⟨w7.heap.size, 1, none⟩ = some (.slice (some ⟨gp2, 0, none⟩) lb lb) := by rw [← hW8]; simp [go_sem]
    have hs8 : w7.heap.size < W8.heap.size := by rw [← hW8]; simp
    obtain ⟨B8, hB8e⟩ : ∃ B8, w7.heap.size = B8 := ⟨_, rfl⟩
    have hgpl : gp2 < B8 := by rw [← hB8e]; exact hI7.1
    have hgg : g2 ≤ gp2 := by have := hM7.2.2.1; omega
    rw [hB8e] at t0 t1 hs8
    have hB68 : Below W6.heap.size W6 W8 := hb7.trans (hb8.mono hb7.size)
    have HX8 : Hid (∀ W, Below W8.heap.size W8 W → Below W6.heap.size W6 W ∧ W.cell? ⟨B8, 0, none⟩ = some (.slice (some ⟨g2, 0, none⟩) len len) ∧ W.cell? ⟨B8, 1, none⟩ = some (.slice (some ⟨gp2, 0, none⟩) lb lb) ∧ ESl W (some ⟨g2, 0, none⟩) len p ∧ Sl W (some ⟨gp2, 0, none⟩) lb l ∧ EMine W g2 hi2 g2 len p ∧ hi2 ≤ gp2 ∧ MineI W gp2 lb) := fun W hW => ⟨hB68.trans (hW.mono hB68.size), (hW.cell (p := ⟨B8, 0, none⟩) hs8).trans t0, (hW.cell (p := ⟨B8, 1, none⟩) hs8).trans t1, (hE7.keep hb8).keep hW, (hS7.keep hb8).keep hW, (hM7.keep hb8).keep hW, hh7, (hI7.keep hb8).keep hW⟩
    have hg6 : W6.heap.size ≤ g2 := hg7
    have hW68 : Hid (W6.heap.size ≤ W8.heap.size) := hB68.size
    obtain ⟨y1, y2, y3, y4, y5, -⟩ := HX8.out W8 (Below.refl _ _)
    have HI9 := (show Hid _ from HIm.out W8 _ _ (HF.out W8 (H6.out W8 y1).1).2.1 y4 y5)
    clear hb7 hb8 t0 t1 hE7 hS7 hM7 hh7 hI7 hB68 hg7 y1 y4 y5
    go_wp2_with fail
    (try rw [hW8])
    (try rw [hB8e])
    refine Calls.mono HI9.out ?_
    rintro e w10 ⟨va, vb, rfl, hA10, hb10⟩
    obtain ⟨a1, ca1, b1, cb1, rfl, rfl, -⟩ := hA10.reads
    clear HI9 hW8 hB8e y2 y3
    -- the program's answer in its box
    obtain ⟨W11, hW11⟩ : ∃ W11, w10.alloc (.cells #[.slice a1 A.1.length ca1, .slice b1 A.2.length cb1] 29) = W11 := ⟨_, rfl⟩
    have hb11 : Below w10.heap.size w10 W11 := by rw [← hW11]; exact (Below.refl _ _).alloc (Nat.le_refl _) _
    have v0 : W11.cell? ⟨w10.heap.size, 0, none⟩ = some (.slice a1 A.1.length ca1) := by rw [← hW11]; simp [go_sem]
    have v1 : W11.cell? ⟨w10.heap.size, 1, none⟩ = some (.slice b1 A.2.length cb1) := by rw [← hW11]; simp [go_sem]
    have hs11 : w10.heap.size < W11.heap.size := by rw [← hW11]; simp
    obtain ⟨BG, hBG⟩ : ∃ BG, w10.heap.size = BG := ⟨_, rfl⟩
    have hs910 : W8.heap.size ≤ BG := by rw [← hBG]; exact hb10.size
    have hA11 : AnsI W11 (fun x => W8.heap.size ≤ x ∧ x < BG) (.slice a1 A.1.length ca1) (.slice b1 A.2.length cb1) A := (hA10.map (Nat.le_refl _) (fun _ _ _ => rfl) (fun b hb h => ⟨h, by omega⟩)).map hb11.size (fun b _ hl => hb11.block b hl) (fun _ _ h => h)
    rw [hBG] at v0 v1 hs11
    have hb911 : Below W8.heap.size W8 W11 := hb10.trans (hb11.mono hb10.size)
    have HX11 : Hid (∀ W, KB (fun b => b < W8.heap.size) W11 W → W.cell? ⟨BG, 0, none⟩ = some (.slice a1 A.1.length ca1) ∧ W.cell? ⟨BG, 1, none⟩ = some (.slice b1 A.2.length cb1) ∧ AnsI W (fun x => W8.heap.size ≤ x ∧ x < BG) (.slice a1 A.1.length ca1) (.slice b1 A.2.length cb1) A ∧ BG < W.heap.size) := fun W hW => ⟨(hW.cell (p := ⟨BG, 0, none⟩) hs11 (by show ¬ BG < _; omega)).trans v0, (hW.cell (p := ⟨BG, 1, none⟩) hs11 (by show ¬ BG < _; omega)).trans v1, hA11.map hW.size (fun b hb hl => hW.block b hl (by omega)) (fun _ _ h => h), Nat.lt_of_lt_of_le hs11 hW.size⟩
    have HX12 : Hid (∀ W, Below W11.heap.size W11 W → Below W8.heap.size W8 W) := fun W hW => hb911.trans (hW.mono hb911.size)
    obtain ⟨-, c0, c1, c2⟩ := H6.out W11 (HX8.out W11 hb911).1
    have HQ11 := (show Hid _ from HQA.out W11 _ _ _ _ hA11.read c2)
    have HBGs := (show Hid _ from hs11)
    clear hb10 hb11 hA10 hA11 hb911
    go_wp2_with fail
    (try rw [hW11])
    (try rw [hBG])
    refine Calls.mono HQ11.out ?_
    rintro e w12 ⟨rfl, hb12⟩
    have hD12 : Below W11.heap.size W11 w12.drew := hb12.drew
    have h812 := HX12.out _ hD12
    obtain ⟨h612, k0, k1, k2, k3, -⟩ := HX8.out _ h812
    obtain ⟨-, -, q0, q1⟩ := HF.out _ (H6.out _ h612).1
    have HC12 := (show Hid _ from HC.out w12.drew (H6.out _ h612).1)
    have HD12 : Hid (Below W11.heap.size W11 w12.drew) := hD12
    have HB8s : Hid (B8 < w12.drew.heap.size) := by
      show B8 < _
      have := h812.size
      omega
    clear HQ11 hb12 hD12 h812 h612 k2 k3 hW11 hBG c0 c1 c2 v0 v1 hs11
    go_wp2_with fail
    go_region_with (first
      | (go_at_call 7; refine Calls.mono HC12.out ?_; rintro e w13 ⟨g3, gp3, hi3, rfl, hb13, hE13, hS13, -⟩; have hD13 := HD12.out.trans (hb13.mono HD12.out.size); have h813 := HX12.out _ hD13; obtain ⟨-, m0, m1, m2, m3, -⟩ := HX8.out _ h813; have HQ13 := (show Hid _ from HQ.out w13 _ _ _ _ m2 m3 hE13 hS13); clear hb13 h813 m2 m3 hE13 hS13)
      | (go_at_call 9; refine Calls.mono HQ13.out ?_; rintro e w14 ⟨rfl, hb14⟩; have HD14 := (show Hid _ from hD13.trans (hb14.mono hD13.size)); clear hb14))
    all_goals
      have hD14 := HD14.out
      have h814 := HX12.out _ hD14
      obtain ⟨h614, n0', n1', -, -, m5, m6, m7⟩ := HX8.out _ h814
      have HMG14 := (show Hid _ from HMG.out w14 _ _ _ m5 m6 m7)
      have H14 : Hid (Below W11.heap.size W11 w14 ∧ Below W8.heap.size W8 w14 ∧ Below W6.heap.size W6 w14) := ⟨hD14, h814, h614⟩
      clear HC12 HQ13 hD13 m0 m1 k0 k1 q0 q1 HQ HD12 HB8s hD14 h814 h614 m5 m6 m7 HD14 HMG
      go_wp2_with fail
      refine Calls.mono HMG14.out ?_
      rintro e w18 ⟨rfl, t17⟩
      have hs14 := H14.out.2.1.size
      have hkb18 : KB (fun b => b < W8.heap.size) W11 w18 := (KB.of H14.out.1).trans (T := fun b => g2 ≤ b ∧ b < gp2 + 1) ⟨t17.1, t17.2.1, t17.2.2.1, t17.2.2.2.1, fun b hb hn => t17.2.2.2.2 b hb (by omega)⟩ (fun b _ hb => by omega)
      have h618 : Below W6.heap.size W6 w18 := H14.out.2.2.trans ((t17.below (by omega)).mono hg6)
      obtain ⟨c0, c1, c2, c3⟩ := HX11.out w18 hkb18
      obtain ⟨-, d0, d1, d2⟩ := H6.out w18 h618
      have HQ18 := (show Hid _ from HQA.out w18 _ _ _ _ c2.read d2)
      have H18 : Hid (AnsI w18 (fun x => W8.heap.size ≤ x ∧ x < BG) (.slice a1 A.1.length ca1) (.slice b1 A.2.length cb1) A ∧ Below W6.heap.size W6 w18 ∧ BG < w18.heap.size) := ⟨c2, h618, c3⟩
      have c0' := c0
      have c1' := c1
      clear HMG14 t17 hkb18 h618 H14 hs14 c2 c3 d2 n0' n1'
      go_wp2_with fail
      refine Calls.mono HQ18.out ?_
      rintro e w19 ⟨rfl, hb19⟩
      have e0 := (hb19.cell (p := ⟨BG, 0, none⟩) H18.out.2.2).trans c0
      have e1 := (hb19.cell (p := ⟨BG, 1, none⟩) H18.out.2.2).trans c1
      have hA19 : AnsI w19 (fun x => W8.heap.size ≤ x ∧ x < BG) (.slice a1 A.1.length ca1) (.slice b1 A.2.length cb1) A := H18.out.1.map hb19.size (fun b _ hl => hb19.block b hl) (fun _ _ h => h)
      have HMA19 := (show Hid _ from HMA.out w19 _ _ _ hA19)
      have H19 : Hid (Below W6.heap.size W6 w19 ∧ BG < w19.heap.size) := ⟨H18.out.2.1.trans (hb19.mono H18.out.2.1.size), Nat.lt_of_lt_of_le H18.out.2.2 hb19.size⟩
      clear HQ18 hb19 hA19 H18 c0 c1 c0' c1' d0 d1 HMA
      go_wp2_with fail
      refine Calls.mono HMA19.out ?_
      rintro e w20 ⟨rfl, hk20, hH20⟩
      have f0 := (hk20.cell (p := ⟨BG, 0, none⟩) H19.out.2 (by show ¬ (_ ∧ BG < BG); omega)).trans e0
      have f1 := (hk20.cell (p := ⟨BG, 1, none⟩) H19.out.2 (by show ¬ (_ ∧ BG < BG); omega)).trans e1
      have h620 : Below W6.heap.size W6 w20 := H19.out.1.trans ((hk20.below (n := W8.heap.size) (fun x _ h => h.1) (by have := H19.out.2; omega)).mono (by have := hW68.out; omega))
      have HHA20 := (show Hid _ from HHA.out w20 _ _ hH20)
      have H20 : Hid (Below W6.heap.size W6 w20 ∧ BG < w20.heap.size ∧ HeldG w20 (.slice a1 A.1.length ca1) (.slice b1 A.2.length cb1) A ∧ w20.cell? ⟨BG, 0, none⟩ = some (.slice a1 A.1.length ca1) ∧ w20.cell? ⟨BG, 1, none⟩ = some (.slice b1 A.2.length cb1)) := ⟨h620, Nat.lt_of_lt_of_le H19.out.2 hk20.size, hH20, f0, f1⟩
      clear HMA19 hk20 hH20 h620 H19 e0 e1
      go_wp2_with fail
      refine Calls.mono HHA20.out ?_
      rintro e w21 ⟨rfl, hb21⟩
      have h621 := H20.out.1.trans (hb21.mono H20.out.1.size)
      have h121 := (H6.out _ h621).1
      obtain ⟨-, -, q0, q1⟩ := HF.out _ h121
      have HC21 := (show Hid _ from HC.out w21 h121)
      have H21 : Hid (Below w20.heap.size w20 w21) := hb21
      clear HHA20 hb21 h621 h121 f0 f1 HC
      go_wp2_with fail
      refine Calls.mono HC21.out ?_
      rintro e w22 ⟨g4, gp4, hi4, rfl, hb22, hE22, hS22, -⟩
      have hb2022 := H21.out.trans (hb22.mono H21.out.size)
      have HI23 := (show Hid _ from HIm.out w22 _ _ (HF.out _ (H6.out _ (H20.out.1.trans (hb2022.mono H20.out.1.size))).1).2.1 hE22 hS22)
      have H23 : Hid (Below w20.heap.size w20 w22) := hb2022
      clear HC21 hb22 hb2022 hE22 hS22 H21 q0 q1 HIm
      go_wp2_with fail
      refine Calls.mono HI23.out ?_
      rintro e w24 ⟨ha, hb', rfl, hA24, hb24⟩
      obtain ⟨a2, ca2, b2, cb2, rfl, rfl, -⟩ := hA24.reads
      have hb2024 := H23.out.trans (hb24.mono H23.out.size)
      obtain ⟨W25, hW25⟩ : ∃ W25, w24.alloc (.cells #[.slice a2 A.1.length ca2, .slice b2 A.2.length cb2] 29) = W25 := ⟨_, rfl⟩
      have hb25 : Below w24.heap.size w24 W25 := by rw [← hW25]; exact (Below.refl _ _).alloc (Nat.le_refl _) _
      have x0 : W25.cell? ⟨w24.heap.size, 0, none⟩ = some (.slice a2 A.1.length ca2) := by rw [← hW25]; simp [go_sem]
      have x1 : W25.cell? ⟨w24.heap.size, 1, none⟩ = some (.slice b2 A.2.length cb2) := by rw [← hW25]; simp [go_sem]
      have hb2025 := hb2024.trans (hb25.mono hb2024.size)
      obtain ⟨-, d0, d1, d2⟩ := H6.out _ (H20.out.1.trans (hb2025.mono H20.out.1.size))
      have HQ25 := (show Hid _ from HQA.out W25 _ _ _ _ (hA24.read.keep hb25) d2)
      have H25 : Hid (Below w20.heap.size w20 W25) := hb2025
      clear HI23 hA24 hb24 hb2024 hb25 hb2025 d2 H23 HQA
      go_wp2_with fail
      (try rw [hW25])
      refine Calls.mono HQ25.out ?_
      rintro e w26 ⟨rfl, hb26⟩
      have hb2026 := H25.out.trans (hb26.mono H25.out.size)
      have y0 := (hb2026.cell (p := ⟨BG, 0, none⟩) H20.out.2.1).trans H20.out.2.2.2.1
      have y1 := (hb2026.cell (p := ⟨BG, 1, none⟩) H20.out.2.1).trans H20.out.2.2.2.2
      have HHA26 := (show Hid _ from HHA.out w26 _ _ (H20.out.2.2.1.keep hb2026))
      have H26 := (show Hid _ from H20.out.1.trans (hb2026.mono H20.out.1.size))
      clear HQ25 hb26 hb2026 H25 H20 d0 d1 x0 x1 hW25 HHA
      go_wp2_with fail
      refine Calls.mono HHA26.out ?_
      rintro e w27 ⟨rfl, hb27⟩
      have HE := (show Hid _ from (HF.out _ (H6.out _ (H26.out.trans (hb27.mono H26.out.size))).1).1)
      clear HHA26 H26 hb27 HF H6 HX8 HX11 HX12
      go_wp2
      go_ret
      exact ⟨rfl, HE.out⟩
end Go.Proofs.YthkjmgjajmghmaaDoor
