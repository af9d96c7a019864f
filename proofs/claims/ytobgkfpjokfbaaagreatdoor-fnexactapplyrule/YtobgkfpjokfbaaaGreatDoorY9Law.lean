/-
  PROVED HERE: the law FnExactApplyRule's own run, at every argument, in a world whose table of arities is laid. No other condition.
-/
import Derived.Test.YtobgkfpjokfbaaaGreatDoorRun24
import Derived.Test.YtobgkfpjokfbaaaGreatDoorRun37
import Derived.Test.YtobgkfpjokfbaaaGreatDoorRun41
namespace Go.Proofs.YtobgkfpjokfbaaaGreatDoor
open Go.ChangeShapes Go.WideShapes Go.ChangeAt Go.RowKit
set_option linter.unusedVariables false

/-- A box that was made, empty, behind a world. -/
def BoxAt (W1 w : World) (P : Nat) : Prop := W1.heap.size ≤ P ∧ P < w.heap.size ∧ w.cell? ⟨P, 0, none⟩ = some (.slice none 0 0) ∧ w.cell? ⟨P, 1, none⟩ = some (.slice none 0 0) ∧ w.frozen? ⟨P, 0, none⟩ = false ∧ w.frozen? ⟨P, 1, none⟩ = false
theorem BoxAt.keep {W1 w w' : World} {P : Nat} (h : BoxAt W1 w P) (hb : Below w.heap.size w w') : BoxAt W1 w' P := by
  obtain ⟨h1, h2, h3, h4, h5, h6⟩ := h
  exact ⟨h1, Nat.lt_of_lt_of_le h2 hb.size, (hb.cell (p := ⟨P, 0, none⟩) h2).trans h3, (hb.cell (p := ⟨P, 1, none⟩) h2).trans h4, (hb.frozen (p := ⟨P, 0, none⟩) h2).trans h5, (hb.frozen (p := ⟨P, 1, none⟩) h2).trans h6⟩
theorem boxAt_alloc {W1 v : World} (h : Below W1.heap.size W1 v) : BoxAt W1 (v.alloc (.cells #[.slice none 0 0, .slice none 0 0] 36)) v.heap.size :=
  ⟨h.size, by simp, by simp [go_sem], by simp [go_sem], by simp [go_sem], by simp [go_sem]⟩
theorem mine_keep {w w' : World} {b o n : Nat} (h : Mine w b o n) (hb : Below w.heap.size w w') : Mine w' b o n := mine_block h hb.size (hb.block b h.1)
theorem appR_few {p : List EN} {l bs : List Int} {s t : List (Int × Int)} {c : Int} : (appR p l s t c bs).1.length ≤ 120 ∧ (appR p l s t c bs).2.length = (appR p l s t c bs).1.length ∧ ∀ i, i < (appR p l s t c bs).1.length → ((appR p l s t c bs).1.getD i e0).2.2.length ≤ 3 := by
  unfold appR
  split
  · exact mergeR_few
  · exact ⟨by simp, rfl, fun i hi => absurd hi (Nat.not_lt_zero _)⟩
set_option maxHeartbeats 25600000 in
set_option maxRecDepth 20000 in
theorem applyLaw_any (a b : Option Addr) (len cap lb cb : Nat) (p : List EN) (l : List Int) (sa : Option Addr) (sl sc : Nat) (s : List (Int × Int)) (ta : Option Addr) (tl tc : Nat) (t : List (Int × Int)) (c : Int) (ba : Option Addr) (bl bc : Nat) (bs : List Int) (w : World) (hT : Tab w) (h : ESl w a len p) (hl : Sl w b lb l) (hs : NSl w sa sl s) (ht : NSl w ta tl t) (hv : Sl w ba bl bs) (hI : InE p) (hIs : ∀ k, k < s.length → InI (s.getD k (0, 0)).2) (hIt : ∀ k, k < t.length → InI (t.getD k (0, 0)).2) (hm : len ≤ 9223372036854775807) (hm2 : lb ≤ 9223372036854775807) (hm3 : sl ≤ 9223372036854775807) (hm4 : tl ≤ 9223372036854775807) (hm5 : bl ≤ 9223372036854775807) :
    Calls Tryz.prog 3 #[.agg #[.slice a len cap, .slice b lb cb], .agg #[.slice sa sl sc, .slice ta tl tc], .agg #[.int .i64 c, .slice ba bl bc]] w fun e w' => e = .returned (.bool true) ∧ Below w.heap.size w w' := by
  have hll := h.1
  have hl1 := hl.1
  obtain ⟨W1, hW1⟩ : ∃ W1, ((w.alloc (.cells #[.slice a len cap, .slice b lb cb] 25)).alloc (.cells #[.slice sa sl sc, .slice ta tl tc] 28)).alloc (.cells #[.int .i64 c, .slice ba bl bc] 30) = W1 := ⟨_, rfl⟩
  have hb1 : Below w.heap.size w W1 := by rw [← hW1]; exact (((Below.refl _ _).alloc (Nat.le_refl _) _).alloc (by simp) _).alloc (by simp; omega) _
  have hs1 : W1.heap.size = w.heap.size + 3 := by rw [← hW1]; simp
  have n0 : W1.cell? ⟨w.heap.size, 0, none⟩ = some (.slice a len cap) := by rw [← hW1]; simp [go_sem]
  have n1 : W1.cell? ⟨w.heap.size, 1, none⟩ = some (.slice b lb cb) := by rw [← hW1]; simp [go_sem]
  have n2 : W1.cell? ⟨w.heap.size + 1, 0, none⟩ = some (.slice sa sl sc) := by rw [← hW1]; simp [go_sem]
  have n3 : W1.cell? ⟨w.heap.size + 1, 1, none⟩ = some (.slice ta tl tc) := by rw [← hW1]; simp [go_sem]
  have n4 : W1.cell? ⟨w.heap.size + 2, 0, none⟩ = some (.int .i64 c) := by rw [← hW1]; simp [go_sem]
  have n5 : W1.cell? ⟨w.heap.size + 2, 1, none⟩ = some (.slice ba bl bc) := by rw [← hW1]; simp [go_sem]
  have HZ := (show Hid _ from szG_any a b len cap lb cb p l 1048576 W1 (h.keep hb1) (hl.keep hb1) (by omega) hm hm2)
  have HF : Hid (∀ W, Below W1.heap.size W1 W → Below w.heap.size w W ∧ Tab W) := fun W hW => ⟨hb1.trans (hW.mono hb1.size), (hT.keeps hb1).keeps hW⟩
  have HF6 : Hid (∀ W, Below W1.heap.size W1 W → W.cell? ⟨w.heap.size, 0, none⟩ = some (.slice a len cap) ∧ W.cell? ⟨w.heap.size, 1, none⟩ = some (.slice b lb cb) ∧ W.cell? ⟨w.heap.size + 1, 0, none⟩ = some (.slice sa sl sc) ∧ W.cell? ⟨w.heap.size + 1, 1, none⟩ = some (.slice ta tl tc) ∧ W.cell? ⟨w.heap.size + 2, 0, none⟩ = some (.int .i64 c) ∧ W.cell? ⟨w.heap.size + 2, 1, none⟩ = some (.slice ba bl bc)) := fun W hW => ⟨(hW.cell (p := ⟨w.heap.size, 0, none⟩) (by show w.heap.size < _; omega)).trans n0, (hW.cell (p := ⟨w.heap.size, 1, none⟩) (by show w.heap.size < _; omega)).trans n1, (hW.cell (p := ⟨w.heap.size + 1, 0, none⟩) (by show w.heap.size + 1 < _; omega)).trans n2, (hW.cell (p := ⟨w.heap.size + 1, 1, none⟩) (by show w.heap.size + 1 < _; omega)).trans n3, (hW.cell (p := ⟨w.heap.size + 2, 0, none⟩) (by show w.heap.size + 2 < _; omega)).trans n4, (hW.cell (p := ⟨w.heap.size + 2, 1, none⟩) (by show w.heap.size + 2 < _; omega)).trans n5⟩
  rcases szG_all p l with hz | ⟨z0, z1, z2, z3, z4⟩
  · rw [hz] at HZ
    clear h hl hb1 ht hz hs hv hs1 hT hI hIs hIt HF6
    go_enter Tryz.func3, Tryz.ntmps3
    go_wp2_with fail
    (try rw [hW1])
    refine Calls.mono HZ.out ?_
    rintro e w2 ⟨rfl, hb2⟩
    clear HZ hW1
    go_wp2
    go_ret
    exact ⟨rfl, (HF.out _ hb2).1⟩
  obtain ⟨sN, hsN⟩ : ∃ sN : Nat, szG 1048576 p l = sN := ⟨(szG 1048576 p l).toNat, by omega⟩
  have hst := szG_marks p l z0
  rw [hll, hl1] at hst
  rw [hsN] at HZ z0 z1
  have hz : ¬ (sN : Int) < 0 := by omega
  have hn1 : len ≤ 1048576 := by omega
  have hn2 : lb ≤ 1048576 := by omega
  have hsm : sN ≤ 1048576 := by omega
  rw [hll] at z4
  have HZ2 : Hid (∀ W, Calls Tryz.prog 5 #[.agg #[.slice sa sl sc, .slice ta tl tc], .int .i64 sN] W fun e w' => e = .returned (.int .i64 (szRV sN sl tl)) ∧ Below W.heap.size W w') := fun W => szR_any sa ta sl sc tl tc sN W hsm hm3 hm4
  by_cases hfit : sl + tl ≤ sN
  case neg =>
    have hzr : szRV sN sl tl = -1 := by unfold szRV; rw [if_neg hfit]
    rw [hzr] at HZ2
    clear h hl hb1 ht hs hv hs1 hT hI hIs hIt hll hl1 z0 z1 z2 z3 z4 hn1 hn2 hsN hst hsm hfit hzr
    go_enter Tryz.func3, Tryz.ntmps3
    go_wp2_with fail
    (try rw [hW1])
    refine Calls.mono HZ.out ?_
    rintro e w2 ⟨rfl, hb2⟩
    obtain ⟨q0, q1, q2, q3, q4, q5⟩ := HF6.out w2 hb2
    clear HZ hW1
    go_wp2_with fail
    refine Calls.mono (HZ2.out _) ?_
    rintro e w3 ⟨rfl, hb3⟩
    have HB3 := (show Hid _ from (HF.out _ (hb2.trans (hb3.mono hb2.size))).1)
    clear HZ2 hb2 hb3 q0 q1 q2 q3 q4 q5
    go_wp2
    go_ret
    exact ⟨rfl, HB3.out⟩
  have hzr : szRV sN sl tl = ((sN - (sl + tl) : Nat) : Int) := by unfold szRV; rw [if_pos hfit]; omega
  rw [hzr] at HZ2
  obtain ⟨s2, hs2⟩ : ∃ s2 : Nat, sN - (sl + tl) = s2 := ⟨_, rfl⟩
  rw [hs2] at HZ2
  have hz2 : ¬ (s2 : Int) < 0 := by omega
  have hsn : sl ≤ 1048576 := by omega
  have htn : tl ≤ 1048576 := by omega
  have HZ3 : Hid (∀ W, Calls Tryz.prog 6 #[.agg #[.int .i64 c, .slice ba bl bc], .int .i64 s2] W fun e w' => e = .returned (.int .i64 (szV s2 bl)) ∧ Below W.heap.size W w') := fun W => szFo_any c ba bl bc s2 W ⟨by omega, by omega⟩ hm5
  rcases szV_cases (s2 : Int) bl (by omega) (by omega) with ⟨e1, e2⟩ | ⟨e1, e2, e3⟩
  · rw [e1] at HZ3
    clear h hl hb1 ht hs hv hs1 hT hI hIs hIt hll hl1 z0 z1 z2 z3 z4 hn1 hn2 hsN hst hsm hfit hzr hs2 hsn htn e1 e2
    go_enter Tryz.func3, Tryz.ntmps3
    go_wp2_with fail
    (try rw [hW1])
    refine Calls.mono HZ.out ?_
    rintro e w2 ⟨rfl, hb2⟩
    obtain ⟨q0, q1, q2, q3, q4, q5⟩ := HF6.out w2 hb2
    clear HZ hW1 n0 n1 n2 n3 n4 n5
    go_wp2_with fail
    refine Calls.mono (HZ2.out _) ?_
    rintro e w3 ⟨rfl, hb3⟩
    have hB3 := hb2.trans (hb3.mono hb2.size)
    clear HZ2 hb2 hb3 q0 q1 q2 q3 q4 q5
    obtain ⟨q0, q1, q2, q3, q4, q5⟩ := HF6.out w3 hB3
    go_wp2_with fail
    refine Calls.mono (HZ3.out _) ?_
    rintro e w4 ⟨rfl, hb4⟩
    have HB4 := (show Hid _ from (HF.out _ (hB3.trans (hb4.mono hB3.size))).1)
    clear HZ3 hB3 hb4 q0 q1 q2 q3 q4 q5
    go_wp2
    go_ret
    exact ⟨rfl, HB4.out⟩
  have hz3 : ¬ szV (s2 : Int) bl < 0 := by omega
  have hbn : bl ≤ 1048576 := by omega
  generalize szV (s2 : Int) bl = s3 at HZ3 hz3
  have HC : Hid (∀ W, Below W1.heap.size W1 W → Calls Tryz.prog 8 #[.agg #[.slice a len cap, .slice b lb cb]] W fun e w' => ∃ g gp hi, e = .returned (.agg #[.slice (some ⟨g, 0, none⟩) len len, .slice (some ⟨gp, 0, none⟩) lb lb]) ∧ Below W.heap.size W w' ∧ ESl w' (some ⟨g, 0, none⟩) len p ∧ Sl w' (some ⟨gp, 0, none⟩) lb l ∧ W.heap.size ≤ g ∧ EMine w' g hi g len p ∧ hi ≤ gp ∧ MineI w' gp lb) := fun W hW => (copyG_any a b len cap lb cb p l W ((h.keep hb1).keep hW) ((hl.keep hb1).keep hW) hn1 z4 hn2).mono fun e w' ⟨g, gp, hi, r1, r2, r3, r4, r5, r6, r7⟩ => ⟨g, gp, hi, r1, r2, r4.esl (fun i hi => by have := z4 i hi; omega), r7, r3, r4, r5, r6⟩
  have HCR : Hid (∀ W, Below W1.heap.size W1 W → Calls Tryz.prog 9 #[.agg #[.slice sa sl sc, .slice ta tl tc]] W fun e w' => ∃ g gp, e = .returned (.agg #[.slice (some ⟨g, 0, none⟩) sl sl, .slice (some ⟨gp, 0, none⟩) tl tl]) ∧ Below W.heap.size W w' ∧ NSl w' (some ⟨g, 0, none⟩) sl s ∧ NSl w' (some ⟨gp, 0, none⟩) tl t ∧ Mine w' g 0 sl ∧ Mine w' gp 0 tl ∧ W.heap.size ≤ g ∧ g < gp) := fun W hW => copyR_mine sa ta sl sc tl tc s t W ((hs.keep hb1).keep hW) ((ht.keep hb1).keep hW) hsn htn
  have HCF : Hid (∀ W, Below W1.heap.size W1 W → Calls Tryz.prog 10 #[.agg #[.int .i64 c, .slice ba bl bc]] W fun e w' => ∃ g, e = .returned (.agg #[.int .i64 c, .slice (some ⟨g, 0, none⟩) bl bl]) ∧ Below W.heap.size W w' ∧ Sl w' (some ⟨g, 0, none⟩) bl bs ∧ MineI w' g bl ∧ W.heap.size ≤ g) := fun W hW => toFo_mine c ba bl bc bs W ((hv.keep hb1).keep hW) hbn
  have HSp : Hid (∀ W, Below W1.heap.size W1 W → ∀ (g gp gr gq gx : Nat), ESl W (some ⟨g, 0, none⟩) len p → Sl W (some ⟨gp, 0, none⟩) lb l → NSl W (some ⟨gr, 0, none⟩) sl s → NSl W (some ⟨gq, 0, none⟩) tl t → Sl W (some ⟨gx, 0, none⟩) bl bs → Calls Tryz.prog 7 #[.agg #[.slice (some ⟨g, 0, none⟩) len len, .slice (some ⟨gp, 0, none⟩) lb lb], .agg #[.slice (some ⟨gr, 0, none⟩) sl sl, .slice (some ⟨gq, 0, none⟩) tl tl], .agg #[.int .i64 c, .slice (some ⟨gx, 0, none⟩) bl bl]] W fun e w' => ∃ sa1 sca sb1 scb, e = .returned (.tuple #[.agg #[.slice sa1 (appR p l s t c bs).1.length sca, .slice sb1 (appR p l s t c bs).2.length scb], .bool (appOk p l s t c bs)]) ∧ Safe w' (fun x => W.heap.size ≤ x) (.slice sa1 (appR p l s t c bs).1.length sca) (.slice sb1 (appR p l s t c bs).2.length scb) (appR p l s t c bs) ∧ Below W.heap.size W w') := fun W _ g gp gr gq gx h1 h2 h3 h4 h5 => (specApply_any _ _ len len lb lb p l _ sl sl s _ tl tl t c _ bl bl bs W h1 h2 h3 h4 h5 hm hm2 hm3 hm4 hm5).mono fun e w' ⟨va, vb, r1, r2, r3⟩ => by
    obtain ⟨a', ca', b', cb', f1, f2, -⟩ := r2 w' (Nat.le_refl _) (fun _ _ _ => rfl)
    subst f1
    subst f2
    exact ⟨a', ca', b', cb', r1, r2, r3⟩
  have HIm : Hid (∀ W, Below W1.heap.size W1 W → ∀ (g gp gr gq gx : Nat), ESl W (some ⟨g, 0, none⟩) len p → Sl W (some ⟨gp, 0, none⟩) lb l → NSl W (some ⟨gr, 0, none⟩) sl s → NSl W (some ⟨gq, 0, none⟩) tl t → Sl W (some ⟨gx, 0, none⟩) bl bs → Calls Tryz.prog 11 #[.agg #[.slice (some ⟨g, 0, none⟩) len len, .slice (some ⟨gp, 0, none⟩) lb lb], .agg #[.slice (some ⟨gr, 0, none⟩) sl sl, .slice (some ⟨gq, 0, none⟩) tl tl], .agg #[.int .i64 c, .slice (some ⟨gx, 0, none⟩) bl bl]] W fun e w' => ∃ va vb, e = .returned (.tuple #[.agg #[va, vb], .bool (appOk p l s t c bs)]) ∧ AnsI w' (fun x => W.heap.size ≤ x) va vb (appR p l s t c bs) ∧ Below W.heap.size W w') := fun W hW g gp gr gq gx h1 h2 h3 h4 h5 => implApply_any _ _ len len lb lb p l _ sl sl s _ tl tl t c _ bl bl bs W (HF.out W hW).2 h1 h2 h3 h4 h5 hI hIs hIt hm2 hm3 hm4 hm5
  have HQ : Hid (∀ W (g gp g' gp' : Nat), ESl W (some ⟨g, 0, none⟩) len p → Sl W (some ⟨gp, 0, none⟩) lb l → ESl W (some ⟨g', 0, none⟩) len p → Sl W (some ⟨gp', 0, none⟩) lb l → Calls Tryz.prog 12 #[.agg #[.slice (some ⟨g, 0, none⟩) len len, .slice (some ⟨gp, 0, none⟩) lb lb], .agg #[.slice (some ⟨g', 0, none⟩) len len, .slice (some ⟨gp', 0, none⟩) lb lb]] W fun e w' => e = .returned (.bool true) ∧ Below W.heap.size W w') := fun W g gp g' gp' h1 h2 h3 h4 => eqG_same _ _ _ _ len len len lb lb lb p l W h1 h3 h2 h4 hn1 z4 hn2
  have HQR : Hid (∀ W (g gp g' gp' : Nat), NSl W (some ⟨g, 0, none⟩) sl s → NSl W (some ⟨gp, 0, none⟩) tl t → NSl W (some ⟨g', 0, none⟩) sl s → NSl W (some ⟨gp', 0, none⟩) tl t → Calls Tryz.prog 13 #[.agg #[.slice (some ⟨g, 0, none⟩) sl sl, .slice (some ⟨gp, 0, none⟩) tl tl], .agg #[.slice (some ⟨g', 0, none⟩) sl sl, .slice (some ⟨gp', 0, none⟩) tl tl]] W fun e w' => e = .returned (.bool true) ∧ Below W.heap.size W w') := fun W g gp g' gp' h1 h2 h3 h4 => eqR_same _ _ _ _ sl sl sl tl tl tl s t W h1 h3 h2 h4 hsn htn
  have HQF : Hid (∀ W (g g' : Nat), Sl W (some ⟨g, 0, none⟩) bl bs → Sl W (some ⟨g', 0, none⟩) bl bs → Calls Tryz.prog 14 #[.agg #[.int .i64 c, .slice (some ⟨g, 0, none⟩) bl bl], .agg #[.int .i64 c, .slice (some ⟨g', 0, none⟩) bl bl]] W fun e w' => e = .returned (.bool true) ∧ Below W.heap.size W w') := fun W g g' h1 h2 => eqFo_same c _ _ bl bl bl bs W h1 h2 hbn
  have hfw := @appR_few p l bs s t c
  obtain ⟨A, hA⟩ : ∃ A, appR p l s t c bs = A := ⟨_, rfl⟩
  rw [hA] at HSp HIm hfw
  have HQA : Hid (∀ W (u1 u2 v1 v2 : Value), ReadG W u1 u2 A → ReadG W v1 v2 A → Calls Tryz.prog 12 #[.agg #[u1, u2], .agg #[v1, v2]] W fun e w' => e = .returned (.bool true) ∧ Below W.heap.size W w') := fun W u1 u2 v1 v2 h1 h2 => eqA_any u1 u2 v1 v2 A W h1 h2 hfw.1 hfw.2.1 hfw.2.2
  have HMG : Hid (∀ W (g gp hi : Nat), EMine W g hi g len p → hi ≤ gp → MineI W gp lb → Calls Tryz.prog 15 #[.agg #[.slice (some ⟨g, 0, none⟩) len len, .slice (some ⟨gp, 0, none⟩) lb lb], .int .i64 1] W fun e w' => e = .returned (.int .i64 (stE 1 p len + lb : Nat)) ∧ TurnE g (gp + 1) W w') := fun W g gp hi h1 h2 h3 => markG_any hi g len len gp lb lb p W h1 h2 h3 (by omega) z4 hn1 hn2
  have hk0 : stE 1 p len + lb ≤ 3145729 := hst
  obtain ⟨K0, hK0⟩ : ∃ K0 : Nat, stE 1 p len + lb = K0 := ⟨_, rfl⟩
  rw [hK0] at HMG hk0
  have HMR : Hid (∀ W (g gp : Nat), Mine W g 0 sl → Mine W gp 0 tl → g < gp → Calls Tryz.prog 16 #[.agg #[.slice (some ⟨g, 0, none⟩) sl sl, .slice (some ⟨gp, 0, none⟩) tl tl], .int .i64 (K0 : Int)] W fun e w' => e = .returned (.int .i64 (K0 + 2 * sl + 2 * tl : Nat)) ∧ TurnE g (gp + 1) W w') := fun W g gp h1 h2 h3 => markRM_any g gp sl tl sl tl K0 W h1 h2 h3 hsn htn (by omega)
  obtain ⟨K1, hK1⟩ : ∃ K1 : Nat, K0 + 2 * sl + 2 * tl = K1 := ⟨_, rfl⟩
  rw [hK1] at HMR
  have HMF : Hid (∀ W (g : Nat), MineI W g bl → Calls Tryz.prog 17 #[.agg #[.int .i64 c, .slice (some ⟨g, 0, none⟩) bl bl], .int .i64 (K1 : Int)] W fun e w' => e = .returned (.int .i64 (K1 + bl : Nat)) ∧ TurnE g (g + 1) W w') := fun W g h1 => markFo_any c g bl bl K1 W h1 hbn (by omega)
  obtain ⟨K2, hK2⟩ : ∃ K2 : Nat, K1 + bl = K2 := ⟨_, rfl⟩
  rw [hK2] at HMF
  have hk1 : ¬ (K2 : Int) < 0 := by omega
  have HMA : Hid (∀ W va vb (S : Nat → Prop), AnsI W S va vb A → Calls Tryz.prog 15 #[.agg #[va, vb], .int .i64 1] W fun e w' => e = .returned (.int .i64 ((ansK A : Nat) : Int)) ∧ KB S W w' ∧ HeldG w' va vb A) := fun W va vb S h1 => markA_any va vb A S W h1
  have HHA : Hid (∀ W va vb, HeldG W va vb A → Calls Tryz.prog 18 #[.agg #[va, vb], .int .i64 1] W fun e w' => e = .returned (.int .i64 ((ansK A : Nat) : Int)) ∧ Below W.heap.size W w') := fun W va vb h1 => heldA_any va vb A W h1
  obtain ⟨zq, hzq⟩ : ∃ zq : Int, ((ansK A : Nat) : Int) = zq := ⟨_, rfl⟩
  have hq1 : ¬ zq < 0 := by omega
  have hqq : (zq != zq) = false := by simp
  rw [hzq] at HMA HHA
  generalize appOk p l s t c bs = B at HSp HIm
  have hBB : (B != B) = false := by simp
  clear h hl hb1 hll hl1 z0 z1 z2 z3 z4 hn1 hn2 hI hIs hIt hs ht hv hT hsN hst hsm hfit hzr hs2 hsn htn e1 e2 e3 hbn hfw hA hK0 hK1 hK2 hzq hk0 hs1
  go_enter Tryz.func3, Tryz.ntmps3
  go_wp2_with fail
  (try rw [hW1])
  refine Calls.mono HZ.out ?_
  rintro e w2 ⟨rfl, hb2⟩
  obtain ⟨q0, q1, q2, q3, q4, q5⟩ := HF6.out w2 hb2
  clear HZ hW1 n0 n1 n2 n3 n4 n5
  go_wp2_with fail
  refine Calls.mono (HZ2.out _) ?_
  rintro e w3' ⟨rfl, hb3⟩
  have hB3 := hb2.trans (hb3.mono hb2.size)
  clear HZ2 hb2 hb3 q0 q1 q2 q3 q4 q5
  obtain ⟨q0, q1, q2, q3, q4, q5⟩ := HF6.out w3' hB3
  go_wp2_with fail
  refine Calls.mono (HZ3.out _) ?_
  rintro e w3 ⟨rfl, hb4⟩
  have HBd : Hid (Below W1.heap.size W1 w3) := hB3.trans (hb4.mono hB3.size)
  clear HZ3 hB3 hb4 q0 q1 q2 q3 q4 q5
  go_upto_region 11 with fail
  have HAx := (show Hid _ from HSp.out)
  go_cut [8, 9] from 35 to 45 (fun s0 s1 wx => ∃ (bx : Nat) (sa1 : Option Addr) (sca : Nat) (sb1 : Option Addr) (scb : Nat), s0 = .pointer (some ⟨bx, 0, none⟩) ∧ s1 = .bool B ∧ EndR W1 wx bx (.slice sa1 A.1.length sca) (.slice sb1 A.2.length scb) A)
  case first =>
    have hBd : Below W1.heap.size W1 w3.drew := HBd.out.drew
    have hBdA : Below W1.heap.size W1 (w3.drew.alloc (.cells #[.slice none 0 0, .slice none 0 0] 36)) := hBd.alloc hBd.size _
    have HQx := fun W hW => (HF6.out W hW)
    have zD := HQx w3.drew hBd
    have sA := fun o : Obj => HQx (w3.drew.alloc o) (hBd.alloc hBd.size o)
    go_region_held3 (fun w' => w'.cell? ⟨w.heap.size, 0, none⟩ = some (.slice a len cap) ∧ w'.cell? ⟨w.heap.size, 1, none⟩ = some (.slice b lb cb) ∧ w'.cell? ⟨w.heap.size + 1, 0, none⟩ = some (.slice sa sl sc) ∧ w'.cell? ⟨w.heap.size + 1, 1, none⟩ = some (.slice ta tl tc) ∧ w'.cell? ⟨w.heap.size + 2, 0, none⟩ = some (.int .i64 c) ∧ w'.cell? ⟨w.heap.size + 2, 1, none⟩ = some (.slice ba bl bc))
      (first | assumption | exact sA _ | exact sB _ | exact sC _ | exact sD _ | exact sE _ | exact sS _ _)
      (first
      | (go_at_call 8; first
          | (refine Calls.mono (HC.out w3.drew hBd) ?_; rintro e v3 ⟨g, gp, hi, rfl, hb3, hE3, hS3, -⟩; have hB3 : Below W1.heap.size W1 v3 := hBd.trans (hb3.mono hBd.size); have z3 := HQx v3 hB3; have sB := fun o : Obj => HQx (v3.alloc o) (hB3.alloc hB3.size o))
          | (refine Calls.mono (HC.out (w3.drew.alloc (.cells #[.slice none 0 0, .slice none 0 0] 36)) hBdA) ?_; rintro e v3 ⟨g, gp, hi, rfl, hb3, hE3, hS3, -⟩; have hB3 : Below W1.heap.size W1 v3 := hBdA.trans (hb3.mono hBdA.size); have hx3 : BoxAt W1 v3 w3.heap.size := (boxAt_alloc hBd).keep hb3; have z3 := HQx v3 hB3))
      | (go_at_call 9; first
          | (refine Calls.mono (HCR.out v3 hB3) ?_; rintro e v4 ⟨gr, gq, rfl, hb4, hN4, hM4, -⟩; have hB4 : Below W1.heap.size W1 v4 := hB3.trans (hb4.mono hB3.size); have hE4 := hE3.keep hb4; have hS4 := hS3.keep hb4; have z4 := HQx v4 hB4; first | (revert hx3; intro hx3; have hx4 := hx3.keep hb4) | (have sC := fun o : Obj => HQx (v4.alloc o) (hB4.alloc hB4.size o)))
          | (refine Calls.mono (HCR.out (v3.alloc (.cells #[.slice none 0 0, .slice none 0 0] 36)) (hB3.alloc hB3.size _)) ?_; rintro e v4 ⟨gr, gq, rfl, hb4, hN4, hM4, -⟩; have hB4 : Below W1.heap.size W1 v4 := (hB3.alloc hB3.size _).trans (hb4.mono (hB3.alloc hB3.size _).size); have hE4 := (hE3.keep (alloc_below v3 (.cells #[.slice none 0 0, .slice none 0 0] 36))).keep hb4; have hS4 := (hS3.keep (alloc_below v3 (.cells #[.slice none 0 0, .slice none 0 0] 36))).keep hb4; have z4 := HQx v4 hB4; have hx4 : BoxAt W1 v4 v3.heap.size := (boxAt_alloc hB3).keep hb4))
      | (go_at_call 10; first
          | (refine Calls.mono (HCF.out v4 hB4) ?_; rintro e v5 ⟨gx, rfl, hb5, hX5, -⟩; have hB5 : Below W1.heap.size W1 v5 := hB4.trans (hb5.mono hB4.size); have hE5 := hE4.keep hb5; have hS5 := hS4.keep hb5; have hN5 := hN4.keep hb5; have hM5 := hM4.keep hb5; have z5 := HQx v5 hB5; first | (revert hx4; intro hx4; have hx5 := hx4.keep hb5) | (have sD := fun o : Obj => HQx (v5.alloc o) (hB5.alloc hB5.size o)))
          | (refine Calls.mono (HCF.out (v4.alloc (.cells #[.slice none 0 0, .slice none 0 0] 36)) (hB4.alloc hB4.size _)) ?_; rintro e v5 ⟨gx, rfl, hb5, hX5, -⟩; have hB5 : Below W1.heap.size W1 v5 := (hB4.alloc hB4.size _).trans (hb5.mono (hB4.alloc hB4.size _).size); have hE5 := (hE4.keep (alloc_below v4 (.cells #[.slice none 0 0, .slice none 0 0] 36))).keep hb5; have hS5 := (hS4.keep (alloc_below v4 (.cells #[.slice none 0 0, .slice none 0 0] 36))).keep hb5; have hN5 := (hN4.keep (alloc_below v4 (.cells #[.slice none 0 0, .slice none 0 0] 36))).keep hb5; have hM5 := (hM4.keep (alloc_below v4 (.cells #[.slice none 0 0, .slice none 0 0] 36))).keep hb5; have z5 := HQx v5 hB5; have hx5 : BoxAt W1 v5 v4.heap.size := (boxAt_alloc hB4).keep hb5))
      | (go_at_call 7; first
          | (refine Calls.mono (HAx.out v5 hB5 _ _ _ _ _ hE5 hS5 hN5 hM5 hX5) ?_; rintro e v6 ⟨sa1, sca, sb1, scb, rfl, hR6, hb6⟩; have hB6 : Below W1.heap.size W1 v6 := hB5.trans (hb6.mono hB5.size); have z6 := HQx v6 hB6; first
              | (revert hx5; intro hx5; have hy5 := hx5; obtain ⟨p0, p1, p2, p3, p4, p5⟩ := hx5.keep hb6; have sS := fun u0 u1 : Value => HQx ((v6.setCell ⟨_, 0, none⟩ u0).setCell ⟨_, 1, none⟩ u1) ((hB6.setCell (p := ⟨_, 0, none⟩) p0 u0).setCell (p := ⟨_, 1, none⟩) p0 u1))
              | (have sE := fun o : Obj => HQx (v6.alloc o) (hB6.alloc hB6.size o)))
          | (refine Calls.mono (HAx.out (v5.alloc (.cells #[.slice none 0 0, .slice none 0 0] 36)) (hB5.alloc hB5.size _) _ _ _ _ _ (hE5.keep (alloc_below v5 (.cells #[.slice none 0 0, .slice none 0 0] 36))) (hS5.keep (alloc_below v5 (.cells #[.slice none 0 0, .slice none 0 0] 36))) (hN5.keep (alloc_below v5 (.cells #[.slice none 0 0, .slice none 0 0] 36))) (hM5.keep (alloc_below v5 (.cells #[.slice none 0 0, .slice none 0 0] 36))) (hX5.keep (alloc_below v5 (.cells #[.slice none 0 0, .slice none 0 0] 36)))) ?_; rintro e v6 ⟨sa1, sca, sb1, scb, rfl, hR6, hb6⟩; have hB6 : Below W1.heap.size W1 v6 := (hB5.alloc hB5.size _).trans (hb6.mono (hB5.alloc hB5.size _).size); have z6 := HQx v6 hB6; have hy5 : BoxAt W1 (v5.alloc (.cells #[.slice none 0 0, .slice none 0 0] 36)) v5.heap.size := boxAt_alloc hB5; obtain ⟨p0, p1, p2, p3, p4, p5⟩ := hy5.keep hb6; have sS := fun u0 u1 : Value => HQx ((v6.setCell ⟨v5.heap.size, 0, none⟩ u0).setCell ⟨v5.heap.size, 1, none⟩ u1) ((hB6.setCell (p := ⟨v5.heap.size, 0, none⟩) p0 u0).setCell (p := ⟨v5.heap.size, 1, none⟩) p0 u1))))
    all_goals
      go_wp2_with fail
      go_meet
      first
        | exact ⟨_, _, _, _, _, rfl, rfl, endR_alloc hB6 hR6⟩
        | exact ⟨_, _, _, _, _, rfl, rfl, endR_set hB6 hR6 (fun b' hb' => nhi hb' hy5.2.1) p2 p3 p0 p1⟩
  case rest =>
  obtain ⟨B6, sa1, sca, sb1, scb, rfl, rfl, hE6⟩ := hcut
  obtain ⟨W6, hW6⟩ : ∃ W6, W6 = wc := ⟨_, rfl⟩
  subst hW6
  obtain ⟨hB6, hR6, u0, u1, hs6⟩ := hE6
  have H6 : Hid (∀ W, Below W6.heap.size W6 W → Below W1.heap.size W1 W ∧ W.cell? ⟨B6, 0, none⟩ = some (.slice sa1 A.1.length sca) ∧ W.cell? ⟨B6, 1, none⟩ = some (.slice sb1 A.2.length scb) ∧ ReadG W (.slice sa1 A.1.length sca) (.slice sb1 A.2.length scb) A) := fun W hW => ⟨hB6.trans (hW.mono hB6.size), (hW.cell (p := ⟨B6, 0, none⟩) hs6).trans u0, (hW.cell (p := ⟨B6, 1, none⟩) hs6).trans u1, hR6.keep hW⟩
  obtain ⟨q0, q1, -⟩ := HF6.out W6 hB6
  have HC6 := (show Hid _ from HC.out W6 hB6)
  clear HAx HBd hR6 u0 u1 hs6 hB6 HSp
  go_wp2_with fail
  refine Calls.mono HC6.out ?_
  rintro e w7 ⟨g2, gp2, hi2, rfl, hb7, hE7, hS7, hg7, hM7, hh7, hI7⟩
  clear HC6 q0 q1
  -- the graph that is handed over, in its box
  obtain ⟨W8, hW8⟩ : ∃ W8, w7.alloc (.cells #[.slice (some ⟨g2, 0, none⟩) len len, .slice (some ⟨gp2, 0, none⟩) lb lb] 36) = W8 := ⟨_, rfl⟩
  have hb8 : Below w7.heap.size w7 W8 := by rw [← hW8]; exact (Below.refl _ _).alloc (Nat.le_refl _) _
  have t0 : W8.cell? ⟨w7.heap.size, 0, none⟩ = some (.slice (some ⟨g2, 0, none⟩) len len) := by rw [← hW8]; simp [go_sem]
  have t1 : W8.cell? ⟨w7.heap.size, 1, none⟩ = some (.slice (some ⟨gp2, 0, none⟩) lb lb) := by rw [← hW8]; simp [go_sem]
  have hs8 : w7.heap.size < W8.heap.size := by rw [← hW8]; simp
  obtain ⟨B8, hB8e⟩ : ∃ B8, w7.heap.size = B8 := ⟨_, rfl⟩
  have hgpl : gp2 < B8 := by rw [← hB8e]; exact hI7.1
  have hgg : g2 ≤ gp2 := by have := hM7.2.2.1; omega
  rw [hB8e] at t0 t1 hs8
  have hB68 : Below W6.heap.size W6 W8 := hb7.trans (hb8.mono hb7.size)
  have HX8 : Hid (∀ W, Below W8.heap.size W8 W → Below W6.heap.size W6 W ∧ W.cell? ⟨B8, 0, none⟩ = some (.slice (some ⟨g2, 0, none⟩) len len) ∧ W.cell? ⟨B8, 1, none⟩ = some (.slice (some ⟨gp2, 0, none⟩) lb lb) ∧ ESl W (some ⟨g2, 0, none⟩) len p ∧ Sl W (some ⟨gp2, 0, none⟩) lb l ∧ EMine W g2 hi2 g2 len p ∧ hi2 ≤ gp2 ∧ MineI W gp2 lb) := fun W hW => ⟨hB68.trans (hW.mono hB68.size), (hW.cell (p := ⟨B8, 0, none⟩) hs8).trans t0, (hW.cell (p := ⟨B8, 1, none⟩) hs8).trans t1, (hE7.keep hb8).keep hW, (hS7.keep hb8).keep hW, (hM7.keep hb8).keep hW, hh7, (hI7.keep hb8).keep hW⟩
  have HCR8 := (show Hid _ from HCR.out W8 (H6.out W8 hB68).1)
  obtain ⟨-, -, q2, q3, -⟩ := HF6.out W8 (H6.out W8 hB68).1
  have hg6 : W6.heap.size ≤ g2 := hg7
  clear hb7 hb8 t0 t1 hE7 hS7 hM7 hh7 hI7 hB68 hg7
  go_wp2_with fail
  (try rw [hW8])
  (try rw [hB8e])
  refine Calls.mono HCR8.out ?_
  rintro e v9 ⟨gr, gq, rfl, hbv9, hN9, hM9, hMr9, hMq9, hgr9, hgrq⟩
  have hgr8 : B8 < gr := by omega
  have hgql := hMq9.1
  -- the rule that is handed over, in its box
  obtain ⟨w9, hw9⟩ : ∃ w9, v9.alloc (.cells #[.slice (some ⟨gr, 0, none⟩) sl sl, .slice (some ⟨gq, 0, none⟩) tl tl] 42) = w9 := ⟨_, rfl⟩
  have hb9 : Below v9.heap.size v9 w9 := by rw [← hw9]; exact (Below.refl _ _).alloc (Nat.le_refl _) _
  have t2 : w9.cell? ⟨v9.heap.size, 0, none⟩ = some (.slice (some ⟨gr, 0, none⟩) sl sl) := by rw [← hw9]; simp [go_sem]
  have t3 : w9.cell? ⟨v9.heap.size, 1, none⟩ = some (.slice (some ⟨gq, 0, none⟩) tl tl) := by rw [← hw9]; simp [go_sem]
  have hs9 : v9.heap.size < w9.heap.size := by rw [← hw9]; simp
  obtain ⟨B9, hB9e⟩ : ∃ B9, v9.heap.size = B9 := ⟨_, rfl⟩
  rw [hB9e] at t2 t3 hs9 hgql
  have hb89 : Below W8.heap.size W8 w9 := hbv9.trans (hb9.mono hbv9.size)
  have HX9 : Hid (∀ W, Below w9.heap.size w9 W → Below W8.heap.size W8 W ∧ W.cell? ⟨B9, 0, none⟩ = some (.slice (some ⟨gr, 0, none⟩) sl sl) ∧ W.cell? ⟨B9, 1, none⟩ = some (.slice (some ⟨gq, 0, none⟩) tl tl) ∧ NSl W (some ⟨gr, 0, none⟩) sl s ∧ NSl W (some ⟨gq, 0, none⟩) tl t ∧ Mine W gr 0 sl ∧ Mine W gq 0 tl) := fun W hW => ⟨hb89.trans (hW.mono hb89.size), (hW.cell (p := ⟨B9, 0, none⟩) hs9).trans t2, (hW.cell (p := ⟨B9, 1, none⟩) hs9).trans t3, (hN9.keep hb9).keep hW, (hM9.keep hb9).keep hW, mine_keep (mine_keep hMr9 hb9) hW, mine_keep (mine_keep hMq9 hb9) hW⟩
  have h89 : W8.heap.size ≤ w9.heap.size := hb89.size
  have HCF9 := (show Hid _ from HCF.out w9 (H6.out w9 (HX8.out w9 hb89).1).1)
  obtain ⟨-, -, -, -, q4, q5⟩ := HF6.out w9 (H6.out w9 (HX8.out w9 hb89).1).1
  clear HCR8 hb9 hbv9 hN9 hM9 hMr9 hMq9 hb89 t2 t3 hW8 hB8e q2 q3 hgr9
  go_wp2_with fail
  (try rw [hw9])
  (try rw [hB9e])
  refine Calls.mono HCF9.out ?_
  rintro e v10 ⟨gx, rfl, hbv10, hX10, hMx10, hgx10⟩
  have hgx9 : B9 < gx := by omega
  have hgxl := hMx10.1
  -- the place that is handed over, in its box
  obtain ⟨w10, hw10⟩ : ∃ w10, v10.alloc (.cells #[.int .i64 c, .slice (some ⟨gx, 0, none⟩) bl bl] 44) = w10 := ⟨_, rfl⟩
  have hb10 : Below v10.heap.size v10 w10 := by rw [← hw10]; exact (Below.refl _ _).alloc (Nat.le_refl _) _
  have t4 : w10.cell? ⟨v10.heap.size, 0, none⟩ = some (.int .i64 c) := by rw [← hw10]; simp [go_sem]
  have t5 : w10.cell? ⟨v10.heap.size, 1, none⟩ = some (.slice (some ⟨gx, 0, none⟩) bl bl) := by rw [← hw10]; simp [go_sem]
  have hs10 : v10.heap.size < w10.heap.size := by rw [← hw10]; simp
  obtain ⟨B10, hB10e⟩ : ∃ B10, v10.heap.size = B10 := ⟨_, rfl⟩
  rw [hB10e] at t4 t5 hs10 hgxl
  have hb910 : Below w9.heap.size w9 w10 := hbv10.trans (hb10.mono hbv10.size)
  have HXX : Hid (∀ W, Below w10.heap.size w10 W → Below w9.heap.size w9 W ∧ W.cell? ⟨B10, 0, none⟩ = some (.int .i64 c) ∧ W.cell? ⟨B10, 1, none⟩ = some (.slice (some ⟨gx, 0, none⟩) bl bl) ∧ Sl W (some ⟨gx, 0, none⟩) bl bs ∧ MineI W gx bl) := fun W hW => ⟨hb910.trans (hW.mono hb910.size), (hW.cell (p := ⟨B10, 0, none⟩) hs10).trans t4, (hW.cell (p := ⟨B10, 1, none⟩) hs10).trans t5, (hX10.keep hb10).keep hW, (hMx10.keep hb10).keep hW⟩
  have h910 : w9.heap.size ≤ w10.heap.size := hb910.size
  have hW6X : Hid (W6.heap.size ≤ w10.heap.size) := by show _ ≤ _; omega
  have hXe : Hid (g2 ≤ w10.heap.size ∧ gp2 < w10.heap.size ∧ B8 < w10.heap.size ∧ gq < B9 ∧ B9 < w10.heap.size ∧ gx < B10 ∧ B10 < w10.heap.size) := by show _ ∧ _; omega
  obtain ⟨x9, x0, x1, x2, -⟩ := HXX.out w10 (Below.refl _ _)
  obtain ⟨y8, y0, y1, y2, y3, -⟩ := HX9.out w10 x9
  obtain ⟨z6, z0, z1, z2, z3, -⟩ := HX8.out w10 y8
  have HI10 := (show Hid _ from HIm.out w10 (H6.out w10 z6).1 _ _ _ _ _ z2 z3 y2 y3 x2)
  clear HCF9 hb10 hbv10 hX10 hMx10 hb910 t4 t5 hw9 hB9e q4 q5 hgx10 x9 x2 y8 y2 y3 z6 z2 z3
  go_wp2_with fail
  (try rw [hw10])
  (try rw [hB10e])
  refine Calls.mono HI10.out ?_
  rintro e w11 ⟨va, vb, rfl, hA11, hb11⟩
  obtain ⟨a1, ca1, b1, cb1, rfl, rfl, -⟩ := hA11.reads
  clear HI10 hw10 hB10e x0 x1 y0 y1 z0 z1
  -- the program's answer in its box
  obtain ⟨W11, hW11⟩ : ∃ W11, w11.alloc (.cells #[.slice a1 A.1.length ca1, .slice b1 A.2.length cb1] 36) = W11 := ⟨_, rfl⟩
  have hb11' : Below w11.heap.size w11 W11 := by rw [← hW11]; exact (Below.refl _ _).alloc (Nat.le_refl _) _
  have v0 : W11.cell? ⟨w11.heap.size, 0, none⟩ = some (.slice a1 A.1.length ca1) := by rw [← hW11]; simp [go_sem]
  have v1 : W11.cell? ⟨w11.heap.size, 1, none⟩ = some (.slice b1 A.2.length cb1) := by rw [← hW11]; simp [go_sem]
  have hs11 : w11.heap.size < W11.heap.size := by rw [← hW11]; simp
  obtain ⟨BG, hBG⟩ : ∃ BG, w11.heap.size = BG := ⟨_, rfl⟩
  have hs1011 : w10.heap.size ≤ BG := by rw [← hBG]; exact hb11.size
  have hA11' : AnsI W11 (fun x => w10.heap.size ≤ x ∧ x < BG) (.slice a1 A.1.length ca1) (.slice b1 A.2.length cb1) A := (hA11.map (Nat.le_refl _) (fun _ _ _ => rfl) (fun b hb h => ⟨h, by omega⟩)).map hb11'.size (fun b _ hl => hb11'.block b hl) (fun _ _ h => h)
  rw [hBG] at v0 v1 hs11
  have hb1011 : Below w10.heap.size w10 W11 := hb11.trans (hb11'.mono hb11.size)
  have HX11 : Hid (∀ W, KB (fun b => b < w10.heap.size) W11 W → W.cell? ⟨BG, 0, none⟩ = some (.slice a1 A.1.length ca1) ∧ W.cell? ⟨BG, 1, none⟩ = some (.slice b1 A.2.length cb1) ∧ AnsI W (fun x => w10.heap.size ≤ x ∧ x < BG) (.slice a1 A.1.length ca1) (.slice b1 A.2.length cb1) A ∧ BG < W.heap.size) := fun W hW => ⟨(hW.cell (p := ⟨BG, 0, none⟩) hs11 (by show ¬ BG < _; omega)).trans v0, (hW.cell (p := ⟨BG, 1, none⟩) hs11 (by show ¬ BG < _; omega)).trans v1, hA11'.map hW.size (fun b hb hl => hW.block b hl (by omega)) (fun _ _ h => h), Nat.lt_of_lt_of_le hs11 hW.size⟩
  have HX12 : Hid (∀ W, Below W11.heap.size W11 W → Below w10.heap.size w10 W) := fun W hW => hb1011.trans (hW.mono hb1011.size)
  obtain ⟨-, c0, c1, c2⟩ := H6.out W11 (HX8.out W11 (HX9.out W11 (HXX.out W11 hb1011).1).1).1
  have HQ11 := (show Hid _ from HQA.out W11 _ _ _ _ hA11'.read c2)
  have HBGs := (show Hid _ from hs11)
  clear hb11 hb11' hA11 hA11' hb1011
  go_wp2_with fail
  (try rw [hW11])
  (try rw [hBG])
  refine Calls.mono HQ11.out ?_
  rintro e w12 ⟨rfl, hb12⟩
  have HD12 : Hid (Below W11.heap.size W11 w12) := hb12
  clear HQ11 hb12 hW11 hBG c0 c1 c2 v0 v1 hs11
  go_upto_region 18 with fail
  go_cut [71] from 67 to 71 (fun s wx => s = .bool false ∧ Below w12.heap.size w12 wx)
  case first =>
    have hD12 : Below W11.heap.size W11 w12.drew := HD12.out.drew
    have h1012 := HX12.out _ hD12
    obtain ⟨h912, k4, k5, -⟩ := HXX.out _ h1012
    obtain ⟨h812, k2, k3, -⟩ := HX9.out _ h912
    obtain ⟨h612, k0, k1, -⟩ := HX8.out _ h812
    obtain ⟨q0, q1, q2, q3, q4, q5⟩ := HF6.out _ (H6.out _ h612).1
    have HC12 := (show Hid _ from HC.out w12.drew (H6.out _ h612).1)
    clear h1012 h912 h812 h612
    go_region_with (first
      | (go_at_call 8; refine Calls.mono HC12.out ?_; rintro e y13 ⟨g3, gp3, hi3, rfl, hb13, hE13, hS13, -⟩; have hD13 := hD12.trans (hb13.mono hD12.size); have h1013 := HX12.out _ hD13; obtain ⟨h913, n4, n5, o5, -⟩ := HXX.out _ h1013; obtain ⟨h813, n2, n3, o3, o4, -⟩ := HX9.out _ h913; obtain ⟨-, n0, n1, o0, o1, -⟩ := HX8.out _ h813; have HQ13 := (show Hid _ from HQ.out y13 _ _ _ _ o0 o1 hE13 hS13); clear h1013 h913 h813 o0 o1 o3 o4 o5)
      | (go_at_call 12; refine Calls.mono HQ13.out ?_; rintro e y14 ⟨rfl, hb14⟩; have HD14 : Hid (Below w12.heap.size w12 y14) := (Below.refl _ w12).drew.trans ((hb13.trans (hb14.mono hb13.size)).mono (Nat.le_refl _)); clear hb14 hb13))
    all_goals
      go_wp2_with fail
      go_meet
      exact ⟨rfl, HD14.out⟩
  case rest =>
  obtain ⟨rfl, hcw⟩ := hcut
  obtain ⟨w14, hw14⟩ : ∃ w14, w14 = wc := ⟨_, rfl⟩
  subst hw14
  have HDa : Hid (Below W11.heap.size W11 w14) := HD12.out.trans (hcw.mono HD12.out.size)
  clear hcw HD12 HQ
  go_upto_region 20 with fail
  go_cut [76] from 72 to 76 (fun s wx => s = .bool false ∧ Below w14.heap.size w14 wx)
  case first =>
    have hD12 : Below W11.heap.size W11 w14.drew := HDa.out.drew
    have h1012 := HX12.out _ hD12
    obtain ⟨h912, k4, k5, -⟩ := HXX.out _ h1012
    obtain ⟨h812, k2, k3, -⟩ := HX9.out _ h912
    obtain ⟨h612, k0, k1, -⟩ := HX8.out _ h812
    obtain ⟨q0, q1, q2, q3, q4, q5⟩ := HF6.out _ (H6.out _ h612).1
    have HC12 := (show Hid _ from HCR.out w14.drew (H6.out _ h612).1)
    clear h1012 h912 h812 h612
    go_region_with (first
      | (go_at_call 9; refine Calls.mono HC12.out ?_; rintro e y13 ⟨g3, gp3, rfl, hb13, hE13, hS13, -⟩; have hD13 := hD12.trans (hb13.mono hD12.size); have h1013 := HX12.out _ hD13; obtain ⟨h913, n4, n5, o5, -⟩ := HXX.out _ h1013; obtain ⟨h813, n2, n3, o3, o4, -⟩ := HX9.out _ h913; obtain ⟨-, n0, n1, o0, o1, -⟩ := HX8.out _ h813; have HQ13 := (show Hid _ from HQR.out y13 _ _ _ _ o3 o4 hE13 hS13); clear h1013 h913 h813 o0 o1 o3 o4 o5)
      | (go_at_call 13; refine Calls.mono HQ13.out ?_; rintro e y14 ⟨rfl, hb14⟩; have HD14 : Hid (Below w14.heap.size w14 y14) := (Below.refl _ w14).drew.trans ((hb13.trans (hb14.mono hb13.size)).mono (Nat.le_refl _)); clear hb14 hb13))
    all_goals
      go_wp2_with fail
      go_meet
      exact ⟨rfl, HD14.out⟩
  case rest =>
  obtain ⟨rfl, hcw⟩ := hcut
  obtain ⟨w15, hw15⟩ : ∃ w15, w15 = wc := ⟨_, rfl⟩
  subst hw15
  have HDb : Hid (Below W11.heap.size W11 w15) := HDa.out.trans (hcw.mono HDa.out.size)
  clear hcw HDa HQR
  go_upto_region 22 with fail
  go_cut [81] from 77 to 81 (fun s wx => s = .bool false ∧ Below w15.heap.size w15 wx)
  case first =>
    have hD12 : Below W11.heap.size W11 w15.drew := HDb.out.drew
    have h1012 := HX12.out _ hD12
    obtain ⟨h912, k4, k5, -⟩ := HXX.out _ h1012
    obtain ⟨h812, k2, k3, -⟩ := HX9.out _ h912
    obtain ⟨h612, k0, k1, -⟩ := HX8.out _ h812
    obtain ⟨q0, q1, q2, q3, q4, q5⟩ := HF6.out _ (H6.out _ h612).1
    have HC12 := (show Hid _ from HCF.out w15.drew (H6.out _ h612).1)
    clear h1012 h912 h812 h612
    go_region_with (first
      | (go_at_call 10; refine Calls.mono HC12.out ?_; rintro e y13 ⟨g3, rfl, hb13, hE13, -⟩; have hD13 := hD12.trans (hb13.mono hD12.size); have h1013 := HX12.out _ hD13; obtain ⟨h913, n4, n5, o5, -⟩ := HXX.out _ h1013; obtain ⟨h813, n2, n3, o3, o4, -⟩ := HX9.out _ h913; obtain ⟨-, n0, n1, o0, o1, -⟩ := HX8.out _ h813; have HQ13 := (show Hid _ from HQF.out y13 _ _ o5 hE13); clear h1013 h913 h813 o0 o1 o3 o4 o5)
      | (go_at_call 14; refine Calls.mono HQ13.out ?_; rintro e y14 ⟨rfl, hb14⟩; have HD14 : Hid (Below w15.heap.size w15 y14) := (Below.refl _ w15).drew.trans ((hb13.trans (hb14.mono hb13.size)).mono (Nat.le_refl _)); clear hb14 hb13))
    all_goals
      go_wp2_with fail
      go_meet
      exact ⟨rfl, HD14.out⟩
  case rest =>
  obtain ⟨rfl, hcw⟩ := hcut
  obtain ⟨w16, hw16⟩ : ∃ w16, w16 = wc := ⟨_, rfl⟩
  subst hw16
  have HDc : Hid (Below W11.heap.size W11 w16) := HDb.out.trans (hcw.mono HDb.out.size)
  clear hcw HDb HQF
  have hD16 : Below W11.heap.size W11 w16 := HDc.out
  have h1016 := HX12.out _ hD16
  obtain ⟨h916, k4, k5, -, m9⟩ := HXX.out _ h1016
  obtain ⟨h816, k2, k3, -, -, m7, m8⟩ := HX9.out _ h916
  obtain ⟨h616, k0, k1, -, -, m4, m5, m6⟩ := HX8.out _ h816
  have HMG16 := (show Hid _ from HMG.out w16 _ _ _ m4 m5 m6)
  have H16 : Hid (Below W11.heap.size W11 w16 ∧ Below w10.heap.size w10 w16 ∧ Below W6.heap.size W6 w16 ∧ Mine w16 gr 0 sl ∧ Mine w16 gq 0 tl ∧ MineI w16 gx bl ∧ w16.cell? ⟨B9, 0, none⟩ = some (.slice (some ⟨gr, 0, none⟩) sl sl) ∧ w16.cell? ⟨B9, 1, none⟩ = some (.slice (some ⟨gq, 0, none⟩) tl tl) ∧ w16.cell? ⟨B10, 0, none⟩ = some (.int .i64 c) ∧ w16.cell? ⟨B10, 1, none⟩ = some (.slice (some ⟨gx, 0, none⟩) bl bl)) := ⟨hD16, h1016, h616, m7, m8, m9, k2, k3, k4, k5⟩
  clear hD16 h1016 h916 h816 h616 m4 m5 m6 m7 m8 m9 HDc HMG k2 k3 k4 k5
  go_wp2_with fail
  refine Calls.mono HMG16.out ?_
  rintro e w17 ⟨rfl, t17⟩
  have hs16 := H16.out.2.1.size
  have hkb17 : KB (fun b => b < w10.heap.size) W11 w17 := (KB.of H16.out.1).trans (T := fun b => g2 ≤ b ∧ b < gp2 + 1) ⟨t17.1, t17.2.1, t17.2.2.1, t17.2.2.2.1, fun b hb hn => t17.2.2.2.2 b hb (by omega)⟩ (fun b _ hb => by have := hXe.out; omega)
  have h617 : Below W6.heap.size W6 w17 := H16.out.2.2.1.trans ((t17.below (by have := hXe.out; omega)).mono hg6)
  have b17 : ∀ b, B8 < b → b < w10.heap.size → w17.heap[b]? = w16.heap[b]? := fun b hb hl => t17.2.2.2.2 b (by omega) (.inr (by omega))
  obtain ⟨-, -, -, m7, m8, m9, k2, k3, k4, k5⟩ := H16.out
  have hXo := hXe.out
  have mR17 : Mine w17 gr 0 sl := mine_block m7 t17.2.2.2.1 (b17 gr hgr8 (by omega))
  have mQ17 : Mine w17 gq 0 tl := mine_block m8 t17.2.2.2.1 (b17 gq (by omega) (by omega))
  have mX17 : MineI w17 gx bl := mineE_block m9 t17.2.2.2.1 (b17 gx (by omega) (by omega))
  have k2' := (World.cell?_of_block (a := ⟨B9, 0, none⟩) (b17 B9 (by omega) (by omega))).trans k2
  have k3' := (World.cell?_of_block (a := ⟨B9, 1, none⟩) (b17 B9 (by omega) (by omega))).trans k3
  have k4' := (World.cell?_of_block (a := ⟨B10, 0, none⟩) (b17 B10 (by omega) (by omega))).trans k4
  have k5' := (World.cell?_of_block (a := ⟨B10, 1, none⟩) (b17 B10 (by omega) (by omega))).trans k5
  have HMR17 := (show Hid _ from HMR.out w17 gr gq mR17 mQ17 hgrq)
  have h17s : w10.heap.size ≤ w17.heap.size := Nat.le_trans hs16 t17.2.2.2.1
  have H17 : Hid (KB (fun b => b < w10.heap.size) W11 w17 ∧ Below W6.heap.size W6 w17 ∧ MineI w17 gx bl ∧ w17.cell? ⟨B10, 0, none⟩ = some (.int .i64 c) ∧ w17.cell? ⟨B10, 1, none⟩ = some (.slice (some ⟨gx, 0, none⟩) bl bl)) := ⟨hkb17, h617, mX17, k4', k5'⟩
  clear HMG16 t17 hkb17 h617 mR17 mQ17 mX17 H16 k0 k1 HMR hs16 b17 m7 m8 m9 k2 k3 k4 k5 k4' k5' hXo
  go_wp2_with fail
  refine Calls.mono HMR17.out ?_
  rintro e w18' ⟨rfl, t18⟩
  have hXo := hXe.out
  have hkb18' : KB (fun b => b < w10.heap.size) W11 w18' := H17.out.1.trans (T := fun b => gr ≤ b ∧ b < gq + 1) ⟨t18.1, t18.2.1, t18.2.2.1, t18.2.2.2.1, fun b hb hn => t18.2.2.2.2 b hb (by omega)⟩ (fun b _ hb => by omega)
  have h618' : Below W6.heap.size W6 w18' := H17.out.2.1.trans ((t18.below (by omega)).mono (by omega))
  have b18 : ∀ b, gq < b → b < w10.heap.size → w18'.heap[b]? = w17.heap[b]? := fun b hb hl => t18.2.2.2.2 b (by omega) (.inr (by omega))
  obtain ⟨-, -, m9, k4, k5⟩ := H17.out
  have mX18 : MineI w18' gx bl := mineE_block m9 t18.2.2.2.1 (b18 gx (by omega) (by omega))
  have k4' := (World.cell?_of_block (a := ⟨B10, 0, none⟩) (b18 B10 (by omega) (by omega))).trans k4
  have k5' := (World.cell?_of_block (a := ⟨B10, 1, none⟩) (b18 B10 (by omega) (by omega))).trans k5
  have HMF18 := (show Hid _ from HMF.out w18' gx mX18)
  have h18s : w10.heap.size ≤ w18'.heap.size := Nat.le_trans h17s t18.2.2.2.1
  have H18' : Hid (KB (fun b => b < w10.heap.size) W11 w18' ∧ Below W6.heap.size W6 w18') := ⟨hkb18', h618'⟩
  clear HMR17 t18 hkb18' h618' mX18 H17 HMF b18 m9 k4 k5 k2' k3' hXo
  go_wp2_with fail
  refine Calls.mono HMF18.out ?_
  rintro e w18 ⟨rfl, t18⟩
  have hXo := hXe.out
  have hkb18 : KB (fun b => b < w10.heap.size) W11 w18 := H18'.out.1.trans (T := fun b => gx ≤ b ∧ b < gx + 1) ⟨t18.1, t18.2.1, t18.2.2.1, t18.2.2.2.1, fun b hb hn => t18.2.2.2.2 b hb (by omega)⟩ (fun b _ hb => by omega)
  have h618 : Below W6.heap.size W6 w18 := H18'.out.2.trans ((t18.below (by omega)).mono (by omega))
  obtain ⟨c0, c1, c2, c3⟩ := HX11.out w18 hkb18
  obtain ⟨-, d0, d1, d2⟩ := H6.out w18 h618
  have HQ18 := (show Hid _ from HQA.out w18 _ _ _ _ c2.read d2)
  have H18 : Hid (AnsI w18 (fun x => w10.heap.size ≤ x ∧ x < BG) (.slice a1 A.1.length ca1) (.slice b1 A.2.length cb1) A ∧ Below W6.heap.size W6 w18 ∧ BG < w18.heap.size) := ⟨c2, h618, c3⟩
  have c0' := c0
  have c1' := c1
  clear HMF18 t18 hkb18 h618 H18' c2 c3 d2 k4' k5' hXo
  go_wp2_with fail
  refine Calls.mono HQ18.out ?_
  rintro e w19 ⟨rfl, hb19⟩
  have e0 := (hb19.cell (p := ⟨BG, 0, none⟩) H18.out.2.2).trans c0
  have e1 := (hb19.cell (p := ⟨BG, 1, none⟩) H18.out.2.2).trans c1
  have hA19 : AnsI w19 (fun x => w10.heap.size ≤ x ∧ x < BG) (.slice a1 A.1.length ca1) (.slice b1 A.2.length cb1) A := H18.out.1.map hb19.size (fun b _ hl => hb19.block b hl) (fun _ _ h => h)
  have HMA19 := (show Hid _ from HMA.out w19 _ _ _ hA19)
  have H19 : Hid (Below W6.heap.size W6 w19 ∧ BG < w19.heap.size) := ⟨H18.out.2.1.trans (hb19.mono H18.out.2.1.size), Nat.lt_of_lt_of_le H18.out.2.2 hb19.size⟩
  clear HQ18 hb19 hA19 H18 c0 c1 c0' c1' d0 d1 HMA
  go_wp2_with fail
  refine Calls.mono HMA19.out ?_
  rintro e w20 ⟨rfl, hk20, hH20⟩
  have f0 := (hk20.cell (p := ⟨BG, 0, none⟩) H19.out.2 (by show ¬ (_ ∧ BG < BG); omega)).trans e0
  have f1 := (hk20.cell (p := ⟨BG, 1, none⟩) H19.out.2 (by show ¬ (_ ∧ BG < BG); omega)).trans e1
  have h620 : Below W6.heap.size W6 w20 := H19.out.1.trans ((hk20.below (n := w10.heap.size) (fun x _ h => h.1) (by have := H19.out.2; omega)).mono (by have := hW6X.out; omega))
  have HHA20 := (show Hid _ from HHA.out w20 _ _ hH20)
  have H20 : Hid (Below W6.heap.size W6 w20 ∧ BG < w20.heap.size ∧ HeldG w20 (.slice a1 A.1.length ca1) (.slice b1 A.2.length cb1) A ∧ w20.cell? ⟨BG, 0, none⟩ = some (.slice a1 A.1.length ca1) ∧ w20.cell? ⟨BG, 1, none⟩ = some (.slice b1 A.2.length cb1)) := ⟨h620, Nat.lt_of_lt_of_le H19.out.2 hk20.size, hH20, f0, f1⟩
  clear HMA19 hk20 hH20 h620 H19 e0 e1
  go_wp2_with fail
  refine Calls.mono HHA20.out ?_
  rintro e w21 ⟨rfl, hb21⟩
  have HBd : Hid (Below w20.heap.size w20 w21) := hb21
  have H20B : Hid (∀ W, Below w20.heap.size w20 W → Below W1.heap.size W1 W) := fun W hW => (H6.out _ (H20.out.1.trans (hW.mono H20.out.1.size))).1
  clear HHA20 hb21 f0 f1
  go_upto_region 38 with fail
  have HCx : Hid (∀ W, Below w20.heap.size w20 W → _) := fun W hW => HC.out W (H20B.out W hW)
  have HCRx : Hid (∀ W, Below w20.heap.size w20 W → _) := fun W hW => HCR.out W (H20B.out W hW)
  have HCFx : Hid (∀ W, Below w20.heap.size w20 W → _) := fun W hW => HCF.out W (H20B.out W hW)
  have HAx : Hid (∀ W, Below w20.heap.size w20 W → ∀ (g gp gr gq gx : Nat), ESl W (some ⟨g, 0, none⟩) len p → Sl W (some ⟨gp, 0, none⟩) lb l → NSl W (some ⟨gr, 0, none⟩) sl s → NSl W (some ⟨gq, 0, none⟩) tl t → Sl W (some ⟨gx, 0, none⟩) bl bs → Calls Tryz.prog 11 #[.agg #[.slice (some ⟨g, 0, none⟩) len len, .slice (some ⟨gp, 0, none⟩) lb lb], .agg #[.slice (some ⟨gr, 0, none⟩) sl sl, .slice (some ⟨gq, 0, none⟩) tl tl], .agg #[.int .i64 c, .slice (some ⟨gx, 0, none⟩) bl bl]] W fun e w' => ∃ sa1 sca sb1 scb, e = .returned (.tuple #[.agg #[.slice sa1 A.1.length sca, .slice sb1 A.2.length scb], .bool B]) ∧ Safe w' (fun x => W.heap.size ≤ x) (.slice sa1 A.1.length sca) (.slice sb1 A.2.length scb) A ∧ Below W.heap.size W w') := fun W hW g gp gr gq gx h1 h2 h3 h4 h5 => (HIm.out W (H20B.out W hW) g gp gr gq gx h1 h2 h3 h4 h5).mono fun e w' ⟨va, vb, r1, r2, r3⟩ => by
    obtain ⟨a', ca', b', cb', f1, f2, -⟩ := r2.reads
    subst f1
    subst f2
    exact ⟨a', ca', b', cb', r1, r2.safe, r3⟩
  have HFx : Hid (∀ W, Below w20.heap.size w20 W → _) := fun W hW => HF6.out W (H20B.out W hW)
  go_cut [18, 19] from 115 to 125 (fun s0 s1 wx => ∃ (bx : Nat) (sa1 : Option Addr) (sca : Nat) (sb1 : Option Addr) (scb : Nat), s0 = .pointer (some ⟨bx, 0, none⟩) ∧ s1 = .bool B ∧ EndR w20 wx bx (.slice sa1 A.1.length sca) (.slice sb1 A.2.length scb) A)
  case first =>
    have hBd : Below w20.heap.size w20 w21.drew := HBd.out.drew
    have hBdA : Below w20.heap.size w20 (w21.drew.alloc (.cells #[.slice none 0 0, .slice none 0 0] 36)) := hBd.alloc hBd.size _
    have HQx := fun W hW => (HFx.out W hW)
    have zD := HQx w21.drew hBd
    have sA := fun o : Obj => HQx (w21.drew.alloc o) (hBd.alloc hBd.size o)
    go_region_held3 (fun w' => w'.cell? ⟨w.heap.size, 0, none⟩ = some (.slice a len cap) ∧ w'.cell? ⟨w.heap.size, 1, none⟩ = some (.slice b lb cb) ∧ w'.cell? ⟨w.heap.size + 1, 0, none⟩ = some (.slice sa sl sc) ∧ w'.cell? ⟨w.heap.size + 1, 1, none⟩ = some (.slice ta tl tc) ∧ w'.cell? ⟨w.heap.size + 2, 0, none⟩ = some (.int .i64 c) ∧ w'.cell? ⟨w.heap.size + 2, 1, none⟩ = some (.slice ba bl bc))
      (first | assumption | exact sA _ | exact sB _ | exact sC _ | exact sD _ | exact sE _ | exact sS _ _)
      (first
      | (go_at_call 8; first
          | (refine Calls.mono (HCx.out w21.drew hBd) ?_; rintro e v3 ⟨g, gp, hi, rfl, hb3, hE3, hS3, -⟩; have hB3 : Below w20.heap.size w20 v3 := hBd.trans (hb3.mono hBd.size); have z3 := HQx v3 hB3; have sB := fun o : Obj => HQx (v3.alloc o) (hB3.alloc hB3.size o))
          | (refine Calls.mono (HCx.out (w21.drew.alloc (.cells #[.slice none 0 0, .slice none 0 0] 36)) hBdA) ?_; rintro e v3 ⟨g, gp, hi, rfl, hb3, hE3, hS3, -⟩; have hB3 : Below w20.heap.size w20 v3 := hBdA.trans (hb3.mono hBdA.size); have hx3 : BoxAt w20 v3 w21.heap.size := (boxAt_alloc hBd).keep hb3; have z3 := HQx v3 hB3))
      | (go_at_call 9; first
          | (refine Calls.mono (HCRx.out v3 hB3) ?_; rintro e v4 ⟨gr, gq, rfl, hb4, hN4, hM4, -⟩; have hB4 : Below w20.heap.size w20 v4 := hB3.trans (hb4.mono hB3.size); have hE4 := hE3.keep hb4; have hS4 := hS3.keep hb4; have z4 := HQx v4 hB4; first | (revert hx3; intro hx3; have hx4 := hx3.keep hb4) | (have sC := fun o : Obj => HQx (v4.alloc o) (hB4.alloc hB4.size o)))
          | (refine Calls.mono (HCRx.out (v3.alloc (.cells #[.slice none 0 0, .slice none 0 0] 36)) (hB3.alloc hB3.size _)) ?_; rintro e v4 ⟨gr, gq, rfl, hb4, hN4, hM4, -⟩; have hB4 : Below w20.heap.size w20 v4 := (hB3.alloc hB3.size _).trans (hb4.mono (hB3.alloc hB3.size _).size); have hE4 := (hE3.keep (alloc_below v3 (.cells #[.slice none 0 0, .slice none 0 0] 36))).keep hb4; have hS4 := (hS3.keep (alloc_below v3 (.cells #[.slice none 0 0, .slice none 0 0] 36))).keep hb4; have z4 := HQx v4 hB4; have hx4 : BoxAt w20 v4 v3.heap.size := (boxAt_alloc hB3).keep hb4))
      | (go_at_call 10; first
          | (refine Calls.mono (HCFx.out v4 hB4) ?_; rintro e v5 ⟨gx, rfl, hb5, hX5, -⟩; have hB5 : Below w20.heap.size w20 v5 := hB4.trans (hb5.mono hB4.size); have hE5 := hE4.keep hb5; have hS5 := hS4.keep hb5; have hN5 := hN4.keep hb5; have hM5 := hM4.keep hb5; have z5 := HQx v5 hB5; first | (revert hx4; intro hx4; have hx5 := hx4.keep hb5) | (have sD := fun o : Obj => HQx (v5.alloc o) (hB5.alloc hB5.size o)))
          | (refine Calls.mono (HCFx.out (v4.alloc (.cells #[.slice none 0 0, .slice none 0 0] 36)) (hB4.alloc hB4.size _)) ?_; rintro e v5 ⟨gx, rfl, hb5, hX5, -⟩; have hB5 : Below w20.heap.size w20 v5 := (hB4.alloc hB4.size _).trans (hb5.mono (hB4.alloc hB4.size _).size); have hE5 := (hE4.keep (alloc_below v4 (.cells #[.slice none 0 0, .slice none 0 0] 36))).keep hb5; have hS5 := (hS4.keep (alloc_below v4 (.cells #[.slice none 0 0, .slice none 0 0] 36))).keep hb5; have hN5 := (hN4.keep (alloc_below v4 (.cells #[.slice none 0 0, .slice none 0 0] 36))).keep hb5; have hM5 := (hM4.keep (alloc_below v4 (.cells #[.slice none 0 0, .slice none 0 0] 36))).keep hb5; have z5 := HQx v5 hB5; have hx5 : BoxAt w20 v5 v4.heap.size := (boxAt_alloc hB4).keep hb5))
      | (go_at_call 11; first
          | (refine Calls.mono (HAx.out v5 hB5 _ _ _ _ _ hE5 hS5 hN5 hM5 hX5) ?_; rintro e v6 ⟨sa1, sca, sb1, scb, rfl, hR6, hb6⟩; have hB6 : Below w20.heap.size w20 v6 := hB5.trans (hb6.mono hB5.size); have z6 := HQx v6 hB6; first
              | (revert hx5; intro hx5; have hy5 := hx5; obtain ⟨p0, p1, p2, p3, p4, p5⟩ := hx5.keep hb6; have sS := fun u0 u1 : Value => HQx ((v6.setCell ⟨_, 0, none⟩ u0).setCell ⟨_, 1, none⟩ u1) ((hB6.setCell (p := ⟨_, 0, none⟩) p0 u0).setCell (p := ⟨_, 1, none⟩) p0 u1))
              | (have sE := fun o : Obj => HQx (v6.alloc o) (hB6.alloc hB6.size o)))
          | (refine Calls.mono (HAx.out (v5.alloc (.cells #[.slice none 0 0, .slice none 0 0] 36)) (hB5.alloc hB5.size _) _ _ _ _ _ (hE5.keep (alloc_below v5 (.cells #[.slice none 0 0, .slice none 0 0] 36))) (hS5.keep (alloc_below v5 (.cells #[.slice none 0 0, .slice none 0 0] 36))) (hN5.keep (alloc_below v5 (.cells #[.slice none 0 0, .slice none 0 0] 36))) (hM5.keep (alloc_below v5 (.cells #[.slice none 0 0, .slice none 0 0] 36))) (hX5.keep (alloc_below v5 (.cells #[.slice none 0 0, .slice none 0 0] 36)))) ?_; rintro e v6 ⟨sa1, sca, sb1, scb, rfl, hR6, hb6⟩; have hB6 : Below w20.heap.size w20 v6 := (hB5.alloc hB5.size _).trans (hb6.mono (hB5.alloc hB5.size _).size); have z6 := HQx v6 hB6; have hy5 : BoxAt w20 (v5.alloc (.cells #[.slice none 0 0, .slice none 0 0] 36)) v5.heap.size := boxAt_alloc hB5; obtain ⟨p0, p1, p2, p3, p4, p5⟩ := hy5.keep hb6; have sS := fun u0 u1 : Value => HQx ((v6.setCell ⟨v5.heap.size, 0, none⟩ u0).setCell ⟨v5.heap.size, 1, none⟩ u1) ((hB6.setCell (p := ⟨v5.heap.size, 0, none⟩) p0 u0).setCell (p := ⟨v5.heap.size, 1, none⟩) p0 u1))))
    all_goals
      go_wp2_with fail
      go_meet
      first
        | exact ⟨_, _, _, _, _, rfl, rfl, endR_alloc hB6 hR6⟩
        | exact ⟨_, _, _, _, _, rfl, rfl, endR_set hB6 hR6 (fun b' hb' => nhi hb' hy5.2.1) p2 p3 p0 p1⟩
  case rest =>
  obtain ⟨B25, a2, ca2, b2, cb2, rfl, rfl, hE25⟩ := hcut
  obtain ⟨W25, hW25⟩ : ∃ W25, W25 = wc := ⟨_, rfl⟩
  subst hW25
  obtain ⟨hb2025, hR25, x0, x1, hs25⟩ := hE25
  obtain ⟨-, d0, d1, d2⟩ := H6.out _ (H20.out.1.trans (hb2025.mono H20.out.1.size))
  have HQ25 := (show Hid _ from HQA.out W25 _ _ _ _ hR25 d2)
  have H25 : Hid (Below w20.heap.size w20 W25) := hb2025
  clear HCx HCRx HCFx HAx HFx HBd hR25 hs25 hb2025 d2 HQA HIm HC HCR HCF
  go_wp2_with fail
  refine Calls.mono HQ25.out ?_
  rintro e w26 ⟨rfl, hb26⟩
  have hb2026 := H25.out.trans (hb26.mono H25.out.size)
  have y0 := (hb2026.cell (p := ⟨BG, 0, none⟩) H20.out.2.1).trans H20.out.2.2.2.1
  have y1 := (hb2026.cell (p := ⟨BG, 1, none⟩) H20.out.2.1).trans H20.out.2.2.2.2
  have HHA26 := (show Hid _ from HHA.out w26 _ _ (H20.out.2.2.1.keep hb2026))
  have H26 := (show Hid _ from H20.out.1.trans (hb2026.mono H20.out.1.size))
  clear HQ25 hb26 hb2026 H25 H20 d0 d1 x0 x1 HHA
  go_wp2_with fail
  refine Calls.mono HHA26.out ?_
  rintro e w27 ⟨rfl, hb27⟩
  have HE := (show Hid _ from (HF.out _ (H6.out _ (H26.out.trans (hb27.mono H26.out.size))).1).1)
  clear HHA26 H26 hb27 HF HF6 H6 HX8 HX9 HXX HX11 HX12
  go_wp2
  go_ret
  exact ⟨rfl, HE.out⟩
end Go.Proofs.YtobgkfpjokfbaaaGreatDoor
