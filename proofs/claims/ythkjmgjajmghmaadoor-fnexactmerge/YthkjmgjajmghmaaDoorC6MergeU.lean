/-
  PROVED HERE: what the model's Merge answers, at every graph and every two numbers. No other condition.
-/
import Derived.Test.YthkjmgjajmghmaaDoorRun43
import Derived.Test.YthkjmgjajmghmaaDoorRun32
namespace Go.Proofs.YthkjmgjajmghmaaDoor
open Go.ChangeShapes Go.WideShapes Go.ChangeAt Go.RowKit
set_option linter.unusedVariables false

set_option maxHeartbeats 3200000 in
set_option maxRecDepth 20000 in
theorem specMerge_any (a b : Option Addr) (len cap lb cb : Nat) (p : List EN) (l : List Int) (x y : Int) (w : World) (h : ESl w a len p) (hl : Sl w b lb l) (hm : len ≤ 9223372036854775807) (hm2 : lb ≤ 9223372036854775807) :
    Calls Tryd.prog 6 #[.agg #[.slice a len cap, .slice b lb cb], .int .i64 x, .int .i64 y] w fun e w' => ∃ va vb, e = .returned (.tuple #[.agg #[va, vb], .bool (mergeOk p l x y)]) ∧ ReadG w' va vb (mergeR p l x y) ∧ Below w.heap.size w w' := by
  have hll := h.1
  have hl1 := hl.1
  obtain ⟨W1, hW1⟩ : ∃ W1, (w.alloc (.cells #[.slice a len cap, .slice b lb cb] 29)).alloc (.cells #[.slice none 0 0, .slice none 0 0] 29) = W1 := ⟨_, rfl⟩
  have hb1 : Below w.heap.size w W1 := by rw [← hW1]; exact ((Below.refl _ _).alloc (Nat.le_refl _) _).alloc (by simp) _
  have hs1 : W1.heap.size = w.heap.size + 2 := by rw [← hW1]; simp
  have n0 : W1.cell? ⟨w.heap.size, 0, none⟩ = some (.slice a len cap) := by rw [← hW1]; simp [go_sem]
  have n1 : W1.cell? ⟨w.heap.size, 1, none⟩ = some (.slice b lb cb) := by rw [← hW1]; simp [go_sem]
  have r0 : W1.cell? ⟨w.heap.size + 1, 0, none⟩ = some (.slice none 0 0) := by rw [← hW1]; simp [go_sem]
  have r1 : W1.cell? ⟨w.heap.size + 1, 1, none⟩ = some (.slice none 0 0) := by rw [← hW1]; simp [go_sem]
  have f0 : W1.frozen? ⟨w.heap.size + 1, 0, none⟩ = false := by rw [← hW1]; simp [go_sem]
  have f1 : W1.frozen? ⟨w.heap.size + 1, 1, none⟩ = false := by rw [← hW1]; simp [go_sem]
  have HX : Hid (∀ W, Below W1.heap.size W1 W → (W.cell? ⟨w.heap.size, 0, none⟩ = some (.slice a len cap) ∧ W.cell? ⟨w.heap.size, 1, none⟩ = some (.slice b lb cb)) ∧ (W.cell? ⟨w.heap.size + 1, 0, none⟩ = some (.slice none 0 0) ∧ W.cell? ⟨w.heap.size + 1, 1, none⟩ = some (.slice none 0 0) ∧ W.frozen? ⟨w.heap.size + 1, 0, none⟩ = false ∧ W.frozen? ⟨w.heap.size + 1, 1, none⟩ = false) ∧ ESl W a len p ∧ Sl W b lb l ∧ Below w.heap.size w W) := fun W hW => ⟨⟨(hW.cell (p := ⟨w.heap.size, 0, none⟩) (by show w.heap.size < _; omega)).trans n0, (hW.cell (p := ⟨w.heap.size, 1, none⟩) (by show w.heap.size < _; omega)).trans n1⟩, ⟨(hW.cell (p := ⟨w.heap.size + 1, 0, none⟩) (by show w.heap.size + 1 < _; omega)).trans r0, (hW.cell (p := ⟨w.heap.size + 1, 1, none⟩) (by show w.heap.size + 1 < _; omega)).trans r1, (hW.frozen (p := ⟨w.heap.size + 1, 0, none⟩) (by show w.heap.size + 1 < _; omega)).trans f0, (hW.frozen (p := ⟨w.heap.size + 1, 1, none⟩) (by show w.heap.size + 1 < _; omega)).trans f1⟩, (h.keep hb1).keep hW, (hl.keep hb1).keep hW, hb1.trans (hW.mono hb1.size)⟩
  have HS : Hid (∀ W, Below w.heap.size w W → ∀ v0 v1, Below w.heap.size w ((W.setCell ⟨w.heap.size + 1, 0, none⟩ v0).setCell ⟨w.heap.size + 1, 1, none⟩ v1)) := fun W hW v0 v1 => (hW.setCell (by show w.heap.size ≤ w.heap.size + 1; omega) _).setCell (by show w.heap.size ≤ w.heap.size + 1; omega) _
  have HG := (show Hid _ from specGraph_any a b len cap lb cb p l W1 (h.keep hb1) (hl.keep hb1) hm hm2)
  cases hgb : graphB p l with
  | false =>
    have hno : mergeOk p l x y = false := by unfold mergeOk; rw [hgb]; rfl
    have hnr : mergeR p l x y = ([], []) := by unfold mergeR; rw [hno]; rfl
    rw [hno, hnr]
    rw [hgb] at HG
    clear h hl hb1 hno hnr hs1
    go_enter Tryd.func6, Tryd.ntmps6
    go_wp2_with fail
    (try rw [hW1])
    refine Calls.mono HG.out ?_
    rintro e w2 ⟨rfl, hb2⟩
    obtain ⟨⟨q0, q1⟩, ⟨u0, u1, g0, g1⟩, -, -, hw2⟩ := HX.out w2 hb2
    have HB := (show Hid _ from HS.out w2 hw2)
    clear HG hW1 HX HS hb2 hw2 n0 n1 r0 r1 f0 f1
    go_wp2
    refine bodyPost_ret (v := .tuple #[.agg #[.slice none 0 0, .slice none 0 0], .bool false]) ?_ ?_ ?_
    · simp [results, Tryd.results6, go_sem, *]
    · rfl
    · exact ⟨_, _, rfl, ⟨none, 0, none, 0, rfl, rfl, ⟨rfl, .inl rfl⟩, ⟨rfl, .inl rfl⟩⟩, HB.out _ _⟩
  | true =>
    rw [hgb] at HG
    obtain ⟨h120, hgood⟩ := (graphB_good p l).1 hgb
    have hgh := (headB_iff p l).1 ((graphB_iff p l).1 hgb).1
    have hgN := hgh.1
    have hgP : PartsN p.length l := ⟨hgh.2.1, ((partB_iff l).1 hgh.2.2).2⟩
    obtain rfl : lb = len := by have := hgh.2.1; omega
    have HA : Hid (∀ W, Calls Tryd.prog 24 #[.int .i64 x, .int .i64 0, .int .i64 ((lb : Int) - 1)] W fun e w' => e = .returned (.bool (hasB l x)) ∧ w' = W) := fun W => specHas_any lb l hl1 x W
    have HBy : Hid (∀ W, Calls Tryd.prog 24 #[.int .i64 y, .int .i64 0, .int .i64 ((lb : Int) - 1)] W fun e w' => e = .returned (.bool (hasB l y)) ∧ w' = W) := fun W => specHas_any lb l hl1 y W
    cases hax : hasB l x with
    | false =>
      have hno : mergeOk p l x y = false := by unfold mergeOk; rw [hgb, hax]; rfl
      have hnr : mergeR p l x y = ([], []) := by unfold mergeR; rw [hno]; rfl
      rw [hno, hnr]
      rw [hax] at HA
      clear h hl hb1 hno hnr hs1 hgood hgh hgN hgP hgb HBy
      go_enter Tryd.func6, Tryd.ntmps6
      go_wp2_with fail
      (try rw [hW1])
      refine Calls.mono HG.out ?_
      rintro e w2 ⟨rfl, hb2⟩
      obtain ⟨⟨q0, q1⟩, ⟨u0, u1, g0, g1⟩, -, -, hw2⟩ := HX.out w2 hb2
      have HB := (show Hid _ from HS.out w2 hw2)
      clear HG hW1 HX HS hb2 hw2 n0 n1 r0 r1 f0 f1
      go_wp2_with fail
      refine Calls.mono (HA.out _) ?_
      rintro e w3 ⟨rfl, rfl⟩
      clear HA
      go_wp2
      refine bodyPost_ret (v := .tuple #[.agg #[.slice none 0 0, .slice none 0 0], .bool false]) ?_ ?_ ?_
      · simp [results, Tryd.results6, go_sem, *]
      · rfl
      · exact ⟨_, _, rfl, ⟨none, 0, none, 0, rfl, rfl, ⟨rfl, .inl rfl⟩, ⟨rfl, .inl rfl⟩⟩, HB.out _ _⟩
    | true =>
      rw [hax] at HA
      cases hay : hasB l y with
      | false =>
        have hno : mergeOk p l x y = false := by unfold mergeOk; rw [hgb, hax, hay]; rfl
        have hnr : mergeR p l x y = ([], []) := by unfold mergeR; rw [hno]; rfl
        rw [hno, hnr]
        rw [hay] at HBy
        clear h hl hb1 hno hnr hs1 hgood hgh hgN hgP hgb
        go_enter Tryd.func6, Tryd.ntmps6
        go_wp2_with fail
        (try rw [hW1])
        refine Calls.mono HG.out ?_
        rintro e w2 ⟨rfl, hb2⟩
        obtain ⟨⟨q0, q1⟩, ⟨u0, u1, g0, g1⟩, -, -, hw2⟩ := HX.out w2 hb2
        have HB := (show Hid _ from HS.out w2 hw2)
        clear HG hW1 HX HS hb2 hw2 n0 n1 r0 r1 f0 f1
        go_wp2_with fail
        refine Calls.mono (HA.out _) ?_
        rintro e w3 ⟨rfl, rfl⟩
        clear HA
        go_wp2_with fail
        refine Calls.mono (HBy.out _) ?_
        rintro e w3 ⟨rfl, rfl⟩
        clear HBy
        go_wp2
        refine bodyPost_ret (v := .tuple #[.agg #[.slice none 0 0, .slice none 0 0], .bool false]) ?_ ?_ ?_
        · simp [results, Tryd.results6, go_sem, *]
        · rfl
        · exact ⟨_, _, rfl, ⟨none, 0, none, 0, rfl, rfl, ⟨rfl, .inl rfl⟩, ⟨rfl, .inl rfl⟩⟩, HB.out _ _⟩
      | true =>
        rw [hay] at HBy
        have hyes : mergeOk p l x y = true := by unfold mergeOk; rw [hgb, hax, hay]; rfl
        have hyr : mergeR p l x y = mergeG p l x.toNat y.toNat := by unfold mergeR; rw [hyes]; rfl
        obtain ⟨X, rfl, hX⟩ := has_iff hax
        obtain ⟨Y, rfl, hY⟩ := has_iff hay
        rw [hyr, hyes, Int.toNat_natCast, Int.toNat_natCast]
        have HM : Hid (∀ W, Below W1.heap.size W1 W → Calls Tryd.prog 25 #[.agg #[.slice a lb cap, .slice b lb cb], .int .i64 X, .int .i64 Y] W fun e w' => ∃ va vb, e = .returned (.agg #[va, vb]) ∧ SafeM w' (fun b => W.heap.size ≤ b) va vb (mergeG p l X Y) ∧ Below W.heap.size W w') := fun W hW => specMerged_any hgN hgP a b lb cap cb (by omega) (by omega) W (HX.out W hW).2.2.1 (HX.out W hW).2.2.2.1
        have hmL := mergeG_len hgN hgP (show X < p.length by omega) (show Y < p.length by omega)
        have hmK : ∀ i, i < p.length → ((mergeG p l X Y).1.getD i e0).2.2.length ≤ 3 := fun i hi => by
          unfold mergeG
          rw [withL_get _ p hi]
          simp only
          rw [kidsL_len]
          exact fit_few (((nodesB_iff p).1 hgN).2 i hi)
        have HL : Hid ((mergeG p l X Y).1.length = lb ∧ (mergeG p l X Y).2.length = lb ∧ 0 < lb ∧ lb ≤ 120 ∧ W1.heap.size = w.heap.size + 2 ∧ ∀ i, i < lb → ((mergeG p l X Y).1.getD i e0).2.2.length ≤ 3) := ⟨by rw [hmL.1]; exact hll, by rw [hmL.2]; exact hll, by omega, by first | omega | (simp only at h120; omega), hs1, fun i hi => hmK i (by omega)⟩
        generalize mergeG p l X Y = M at HM HL ⊢
        clear h hl hb1 hyes hyr hs1 hgood hgh hgN hgP hgb hmL hmK hax hay h120
        go_enter Tryd.func6, Tryd.ntmps6
        go_wp2_with fail
        (try rw [hW1])
        refine Calls.mono HG.out ?_
        rintro e w2 ⟨rfl, hb2⟩
        obtain ⟨⟨q0, q1⟩, ⟨u0, u1, g0, g1⟩, -, -, hw2⟩ := HX.out w2 hb2
        have HM2 := (show Hid _ from HM.out w2 hb2)
        have HB2 := (show Hid _ from hb2)
        clear HG hW1 hb2 hw2 n0 n1 r0 r1 f0 f1 HM
        go_wp2_with fail
        refine Calls.mono (HA.out _) ?_
        rintro e w3 ⟨rfl, rfl⟩
        clear HA
        go_wp2_with fail
        refine Calls.mono (HBy.out _) ?_
        rintro e w3 ⟨rfl, rfl⟩
        clear HBy
        go_wp2_with fail
        refine Calls.mono HM2.out ?_
        rintro e w4 ⟨va, vb, rfl, hG4, hb4⟩
        have hB4 : Below W1.heap.size W1 w4 := HB2.out.trans (hb4.mono HB2.out.size)
        have hs2 : W1.heap.size ≤ w3.heap.size := HB2.out.size
        obtain ⟨⟨q0', q1'⟩, ⟨u0', u1', g0', g1'⟩, -, -, hw4⟩ := HX.out w4 hB4
        obtain ⟨-, -, -, -, k5, -⟩ := HL.out
        have HF : Hid (∀ v0 v1, ReadG ((w4.setCell ⟨w.heap.size + 1, 0, none⟩ v0).setCell ⟨w.heap.size + 1, 1, none⟩ v1) va vb M ∧ Below w.heap.size w ((w4.setCell ⟨w.heap.size + 1, 0, none⟩ v0).setCell ⟨w.heap.size + 1, 1, none⟩ v1)) := fun v0 v1 => by
          refine ⟨hG4 _ (by rw [setCell_size, setCell_size]; exact Nat.le_refl _) (fun b hb hl => ?_), HS.out w4 hw4 v0 v1⟩
          have hb' : w3.heap.size ≤ b := hb
          rw [setCell_block _ _ _ (show w.heap.size + 1 ≠ b by omega), setCell_block _ _ _ (show w.heap.size + 1 ≠ b by omega)]
        obtain ⟨ga, ca, gb, cb2, rfl, rfl, _, _⟩ := hG4 w4 (Nat.le_refl _) (fun _ _ _ => rfl)
        clear HM2 HB2 hB4 hb4 hw4 hG4 HX HS HL k5 q0 q1 u0 u1 g0 g1 hs2
        go_wp2
        refine bodyPost_ret (v := .tuple #[.agg #[.slice ga M.1.length ca, .slice gb M.2.length cb2], .bool true]) ?_ ?_ ?_
        · simp [results, Tryd.results6, go_sem, *]
        · rfl
        · exact ⟨_, _, rfl, (HF.out _ _).1, (HF.out _ _).2⟩
end Go.Proofs.YthkjmgjajmghmaaDoor
