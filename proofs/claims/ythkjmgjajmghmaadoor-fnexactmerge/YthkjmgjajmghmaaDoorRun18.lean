/-
  PROVED HERE: what the program's withClasses answers, at every node whose kids are numbers of the parts. No other condition. what the program's nodesWithClasses answers, at every list of nodes whose kids are numbers of the parts. No other condition.
-/
import Derived.Test.YthkjmgjajmghmaaDoorRun14
import Derived.Test.YthkjmgjajmghmaaDoorRun9
namespace Go.Proofs.YthkjmgjajmghmaaDoor
open Go.ChangeShapes Go.WideShapes Go.ChangeAt Go.RowKit
set_option linter.unusedVariables false

set_option maxHeartbeats 1600000 in
set_option maxRecDepth 20000 in
theorem withC_any (op n : Int) (a b : Option Addr) (len cap lb cb : Nat) (kids l : List Int) (w : World) (h : Sl w a len kids) (hl : Sl w b lb l) (h3 : len ≤ 3) (hk : ∀ i, i < len → ∃ y : Nat, kids.getD i 0 = y ∧ y < lb) :
    Calls Tryd.prog 61 #[.agg #[.int .i64 op, .int .i64 n, .slice a len cap], .slice b lb cb] w fun e w' => ∃ g, e = .returned (.agg #[.int .i64 op, .int .i64 n, .slice (some ⟨g, 0, none⟩) len len]) ∧ Below w.heap.size w w' ∧ w.heap.size ≤ g ∧ g < w'.heap.size ∧ (∀ i, i < len → w'.cell? ⟨g, i, none⟩ = some (.int .i64 ((kidsL l kids).getD i 0)) ∧ w'.frozen? ⟨g, i, none⟩ = false) := by
  obtain ⟨i0, hi, hz0, hz1, hz2⟩ := info_parts infoInt
  have hll := h.1
  obtain ⟨W1, hW1⟩ : ∃ W1, (w.alloc (.cells #[.int .i64 op, .int .i64 n, .slice a len cap] 57)).alloc (.cells #[.int .i64 0, .int .i64 0, .slice none 0 0] 57) = W1 := ⟨_, rfl⟩
  have hb1 : Below w.heap.size w W1 := by rw [← hW1]; exact ((Below.refl _ _).alloc (Nat.le_refl _) _).alloc (by simp) _
  have hsz : W1.heap.size = w.heap.size + 2 := by rw [← hW1]; simp
  have n0 : W1.cell? ⟨w.heap.size, 0, none⟩ = some (.int .i64 op) := by rw [← hW1]; simp [go_sem]
  have n1 : W1.cell? ⟨w.heap.size, 1, none⟩ = some (.int .i64 n) := by rw [← hW1]; simp [go_sem]
  have n2 : W1.cell? ⟨w.heap.size, 2, none⟩ = some (.slice a len cap) := by rw [← hW1]; simp [go_sem]
  have m0 : W1.cell? ⟨w.heap.size + 1, 0, none⟩ = some (.int .i64 0) := by rw [← hW1]; simp [go_sem]
  have m1 : W1.cell? ⟨w.heap.size + 1, 1, none⟩ = some (.int .i64 0) := by rw [← hW1]; simp [go_sem]
  have m2 : W1.cell? ⟨w.heap.size + 1, 2, none⟩ = some (.slice none 0 0) := by rw [← hW1]; simp [go_sem]
  have f0 : W1.frozen? ⟨w.heap.size + 1, 0, none⟩ = false := by rw [← hW1]; simp [go_sem]
  have f1 : W1.frozen? ⟨w.heap.size + 1, 1, none⟩ = false := by rw [← hW1]; simp [go_sem]
  have f2 : W1.frozen? ⟨w.heap.size + 1, 2, none⟩ = false := by rw [← hW1]; simp [go_sem]
  have lt0 : w.heap.size < W1.heap.size := by omega
  have lt1 : w.heap.size + 1 < W1.heap.size := by omega
  have HS : Hid (Sl W1 a len kids ∧ Sl W1 b lb l ∧ Below w.heap.size w W1 ∧ W1.heap.size = w.heap.size + 2) := ⟨h.keep hb1, hl.keep hb1, hb1, hsz⟩
  have HK := (show Hid _ from hk)
  have HL : Hid (∀ k, k < len → (kidsL l kids).getD k 0 = l.getD (kids.getD k 0).toNat 0) := fun k hk => kidsL_get l kids (by omega)
  clear h hl hk hsz hb1
  go_enter Tryd.func61, Tryd.ntmps61
  go_wp2_with (at_make; (try rw [hW1]); refine wpList_make_full _ rfl _ _ 23 rfl W1.heap.size 3 i0 (.int .i64 0) 1 Tryd.underlying23 hi hz0 hz1 _ _ _ _ len rfl rfl rfl rfl (by rw [hz2]; omega) (by unfold maxLen; omega) (Nat.le_refl _) ?_; intro w1 hown hgrow; have hbw : Below W1.heap.size W1 w1 := (Below.refl _ _).grown hgrow (Nat.le_refl _) (fun k hk => by cases hk); have q2 := (hbw.cell (p := ⟨w.heap.size, 2, none⟩) lt0).trans n2; clear hgrow)
  go_loopw [15] (fun i wr => ∃ (k : Nat) (xs : List Value), k ≤ len ∧ i = .int .i64 k ∧ wr.ownsRow W1.heap.size 3 1 (.slice (some ⟨W1.heap.size, 0, none⟩) len len) len xs ∧ Hid (∀ j, j < k → xs[j]? = some (.int .i64 ((kidsL l kids).getD j 0))) ∧ Below W1.heap.size W1 wr) (fun i _ => len - (intOf i).toNat)
  case atStart => exact ⟨0, _, Nat.zero_le _, rfl, hown, fun j hj => absurd hj (Nat.not_lt_zero _), hbw⟩
  case round =>
    obtain ⟨k, xs, hk, rfl, howr, hx, hbr⟩ := hrel
    clear hown hbw q2
    by_cases hlt : k < len
    · obtain ⟨y, hy, hyl⟩ := HK.out k hlt
      obtain ⟨ba, oa, rfl, hba, hca⟩ : ∃ b' off, a = some ⟨b', off, none⟩ ∧ b' < W1.heap.size ∧ ∀ i, i < len → W1.cell? ⟨b', off + i, none⟩ = some (.int .i64 (kids.getD i 0)) := by
        rcases HS.out.1.2 with h0 | h0
        · omega
        · exact h0
      obtain ⟨bp, op', rfl, hbp, hcp⟩ : ∃ b' off, b = some ⟨b', off, none⟩ ∧ b' < W1.heap.size ∧ ∀ i, i < lb → W1.cell? ⟨b', off + i, none⟩ = some (.int .i64 (l.getD i 0)) := by
        rcases HS.out.2.1.2 with h0 | h0
        · omega
        · exact h0
      have ck := (hbr.cell (p := ⟨ba, oa + k, none⟩) hba).trans (hca k hlt)
      rw [hy] at ck
      have cy := (hbr.cell (p := ⟨bp, op' + y, none⟩) hbp).trans (hcp y hyl)
      have hyl' : (y : Int) < lb := by omega
      have hkl : (k : Int) < len := by omega
      have hg := HL.out k hlt
      rw [hy, Int.toNat_natCast] at hg
      have hfr := howr.frozenAt k
      have hcg := howr.cellAt k (by omega)
      have hst := howr.stored k (.int .i64 (l.getD y 0))
      have R : Hid (∃ xs', (wr.setCell ⟨W1.heap.size, k, none⟩ (.int .i64 (l.getD y 0))).ownsRow W1.heap.size 3 1 (.slice (some ⟨W1.heap.size, 0, none⟩) len len) len xs' ∧ (∀ j, j < k + 1 → xs'[j]? = some (.int .i64 ((kidsL l kids).getD j 0))) ∧ Below W1.heap.size W1 (wr.setCell ⟨W1.heap.size, k, none⟩ (.int .i64 (l.getD y 0)))) := by
        refine ⟨_, hst.1, fun j hj => ?_, hbr.setCell (Nat.le_refl _) _⟩
        rw [List.getElem?_set]
        by_cases e : k = j
        · subst e
          rw [if_pos rfl, if_pos (by have := howr.1; omega), hg]
        · rw [if_neg e]; exact hx.out j (by omega)
      obtain ⟨u, hxk⟩ : ∃ u, xs[k]? = some u := ⟨_, List.getElem?_eq_getElem (by have := howr.1; omega)⟩
      rw [hxk] at hcg
      obtain ⟨z, hz⟩ : ∃ z, l.getD y 0 = z := ⟨_, rfl⟩
      rw [hz] at cy R
      clear hst hca hcp howr hx hxk hg hy hz
      go_wp2
      go_roundw
      case rel =>
        obtain ⟨xs', r1, r2, r3⟩ := R.out
        exact ⟨k + 1, xs', by omega, by go_num, r1, r2, r3⟩
      case measure => simp [intOf]; omega
    · obtain rfl : k = len := by omega
      have a0 := (hbr.cell (p := ⟨w.heap.size, 0, none⟩) lt0).trans n0
      have a1 := (hbr.cell (p := ⟨w.heap.size, 1, none⟩) lt0).trans n1
      have b0 := (hbr.cell (p := ⟨w.heap.size + 1, 0, none⟩) lt1).trans m0
      have b1 := (hbr.cell (p := ⟨w.heap.size + 1, 1, none⟩) lt1).trans m1
      have b2 := (hbr.cell (p := ⟨w.heap.size + 1, 2, none⟩) lt1).trans m2
      have c0 := (hbr.frozen (p := ⟨w.heap.size + 1, 0, none⟩) lt1).trans f0
      have c1 := (hbr.frozen (p := ⟨w.heap.size + 1, 1, none⟩) lt1).trans f1
      have c2 := (hbr.frozen (p := ⟨w.heap.size + 1, 2, none⟩) lt1).trans f2
      have HX : Hid (Below w.heap.size w wr ∧ W1.heap.size < wr.heap.size ∧ ∀ i, i < k → wr.cell? ⟨W1.heap.size, i, none⟩ = some (.int .i64 ((kidsL l kids).getD i 0)) ∧ wr.frozen? ⟨W1.heap.size, i, none⟩ = false) := ⟨HS.out.2.2.1.trans (hbr.mono HS.out.2.2.1.size), owns_lt howr, fun i hi => ⟨by rw [howr.cellAt i (by omega)]; exact hx.out i hi, howr.frozenAt i⟩⟩
      have lt4 : w.heap.size + 1 < W1.heap.size := lt1
      obtain ⟨g, hg⟩ : ∃ g, W1.heap.size = g := ⟨_, rfl⟩
      rw [hg] at HX lt4 ⊢
      clear hx hbr howr n0 n1 n2 m0 m1 m2 f0 f1 f2 hW1 HS HK HL lt0 lt1 hg
      go_wp2
      refine bodyPost_ret (v := .agg #[.int .i64 op, .int .i64 n, .slice (some ⟨g, 0, none⟩) k k]) (by simp [results, Tryd.results61, go_sem, *]) rfl ⟨g, rfl, ?_, by omega, ?_, fun i hi => ?_⟩
      · exact ((HX.out.1.setCell (by show w.heap.size ≤ w.heap.size + 1; omega) _).setCell (by show w.heap.size ≤ w.heap.size + 1; omega) _).setCell (by show w.heap.size ≤ w.heap.size + 1; omega) _
      · have := HX.out.2.1; simpa [World.setCell] using this
      · have := HX.out.2.2 i hi
        refine ⟨?_, ?_⟩
        · have n1 : ∀ o, (⟨w.heap.size + 1, o, none⟩ : Addr) ≠ ⟨g, i, none⟩ := fun o e => by injection e; omega
          rw [World.cell?_setCell_other _ _ _ _ (n1 _), World.cell?_setCell_other _ _ _ _ (n1 _), World.cell?_setCell_other _ _ _ _ (n1 _)]
          exact this.1
        · simpa [go_sem] using this.2
end Go.Proofs.YthkjmgjajmghmaaDoor
namespace Go.Proofs.YthkjmgjajmghmaaDoor
open Go.ChangeShapes Go.WideShapes Go.ChangeAt Go.RowKit
set_option linter.unusedVariables false

/-- Nodes with the classes of their kids. -/
def withL (l : List Int) (p : List EN) : List EN := p.map fun x => (x.1, x.2.1, kidsL l x.2.2)
theorem withL_len (l : List Int) (p : List EN) : (withL l p).length = p.length := by simp [withL]
theorem withL_get (l : List Int) (p : List EN) {k : Nat} (h : k < p.length) : (withL l p).getD k e0 = ((p.getD k e0).1, (p.getD k e0).2.1, kidsL l (p.getD k e0).2.2) := by
  simp [withL, List.getD_eq_getElem?_getD, List.getElem?_eq_getElem h]
set_option maxHeartbeats 1600000 in
theorem withAll_own (a b : Option Addr) (len cap lb cb : Nat) (p : List EN) (l : List Int) (w : World) (h : ESl w a len p) (hl : Sl w b lb l) (hn : len ≤ 120) (hp : ∀ i, i < len → (p.getD i e0).2.2.length ≤ 3 ∧ ∀ j, j < (p.getD i e0).2.2.length → ∃ y : Nat, (p.getD i e0).2.2.getD j 0 = y ∧ y < lb) :
    Calls Tryd.prog 46 #[.slice a len cap, .slice b lb cb] w fun e w' => e = .returned (.slice (some ⟨w.heap.size, 0, none⟩) len len) ∧ Below w.heap.size w w' ∧ ∃ xs, w'.ownsRow w.heap.size 57 3 (.slice (some ⟨w.heap.size, 0, none⟩) len len) len xs ∧ ECopy w w' (withL l p) len xs := by
  obtain ⟨i0, hi, hz0, hz1, hz2⟩ := info_parts infoENode
  have hsl := h
  have hlen : (withL l p).length = len := by rw [withL_len]; exact h.1
  have hpl := h.1
  clear h
  go_enter Tryd.func46, Tryd.ntmps46
  go_wp2_with (at_make; refine wpList_make_full _ rfl _ _ 27 rfl w.heap.size 57 i0 (.agg #[.int .i64 0, .int .i64 0, .slice none 0 0]) 3 Tryd.underlying27 hi hz0 hz1 _ _ _ _ len rfl rfl rfl rfl (by rw [hz2]; omega) (by unfold maxLen; omega) (Nat.le_refl _) ?_; intro w1 hown hgrow)
  have hb1 : Below w.heap.size w w1 := (Below.refl _ _).grown hgrow (Nat.le_refl _) (fun k hk => by cases hk)
  clear hgrow
  go_loopw [13] (fun i wr => ∃ (k : Nat) (xs : List Value), k ≤ len ∧ i = .int .i64 k ∧ wr.ownsRow w.heap.size 57 3 (.slice (some ⟨w.heap.size, 0, none⟩) len len) len xs ∧ Hid (ECopy w wr (withL l p) k xs) ∧ Below w.heap.size w wr) (fun i _ => len - (intOf i).toNat)
  case atStart => exact ⟨0, _, Nat.zero_le _, rfl, hown, ⟨fun _ => 0, fun j hj => absurd hj (Nat.not_lt_zero _)⟩, hb1⟩
  case round =>
    obtain ⟨k, xs, hk, rfl, howr, hx, hbr⟩ := hrel
    clear hown hb1
    by_cases hlt : k < len
    · obtain ⟨b', off, rfl, hbl, hc⟩ := (hsl.keep hbr).at (by omega)
      obtain ⟨ai, li, ci, c1, c2, c3, hli, hci, hS⟩ := hc k hlt
      obtain ⟨hp3, hpk⟩ := hp k hlt
      obtain ⟨m, hm⟩ : ∃ m, p.getD k e0 = m := ⟨_, rfl⟩
      have hl1 := hS.1
      have HM : Hid ((withL l p).getD k e0 = (m.1, m.2.1, kidsL l m.2.2)) := by show _ = _; rw [withL_get l p (by omega), hm]
      rw [hm] at c1 c2 hS hpk hl1 hp3
      obtain ⟨xo, xn, e⟩ := m
      simp only at c1 c2 hS hpk hl1 hp3 HM
      have hle : (kidsL l e).length = li := by rw [kidsL_len]; exact hl1
      obtain ⟨W2, hW2⟩ : ∃ W2, wr.alloc (.cells #[.int .i64 xo, .int .i64 xn, .slice ai li ci] 57) = W2 := ⟨_, rfl⟩
      have hbA : Below wr.heap.size wr W2 := by rw [← hW2]; exact (Below.refl _ _).alloc (Nat.le_refl _) _
      have m0 : W2.cell? ⟨wr.heap.size, 0, none⟩ = some (.int .i64 xo) := by rw [← hW2]; simp [go_sem]
      have m1 : W2.cell? ⟨wr.heap.size, 1, none⟩ = some (.int .i64 xn) := by rw [← hW2]; simp [go_sem]
      have m2 : W2.cell? ⟨wr.heap.size, 2, none⟩ = some (.slice ai li ci) := by rw [← hW2]; simp [go_sem]
      have hszA : wr.heap.size < W2.heap.size := by rw [← hW2]; simp
      have hsz : ¬ b' = wr.heap.size := by omega
      have hkl : (k : Int) < len := by omega
      have HT := (show Hid _ from withC_any xo xn ai b li ci lb cb e l W2 (hS.keep hbA) ((hl.keep hbr).keep hbA) (by omega) (fun j hj => hpk j (by omega)))
      have hwl := owns_lt howr
      clear hc hm hS
      go_wp2_with fail
      (try rw [hW2])
      refine Calls.mono HT.out ?_
      rintro r w2 ⟨g, rfl, hb2', hg1', hg2, hcg⟩
      have hb2 : Below wr.heap.size wr w2 := hbA.trans (hb2'.mono hbA.size)
      have hg1 : wr.heap.size ≤ g := by omega
      clear hb2' hbA hW2 m0 m1 m2
      have how2 := howr.kept (grown_of hb2) (.inr (by simp [Value.ownBlock]))
      have hf1 := how2.frozenAt (k * 3)
      have hf2 := how2.frozenAt (k * 3 + 1)
      have hf3 := how2.frozenAt (k * 3 + 2)
      have hxl : xs.length = len * 3 := howr.1
      obtain ⟨y1, hy1⟩ : ∃ y, xs[k * 3]? = some y := ⟨_, List.getElem?_eq_getElem (by omega)⟩
      obtain ⟨y2, hy2⟩ : ∃ y, xs[k * 3 + 1]? = some y := ⟨_, List.getElem?_eq_getElem (by omega)⟩
      obtain ⟨y3, hy3⟩ : ∃ y, xs[k * 3 + 2]? = some y := ⟨_, List.getElem?_eq_getElem (by omega)⟩
      have hcl1 := how2.cellAt (k * 3) (by omega)
      have hcl2 := how2.cellAt (k * 3 + 1) (by omega)
      have hcl3 := how2.cellAt (k * 3 + 2) (by omega)
      rw [hy1] at hcl1
      rw [hy2] at hcl2
      rw [hy3] at hcl3
      have HR := (show Hid _ from ecopy_step (x := .slice (some ⟨g, 0, none⟩) li li) (y := xo) (z := xn) hx.out hlt hb2 hwl how2 hbr ⟨hg1, hg2⟩ (by rw [HM.out]; simp only; rw [hle]; exact hcg) (by rw [HM.out]; simp only; rw [hle]) (by rw [HM.out]) (by rw [HM.out]))
      clear hx how2 hb2 hcg hbr howr hy1 hy2 hy3 HT c1 c2 c3 HM
      go_wp2
      go_roundw
      case rel =>
        obtain ⟨xs', r1, r2, r3⟩ := HR.out
        exact ⟨k + 1, xs', by omega, by go_num, r1, r2, r3⟩
      case measure => simp [intOf]; omega
    · go_wp2
      obtain rfl : k = len := by omega
      go_ret
      exact ⟨rfl, hbr, xs, howr, hx.out⟩
end Go.Proofs.YthkjmgjajmghmaaDoor
