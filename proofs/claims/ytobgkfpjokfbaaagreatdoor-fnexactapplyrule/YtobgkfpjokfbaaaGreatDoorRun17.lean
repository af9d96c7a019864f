/-
  PROVED HERE: what the program's withClasses answers, at every node whose kids are numbers of the parts. No other condition. what the program's nodesWithClasses answers, at every list of nodes whose kids are numbers of the parts. No other condition. what the program's copyOfGraph answers, at every graph of at most 120 nodes whose kids are numbers of the parts. No other condition.
-/
import Derived.Test.YtobgkfpjokfbaaaGreatDoorRun11
import Derived.Test.YtobgkfpjokfbaaaGreatDoorRun9
import Derived.Test.YtobgkfpjokfbaaaGreatDoorRun13
import Derived.Test.YtobgkfpjokfbaaaGreatDoorSteps
import Derived.Test.YtobgkfpjokfbaaaGreatDoorRun14
import Derived.Deep.RegionHeld3
namespace Go.Proofs.YtobgkfpjokfbaaaGreatDoor
open Go.ChangeShapes Go.WideShapes Go.ChangeAt Go.RowKit
set_option linter.unusedVariables false

set_option maxHeartbeats 1600000 in
set_option maxRecDepth 20000 in
theorem withC_any (op n : Int) (a b : Option Addr) (len cap lb cb : Nat) (kids l : List Int) (w : World) (h : Sl w a len kids) (hl : Sl w b lb l) (h3 : len ≤ 3) (hk : ∀ i, i < len → ∃ y : Nat, kids.getD i 0 = y ∧ y < lb) :
    Calls Tryz.prog 85 #[.agg #[.int .i64 op, .int .i64 n, .slice a len cap], .slice b lb cb] w fun e w' => ∃ g, e = .returned (.agg #[.int .i64 op, .int .i64 n, .slice (some ⟨g, 0, none⟩) len len]) ∧ Below w.heap.size w w' ∧ w.heap.size ≤ g ∧ g < w'.heap.size ∧ (∀ i, i < len → w'.cell? ⟨g, i, none⟩ = some (.int .i64 ((kidsL l kids).getD i 0)) ∧ w'.frozen? ⟨g, i, none⟩ = false) := by
  obtain ⟨i0, hi, hz0, hz1, hz2⟩ := info_parts infoInt
  have hll := h.1
  obtain ⟨W1, hW1⟩ : ∃ W1, (w.alloc (.cells #[.int .i64 op, .int .i64 n, .slice a len cap] 80)).alloc (.cells #[.int .i64 0, .int .i64 0, .slice none 0 0] 80) = W1 := ⟨_, rfl⟩
  have hb1 : Below w.heap.size w W1 := by rw [← hW1]; exact ((Below.refl _ _).alloc (Nat.le_refl _) _).alloc (by simp) _
  have hsz : W1.heap.size = w.heap.size + 2 := by rw [← hW1]; simp
  have n0 : W1.cell? ⟨w.heap.size, 0, none⟩ = some (.int .i64 op) := by rw [← hW1]; simp [go_sem]
  have n1 : W1.cell? ⟨w.heap.size, 1, none⟩ = some (.int .i64 n) := by rw [← hW1]; simp [go_sem]
  have n2 : W1.cell? ⟨w.heap.size, 2, none⟩ = some (.slice a len cap) := by rw [← hW1]; simp [go_sem]
  have m0 : W1.cell? ⟨w.heap.size + 1, 0, none⟩ = some (.int .i64 0) := by rw [← hW1]; simp [go_sem]
  have m1 : W1.cell? ⟨w.heap.size + 1, 1, none⟩ = some (.int .i64 0) := by rw [← hW1]; simp [go_sem]
  have m2 : W1.cell? ⟨w.heap.size + 1, 2, none⟩ = some (.slice none 0 0) := by rw [← hW1]; simp [go_sem]
  have f0 : W1.frozen? ⟨w.heap.size + 1, 0, none⟩ = false := by rw [← hW1]; simp [go_sem]
  have f1 : W1.frozen? ⟨w.heap.size + 1, 1, none⟩ = false := by rw [← hW1]; simp [go_sem]
  have f2 : W1.frozen? ⟨w.heap.size + 1, 2, none⟩ = false := by rw [← hW1]; simp [go_sem]
  have lt0 : w.heap.size < W1.heap.size := by omega
  have lt1 : w.heap.size + 1 < W1.heap.size := by omega
  have HS : Hid (Sl W1 a len kids ∧ Sl W1 b lb l ∧ Below w.heap.size w W1 ∧ W1.heap.size = w.heap.size + 2) := ⟨h.keep hb1, hl.keep hb1, hb1, hsz⟩
  have HK := (show Hid _ from hk)
  have HL : Hid (∀ k, k < len → (kidsL l kids).getD k 0 = l.getD (kids.getD k 0).toNat 0) := fun k hk => kidsL_get l kids (by omega)
  clear h hl hk hsz hb1
  go_enter Tryz.func85, Tryz.ntmps85
  go_wp2_with (at_make; (try rw [hW1]); refine wpList_make_full _ rfl _ _ 23 rfl W1.heap.size 3 i0 (.int .i64 0) 1 Tryz.underlying23 hi hz0 hz1 _ _ _ _ len rfl rfl rfl rfl (by rw [hz2]; omega) (by unfold maxLen; omega) (Nat.le_refl _) ?_; intro w1 hown hgrow; have hbw : Below W1.heap.size W1 w1 := (Below.refl _ _).grown hgrow (Nat.le_refl _) (fun k hk => by cases hk); have q2 := (hbw.cell (p := ⟨w.heap.size, 2, none⟩) lt0).trans n2; clear hgrow)
  go_loopw [15] (fun i wr => ∃ (k : Nat) (xs : List Value), k ≤ len ∧ i = .int .i64 k ∧ wr.ownsRow W1.heap.size 3 1 (.slice (some ⟨W1.heap.size, 0, none⟩) len len) len xs ∧ Hid (∀ j, j < k → xs[j]? = some (.int .i64 ((kidsL l kids).getD j 0))) ∧ Below W1.heap.size W1 wr) (fun i _ => len - (intOf i).toNat)
  case atStart => exact ⟨0, _, Nat.zero_le _, rfl, hown, fun j hj => absurd hj (Nat.not_lt_zero _), hbw⟩
  case round =>
    obtain ⟨k, xs, hk, rfl, howr, hx, hbr⟩ := hrel
    clear hown hbw q2
    by_cases hlt : k < len
    · obtain ⟨y, hy, hyl⟩ := HK.out k hlt
      obtain ⟨ba, oa, rfl, hba, hca⟩ : ∃ b' off, a = some ⟨b', off, none⟩ ∧ b' < W1.heap.size ∧ ∀ i, i < len → W1.cell? ⟨b', off + i, none⟩ = some (.int .i64 (kids.getD i 0)) := by
        rcases HS.out.1.2 with h0 | h0
        · omega
        · exact h0
      obtain ⟨bp, op', rfl, hbp, hcp⟩ : ∃ b' off, b = some ⟨b', off, none⟩ ∧ b' < W1.heap.size ∧ ∀ i, i < lb → W1.cell? ⟨b', off + i, none⟩ = some (.int .i64 (l.getD i 0)) := by
        rcases HS.out.2.1.2 with h0 | h0
        · omega
        · exact h0
      have ck := (hbr.cell (p := ⟨ba, oa + k, none⟩) hba).trans (hca k hlt)
      rw [hy] at ck
      have cy := (hbr.cell (p := ⟨bp, op' + y, none⟩) hbp).trans (hcp y hyl)
      have hyl' : (y : Int) < lb := by omega
      have hkl : (k : Int) < len := by omega
      have hg := HL.out k hlt
      rw [hy, Int.toNat_natCast] at hg
      have hfr := howr.frozenAt k
      have hcg := howr.cellAt k (by omega)
      have hst := howr.stored k (.int .i64 (l.getD y 0))
      have R : Hid (∃ xs', (wr.setCell ⟨W1.heap.size, k, none⟩ (.int .i64 (l.getD y 0))).ownsRow W1.heap.size 3 1 (.slice (some ⟨W1.heap.size, 0, none⟩) len len) len xs' ∧ (∀ j, j < k + 1 → xs'[j]? = some (.int .i64 ((kidsL l kids).getD j 0))) ∧ Below W1.heap.size W1 (wr.setCell ⟨W1.heap.size, k, none⟩ (.int .i64 (l.getD y 0)))) := by
        refine ⟨_, hst.1, fun j hj => ?_, hbr.setCell (Nat.le_refl _) _⟩
        rw [List.getElem?_set]
        by_cases e : k = j
        · subst e
          rw [if_pos rfl, if_pos (by have := howr.1; omega), hg]
        · rw [if_neg e]; exact hx.out j (by omega)
      obtain ⟨u, hxk⟩ : ∃ u, xs[k]? = some u := ⟨_, List.getElem?_eq_getElem (by have := howr.1; omega)⟩
      rw [hxk] at hcg
      obtain ⟨z, hz⟩ : ∃ z, l.getD y 0 = z := ⟨_, rfl⟩
      rw [hz] at cy R
      clear hst hca hcp howr hx hxk hg hy hz
      go_wp2
      go_roundw
      case rel =>
        obtain ⟨xs', r1, r2, r3⟩ := R.out
        exact ⟨k + 1, xs', by omega, by go_num, r1, r2, r3⟩
      case measure => simp [intOf]; omega
    · obtain rfl : k = len := by omega
      have a0 := (hbr.cell (p := ⟨w.heap.size, 0, none⟩) lt0).trans n0
      have a1 := (hbr.cell (p := ⟨w.heap.size, 1, none⟩) lt0).trans n1
      have b0 := (hbr.cell (p := ⟨w.heap.size + 1, 0, none⟩) lt1).trans m0
      have b1 := (hbr.cell (p := ⟨w.heap.size + 1, 1, none⟩) lt1).trans m1
      have b2 := (hbr.cell (p := ⟨w.heap.size + 1, 2, none⟩) lt1).trans m2
      have c0 := (hbr.frozen (p := ⟨w.heap.size + 1, 0, none⟩) lt1).trans f0
      have c1 := (hbr.frozen (p := ⟨w.heap.size + 1, 1, none⟩) lt1).trans f1
      have c2 := (hbr.frozen (p := ⟨w.heap.size + 1, 2, none⟩) lt1).trans f2
      have HX : Hid (Below w.heap.size w wr ∧ W1.heap.size < wr.heap.size ∧ ∀ i, i < k → wr.cell? ⟨W1.heap.size, i, none⟩ = some (.int .i64 ((kidsL l kids).getD i 0)) ∧ wr.frozen? ⟨W1.heap.size, i, none⟩ = false) := ⟨HS.out.2.2.1.trans (hbr.mono HS.out.2.2.1.size), owns_lt howr, fun i hi => ⟨by rw [howr.cellAt i (by omega)]; exact hx.out i hi, howr.frozenAt i⟩⟩
      have lt4 : w.heap.size + 1 < W1.heap.size := lt1
      obtain ⟨g, hg⟩ : ∃ g, W1.heap.size = g := ⟨_, rfl⟩
      rw [hg] at HX lt4 ⊢
      clear hx hbr howr n0 n1 n2 m0 m1 m2 f0 f1 f2 hW1 HS HK HL lt0 lt1 hg
      go_wp2
      refine bodyPost_ret (v := .agg #[.int .i64 op, .int .i64 n, .slice (some ⟨g, 0, none⟩) k k]) (by simp [results, Tryz.results85, go_sem, *]) rfl ⟨g, rfl, ?_, by omega, ?_, fun i hi => ?_⟩
      · exact ((HX.out.1.setCell (by show w.heap.size ≤ w.heap.size + 1; omega) _).setCell (by show w.heap.size ≤ w.heap.size + 1; omega) _).setCell (by show w.heap.size ≤ w.heap.size + 1; omega) _
      · have := HX.out.2.1; simpa [World.setCell] using this
      · have := HX.out.2.2 i hi
        refine ⟨?_, ?_⟩
        · have n1 : ∀ o, (⟨w.heap.size + 1, o, none⟩ : Addr) ≠ ⟨g, i, none⟩ := fun o e => by injection e; omega
          rw [World.cell?_setCell_other _ _ _ _ (n1 _), World.cell?_setCell_other _ _ _ _ (n1 _), World.cell?_setCell_other _ _ _ _ (n1 _)]
          exact this.1
        · simpa [go_sem] using this.2
end Go.Proofs.YtobgkfpjokfbaaaGreatDoor
namespace Go.Proofs.YtobgkfpjokfbaaaGreatDoor
open Go.ChangeShapes Go.WideShapes Go.ChangeAt Go.RowKit
set_option linter.unusedVariables false

/-- Nodes with the classes of their kids. -/
def withL (l : List Int) (p : List EN) : List EN := p.map fun x => (x.1, x.2.1, kidsL l x.2.2)
theorem withL_len (l : List Int) (p : List EN) : (withL l p).length = p.length := by simp [withL]
theorem withL_get (l : List Int) (p : List EN) {k : Nat} (h : k < p.length) : (withL l p).getD k e0 = ((p.getD k e0).1, (p.getD k e0).2.1, kidsL l (p.getD k e0).2.2) := by
  simp [withL, List.getD_eq_getElem?_getD, List.getElem?_eq_getElem h]
set_option maxHeartbeats 1600000 in
theorem withAll_own (a b : Option Addr) (len cap lb cb : Nat) (p : List EN) (l : List Int) (w : World) (h : ESl w a len p) (hl : Sl w b lb l) (hn : len ≤ 120) (hp : ∀ i, i < len → (p.getD i e0).2.2.length ≤ 3 ∧ ∀ j, j < (p.getD i e0).2.2.length → ∃ y : Nat, (p.getD i e0).2.2.getD j 0 = y ∧ y < lb) :
    Calls Tryz.prog 89 #[.slice a len cap, .slice b lb cb] w fun e w' => e = .returned (.slice (some ⟨w.heap.size, 0, none⟩) len len) ∧ Below w.heap.size w w' ∧ ∃ xs, w'.ownsRow w.heap.size 80 3 (.slice (some ⟨w.heap.size, 0, none⟩) len len) len xs ∧ ECopy w w' (withL l p) len xs := by
  obtain ⟨i0, hi, hz0, hz1, hz2⟩ := info_parts infoENode
  have hsl := h
  have hlen : (withL l p).length = len := by rw [withL_len]; exact h.1
  have hpl := h.1
  clear h
  go_enter Tryz.func89, Tryz.ntmps89
  go_wp2_with (at_make; refine wpList_make_full _ rfl _ _ 34 rfl w.heap.size 80 i0 (.agg #[.int .i64 0, .int .i64 0, .slice none 0 0]) 3 Tryz.underlying34 hi hz0 hz1 _ _ _ _ len rfl rfl rfl rfl (by rw [hz2]; omega) (by unfold maxLen; omega) (Nat.le_refl _) ?_; intro w1 hown hgrow)
  have hb1 : Below w.heap.size w w1 := (Below.refl _ _).grown hgrow (Nat.le_refl _) (fun k hk => by cases hk)
  clear hgrow
  go_loopw [13] (fun i wr => ∃ (k : Nat) (xs : List Value), k ≤ len ∧ i = .int .i64 k ∧ wr.ownsRow w.heap.size 80 3 (.slice (some ⟨w.heap.size, 0, none⟩) len len) len xs ∧ Hid (ECopy w wr (withL l p) k xs) ∧ Below w.heap.size w wr) (fun i _ => len - (intOf i).toNat)
  case atStart => exact ⟨0, _, Nat.zero_le _, rfl, hown, ⟨fun _ => 0, fun j hj => absurd hj (Nat.not_lt_zero _)⟩, hb1⟩
  case round =>
    obtain ⟨k, xs, hk, rfl, howr, hx, hbr⟩ := hrel
    clear hown hb1
    by_cases hlt : k < len
    · obtain ⟨b', off, rfl, hbl, hc⟩ := (hsl.keep hbr).at (by omega)
      obtain ⟨ai, li, ci, c1, c2, c3, hli, hci, hS⟩ := hc k hlt
      obtain ⟨hp3, hpk⟩ := hp k hlt
      obtain ⟨m, hm⟩ : ∃ m, p.getD k e0 = m := ⟨_, rfl⟩
      have hl1 := hS.1
      have HM : Hid ((withL l p).getD k e0 = (m.1, m.2.1, kidsL l m.2.2)) := by show _ = _; rw [withL_get l p (by omega), hm]
      rw [hm] at c1 c2 hS hpk hl1 hp3
      obtain ⟨xo, xn, e⟩ := m
      simp only at c1 c2 hS hpk hl1 hp3 HM
      have hle : (kidsL l e).length = li := by rw [kidsL_len]; exact hl1
      obtain ⟨W2, hW2⟩ : ∃ W2, wr.alloc (.cells #[.int .i64 xo, .int .i64 xn, .slice ai li ci] 80) = W2 := ⟨_, rfl⟩
      have hbA : Below wr.heap.size wr W2 := by rw [← hW2]; exact (Below.refl _ _).alloc (Nat.le_refl _) _
      have m0 : W2.cell? ⟨wr.heap.size, 0, none⟩ = some (.int .i64 xo) := by rw [← hW2]; simp [go_sem]
      have m1 : W2.cell? ⟨wr.heap.size, 1, none⟩ = some (.int .i64 xn) := by rw [← hW2]; simp [go_sem]
      have m2 : W2.cell? ⟨wr.heap.size, 2, none⟩ = some (.slice ai li ci) := by rw [← hW2]; simp [go_sem]
      have hszA : wr.heap.size < W2.heap.size := by rw [← hW2]; simp
      have hsz : ¬ b' = wr.heap.size := by omega
      have hkl : (k : Int) < len := by omega
      have HT := (show Hid _ from withC_any xo xn ai b li ci lb cb e l W2 (hS.keep hbA) ((hl.keep hbr).keep hbA) (by omega) (fun j hj => hpk j (by omega)))
      have hwl := owns_lt howr
      clear hc hm hS
      go_wp2_with fail
      (try rw [hW2])
      refine Calls.mono HT.out ?_
      rintro r w2 ⟨g, rfl, hb2', hg1', hg2, hcg⟩
      have hb2 : Below wr.heap.size wr w2 := hbA.trans (hb2'.mono hbA.size)
      have hg1 : wr.heap.size ≤ g := by omega
      clear hb2' hbA hW2 m0 m1 m2
      have how2 := howr.kept (grown_of hb2) (.inr (by simp [Value.ownBlock]))
      have hf1 := how2.frozenAt (k * 3)
      have hf2 := how2.frozenAt (k * 3 + 1)
      have hf3 := how2.frozenAt (k * 3 + 2)
      have hxl : xs.length = len * 3 := howr.1
      obtain ⟨y1, hy1⟩ : ∃ y, xs[k * 3]? = some y := ⟨_, List.getElem?_eq_getElem (by omega)⟩
      obtain ⟨y2, hy2⟩ : ∃ y, xs[k * 3 + 1]? = some y := ⟨_, List.getElem?_eq_getElem (by omega)⟩
      obtain ⟨y3, hy3⟩ : ∃ y, xs[k * 3 + 2]? = some y := ⟨_, List.getElem?_eq_getElem (by omega)⟩
      have hcl1 := how2.cellAt (k * 3) (by omega)
      have hcl2 := how2.cellAt (k * 3 + 1) (by omega)
      have hcl3 := how2.cellAt (k * 3 + 2) (by omega)
      rw [hy1] at hcl1
      rw [hy2] at hcl2
      rw [hy3] at hcl3
      have HR := (show Hid _ from ecopy_step (x := .slice (some ⟨g, 0, none⟩) li li) (y := xo) (z := xn) hx.out hlt hb2 hwl how2 hbr ⟨hg1, hg2⟩ (by rw [HM.out]; simp only; rw [hle]; exact hcg) (by rw [HM.out]; simp only; rw [hle]) (by rw [HM.out]) (by rw [HM.out]))
      clear hx how2 hb2 hcg hbr howr hy1 hy2 hy3 HT c1 c2 c3 HM
      go_wp2
      go_roundw
      case rel =>
        obtain ⟨xs', r1, r2, r3⟩ := HR.out
        exact ⟨k + 1, xs', by omega, by go_num, r1, r2, r3⟩
      case measure => simp [intOf]; omega
    · go_wp2
      obtain rfl : k = len := by omega
      go_ret
      exact ⟨rfl, hbr, xs, howr, hx.out⟩
end Go.Proofs.YtobgkfpjokfbaaaGreatDoor
namespace Go.Proofs.YtobgkfpjokfbaaaGreatDoor
open Go.ChangeShapes Go.WideShapes Go.ChangeAt Go.RowKit
set_option linter.unusedVariables false

/-- Nodes that were made and parts apart from them are a graph of its own. -/
theorem gown_copy {w w1 w2 : World} {p : List EN} {l : List Int} {xs : List Value} {vb : Value} {len lo : Nat} (hlo : lo ≤ w.heap.size) (hp : p.length = len) (h3 : ∀ i, i < len → (p.getD i e0).2.2.length ≤ 3) (hr : w1.ownsRow w.heap.size 80 3 (.slice (some ⟨w.heap.size, 0, none⟩) len len) len xs) (hc : ECopy w w1 p len xs) (hb : Below w1.heap.size w1 w2) (hv : w2.ownsRow lo 3 1 vb l.length (vals l)) (hx : ∀ x, vb.ownBlock = some x → x < w.heap.size ∨ w1.heap.size ≤ x) :
    GOwn w2 true (fun b => lo ≤ b) (.slice (some ⟨w.heap.size, 0, none⟩) len len) vb (p, l) := by
  obtain ⟨bs, hbs⟩ := hc
  have hlt := owns_lt hr
  subst hp
  refine ⟨xs, fun i => .slice (some ⟨bs i, 0, none⟩) (p.getD i e0).2.2.length (p.getD i e0).2.2.length, own_base (row_keep hr hb) (Nat.zero_le _), own_base hv (Nat.zero_le _), fun x e => ?_, fun x e => (hv.lt x e).1, fun i hi => ?_⟩
  · have e' : w.heap.size = x := by injection e
    refine ⟨by omega, fun e2 => ?_⟩
    have := hx x e2
    omega
  · obtain ⟨h1, h2, h3', h4, h5, h6, h7⟩ := hbs i hi
    have hk3 := h3 i hi
    refine ⟨h4, h5, h6, some ⟨bs i, 0, none⟩, _, rfl, Nat.le_refl _, by show (p.getD i e0).2.2.length ≤ _; omega, ⟨rfl, .inr ⟨bs i, 0, rfl, Nat.lt_of_lt_of_le h2 hb.size, fun j hj => ?_⟩⟩, fun x e => ?_, fun _ => ⟨bs i, rfl, fun j hj => (hb.frozen (p := ⟨bs i, j, none⟩) h2).trans (h7 j hj).2⟩⟩
    · rw [Nat.zero_add]; exact (hb.cell (p := ⟨bs i, j, none⟩) h2).trans (h7 j hj).1
    · have e' : bs i = x := by injection e
      subst e'
      refine ⟨⟨by omega, fun e2 => ?_, fun e2 => ?_, fun j hj e2 => ?_⟩, Nat.lt_of_lt_of_le h2 hb.size⟩
      · have : w.heap.size = bs i := by injection e2
        omega
      · have := hx _ e2; omega
      · have : bs j = bs i := by injection e2
        exact h3' j hj this
theorem cloneI_any (a : Option Addr) (len cap : Nat) (l : List Int) (w : World) (h : Sl w a len l) (hn : len ≤ 1048576) :
    Calls Tryz.prog 103 #[.slice a len cap] w fun e w' => ∃ v : Value, e = .returned v ∧ w'.ownsRow w.heap.size 3 1 v len (vals l) ∧ Below w.heap.size w w' := by
  have q : ∀ (w : World) (a : Option Addr) (n c n' c' : Nat), (binOp .eql 23 (.slice a n c) (.slice none n' c')).run Tryz.prog w = .ok (.bool a.isNone) w := fun w a n c n' c' => Lib.run_eql_slice_nil w _ _ a n c n' c' Tryz.underlying23
  have hll := h.1
  cases a with
  | none =>
    have h0 : len = 0 := by
      rcases h.2 with h0 | ⟨b, off, e, _⟩
      · exact h0
      · cases e
    subst h0
    have : l = [] := List.length_eq_zero_iff.1 hll
    subst this
    clear h hll
    go_enter Tryz.func103, Tryz.ntmps103
    go_wp2
    go_ret
    exact ⟨_, rfl, World.ownsRow_nil _ _ _ _, Below.refl _ _⟩
  | some x =>
    obtain ⟨i0, hi, hz0, hz1, hz2⟩ := info_parts infoInt
    have hb0 : Below w.heap.size w (w.alloc (.cells #[] 3)) := (Below.refl _ _).alloc (Nat.le_refl _) _
    have HC : Hid (∀ j u, (vals l)[j]? = some u → (w.alloc (.cells #[] 3)).cell? (x.add j) = some u) := by
      by_cases h0 : len = 0
      · subst h0
        have : l = [] := List.length_eq_zero_iff.1 hll
        subst this
        intro j u hj
        simp [vals] at hj
      · obtain ⟨b, off, e, _⟩ := cells_of h (by omega)
        cases e
        have hcs := sl_cells (h.keep hb0) 0 len (by omega)
        rw [List.drop_zero, List.take_of_length_le (by omega), Nat.add_zero] at hcs
        exact hcs
    have H1 : Hid (∀ u ∈ vals l, u.oneCell' = true) := vals_one l
    have hvl : (vals l).length = len * 1 := by rw [vals_len]; omega
    clear h
    go_enter Tryz.func103, Tryz.ntmps103
    go_wp2_with (at_builtin; refine wpList_append_own _ rfl _ _ 23 rfl w.heap.size 3 i0 (.int .i64 0) 1 8 Tryz.underlying23 hi hz0 hz1 hz2 rfl (by decide) _ _ _ rfl (empty5 w) x len cap (vals l) rfl hvl HC.out H1.out (by unfold maxLen; omega) (by omega) (by simp) ?_; intro v' w4 hown4 hg4 _)
    go_ret
    rw [Nat.zero_add, List.nil_append] at hown4
    exact ⟨_, rfl, hown4, hb0.grown hg4 (by simp) (fun r hr => by cases hr; exact Nat.le_refl _)⟩
set_option maxHeartbeats 1600000 in
set_option maxRecDepth 20000 in
theorem copyG_own (a b : Option Addr) (len cap lb cb : Nat) (p : List EN) (l : List Int) (w : World) (h : ESl w a len p) (hl : Sl w b lb l) (hn : len ≤ 120) (hlb : lb ≤ 1000) (hp : ∀ i, i < len → (p.getD i e0).2.2.length ≤ 3 ∧ ∀ j, j < (p.getD i e0).2.2.length → ∃ y : Nat, (p.getD i e0).2.2.getD j 0 = y ∧ y < lb) :
    Calls Tryz.prog 83 #[.agg #[.slice a len cap, .slice b lb cb]] w fun e w' => ∃ va vb, e = .returned (.agg #[va, vb]) ∧ GOwn w' true (fun x => w.heap.size + 2 ≤ x) va vb (withL l p, l) ∧ Below w.heap.size w w' := by
  obtain ⟨W1, hW1⟩ : ∃ W1, (w.alloc (.cells #[.slice a len cap, .slice b lb cb] 36)).alloc (.cells #[.slice none 0 0, .slice none 0 0] 36) = W1 := ⟨_, rfl⟩
  have hb1 : Below w.heap.size w W1 := by rw [← hW1]; exact ((Below.refl _ _).alloc (Nat.le_refl _) _).alloc (by simp) _
  have hs1 : W1.heap.size = w.heap.size + 2 := by rw [← hW1]; simp
  have n0 : W1.cell? ⟨w.heap.size, 0, none⟩ = some (.slice a len cap) := by rw [← hW1]; simp [go_sem]
  have n1 : W1.cell? ⟨w.heap.size, 1, none⟩ = some (.slice b lb cb) := by rw [← hW1]; simp [go_sem]
  have r0 : W1.cell? ⟨w.heap.size + 1, 0, none⟩ = some (.slice none 0 0) := by rw [← hW1]; simp [go_sem]
  have r1 : W1.cell? ⟨w.heap.size + 1, 1, none⟩ = some (.slice none 0 0) := by rw [← hW1]; simp [go_sem]
  have f0 : W1.frozen? ⟨w.heap.size + 1, 0, none⟩ = false := by rw [← hW1]; simp [go_sem]
  have f1 : W1.frozen? ⟨w.heap.size + 1, 1, none⟩ = false := by rw [← hW1]; simp [go_sem]
  have HC : Hid (∀ W, Below W1.heap.size W1 W → (W.cell? ⟨w.heap.size, 0, none⟩ = some (.slice a len cap) ∧ W.cell? ⟨w.heap.size, 1, none⟩ = some (.slice b lb cb)) ∧ W.cell? ⟨w.heap.size + 1, 0, none⟩ = some (.slice none 0 0) ∧ W.cell? ⟨w.heap.size + 1, 1, none⟩ = some (.slice none 0 0) ∧ W.frozen? ⟨w.heap.size + 1, 0, none⟩ = false ∧ W.frozen? ⟨w.heap.size + 1, 1, none⟩ = false ∧ ∀ v0 v1, ((W.setCell ⟨w.heap.size + 1, 0, none⟩ v0).setCell ⟨w.heap.size + 1, 1, none⟩ v1).cell? ⟨w.heap.size, 0, none⟩ = some (.slice a len cap) ∧ ((W.setCell ⟨w.heap.size + 1, 0, none⟩ v0).setCell ⟨w.heap.size + 1, 1, none⟩ v1).cell? ⟨w.heap.size, 1, none⟩ = some (.slice b lb cb)) := fun W hW => by
    have x0 := (hW.cell (p := ⟨w.heap.size, 0, none⟩) (by show w.heap.size < _; omega)).trans n0
    have x1 := (hW.cell (p := ⟨w.heap.size, 1, none⟩) (by show w.heap.size < _; omega)).trans n1
    have nq : ∀ o o', (⟨w.heap.size + 1, o, none⟩ : Addr) ≠ ⟨w.heap.size, o', none⟩ := fun o o' e => by injection e; omega
    exact ⟨⟨x0, x1⟩, (hW.cell (p := ⟨w.heap.size + 1, 0, none⟩) (by show w.heap.size + 1 < _; omega)).trans r0, (hW.cell (p := ⟨w.heap.size + 1, 1, none⟩) (by show w.heap.size + 1 < _; omega)).trans r1, (hW.frozen (p := ⟨w.heap.size + 1, 0, none⟩) (by show w.heap.size + 1 < _; omega)).trans f0, (hW.frozen (p := ⟨w.heap.size + 1, 1, none⟩) (by show w.heap.size + 1 < _; omega)).trans f1, fun v0 v1 => ⟨by rw [World.cell?_setCell_other _ _ _ _ (nq _ _), World.cell?_setCell_other _ _ _ _ (nq _ _)]; exact x0, by rw [World.cell?_setCell_other _ _ _ _ (nq _ _), World.cell?_setCell_other _ _ _ _ (nq _ _)]; exact x1⟩⟩
  have HN : Hid (∀ W, Below W1.heap.size W1 W → Calls Tryz.prog 89 #[.slice a len cap, .slice b lb cb] W fun e w' => e = .returned (.slice (some ⟨W.heap.size, 0, none⟩) len len) ∧ Below W.heap.size W w' ∧ ∃ xs, w'.ownsRow W.heap.size 80 3 (.slice (some ⟨W.heap.size, 0, none⟩) len len) len xs ∧ ECopy W w' (withL l p) len xs) := fun W hW => withAll_own a b len cap lb cb p l W ((h.keep hb1).keep hW) ((hl.keep hb1).keep hW) hn hp
  have HP : Hid (∀ W, Below W1.heap.size W1 W → Calls Tryz.prog 103 #[.slice b lb cb] W fun e w' => ∃ v : Value, e = .returned v ∧ w'.ownsRow W.heap.size 3 1 v lb (vals l) ∧ Below W.heap.size W w') := fun W hW => cloneI_any b lb cb l W ((hl.keep hb1).keep hW) (by omega)
  have HX : Hid ((withL l p).length = len ∧ (∀ i, i < len → ((withL l p).getD i e0).2.2.length ≤ 3) ∧ l.length = lb ∧ W1.heap.size = w.heap.size + 2 ∧ Below w.heap.size w W1) := by
    have := h.1
    exact ⟨by rw [withL_len]; exact this, fun i hi => by rw [withL_get l p (by omega)]; simp only; rw [kidsL_len]; exact (hp i hi).1, hl.1, hs1, hb1⟩
  have HD : Hid (Below W1.heap.size W1 W1.drew) := Go.below_drewN (Below.refl _ _) 1
  obtain ⟨⟨zD0, zD1⟩, _⟩ := HC.out W1.drew HD.out
  clear h hl hp hb1 n0 n1 r0 r1 f0 f1 hs1
  go_enter Tryz.func83, Tryz.ntmps83
  go_wp2_with fail
  (try rw [hW1])
  clear hW1
  go_region_held3 (fun w' => w'.cell? ⟨w.heap.size, 0, none⟩ = some (.slice a len cap) ∧ w'.cell? ⟨w.heap.size, 1, none⟩ = some (.slice b lb cb))
    (first | exact ⟨zD0, zD1⟩ | assumption | exact sS _ _)
    (first
    | (go_at_call 89; first
        | (refine Calls.mono (HN.out W1.drew HD.out) ?_; rintro r w4 ⟨rfl, hb4, xs, hxs, hec⟩; have hB4 : Below W1.heap.size W1 w4 := HD.out.trans hb4; obtain ⟨z4, y0, y1, y2, y3, sS⟩ := HC.out w4 hB4)
        | (refine Calls.mono (HN.out w5 hB5) ?_; rintro r w4 ⟨rfl, hb4, xs, hxs, hec⟩; have hB4 : Below W1.heap.size W1 w4 := hB5.trans (hb4.mono hB5.size); clear y0 y1 y2 y3 sS; obtain ⟨z4, y0, y1, y2, y3, sS⟩ := HC.out w4 hB4))
    | (go_at_call 103; first
        | (refine Calls.mono (HP.out W1.drew HD.out) ?_; rintro r w5 ⟨vb, rfl, hvb, hb5⟩; obtain ⟨ab, cb5, rfl, _⟩ := row_slice hvb; have hB5 : Below W1.heap.size W1 w5 := HD.out.trans hb5; obtain ⟨z5, y0, y1, y2, y3, sS⟩ := HC.out w5 hB5)
        | (refine Calls.mono (HP.out w4 hB4) ?_; rintro r w5 ⟨vb, rfl, hvb, hb5⟩; obtain ⟨ab, cb5, rfl, _⟩ := row_slice hvb; have hB5 : Below W1.heap.size W1 w5 := hB4.trans (hb5.mono hB4.size); clear y0 y1 y2 y3 sS; obtain ⟨z5, y0, y1, y2, y3, sS⟩ := HC.out w5 hB5)))
  · have HG : Hid (∀ v0 v1, GOwn ((w5.setCell ⟨w.heap.size + 1, 0, none⟩ v0).setCell ⟨w.heap.size + 1, 1, none⟩ v1) true (fun x => w.heap.size + 2 ≤ x) (.slice (some ⟨W1.heap.size, 0, none⟩) len len) (.slice ab lb cb5) (withL l p, l) ∧ Below w.heap.size w ((w5.setCell ⟨w.heap.size + 1, 0, none⟩ v0).setCell ⟨w.heap.size + 1, 1, none⟩ v1)) := fun v0 v1 => by
      obtain ⟨g1, g2, g3, g4, g5⟩ := HX.out
      have hs4 := hB4.size
      have hG := gown_copy (w := W1.drew) (w1 := w4) (w2 := w5) (lo := W1.heap.size) (p := withL l p) (l := l) (Nat.le_refl _) g1 g2 hxs hec hb5 (by rw [g3]; exact own_base hvb hs4) (fun x hx => .inr (hvb.lt x hx).1)
      refine ⟨hG.map (by rw [setCell_size, setCell_size]; exact Nat.le_refl _) (fun b hb hl => ?_) (fun b _ hb => by omega), ((g5.trans (hB5.mono g5.size)).setCell (by show w.heap.size ≤ w.heap.size + 1; omega) _).setCell (by show w.heap.size ≤ w.heap.size + 1; omega) _⟩
      rw [setCell_block _ _ _ (show w.heap.size + 1 ≠ b by omega), setCell_block _ _ _ (show w.heap.size + 1 ≠ b by omega)]
    clear hxs hec hvb hb4 hb5 hB4 hB5 HN HP HX HC HD
    go_wp2
    refine bodyPost_ret (v := .agg #[.slice (some ⟨W1.heap.size, 0, none⟩) len len, .slice ab lb cb5]) ?_ ?_ ?_
    · simp [results, Tryz.results83, go_sem, *]
    · rfl
    · exact ⟨_, _, rfl, (HG.out _ _).1, (HG.out _ _).2⟩
end Go.Proofs.YtobgkfpjokfbaaaGreatDoor
