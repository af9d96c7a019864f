/-
  PROVED HERE: what the program's withClasses answers, at every node whose kids are numbers of the parts. No other condition. what the program's nodesWithClasses answers, at every list of nodes whose kids are numbers of the parts. No other condition. what the program's copyOfGraph answers, at every graph of at most 120 nodes whose kids are numbers of the parts. No other condition. what the program's shelfOf answers, at every good graph. No other condition. what the program's find and put answer at a shelf of a good graph. No other condition. what the program's put answers at a shelf of a good graph. No other condition. what the program's put answers at a shelf of a good graph of at most 120 nodes. No other condition.
-/
import Derived.Test.YtbmgflapagbkcaaDoorG6Mine
import Derived.Test.YtbmgflapagbkcaaDoorE6Kids
import Derived.Test.YtbmgflapagbkcaaDoorA6Put
import Derived.Test.YtbmgflapagbkcaaDoorSteps
import Derived.Test.YtbmgflapagbkcaaDoorP5Union
import Derived.Deep.RegionHeld3
import Derived.Test.YtbmgflapagbkcaaDoorGraphI
namespace Go.Proofs.YtbmgflapagbkcaaDoor
open Go.ChangeShapes Go.WideShapes Go.ChangeAt Go.RowKit
set_option linter.unusedVariables false

set_option maxHeartbeats 1600000 in
set_option maxRecDepth 20000 in
theorem withC_any (op n : Int) (a b : Option Addr) (len cap lb cb : Nat) (kids l : List Int) (w : World) (h : Sl w a len kids) (hl : Sl w b lb l) (h3 : len ≤ 3) (hk : ∀ i, i < len → ∃ y : Nat, kids.getD i 0 = y ∧ y < lb) :
    Calls Tryd.prog 62 #[.agg #[.int .i64 op, .int .i64 n, .slice a len cap], .slice b lb cb] w fun e w' => ∃ g, e = .returned (.agg #[.int .i64 op, .int .i64 n, .slice (some ⟨g, 0, none⟩) len len]) ∧ Below w.heap.size w w' ∧ w.heap.size ≤ g ∧ g < w'.heap.size ∧ (∀ i, i < len → w'.cell? ⟨g, i, none⟩ = some (.int .i64 ((kidsL l kids).getD i 0)) ∧ w'.frozen? ⟨g, i, none⟩ = false) := by
  obtain ⟨i0, hi, hz0, hz1, hz2⟩ := info_parts infoInt
  have hll := h.1
  obtain ⟨W1, hW1⟩ : ∃ W1, (w.alloc (.cells #[.int .i64 op, .int .i64 n, .slice a len cap] 36)).alloc (.cells #[.int .i64 0, .int .i64 0, .slice none 0 0] 36) = W1 := ⟨_, rfl⟩
  have hb1 : Below w.heap.size w W1 := by rw [← hW1]; exact ((Below.refl _ _).alloc (Nat.le_refl _) _).alloc (by simp) _
  have hsz : W1.heap.size = w.heap.size + 2 := by rw [← hW1]; simp
  have n0 : W1.cell? ⟨w.heap.size, 0, none⟩ = some (.int .i64 op) := by rw [← hW1]; simp [go_sem]
  have n1 : W1.cell? ⟨w.heap.size, 1, none⟩ = some (.int .i64 n) := by rw [← hW1]; simp [go_sem]
  have n2 : W1.cell? ⟨w.heap.size, 2, none⟩ = some (.slice a len cap) := by rw [← hW1]; simp [go_sem]
  have m0 : W1.cell? ⟨w.heap.size + 1, 0, none⟩ = some (.int .i64 0) := by rw [← hW1]; simp [go_sem]
  have m1 : W1.cell? ⟨w.heap.size + 1, 1, none⟩ = some (.int .i64 0) := by rw [← hW1]; simp [go_sem]
  have m2 : W1.cell? ⟨w.heap.size + 1, 2, none⟩ = some (.slice none 0 0) := by rw [← hW1]; simp [go_sem]
  have f0 : W1.frozen? ⟨w.heap.size + 1, 0, none⟩ = false := by rw [← hW1]; simp [go_sem]
  have f1 : W1.frozen? ⟨w.heap.size + 1, 1, none⟩ = false := by rw [← hW1]; simp [go_sem]
  have f2 : W1.frozen? ⟨w.heap.size + 1, 2, none⟩ = false := by rw [← hW1]; simp [go_sem]
  have lt0 : w.heap.size < W1.heap.size := by omega
  have lt1 : w.heap.size + 1 < W1.heap.size := by omega
  have HS : Hid (Sl W1 a len kids ∧ Sl W1 b lb l ∧ Below w.heap.size w W1 ∧ W1.heap.size = w.heap.size + 2) := ⟨h.keep hb1, hl.keep hb1, hb1, hsz⟩
  have HK := (show Hid _ from hk)
  have HL : Hid (∀ k, k < len → (kidsL l kids).getD k 0 = l.getD (kids.getD k 0).toNat 0) := fun k hk => kidsL_get l kids (by omega)
  clear h hl hk hsz hb1
  go_enter Tryd.func62, Tryd.ntmps62
  go_wp2_with (at_make; (try rw [hW1]); refine wpList_make_full _ rfl _ _ 23 rfl W1.heap.size 3 i0 (.int .i64 0) 1 Tryd.underlying23 hi hz0 hz1 _ _ _ _ len rfl rfl rfl rfl (by rw [hz2]; omega) (by unfold maxLen; omega) (Nat.le_refl _) ?_; intro w1 hown hgrow; have hbw : Below W1.heap.size W1 w1 := (Below.refl _ _).grown hgrow (Nat.le_refl _) (fun k hk => by cases hk); have q2 := (hbw.cell (p := ⟨w.heap.size, 2, none⟩) lt0).trans n2; clear hgrow)
  go_loopw [15] (fun i wr => ∃ (k : Nat) (xs : List Value), k ≤ len ∧ i = .int .i64 k ∧ wr.ownsRow W1.heap.size 3 1 (.slice (some ⟨W1.heap.size, 0, none⟩) len len) len xs ∧ Hid (∀ j, j < k → xs[j]? = some (.int .i64 ((kidsL l kids).getD j 0))) ∧ Below W1.heap.size W1 wr) (fun i _ => len - (intOf i).toNat)
  case atStart => exact ⟨0, _, Nat.zero_le _, rfl, hown, fun j hj => absurd hj (Nat.not_lt_zero _), hbw⟩
  case round =>
    obtain ⟨k, xs, hk, rfl, howr, hx, hbr⟩ := hrel
    clear hown hbw q2
    by_cases hlt : k < len
    · obtain ⟨y, hy, hyl⟩ := HK.out k hlt
      obtain ⟨ba, oa, rfl, hba, hca⟩ : ∃ b' off, a = some ⟨b', off, none⟩ ∧ b' < W1.heap.size ∧ ∀ i, i < len → W1.cell? ⟨b', off + i, none⟩ = some (.int .i64 (kids.getD i 0)) := by
        rcases HS.out.1.2 with h0 | h0
        · omega
        · exact h0
      obtain ⟨bp, op', rfl, hbp, hcp⟩ : ∃ b' off, b = some ⟨b', off, none⟩ ∧ b' < W1.heap.size ∧ ∀ i, i < lb → W1.cell? ⟨b', off + i, none⟩ = some (.int .i64 (l.getD i 0)) := by
        rcases HS.out.2.1.2 with h0 | h0
        · omega
        · exact h0
      have ck := (hbr.cell (p := ⟨ba, oa + k, none⟩) hba).trans (hca k hlt)
      rw [hy] at ck
      have cy := (hbr.cell (p := ⟨bp, op' + y, none⟩) hbp).trans (hcp y hyl)
      have hyl' : (y : Int) < lb := by omega
      have hkl : (k : Int) < len := by omega
      have hg := HL.out k hlt
      rw [hy, Int.toNat_natCast] at hg
      have hfr := howr.frozenAt k
      have hcg := howr.cellAt k (by omega)
      have hst := howr.stored k (.int .i64 (l.getD y 0))
      have R : Hid (∃ xs', (wr.setCell ⟨W1.heap.size, k, none⟩ (.int .i64 (l.getD y 0))).ownsRow W1.heap.size 3 1 (.slice (some ⟨W1.heap.size, 0, none⟩) len len) len xs' ∧ (∀ j, j < k + 1 → xs'[j]? = some (.int .i64 ((kidsL l kids).getD j 0))) ∧ Below W1.heap.size W1 (wr.setCell ⟨W1.heap.size, k, none⟩ (.int .i64 (l.getD y 0)))) := by
        refine ⟨_, hst.1, fun j hj => ?_, hbr.setCell (Nat.le_refl _) _⟩
        rw [List.getElem?_set]
        by_cases e : k = j
        · subst e
          rw [if_pos rfl, if_pos (by have := howr.1; omega), hg]
        · rw [if_neg e]; exact hx.out j (by omega)
      obtain ⟨u, hxk⟩ : ∃ u, xs[k]? = some u := ⟨_, List.getElem?_eq_getElem (by have := howr.1; omega)⟩
      rw [hxk] at hcg
      obtain ⟨z, hz⟩ : ∃ z, l.getD y 0 = z := ⟨_, rfl⟩
      rw [hz] at cy R
      clear hst hca hcp howr hx hxk hg hy hz
      go_wp2
      go_roundw
      case rel =>
        obtain ⟨xs', r1, r2, r3⟩ := R.out
        exact ⟨k + 1, xs', by omega, by go_num, r1, r2, r3⟩
      case measure => simp [intOf]; omega
    · obtain rfl : k = len := by omega
      have a0 := (hbr.cell (p := ⟨w.heap.size, 0, none⟩) lt0).trans n0
      have a1 := (hbr.cell (p := ⟨w.heap.size, 1, none⟩) lt0).trans n1
      have b0 := (hbr.cell (p := ⟨w.heap.size + 1, 0, none⟩) lt1).trans m0
      have b1 := (hbr.cell (p := ⟨w.heap.size + 1, 1, none⟩) lt1).trans m1
      have b2 := (hbr.cell (p := ⟨w.heap.size + 1, 2, none⟩) lt1).trans m2
      have c0 := (hbr.frozen (p := ⟨w.heap.size + 1, 0, none⟩) lt1).trans f0
      have c1 := (hbr.frozen (p := ⟨w.heap.size + 1, 1, none⟩) lt1).trans f1
      have c2 := (hbr.frozen (p := ⟨w.heap.size + 1, 2, none⟩) lt1).trans f2
      have HX : Hid (Below w.heap.size w wr ∧ W1.heap.size < wr.heap.size ∧ ∀ i, i < k → wr.cell? ⟨W1.heap.size, i, none⟩ = some (.int .i64 ((kidsL l kids).getD i 0)) ∧ wr.frozen? ⟨W1.heap.size, i, none⟩ = false) := ⟨HS.out.2.2.1.trans (hbr.mono HS.out.2.2.1.size), owns_lt howr, fun i hi => ⟨by rw [howr.cellAt i (by omega)]; exact hx.out i hi, howr.frozenAt i⟩⟩
      have lt4 : w.heap.size + 1 < W1.heap.size := lt1
      obtain ⟨g, hg⟩ : ∃ g, W1.heap.size = g := ⟨_, rfl⟩
      rw [hg] at HX lt4 ⊢
      clear hx hbr howr n0 n1 n2 m0 m1 m2 f0 f1 f2 hW1 HS HK HL lt0 lt1 hg
      go_wp2
      refine bodyPost_ret (v := .agg #[.int .i64 op, .int .i64 n, .slice (some ⟨g, 0, none⟩) k k]) (by simp [results, Tryd.results62, go_sem, *]) rfl ⟨g, rfl, ?_, by omega, ?_, fun i hi => ?_⟩
      · exact ((HX.out.1.setCell (by show w.heap.size ≤ w.heap.size + 1; omega) _).setCell (by show w.heap.size ≤ w.heap.size + 1; omega) _).setCell (by show w.heap.size ≤ w.heap.size + 1; omega) _
      · have := HX.out.2.1; simpa [World.setCell] using this
      · have := HX.out.2.2 i hi
        refine ⟨?_, ?_⟩
        · have n1 : ∀ o, (⟨w.heap.size + 1, o, none⟩ : Addr) ≠ ⟨g, i, none⟩ := fun o e => by injection e; omega
          rw [World.cell?_setCell_other _ _ _ _ (n1 _), World.cell?_setCell_other _ _ _ _ (n1 _), World.cell?_setCell_other _ _ _ _ (n1 _)]
          exact this.1
        · simpa [go_sem] using this.2
end Go.Proofs.YtbmgflapagbkcaaDoor
namespace Go.Proofs.YtbmgflapagbkcaaDoor
open Go.ChangeShapes Go.WideShapes Go.ChangeAt Go.RowKit
set_option linter.unusedVariables false

/-- Nodes with the classes of their kids. -/
def withL (l : List Int) (p : List EN) : List EN := p.map fun x => (x.1, x.2.1, kidsL l x.2.2)
theorem withL_len (l : List Int) (p : List EN) : (withL l p).length = p.length := by simp [withL]
theorem withL_get (l : List Int) (p : List EN) {k : Nat} (h : k < p.length) : (withL l p).getD k e0 = ((p.getD k e0).1, (p.getD k e0).2.1, kidsL l (p.getD k e0).2.2) := by
  simp [withL, List.getD_eq_getElem?_getD, List.getElem?_eq_getElem h]
set_option maxHeartbeats 1600000 in
theorem withAll_own (a b : Option Addr) (len cap lb cb : Nat) (p : List EN) (l : List Int) (w : World) (h : ESl w a len p) (hl : Sl w b lb l) (hn : len ≤ 120) (hp : ∀ i, i < len → (p.getD i e0).2.2.length ≤ 3 ∧ ∀ j, j < (p.getD i e0).2.2.length → ∃ y : Nat, (p.getD i e0).2.2.getD j 0 = y ∧ y < lb) :
    Calls Tryd.prog 66 #[.slice a len cap, .slice b lb cb] w fun e w' => e = .returned (.slice (some ⟨w.heap.size, 0, none⟩) len len) ∧ Below w.heap.size w w' ∧ ∃ xs, w'.ownsRow w.heap.size 36 3 (.slice (some ⟨w.heap.size, 0, none⟩) len len) len xs ∧ ECopy w w' (withL l p) len xs := by
  obtain ⟨i0, hi, hz0, hz1, hz2⟩ := info_parts infoENode
  have hsl := h
  have hlen : (withL l p).length = len := by rw [withL_len]; exact h.1
  have hpl := h.1
  clear h
  go_enter Tryd.func66, Tryd.ntmps66
  go_wp2_with (at_make; refine wpList_make_full _ rfl _ _ 30 rfl w.heap.size 36 i0 (.agg #[.int .i64 0, .int .i64 0, .slice none 0 0]) 3 Tryd.underlying30 hi hz0 hz1 _ _ _ _ len rfl rfl rfl rfl (by rw [hz2]; omega) (by unfold maxLen; omega) (Nat.le_refl _) ?_; intro w1 hown hgrow)
  have hb1 : Below w.heap.size w w1 := (Below.refl _ _).grown hgrow (Nat.le_refl _) (fun k hk => by cases hk)
  clear hgrow
  go_loopw [13] (fun i wr => ∃ (k : Nat) (xs : List Value), k ≤ len ∧ i = .int .i64 k ∧ wr.ownsRow w.heap.size 36 3 (.slice (some ⟨w.heap.size, 0, none⟩) len len) len xs ∧ Hid (ECopy w wr (withL l p) k xs) ∧ Below w.heap.size w wr) (fun i _ => len - (intOf i).toNat)
  case atStart => exact ⟨0, _, Nat.zero_le _, rfl, hown, ⟨fun _ => 0, fun j hj => absurd hj (Nat.not_lt_zero _)⟩, hb1⟩
  case round =>
    obtain ⟨k, xs, hk, rfl, howr, hx, hbr⟩ := hrel
    clear hown hb1
    by_cases hlt : k < len
    · obtain ⟨b', off, rfl, hbl, hc⟩ := (hsl.keep hbr).at (by omega)
      obtain ⟨ai, li, ci, c1, c2, c3, hli, hci, hS⟩ := hc k hlt
      obtain ⟨hp3, hpk⟩ := hp k hlt
      obtain ⟨m, hm⟩ : ∃ m, p.getD k e0 = m := ⟨_, rfl⟩
      have hl1 := hS.1
      have HM : Hid ((withL l p).getD k e0 = (m.1, m.2.1, kidsL l m.2.2)) := by show _ = _; rw [withL_get l p (by omega), hm]
      rw [hm] at c1 c2 hS hpk hl1 hp3
      obtain ⟨xo, xn, e⟩ := m
      simp only at c1 c2 hS hpk hl1 hp3 HM
      have hle : (kidsL l e).length = li := by rw [kidsL_len]; exact hl1
      obtain ⟨W2, hW2⟩ : ∃ W2, wr.alloc (.cells #[.int .i64 xo, .int .i64 xn, .slice ai li ci] 36) = W2 := ⟨_, rfl⟩
      have hbA : Below wr.heap.size wr W2 := by rw [← hW2]; exact (Below.refl _ _).alloc (Nat.le_refl _) _
      have m0 : W2.cell? ⟨wr.heap.size, 0, none⟩ = some (.int .i64 xo) := by rw [← hW2]; simp [go_sem]
      have m1 : W2.cell? ⟨wr.heap.size, 1, none⟩ = some (.int .i64 xn) := by rw [← hW2]; simp [go_sem]
      have m2 : W2.cell? ⟨wr.heap.size, 2, none⟩ = some (.slice ai li ci) := by rw [← hW2]; simp [go_sem]
      have hszA : wr.heap.size < W2.heap.size := by rw [← hW2]; simp
      have hsz : ¬ b' = wr.heap.size := by omega
      have hkl : (k : Int) < len := by omega
      have HT := (show Hid _ from withC_any xo xn ai b li ci lb cb e l W2 (hS.keep hbA) ((hl.keep hbr).keep hbA) (by omega) (fun j hj => hpk j (by omega)))
      have hwl := owns_lt howr
      clear hc hm hS
      go_wp2_with fail
      (try rw [hW2])
      refine Calls.mono HT.out ?_
      rintro r w2 ⟨g, rfl, hb2', hg1', hg2, hcg⟩
      have hb2 : Below wr.heap.size wr w2 := hbA.trans (hb2'.mono hbA.size)
      have hg1 : wr.heap.size ≤ g := by omega
      clear hb2' hbA hW2 m0 m1 m2
      have how2 := howr.kept (grown_of hb2) (.inr (by simp [Value.ownBlock]))
      have hf1 := how2.frozenAt (k * 3)
      have hf2 := how2.frozenAt (k * 3 + 1)
      have hf3 := how2.frozenAt (k * 3 + 2)
      have hxl : xs.length = len * 3 := howr.1
      obtain ⟨y1, hy1⟩ : ∃ y, xs[k * 3]? = some y := ⟨_, List.getElem?_eq_getElem (by omega)⟩
      obtain ⟨y2, hy2⟩ : ∃ y, xs[k * 3 + 1]? = some y := ⟨_, List.getElem?_eq_getElem (by omega)⟩
      obtain ⟨y3, hy3⟩ : ∃ y, xs[k * 3 + 2]? = some y := ⟨_, List.getElem?_eq_getElem (by omega)⟩
      have hcl1 := how2.cellAt (k * 3) (by omega)
      have hcl2 := how2.cellAt (k * 3 + 1) (by omega)
      have hcl3 := how2.cellAt (k * 3 + 2) (by omega)
      rw [hy1] at hcl1
      rw [hy2] at hcl2
      rw [hy3] at hcl3
      have HR := (show Hid _ from ecopy_step (x := .slice (some ⟨g, 0, none⟩) li li) (y := xo) (z := xn) hx.out hlt hb2 hwl how2 hbr ⟨hg1, hg2⟩ (by rw [HM.out]; simp only; rw [hle]; exact hcg) (by rw [HM.out]; simp only; rw [hle]) (by rw [HM.out]) (by rw [HM.out]))
      clear hx how2 hb2 hcg hbr howr hy1 hy2 hy3 HT c1 c2 c3 HM
      go_wp2
      go_roundw
      case rel =>
        obtain ⟨xs', r1, r2, r3⟩ := HR.out
        exact ⟨k + 1, xs', by omega, by go_num, r1, r2, r3⟩
      case measure => simp [intOf]; omega
    · go_wp2
      obtain rfl : k = len := by omega
      go_ret
      exact ⟨rfl, hbr, xs, howr, hx.out⟩
end Go.Proofs.YtbmgflapagbkcaaDoor
namespace Go.Proofs.YtbmgflapagbkcaaDoor
open Go.ChangeShapes Go.WideShapes Go.ChangeAt Go.RowKit
set_option linter.unusedVariables false

/-- Nodes that were made and parts apart from them are a graph of its own. -/
theorem gown_copy {w w1 w2 : World} {p : List EN} {l : List Int} {xs : List Value} {vb : Value} {len lo : Nat} (hlo : lo ≤ w.heap.size) (hp : p.length = len) (h3 : ∀ i, i < len → (p.getD i e0).2.2.length ≤ 3) (hr : w1.ownsRow w.heap.size 36 3 (.slice (some ⟨w.heap.size, 0, none⟩) len len) len xs) (hc : ECopy w w1 p len xs) (hb : Below w1.heap.size w1 w2) (hv : w2.ownsRow lo 3 1 vb l.length (vals l)) (hx : ∀ x, vb.ownBlock = some x → x < w.heap.size ∨ w1.heap.size ≤ x) :
    GOwn w2 true (fun b => lo ≤ b) (.slice (some ⟨w.heap.size, 0, none⟩) len len) vb (p, l) := by
  obtain ⟨bs, hbs⟩ := hc
  have hlt := owns_lt hr
  subst hp
  refine ⟨xs, fun i => .slice (some ⟨bs i, 0, none⟩) (p.getD i e0).2.2.length (p.getD i e0).2.2.length, own_base (row_keep hr hb) (Nat.zero_le _), own_base hv (Nat.zero_le _), fun x e => ?_, fun x e => (hv.lt x e).1, fun i hi => ?_⟩
  · have e' : w.heap.size = x := by injection e
    refine ⟨by omega, fun e2 => ?_⟩
    have := hx x e2
    omega
  · obtain ⟨h1, h2, h3', h4, h5, h6, h7⟩ := hbs i hi
    have hk3 := h3 i hi
    refine ⟨h4, h5, h6, some ⟨bs i, 0, none⟩, _, rfl, Nat.le_refl _, by show (p.getD i e0).2.2.length ≤ _; omega, ⟨rfl, .inr ⟨bs i, 0, rfl, Nat.lt_of_lt_of_le h2 hb.size, fun j hj => ?_⟩⟩, fun x e => ?_, fun _ => ⟨bs i, rfl, fun j hj => (hb.frozen (p := ⟨bs i, j, none⟩) h2).trans (h7 j hj).2⟩⟩
    · rw [Nat.zero_add]; exact (hb.cell (p := ⟨bs i, j, none⟩) h2).trans (h7 j hj).1
    · have e' : bs i = x := by injection e
      subst e'
      refine ⟨⟨by omega, fun e2 => ?_, fun e2 => ?_, fun j hj e2 => ?_⟩, Nat.lt_of_lt_of_le h2 hb.size⟩
      · have : w.heap.size = bs i := by injection e2
        omega
      · have := hx _ e2; omega
      · have : bs j = bs i := by injection e2
        exact h3' j hj this
theorem cloneI_any (a : Option Addr) (len cap : Nat) (l : List Int) (w : World) (h : Sl w a len l) (hn : len ≤ 1048576) :
    Calls Tryd.prog 69 #[.slice a len cap] w fun e w' => ∃ v : Value, e = .returned v ∧ w'.ownsRow w.heap.size 3 1 v len (vals l) ∧ Below w.heap.size w w' := by
  have q : ∀ (w : World) (a : Option Addr) (n c n' c' : Nat), (binOp .eql 23 (.slice a n c) (.slice none n' c')).run Tryd.prog w = .ok (.bool a.isNone) w := fun w a n c n' c' => Lib.run_eql_slice_nil w _ _ a n c n' c' Tryd.underlying23
  have hll := h.1
  cases a with
  | none =>
    have h0 : len = 0 := by
      rcases h.2 with h0 | ⟨b, off, e, _⟩
      · exact h0
      · cases e
    subst h0
    have : l = [] := List.length_eq_zero_iff.1 hll
    subst this
    clear h hll
    go_enter Tryd.func69, Tryd.ntmps69
    go_wp2
    go_ret
    exact ⟨_, rfl, World.ownsRow_nil _ _ _ _, Below.refl _ _⟩
  | some x =>
    obtain ⟨i0, hi, hz0, hz1, hz2⟩ := info_parts infoInt
    have hb0 : Below w.heap.size w (w.alloc (.cells #[] 3)) := (Below.refl _ _).alloc (Nat.le_refl _) _
    have HC : Hid (∀ j u, (vals l)[j]? = some u → (w.alloc (.cells #[] 3)).cell? (x.add j) = some u) := by
      by_cases h0 : len = 0
      · subst h0
        have : l = [] := List.length_eq_zero_iff.1 hll
        subst this
        intro j u hj
        simp [vals] at hj
      · obtain ⟨b, off, e, _⟩ := cells_of h (by omega)
        cases e
        have hcs := sl_cells (h.keep hb0) 0 len (by omega)
        rw [List.drop_zero, List.take_of_length_le (by omega), Nat.add_zero] at hcs
        exact hcs
    have H1 : Hid (∀ u ∈ vals l, u.oneCell' = true) := vals_one l
    have hvl : (vals l).length = len * 1 := by rw [vals_len]; omega
    clear h
    go_enter Tryd.func69, Tryd.ntmps69
    go_wp2_with (at_builtin; refine wpList_append_own _ rfl _ _ 23 rfl w.heap.size 3 i0 (.int .i64 0) 1 8 Tryd.underlying23 hi hz0 hz1 hz2 rfl (by decide) _ _ _ rfl (empty5 w) x len cap (vals l) rfl hvl HC.out H1.out (by unfold maxLen; omega) (by omega) (by simp) ?_; intro v' w4 hown4 hg4 _)
    go_ret
    rw [Nat.zero_add, List.nil_append] at hown4
    exact ⟨_, rfl, hown4, hb0.grown hg4 (by simp) (fun r hr => by cases hr; exact Nat.le_refl _)⟩
set_option maxHeartbeats 1600000 in
set_option maxRecDepth 20000 in
theorem copyG_own (a b : Option Addr) (len cap lb cb : Nat) (p : List EN) (l : List Int) (w : World) (h : ESl w a len p) (hl : Sl w b lb l) (hn : len ≤ 120) (hlb : lb ≤ 1000) (hp : ∀ i, i < len → (p.getD i e0).2.2.length ≤ 3 ∧ ∀ j, j < (p.getD i e0).2.2.length → ∃ y : Nat, (p.getD i e0).2.2.getD j 0 = y ∧ y < lb) :
    Calls Tryd.prog 59 #[.agg #[.slice a len cap, .slice b lb cb]] w fun e w' => ∃ va vb, e = .returned (.agg #[va, vb]) ∧ GOwn w' true (fun x => w.heap.size + 2 ≤ x) va vb (withL l p, l) ∧ Below w.heap.size w w' := by
  obtain ⟨W1, hW1⟩ : ∃ W1, (w.alloc (.cells #[.slice a len cap, .slice b lb cb] 32)).alloc (.cells #[.slice none 0 0, .slice none 0 0] 32) = W1 := ⟨_, rfl⟩
  have hb1 : Below w.heap.size w W1 := by rw [← hW1]; exact ((Below.refl _ _).alloc (Nat.le_refl _) _).alloc (by simp) _
  have hs1 : W1.heap.size = w.heap.size + 2 := by rw [← hW1]; simp
  have n0 : W1.cell? ⟨w.heap.size, 0, none⟩ = some (.slice a len cap) := by rw [← hW1]; simp [go_sem]
  have n1 : W1.cell? ⟨w.heap.size, 1, none⟩ = some (.slice b lb cb) := by rw [← hW1]; simp [go_sem]
  have r0 : W1.cell? ⟨w.heap.size + 1, 0, none⟩ = some (.slice none 0 0) := by rw [← hW1]; simp [go_sem]
  have r1 : W1.cell? ⟨w.heap.size + 1, 1, none⟩ = some (.slice none 0 0) := by rw [← hW1]; simp [go_sem]
  have f0 : W1.frozen? ⟨w.heap.size + 1, 0, none⟩ = false := by rw [← hW1]; simp [go_sem]
  have f1 : W1.frozen? ⟨w.heap.size + 1, 1, none⟩ = false := by rw [← hW1]; simp [go_sem]
  have HC : Hid (∀ W, Below W1.heap.size W1 W → (W.cell? ⟨w.heap.size, 0, none⟩ = some (.slice a len cap) ∧ W.cell? ⟨w.heap.size, 1, none⟩ = some (.slice b lb cb)) ∧ W.cell? ⟨w.heap.size + 1, 0, none⟩ = some (.slice none 0 0) ∧ W.cell? ⟨w.heap.size + 1, 1, none⟩ = some (.slice none 0 0) ∧ W.frozen? ⟨w.heap.size + 1, 0, none⟩ = false ∧ W.frozen? ⟨w.heap.size + 1, 1, none⟩ = false ∧ ∀ v0 v1, ((W.setCell ⟨w.heap.size + 1, 0, none⟩ v0).setCell ⟨w.heap.size + 1, 1, none⟩ v1).cell? ⟨w.heap.size, 0, none⟩ = some (.slice a len cap) ∧ ((W.setCell ⟨w.heap.size + 1, 0, none⟩ v0).setCell ⟨w.heap.size + 1, 1, none⟩ v1).cell? ⟨w.heap.size, 1, none⟩ = some (.slice b lb cb)) := fun W hW => by
    have x0 := (hW.cell (p := ⟨w.heap.size, 0, none⟩) (by show w.heap.size < _; omega)).trans n0
    have x1 := (hW.cell (p := ⟨w.heap.size, 1, none⟩) (by show w.heap.size < _; omega)).trans n1
    have nq : ∀ o o', (⟨w.heap.size + 1, o, none⟩ : Addr) ≠ ⟨w.heap.size, o', none⟩ := fun o o' e => by injection e; omega
    exact ⟨⟨x0, x1⟩, (hW.cell (p := ⟨w.heap.size + 1, 0, none⟩) (by show w.heap.size + 1 < _; omega)).trans r0, (hW.cell (p := ⟨w.heap.size + 1, 1, none⟩) (by show w.heap.size + 1 < _; omega)).trans r1, (hW.frozen (p := ⟨w.heap.size + 1, 0, none⟩) (by show w.heap.size + 1 < _; omega)).trans f0, (hW.frozen (p := ⟨w.heap.size + 1, 1, none⟩) (by show w.heap.size + 1 < _; omega)).trans f1, fun v0 v1 => ⟨by rw [World.cell?_setCell_other _ _ _ _ (nq _ _), World.cell?_setCell_other _ _ _ _ (nq _ _)]; exact x0, by rw [World.cell?_setCell_other _ _ _ _ (nq _ _), World.cell?_setCell_other _ _ _ _ (nq _ _)]; exact x1⟩⟩
  have HN : Hid (∀ W, Below W1.heap.size W1 W → Calls Tryd.prog 66 #[.slice a len cap, .slice b lb cb] W fun e w' => e = .returned (.slice (some ⟨W.heap.size, 0, none⟩) len len) ∧ Below W.heap.size W w' ∧ ∃ xs, w'.ownsRow W.heap.size 36 3 (.slice (some ⟨W.heap.size, 0, none⟩) len len) len xs ∧ ECopy W w' (withL l p) len xs) := fun W hW => withAll_own a b len cap lb cb p l W ((h.keep hb1).keep hW) ((hl.keep hb1).keep hW) hn hp
  have HP : Hid (∀ W, Below W1.heap.size W1 W → Calls Tryd.prog 69 #[.slice b lb cb] W fun e w' => ∃ v : Value, e = .returned v ∧ w'.ownsRow W.heap.size 3 1 v lb (vals l) ∧ Below W.heap.size W w') := fun W hW => cloneI_any b lb cb l W ((hl.keep hb1).keep hW) (by omega)
  have HX : Hid ((withL l p).length = len ∧ (∀ i, i < len → ((withL l p).getD i e0).2.2.length ≤ 3) ∧ l.length = lb ∧ W1.heap.size = w.heap.size + 2 ∧ Below w.heap.size w W1) := by
    have := h.1
    exact ⟨by rw [withL_len]; exact this, fun i hi => by rw [withL_get l p (by omega)]; simp only; rw [kidsL_len]; exact (hp i hi).1, hl.1, hs1, hb1⟩
  have HD : Hid (Below W1.heap.size W1 W1.drew) := below_drewN (Below.refl _ _) 1
  obtain ⟨⟨zD0, zD1⟩, _⟩ := HC.out W1.drew HD.out
  clear h hl hp hb1 n0 n1 r0 r1 f0 f1 hs1
  go_enter Tryd.func59, Tryd.ntmps59
  go_wp2_with fail
  (try rw [hW1])
  clear hW1
  go_region_held3 (fun w' => w'.cell? ⟨w.heap.size, 0, none⟩ = some (.slice a len cap) ∧ w'.cell? ⟨w.heap.size, 1, none⟩ = some (.slice b lb cb))
    (first | exact ⟨zD0, zD1⟩ | assumption | exact sS _ _)
    (first
    | (go_at_call 66; first
        | (refine Calls.mono (HN.out W1.drew HD.out) ?_; rintro r w4 ⟨rfl, hb4, xs, hxs, hec⟩; have hB4 : Below W1.heap.size W1 w4 := HD.out.trans hb4; obtain ⟨z4, y0, y1, y2, y3, sS⟩ := HC.out w4 hB4)
        | (refine Calls.mono (HN.out w5 hB5) ?_; rintro r w4 ⟨rfl, hb4, xs, hxs, hec⟩; have hB4 : Below W1.heap.size W1 w4 := hB5.trans (hb4.mono hB5.size); clear y0 y1 y2 y3 sS; obtain ⟨z4, y0, y1, y2, y3, sS⟩ := HC.out w4 hB4))
    | (go_at_call 69; first
        | (refine Calls.mono (HP.out W1.drew HD.out) ?_; rintro r w5 ⟨vb, rfl, hvb, hb5⟩; obtain ⟨ab, cb5, rfl, _⟩ := row_slice hvb; have hB5 : Below W1.heap.size W1 w5 := HD.out.trans hb5; obtain ⟨z5, y0, y1, y2, y3, sS⟩ := HC.out w5 hB5)
        | (refine Calls.mono (HP.out w4 hB4) ?_; rintro r w5 ⟨vb, rfl, hvb, hb5⟩; obtain ⟨ab, cb5, rfl, _⟩ := row_slice hvb; have hB5 : Below W1.heap.size W1 w5 := hB4.trans (hb5.mono hB4.size); clear y0 y1 y2 y3 sS; obtain ⟨z5, y0, y1, y2, y3, sS⟩ := HC.out w5 hB5)))
  · have HG : Hid (∀ v0 v1, GOwn ((w5.setCell ⟨w.heap.size + 1, 0, none⟩ v0).setCell ⟨w.heap.size + 1, 1, none⟩ v1) true (fun x => w.heap.size + 2 ≤ x) (.slice (some ⟨W1.heap.size, 0, none⟩) len len) (.slice ab lb cb5) (withL l p, l) ∧ Below w.heap.size w ((w5.setCell ⟨w.heap.size + 1, 0, none⟩ v0).setCell ⟨w.heap.size + 1, 1, none⟩ v1)) := fun v0 v1 => by
      obtain ⟨g1, g2, g3, g4, g5⟩ := HX.out
      have hs4 := hB4.size
      have hG := gown_copy (w := W1.drew) (w1 := w4) (w2 := w5) (lo := W1.heap.size) (p := withL l p) (l := l) (Nat.le_refl _) g1 g2 hxs hec hb5 (by rw [g3]; exact own_base hvb hs4) (fun x hx => .inr (hvb.lt x hx).1)
      refine ⟨hG.map (by rw [setCell_size, setCell_size]; exact Nat.le_refl _) (fun b hb hl => ?_) (fun b _ hb => by omega), ((g5.trans (hB5.mono g5.size)).setCell (by show w.heap.size ≤ w.heap.size + 1; omega) _).setCell (by show w.heap.size ≤ w.heap.size + 1; omega) _⟩
      rw [setCell_block _ _ _ (show w.heap.size + 1 ≠ b by omega), setCell_block _ _ _ (show w.heap.size + 1 ≠ b by omega)]
    clear hxs hec hvb hb4 hb5 hB4 hB5 HN HP HX HC HD
    go_wp2
    refine bodyPost_ret (v := .agg #[.slice (some ⟨W1.heap.size, 0, none⟩) len len, .slice ab lb cb5]) ?_ ?_ ?_
    · simp [results, Tryd.results59, go_sem, *]
    · rfl
    · exact ⟨_, _, rfl, (HG.out _ _).1, (HG.out _ _).2⟩
end Go.Proofs.YtbmgflapagbkcaaDoor
namespace Go.Proofs.YtbmgflapagbkcaaDoor
open Go.ChangeShapes Go.WideShapes Go.ChangeAt Go.RowKit
open Go.MapKept Go.ChangeMaps
set_option linter.unusedVariables false

theorem kidsL_same {l kids : List Int} (h : KidsCl l kids) : kidsL l kids = kids := by
  refine list_ext (kidsL_len l kids) fun k hk => ?_
  rw [kidsL_len] at hk
  rw [kidsL_get l kids hk, kidsCl_atI h k hk]
theorem ext_en {p q : List EN} (h : p.length = q.length) (he : ∀ k, k < p.length → p.getD k e0 = q.getD k e0) : p = q := by
  refine List.ext_getElem h fun k h1 h2 => ?_
  have := he k h1
  rwa [getDE_lt h1, getDE_lt h2] at this
theorem withL_same {p : List EN} {l : List Int} (h : ∀ k, k < p.length → KidsCl l (p.getD k e0).2.2) : withL l p = p := by
  refine ext_en (withL_len l p) fun k hk => ?_
  rw [withL_len] at hk
  rw [withL_get l p hk, kidsL_same (h k hk)]
theorem good_kids {g : GS} (hg : GoodG g) {i : Nat} (hi : i < g.1.length) : (g.1.getD i e0).2.2.length ≤ 3 ∧ ∀ j, j < (g.1.getD i e0).2.2.length → ∃ y : Nat, (g.1.getD i e0).2.2.getD j 0 = y ∧ y < g.2.length := by
  have hf := hg.1 i hi
  refine ⟨fit_few hf, fun j hj => ?_⟩
  have := (fit_node hf).2.2.2 _ (show (g.1.getD i e0).2.2.getD j 0 ∈ (g.1.getD i e0).2.2 by rw [getI_lt hj]; exact List.getElem_mem _)
  exact ⟨((g.1.getD i e0).2.2.getD j 0).toNat, by omega, by have := hg.2.1; omega⟩
/-- Shapes within 64 bits. -/
theorem part_inG {l : List Int} (hl : l.length ≤ 1000) (hp : Par l) (kids : List Int) (i : Nat) : InI (partOf l kids i) := by
  unfold partOf InI
  split
  · generalize (kids.getD i 0).toNat = k
    by_cases hk : k < l.length
    · have := hp k hk; omega
    · rw [List.getD_eq_getElem?_getD, List.getElem?_eq_none (by omega)]; simp
  · omega
theorem sh_inG {l : List Int} (hl : l.length ≤ 1000) (hp : Par l) {op n : Int} {kids : List Int} (ho : 0 ≤ ar op) (hn : InI n) : ShIn (shO l (op, n, kids)) := by
  refine ⟨?_, hn, part_inG hl hp _ _, part_inG hl hp _ _, part_inG hl hp _ _⟩
  show InI op
  unfold InI
  rcases ops op with h | h
  · have := ar_out op h; omega
  · omega
theorem held_step {p : List EN} {l : List Int} {k : Nat} {f : Sh → Option Int} (h : Held p l k f) (hone : ∀ i, i < k → shO l (p.getD i e0) = shO l (p.getD k e0) → l.getD i 0 = l.getD k 0) : Held p l (k + 1) (setS f (shO l (p.getD k e0)) (some (l.getD k 0))) := by
  refine ⟨fun i hi => ?_, fun e' v he' => ?_⟩
  · unfold setS
    by_cases hik : i = k
    · rw [hik, if_pos rfl]
    · by_cases e1 : shO l (p.getD i e0) = shO l (p.getD k e0)
      · rw [if_pos e1, hone i (by omega) e1]
      · rw [if_neg e1]; exact h.1 i (by omega)
  · unfold setS at he'
    by_cases e1 : e' = shO l (p.getD k e0)
    · rw [if_pos e1] at he'; cases he'; exact ⟨k, by omega, e1.symm, rfl⟩
    · rw [if_neg e1] at he'
      obtain ⟨i, h1, h2⟩ := h.2 e' v he'
      exact ⟨i, by omega, h2⟩
theorem good_one {g : GS} (hg : GoodG g) {i k : Nat} (hi : i < k) (hk : k < g.1.length) (e : shO g.2 (g.1.getD i e0) = shO g.2 (g.1.getD k e0)) : g.2.getD i 0 = g.2.getD k 0 := by
  have := sh_same (hg.1 i (by omega)) (hg.1 k hk) (hg.2.2.2.2 i (by omega)).1 (hg.2.2.2.2 k hk).1 e
  exact (hg.2.2.2.2 k hk).2 i hi this.symm
/-- A shelf: the graph's own memory, a map of the shapes of its first k nodes. -/
def ShelfK (w : World) (S : Nat → Prop) (s m : Nat) (g : GS) (k : Nat) : Prop :=
  ∃ va vb f, w.cell? ⟨s, 0, none⟩ = some va ∧ w.cell? ⟨s, 1, none⟩ = some vb ∧ w.cell? ⟨s, 2, none⟩ = some (.map (some m)) ∧ w.frozen? ⟨s, 0, none⟩ = false ∧ w.frozen? ⟨s, 1, none⟩ = false ∧ SMap w m f ∧ Held g.1 g.2 k f ∧ GOwn w true (fun b => S b ∧ b ≠ s ∧ b ≠ m) va vb g ∧ s ≠ m ∧ S s ∧ S m ∧ s < w.heap.size ∧ m < w.heap.size
abbrev Shelf (w : World) (S : Nat → Prop) (s m : Nat) (g : GS) : Prop := ShelfK w S s m g g.1.length
theorem ShelfK.map {w w' : World} {S S' : Nat → Prop} {s m k : Nat} {g : GS} (h : ShelfK w S s m g k) (hs : w.heap.size ≤ w'.heap.size) (hk : ∀ b, S b → b < w.heap.size → w'.heap[b]? = w.heap[b]?) (hS : ∀ b, b < w.heap.size → S b → S' b) : ShelfK w' S' s m g k := by
  obtain ⟨va, vb, f, h1, h2, h3, h4, h5, h6, h7, h8, h9, h10, h11, h12, h13⟩ := h
  have e := hk s h10 h12
  exact ⟨va, vb, f, (World.cell?_of_block (a := ⟨s, 0, none⟩) e).trans h1, (World.cell?_of_block (a := ⟨s, 1, none⟩) e).trans h2, (World.cell?_of_block (a := ⟨s, 2, none⟩) e).trans h3, (World.frozen?_of_block (a := ⟨s, 0, none⟩) e).trans h4, (World.frozen?_of_block (a := ⟨s, 1, none⟩) e).trans h5, h6.block (hk m h11 h13), h7, h8.map hs (fun b hb hl => hk b hb.1 hl) (fun b hl hb => ⟨hS b hl hb.1, hb.2⟩), h9, hS s h12 h10, hS m h13 h11, by omega, by omega⟩
theorem ShelfK.keep {w w' : World} {S : Nat → Prop} {s m k : Nat} {g : GS} (h : ShelfK w S s m g k) (hb : Below w.heap.size w w') : ShelfK w' S s m g k := h.map hb.size (fun b _ hl => hb.block b hl) (fun _ _ h => h)
theorem ShelfK.sets {w : World} {S S' : Nat → Prop} {s m k : Nat} {g : GS} (h : ShelfK w S s m g k) (hS : ∀ b, b < w.heap.size → S b → S' b) : ShelfK w S' s m g k := h.map (Nat.le_refl _) (fun _ _ _ => rfl) hS
/-- The next node's shape laid into the map. -/
theorem ShelfK.store {w : World} {S : Nat → Prop} {s m k : Nat} {g : GS} (h : ShelfK w S s m g k) (hg : GoodG g) (hk : k < g.1.length) (hsi : ShIn (shO g.2 (g.1.getD k e0))) :
    ∃ W5, (Instr.mapUpdate 83 (.map (some m)) (shV (shO g.2 (g.1.getD k e0))) (.int .i64 (g.2.getD k 0))).run Tryd.prog w = .ok () W5 ∧ ShelfK W5 S s m g (k + 1) ∧ (∀ b, b ≠ m → W5.heap[b]? = w.heap[b]?) ∧ KB S w W5 := by
  obtain ⟨va, vb, f, h1, h2, h3, h4, h5, h6, h7, h8, h9, h10, h11, h12, h13⟩ := h
  obtain ⟨o, ho, hw⟩ := h6.store hsi (g.2.getD k 0)
  have hne : ∀ b, b ≠ m → (setBlock w m o).heap[b]? = w.heap[b]? := fun b hb => setB_ne b hb
  have e := hne s h9
  refine ⟨_, ho, ⟨va, vb, _, (World.cell?_of_block (a := ⟨s, 0, none⟩) e).trans h1, (World.cell?_of_block (a := ⟨s, 1, none⟩) e).trans h2, (World.cell?_of_block (a := ⟨s, 2, none⟩) e).trans h3, (World.frozen?_of_block (a := ⟨s, 0, none⟩) e).trans h4, (World.frozen?_of_block (a := ⟨s, 1, none⟩) e).trans h5, hw _ (setB_get h13), held_step h7 (fun i hi e => good_one hg hi hk e), h8.map (by rw [setB_size]; exact Nat.le_refl _) (fun b hb _ => hne b hb.2.2) (fun _ _ h => h), h9, h10, h11, by rw [setB_size]; exact h12, by rw [setB_size]; exact h13⟩, hne, ⟨rfl, rfl, rfl, by rw [setB_size]; exact Nat.le_refl _, fun b hb hn => hne b (fun e => hn (by rw [e]; exact h11))⟩⟩
set_option maxHeartbeats 3200000 in
set_option maxRecDepth 20000 in
theorem shelfOf_any (a b : Option Addr) (len cap cb : Nat) (p : List EN) (l : List Int) (w : World) (h : ESl w a len p) (hl : Sl w b len l) (hg : GoodG (p, l)) (h120 : len ≤ 120) (hI : InE p) :
    Calls Tryd.prog 38 #[.agg #[.slice a len cap, .slice b len cb]] w fun e w' => ∃ s m, e = .returned (.pointer (some ⟨s, 0, none⟩)) ∧ Shelf w' (fun b => w.heap.size ≤ b) s m (p, l) ∧ Below w.heap.size w w' := by
  have hll := h.1
  have hl1 := hl.1
  have hsame : withL l p = p := withL_same (fun k hk => (hg.2.2.2.2 k hk).1)
  obtain ⟨W1, hW1⟩ : ∃ W1, w.alloc (.cells #[.slice a len cap, .slice b len cb] 32) = W1 := ⟨_, rfl⟩
  have hb1 : Below w.heap.size w W1 := by rw [← hW1]; exact (Below.refl _ _).alloc (Nat.le_refl _) _
  have hs1 : W1.heap.size = w.heap.size + 1 := by rw [← hW1]; simp
  have n0 : W1.cell? ⟨w.heap.size, 0, none⟩ = some (.slice a len cap) := by rw [← hW1]; simp [go_sem]
  have n1 : W1.cell? ⟨w.heap.size, 1, none⟩ = some (.slice b len cb) := by rw [← hW1]; simp [go_sem]
  have HC := (show Hid _ from copyG_own a b len cap len cb p l W1 (h.keep hb1) (hl.keep hb1) h120 (by omega) (fun i hi => by
    have := good_kids hg (i := i) (by simp only; omega)
    simp only at this
    rw [hl1] at this; exact this))
  rw [hsame] at HC
  have HE : Hid (ESl W1 a len p ∧ Sl W1 b len l ∧ Below w.heap.size w W1 ∧ p.length = len ∧ l.length = len ∧ GoodG (p, l) ∧ InE p ∧ W1.heap.size = w.heap.size + 1) := ⟨h.keep hb1, hl.keep hb1, hb1, hll, hl1, hg, hI, hs1⟩
  have L0 : w.heap.size < W1.heap.size := by omega
  have hmm := @run_makeMap Tryd.prog
  clear h hl hb1 hll hl1 hg hI hs1 hsame
  go_enter Tryd.func38, Tryd.ntmps38
  go_wp2_with fail
  (try rw [hW1])
  refine Calls.mono HC.out ?_
  rintro e w2 ⟨va, vb, rfl, hG, hb2⟩
  obtain ⟨ga, ca, gb, cb2, rfl, rfl, _, _⟩ := hG.reads
  simp only at hG
  have q0 := (hb2.cell (p := ⟨w.heap.size, 0, none⟩) L0).trans n0
  have hs2 := hb2.size
  have HG := (show Hid _ from And.intro hG hb2)
  clear HC hW1 hG
  have q0' : ∀ o o', ((w2.alloc o).alloc o').cell? ⟨w.heap.size, 0, none⟩ = some (.slice a len cap) := fun o o' => (((hb2.alloc hb2.size o).alloc (by simp; omega) o').cell (p := ⟨w.heap.size, 0, none⟩) L0).trans n0
  have HM : Hid (∃ W3, (w2.alloc (.map #[] 0)).alloc (.cells #[.slice ga p.length ca, .slice gb l.length cb2, .map (some w2.heap.size)] 85) = W3 ∧ ShelfK W3 (fun b => W1.heap.size ≤ b) (w2.heap.size + 1) w2.heap.size (p, l) 0 ∧ Below W1.heap.size W1 W3) := by
    have hbb : Below w2.heap.size w2 ((w2.alloc (.map #[] 0)).alloc (.cells #[.slice ga p.length ca, .slice gb l.length cb2, .map (some w2.heap.size)] 85)) := ((Below.refl _ _).alloc (Nat.le_refl _) _).alloc (by simp) _
    refine ⟨_, rfl, ⟨.slice ga p.length ca, .slice gb l.length cb2, fun _ => none, by simp [go_sem], by simp [go_sem], by simp [go_sem], by simp [go_sem], by simp [go_sem], smap_empty (clock := 0) ?_, ⟨fun i hi => absurd hi (Nat.not_lt_zero _), fun e v h => by cases h⟩, ?_, by omega, by show W1.heap.size ≤ w2.heap.size + 1; omega, hs2, by simp, by simp; omega⟩, hb2.trans (hbb.mono hb2.size)⟩
    · exact ((World.grownBy_alloc (w2.alloc (.map #[] 0)) _ none).block w2.heap.size (by simp) (by simp)).trans (by first | exact heap_alloc_new _ _ | exact heap_alloc_new .. | simp)
    · exact (HG.out.1.sets (S' := fun b => W1.heap.size ≤ b ∧ b ≠ w2.heap.size + 1 ∧ b ≠ w2.heap.size) (fun b hl hb => ⟨by omega, by omega, by omega⟩)).keep hbb
  clear hmm q0 hs2
  have hmm := @run_makeMap Tryd.prog
  go_wp2_with fail
  obtain ⟨W3, hW3, hS3, hB3⟩ := HM.out
  (try rw [hW3])
  obtain ⟨M, hM⟩ : ∃ M, w2.heap.size = M := ⟨_, rfl⟩
  rw [hM] at hS3
  (try rw [hM])
  have HS3 := (show Hid _ from And.intro hS3 hB3)
  clear hmm HM hW3 hM hS3 hB3 HG hb2 q0'
  go_loopw [13] (fun i wr => ∃ (k : Nat), k ≤ len ∧ i = .int .i64 k ∧ Hid (ShelfK wr (fun b => W1.heap.size ≤ b) (M + 1) M (p, l) k) ∧ Below W1.heap.size W1 wr) (fun i _ => len - (intOf i).toNat)
  case atStart => exact ⟨0, Nat.zero_le _, rfl, HS3.out.1, HS3.out.2⟩
  case round =>
    obtain ⟨k, hk, rfl, hT, hbr⟩ := hrel
    obtain ⟨wo, rfl⟩ : ∃ x, x = wr := ⟨_, rfl⟩
    clear HS3
    by_cases hlt : k < len
    · obtain ⟨bn, on, rfl, hbl, hc⟩ := HE.out.1.at (by omega)
      obtain ⟨ai, li, ci, c1', c2', c3', hli, hci, hS⟩ := hc k hlt
      obtain ⟨bp, op, rfl, hpl, hcp⟩ : ∃ b' off, b = some ⟨b', off, none⟩ ∧ b' < W1.heap.size ∧ ∀ i, i < len → W1.cell? ⟨b', off + i, none⟩ = some (.int .i64 (l.getD i 0)) := by
        rcases HE.out.2.1.2 with h0 | h0
        · omega
        · exact h0
      have c1 := (hbr.cell (p := ⟨bn, on + k * 3, none⟩) hbl).trans c1'
      have c2 := (hbr.cell (p := ⟨bn, on + k * 3 + 1, none⟩) hbl).trans c2'
      have c3 := (hbr.cell (p := ⟨bn, on + k * 3 + 2, none⟩) hbl).trans c3'
      have hgood := HE.out.2.2.2.2.2.1
      have hpl2 := HE.out.2.2.2.1
      have hll2 := HE.out.2.2.2.2.1
      have hfk := hgood.1 k (by simp only; omega)
      have hIk := HE.out.2.2.2.2.2.2.1 k (by omega)
      have hkid := good_kids hgood (i := k) (by simp only; omega)
      have hsi : ShIn (shO l (p.getD k e0)) := sh_inG (l := l) (op := (p.getD k e0).1) (n := (p.getD k e0).2.1) (kids := (p.getD k e0).2.2) (by omega) hgood.2.2.1 (fit_node hfk).1 hIk
      simp only at hfk hkid
      obtain ⟨y, hy⟩ : ∃ y, p.getD k e0 = y := ⟨_, rfl⟩
      have hS1 := hS.1
      have HYk := (show Hid _ from hy)
      rw [hy] at c1 c2 hS hS1 hfk hkid hsi
      obtain ⟨yo, yn, yk⟩ := y
      simp only at c1 c2 hS hS1 hkid
      have hsz : ¬ bn = wo.heap.size := by have := hbr.size; omega
      have hkl : (k : Int) < len := by omega
      obtain ⟨W2, hW2⟩ : ∃ W2, wo.alloc (.cells #[.int .i64 yo, .int .i64 yn, .slice ai li ci] 36) = W2 := ⟨_, rfl⟩
      have hbx : Below wo.heap.size wo W2 := by rw [← hW2]; exact (Below.refl _ _).alloc (Nat.le_refl _) _
      have hs2 : W2.heap.size = wo.heap.size + 1 := by rw [← hW2]; simp
      have o0 : W2.cell? ⟨wo.heap.size, 0, none⟩ = some (.int .i64 yo) := by rw [← hW2]; simp [go_sem]
      have o1 : W2.cell? ⟨wo.heap.size, 1, none⟩ = some (.int .i64 yn) := by rw [← hW2]; simp [go_sem]
      have o2 : W2.cell? ⟨wo.heap.size, 2, none⟩ = some (.slice ai li ci) := by rw [← hW2]; simp [go_sem]
      have hB2 : Below W1.heap.size W1 W2 := hbr.trans (hbx.mono hbr.size)
      obtain ⟨B5, hB5⟩ : ∃ B5, wo.heap.size = B5 := ⟨_, rfl⟩
      rw [hB5] at o0 o1 o2 hs2
      have hSK : ShelfK W2 (fun b => W1.heap.size ≤ b) (M + 1) M (p, l) k := hT.out.keep hbx
      have hM5 : M < B5 ∧ M + 1 < B5 := by
        obtain ⟨_, _, _, _, _, _, _, _, _, _, _, _, _, _, z1, z2⟩ := hT.out
        omega
      have hMW : W1.heap.size ≤ M := by
        obtain ⟨_, _, _, _, _, _, _, _, _, _, _, _, _, z0, _, _⟩ := hT.out
        exact z0
      have CELLS : Hid (∀ W, KB (fun b => b = M) W2 W → W.cell? ⟨M + 1, 2, none⟩ = some (.map (some M)) ∧ W.cell? ⟨B5, 0, none⟩ = some (.int .i64 yo) ∧ W.cell? ⟨B5, 1, none⟩ = some (.int .i64 yn) ∧ W.cell? ⟨B5, 2, none⟩ = some (.slice ai li ci) ∧ W.cell? ⟨w.heap.size, 1, none⟩ = some (.slice (some ⟨bp, op, none⟩) len cb) ∧ W.cell? ⟨bp, op + k, none⟩ = some (.int .i64 (l.getD k 0))) := fun W hW => by
        have x3 : W2.cell? ⟨M + 1, 2, none⟩ = some (.map (some M)) := by
          obtain ⟨_, _, _, _, _, z, _⟩ := hSK
          exact z
        refine ⟨(hW.cell (p := ⟨M + 1, 2, none⟩) (by show M + 1 < _; omega) (by show ¬ M + 1 = M; omega)).trans x3, (hW.cell (p := ⟨B5, 0, none⟩) (by show B5 < _; omega) (by show ¬ B5 = M; omega)).trans o0, (hW.cell (p := ⟨B5, 1, none⟩) (by show B5 < _; omega) (by show ¬ B5 = M; omega)).trans o1, (hW.cell (p := ⟨B5, 2, none⟩) (by show B5 < _; omega) (by show ¬ B5 = M; omega)).trans o2, ?_, ?_⟩
        · exact (hW.cell (p := ⟨w.heap.size, 1, none⟩) (by show w.heap.size < _; have := hB2.size; omega) (by show ¬ w.heap.size = M; omega)).trans ((hB2.cell (p := ⟨w.heap.size, 1, none⟩) L0).trans n1)
        · exact (hW.cell (p := ⟨bp, op + k, none⟩) (by show bp < _; have := hB2.size; omega) (by show ¬ bp = M; omega)).trans ((hB2.cell (p := ⟨bp, op + k, none⟩) hpl).trans (hcp k hlt))
      have HSh : Hid (Calls Tryd.prog 60 #[.agg #[.int .i64 yo, .int .i64 yn, .slice ai li ci], .slice (some ⟨bp, op, none⟩) len cb] W2.drew fun e w' => e = .returned (shV (shO l (yo, yn, yk))) ∧ Below W2.heap.size W2 w') := by
        have hD : Below W2.heap.size W2 W2.drew := below_drewN (Below.refl _ _) 1
        have hX := hB2.trans (hD.mono hB2.size)
        refine (shape_any yo yn ai (some ⟨bp, op, none⟩) li ci len cb yk l W2.drew (hS.keep hX) (HE.out.2.1.keep hX) (by omega) (fun j hj => by
          obtain ⟨y, h1, h2⟩ := hkid.2 j (by omega)
          exact ⟨y, h1, by omega⟩)).mono ?_
        rintro r w' ⟨t1, t2⟩
        exact ⟨t1, hD.trans t2⟩
      have HQ : Hid (∀ W, Below W2.heap.size W2 W → ∃ W5, (Instr.mapUpdate 83 (.map (some M)) (shV (shO l (yo, yn, yk))) (.int .i64 (l.getD k 0))).run Tryd.prog W = .ok () W5 ∧ KB (fun b => b = M) W2 W5 ∧ Hid (ShelfK W5 (fun b => W1.heap.size ≤ b) (M + 1) M (p, l) (k + 1) ∧ Below W1.heap.size W1 W5)) := fun W hW => by
        have hst := (hSK.keep hW).store hgood (by simp only; omega) (by simp only; rw [HYk.out]; exact hsi)
        simp only at hst
        rw [HYk.out] at hst
        obtain ⟨W5, h1, h2, h3, h4⟩ := hst
        have hBW : Below W1.heap.size W1 W := hB2.trans (hW.mono hB2.size)
        refine ⟨W5, h1, (KB.of hW).trans (T := fun b => b = M) ⟨h4.os, h4.tape, h4.output, h4.size, fun b _ hn => h3 b hn⟩ (fun _ _ h => h), h2, hBW.trans (h4.below (fun _ _ h => h) hBW.size)⟩
      have hzk : ∃ z, l.getD k 0 = z := ⟨_, rfl⟩
      obtain ⟨z, hz⟩ := hzk
      rw [hz] at CELLS HQ
      unfold shV at HSh HQ
      generalize shO l (yo, yn, yk) = e at HSh HQ
      obtain ⟨so, sn, sa, sb, sc⟩ := e
      simp only at HSh HQ
      have zD := CELLS.out W2.drew (KB.of (below_drewN (Below.refl _ _) 1))
      clear hT hc hcp hS c1' c2' c3' hy hz hkid hfk hIk hsi hgood hSK o0 o1 o2 hpl2 hll2 hS1 HYk
      go_wp2_with fail
      (try rw [hW2])
      (try rw [hB5])
      clear hW2 c1 c2 c3 hbx hM5 hMW hs2 hB2
      go_region_held3 (fun w' => w'.cell? ⟨M + 1, 2, none⟩ = some (.map (some M)) ∧ w'.cell? ⟨B5, 0, none⟩ = some (.int .i64 yo) ∧ w'.cell? ⟨B5, 1, none⟩ = some (.int .i64 yn) ∧ w'.cell? ⟨B5, 2, none⟩ = some (.slice ai li ci) ∧ w'.cell? ⟨w.heap.size, 1, none⟩ = some (.slice (some ⟨bp, op, none⟩) len cb) ∧ w'.cell? ⟨bp, op + k, none⟩ = some (.int .i64 z))
        (assumption)
        (first
        | (go_at_call 60; refine Calls.mono HSh.out ?_; rintro r w4 ⟨rfl, hb4⟩; have z4 := CELLS.out w4 (KB.of hb4); obtain ⟨W5, hS5, hk5, HN5⟩ := HQ.out w4 hb4; have z5 := CELLS.out W5 hk5; clear hk5))
      all_goals
        clear HSh HQ CELLS z4 z5 zD
        go_wp2
        go_roundw
        case rel => exact ⟨k + 1, by omega, by go_num, HN5.out.1, HN5.out.2⟩
        case measure => simp [intOf]; omega
    · obtain rfl : k = len := by omega
      have HF : Hid (Shelf wo (fun b => w.heap.size ≤ b) (M + 1) M (p, l) ∧ Below w.heap.size w wo) := by
        have hb0 := HE.out.2.2.1
        have hs0 := hb0.size
        refine ⟨?_, hb0.trans (hbr.mono hs0)⟩
        have := hT.out.sets (S' := fun b => w.heap.size ≤ b) (fun b _ h => by omega)
        rw [← HE.out.2.2.2.1] at this
        exact this
      clear hT hbr
      go_wp2
      go_ret
      exact ⟨M + 1, M, rfl, HF.out.1, HF.out.2⟩
end Go.Proofs.YtbmgflapagbkcaaDoor
namespace Go.Proofs.YtbmgflapagbkcaaDoor
open Go.ChangeShapes Go.WideShapes Go.ChangeAt Go.RowKit
open Go.MapKept Go.ChangeMaps
set_option linter.unusedVariables false

/-- A node whose kids are numbers of the graph. -/
structure Fits (g : GS) (op n : Int) (kids : List Int) : Prop where
  ok : nodeOk op n kids.length = true
  num : InI n
  rng : ∀ i, i < kids.length → ∃ y : Nat, kids.getD i 0 = y ∧ y < g.1.length
theorem nodeOk_ar {op n : Int} {m : Nat} (h : nodeOk op n m = true) : 0 ≤ ar op ∧ (m : Int) = ar op ∧ m ≤ 3 := by
  unfold nodeOk at h
  simp only [Bool.and_eq_true, decide_eq_true_eq] at h
  have := (ar_range op).2
  exact ⟨h.1.1, h.1.2, by omega⟩
theorem shO_kidsL {g : GS} (hg : GoodG g) {op n : Int} {kids : List Int} (h : Fits g op n kids) : shO g.2 (op, n, kidsL g.2 kids) = shO g.2 (op, n, kids) := by
  have one : ∀ t, partOf g.2 (kidsL g.2 kids) t = partOf g.2 kids t := fun t => by
    unfold partOf
    rw [kidsL_len]
    by_cases ht : t < kids.length
    · rw [if_pos ht, if_pos ht, kidsL_get g.2 kids ht]
      obtain ⟨y, h1, h2⟩ := h.rng t ht
      rw [h1, Int.toNat_natCast]
      exact hg.2.2.2.1 y (by rw [hg.2.1]; exact h2)
    · rw [if_neg ht, if_neg ht]
  simp only [shO, one]
theorem kidsL_cl {g : GS} (hg : GoodG g) {op n : Int} {kids : List Int} (h : Fits g op n kids) : ∀ c ∈ kidsL g.2 kids, IsCl g c := fun c hc => by
  obtain ⟨x, hx, rfl⟩ := List.mem_map.1 hc
  obtain ⟨i, hi, rfl⟩ := List.getElem_of_mem hx
  obtain ⟨y, h1, h2⟩ := h.rng i hi
  rw [getI_lt hi] at h1
  rw [h1, Int.toNat_natCast]
  have hp := hg.2.2.1 y (by rw [hg.2.1]; exact h2)
  exact ⟨hp.1, by omega, hg.2.2.2.1 y (by rw [hg.2.1]; exact h2)⟩
theorem fits_ok {g : GS} {op n : Int} {kids : List Int} (h : Fits g op n kids) : nodeOk (op, n, kidsL g.2 kids).1 (op, n, kidsL g.2 kids).2.1 (op, n, kidsL g.2 kids).2.2.length = true := by
  simp only [kidsL_len]; exact h.ok
theorem held_find {g : GS} (hg : GoodG g) {f : Sh → Option Int} (hh : Held g.1 g.2 g.1.length f) {op n : Int} {kids : List Int} (h : Fits g op n kids) : f (shO g.2 (op, n, kids)) = findL g.1 g.2 (op, n, kidsL g.2 kids) := by
  rw [← shO_kidsL hg h]
  have hcl := kidsL_cl hg h
  have hfit : fitE g.1.length (op, n, kidsL g.2 kids) = true := by
    unfold fitE
    rw [fits_ok h, Bool.true_and, kidsB_iff]
    intro c hc
    have := hcl c hc
    exact ⟨this.1, by have := this.2.1; omega⟩
  have hkc : KidsCl g.2 (kidsL g.2 kids) := fun c hc => (hcl c hc).2.2
  have same : ∀ i, i < g.1.length → shO g.2 (g.1.getD i e0) = shO g.2 (op, n, kidsL g.2 kids) → g.1.getD i e0 = (op, n, kidsL g.2 kids) := fun i hi e => sh_same (hg.1 i hi) hfit (hg.2.2.2.2 i hi).1 hkc e
  cases hfe : f (shO g.2 (op, n, kidsL g.2 kids)) with
  | none =>
    refine (findL_no fun j hj e => ?_).symm
    have := hh.1 j hj
    rw [e, hfe] at this
    cases this
  | some v =>
    obtain ⟨i, h1, h2, h3⟩ := hh.2 _ v hfe
    have e := same i h1 h2
    cases hfl : findL g.1 g.2 (op, n, kidsL g.2 kids) with
    | none => exact absurd e (findL_none hfl i h1)
    | some u =>
      obtain ⟨k, k1, k2, k3, k4⟩ := findL_some hfl
      have : g.2.getD k 0 = g.2.getD i 0 := by
        rcases Nat.lt_trichotomy i k with hlt | heq | hgt
        · exact absurd e (k4 i hlt)
        · rw [heq]
        · exact (hg.2.2.2.2 i h1).2 k hgt (by rw [e, k2])
      rw [← k3, this, h3]
theorem fits_sh {g : GS} (hg : GoodG g) (hl : g.1.length ≤ 1000) {op n : Int} {kids : List Int} (h : Fits g op n kids) : ShIn (shO g.2 (op, n, kids)) := sh_inG (by have := hg.2.1; omega) hg.2.2.1 (nodeOk_ar h.ok).1 h.num
set_option maxHeartbeats 1600000 in
set_option maxRecDepth 20000 in
theorem find_any (s m : Nat) (S : Nat → Prop) (g : GS) (op n : Int) (a : Option Addr) (len cap : Nat) (kids : List Int) (w : World) (hT : Shelf w S s m g) (hg : GoodG g) (h120 : g.1.length ≤ 1000) (hk : Sl w a len kids) (hf : Fits g op n kids) :
    Calls Tryd.prog 61 #[.pointer (some ⟨s, 0, none⟩), .agg #[.int .i64 op, .int .i64 n, .slice a len cap]] w fun e w' => e = .returned (.tuple #[.int .i64 ((findL g.1 g.2 (op, n, kidsL g.2 kids)).getD 0), .bool (findL g.1 g.2 (op, n, kidsL g.2 kids)).isSome]) ∧ Below w.heap.size w w' := by
  obtain ⟨p, l⟩ := g
  obtain ⟨va, vb, f, h1, h2, h3, h4, h5, h6, h7, h8, h9, h10, h11, h12, h13⟩ := hT
  obtain ⟨ga, ca, gb, cb, rfl, rfl, _, hL⟩ := h8.reads
  have hll := hk.1
  have har := nodeOk_ar hf.ok
  have hsi := fits_sh hg h120 hf
  have hff := held_find hg h7 hf
  simp only at hL hsi hff h7 h120
  have hln := hg.2.1
  simp only at hln
  obtain ⟨W1, hW1⟩ : ∃ W1, w.alloc (.cells #[.int .i64 op, .int .i64 n, .slice a len cap] 36) = W1 := ⟨_, rfl⟩
  have hb1 : Below w.heap.size w W1 := by rw [← hW1]; exact (Below.refl _ _).alloc (Nat.le_refl _) _
  have hs1 : w.heap.size < W1.heap.size := by rw [← hW1]; simp
  have n0 : W1.cell? ⟨w.heap.size, 0, none⟩ = some (.int .i64 op) := by rw [← hW1]; simp [go_sem]
  have n1 : W1.cell? ⟨w.heap.size, 1, none⟩ = some (.int .i64 n) := by rw [← hW1]; simp [go_sem]
  have n2 : W1.cell? ⟨w.heap.size, 2, none⟩ = some (.slice a len cap) := by rw [← hW1]; simp [go_sem]
  have HD : Hid (Below W1.heap.size W1 W1.drew) := below_drewN (Below.refl _ _) 1
  have CELLS : Hid (∀ W, Below W1.heap.size W1 W → W.cell? ⟨s, 1, none⟩ = some (.slice gb l.length cb) ∧ W.cell? ⟨s, 2, none⟩ = some (.map (some m)) ∧ W.cell? ⟨w.heap.size, 0, none⟩ = some (.int .i64 op) ∧ W.cell? ⟨w.heap.size, 1, none⟩ = some (.int .i64 n) ∧ W.cell? ⟨w.heap.size, 2, none⟩ = some (.slice a len cap)) := fun W hW => by
    have hX := hb1.trans (hW.mono hb1.size)
    exact ⟨(hX.cell (p := ⟨s, 1, none⟩) h12).trans h2, (hX.cell (p := ⟨s, 2, none⟩) h12).trans h3, (hW.cell (p := ⟨w.heap.size, 0, none⟩) hs1).trans n0, (hW.cell (p := ⟨w.heap.size, 1, none⟩) hs1).trans n1, (hW.cell (p := ⟨w.heap.size, 2, none⟩) hs1).trans n2⟩
  have HSh : Hid (Calls Tryd.prog 60 #[.agg #[.int .i64 op, .int .i64 n, .slice a len cap], .slice gb l.length cb] W1.drew fun e w' => e = .returned (shV (shO l (op, n, kids))) ∧ Below W1.heap.size W1 w') := by
    have hX := hb1.trans (HD.out.mono hb1.size)
    refine (shape_any op n a gb len cap l.length cb kids l W1.drew (hk.keep hX) (hL.keep hX) (by omega) (fun j hj => by
      obtain ⟨y, e1, e2⟩ := hf.rng j (by omega)
      exact ⟨y, e1, by simp only at e2; omega⟩)).mono ?_
    rintro r w' ⟨t1, t2⟩
    exact ⟨t1, HD.out.trans t2⟩
  have HQ : Hid (∀ W, Below W1.heap.size W1 W → (Instr.lookup 83 (.map (some m)) (shV (shO l (op, n, kids))) true).run Tryd.prog W = .ok (told (findL p l (op, n, kidsL l kids))) W ∧ Hid (Below w.heap.size w W)) := fun W hW => by
    have hX := hb1.trans (hW.mono hb1.size)
    have := (h6.keep hX).lookup hsi
    rw [hff] at this
    exact ⟨this, hX⟩
  unfold shV at HSh HQ
  generalize shO l (op, n, kids) = e at HSh HQ
  obtain ⟨so, sn, sa, sb, sc⟩ := e
  simp only at HSh HQ ⊢
  have zD := CELLS.out W1.drew HD.out
  clear hk hf h1 h2 h3 h4 h5 h6 h7 h8 hg hL hsi hff hb1 n0 n1 n2 hs1 har hll hln
  generalize findL p l (op, n, kidsL l kids) = F at HQ ⊢
  cases F with
  | none =>
    unfold told at HQ
    simp only at HQ
    go_enter Tryd.func61, Tryd.ntmps61
    go_wp2_with fail
    (try rw [hW1])
    clear hW1
    go_region_held3 (fun w' => w'.cell? ⟨s, 1, none⟩ = some (.slice gb l.length cb) ∧ w'.cell? ⟨s, 2, none⟩ = some (.map (some m)) ∧ w'.cell? ⟨w.heap.size, 0, none⟩ = some (.int .i64 op) ∧ w'.cell? ⟨w.heap.size, 1, none⟩ = some (.int .i64 n) ∧ w'.cell? ⟨w.heap.size, 2, none⟩ = some (.slice a len cap))
      (assumption)
      (first
      | (go_at_call 60; refine Calls.mono HSh.out ?_; rintro r w4 ⟨rfl, hb4⟩; have z4 := CELLS.out w4 hb4; obtain ⟨hL4, HB4⟩ := HQ.out w4 hb4))
    all_goals
      clear HSh HQ CELLS zD z4
      go_wp2
      go_ret2
      exact ⟨rfl, HB4.out⟩
  | some v =>
    unfold told at HQ
    simp only at HQ
    go_enter Tryd.func61, Tryd.ntmps61
    go_wp2_with fail
    (try rw [hW1])
    clear hW1
    go_region_held3 (fun w' => w'.cell? ⟨s, 1, none⟩ = some (.slice gb l.length cb) ∧ w'.cell? ⟨s, 2, none⟩ = some (.map (some m)) ∧ w'.cell? ⟨w.heap.size, 0, none⟩ = some (.int .i64 op) ∧ w'.cell? ⟨w.heap.size, 1, none⟩ = some (.int .i64 n) ∧ w'.cell? ⟨w.heap.size, 2, none⟩ = some (.slice a len cap))
      (assumption)
      (first
      | (go_at_call 60; refine Calls.mono HSh.out ?_; rintro r w4 ⟨rfl, hb4⟩; have z4 := CELLS.out w4 hb4; obtain ⟨hL4, HB4⟩ := HQ.out w4 hb4))
    all_goals
      clear HSh HQ CELLS zD z4
      go_wp2
      go_ret2
      exact ⟨rfl, HB4.out⟩
end Go.Proofs.YtbmgflapagbkcaaDoor
namespace Go.Proofs.YtbmgflapagbkcaaDoor
open Go.ChangeShapes Go.WideShapes Go.ChangeAt Go.RowKit
open Go.MapKept Go.ChangeMaps
set_option linter.unusedVariables false

theorem partOf_add {l kids : List Int} {c : Int} (h : ∀ i, i < kids.length → ∃ y : Nat, kids.getD i 0 = y ∧ y < l.length) (t : Nat) : partOf (l ++ [c]) kids t = partOf l kids t := by
  unfold partOf
  by_cases ht : t < kids.length
  · rw [if_pos ht, if_pos ht]
    obtain ⟨y, h1, h2⟩ := h t ht
    rw [h1, Int.toNat_natCast, getD_old _ _ _ h2]
  · rw [if_neg ht, if_neg ht]
theorem shO_add {l : List Int} {x : EN} {c : Int} (h : ∀ i, i < x.2.2.length → ∃ y : Nat, x.2.2.getD i 0 = y ∧ y < l.length) : shO (l ++ [c]) x = shO l x := by
  simp only [shO, partOf_add h]
theorem held_add {g : GS} (hg : GoodG g) {f : Sh → Option Int} (hh : Held g.1 g.2 g.1.length f) {op n : Int} {kids : List Int} (h : Fits g op n kids) (hf : findL g.1 g.2 (op, n, kidsL g.2 kids) = none) :
    Held (g.1 ++ [(op, n, kidsL g.2 kids)]) (g.2 ++ [(g.1.length : Int)]) (g.1.length + 1) (setS f (shO g.2 (op, n, kids)) (some (g.1.length : Int))) := by
  have hl := hg.2.1
  have hcl := kidsL_cl hg h
  have e1 : shO (g.2 ++ [(g.1.length : Int)]) (op, n, kidsL g.2 kids) = shO g.2 (op, n, kids) := by
    rw [shO_add (x := (op, n, kidsL g.2 kids)) (fun i hi => ?_), shO_kidsL hg h]
    simp only at hi ⊢
    have := hcl _ (show (kidsL g.2 kids).getD i 0 ∈ kidsL g.2 kids by rw [getI_lt hi]; exact List.getElem_mem _)
    have h1 := this.1
    have h2 := this.2.1
    exact ⟨((kidsL g.2 kids).getD i 0).toNat, by omega, by omega⟩
  have old : ∀ i, i < g.1.length → shO (g.2 ++ [(g.1.length : Int)]) ((g.1 ++ [(op, n, kidsL g.2 kids)]).getD i e0) = shO g.2 (g.1.getD i e0) := fun i hi => by
    rw [getD_old _ _ _ hi]
    exact shO_add (fun j hj => (good_kids hg hi).2 j hj)
  have hfe : f (shO g.2 (op, n, kids)) = none := by rw [held_find hg hh h]; exact hf
  refine ⟨fun i hi => ?_, fun e v he => ?_⟩
  · unfold setS
    by_cases e : i < g.1.length
    · rw [old i e, getD_old _ _ _ (by omega)]
      have hhi := hh.1 i e
      rw [if_neg (fun e2 => ?_)]
      · exact hhi
      · rw [e2, hfe] at hhi; cases hhi
    · obtain rfl : i = g.1.length := by omega
      rw [getD_new, e1, if_pos rfl]
      have : (g.2 ++ [(g.1.length : Int)]).getD g.1.length 0 = (g.1.length : Int) := by rw [← hl]; exact getD_new _ _ _
      rw [this]
  · unfold setS at he
    by_cases e2 : e = shO g.2 (op, n, kids)
    · rw [if_pos e2] at he
      refine ⟨g.1.length, by omega, by rw [getD_new, e1, e2], ?_⟩
      have : (g.2 ++ [(g.1.length : Int)]).getD g.1.length 0 = (g.1.length : Int) := by rw [← hl]; exact getD_new _ _ _
      rw [this]; exact Option.some.inj he
    · rw [if_neg e2] at he
      obtain ⟨i, h1, h2, h3⟩ := hh.2 e v he
      exact ⟨i, by omega, by rw [old i h1]; exact h2, by rw [getD_old _ _ _ (by omega)]; exact h3⟩
/-- What the program's put tells. -/
def clsP (g : GS) (x : EN) : Option (GS × Int) := if findL g.1 g.2 x = none ∧ g.1.length = 120 then none else some (putL g x)
/-- The shelf while a node is put. -/
def Mid (w W : World) (S : Nat → Prop) (s m : Nat) (va vb : Value) (p : List EN) (l : List Int) (f : Sh → Option Int) : Prop :=
  W.cell? ⟨s, 0, none⟩ = some va ∧ W.cell? ⟨s, 1, none⟩ = some vb ∧ W.cell? ⟨s, 2, none⟩ = some (.map (some m)) ∧ W.frozen? ⟨s, 0, none⟩ = false ∧ W.frozen? ⟨s, 1, none⟩ = false ∧ SMap W m f ∧ GOwn W true (fun b => (S b ∧ b ≠ s ∧ b ≠ m ∧ b < w.heap.size) ∨ w.heap.size + 1 ≤ b) va vb (p, l) ∧ KB S w W
theorem Mid.keep {w W W' : World} {S : Nat → Prop} {s m : Nat} {va vb : Value} {p : List EN} {l : List Int} {f : Sh → Option Int} (h : Mid w W S s m va vb p l f) (hs : s < W.heap.size) (hm : m < W.heap.size) (hb : Below W.heap.size W W') : Mid w W' S s m va vb p l f := by
  obtain ⟨h1, h2, h3, h4, h5, h6, h7, h8⟩ := h
  exact ⟨(hb.cell (p := ⟨s, 0, none⟩) hs).trans h1, (hb.cell (p := ⟨s, 1, none⟩) hs).trans h2, (hb.cell (p := ⟨s, 2, none⟩) hs).trans h3, (hb.frozen (p := ⟨s, 0, none⟩) hs).trans h4, (hb.frozen (p := ⟨s, 1, none⟩) hs).trans h5, h6.keep hb, h7.keep hb, h8.trans (T := fun _ => False) (KB.of hb) (fun _ _ h => h.elim)⟩
/-- Nodes grew, and the shelf tells so. -/
theorem Mid.nodes {w W w7 : World} {S : Nat → Prop} {s m : Nat} {va va' vb kn : Value} {p : List EN} {l : List Int} {f : Sh → Option Int} {x : EN} {xs : List Value} (h : Mid w W S s m va vb p l f) (hsm : s ≠ m) (hS : S s ∧ S m ∧ s < w.heap.size ∧ m < w.heap.size) (hown : W.ownsRow 0 36 3 va p.length xs) (hrow : w7.ownsRow 0 36 3 va' (p.length + 1) (xs ++ [.int .i64 x.1, .int .i64 x.2.1, kn])) (hg : W.grownBy w7 va.ownBlock) (hat : va'.ownBlock = va.ownBlock ∨ va'.ownBlock = some W.heap.size) (hk : KidAt W true (fun b => w.heap.size + 1 ≤ b) kn x.2.2)
    (hkn : ∀ b, kn.ownBlock = some b → ∃ W0 : World, GOwn W0 true (fun b => (S b ∧ b ≠ s ∧ b ≠ m ∧ b < w.heap.size) ∨ w.heap.size + 1 ≤ b) va vb (p, l) ∧ Below W0.heap.size W0 W ∧ W0.heap.size ≤ b) (hsz : w.heap.size + 1 ≤ W.heap.size) :
    Mid w (w7.setCell ⟨s, 0, none⟩ va') S s m va' vb (p ++ [x]) l f ∧ w7.cell? ⟨s, 0, none⟩ = some va ∧ w7.cell? ⟨s, 1, none⟩ = some vb ∧ w7.frozen? ⟨s, 0, none⟩ = false := by
  obtain ⟨h1, h2, h3, h4, h5, h6, h7, h8⟩ := h
  have hra := h7.row.2.2.1
  have hne : ∀ b, va.ownBlock = some b → b ≠ s ∧ b ≠ m := fun b hb => by
    rcases hra b hb with h | h
    · exact ⟨h.2.1, h.2.2.1⟩
    · omega
  have hss : w7.heap[s]? = W.heap[s]? := hg.block s (by omega) (fun e => (hne s e.symm).1 rfl)
  have hmm : w7.heap[m]? = W.heap[m]? := hg.block m (by omega) (fun e => (hne m e.symm).2 rfl)
  have c0 := (World.cell?_of_block (a := ⟨s, 0, none⟩) hss).trans h1
  have c1 := (World.cell?_of_block (a := ⟨s, 1, none⟩) hss).trans h2
  have c2 := (World.cell?_of_block (a := ⟨s, 2, none⟩) hss).trans h3
  have f0 := (World.frozen?_of_block (a := ⟨s, 0, none⟩) hss).trans h4
  have f1 := (World.frozen?_of_block (a := ⟨s, 1, none⟩) hss).trans h5
  obtain ⟨a', c', rfl, _⟩ := row_slice hrow
  -- the kids' block is none of the graph's
  have hG : GOwn W true (fun b => ((S b ∧ b ≠ s ∧ b ≠ m ∧ b < w.heap.size) ∨ w.heap.size + 1 ≤ b) ∧ kn.ownBlock ≠ some b) va vb (p, l) := by
    obtain ⟨ka, kc, e, _, _, _, hin, hfz⟩ := hk
    obtain ⟨b0, hb0, _⟩ := hfz rfl
    have hob : kn.ownBlock = some b0 := by rw [e, hb0]; rfl
    obtain ⟨W0, g0, hb, hle⟩ := hkn b0 hob
    exact (g0.sets (S' := fun b => ((S b ∧ b ≠ s ∧ b ≠ m ∧ b < w.heap.size) ∨ w.heap.size + 1 ≤ b) ∧ kn.ownBlock ≠ some b) (fun b hl h => ⟨h, fun e2 => by rw [hob] at e2; injection e2; omega⟩)).keep hb
  have hGN := hG.addNode hown hrow hg hat (hk.map (Nat.le_refl _) (fun _ _ _ => rfl) (fun y hy hl h0 h1 => h1.2 hy))
  have hkin : ∀ b, kn.ownBlock = some b → w.heap.size + 1 ≤ b := fun b hb => by
    obtain ⟨ka, kc, e, _, _, _, hin, _⟩ := hk
    exact (hin b hb).1
  refine ⟨⟨?_, ?_, ?_, by simpa [go_sem] using f0, by simpa [go_sem] using f1, h6.block ?_, ?_, ?_⟩, c0, c1, f0⟩
  · simp [go_sem, *]
  · rw [World.cell?_setCell_other _ _ _ _ (fun e => by injection e; omega)]; exact c1
  · rw [World.cell?_setCell_other _ _ _ _ (fun e => by injection e; omega)]; exact c2
  · rw [setCell_block _ _ _ (show s ≠ m from hsm)]; exact hmm
  · refine hGN.map (by rw [setCell_size]; exact Nat.le_refl _) (fun b hb hl => setCell_block _ _ _ (fun e => ?_)) (fun b hl hb => ?_)
    · have e' : s = b := e
      rcases hb with hb | hb | hb
      · rcases hb.1 with hb | hb
        · exact hb.2.1 e'.symm
        · omega
      · omega
      · have := hkin b hb; omega
    · rcases hb with hb | hb | hb
      · exact hb.1
      · right; omega
      · right; exact hkin b hb
  · exact (h8.grown hg (fun y hy hl => by
      rcases hra y hy with h | h
      · exact h.1
      · omega)).setCell (p := ⟨s, 0, none⟩) (fun _ => hS.1) _
/-- Parts grew, and the shelf tells so. -/
theorem Mid.parts {w W w9 : World} {S : Nat → Prop} {s m : Nat} {va vb vb' : Value} {p : List EN} {l : List Int} {f : Sh → Option Int} {c : Int} (h : Mid w W S s m va vb p l f) (hsm : s ≠ m) (hS : S s ∧ S m ∧ s < w.heap.size ∧ m < w.heap.size) (hrow : w9.ownsRow 0 3 1 vb' (l.length + 1) (vals l ++ [.int .i64 c])) (hg : W.grownBy w9 vb.ownBlock) (hat : vb'.ownBlock = vb.ownBlock ∨ vb'.ownBlock = some W.heap.size) (hsz : w.heap.size + 1 ≤ W.heap.size) :
    Mid w (w9.setCell ⟨s, 1, none⟩ vb') S s m va vb' p (l ++ [c]) f ∧ w9.cell? ⟨s, 1, none⟩ = some vb ∧ w9.frozen? ⟨s, 1, none⟩ = false := by
  obtain ⟨h1, h2, h3, h4, h5, h6, h7, h8⟩ := h
  have hrb := h7.row.2.2.2
  have hne : ∀ b, vb.ownBlock = some b → b ≠ s ∧ b ≠ m := fun b hb => by
    rcases hrb b hb with h | h
    · exact ⟨h.2.1, h.2.2.1⟩
    · omega
  have hss : w9.heap[s]? = W.heap[s]? := hg.block s (by omega) (fun e => (hne s e.symm).1 rfl)
  have hmm : w9.heap[m]? = W.heap[m]? := hg.block m (by omega) (fun e => (hne m e.symm).2 rfl)
  have c0 := (World.cell?_of_block (a := ⟨s, 0, none⟩) hss).trans h1
  have c1 := (World.cell?_of_block (a := ⟨s, 1, none⟩) hss).trans h2
  have c2 := (World.cell?_of_block (a := ⟨s, 2, none⟩) hss).trans h3
  have f0 := (World.frozen?_of_block (a := ⟨s, 0, none⟩) hss).trans h4
  have f1 := (World.frozen?_of_block (a := ⟨s, 1, none⟩) hss).trans h5
  obtain ⟨b', c', rfl, _⟩ := row_slice hrow
  have hGP := h7.addPart hrow hg hat
  refine ⟨⟨?_, ?_, ?_, by simpa [go_sem] using f0, by simpa [go_sem] using f1, h6.block ?_, ?_, ?_⟩, c1, f1⟩
  · rw [World.cell?_setCell_other _ _ _ _ (fun e => by injection e; omega)]; exact c0
  · simp [go_sem, *]
  · rw [World.cell?_setCell_other _ _ _ _ (fun e => by injection e; omega)]; exact c2
  · rw [setCell_block _ _ _ (show s ≠ m from hsm)]; exact hmm
  · refine hGP.map (by rw [setCell_size]; exact Nat.le_refl _) (fun b hb hl => setCell_block _ _ _ (fun e => ?_)) (fun b hl hb => ?_)
    · have e' : s = b := e
      rcases hb with (hb | hb) | hb
      · exact hb.2.1 e'.symm
      · omega
      · omega
    · rcases hb with hb | hb
      · exact hb
      · right; omega
  · exact (h8.grown hg (fun y hy hl => by
      rcases hrb y hy with h | h
      · exact h.1
      · omega)).setCell (p := ⟨s, 1, none⟩) (fun _ => hS.1) _
end Go.Proofs.YtbmgflapagbkcaaDoor
namespace Go.Proofs.YtbmgflapagbkcaaDoor
open Go.ChangeShapes Go.WideShapes Go.ChangeAt Go.RowKit
open Go.MapKept Go.ChangeMaps
set_option linter.unusedVariables false

theorem sl_kb {w w' : World} {S : Nat → Prop} {a : Option Addr} {n : Nat} {l : List Int} (h : Sl w a n l) (hb : KB S w w') (ha : ∀ x, (Value.slice a n n).ownBlock = some x → ¬ S x) : Sl w' a n l := sl_block h (fun x hx hl => hb.block x hl (ha x hx)) hb.size
set_option maxHeartbeats 6400000 in
set_option maxRecDepth 20000 in
theorem putI_any (s m : Nat) (S : Nat → Prop) (g : GS) (op n : Int) (a : Option Addr) (len cap : Nat) (kids : List Int) (w : World) (hT : Shelf w S s m g) (hg : GoodG g) (h120 : g.1.length ≤ 120) (hk : Sl w a len kids) (ha : ∀ x, (Value.slice a len len).ownBlock = some x → ¬ S x) (hf : Fits g op n kids) :
    Calls Tryd.prog 39 #[.pointer (some ⟨s, 0, none⟩), .agg #[.int .i64 op, .int .i64 n, .slice a len cap]] w fun e w' => e = .returned (.tuple #[.int .i64 (((clsP g (op, n, kidsL g.2 kids)).map (fun r => r.2)).getD 0), .bool (clsP g (op, n, kidsL g.2 kids)).isSome]) ∧ KB S w w' ∧ (∀ r, clsP g (op, n, kidsL g.2 kids) = some r → Shelf w' (fun b => S b ∨ w.heap.size ≤ b) s m r.1) := by
  have hT0 := hT
  have HF : Hid (∀ W, Below w.heap.size w W → Calls Tryd.prog 61 #[.pointer (some ⟨s, 0, none⟩), .agg #[.int .i64 op, .int .i64 n, .slice a len cap]] W fun e w' => e = .returned (.tuple #[.int .i64 ((findL g.1 g.2 (op, n, kidsL g.2 kids)).getD 0), .bool (findL g.1 g.2 (op, n, kidsL g.2 kids)).isSome]) ∧ Below W.heap.size W w') := fun W hW => find_any s m S g op n a len cap kids W (hT.keep hW) hg (by omega) (hk.keep hW) hf
  obtain ⟨W1, hW1⟩ : ∃ W1, w.alloc (.cells #[.int .i64 op, .int .i64 n, .slice a len cap] 36) = W1 := ⟨_, rfl⟩
  have hb1 : Below w.heap.size w W1 := by rw [← hW1]; exact (Below.refl _ _).alloc (Nat.le_refl _) _
  have hs1 : W1.heap.size = w.heap.size + 1 := by rw [← hW1]; simp
  have n0 : W1.cell? ⟨w.heap.size, 0, none⟩ = some (.int .i64 op) := by rw [← hW1]; simp [go_sem]
  have n1 : W1.cell? ⟨w.heap.size, 1, none⟩ = some (.int .i64 n) := by rw [← hW1]; simp [go_sem]
  have n2 : W1.cell? ⟨w.heap.size, 2, none⟩ = some (.slice a len cap) := by rw [← hW1]; simp [go_sem]
  have HF1 := (show Hid _ from HF.out W1 hb1)
  cases hfl : findL g.1 g.2 (op, n, kidsL g.2 kids) with
  | some v =>
    have hc : clsP g (op, n, kidsL g.2 kids) = some (g, v) := by
      unfold clsP
      rw [if_neg (fun h => by rw [hfl] at h; cases h.1), putL_some hfl]
    rw [hc]
    rw [hfl] at HF1
    simp only [Option.getD_some, Option.isSome_some, Option.map_some] at HF1 ⊢
    have HX : Hid (∀ W, Below W1.heap.size W1 W → KB S w W ∧ Shelf W (fun b => S b ∨ w.heap.size ≤ b) s m g) := fun W hW => by
      have hX := hb1.trans (hW.mono hb1.size)
      exact ⟨KB.of hX, (hT0.keep hX).sets (fun b _ h => .inl h)⟩
    clear hT hT0 hk ha hf hb1 hfl hc HF hg hs1
    go_enter Tryd.func39, Tryd.ntmps39
    go_wp2_with fail
    (try rw [hW1])
    refine Calls.mono HF1.out ?_
    rintro e w2 ⟨rfl, hb2⟩
    have HX2 := (show Hid _ from HX.out w2 hb2)
    clear HF1 HX hW1 hb2
    go_wp2
    go_ret2
    exact ⟨rfl, HX2.out.1, fun r hr => by cases hr; exact HX2.out.2⟩
  | none =>
    rw [hfl] at HF1
    simp only [Option.getD_none, Option.isSome_none] at HF1
    obtain ⟨p, l⟩ := g
    obtain ⟨va, vb, f, h1, h2, h3, h4, h5, h6, h7, h8, h9, h10, h11, h12, h13⟩ := hT
    obtain ⟨ga, ca, gb, cb, rfl, rfl, _, hL⟩ := h8.reads
    simp only at h7 h8 h120 hfl hL
    have hlp := hg.2.1
    simp only at hlp
    by_cases h00 : p.length = 120
    · have hc : clsP (p, l) (op, n, kidsL l kids) = none := by unfold clsP; rw [if_pos ⟨hfl, h00⟩]
      rw [hc]
      simp only [Option.map_none, Option.getD_none, Option.isSome_none]
      have HX : Hid (∀ W, Below W1.heap.size W1 W → KB S w W) := fun W hW => KB.of (hb1.trans (hW.mono hb1.size))
      have hse : ((p.length : Int) == 120) = true := by simp; omega
      have HC : Hid (∀ W, Below W1.heap.size W1 W → W.cell? ⟨s, 0, none⟩ = some (.slice ga p.length ca)) := fun W hW => ((hb1.trans (hW.mono hb1.size)).cell (p := ⟨s, 0, none⟩) h12).trans h1
      clear hT0 hk ha hf hb1 hfl hc HF hg hs1 h1 h2 h3 h4 h5 h6 h7 h8 hL hlp h00
      go_enter Tryd.func39, Tryd.ntmps39
      go_wp2_with fail
      (try rw [hW1])
      refine Calls.mono HF1.out ?_
      rintro e w2 ⟨rfl, hb2⟩
      have HX2 := (show Hid _ from HX.out w2 hb2)
      have c0 := HC.out w2 hb2
      clear HF1 HX hW1 hb2 HC
      go_wp2
      go_ret2
      exact ⟨rfl, HX2.out, fun r hr => by cases hr⟩
    · have hc : clsP (p, l) (op, n, kidsL l kids) = some ((p ++ [(op, n, kidsL l kids)], l ++ [(p.length : Int)]), (p.length : Int)) := by
        unfold clsP
        rw [if_neg (fun h => h00 h.2)]
        exact congrArg some (putL_none (g := (p, l)) hfl)
      rw [hc]
      simp only [Option.map_some, Option.getD_some, Option.isSome_some]
      have hse : ((p.length : Int) == 120) = false := by simp; omega
      have hll := hk.1
      have har := nodeOk_ar hf.ok
      have hsi := fits_sh hg (by simp only; omega) hf
      have hadd := held_add hg h7 hf hfl
      simp only at hsi hadd
      obtain ⟨j0, hj, jz0, jz1, jz2⟩ := info_parts infoENode
      obtain ⟨i0, hi, hz0, hz1, hz2⟩ := info_parts infoInt
      have HM0 : Hid (∀ W, Below W1.heap.size W1 W → Mid w W S s m (.slice ga p.length ca) (.slice gb l.length cb) p l f) := fun W hW => by
        have hX := hb1.trans (hW.mono hb1.size)
        exact ⟨(hX.cell (p := ⟨s, 0, none⟩) h12).trans h1, (hX.cell (p := ⟨s, 1, none⟩) h12).trans h2, (hX.cell (p := ⟨s, 2, none⟩) h12).trans h3, (hX.frozen (p := ⟨s, 0, none⟩) h12).trans h4, (hX.frozen (p := ⟨s, 1, none⟩) h12).trans h5, h6.keep hX, (h8.sets (fun b hl hb => .inl ⟨hb.1, hb.2.1, hb.2.2, hl⟩)).keep hX, KB.of hX⟩
      -- cells that stay
      have HCk : Hid (∀ (W W' : World), W1.heap.size ≤ W.heap.size → (∀ b, b < W1.heap.size → b ≠ m → W'.heap[b]? = W1.heap[b]?) → W'.cell? ⟨w.heap.size, 0, none⟩ = some (.int .i64 op) ∧ W'.cell? ⟨w.heap.size, 1, none⟩ = some (.int .i64 n) ∧ W'.cell? ⟨w.heap.size, 2, none⟩ = some (.slice a len cap) ∧ W'.cell? ⟨s, 1, none⟩ = some (.slice gb l.length cb) ∧ W'.cell? ⟨s, 2, none⟩ = some (.map (some m))) := fun W W' _ h => by
        have e1 := h w.heap.size (by omega) (by omega)
        have e2 := h s (by omega) h9
        have x1 := (hb1.cell (p := ⟨s, 1, none⟩) h12).trans h2
        have x2 := (hb1.cell (p := ⟨s, 2, none⟩) h12).trans h3
        exact ⟨(World.cell?_of_block (a := ⟨w.heap.size, 0, none⟩) e1).trans n0, (World.cell?_of_block (a := ⟨w.heap.size, 1, none⟩) e1).trans n1, (World.cell?_of_block (a := ⟨w.heap.size, 2, none⟩) e1).trans n2, (World.cell?_of_block (a := ⟨s, 1, none⟩) e2).trans x1, (World.cell?_of_block (a := ⟨s, 2, none⟩) e2).trans x2⟩
      have HSh : Hid (∀ W, Below W1.heap.size W1 W → Calls Tryd.prog 60 #[.agg #[.int .i64 op, .int .i64 n, .slice a len cap], .slice gb l.length cb] W fun e w' => e = .returned (shV (shO l (op, n, kids))) ∧ Below W.heap.size W w') := fun W hW => by
        have hX := hb1.trans (hW.mono hb1.size)
        exact shape_any op n a gb len cap l.length cb kids l W (hk.keep hX) (hL.keep hX) (by omega) (fun j hj => by
          obtain ⟨y, e1, e2⟩ := hf.rng j (by omega)
          exact ⟨y, e1, by simp only at e2; omega⟩)
      have HQ : Hid (∀ W, Below W1.heap.size W1 W → ∃ W5, (Instr.mapUpdate 83 (.map (some m)) (shV (shO l (op, n, kids))) (.int .i64 (p.length : Int))).run Tryd.prog W = .ok () W5 ∧ (W5.cell? ⟨w.heap.size, 0, none⟩ = some (.int .i64 op) ∧ W5.cell? ⟨w.heap.size, 1, none⟩ = some (.int .i64 n) ∧ W5.cell? ⟨w.heap.size, 2, none⟩ = some (.slice a len cap) ∧ W5.cell? ⟨s, 1, none⟩ = some (.slice gb l.length cb) ∧ W5.cell? ⟨s, 2, none⟩ = some (.map (some m))) ∧ W1.heap.size ≤ W5.heap.size ∧ Hid (Mid w W5 S s m (.slice ga p.length ca) (.slice gb l.length cb) p l (setS f (shO l (op, n, kids)) (some (p.length : Int))) ∧ Sl W5 a len kids ∧ Sl W5 gb l.length l)) := fun W hW => by
        have hX := hb1.trans (hW.mono hb1.size)
        obtain ⟨o, ho, hw⟩ := (h6.keep hX).store hsi (p.length : Int)
        have hne : ∀ b, b ≠ m → (setBlock W m o).heap[b]? = W.heap[b]? := fun b hb => setB_ne b hb
        obtain ⟨k1, k2, k3, k4, k5, k6, k7, k8⟩ := HM0.out W hW
        have hmW : m < W.heap.size := Nat.lt_of_lt_of_le h13 hX.size
        have e := hne s h9
        have hkb : KB (fun b => b = m) W (setBlock W m o) := ⟨rfl, rfl, rfl, by rw [setB_size]; exact Nat.le_refl _, fun b _ hn => hne b hn⟩
        refine ⟨_, ho, HCk.out W _ hW.size (fun b hb hn => (hne b hn).trans (hW.block b hb)), by rw [setB_size]; exact hW.size, ⟨(World.cell?_of_block (a := ⟨s, 0, none⟩) e).trans k1, (World.cell?_of_block (a := ⟨s, 1, none⟩) e).trans k2, (World.cell?_of_block (a := ⟨s, 2, none⟩) e).trans k3, (World.frozen?_of_block (a := ⟨s, 0, none⟩) e).trans k4, (World.frozen?_of_block (a := ⟨s, 1, none⟩) e).trans k5, hw _ (setB_get hmW), k7.map (by rw [setB_size]; exact Nat.le_refl _) (fun b hb _ => hne b (fun e => by rcases hb with h | h; exact h.2.2.1 e; omega)) (fun _ _ h => h), k8.trans hkb (fun b hb e => by rw [e]; exact h11)⟩, sl_kb (hk.keep hX) hkb (fun x hx e => ha x hx (by rw [e]; exact h11)), sl_kb (hL.keep hX) hkb (fun x hx e => ?_)⟩
        have := (h8.row.2.2.2 x (by rw [own_slice gb _ _ _ _]; exact hx)).2.2
        exact this e
      have HWc : Hid (∀ (W5 W : World), Sl W5 a len kids → Sl W5 gb l.length l → Below W5.heap.size W5 W → Calls Tryd.prog 62 #[.agg #[.int .i64 op, .int .i64 n, .slice a len cap], .slice gb l.length cb] W fun e w' => ∃ g, e = .returned (.agg #[.int .i64 op, .int .i64 n, .slice (some ⟨g, 0, none⟩) len len]) ∧ Below W.heap.size W w' ∧ W.heap.size ≤ g ∧ g < w'.heap.size ∧ (∀ i, i < len → w'.cell? ⟨g, i, none⟩ = some (.int .i64 ((kidsL l kids).getD i 0)) ∧ w'.frozen? ⟨g, i, none⟩ = false)) := fun W5 W ha5 hb5 hW => withC_any op n a gb len cap l.length cb kids l W (ha5.keep hW) (hb5.keep hW) (by omega) (fun j hj => by
          obtain ⟨y, e1, e2⟩ := hf.rng j (by omega)
          exact ⟨y, e1, by simp only at e2; omega⟩)
      have HZ : Hid (s ≠ m ∧ (S s ∧ S m ∧ s < w.heap.size ∧ m < w.heap.size) ∧ W1.heap.size = w.heap.size + 1 ∧ p.length < 120 ∧ len ≤ 3 ∧ l.length = p.length ∧ (kidsL l kids).length = len ∧ Held (p ++ [(op, n, kidsL l kids)]) (l ++ [(p.length : Int)]) (p.length + 1) (setS f (shO l (op, n, kids)) (some (p.length : Int)))) := ⟨h9, ⟨h10, h11, h12, h13⟩, hs1, by omega, by omega, hlp, by rw [kidsL_len]; exact hll, hadd⟩
      unfold shV at HSh HQ
      generalize shO l (op, n, kids) = e at HSh HQ HZ
      obtain ⟨so, sn, sa, sb, sc⟩ := e
      simp only at HSh HQ
      have hpl : p.length ≤ 119 := by omega
      have hpl2 : l.length ≤ 119 := by omega
      clear hT0 hk ha hf hb1 hfl hc HF hg hs1 h1 h2 h3 h4 h5 h6 h7 h8 hL hlp h00 hadd hsi hll har
      go_enter Tryd.func39, Tryd.ntmps39
      go_wp2_with fail
      (try rw [hW1])
      refine Calls.mono HF1.out ?_
      rintro e w2 ⟨rfl, hb2⟩
      obtain ⟨c0, _⟩ := HM0.out w2 hb2
      have hD2 : Below W1.heap.size W1 w2.drew := below_drawn hb2 1
      have zD := HCk.out w2 w2.drew hb2.size (fun b hb _ => hb2.block b hb)
      have HSh2 := (show Hid _ from HSh.out w2.drew hD2)
      have HB2 := (show Hid _ from hD2)
      clear HF1 hW1 HSh hb2 hD2 n0 n1 n2
      go_wp2_with fail
      go_region_held3 (fun w' => w'.cell? ⟨w.heap.size, 0, none⟩ = some (.int .i64 op) ∧ w'.cell? ⟨w.heap.size, 1, none⟩ = some (.int .i64 n) ∧ w'.cell? ⟨w.heap.size, 2, none⟩ = some (.slice a len cap) ∧ w'.cell? ⟨s, 1, none⟩ = some (.slice gb l.length cb) ∧ w'.cell? ⟨s, 2, none⟩ = some (.map (some m)))
        (assumption)
        (first
        | (go_at_call 60; refine Calls.mono HSh2.out ?_; rintro r w4 ⟨rfl, hb4⟩; have hB4 := HB2.out.trans (hb4.mono HB2.out.size); have z4 := HCk.out w4 w4 hB4.size (fun b hb _ => hB4.block b hb); obtain ⟨W5, hS5, z5, hs5, HN5⟩ := HQ.out w4 hB4; clear hb4))
      obtain ⟨z50, z51, z52, _, _⟩ := z5
      clear HSh2 HQ z4 hB4 HB2 zD HCk HM0
      obtain ⟨hmid, hsa5, hsb5⟩ := HN5.out
      have hz := HZ.out
      have hD5 : Below W5.heap.size W5 W5.drew := below_drawn (Below.refl _ _) 1
      have HWc5 := (show Hid _ from HWc.out W5 W5.drew hsa5 hsb5 hD5)
      have hlt5 : s < W5.heap.size ∧ m < W5.heap.size ∧ w.heap.size < W5.heap.size := by omega
      have bx0 : W5.cell? ⟨w.heap.size, 0, none⟩ = some (.int .i64 op) := z50
      have HC8 : Hid (∀ W, Below W5.heap.size W5 W → W.cell? ⟨w.heap.size, 0, none⟩ = some (.int .i64 op) ∧ W.cell? ⟨w.heap.size, 1, none⟩ = some (.int .i64 n) ∧ W.cell? ⟨w.heap.size, 2, none⟩ = some (.slice a len cap) ∧ W.cell? ⟨s, 0, none⟩ = some (.slice ga p.length ca) ∧ W.cell? ⟨s, 1, none⟩ = some (.slice gb l.length cb)) := fun W hW => ⟨(hW.cell (p := ⟨w.heap.size, 0, none⟩) hlt5.2.2).trans z50, (hW.cell (p := ⟨w.heap.size, 1, none⟩) hlt5.2.2).trans z51, (hW.cell (p := ⟨w.heap.size, 2, none⟩) hlt5.2.2).trans z52, (hW.cell (p := ⟨s, 0, none⟩) hlt5.1).trans hmid.1, (hW.cell (p := ⟨s, 1, none⟩) hlt5.1).trans hmid.2.1⟩
      have HV8 : Hid (∀ (w6 : World) (gk : Nat), Below W5.heap.size W5 w6 → W5.heap.size ≤ gk → gk < w6.heap.size → (∀ i, i < len → w6.cell? ⟨gk, i, none⟩ = some (.int .i64 ((kidsL l kids).getD i 0)) ∧ w6.frozen? ⟨gk, i, none⟩ = false) →
          ∃ xs, (w6.alloc (.cells #[.int .i64 op, .int .i64 n, .slice (some ⟨gk, 0, none⟩) len len] 36)).ownsRow 0 36 3 (.slice ga p.length ca) p.length xs ∧ ∀ w7 v7, w7.ownsRow 0 36 3 v7 (p.length + 1) (xs ++ [.int .i64 op, .int .i64 n, .slice (some ⟨gk, 0, none⟩) len len]) → (w6.alloc (.cells #[.int .i64 op, .int .i64 n, .slice (some ⟨gk, 0, none⟩) len len] 36)).grownBy w7 (Value.slice ga p.length ca).ownBlock → (v7.ownBlock = (Value.slice ga p.length ca).ownBlock ∨ v7.ownBlock = some (w6.alloc (.cells #[.int .i64 op, .int .i64 n, .slice (some ⟨gk, 0, none⟩) len len] 36)).heap.size) →
            w7.cell? ⟨s, 0, none⟩ = some (.slice ga p.length ca) ∧ w7.cell? ⟨s, 1, none⟩ = some (.slice gb l.length cb) ∧ w7.frozen? ⟨s, 0, none⟩ = false ∧ Hid (Mid w (w7.setCell ⟨s, 0, none⟩ v7) S s m v7 (.slice gb l.length cb) (p ++ [(op, n, kidsL l kids)]) l (setS f (so, sn, sa, sb, sc) (some (p.length : Int))) ∧ w.heap.size + 1 ≤ (w7.setCell ⟨s, 0, none⟩ v7).heap.size)) := fun w6 gk hb6 hg1 hg2 hcg => by
        have hbA : Below W5.heap.size W5 (w6.alloc (.cells #[.int .i64 op, .int .i64 n, .slice (some ⟨gk, 0, none⟩) len len] 36)) := hb6.alloc hb6.size _
        have hmA := hmid.keep hlt5.1 hlt5.2.1 hbA
        obtain ⟨⟨xs, hxs⟩, _⟩ := hmA.2.2.2.2.2.2.1.row
        have hbl : Below w6.heap.size w6 (w6.alloc (.cells #[.int .i64 op, .int .i64 n, .slice (some ⟨gk, 0, none⟩) len len] 36)) := (Below.refl _ _).alloc (Nat.le_refl _) _
        have hkid : KidAt (w6.alloc (.cells #[.int .i64 op, .int .i64 n, .slice (some ⟨gk, 0, none⟩) len len] 36)) true (fun b => w.heap.size + 1 ≤ b) (.slice (some ⟨gk, 0, none⟩) len len) (kidsL l kids) := by
          have hkl := hz.2.2.2.2.2.2.1
          refine ⟨some ⟨gk, 0, none⟩, len, by rw [hkl], by omega, by omega, ⟨rfl, .inr ⟨gk, 0, rfl, Nat.lt_of_lt_of_le hg2 hbl.size, fun i hi => ?_⟩⟩, fun x hx => ?_, fun _ => ⟨gk, rfl, fun j hj => (hbl.frozen (p := ⟨gk, j, none⟩) hg2).trans (hcg j (by omega)).2⟩⟩
          · rw [Nat.zero_add]; exact (hbl.cell (p := ⟨gk, i, none⟩) hg2).trans (hcg i (by omega)).1
          · have e : gk = x := by injection hx
            subst e
            exact ⟨by omega, Nat.lt_of_lt_of_le hg2 hbl.size⟩
        refine ⟨xs, hxs, fun w7 v7 k1 k2 k3 => ?_⟩
        have hres := hmA.nodes (x := (op, n, kidsL l kids)) hz.1 hz.2.1 hxs k1 k2 k3 hkid (fun b hb => ⟨W5, hmid.2.2.2.2.2.2.1, hbA, by have e : gk = b := (by injection hb); omega⟩) (by have := hbA.size; omega)
        refine ⟨hres.2.1, hres.2.2.1, hres.2.2.2, hres.1, ?_⟩
        rw [setCell_size]
        have := k2.size
        have := hbA.size
        omega
      have HFin : Hid (∀ (W8 : World) (v7 : Value), Mid w W8 S s m v7 (.slice gb l.length cb) (p ++ [(op, n, kidsL l kids)]) l (setS f (so, sn, sa, sb, sc) (some (p.length : Int))) → w.heap.size + 1 ≤ W8.heap.size → (W8.alloc (.cells #[.int .i64 (p.length : Int)] 3)).ownsRow 0 3 1 (.slice gb l.length cb) l.length (vals l) ∧ ∀ w9 v9, w9.ownsRow 0 3 1 v9 (l.length + 1) (vals l ++ [.int .i64 (p.length : Int)]) → (W8.alloc (.cells #[.int .i64 (p.length : Int)] 3)).grownBy w9 (Value.slice gb l.length cb).ownBlock → (v9.ownBlock = (Value.slice gb l.length cb).ownBlock ∨ v9.ownBlock = some (W8.alloc (.cells #[.int .i64 (p.length : Int)] 3)).heap.size) → w9.cell? ⟨s, 1, none⟩ = some (.slice gb l.length cb) ∧ w9.frozen? ⟨s, 1, none⟩ = false ∧ Hid (KB S w (w9.setCell ⟨s, 1, none⟩ v9) ∧ Shelf (w9.setCell ⟨s, 1, none⟩ v9) (fun b => S b ∨ w.heap.size ≤ b) s m (p ++ [(op, n, kidsL l kids)], l ++ [(p.length : Int)]))) := fun W8 v7 hm8 hs8 => by
        have hbA : Below W8.heap.size W8 (W8.alloc (.cells #[.int .i64 (p.length : Int)] 3)) := (Below.refl _ _).alloc (Nat.le_refl _) _
        have hmA := hm8.keep (by omega) (by omega) hbA
        refine ⟨hmA.2.2.2.2.2.2.1.row.2.1, fun w9 v9 k1 k2 k3 => ?_⟩
        have hres := hmA.parts hz.1 hz.2.1 k1 k2 k3 (by have := hbA.size; omega)
        obtain ⟨⟨t1, t2, t3, t4, t5, t6, t7, t8⟩, t9, t10⟩ := hres
        have hs9 : s < (w9.setCell ⟨s, 1, none⟩ v9).heap.size ∧ m < (w9.setCell ⟨s, 1, none⟩ v9).heap.size := by
          rw [setCell_size]
          have := k2.size
          have := hbA.size
          omega
        refine ⟨t9, t10, t8, v7, v9, _, t1, t2, t3, t4, t5, t6, ?_, t7.sets (fun b hl hb => ?_), hz.1, .inl hz.2.1.1, .inl hz.2.1.2.1, hs9.1, hs9.2⟩
        · have := hz.2.2.2.2.2.2.2
          simp only [List.length_append, List.length_singleton]
          exact this
        · rcases hb with hb | hb
          · exact ⟨.inl hb.1, hb.2.1, hb.2.2.1⟩
          · exact ⟨.inr (by omega), by omega, by omega⟩
      obtain ⟨d0, d1, d2, d3, d4⟩ := HC8.out W5.drew hD5
      clear hmid hsa5 hsb5 HN5 HWc z50 z51 z52 bx0 hz HZ hlt5
      go_wp2_with fail
      go_region_law (first
        | (obtain ⟨xs, hxs, hnext⟩ := HV.out; refine step_append rfl _ _ 30 rfl 0 36 j0 (.agg #[.int .i64 0, .int .i64 0, .slice none 0 0]) 3 40 Tryd.underlying30 hj jz0 jz1 jz2 rfl (by decide) _ _ _ rfl hxs ⟨w6.heap.size, 0, none⟩ 1 1 [_, _, _] rfl rfl (cell_new3 _ _ _ _ _) (one_cell3 _ _ _ _ _) (by unfold maxLen; omega) (by omega) (Nat.zero_le _) ?_; intro v7 w7 k1 k2 k3; obtain ⟨a7, c7, rfl, _⟩ := row_slice k1; obtain ⟨t0, t1, t2, HN⟩ := hnext w7 _ k1 k2 k3; clear hnext hxs k1 k2 k3 HV)
        | (go_simp; go_at_call 62; refine Calls.mono HWc5.out ?_; rintro r w6 ⟨gk, rfl, hb6, hg1, hg2, hcg⟩
           have hB6 : Below W5.heap.size W5 w6 := hD5.trans hb6
           obtain ⟨e0, e1, e2, e3, e4⟩ := HC8.out w6 hB6
           have zB := fun o => (HC8.out (w6.alloc o) (hB6.alloc hB6.size o)).2.2.2.1
           have HV := (show Hid _ from HV8.out w6 gk hB6 hg1 hg2 hcg)
           clear hb6 hB6 hg1 hg2 hcg))
      all_goals
        obtain ⟨hm8, hs8⟩ := HN.out
        have c81 := hm8.2.1
        obtain ⟨hr9, hx9⟩ := HFin.out _ _ hm8 hs8
        have HX9 := (show Hid _ from hx9)
        clear HV8 HC8 HWc5 HFin HN hm8 hs8 hx9 d0 d1 d2 d3 d4 hD5
        go_wp2_with (at_builtin; refine wpList_append_own_at _ rfl _ _ 23 rfl 0 3 i0 (.int .i64 0) 1 8 Tryd.underlying23 hi hz0 hz1 hz2 rfl (by decide) _ _ _ rfl hr9 ⟨w7.heap.size, 0, none⟩ 1 1 [_] (by first | rfl | simp [World.setCell]) rfl (by first | exact cell_new1 _ _ _ _ | (have := cell_new1 (w7.setCell ⟨s, 0, none⟩ (.slice a7 (p.length + 1) c7)) .i64 (p.length : Int) 3; rw [setCell_size] at this; exact this)) (one_cell1 _ _) (by unfold maxLen; omega) (by omega) (Nat.zero_le _) ?_; intro v9 w9 k1 k2 _ k3; obtain ⟨b9, c9, rfl, _⟩ := row_slice k1; obtain ⟨y1, y2, HN9⟩ := HX9.out w9 _ k1 k2 k3; clear HX9 hr9 k1 k2 k3)
        go_ret2
        exact ⟨rfl, HN9.out.1, fun r hr => by cases hr; exact HN9.out.2⟩
end Go.Proofs.YtbmgflapagbkcaaDoor
