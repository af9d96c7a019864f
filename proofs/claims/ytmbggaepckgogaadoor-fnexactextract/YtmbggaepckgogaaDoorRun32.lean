/-
  PROVED HERE: what the laws' own copying of nodes and graphs answers, at every list of at most a million: lists of nodes in memory of their own. No other condition. that the laws' own comparing finds the same lists of ints to be the same, at every list of at most a million. No other condition.
-/
import Derived.Test.YtmbggaepckgogaaDoorRun31
import Derived.Test.YtmbggaepckgogaaDoorRun3
namespace Go.Proofs.YtmbggaepckgogaaDoor
open Go.ChangeShapes Go.WideShapes Go.ChangeAt Go.RowKit
set_option linter.unusedVariables false

/-- A list of nodes of one's own, in blocks from lo on: each part may be written, and no two lie in one block. -/
def EMine (w : World) (lo hi g len : Nat) (p : List EN) : Prop :=
  p.length = len ∧ lo ≤ g ∧ g < hi ∧ hi ≤ w.heap.size ∧ ∃ bs : Nat → Nat, (∀ i, i < len → lo ≤ bs i ∧ bs i < hi ∧ bs i ≠ g ∧ ∀ j, j < i → bs j ≠ bs i) ∧
    ∀ i, i < len → (∃ c, (p.getD i e0).2.2.length ≤ c ∧ w.cell? ⟨g, i * 3 + 2, none⟩ = some (.slice (some ⟨bs i, 0, none⟩) (p.getD i e0).2.2.length c)) ∧ w.cell? ⟨g, i * 3, none⟩ = some (.int .i64 (p.getD i e0).1) ∧ w.cell? ⟨g, i * 3 + 1, none⟩ = some (.int .i64 (p.getD i e0).2.1) ∧ w.frozen? ⟨g, i * 3, none⟩ = false ∧ w.frozen? ⟨g, i * 3 + 1, none⟩ = false ∧
      ∀ j, j < (p.getD i e0).2.2.length → w.cell? ⟨bs i, j, none⟩ = some (.int .i64 ((p.getD i e0).2.2.getD j 0)) ∧ w.frozen? ⟨bs i, j, none⟩ = false
theorem EMine.esl {w : World} {lo hi g len : Nat} {p : List EN} (h : EMine w lo hi g len p) (hp : ∀ i, i < len → (p.getD i e0).2.2.length ≤ 9223372036854775807) : ESl w (some ⟨g, 0, none⟩) len p := by
  obtain ⟨h1, h2, h3, hw, bs, h4, h5⟩ := h
  refine ⟨h1, .inr ⟨g, 0, rfl, by omega, fun i hi => ?_⟩⟩
  obtain ⟨⟨c, hc, c1⟩, c2, c3, c4, c5, c6⟩ := h5 i hi
  have hb := (h4 i hi).2.1
  refine ⟨some ⟨bs i, 0, none⟩, _, c, by rw [Nat.zero_add]; exact c2, by rw [Nat.zero_add]; exact c3, by rw [Nat.zero_add]; exact c1, hp i hi, hc, ⟨rfl, .inr ⟨bs i, 0, rfl, by omega, fun j hj => by rw [Nat.zero_add]; exact (c6 j hj).1⟩⟩⟩
/-- Where its blocks stay as they were. -/
theorem EMine.map {w w' : World} {lo hi lo' hi' g len : Nat} {p : List EN} (h : EMine w lo hi g len p) (hl : lo' ≤ lo) (hh : hi ≤ hi') (hs : hi' ≤ w'.heap.size) (hk : ∀ b, lo ≤ b → b < hi → w'.heap[b]? = w.heap[b]?) : EMine w' lo' hi' g len p := by
  obtain ⟨h1, h2, h3, hw, bs, h4, h5⟩ := h
  refine ⟨h1, by omega, by omega, hs, bs, fun i hi => ?_, fun i hi => ?_⟩
  · obtain ⟨a, b, c, d⟩ := h4 i hi
    exact ⟨by omega, by omega, c, d⟩
  · obtain ⟨⟨c, hc, c1⟩, c2, c3, c4, c5, c6⟩ := h5 i hi
    have hg := hk g h2 h3
    have hbs := hk (bs i) (h4 i hi).1 (h4 i hi).2.1
    exact ⟨⟨c, hc, (World.cell?_of_block (a := ⟨g, i * 3 + 2, none⟩) hg).trans c1⟩, (World.cell?_of_block (a := ⟨g, i * 3, none⟩) hg).trans c2, (World.cell?_of_block (a := ⟨g, i * 3 + 1, none⟩) hg).trans c3, (World.frozen?_of_block (a := ⟨g, i * 3, none⟩) hg).trans c4, (World.frozen?_of_block (a := ⟨g, i * 3 + 1, none⟩) hg).trans c5,
      fun j hj => ⟨(World.cell?_of_block (a := ⟨bs i, j, none⟩) hbs).trans (c6 j hj).1, (World.frozen?_of_block (a := ⟨bs i, j, none⟩) hbs).trans (c6 j hj).2⟩⟩
theorem EMine.keep {w w' : World} {lo hi g len : Nat} {p : List EN} (h : EMine w lo hi g len p) (hb : Below w.heap.size w w') : EMine w' lo hi g len p :=
  h.map (Nat.le_refl _) (Nat.le_refl _) (Nat.le_trans h.2.2.2.1 hb.size) (fun b _ hlt => hb.block b (by have := h.2.2.2.1; omega))
set_option maxHeartbeats 800000 in
theorem toE_any (op n : Int) (a : Option Addr) (len cap : Nat) (l : List Int) (w : World) (h : Sl w a len l) (hn : len ≤ 1048576) :
    Calls Tryd.prog 50 #[.agg #[.int .i64 op, .int .i64 n, .slice a len cap]] w fun e w' => ∃ g, e = .returned (.agg #[.int .i64 op, .int .i64 n, .slice (some ⟨g, 0, none⟩) len len]) ∧ Below w.heap.size w w' ∧ w.heap.size ≤ g ∧ g < w'.heap.size ∧ (∀ i, i < len → w'.cell? ⟨g, i, none⟩ = some (.int .i64 (l.getD i 0)) ∧ w'.frozen? ⟨g, i, none⟩ = false) := by
  obtain ⟨W1, hW1⟩ : ∃ W1, ((w.alloc (.cells #[.int .i64 op, .int .i64 n, .slice a len cap] 71)).alloc (.cells #[.int .i64 0, .int .i64 0, .slice none 0 0] 74)).alloc (.cells #[.int .i64 op, .int .i64 n, .slice none 0 0] 74) = W1 := ⟨_, rfl⟩
  have hb1 : Below w.heap.size w W1 := by rw [← hW1]; exact (((Below.refl _ _).alloc (Nat.le_refl _) _).alloc (by simp) _).alloc (by simp; omega) _
  have hsz : W1.heap.size = w.heap.size + 3 := by rw [← hW1]; simp
  have n2 : W1.cell? ⟨w.heap.size, 2, none⟩ = some (.slice a len cap) := by rw [← hW1]; simp [go_sem]
  have m0 : W1.cell? ⟨w.heap.size + 1, 0, none⟩ = some (.int .i64 0) := by rw [← hW1]; simp [go_sem]
  have m1 : W1.cell? ⟨w.heap.size + 1, 1, none⟩ = some (.int .i64 0) := by rw [← hW1]; simp [go_sem]
  have m2 : W1.cell? ⟨w.heap.size + 1, 2, none⟩ = some (.slice none 0 0) := by rw [← hW1]; simp [go_sem]
  have o0 : W1.cell? ⟨w.heap.size + 1 + 1, 0, none⟩ = some (.int .i64 op) := by rw [← hW1]; simp [go_sem]
  have o1 : W1.cell? ⟨w.heap.size + 1 + 1, 1, none⟩ = some (.int .i64 n) := by rw [← hW1]; simp [go_sem]
  have o2 : W1.cell? ⟨w.heap.size + 1 + 1, 2, none⟩ = some (.slice none 0 0) := by rw [← hW1]; simp [go_sem]
  have f0 : W1.frozen? ⟨w.heap.size + 1, 0, none⟩ = false := by rw [← hW1]; simp [go_sem]
  have f1 : W1.frozen? ⟨w.heap.size + 1, 1, none⟩ = false := by rw [← hW1]; simp [go_sem]
  have f2 : W1.frozen? ⟨w.heap.size + 1, 2, none⟩ = false := by rw [← hW1]; simp [go_sem]
  have f3 : W1.frozen? ⟨w.heap.size + 1 + 1, 2, none⟩ = false := by rw [← hW1]; simp [go_sem]
  have HC := (show Hid _ from copyI5_any a len cap l W1 (h.keep hb1) hn)
  clear h
  go_enter Tryd.func50, Tryd.ntmps50
  go_wp2_with fail
  (try rw [hW1])
  refine Calls.mono HC.out ?_
  rintro e w2 ⟨rfl, hb2, hg2, hc2⟩
  have lt2 : w.heap.size + 1 < W1.heap.size := by omega
  have lt3 : w.heap.size + 1 + 1 < W1.heap.size := by omega
  have q0 := (hb2.cell (p := ⟨w.heap.size + 1, 0, none⟩) lt2).trans m0
  have q1 := (hb2.cell (p := ⟨w.heap.size + 1, 1, none⟩) lt2).trans m1
  have q2 := (hb2.cell (p := ⟨w.heap.size + 1, 2, none⟩) lt2).trans m2
  have q3 := (hb2.cell (p := ⟨w.heap.size + 1 + 1, 0, none⟩) lt3).trans o0
  have q4 := (hb2.cell (p := ⟨w.heap.size + 1 + 1, 1, none⟩) lt3).trans o1
  have q5 := (hb2.cell (p := ⟨w.heap.size + 1 + 1, 2, none⟩) lt3).trans o2
  have r0 := (hb2.frozen (p := ⟨w.heap.size + 1, 0, none⟩) lt2).trans f0
  have r1 := (hb2.frozen (p := ⟨w.heap.size + 1, 1, none⟩) lt2).trans f1
  have r2 := (hb2.frozen (p := ⟨w.heap.size + 1, 2, none⟩) lt2).trans f2
  have r3 := (hb2.frozen (p := ⟨w.heap.size + 1 + 1, 2, none⟩) lt3).trans f3
  have hB2 : Below w.heap.size w w2 := hb1.trans (hb2.mono hb1.size)
  have HX : Hid (Below w.heap.size w w2 ∧ W1.heap.size < w2.heap.size ∧ ∀ i, i < len → w2.cell? ⟨W1.heap.size, i, none⟩ = some (.int .i64 (l.getD i 0)) ∧ w2.frozen? ⟨W1.heap.size, i, none⟩ = false) := ⟨hB2, hg2, hc2⟩
  obtain ⟨g, hg⟩ : ∃ g, W1.heap.size = g := ⟨_, rfl⟩
  rw [hg] at HX lt3 ⊢
  have lt4 : w.heap.size + 2 < g := lt3
  clear hb2 hc2 hg2 hB2 HC hb1 n2 m0 m1 m2 o0 o1 o2 f0 f1 f2 f3 hW1 lt2 lt3 hsz hg
  go_wp2
  refine bodyPost_ret (v := .agg #[.int .i64 op, .int .i64 n, .slice (some ⟨g, 0, none⟩) len len]) (by simp [results, Tryd.results50, go_sem, *]) rfl ⟨g, rfl, ?_, by omega, ?_, fun i hi => ?_⟩
  · exact (((HX.out.1.setCell (by show w.heap.size ≤ w.heap.size + 1 + 1; omega) _).setCell (by show w.heap.size ≤ w.heap.size + 1; omega) _).setCell (by show w.heap.size ≤ w.heap.size + 1; omega) _).setCell (by show w.heap.size ≤ w.heap.size + 1; omega) _
  · have := HX.out.2.1; simpa [World.setCell] using this
  · have := HX.out.2.2 i hi
    refine ⟨?_, ?_⟩
    · have n1 : ∀ o, (⟨w.heap.size + 1, o, none⟩ : Addr) ≠ ⟨g, i, none⟩ := fun o e => by injection e; omega
      have n2 : ∀ o, (⟨w.heap.size + 1 + 1, o, none⟩ : Addr) ≠ ⟨g, i, none⟩ := fun o e => by injection e; omega
      rw [World.cell?_setCell_other _ _ _ _ (n1 _), World.cell?_setCell_other _ _ _ _ (n1 _), World.cell?_setCell_other _ _ _ _ (n1 _), World.cell?_setCell_other _ _ _ _ (n2 _)]
      exact this.1
    · simpa [go_sem] using this.2
/-- What copying has done so far. -/
def ECopy (w wr : World) (p : List EN) (k : Nat) (xs : List Value) : Prop :=
  ∃ bs : Nat → Nat, ∀ i, i < k → w.heap.size < bs i ∧ bs i < wr.heap.size ∧ (∀ j, j < i → bs j ≠ bs i) ∧ xs[i * 3]? = some (.int .i64 (p.getD i e0).1) ∧ xs[i * 3 + 1]? = some (.int .i64 (p.getD i e0).2.1) ∧ xs[i * 3 + 2]? = some (.slice (some ⟨bs i, 0, none⟩) (p.getD i e0).2.2.length (p.getD i e0).2.2.length) ∧
    ∀ j, j < (p.getD i e0).2.2.length → wr.cell? ⟨bs i, j, none⟩ = some (.int .i64 ((p.getD i e0).2.2.getD j 0)) ∧ wr.frozen? ⟨bs i, j, none⟩ = false
theorem ecopy_step {w wr w2 : World} {p : List EN} {k len g : Nat} {xs : List Value} {x : Value} {y z : Int} (hr : ECopy w wr p k xs) (hk : k < len) (hb2 : Below wr.heap.size wr w2) (hw : w.heap.size < wr.heap.size) (how : w2.ownsRow w.heap.size 74 3 (.slice (some ⟨w.heap.size, 0, none⟩) len len) len xs) (hbr : Below w.heap.size w wr)
    (hg : wr.heap.size ≤ g ∧ g < w2.heap.size) (hc : ∀ i, i < (p.getD k e0).2.2.length → w2.cell? ⟨g, i, none⟩ = some (.int .i64 ((p.getD k e0).2.2.getD i 0)) ∧ w2.frozen? ⟨g, i, none⟩ = false)
    (hx : x = .slice (some ⟨g, 0, none⟩) (p.getD k e0).2.2.length (p.getD k e0).2.2.length) (hy : y = (p.getD k e0).1) (hz : z = (p.getD k e0).2.1) :
    ∃ xs', (((w2.setCell ⟨w.heap.size, k * 3, none⟩ (.int .i64 y)).setCell ⟨w.heap.size, k * 3 + 1, none⟩ (.int .i64 z)).setCell ⟨w.heap.size, k * 3 + 2, none⟩ x).ownsRow w.heap.size 74 3 (.slice (some ⟨w.heap.size, 0, none⟩) len len) len xs' ∧ ECopy w (((w2.setCell ⟨w.heap.size, k * 3, none⟩ (.int .i64 y)).setCell ⟨w.heap.size, k * 3 + 1, none⟩ (.int .i64 z)).setCell ⟨w.heap.size, k * 3 + 2, none⟩ x) p (k + 1) xs' ∧ Below w.heap.size w (((w2.setCell ⟨w.heap.size, k * 3, none⟩ (.int .i64 y)).setCell ⟨w.heap.size, k * 3 + 1, none⟩ (.int .i64 z)).setCell ⟨w.heap.size, k * 3 + 2, none⟩ x) := by
  have hl := how.1
  have hB : Below w.heap.size w w2 := hbr.trans (hb2.mono hbr.size)
  obtain ⟨W, hW⟩ : ∃ W, ((w2.setCell ⟨w.heap.size, k * 3, none⟩ (.int .i64 y)).setCell ⟨w.heap.size, k * 3 + 1, none⟩ (.int .i64 z)).setCell ⟨w.heap.size, k * 3 + 2, none⟩ x = W := ⟨_, rfl⟩
  have hsame : ∀ b j, b ≠ w.heap.size → W.cell? ⟨b, j, none⟩ = w2.cell? ⟨b, j, none⟩ ∧ W.frozen? ⟨b, j, none⟩ = w2.frozen? ⟨b, j, none⟩ := fun b j hb => by
    have n1 : ∀ o, (⟨w.heap.size, o, none⟩ : Addr) ≠ ⟨b, j, none⟩ := fun o e => by injection e; omega
    rw [← hW]
    exact ⟨by rw [World.cell?_setCell_other _ _ _ _ (n1 _), World.cell?_setCell_other _ _ _ _ (n1 _), World.cell?_setCell_other _ _ _ _ (n1 _)], by simp [go_sem]⟩
  have hsz : W.heap.size = w2.heap.size := by rw [← hW]; simp [World.setCell]
  have hown := (((how.stored (k * 3) (.int .i64 y)).1.stored (k * 3 + 1) (.int .i64 z)).1.stored (k * 3 + 2) x).1
  have hbel : Below w.heap.size w W := by rw [← hW]; exact ((hB.setCell (Nat.le_refl _) _).setCell (Nat.le_refl _) _).setCell (Nat.le_refl _) _
  rw [hW] at hown ⊢
  obtain ⟨bs, hbs⟩ := hr
  refine ⟨_, hown, ⟨fun i => if i = k then g else bs i, fun i hi => ?_⟩, hbel⟩
  rw [hsz]
  simp only [List.getElem?_set, List.length_set]
  by_cases e : i = k
  · subst e
    simp only [if_pos]
    refine ⟨by omega, by omega, fun j hj => ?_, ?_, ?_, ?_, fun j hj => ?_⟩
    · rw [if_neg (by omega)]; have := (hbs j hj).2.1; omega
    · rw [if_neg (by omega), if_neg (by omega), if_pos (by omega), hy]
    · rw [if_neg (by omega), if_pos (by omega), hz]
    · rw [if_pos (by omega), hx]
    · rw [(hsame g j (by omega)).1, (hsame g j (by omega)).2]; exact hc j hj
  · obtain ⟨h1, h2, h3, h4, h5, h6, h7⟩ := hbs i (by omega)
    rw [if_neg e]
    refine ⟨h1, Nat.lt_of_lt_of_le h2 hb2.size, fun j hj => by rw [if_neg (by omega)]; exact h3 j hj, ?_, ?_, ?_, fun j hj => ?_⟩
    · rw [if_neg (by omega), if_neg (by omega), if_neg (by omega)]; exact h4
    · rw [if_neg (by omega), if_neg (by omega), if_neg (by omega)]; exact h5
    · rw [if_neg (by omega), if_neg (by omega), if_neg (by omega)]; exact h6
    · rw [(hsame (bs i) j (by omega)).1, (hsame (bs i) j (by omega)).2, hb2.cell (p := ⟨bs i, j, none⟩) h2, hb2.frozen (p := ⟨bs i, j, none⟩) h2]; exact h7 j hj
theorem infoENode : (Tryd.prog.info? 74).map (fun i => (i.zero, i.size, i.bytes)) = some (some (.agg #[.int .i64 0, .int .i64 0, .slice none 0 0]), 3, 40) := by kernel_rfl
set_option maxHeartbeats 1600000 in
theorem copyE_mine (a : Option Addr) (len cap : Nat) (p : List EN) (w : World) (h : ESl w a len p) (hn : len ≤ 1048576) (hp : ∀ i, i < len → (p.getD i e0).2.2.length ≤ 1048576) :
    Calls Tryd.prog 27 #[.slice a len cap] w fun e w' => e = .returned (.slice (some ⟨w.heap.size, 0, none⟩) len len) ∧ Below w.heap.size w w' ∧ EMine w' w.heap.size w'.heap.size w.heap.size len p := by
  obtain ⟨i0, hi, hz0, hz1, hz2⟩ := info_parts infoENode
  have hsl := h
  have hlen := h.1
  clear h
  go_enter Tryd.func27, Tryd.ntmps27
  go_wp2_with (at_make; refine wpList_make_full _ rfl _ _ 29 rfl w.heap.size 74 i0 (.agg #[.int .i64 0, .int .i64 0, .slice none 0 0]) 3 Tryd.underlying29 hi hz0 hz1 _ _ _ _ len rfl rfl rfl rfl (by rw [hz2]; omega) (by unfold maxLen; omega) (Nat.le_refl _) ?_; intro w1 hown hgrow)
  have hb1 : Below w.heap.size w w1 := (Below.refl _ _).grown hgrow (Nat.le_refl _) (fun k hk => by cases hk)
  clear hgrow
  go_loopw [4] (fun i wr => ∃ (k : Nat) (xs : List Value), k ≤ len ∧ i = .int .i64 k ∧ wr.ownsRow w.heap.size 74 3 (.slice (some ⟨w.heap.size, 0, none⟩) len len) len xs ∧ Hid (ECopy w wr p k xs) ∧ Below w.heap.size w wr) (fun i _ => len - (intOf i).toNat)
  case atStart => exact ⟨0, _, Nat.zero_le _, rfl, hown, ⟨fun _ => 0, fun j hj => absurd hj (Nat.not_lt_zero _)⟩, hb1⟩
  case round =>
    obtain ⟨k, xs, hk, rfl, howr, hx, hbr⟩ := hrel
    clear hown hb1
    by_cases hlt : k < len
    · obtain ⟨b, off, rfl, hbl, hc⟩ := (hsl.keep hbr).at (by omega)
      obtain ⟨ai, li, ci, c1, c2, c3, hli, hci, hS⟩ := hc k hlt
      have hpk := hp k hlt
      obtain ⟨m, hm⟩ : ∃ m, p.getD k e0 = m := ⟨_, rfl⟩
      have hl1 := hS.1
      rw [hm] at c1 c2 hS hpk hl1
      obtain ⟨xo, xn, e⟩ := m
      simp only at c1 c2 hS hpk hl1
      have HT := (show Hid _ from toE_any xo xn ai li ci e wr hS (by omega))
      have hwl := owns_lt howr
      have HM : Hid (p.getD k e0 = (xo, xn, e)) := hm
      clear hc hm hS
      go_wp2_with fail
      refine Calls.mono HT.out ?_
      rintro r w2 ⟨g, rfl, hb2, hg1, hg2, hcg⟩
      have how2 := howr.kept (grown_of hb2) (.inr (by simp [Value.ownBlock]))
      have hf1 := how2.frozenAt (k * 3)
      have hf2 := how2.frozenAt (k * 3 + 1)
      have hf3 := how2.frozenAt (k * 3 + 2)
      have hxl : xs.length = len * 3 := howr.1
      obtain ⟨y1, hy1⟩ : ∃ y, xs[k * 3]? = some y := ⟨_, List.getElem?_eq_getElem (by omega)⟩
      obtain ⟨y2, hy2⟩ : ∃ y, xs[k * 3 + 1]? = some y := ⟨_, List.getElem?_eq_getElem (by omega)⟩
      obtain ⟨y3, hy3⟩ : ∃ y, xs[k * 3 + 2]? = some y := ⟨_, List.getElem?_eq_getElem (by omega)⟩
      have hcl1 := how2.cellAt (k * 3) (by omega)
      have hcl2 := how2.cellAt (k * 3 + 1) (by omega)
      have hcl3 := how2.cellAt (k * 3 + 2) (by omega)
      rw [hy1] at hcl1
      rw [hy2] at hcl2
      rw [hy3] at hcl3
      have HR := (show Hid _ from ecopy_step (x := .slice (some ⟨g, 0, none⟩) li li) (y := xo) (z := xn) hx.out hlt hb2 hwl how2 hbr ⟨hg1, hg2⟩ (by rw [HM.out]; simp only; rw [hl1]; exact hcg) (by rw [HM.out]; simp only; rw [hl1]) (by rw [HM.out]) (by rw [HM.out]))
      clear hx how2 hb2 hcg hbr howr hy1 hy2 hy3 HT c1 c2 c3 HM
      go_wp2
      go_roundw
      case rel =>
        obtain ⟨xs', r1, r2, r3⟩ := HR.out
        exact ⟨k + 1, xs', by omega, by go_num, r1, r2, r3⟩
      case measure => simp [intOf]; omega
    · go_wp2
      obtain rfl : k = len := by omega
      go_ret
      have hwl := owns_lt howr
      obtain ⟨bs, hbs⟩ := hx.out
      refine ⟨rfl, hbr, hlen, Nat.le_refl _, hwl, Nat.le_refl _, bs, fun i hi => ?_, fun i hi => ?_⟩
      · obtain ⟨h1, h2, h3, h4, h5, h6, h7⟩ := hbs i hi
        exact ⟨by omega, h2, by omega, h3⟩
      · obtain ⟨h1, h2, h3, h4, h5, h6, h7⟩ := hbs i hi
        exact ⟨⟨_, Nat.le_refl _, by rw [howr.cellAt (i * 3 + 2) (by omega)]; exact h6⟩, by rw [howr.cellAt (i * 3) (by omega)]; exact h4, by rw [howr.cellAt (i * 3 + 1) (by omega)]; exact h5, howr.frozenAt (i * 3), howr.frozenAt (i * 3 + 1), h7⟩
end Go.Proofs.YtmbggaepckgogaaDoor
namespace Go.Proofs.YtmbggaepckgogaaDoor
open Go.ChangeShapes Go.WideShapes Go.ChangeAt Go.RowKit
set_option linter.unusedVariables false

theorem eqI_same (a b : Option Addr) (len cap cap' : Nat) (l : List Int) (w : World) (h : Sl w a len l) (h' : Sl w b len l) (hn : len ≤ 1048576) :
    Calls Tryd.prog 10 #[.slice a len cap, .slice b len cap'] w fun e w' => e = .returned (.bool true) ∧ Below w.heap.size w w' := by
  obtain ⟨hlen, hsl⟩ := h
  obtain ⟨_, hsl'⟩ := h'
  have hne : ((len : Int) != len) = false := by simp
  go_enter Tryd.func10, Tryd.ntmps10
  go_wp2
  go_loopw [5] (fun i wr => ∃ (k : Nat), k ≤ len ∧ i = .int .i64 k ∧ Below w.heap.size w wr) (fun i _ => len - (intOf i).toNat)
  case atStart => exact ⟨0, Nat.zero_le _, rfl, Below.refl _ _⟩
  case round =>
    obtain ⟨k, hk, rfl, hbr⟩ := hrel
    by_cases hlt : k < len
    · obtain ⟨b1, off, rfl, hbl, hc⟩ : ∃ b off, a = some ⟨b, off, none⟩ ∧ b < w.heap.size ∧ ∀ i, i < len → w.cell? ⟨b, off + i, none⟩ = some (.int .i64 (l.getD i 0)) := by
        rcases hsl with h0 | h0
        · omega
        · exact h0
      obtain ⟨b2, off', rfl, hbl', hc'⟩ : ∃ b' off, b = some ⟨b', off, none⟩ ∧ b' < w.heap.size ∧ ∀ i, i < len → w.cell? ⟨b', off + i, none⟩ = some (.int .i64 (l.getD i 0)) := by
        rcases hsl' with h0 | h0
        · omega
        · exact h0
      have hck : wr.cell? ⟨b1, off + k, none⟩ = some (.int .i64 (l.getD k 0)) := (hbr.cell (p := ⟨b1, off + k, none⟩) hbl).trans (hc k hlt)
      have hck' : wr.cell? ⟨b2, off' + k, none⟩ = some (.int .i64 (l.getD k 0)) := (hbr.cell (p := ⟨b2, off' + k, none⟩) hbl').trans (hc' k hlt)
      clear hc hc' hsl hsl'
      generalize l.getD k 0 = z at hck hck'
      have hlt' : (k : Int) < len := by omega
      go_wp2
      go_quiet (fail)
      go_wp2
      go_roundw
      case rel => exact ⟨k + 1, by omega, by go_num, Go.below_drewN hbr _⟩
      case measure => simp [intOf]; omega
    · go_wp2
      go_ret
      exact ⟨rfl, hbr⟩
end Go.Proofs.YtmbggaepckgogaaDoor
