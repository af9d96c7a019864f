/-
  PROVED HERE: what the laws' own copying and weighing of lists of products answer, at every list of at most a million. No other condition.
-/
import Derived.Test.YtghhmallbmdoaaaPolyCmp
import Derived.Deep.RegionWith
namespace Go.Proofs.Ytghhmallbmdoaaa
open Go.ChangeShapes Go.WideShapes Go.ChangeAt Go.RowKit
set_option linter.unusedVariables false

theorem copyI_any (a : Option Addr) (len cap : Nat) (l : List Int) (w : World) (h : Sl w a len l) (hn : len ≤ 1048576) :
    Calls Try.prog 42 #[.slice a len cap] w fun e w' => e = .returned (.slice (some ⟨w.heap.size, 0, none⟩) len len) ∧ Below w.heap.size w w' ∧ w.heap.size < w'.heap.size ∧ (∀ i, i < len → w'.cell? ⟨w.heap.size, i, none⟩ = some (.int .i64 (l.getD i 0)) ∧ w'.frozen? ⟨w.heap.size, i, none⟩ = false) := by
  obtain ⟨i0, hi, hz0, hz1, hz2⟩ := info_parts infoInt
  obtain ⟨hlen, hsl⟩ := h
  go_enter Try.func42, Try.ntmps42
  go_wp2_with (at_make; refine wpList_make_full _ rfl _ _ 40 rfl w.heap.size 3 i0 (.int .i64 0) 1 Try.underlying40 hi hz0 hz1 _ _ _ _ len rfl rfl rfl rfl (by rw [hz2]; omega) (by unfold maxLen; omega) (Nat.le_refl _) ?_; intro w1 hown hgrow)
  have hb1 : Below w.heap.size w w1 := (Below.refl _ _).grown hgrow (Nat.le_refl _) (fun k hk => by cases hk)
  clear hgrow
  go_loopw [4] (fun i wr => ∃ (k : Nat) (xs : List Value), k ≤ len ∧ i = .int .i64 k ∧ wr.ownsRow w.heap.size 3 1 (.slice (some ⟨w.heap.size, 0, none⟩) len len) len xs ∧ Hid (∀ j, j < k → xs[j]? = some (.int .i64 (l.getD j 0))) ∧ Below w.heap.size w wr) (fun i _ => len - (intOf i).toNat)
  case atStart => exact ⟨0, _, Nat.zero_le _, rfl, hown, fun j hj => absurd hj (Nat.not_lt_zero _), hb1⟩
  case round =>
    obtain ⟨k, xs, hk, rfl, howr, hx, hbr⟩ := hrel
    clear hown hb1
    by_cases hlt : k < len
    · obtain ⟨b, off, rfl, hbl, hc⟩ : ∃ b off, a = some ⟨b, off, none⟩ ∧ b < w.heap.size ∧ ∀ i, i < len → w.cell? ⟨b, off + i, none⟩ = some (.int .i64 (l.getD i 0)) := by
        rcases hsl with h0 | h0
        · omega
        · exact h0
      have hck : wr.cell? ⟨b, off + k, none⟩ = some (.int .i64 (l.getD k 0)) := (hbr.cell (p := ⟨b, off + k, none⟩) hbl).trans (hc k hlt)
      have hfr := howr.frozenAt k
      have hcg := howr.cellAt k (by omega)
      have hst := howr.stored k (.int .i64 (l.getD k 0))
      have R : Hid (∃ xs', (wr.setCell ⟨w.heap.size, k, none⟩ (.int .i64 (l.getD k 0))).ownsRow w.heap.size 3 1 (.slice (some ⟨w.heap.size, 0, none⟩) len len) len xs' ∧ (∀ j, j < k + 1 → xs'[j]? = some (.int .i64 (l.getD j 0))) ∧ Below w.heap.size w (wr.setCell ⟨w.heap.size, k, none⟩ (.int .i64 (l.getD k 0)))) := by
        refine ⟨_, hst.1, fun j hj => ?_, hbr.setCell (Nat.le_refl _) _⟩
        rw [List.getElem?_set]
        by_cases e : k = j
        · subst e
          rw [if_pos rfl, if_pos (by have := howr.1; omega)]
        · rw [if_neg e]; exact hx.out j (by omega)
      obtain ⟨y, hxk⟩ : ∃ y, xs[k]? = some y := ⟨_, List.getElem?_eq_getElem (by have := howr.1; omega)⟩
      rw [hxk] at hcg
      clear hst hc howr hx hxk
      generalize l.getD k 0 = z at hck R
      go_wp2
      go_roundw
      case rel =>
        obtain ⟨xs', r1, r2, r3⟩ := R.out
        exact ⟨k + 1, xs', by omega, by go_num, r1, r2, r3⟩
      case measure => simp [intOf]; omega
    · go_wp2
      obtain rfl : k = len := by omega
      go_ret
      refine ⟨rfl, hbr, owns_lt howr, fun i hi => ⟨?_, howr.frozenAt i⟩⟩
      rw [howr.cellAt i (by omega)]
      exact hx.out i hi
theorem toMono_any (a : Option Addr) (len cap : Nat) (l : List Int) (n : Int) (w : World) (h : Sl w a len l) (hn : len ≤ 1048576) :
    Calls Try.prog 25 #[.agg #[.slice a len cap, .int .i64 n]] w fun e w' => ∃ g, e = .returned (.agg #[.slice (some ⟨g, 0, none⟩) len len, .int .i64 n]) ∧ Below w.heap.size w w' ∧ w.heap.size ≤ g ∧ g < w'.heap.size ∧ (∀ i, i < len → w'.cell? ⟨g, i, none⟩ = some (.int .i64 (l.getD i 0)) ∧ w'.frozen? ⟨g, i, none⟩ = false) := by
  obtain ⟨W1, hW1⟩ : ∃ W1, ((w.alloc (.cells #[.slice a len cap, .int .i64 n] 42)).alloc (.cells #[.slice none 0 0, .int .i64 0] 43)).alloc (.cells #[.slice none 0 0, .int .i64 0] 43) = W1 := ⟨_, rfl⟩
  have hb1 : Below w.heap.size w W1 := by rw [← hW1]; exact (((Below.refl _ _).alloc (Nat.le_refl _) _).alloc (by simp) _).alloc (by simp; omega) _
  have hsz : W1.heap.size = w.heap.size + 3 := by rw [← hW1]; simp
  have n0 : W1.cell? ⟨w.heap.size, 0, none⟩ = some (.slice a len cap) := by rw [← hW1]; simp [go_sem]
  have n1 : W1.cell? ⟨w.heap.size, 1, none⟩ = some (.int .i64 n) := by rw [← hW1]; simp [go_sem]
  have m0 : W1.cell? ⟨w.heap.size + 1, 0, none⟩ = some (.slice none 0 0) := by rw [← hW1]; simp [go_sem]
  have m1 : W1.cell? ⟨w.heap.size + 1, 1, none⟩ = some (.int .i64 0) := by rw [← hW1]; simp [go_sem]
  have o0 : W1.cell? ⟨w.heap.size + 1 + 1, 0, none⟩ = some (.slice none 0 0) := by rw [← hW1]; simp [go_sem]
  have o1 : W1.cell? ⟨w.heap.size + 1 + 1, 1, none⟩ = some (.int .i64 0) := by rw [← hW1]; simp [go_sem]
  have f0 : W1.frozen? ⟨w.heap.size + 1, 0, none⟩ = false := by rw [← hW1]; simp [go_sem]
  have f1 : W1.frozen? ⟨w.heap.size + 1, 1, none⟩ = false := by rw [← hW1]; simp [go_sem]
  have f2 : W1.frozen? ⟨w.heap.size + 1 + 1, 0, none⟩ = false := by rw [← hW1]; simp [go_sem]
  have f3 : W1.frozen? ⟨w.heap.size + 1 + 1, 1, none⟩ = false := by rw [← hW1]; simp [go_sem]
  have HC := (show Hid _ from copyI_any a len cap l W1 (h.keep hb1) hn)
  clear h
  go_enter Try.func25, Try.ntmps25
  go_wp2_with fail
  (try rw [hW1])
  refine Calls.mono HC.out ?_
  rintro e w2 ⟨rfl, hb2, hg2, hc2⟩
  have lt1 : w.heap.size < W1.heap.size := by omega
  have lt2 : w.heap.size + 1 < W1.heap.size := by omega
  have lt3 : w.heap.size + 1 + 1 < W1.heap.size := by omega
  have q1 := (hb2.cell (p := ⟨w.heap.size, 1, none⟩) lt1).trans n1
  have q2 := (hb2.cell (p := ⟨w.heap.size + 1, 0, none⟩) lt2).trans m0
  have q3 := (hb2.cell (p := ⟨w.heap.size + 1, 1, none⟩) lt2).trans m1
  have q4 := (hb2.cell (p := ⟨w.heap.size + 1 + 1, 0, none⟩) lt3).trans o0
  have q5 := (hb2.cell (p := ⟨w.heap.size + 1 + 1, 1, none⟩) lt3).trans o1
  have r2 := (hb2.frozen (p := ⟨w.heap.size + 1, 0, none⟩) lt2).trans f0
  have r3 := (hb2.frozen (p := ⟨w.heap.size + 1, 1, none⟩) lt2).trans f1
  have r4 := (hb2.frozen (p := ⟨w.heap.size + 1 + 1, 0, none⟩) lt3).trans f2
  have r5 := (hb2.frozen (p := ⟨w.heap.size + 1 + 1, 1, none⟩) lt3).trans f3
  have hB2 : Below w.heap.size w w2 := hb1.trans (hb2.mono hb1.size)
  have HX : Hid (Below w.heap.size w w2 ∧ W1.heap.size < w2.heap.size ∧ ∀ i, i < len → w2.cell? ⟨W1.heap.size, i, none⟩ = some (.int .i64 (l.getD i 0)) ∧ w2.frozen? ⟨W1.heap.size, i, none⟩ = false) := ⟨hB2, hg2, hc2⟩
  obtain ⟨g, hg⟩ : ∃ g, W1.heap.size = g := ⟨_, rfl⟩
  rw [hg] at HX lt3 ⊢
  have lt4 : w.heap.size + 2 < g := lt3
  clear hb2 hc2 hg2 hB2 HC hb1 n0 n1 m0 m1 o0 o1 f0 f1 f2 f3 hW1 lt1 lt2 lt3 hsz hg
  go_wp2
  refine bodyPost_ret (v := .agg #[.slice (some ⟨g, 0, none⟩) len len, .int .i64 n]) (by simp [results, Try.results25, go_sem, *]) rfl ⟨g, rfl, ?_, by omega, ?_, fun i hi => ?_⟩
  · exact (((HX.out.1.setCell (by show w.heap.size ≤ w.heap.size + 1 + 1; omega) _).setCell (by show w.heap.size ≤ w.heap.size + 1 + 1; omega) _).setCell (by show w.heap.size ≤ w.heap.size + 1; omega) _).setCell (by show w.heap.size ≤ w.heap.size + 1; omega) _
  · have := HX.out.2.1; simpa [World.setCell] using this
  · have := HX.out.2.2 i hi
    have e1 : ¬ w.heap.size + 1 = g := by omega
    have e2 : ¬ w.heap.size + 1 + 1 = g := by omega
    refine ⟨?_, ?_⟩
    · have n1 : ∀ o, (⟨w.heap.size + 1, o, none⟩ : Addr) ≠ ⟨g, i, none⟩ := fun o e => by injection e; omega
      have n2 : ∀ o, (⟨w.heap.size + 1 + 1, o, none⟩ : Addr) ≠ ⟨g, i, none⟩ := fun o e => by injection e; omega
      rw [World.cell?_setCell_other _ _ _ _ (n1 _), World.cell?_setCell_other _ _ _ _ (n1 _), World.cell?_setCell_other _ _ _ _ (n2 _), World.cell?_setCell_other _ _ _ _ (n2 _)]
      exact this.1
    · simpa [go_sem] using this.2
/-- A list of products of one's own, in blocks from lo on: each part may be written, and no two lie in one block. -/
def PMine (w : World) (lo hi g len : Nat) (p : List Mon) : Prop :=
  p.length = len ∧ lo ≤ g ∧ g < hi ∧ hi ≤ w.heap.size ∧ ∃ bs : Nat → Nat, (∀ i, i < len → lo ≤ bs i ∧ bs i < hi ∧ bs i ≠ g ∧ ∀ j, j < i → bs j ≠ bs i) ∧
    ∀ i, i < len → (∃ c, (p.getD i ([], 0)).1.length ≤ c ∧ w.cell? ⟨g, i * 2, none⟩ = some (.slice (some ⟨bs i, 0, none⟩) (p.getD i ([], 0)).1.length c)) ∧ w.cell? ⟨g, i * 2 + 1, none⟩ = some (.int .i64 (p.getD i ([], 0)).2) ∧ w.frozen? ⟨g, i * 2 + 1, none⟩ = false ∧
      ∀ j, j < (p.getD i ([], 0)).1.length → w.cell? ⟨bs i, j, none⟩ = some (.int .i64 ((p.getD i ([], 0)).1.getD j 0)) ∧ w.frozen? ⟨bs i, j, none⟩ = false
theorem PMine.psl {w : World} {lo hi g len : Nat} {p : List Mon} (h : PMine w lo hi g len p) (hp : ∀ i, i < len → (p.getD i ([], 0)).1.length ≤ 9223372036854775807) : PSl w (some ⟨g, 0, none⟩) len p := by
  obtain ⟨h1, h2, h3, hw, bs, h4, h5⟩ := h
  refine ⟨h1, .inr ⟨g, 0, rfl, by omega, fun i hi => ?_⟩⟩
  obtain ⟨⟨c, hc, c1⟩, c2, c3, c4⟩ := h5 i hi
  have hb := (h4 i hi).2.1
  refine ⟨some ⟨bs i, 0, none⟩, _, c, by rw [Nat.zero_add]; exact c1, hp i hi, hc, ⟨rfl, .inr ⟨bs i, 0, rfl, by omega, fun j hj => by rw [Nat.zero_add]; exact (c4 j hj).1⟩⟩, by rw [Nat.zero_add]; exact c2⟩
/-- Where its blocks stay as they were. -/
theorem PMine.map {w w' : World} {lo hi lo' hi' g len : Nat} {p : List Mon} (h : PMine w lo hi g len p) (hl : lo' ≤ lo) (hh : hi ≤ hi') (hs : hi' ≤ w'.heap.size) (hk : ∀ b, lo ≤ b → b < hi → w'.heap[b]? = w.heap[b]?) : PMine w' lo' hi' g len p := by
  obtain ⟨h1, h2, h3, hw, bs, h4, h5⟩ := h
  refine ⟨h1, by omega, by omega, hs, bs, fun i hi => ?_, fun i hi => ?_⟩
  · obtain ⟨a, b, c, d⟩ := h4 i hi
    exact ⟨by omega, by omega, c, d⟩
  · obtain ⟨⟨c, hc, c1⟩, c2, c3, c4⟩ := h5 i hi
    have hg := hk g h2 h3
    have hbs := hk (bs i) (h4 i hi).1 (h4 i hi).2.1
    exact ⟨⟨c, hc, (World.cell?_of_block (a := ⟨g, i * 2, none⟩) hg).trans c1⟩, (World.cell?_of_block (a := ⟨g, i * 2 + 1, none⟩) hg).trans c2, (World.frozen?_of_block (a := ⟨g, i * 2 + 1, none⟩) hg).trans c3,
      fun j hj => ⟨(World.cell?_of_block (a := ⟨bs i, j, none⟩) hbs).trans (c4 j hj).1, (World.frozen?_of_block (a := ⟨bs i, j, none⟩) hbs).trans (c4 j hj).2⟩⟩
theorem PMine.keep {w w' : World} {lo hi g len : Nat} {p : List Mon} (h : PMine w lo hi g len p) (hb : Below w.heap.size w w') : PMine w' lo hi g len p :=
  h.map (Nat.le_refl _) (Nat.le_refl _) (Nat.le_trans h.2.2.2.1 hb.size) (fun b _ hlt => hb.block b (by have := h.2.2.2.1; omega))
/-- What copying has done so far. -/
def CopyRel (w wr : World) (p : List Mon) (k : Nat) (xs : List Value) : Prop :=
  ∃ bs : Nat → Nat, ∀ i, i < k → w.heap.size < bs i ∧ bs i < wr.heap.size ∧ (∀ j, j < i → bs j ≠ bs i) ∧ xs[i * 2]? = some (.slice (some ⟨bs i, 0, none⟩) (p.getD i ([], 0)).1.length (p.getD i ([], 0)).1.length) ∧ xs[i * 2 + 1]? = some (.int .i64 (p.getD i ([], 0)).2) ∧
    ∀ j, j < (p.getD i ([], 0)).1.length → wr.cell? ⟨bs i, j, none⟩ = some (.int .i64 ((p.getD i ([], 0)).1.getD j 0)) ∧ wr.frozen? ⟨bs i, j, none⟩ = false
theorem copy_step {w wr w2 : World} {p : List Mon} {k len g : Nat} {xs : List Value} {x : Value} {y : Int} (hr : CopyRel w wr p k xs) (hk : k < len) (hb2 : Below wr.heap.size wr w2) (hw : w.heap.size < wr.heap.size) (how : w2.ownsRow w.heap.size 43 2 (.slice (some ⟨w.heap.size, 0, none⟩) len len) len xs) (hbr : Below w.heap.size w wr)
    (hg : wr.heap.size ≤ g ∧ g < w2.heap.size) (hc : ∀ i, i < (p.getD k ([], 0)).1.length → w2.cell? ⟨g, i, none⟩ = some (.int .i64 ((p.getD k ([], 0)).1.getD i 0)) ∧ w2.frozen? ⟨g, i, none⟩ = false)
    (hx : x = .slice (some ⟨g, 0, none⟩) (p.getD k ([], 0)).1.length (p.getD k ([], 0)).1.length) (hy : y = (p.getD k ([], 0)).2) :
    ∃ xs', ((w2.setCell ⟨w.heap.size, k * 2, none⟩ x).setCell ⟨w.heap.size, k * 2 + 1, none⟩ (.int .i64 y)).ownsRow w.heap.size 43 2 (.slice (some ⟨w.heap.size, 0, none⟩) len len) len xs' ∧ CopyRel w ((w2.setCell ⟨w.heap.size, k * 2, none⟩ x).setCell ⟨w.heap.size, k * 2 + 1, none⟩ (.int .i64 y)) p (k + 1) xs' ∧ Below w.heap.size w ((w2.setCell ⟨w.heap.size, k * 2, none⟩ x).setCell ⟨w.heap.size, k * 2 + 1, none⟩ (.int .i64 y)) := by
  have hl := how.1
  have hB : Below w.heap.size w w2 := hbr.trans (hb2.mono hbr.size)
  have hsame : ∀ b j, b ≠ w.heap.size → ((w2.setCell ⟨w.heap.size, k * 2, none⟩ x).setCell ⟨w.heap.size, k * 2 + 1, none⟩ (.int .i64 y)).cell? ⟨b, j, none⟩ = w2.cell? ⟨b, j, none⟩ ∧ ((w2.setCell ⟨w.heap.size, k * 2, none⟩ x).setCell ⟨w.heap.size, k * 2 + 1, none⟩ (.int .i64 y)).frozen? ⟨b, j, none⟩ = w2.frozen? ⟨b, j, none⟩ := fun b j hb => by
    have n1 : ∀ o, (⟨w.heap.size, o, none⟩ : Addr) ≠ ⟨b, j, none⟩ := fun o e => by injection e; omega
    exact ⟨by rw [World.cell?_setCell_other _ _ _ _ (n1 _), World.cell?_setCell_other _ _ _ _ (n1 _)], by simp [go_sem]⟩
  have hsz : ((w2.setCell ⟨w.heap.size, k * 2, none⟩ x).setCell ⟨w.heap.size, k * 2 + 1, none⟩ (.int .i64 y)).heap.size = w2.heap.size := by simp [World.setCell]
  obtain ⟨bs, hbs⟩ := hr
  refine ⟨_, ((how.stored (k * 2) x).1.stored (k * 2 + 1) (.int .i64 y)).1, ⟨fun i => if i = k then g else bs i, fun i hi => ?_⟩, (hB.setCell (Nat.le_refl _) _).setCell (Nat.le_refl _) _⟩
  rw [hsz]
  simp only [List.getElem?_set, List.length_set]
  by_cases e : i = k
  · subst e
    simp only [if_pos]
    refine ⟨by omega, by omega, fun j hj => ?_, ?_, ?_, fun j hj => ?_⟩
    · rw [if_neg (by omega)]; have := (hbs j hj).2.1; omega
    · rw [if_neg (by omega), if_pos (by omega), hx]
    · rw [if_pos (by omega), hy]
    · rw [(hsame g j (by omega)).1, (hsame g j (by omega)).2]; exact hc j hj
  · obtain ⟨h1, h2, h3, h4, h5, h6⟩ := hbs i (by omega)
    rw [if_neg e]
    refine ⟨h1, Nat.lt_of_lt_of_le h2 hb2.size, fun j hj => by rw [if_neg (by omega)]; exact h3 j hj, ?_, ?_, fun j hj => ?_⟩
    · rw [if_neg (by omega), if_neg (by omega)]; exact h4
    · rw [if_neg (by omega), if_neg (by omega)]; exact h5
    · rw [(hsame (bs i) j (by omega)).1, (hsame (bs i) j (by omega)).2, hb2.cell (p := ⟨bs i, j, none⟩) h2, hb2.frozen (p := ⟨bs i, j, none⟩) h2]; exact h6 j hj
theorem infoMono4 : (Try.prog.info? 43).map (fun i => (i.zero, i.size, i.bytes)) = some (some (.agg #[.slice none 0 0, .int .i64 0]), 2, 32) := by kernel_rfl
set_option maxHeartbeats 1600000 in
theorem copyP_mine (a : Option Addr) (len cap : Nat) (p : List Mon) (w : World) (h : PSl w a len p) (hn : len ≤ 1048576) (hp : ∀ i, i < len → (p.getD i ([], 0)).1.length ≤ 1048576) :
    Calls Try.prog 9 #[.slice a len cap] w fun e w' => e = .returned (.slice (some ⟨w.heap.size, 0, none⟩) len len) ∧ Below w.heap.size w w' ∧ PMine w' w.heap.size w'.heap.size w.heap.size len p := by
  obtain ⟨i0, hi, hz0, hz1, hz2⟩ := info_parts infoMono4
  have hsl := h
  have hlen := h.1
  clear h
  go_enter Try.func9, Try.ntmps9
  go_wp2_with (at_make; refine wpList_make_full _ rfl _ _ 25 rfl w.heap.size 43 i0 (.agg #[.slice none 0 0, .int .i64 0]) 2 Try.underlying25 hi hz0 hz1 _ _ _ _ len rfl rfl rfl rfl (by rw [hz2]; omega) (by unfold maxLen; omega) (Nat.le_refl _) ?_; intro w1 hown hgrow)
  have hb1 : Below w.heap.size w w1 := (Below.refl _ _).grown hgrow (Nat.le_refl _) (fun k hk => by cases hk)
  clear hgrow
  go_loopw [4] (fun i wr => ∃ (k : Nat) (xs : List Value), k ≤ len ∧ i = .int .i64 k ∧ wr.ownsRow w.heap.size 43 2 (.slice (some ⟨w.heap.size, 0, none⟩) len len) len xs ∧ Hid (CopyRel w wr p k xs) ∧ Below w.heap.size w wr) (fun i _ => len - (intOf i).toNat)
  case atStart => exact ⟨0, _, Nat.zero_le _, rfl, hown, ⟨fun _ => 0, fun j hj => absurd hj (Nat.not_lt_zero _)⟩, hb1⟩
  case round =>
    obtain ⟨k, xs, hk, rfl, howr, hx, hbr⟩ := hrel
    clear hown hb1
    by_cases hlt : k < len
    · obtain ⟨b, off, rfl, hbl, hc⟩ := (hsl.keep hbr).at (by omega)
      obtain ⟨ai, li, ci, c1, hli, hci, hS, c2⟩ := hc k hlt
      have hpk := hp k hlt
      obtain ⟨m, hm⟩ : ∃ m, p.getD k ([], 0) = m := ⟨_, rfl⟩
      have hl1 := hS.1
      rw [hm] at c2 hS hpk hl1
      obtain ⟨e, y⟩ := m
      simp only at c2 hS hpk hl1
      have HT := (show Hid _ from toMono_any ai li ci e y wr hS (by omega))
      have hwl := owns_lt howr
      have HM : Hid (p.getD k ([], 0) = (e, y)) := hm
      clear hc hm hS
      go_wp2_with fail
      refine Calls.mono HT.out ?_
      rintro r w2 ⟨g, rfl, hb2, hg1, hg2, hcg⟩
      have how2 := howr.kept (grown_of hb2) (.inr (by simp [Value.ownBlock]))
      have hf1 := how2.frozenAt (k * 2)
      have hf2 := how2.frozenAt (k * 2 + 1)
      have hxl : xs.length = len * 2 := howr.1
      obtain ⟨y1, hy1⟩ : ∃ y, xs[k * 2]? = some y := ⟨_, List.getElem?_eq_getElem (by omega)⟩
      obtain ⟨y2, hy2⟩ : ∃ y, xs[k * 2 + 1]? = some y := ⟨_, List.getElem?_eq_getElem (by omega)⟩
      have hcl1 := how2.cellAt (k * 2) (by omega)
      have hcl2 := how2.cellAt (k * 2 + 1) (by omega)
      rw [hy1] at hcl1
      rw [hy2] at hcl2
      have HR := (show Hid _ from copy_step (x := .slice (some ⟨g, 0, none⟩) li li) (y := y) hx.out hlt hb2 hwl how2 hbr ⟨hg1, hg2⟩ (by rw [HM.out]; simp only; rw [hl1]; exact hcg) (by rw [HM.out]; simp only; rw [hl1]) (by rw [HM.out]))
      clear hx how2 hb2 hcg hbr howr hy1 hy2 HT c1 c2 HM
      go_wp2
      go_roundw
      case rel =>
        obtain ⟨xs', r1, r2, r3⟩ := HR.out
        exact ⟨k + 1, xs', by omega, by go_num, r1, r2, r3⟩
      case measure => simp [intOf]; omega
    · go_wp2
      obtain rfl : k = len := by omega
      go_ret
      have hwl := owns_lt howr
      obtain ⟨bs, hbs⟩ := hx.out
      refine ⟨rfl, hbr, hlen, Nat.le_refl _, hwl, Nat.le_refl _, bs, fun i hi => ?_, fun i hi => ?_⟩
      · obtain ⟨h1, h2, h3, h4, h5, h6⟩ := hbs i hi
        exact ⟨by omega, h2, by omega, h3⟩
      · obtain ⟨h1, h2, h3, h4, h5, h6⟩ := hbs i hi
        exact ⟨⟨_, Nat.le_refl _, by rw [howr.cellAt (i * 2) (by omega)]; exact h4⟩, by rw [howr.cellAt (i * 2 + 1) (by omega)]; exact h5, howr.frozenAt (i * 2 + 1), h6⟩
theorem szI_any (a : Option Addr) (len cap : Nat) (n : Int) (w : World) (hn : 0 ≤ n ∧ n ≤ 1048576) (hl : len ≤ 9223372036854775807) :
    Calls Try.prog 40 #[.slice a len cap, .int .i64 n] w fun e w' => e = .returned (.int .i64 (if (len : Int) ≤ n then n - len else -1)) ∧ w' = w := by
  by_cases h : (len : Int) ≤ n
  · rw [if_pos h]
    have h1 : ¬ n - len < 0 := by omega
    go_enter Try.func40, Try.ntmps40
    go_wp2
    go_ret
    exact ⟨rfl, rfl⟩
  · rw [if_neg h]
    have h1 : n - len < 0 := by omega
    go_enter Try.func40, Try.ntmps40
    go_wp2
    go_ret
    exact ⟨rfl, rfl⟩
theorem szM_any (a : Option Addr) (len cap : Nat) (y n : Int) (w : World) (hn : 0 ≤ n ∧ n ≤ 1048576) (hl : len ≤ 9223372036854775807) :
    Calls Try.prog 22 #[.agg #[.slice a len cap, .int .i64 y], .int .i64 n] w fun e w' => e = .returned (.int .i64 (if (len : Int) ≤ n then n - len else -1)) ∧ Below w.heap.size w w' := by
  have HC : Hid (∀ W, Calls Try.prog 40 #[.slice a len cap, .int .i64 n] W fun e w' => e = .returned (.int .i64 (if (len : Int) ≤ n then n - len else -1)) ∧ w' = W) := fun W => szI_any a len cap n W hn hl
  by_cases h : (len : Int) ≤ n
  · rw [if_pos h] at HC ⊢
    have h1 : ¬ n - len < 0 := by omega
    generalize n - (len : Int) = z at HC h1 ⊢
    go_enter Try.func22, Try.ntmps22
    go_wp2_with fail
    refine Calls.mono (HC.out _) ?_
    rintro e w1 ⟨rfl, rfl⟩
    clear HC
    go_wp2
    go_ret
    exact ⟨rfl, by go_grown⟩
  · rw [if_neg h] at HC ⊢
    go_enter Try.func22, Try.ntmps22
    go_wp2_with fail
    refine Calls.mono (HC.out _) ?_
    rintro e w1 ⟨rfl, rfl⟩
    clear HC
    go_wp2
    go_ret
    exact ⟨rfl, by go_grown⟩
def lensUp (p : List Mon) (k : Nat) : Int := (((p.take k).map fun m => m.1.length).sum : Nat)
theorem lensUp_step (p : List Mon) (k : Nat) (h : k < p.length) : lensUp p (k + 1) = lensUp p k + ((p.getD k ([], 0)).1.length : Nat) := by
  have e : p.getD k ([], 0) = p[k] := by rw [List.getD_eq_getElem?_getD, List.getElem?_eq_getElem h]; rfl
  unfold lensUp
  rw [List.take_succ_eq_append_getElem h, e, List.map_append, List.sum_append]
  simp only [List.map_cons, List.map_nil, List.sum_cons, List.sum_nil]
  omega
/-- How much there is, told by what is left: below 0 if too much. -/
theorem szP_any (a : Option Addr) (len cap : Nat) (p : List Mon) (n : Int) (w : World) (h : PSl w a len p) (hn : 0 ≤ n ∧ n ≤ 1048576) (hl : len ≤ 9223372036854775807) :
    Calls Try.prog 7 #[.slice a len cap, .int .i64 n] w fun e w' => ∃ z : Int, e = .returned (.int .i64 z) ∧ Below w.heap.size w w' ∧ (z < 0 ∨ (0 ≤ z ∧ z ≤ n ∧ (len : Int) + lensUp p len + z = n)) := by
  have hll := h.1
  by_cases h0 : (len : Int) ≤ n
  · have h1 : ¬ n - len < 0 := by omega
    obtain ⟨z0, hz0⟩ : ∃ z0, n - (len : Int) = z0 := ⟨_, rfl⟩
    go_enter Try.func7, Try.ntmps7
    go_wp2_with fail
    try rw [hz0]
    try rw [hz0] at h1
    go_loopw [1, 5] (fun x i wr => ∃ (k : Nat) (z : Int), k ≤ len ∧ i = .int .i64 k ∧ x = .int .i64 z ∧ 0 ≤ z ∧ z ≤ n ∧ Hid ((len : Int) + lensUp p k + z = n) ∧ Below w.heap.size w wr) (fun _ i _ => len - (intOf i).toNat)
    case atStart => exact ⟨0, z0, Nat.zero_le _, rfl, rfl, by omega, by omega, by show _ = _; unfold lensUp; simp; omega, Below.refl _ _⟩
    case round =>
      obtain ⟨k, z, hk, rfl, rfl, hz1, hz2, HZ, hbr⟩ := hrel
      by_cases hlt : k < len
      · obtain ⟨b, off, rfl, hbl, hc⟩ := (h.keep hbr).at (by omega)
        obtain ⟨ai, li, ci, c1, hli, hci, hS, c2⟩ := hc k hlt
        have hl1 := hS.1
        have hst := lensUp_step p k (by omega)
        rw [hl1] at hst
        have HS : Hid (lensUp p (k + 1) = lensUp p k + (li : Int)) := hst
        generalize (p.getD k ([], 0)).2 = y at c2
        have HC : Hid (∀ W, Calls Try.prog 22 #[.agg #[.slice ai li ci, .int .i64 y], .int .i64 z] W fun e w' => e = .returned (.int .i64 (if (li : Int) ≤ z then z - li else -1)) ∧ Below W.heap.size W w') := fun W => szM_any ai li ci y z W ⟨hz1, by omega⟩ hli
        clear hc hS hst hl1
        by_cases hd : (li : Int) ≤ z
        · rw [if_pos hd] at HC
          have hz3 : ¬ z - li < 0 := by omega
          have HZ' : Hid ((len : Int) + lensUp p (k + 1) + (z - li) = n) := by have := HZ.out; have := HS.out; show _ = _; omega
          have hz4 : z - li ≤ n := by omega
          generalize z - (li : Int) = z' at HC hz3 HZ' hz4
          go_wp2_with fail
          refine Calls.mono (HC.out _) ?_
          rintro e w1 ⟨rfl, hb1⟩
          have hB := hbr.trans (hb1.mono hbr.size)
          clear hb1 HC
          go_wp2
          go_roundw
          case rel => exact ⟨k + 1, z', by omega, by go_num, rfl, by omega, hz4, HZ', hB⟩
          case measure => simp [intOf]; omega
        · rw [if_neg hd] at HC
          go_wp2_with fail
          refine Calls.mono (HC.out _) ?_
          rintro e w1 ⟨rfl, hb1⟩
          have hB := hbr.trans (hb1.mono hbr.size)
          clear hb1 HC
          go_wp2
          go_ret
          exact ⟨-1, rfl, hB, .inl (by omega)⟩
      · obtain rfl : k = len := by omega
        go_wp2
        go_ret
        exact ⟨z, rfl, hbr, .inr ⟨hz1, hz2, HZ.out⟩⟩
  · have h1 : n - len < 0 := by omega
    go_enter Try.func7, Try.ntmps7
    go_wp2
    go_ret
    exact ⟨-1, rfl, Below.refl _ _, .inl (by omega)⟩
theorem lens_le (p : List Mon) (len i : Nat) (hi : i < len) (hl : p.length = len) : ((p.getD i ([], 0)).1.length : Int) ≤ lensUp p len := by
  have e : p.getD i ([], 0) = p[i] := by rw [List.getD_eq_getElem?_getD, List.getElem?_eq_getElem (by omega)]; rfl
  unfold lensUp
  rw [← hl, List.take_length, e]
  have : ∀ (q : List Mon) (x : Mon), x ∈ q → x.1.length ≤ (q.map fun m => m.1.length).sum := by
    intro q
    induction q with
    | nil => intro x hx; cases hx
    | cons m q ih =>
      intro x hx
      simp only [List.map_cons, List.sum_cons]
      rcases List.mem_cons.1 hx with rfl | hx
      · omega
      · have := ih x hx; omega
  have := this p p[i] (List.getElem_mem _)
  omega
end Go.Proofs.Ytghhmallbmdoaaa
