/-
  PROVED HERE: what the laws' own copying and comparing of graphs answers: that the same graphs are the same, at every list of at most a million. No other condition. what the laws' own marking of graphs does, at every graph in memory of its own. No other condition.
-/
import Derived.Test.YtmbggaepckgogaaDoorRun32
import Derived.Test.YtmbggaepckgogaaDoorRun12
import Derived.Test.YtmbggaepckgogaaDoorRun30
namespace Go.Proofs.YtmbggaepckgogaaDoor
open Go.ChangeShapes Go.WideShapes Go.ChangeAt Go.RowKit
set_option linter.unusedVariables false

set_option maxHeartbeats 800000 in
theorem copyG_any (a b : Option Addr) (len cap lb cb : Nat) (p : List EN) (l : List Int) (w : World) (h : ESl w a len p) (hl : Sl w b lb l) (hn : len ≤ 1048576) (hp : ∀ i, i < len → (p.getD i e0).2.2.length ≤ 1048576) (hn2 : lb ≤ 1048576) :
    Calls Tryd.prog 8 #[.agg #[.slice a len cap, .slice b lb cb]] w fun e w' => ∃ g gp hi, e = .returned (.agg #[.slice (some ⟨g, 0, none⟩) len len, .slice (some ⟨gp, 0, none⟩) lb lb]) ∧ Below w.heap.size w w' ∧ w.heap.size ≤ g ∧ EMine w' g hi g len p ∧ hi ≤ gp ∧ MineI w' gp lb ∧ Sl w' (some ⟨gp, 0, none⟩) lb l := by
  obtain ⟨W1, hW1⟩ : ∃ W1, ((w.alloc (.cells #[.slice a len cap, .slice b lb cb] 25)).alloc (.cells #[.slice none 0 0, .slice none 0 0] 31)).alloc (.cells #[.slice none 0 0, .slice none 0 0] 31) = W1 := ⟨_, rfl⟩
  have hb1 : Below w.heap.size w W1 := by rw [← hW1]; exact (((Below.refl _ _).alloc (Nat.le_refl _) _).alloc (by simp) _).alloc (by simp; omega) _
  have hsz : W1.heap.size = w.heap.size + 3 := by rw [← hW1]; simp
  have n0 : W1.cell? ⟨w.heap.size, 0, none⟩ = some (.slice a len cap) := by rw [← hW1]; simp [go_sem]
  have n1 : W1.cell? ⟨w.heap.size, 1, none⟩ = some (.slice b lb cb) := by rw [← hW1]; simp [go_sem]
  have m0 : W1.cell? ⟨w.heap.size + 1, 0, none⟩ = some (.slice none 0 0) := by rw [← hW1]; simp [go_sem]
  have m1 : W1.cell? ⟨w.heap.size + 1, 1, none⟩ = some (.slice none 0 0) := by rw [← hW1]; simp [go_sem]
  have o0 : W1.cell? ⟨w.heap.size + 1 + 1, 0, none⟩ = some (.slice none 0 0) := by rw [← hW1]; simp [go_sem]
  have o1 : W1.cell? ⟨w.heap.size + 1 + 1, 1, none⟩ = some (.slice none 0 0) := by rw [← hW1]; simp [go_sem]
  have f0 : W1.frozen? ⟨w.heap.size + 1, 0, none⟩ = false := by rw [← hW1]; simp [go_sem]
  have f1 : W1.frozen? ⟨w.heap.size + 1, 1, none⟩ = false := by rw [← hW1]; simp [go_sem]
  have f2 : W1.frozen? ⟨w.heap.size + 1 + 1, 0, none⟩ = false := by rw [← hW1]; simp [go_sem]
  have f3 : W1.frozen? ⟨w.heap.size + 1 + 1, 1, none⟩ = false := by rw [← hW1]; simp [go_sem]
  have HC := (show Hid _ from copyE_mine a len cap p W1 (h.keep hb1) hn hp)
  have HI : Hid (∀ W, Below w.heap.size w W → Calls Tryd.prog 28 #[.slice b lb cb] W fun e w' => e = .returned (.slice (some ⟨W.heap.size, 0, none⟩) lb lb) ∧ Below W.heap.size W w' ∧ Sl w' (some ⟨W.heap.size, 0, none⟩) lb l ∧ MineI w' W.heap.size lb) := fun W hW => copyI_mine b lb cb l W (hl.keep hW) hn2
  clear h hl
  go_enter Tryd.func8, Tryd.ntmps8
  go_wp2_with fail
  (try rw [hW1])
  refine Calls.mono HC.out ?_
  rintro e w2 ⟨rfl, hb2, hE2⟩
  have lt1 : w.heap.size < W1.heap.size := by omega
  have lt2 : w.heap.size + 1 < W1.heap.size := by omega
  have lt3 : w.heap.size + 1 + 1 < W1.heap.size := by omega
  have q1 := (hb2.cell (p := ⟨w.heap.size, 1, none⟩) lt1).trans n1
  have q2 := (hb2.cell (p := ⟨w.heap.size + 1, 0, none⟩) lt2).trans m0
  have q3 := (hb2.cell (p := ⟨w.heap.size + 1, 1, none⟩) lt2).trans m1
  have q4 := (hb2.cell (p := ⟨w.heap.size + 1 + 1, 0, none⟩) lt3).trans o0
  have q5 := (hb2.cell (p := ⟨w.heap.size + 1 + 1, 1, none⟩) lt3).trans o1
  have r2 := (hb2.frozen (p := ⟨w.heap.size + 1, 0, none⟩) lt2).trans f0
  have r3 := (hb2.frozen (p := ⟨w.heap.size + 1, 1, none⟩) lt2).trans f1
  have r4 := (hb2.frozen (p := ⟨w.heap.size + 1 + 1, 0, none⟩) lt3).trans f2
  have r5 := (hb2.frozen (p := ⟨w.heap.size + 1 + 1, 1, none⟩) lt3).trans f3
  have hB2 : Below w.heap.size w w2 := hb1.trans (hb2.mono hb1.size)
  have hg2 : W1.heap.size < w2.heap.size := hE2.2.2.1
  obtain ⟨g, hg⟩ : ∃ g, W1.heap.size = g := ⟨_, rfl⟩
  rw [hg] at hE2 hg2 lt1 lt2 lt3 ⊢
  clear hb2 HC hb1 n0 n1 m0 m1 o0 o1 f0 f1 f2 f3 hW1 hsz hg
  obtain ⟨W3, hW3⟩ : ∃ W3, w2.setCell ⟨w.heap.size + 1 + 1, 0, none⟩ (.slice (some ⟨g, 0, none⟩) len len) = W3 := ⟨_, rfl⟩
  have hB3 : Below w.heap.size w W3 := by rw [← hW3]; exact hB2.setCell (by show w.heap.size ≤ w.heap.size + 1 + 1; omega) _
  have hs3 : W3.heap.size = w2.heap.size := by rw [← hW3]; simp [World.setCell]
  have hE3 : EMine W3 g w2.heap.size g len p := hE2.map (Nat.le_refl _) (Nat.le_refl _) (by omega) (fun b h1 h2 => by rw [← hW3]; exact Below.heap_setCell _ _ _ _ (by show b ≠ w.heap.size + 1 + 1; omega))
  have l0 : w.heap.size < W3.heap.size := by omega
  have l1 : w.heap.size + 1 < W3.heap.size := by omega
  have l2 : w.heap.size + 1 + 1 < W3.heap.size := by omega
  have s1 : W3.cell? ⟨w.heap.size, 1, none⟩ = some (.slice b lb cb) := by rw [← hW3]; simp [go_sem, q1]
  have s2 : W3.cell? ⟨w.heap.size + 1, 0, none⟩ = some (.slice none 0 0) := by rw [← hW3]; simp [go_sem, q2]
  have s3 : W3.cell? ⟨w.heap.size + 1, 1, none⟩ = some (.slice none 0 0) := by rw [← hW3]; simp [go_sem, q3]
  have s4 : W3.cell? ⟨w.heap.size + 1 + 1, 0, none⟩ = some (.slice (some ⟨g, 0, none⟩) len len) := by rw [← hW3]; simp [go_sem, q4]
  have s5 : W3.cell? ⟨w.heap.size + 1 + 1, 1, none⟩ = some (.slice none 0 0) := by rw [← hW3]; simp [go_sem, q5]
  have u2 : W3.frozen? ⟨w.heap.size + 1, 0, none⟩ = false := by rw [← hW3]; simpa [go_sem] using r2
  have u3 : W3.frozen? ⟨w.heap.size + 1, 1, none⟩ = false := by rw [← hW3]; simpa [go_sem] using r3
  have u5 : W3.frozen? ⟨w.heap.size + 1 + 1, 1, none⟩ = false := by rw [← hW3]; simpa [go_sem] using r5
  have HE3 : Hid (EMine W3 g w2.heap.size g len p) := hE3
  have HB3 := (show Hid _ from hB3)
  have HI3 := (show Hid _ from HI.out W3 hB3)
  clear hE2 hB2 hE3 hB3 HI
  go_wp2_with fail
  (try rw [hW3])
  refine Calls.mono HI3.out ?_
  rintro e w4 ⟨rfl, hb4, hs4, hm4⟩
  have a2 := (hb4.cell (p := ⟨w.heap.size + 1, 0, none⟩) l1).trans s2
  have a3 := (hb4.cell (p := ⟨w.heap.size + 1, 1, none⟩) l1).trans s3
  have a4 := (hb4.cell (p := ⟨w.heap.size + 1 + 1, 0, none⟩) l2).trans s4
  have a5 := (hb4.cell (p := ⟨w.heap.size + 1 + 1, 1, none⟩) l2).trans s5
  have b2 := (hb4.frozen (p := ⟨w.heap.size + 1, 0, none⟩) l1).trans u2
  have b3 := (hb4.frozen (p := ⟨w.heap.size + 1, 1, none⟩) l1).trans u3
  have b5 := (hb4.frozen (p := ⟨w.heap.size + 1 + 1, 1, none⟩) l2).trans u5
  have HX : Hid (Below w.heap.size w w4 ∧ EMine w4 g w2.heap.size g len p ∧ Sl w4 (some ⟨W3.heap.size, 0, none⟩) lb l ∧ MineI w4 W3.heap.size lb) := ⟨HB3.out.trans (hb4.mono HB3.out.size), HE3.out.keep hb4, hs4, hm4⟩
  have hgp : w2.heap.size ≤ W3.heap.size := by omega
  obtain ⟨gp, hgp'⟩ : ∃ gp, W3.heap.size = gp := ⟨_, rfl⟩
  rw [hgp'] at HX hgp ⊢
  clear hb4 hs4 hm4 HE3 HB3 HI3 hW3 s1 s2 s3 s4 s5 u2 u3 u5 q1 q2 q3 q4 q5 r2 r3 r4 r5 l0 l1 l2 hs3 hgp'
  have HP : Hid (∀ v1 v2 v3 : Value, ∀ w5, ((w4.setCell ⟨w.heap.size + 1 + 1, 1, none⟩ v1).setCell ⟨w.heap.size + 1, 0, none⟩ v2).setCell ⟨w.heap.size + 1, 1, none⟩ v3 = w5 → Below w.heap.size w w5 ∧ EMine w5 g w2.heap.size g len p ∧ MineI w5 gp lb ∧ Sl w5 (some ⟨gp, 0, none⟩) lb l) := fun v1 v2 v3 w5 h5 => by
    obtain ⟨x1, x2, x3, x4⟩ := HX.out
    have hs5 : w5.heap.size = w4.heap.size := by rw [← h5]; simp [World.setCell]
    have hblk : ∀ b, g ≤ b → w5.heap[b]? = w4.heap[b]? := fun b hb => by
      rw [← h5, Below.heap_setCell _ _ _ _ (by show b ≠ w.heap.size + 1; omega), Below.heap_setCell _ _ _ _ (by show b ≠ w.heap.size + 1; omega), Below.heap_setCell _ _ _ _ (by show b ≠ w.heap.size + 1 + 1; omega)]
    have hx2 := x2.2.2.2.1
    have hgg := x2.2.2.1
    refine ⟨?_, x2.map (Nat.le_refl _) (Nat.le_refl _) (by omega) (fun b h1 _ => hblk b h1), ⟨by have := x4.1; omega, fun i hi => ?_⟩, x3.1, .inr ⟨gp, 0, rfl, by have := x4.1; omega, fun i hi => ?_⟩⟩
    · rw [← h5]; exact ((x1.setCell (by show w.heap.size ≤ w.heap.size + 1 + 1; omega) _).setCell (by show w.heap.size ≤ w.heap.size + 1; omega) _).setCell (by show w.heap.size ≤ w.heap.size + 1; omega) _
    · obtain ⟨⟨v, hv⟩, hf⟩ := x4.2 i hi
      exact ⟨⟨v, (World.cell?_of_block (a := ⟨gp, i, none⟩) (hblk gp (by omega))).trans hv⟩, (World.frozen?_of_block (a := ⟨gp, i, none⟩) (hblk gp (by omega))).trans hf⟩
    · rcases x3.2 with h0 | ⟨b', off, e, _, hc⟩
      · omega
      · cases e
        exact (World.cell?_of_block (a := ⟨gp, 0 + i, none⟩) (hblk gp (by omega))).trans (hc i hi)
  go_wp2
  refine bodyPost_ret (v := .agg #[.slice (some ⟨g, 0, none⟩) len len, .slice (some ⟨gp, 0, none⟩) lb lb]) (by simp [results, Tryd.results8, go_sem, *]) rfl ⟨g, gp, w2.heap.size, rfl, ?_⟩
  obtain ⟨x1, x2, x3, x4⟩ := HP.out _ _ _ _ rfl
  exact ⟨x1, by omega, x2, hgp, x3, x4⟩
theorem eqE_same (op n : Int) (a b : Option Addr) (len cap cap' : Nat) (l : List Int) (w : World) (h : Sl w a len l) (h' : Sl w b len l) (hn : len ≤ 1048576) :
    Calls Tryd.prog 56 #[.agg #[.int .i64 op, .int .i64 n, .slice a len cap], .agg #[.int .i64 op, .int .i64 n, .slice b len cap']] w fun e w' => e = .returned (.bool true) ∧ Below w.heap.size w w' := by
  obtain ⟨W1, hW1⟩ : ∃ W1, (w.alloc (.cells #[.int .i64 op, .int .i64 n, .slice a len cap] 74)).alloc (.cells #[.int .i64 op, .int .i64 n, .slice b len cap'] 74) = W1 := ⟨_, rfl⟩
  have hb1 : Below w.heap.size w W1 := by rw [← hW1]; exact ((Below.refl _ _).alloc (Nat.le_refl _) _).alloc (by simp) _
  have n0 : W1.cell? ⟨w.heap.size, 0, none⟩ = some (.int .i64 op) := by rw [← hW1]; simp [go_sem]
  have n1 : W1.cell? ⟨w.heap.size, 1, none⟩ = some (.int .i64 n) := by rw [← hW1]; simp [go_sem]
  have n2 : W1.cell? ⟨w.heap.size, 2, none⟩ = some (.slice a len cap) := by rw [← hW1]; simp [go_sem]
  have m0 : W1.cell? ⟨w.heap.size + 1, 0, none⟩ = some (.int .i64 op) := by rw [← hW1]; simp [go_sem]
  have m1 : W1.cell? ⟨w.heap.size + 1, 1, none⟩ = some (.int .i64 n) := by rw [← hW1]; simp [go_sem]
  have m2 : W1.cell? ⟨w.heap.size + 1, 2, none⟩ = some (.slice b len cap') := by rw [← hW1]; simp [go_sem]
  have HE := (show Hid _ from eqI_same a b len cap cap' l W1 (h.keep hb1) (h'.keep hb1) hn)
  have HB := (show Hid _ from hb1)
  have i1 : (op != op) = false := by simp
  have i2 : (n != n) = false := by simp
  clear h h' hb1
  go_enter Tryd.func56, Tryd.ntmps56
  go_wp2_with fail
  (try rw [hW1])
  refine Calls.mono HE.out ?_
  rintro e w2 ⟨rfl, hb2⟩
  have HB2 : Hid (Below w.heap.size w w2) := HB.out.trans (hb2.mono HB.out.size)
  clear HE hb2 hW1
  go_wp2
  go_ret
  exact ⟨rfl, HB2.out⟩
set_option maxHeartbeats 1600000 in
set_option maxRecDepth 20000 in
theorem eqES_same (a b : Option Addr) (len cap cap' : Nat) (p : List EN) (w : World) (h : ESl w a len p) (h' : ESl w b len p) (hn : len ≤ 1048576) (hp : ∀ i, i < len → (p.getD i e0).2.2.length ≤ 1048576) :
    Calls Tryd.prog 32 #[.slice a len cap, .slice b len cap'] w fun e w' => e = .returned (.bool true) ∧ Below w.heap.size w w' := by
  have hne : ((len : Int) != len) = false := by simp
  have HS : Hid (ESl w a len p ∧ ESl w b len p) := ⟨h, h'⟩
  have HP := (show Hid _ from hp)
  clear h h' hp
  go_enter Tryd.func32, Tryd.ntmps32
  go_wp2_with fail
  go_loopw [5] (fun i wr => ∃ (k : Nat), k ≤ len ∧ i = .int .i64 k ∧ Below w.heap.size w wr) (fun i _ => len - (intOf i).toNat)
  case atStart => exact ⟨0, Nat.zero_le _, rfl, Below.refl _ _⟩
  case round =>
    obtain ⟨k, hk, rfl, hbr⟩ := hrel
    by_cases hlt : k < len
    · obtain ⟨bn, on, rfl, hbl, hc⟩ := (HS.out.1.keep hbr).at (by omega)
      obtain ⟨ai, li, ci, c1, c2, c3, hli, hci, hS⟩ := hc k hlt
      obtain ⟨bm, om, rfl, hbm, hd⟩ := (HS.out.2.keep hbr).at (by omega)
      obtain ⟨aj, lj, cj, d1, d2, d3, hlj, hcj, hS'⟩ := hd k hlt
      have hpk := HP.out k hlt
      obtain ⟨m, hm⟩ : ∃ m, p.getD k e0 = m := ⟨_, rfl⟩
      obtain ⟨xo, xn, xk⟩ := m
      rw [hm] at c1 c2 d1 d2 hS hS' hpk
      simp only at c1 c2 d1 d2 hS hS' hpk
      obtain rfl : li = lj := by rw [← hS.1, ← hS'.1]
      have hl1 := hS.1
      have hlt' : (k : Int) < len := by omega
      have g0 : ∀ x : Ahead wr, x.w.cell? ⟨bn, on + k * 3, none⟩ = some (.int .i64 xo) := fun x => (x.h.cell (p := ⟨bn, on + k * 3, none⟩) hbl).trans c1
      have g1 : ∀ x : Ahead wr, x.w.cell? ⟨bn, on + k * 3 + 1, none⟩ = some (.int .i64 xn) := fun x => (x.h.cell (p := ⟨bn, on + k * 3 + 1, none⟩) hbl).trans c2
      have g2 : ∀ x : Ahead wr, x.w.cell? ⟨bn, on + k * 3 + 2, none⟩ = some (.slice ai li ci) := fun x => (x.h.cell (p := ⟨bn, on + k * 3 + 2, none⟩) hbl).trans c3
      have g3 : ∀ x : Ahead wr, x.w.cell? ⟨bm, om + k * 3, none⟩ = some (.int .i64 xo) := fun x => (x.h.cell (p := ⟨bm, om + k * 3, none⟩) hbm).trans d1
      have g4 : ∀ x : Ahead wr, x.w.cell? ⟨bm, om + k * 3 + 1, none⟩ = some (.int .i64 xn) := fun x => (x.h.cell (p := ⟨bm, om + k * 3 + 1, none⟩) hbm).trans d2
      have g5 : ∀ x : Ahead wr, x.w.cell? ⟨bm, om + k * 3 + 2, none⟩ = some (.slice aj li cj) := fun x => (x.h.cell (p := ⟨bm, om + k * 3 + 2, none⟩) hbm).trans d3
      have HA : Hid (∀ x : Ahead wr, Calls Tryd.prog 56 #[.agg #[.int .i64 xo, .int .i64 xn, .slice ai li ci], .agg #[.int .i64 xo, .int .i64 xn, .slice aj li cj]] x.w fun e w' => e = .returned (.bool true) ∧ Below x.w.heap.size x.w w') := fun x => eqE_same xo xn ai aj li ci cj xk x.w (hS.keep x.h) (hS'.keep x.h) (by omega)
      have HFx : Hid (∀ x : Ahead wr, Below w.heap.size w x.w) := fun x => hbr.trans (x.h.mono hbr.size)
      clear hc hd hS hS' c1 c2 c3 d1 d2 d3 hm hpk hbr
      go_wp2_with fail
      have hne' := ahead_some wr
      refine wp_region_ahead (by kernel_rfl) (by kernel_rfl) ?_
      repeat (first
        | go_big_quiet_skip
        | (go_big_quiet_want; go_big_quiet_op; first | go_big_quiet_on | (apply Exists.intro; refine ⟨fun x => ?_, ?_⟩; (focus (exact ahead_of (HA.out x))); go_big_quiet_on)))
      refine wpQuiet_nil ?_
      intro _ hw'
      obtain ⟨xq, rfl⟩ := hw'
      go_wp2
      exact ⟨⟨k + 1, by omega, by go_num, HFx.out xq⟩, by simp [intOf]; omega⟩
    · go_wp2
      go_ret
      exact ⟨rfl, hbr⟩
theorem eqG_same (a b a' b' : Option Addr) (len cap cap' lb cb cb' : Nat) (p : List EN) (l : List Int) (w : World) (h : ESl w a len p) (h' : ESl w a' len p) (hl : Sl w b lb l) (hl' : Sl w b' lb l) (hn : len ≤ 1048576) (hp : ∀ i, i < len → (p.getD i e0).2.2.length ≤ 1048576) (hn2 : lb ≤ 1048576) :
    Calls Tryd.prog 11 #[.agg #[.slice a len cap, .slice b lb cb], .agg #[.slice a' len cap', .slice b' lb cb']] w fun e w' => e = .returned (.bool true) ∧ Below w.heap.size w w' := by
  obtain ⟨W1, hW1⟩ : ∃ W1, (w.alloc (.cells #[.slice a len cap, .slice b lb cb] 31)).alloc (.cells #[.slice a' len cap', .slice b' lb cb'] 31) = W1 := ⟨_, rfl⟩
  have hb1 : Below w.heap.size w W1 := by rw [← hW1]; exact ((Below.refl _ _).alloc (Nat.le_refl _) _).alloc (by simp) _
  have hsz : W1.heap.size = w.heap.size + 2 := by rw [← hW1]; simp
  have n0 : W1.cell? ⟨w.heap.size, 0, none⟩ = some (.slice a len cap) := by rw [← hW1]; simp [go_sem]
  have n1 : W1.cell? ⟨w.heap.size, 1, none⟩ = some (.slice b lb cb) := by rw [← hW1]; simp [go_sem]
  have m0 : W1.cell? ⟨w.heap.size + 1, 0, none⟩ = some (.slice a' len cap') := by rw [← hW1]; simp [go_sem]
  have m1 : W1.cell? ⟨w.heap.size + 1, 1, none⟩ = some (.slice b' lb cb') := by rw [← hW1]; simp [go_sem]
  have lt0 : w.heap.size < W1.heap.size := by omega
  have lt1 : w.heap.size + 1 < W1.heap.size := by omega
  have HE := (show Hid _ from eqES_same a a' len cap cap' p W1 (h.keep hb1) (h'.keep hb1) hn hp)
  have HI : Hid (∀ W, Below W1.heap.size W1 W → Calls Tryd.prog 10 #[.slice b lb cb, .slice b' lb cb'] W fun e w' => e = .returned (.bool true) ∧ Below W.heap.size W w') := fun W hW => eqI_same b b' lb cb cb' l W ((hl.keep hb1).keep hW) ((hl'.keep hb1).keep hW) hn2
  have HF : Hid (∀ W, Below W1.heap.size W1 W → Below w.heap.size w W) := fun W hW => hb1.trans (hW.mono hb1.size)
  clear h h' hl hl' hb1 hsz
  go_enter Tryd.func11, Tryd.ntmps11
  go_wp2_with fail
  (try rw [hW1])
  refine Calls.mono HE.out ?_
  rintro e w2 ⟨rfl, hb2⟩
  have q1 := (hb2.cell (p := ⟨w.heap.size, 1, none⟩) lt0).trans n1
  have q2 := (hb2.cell (p := ⟨w.heap.size + 1, 1, none⟩) lt1).trans m1
  have HI2 := (show Hid _ from HI.out w2 hb2)
  clear HE hW1 HI
  go_wp2_with fail
  refine Calls.mono HI2.out ?_
  rintro e w3 ⟨rfl, hb3⟩
  have HB3 : Hid (Below w.heap.size w w3) := HF.out _ (hb2.trans (hb3.mono hb2.size))
  clear HI2 hb2 hb3
  go_wp2
  go_ret
  exact ⟨rfl, HB3.out⟩
end Go.Proofs.YtmbggaepckgogaaDoor
namespace Go.Proofs.YtmbggaepckgogaaDoor
open Go.ChangeShapes Go.WideShapes Go.ChangeAt Go.RowKit
set_option linter.unusedVariables false

/-- Only blocks from lo to hi may be other ones. -/
def TurnE (lo hi : Nat) (w w' : World) : Prop := w'.os = w.os ∧ w'.tape = w.tape ∧ w'.output = w.output ∧ w.heap.size ≤ w'.heap.size ∧ ∀ b, b < w.heap.size → (b < lo ∨ hi ≤ b) → w'.heap[b]? = w.heap[b]?
theorem TurnE.refl (lo hi : Nat) (w : World) : TurnE lo hi w w := ⟨rfl, rfl, rfl, Nat.le_refl _, fun _ _ _ => rfl⟩
theorem TurnE.trans {lo hi : Nat} {w w' w'' : World} (h : TurnE lo hi w w') (h' : TurnE lo hi w' w'') : TurnE lo hi w w'' := by
  obtain ⟨a1, a2, a3, a4, a5⟩ := h
  obtain ⟨b1, b2, b3, b4, b5⟩ := h'
  exact ⟨b1.trans a1, b2.trans a2, b3.trans a3, Nat.le_trans a4 b4, fun b hb hk => (b5 b (by omega) hk).trans (a5 b hb hk)⟩
theorem TurnE.below {lo hi : Nat} {w w' : World} (h : TurnE lo hi w w') (hl : lo ≤ w.heap.size) : Below lo w w' := by
  obtain ⟨a1, a2, a3, a4, a5⟩ := h
  exact ⟨a1, a2, a3, a4, fun b hb => a5 b (by omega) (.inl hb)⟩
theorem TurnE.of_grown {lo hi r : Nat} {w w' : World} (h : w.grownBy w' (some r)) (h1 : lo ≤ r) (h2 : r < hi) : TurnE lo hi w w' :=
  ⟨h.os, h.tape, h.output, h.size, fun b hb hk => h.block b hb (by intro e; have := Option.some.inj e; omega)⟩
theorem TurnE.of_below {lo hi : Nat} {w w' : World} (h : Below w.heap.size w w') : TurnE lo hi w w' :=
  ⟨h.os, h.tape, h.output, h.size, fun b hb _ => h.block b hb⟩
theorem TurnE.wide {lo hi lo' hi' : Nat} {w w' : World} (h : TurnE lo hi w w') (h1 : lo' ≤ lo) (h2 : hi ≤ hi') : TurnE lo' hi' w w' := by
  obtain ⟨a1, a2, a3, a4, a5⟩ := h
  exact ⟨a1, a2, a3, a4, fun b hb hk => a5 b hb (by omega)⟩
theorem row_turn {w w' : World} {base e size n : Nat} {v : Value} {xs : List Value} (h : w.ownsRow base e size v n xs) (hs : w.heap.size ≤ w'.heap.size) (hk : ∀ x, v.ownBlock = some x → w'.heap[x]? = w.heap[x]?) : w'.ownsRow base e size v n xs := by
  refine ⟨h.1, ?_⟩
  rcases h.2 with h0 | ⟨g, cap, cur, rfl, hb, hg, r⟩
  · exact .inl h0
  · exact .inr ⟨g, cap, cur, rfl, hb, (hk g rfl).trans hg, r⟩
/-- Where the marks of a node begin. -/
def stE (k : Nat) (p : List EN) (i : Nat) : Nat := k + ((p.take i).map fun m => m.2.2.length).sum + 2 * i
theorem stE_step (k : Nat) (p : List EN) (i : Nat) (h : i < p.length) : stE k p (i + 1) = stE k p i + 2 + (p.getD i e0).2.2.length := by
  unfold stE
  rw [List.take_succ_eq_append_getElem h, getDE_lt h, List.map_append, List.sum_append]
  simp only [List.map_cons, List.map_nil, List.sum_cons, List.sum_nil]
  omega
theorem stE_mono (k : Nat) (p : List EN) : ∀ i, i ≤ p.length → stE k p i ≤ stE k p p.length := by
  intro i hi
  have : ∀ d, i + d ≤ p.length → stE k p i ≤ stE k p (i + d) := by
    intro d
    induction d with
    | zero => intro _; exact Nat.le_refl _
    | succ d ih => intro hd; have := ih (by omega); have := stE_step k p (i + d) (by omega); rw [← Nat.add_assoc]; omega
  have := this (p.length - i) (by omega)
  rwa [show i + (p.length - i) = p.length from by omega] at this
/-- What marking leaves. -/
def marksE (k : Nat) (p : List EN) : List EN := (List.range p.length).map fun i => (((stE k p i : Nat) : Int), ((stE k p i + 1 : Nat) : Int), marksI (stE k p i + 2) (p.getD i e0).2.2.length)
theorem marksE_len (k : Nat) (p : List EN) : (marksE k p).length = p.length := by simp [marksE]
theorem marksE_get (k : Nat) (p : List EN) (i : Nat) (h : i < p.length) : (marksE k p).getD i e0 = (((stE k p i : Nat) : Int), ((stE k p i + 1 : Nat) : Int), marksI (stE k p i + 2) (p.getD i e0).2.2.length) := by
  simp [marksE, List.getD_eq_getElem?_getD, h]
theorem szK_sum : ∀ (p : List EN) (n : Int), 0 ≤ n → 0 ≤ szK n p → (((p.map fun m => m.2.2.length).sum : Nat) : Int) = n - szK n p := by
  intro p
  induction p with
  | nil => intro n h0 _; simp [szK]
  | cons x r ih =>
    intro n h0 h
    unfold szK at h ⊢
    rcases szV_cases n x.2.2.length h0 (by omega) with ⟨e1, e2⟩ | ⟨e1, e2, e3⟩
    · rw [if_pos (by omega)] at h; omega
    · rw [if_neg (by omega)] at h ⊢
      have := ih _ e1 h
      simp only [List.map_cons, List.sum_cons]
      omega
/-- What weighing lets through has few marks. -/
theorem szG_marks (p : List EN) (l : List Int) (h : 0 ≤ szG 1048576 p l) : stE 1 p p.length + l.length ≤ 3145729 := by
  unfold szG at h
  rcases szL_range 1048576 p (by omega) with e | e
  · rw [if_pos (by omega)] at h; omega
  · rw [if_neg (by omega)] at h
    rcases szV_cases (szL 1048576 p) l.length e (by omega) with ⟨e1, e2⟩ | ⟨e1, e2, e3⟩
    · omega
    · unfold szL at e e3
      rcases szV_cases 1048576 p.length (by omega) (by omega) with ⟨f1, f2⟩ | ⟨f1, f2, f3⟩
      · rw [if_pos (by omega)] at e; omega
      · rw [if_neg (by omega)] at e e3
        have hs := szK_sum p _ f1 e
        unfold stE
        rw [List.take_length]
        omega
/-- What has been marked so far. -/
def MarkE (w wr : World) (lo hi g len : Nat) (bs : Nat → Nat) (p : List EN) (k j : Nat) : Prop :=
  TurnE lo hi w wr ∧ (∀ i, i < len → ∃ c, (p.getD i e0).2.2.length ≤ c ∧ wr.cell? ⟨g, i * 3 + 2, none⟩ = some (.slice (some ⟨bs i, 0, none⟩) (p.getD i e0).2.2.length c)) ∧
  (∀ i, i < j → wr.cell? ⟨g, i * 3, none⟩ = some (.int .i64 ((stE k p i : Nat) : Int)) ∧ wr.cell? ⟨g, i * 3 + 1, none⟩ = some (.int .i64 ((stE k p i + 1 : Nat) : Int)) ∧ Sl wr (some ⟨bs i, 0, none⟩) (p.getD i e0).2.2.length (marksI (stE k p i + 2) (p.getD i e0).2.2.length)) ∧
  (∀ i, j ≤ i → i < len → (∃ v, wr.cell? ⟨g, i * 3, none⟩ = some v) ∧ wr.frozen? ⟨g, i * 3, none⟩ = false ∧ (∃ v, wr.cell? ⟨g, i * 3 + 1, none⟩ = some v) ∧ wr.frozen? ⟨g, i * 3 + 1, none⟩ = false ∧ MineI wr (bs i) (p.getD i e0).2.2.length)
theorem slE_block {w w' : World} {b off len : Nat} {l : List Int} (h : Sl w (some ⟨b, off, none⟩) len l) (hs : w.heap.size ≤ w'.heap.size) (hb : w'.heap[b]? = w.heap[b]?) : Sl w' (some ⟨b, off, none⟩) len l := by
  refine ⟨h.1, ?_⟩
  rcases h.2 with h0 | ⟨b', off', e, hlt, hc⟩
  · exact .inl h0
  · cases e
    exact .inr ⟨b, off, rfl, Nat.lt_of_lt_of_le hlt hs, fun i hi => (World.cell?_of_block (a := ⟨b, off + i, none⟩) hb).trans (hc i hi)⟩
theorem mineE_block {w w' : World} {b len : Nat} (h : MineI w b len) (hs : w.heap.size ≤ w'.heap.size) (hb : w'.heap[b]? = w.heap[b]?) : MineI w' b len := by
  refine ⟨Nat.lt_of_lt_of_le h.1 hs, fun i hi => ?_⟩
  obtain ⟨⟨v, hv⟩, hf⟩ := h.2 i hi
  exact ⟨⟨v, (World.cell?_of_block (a := ⟨b, i, none⟩) hb).trans hv⟩, (World.frozen?_of_block (a := ⟨b, i, none⟩) hb).trans hf⟩
/-- The two numbers of a node, marked. -/
theorem mark_head {w wr : World} {lo hi g len j k : Nat} {bs : Nat → Nat} {p : List EN} (h : MarkE w wr lo hi g len bs p k j) (hj : j < len) (hbs : ∀ i, i < len → lo ≤ bs i ∧ bs i < hi ∧ bs i ≠ g ∧ ∀ t, t < i → bs t ≠ bs i) (hg : lo ≤ g ∧ g < hi) {x y : Int} {W2 : World}
    (hW : (wr.setCell ⟨g, j * 3, none⟩ (.int .i64 x)).setCell ⟨g, j * 3 + 1, none⟩ (.int .i64 y) = W2) :
    TurnE lo hi w W2 ∧ W2.heap.size = wr.heap.size ∧ W2.cell? ⟨g, j * 3, none⟩ = some (.int .i64 x) ∧ W2.cell? ⟨g, j * 3 + 1, none⟩ = some (.int .i64 y) ∧ (∀ o, o ≠ j * 3 → o ≠ j * 3 + 1 → W2.cell? ⟨g, o, none⟩ = wr.cell? ⟨g, o, none⟩) ∧ (∀ o, W2.frozen? ⟨g, o, none⟩ = wr.frozen? ⟨g, o, none⟩) ∧ ∀ b, b ≠ g → W2.heap[b]? = wr.heap[b]? := by
  obtain ⟨⟨v, hv⟩, hf, ⟨u, hu⟩, hfu, hmine⟩ := h.2.2.2 j (Nat.le_refl _) hj
  obtain ⟨t1, t2, t3⟩ := one_set wr g (j * 3) (.int .i64 x) ⟨v, hv⟩
  obtain ⟨s1, s2, s3⟩ := one_set (wr.setCell ⟨g, j * 3, none⟩ (.int .i64 x)) g (j * 3 + 1) (.int .i64 y) ⟨u, (t2 _ (by omega)).trans hu⟩
  rw [hW] at s1 s2 s3
  have hoth : ∀ b, b ≠ g → W2.heap[b]? = wr.heap[b]? := fun b hb => by
    rw [← hW, Below.heap_setCell _ _ _ _ hb, Below.heap_setCell _ _ _ _ hb]
  have hsz : W2.heap.size = wr.heap.size := by rw [← hW]; simp [World.setCell]
  refine ⟨h.1.trans ⟨by rw [← hW]; rfl, by rw [← hW]; rfl, by rw [← hW]; rfl, by omega, fun b _ hk => hoth b (by omega)⟩, hsz, (s2 _ (by omega)).trans t1, s1, fun o h1 h2 => (s2 o h2).trans (t2 o h1), fun o => ?_, hoth⟩
  rw [← hW]; simp [go_sem]
theorem mark_stepE {w wr W2 w3 : World} {lo hi g len j k : Nat} {bs : Nat → Nat} {p : List EN} (h : MarkE w wr lo hi g len bs p k j) (hj : j < len) (hbs : ∀ i, i < len → lo ≤ bs i ∧ bs i < hi ∧ bs i ≠ g ∧ ∀ t, t < i → bs t ≠ bs i) (hg : lo ≤ g ∧ g < hi) (hgs : g < wr.heap.size) (hss : ∀ i, i < len → bs i < wr.heap.size) {x y : Int}
    (hW : (wr.setCell ⟨g, j * 3, none⟩ (.int .i64 x)).setCell ⟨g, j * 3 + 1, none⟩ (.int .i64 y) = W2) (hx : x = ((stE k p j : Nat) : Int)) (hy : y = ((stE k p j + 1 : Nat) : Int))
    (g3 : W2.grownBy w3 (some (bs j))) (s3 : Sl w3 (some ⟨bs j, 0, none⟩) (p.getD j e0).2.2.length (marksI (stE k p j + 2) (p.getD j e0).2.2.length)) :
    MarkE w w3 lo hi g len bs p k (j + 1) := by
  obtain ⟨m1, m2, m3, m4, m5, m6, m7⟩ := mark_head h hj hbs hg hW
  obtain ⟨h1, h2, h3, h4⟩ := h
  have hgj : bs j ≠ g := (hbs j hj).2.2.1
  have hblk : w3.heap[g]? = W2.heap[g]? := g3.block g (by omega) (fun e => hgj (Option.some.inj e).symm)
  have hc : ∀ o, w3.cell? ⟨g, o, none⟩ = W2.cell? ⟨g, o, none⟩ := fun o => World.cell?_of_block (a := ⟨g, o, none⟩) hblk
  have hfz : ∀ o, w3.frozen? ⟨g, o, none⟩ = wr.frozen? ⟨g, o, none⟩ := fun o => (World.frozen?_of_block (a := ⟨g, o, none⟩) hblk).trans (m6 o)
  have hob : ∀ i, i < len → i ≠ j → w3.heap[bs i]? = wr.heap[bs i]? := fun i hi hne => by
    have hbi : bs i ≠ bs j := by
      rcases Nat.lt_or_gt_of_ne hne with hlt | hlt
      · exact (hbs j hj).2.2.2 i hlt
      · exact fun e => (hbs i hi).2.2.2 j hlt e.symm
    rw [g3.block (bs i) (by have := hss i hi; omega) (fun e => hbi (Option.some.inj e)), m7 _ (hbs i hi).2.2.1]
  have hs3 : wr.heap.size ≤ w3.heap.size := by have := g3.size; omega
  refine ⟨m1.trans (TurnE.of_grown g3 (hbs j hj).1 (hbs j hj).2.1), fun i hi => ?_, fun i hi => ?_, fun i hi hl => ?_⟩
  · obtain ⟨c, hc', c1⟩ := h2 i hi
    exact ⟨c, hc', by rw [hc, m5 _ (by omega) (by omega)]; exact c1⟩
  · by_cases e : i = j
    · subst e
      exact ⟨by rw [hc, m3, hx], by rw [hc, m4, hy], s3⟩
    · obtain ⟨c1, c2, c3⟩ := h3 i (by omega)
      exact ⟨by rw [hc, m5 _ (by omega) (by omega)]; exact c1, by rw [hc, m5 _ (by omega) (by omega)]; exact c2, slE_block c3 hs3 (hob i (by omega) e)⟩
  · obtain ⟨⟨v', hv'⟩, hf', ⟨u', hu'⟩, hfu', hm'⟩ := h4 i (by omega) hl
    exact ⟨⟨v', by rw [hc, m5 _ (by omega) (by omega)]; exact hv'⟩, by rw [hfz]; exact hf', ⟨u', by rw [hc, m5 _ (by omega) (by omega)]; exact hu'⟩, by rw [hfz]; exact hfu', mineE_block hm' hs3 (hob i hl (by omega))⟩
set_option maxHeartbeats 1600000 in
theorem markE_any (lo hi g len cap k : Nat) (p : List EN) (w : World) (h : EMine w lo hi g len p) (hk : 1 ≤ k) (hn : stE k p len ≤ 4194304) (hp : ∀ i, i < len → (p.getD i e0).2.2.length ≤ 1048576) (hlb : len ≤ 1048576) :
    Calls Tryd.prog 33 #[.slice (some ⟨g, 0, none⟩) len cap, .int .i64 k] w fun e w' => e = .returned (.int .i64 (stE k p len : Nat)) ∧ TurnE lo hi w w' ∧ ESl w' (some ⟨g, 0, none⟩) len (marksE k p) := by
  obtain ⟨h1, h2, h3, hw, bs, h4, h5⟩ := h
  have HM0 : Hid (MarkE w w lo hi g len bs p k 0) := ⟨TurnE.refl _ _ _, fun i hi => (h5 i hi).1, fun i hi => absurd hi (by omega), fun i _ hi => ⟨⟨_, (h5 i hi).2.1⟩, (h5 i hi).2.2.2.1, ⟨_, (h5 i hi).2.2.1⟩, (h5 i hi).2.2.2.2.1, by have := (h4 i hi).2.1; omega, fun j hj => ⟨⟨_, ((h5 i hi).2.2.2.2.2 j hj).1⟩, ((h5 i hi).2.2.2.2.2 j hj).2⟩⟩⟩
  have HB := (show Hid _ from h4)
  have HP := (show Hid _ from hp)
  have hmono := fun i hi => stE_mono k p i hi
  rw [h1] at hmono
  have HMo := (show Hid _ from hmono)
  clear h5 h4 hmono hp
  go_enter Tryd.func33, Tryd.ntmps33
  go_wp2
  go_loopw [1, 5] (fun x i wr => ∃ (j : Nat), j ≤ len ∧ i = .int .i64 j ∧ x = .int .i64 (stE k p j : Nat) ∧ w.heap.size ≤ wr.heap.size ∧ Hid (MarkE w wr lo hi g len bs p k j)) (fun _ i _ => len - (intOf i).toNat)
  case atStart => exact ⟨0, Nat.zero_le _, rfl, by simp [stE], Nat.le_refl _, HM0⟩
  case round =>
    obtain ⟨j, hj, rfl, rfl, hsw, HR⟩ := hrel
    clear HM0
    by_cases hlt : j < len
    · obtain ⟨c, hc, c1⟩ := HR.out.2.1 j hlt
      obtain ⟨⟨v, hv⟩, hf, ⟨u, hu⟩, hfu, hmine⟩ := HR.out.2.2.2 j (Nat.le_refl _) hlt
      have hst := stE_step k p j (by omega)
      have hle := HMo.out (j + 1) (by omega)
      have hpj := HP.out j hlt
      obtain ⟨s, hs⟩ : ∃ s, stE k p j = s := ⟨_, rfl⟩
      obtain ⟨L, hL⟩ : ∃ L, (p.getD j e0).2.2.length = L := ⟨_, rfl⟩
      rw [hs, hL] at hst
      rw [hL] at c1 hmine hc hpj
      rw [hs]
      obtain ⟨W2, hW2⟩ : ∃ W2, (wr.setCell ⟨g, j * 3, none⟩ (.int .i64 (s : Int))).setCell ⟨g, j * 3 + 1, none⟩ (.int .i64 ((s : Int) + 1)) = W2 := ⟨_, rfl⟩
      obtain ⟨m1, m2, m3, m4, m5, m6, m7⟩ := mark_head HR.out hlt HB.out ⟨h2, h3⟩ hW2
      have hgs : g < wr.heap.size := by omega
      have hss : ∀ i, i < len → bs i < wr.heap.size := fun i hi => by have := (HB.out i hi).2.1; omega
      have d1 : W2.cell? ⟨g, j * 3 + 2, none⟩ = some (.slice (some ⟨bs j, 0, none⟩) L c) := (m5 _ (by omega) (by omega)).trans c1
      have hm2 : MineI W2 (bs j) L := mineE_block hmine (by omega) (m7 _ (HB.out j hlt).2.2.1)
      have HC := (show Hid _ from markI_any (bs j) L c (s + 2) W2 hm2 hpj (by omega))
      have HP2 : Hid (∀ w3, W2.grownBy w3 (some (bs j)) → Sl w3 (some ⟨bs j, 0, none⟩) L (marksI (s + 2) L) → MarkE w w3 lo hi g len bs p k (j + 1)) := fun w3 g3 s3 => mark_stepE HR.out hlt HB.out ⟨h2, h3⟩ hgs hss hW2 (by rw [hs]) (by rw [hs]; omega) g3 (by rw [hs, hL]; exact s3)
      have hjl : (j : Int) < len := by omega
      have hu1 : (wr.setCell ⟨g, j * 3, none⟩ (.int .i64 (s : Int))).cell? ⟨g, j * 3 + 1, none⟩ = some u := by
        obtain ⟨t1, t2, t3⟩ := one_set wr g (j * 3) (.int .i64 (s : Int)) ⟨v, hv⟩
        exact (t2 _ (by omega)).trans hu
      have hfu1 : (wr.setCell ⟨g, j * 3, none⟩ (.int .i64 (s : Int))).frozen? ⟨g, j * 3 + 1, none⟩ = false := by simpa [go_sem] using hfu
      have HST : Hid (stE k p (j + 1) = s + 2 + L) := hst
      have hb1 : (s : Int) + 2 + L ≤ 4194304 := by omega
      have e2 : ((s + 2 : Nat) : Int) = (s : Int) + 1 + 1 := by omega
      have e3 : ((s + 2 + L : Nat) : Int) = (s : Int) + 1 + 1 + L := by omega
      rw [e2, e3] at HC
      have hsz2 : W2.heap.size = wr.heap.size := m2
      clear hst hle hL hs HR hmine m1 m3 m4 m5 m6 m7 hm2 hss e2 e3
      go_wp2_with fail
      (try rw [hW2])
      refine Calls.mono HC.out ?_
      rintro e w3 ⟨rfl, g3, s3⟩
      have HR2 := (show Hid _ from HP2.out w3 g3 s3)
      have hsz3 := g3.size
      clear HC HP2 g3 s3 hW2
      go_wp2
      go_roundw
      case rel => exact ⟨j + 1, by omega, by go_num, by rw [HST.out]; congr 1, by omega, HR2⟩
      case measure => simp [intOf]; omega
    · obtain rfl : j = len := by omega
      go_wp2
      go_ret
      refine ⟨rfl, HR.out.1, by rw [marksE_len]; exact h1, .inr ⟨g, 0, rfl, by omega, fun i hi => ?_⟩⟩
      obtain ⟨c, hc, c1⟩ := HR.out.2.1 i hi
      obtain ⟨d1, d2, d3⟩ := HR.out.2.2.1 i hi
      rw [marksE_get k p i (by omega), Nat.zero_add]
      exact ⟨_, _, c, d1, d2, c1, by have := HP.out i hi; omega, hc, d3⟩
set_option maxHeartbeats 800000 in
theorem markG_any (hi g len cap gp lb cb : Nat) (p : List EN) (w : World) (h : EMine w g hi g len p) (hg : hi ≤ gp) (hi2 : MineI w gp lb) (hn : stE 1 p len ≤ 4194304) (hp : ∀ i, i < len → (p.getD i e0).2.2.length ≤ 1048576) (hlb : len ≤ 1048576) (hlb2 : lb ≤ 1048576) :
    Calls Tryd.prog 12 #[.agg #[.slice (some ⟨g, 0, none⟩) len cap, .slice (some ⟨gp, 0, none⟩) lb cb], .int .i64 1] w fun e w' => e = .returned (.int .i64 (stE 1 p len + lb : Nat)) ∧ TurnE g (gp + 1) w w' := by
  obtain ⟨W1, hW1⟩ : ∃ W1, w.alloc (.cells #[.slice (some ⟨g, 0, none⟩) len cap, .slice (some ⟨gp, 0, none⟩) lb cb] 31) = W1 := ⟨_, rfl⟩
  have hb1 : Below w.heap.size w W1 := by rw [← hW1]; exact (Below.refl _ _).alloc (Nat.le_refl _) _
  have n0 : W1.cell? ⟨w.heap.size, 0, none⟩ = some (.slice (some ⟨g, 0, none⟩) len cap) := by rw [← hW1]; simp [go_sem]
  have n1 : W1.cell? ⟨w.heap.size, 1, none⟩ = some (.slice (some ⟨gp, 0, none⟩) lb cb) := by rw [← hW1]; simp [go_sem]
  have hs1 : w.heap.size < W1.heap.size := by rw [← hW1]; simp
  have hgw := h.2.2.1
  have hhw := h.2.2.2.1
  have hpw := hi2.1
  have HM := (show Hid _ from markE_any g hi g len cap 1 p W1 (h.keep hb1) (by omega) hn hp hlb)
  have HI : Hid (∀ W, TurnE g hi W1 W → MineI W gp lb) := fun W hW => mineE_block (hi2.keep hb1) hW.2.2.2.1 (hW.2.2.2.2 gp (by omega) (.inr hg))
  have HT : Hid (TurnE g (gp + 1) w W1) := TurnE.of_below hb1
  obtain ⟨s, hs⟩ : ∃ s, stE 1 p len = s := ⟨_, rfl⟩
  rw [hs] at HM hn ⊢
  clear hs
  clear h hi2 hb1
  go_enter Tryd.func12, Tryd.ntmps12
  go_wp2_with fail
  (try rw [hW1])
  refine Calls.mono HM.out ?_
  rintro e w2 ⟨rfl, t2, e2⟩
  have hblk : w2.heap[w.heap.size]? = W1.heap[w.heap.size]? := t2.2.2.2.2 _ hs1 (.inr (by omega))
  have q1 : w2.cell? ⟨w.heap.size, 1, none⟩ = some (.slice (some ⟨gp, 0, none⟩) lb cb) := (World.cell?_of_block (a := ⟨w.heap.size, 1, none⟩) hblk).trans n1
  have HC := (show Hid _ from markI_any gp lb cb s w2 (HI.out w2 t2) hlb2 (by omega))
  have HX : Hid (TurnE g (gp + 1) w w2 ∧ ESl w2 (some ⟨g, 0, none⟩) len (marksE 1 p)) := ⟨HT.out.trans (t2.wide (Nat.le_refl _) (by omega)), e2⟩
  clear HM hW1 HI HT t2 e2 hblk
  go_wp2_with fail
  refine Calls.mono HC.out ?_
  rintro e w3 ⟨rfl, g3, s3⟩
  clear HC
  go_wp2
  go_ret
  exact ⟨ret_int (by omega), HX.out.1.trans (TurnE.of_grown g3 (by omega) (by omega))⟩
end Go.Proofs.YtmbggaepckgogaaDoor
