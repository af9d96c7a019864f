/-
  PROVED HERE: that the laws' own comparing finds the same lists of ints to be the same, at every list of at most a million. No other condition. what the laws' own copying and comparing of graphs answers: that the same graphs are the same, at every list of at most a million. No other condition.
-/
import Derived.Test.YtmbggaepckgogaaDoorRun3
import Derived.Test.YtmbggaepckgogaaDoorRun26
import Derived.Test.YtmbggaepckgogaaDoorRun12
namespace Go.Proofs.YtmbggaepckgogaaDoor
open Go.ChangeShapes Go.WideShapes Go.ChangeAt Go.RowKit
set_option linter.unusedVariables false

theorem eqI_same (a b : Option Addr) (len cap cap' : Nat) (l : List Int) (w : World) (h : Sl w a len l) (h' : Sl w b len l) (hn : len ≤ 1048576) :
    Calls Tryd.prog 10 #[.slice a len cap, .slice b len cap'] w fun e w' => e = .returned (.bool true) ∧ Below w.heap.size w w' := by
  obtain ⟨hlen, hsl⟩ := h
  obtain ⟨_, hsl'⟩ := h'
  have hne : ((len : Int) != len) = false := by simp
  go_enter Tryd.func10, Tryd.ntmps10
  go_wp2
  go_loopw [5] (fun i wr => ∃ (k : Nat), k ≤ len ∧ i = .int .i64 k ∧ Below w.heap.size w wr) (fun i _ => len - (intOf i).toNat)
  case atStart => exact ⟨0, Nat.zero_le _, rfl, Below.refl _ _⟩
  case round =>
    obtain ⟨k, hk, rfl, hbr⟩ := hrel
    by_cases hlt : k < len
    · obtain ⟨b1, off, rfl, hbl, hc⟩ : ∃ b off, a = some ⟨b, off, none⟩ ∧ b < w.heap.size ∧ ∀ i, i < len → w.cell? ⟨b, off + i, none⟩ = some (.int .i64 (l.getD i 0)) := by
        rcases hsl with h0 | h0
        · omega
        · exact h0
      obtain ⟨b2, off', rfl, hbl', hc'⟩ : ∃ b' off, b = some ⟨b', off, none⟩ ∧ b' < w.heap.size ∧ ∀ i, i < len → w.cell? ⟨b', off + i, none⟩ = some (.int .i64 (l.getD i 0)) := by
        rcases hsl' with h0 | h0
        · omega
        · exact h0
      have hck : wr.cell? ⟨b1, off + k, none⟩ = some (.int .i64 (l.getD k 0)) := (hbr.cell (p := ⟨b1, off + k, none⟩) hbl).trans (hc k hlt)
      have hck' : wr.cell? ⟨b2, off' + k, none⟩ = some (.int .i64 (l.getD k 0)) := (hbr.cell (p := ⟨b2, off' + k, none⟩) hbl').trans (hc' k hlt)
      clear hc hc' hsl hsl'
      generalize l.getD k 0 = z at hck hck'
      have hlt' : (k : Int) < len := by omega
      go_wp2
      go_quiet (fail)
      go_wp2
      go_roundw
      case rel => exact ⟨k + 1, by omega, by go_num, Go.below_drewN hbr _⟩
      case measure => simp [intOf]; omega
    · go_wp2
      go_ret
      exact ⟨rfl, hbr⟩
end Go.Proofs.YtmbggaepckgogaaDoor
namespace Go.Proofs.YtmbggaepckgogaaDoor
open Go.ChangeShapes Go.WideShapes Go.ChangeAt Go.RowKit
set_option linter.unusedVariables false

set_option maxHeartbeats 800000 in
theorem copyG_any (a b : Option Addr) (len cap lb cb : Nat) (p : List EN) (l : List Int) (w : World) (h : ESl w a len p) (hl : Sl w b lb l) (hn : len ≤ 1048576) (hp : ∀ i, i < len → (p.getD i e0).2.2.length ≤ 1048576) (hn2 : lb ≤ 1048576) :
    Calls Tryd.prog 8 #[.agg #[.slice a len cap, .slice b lb cb]] w fun e w' => ∃ g gp hi, e = .returned (.agg #[.slice (some ⟨g, 0, none⟩) len len, .slice (some ⟨gp, 0, none⟩) lb lb]) ∧ Below w.heap.size w w' ∧ w.heap.size ≤ g ∧ EMine w' g hi g len p ∧ hi ≤ gp ∧ MineI w' gp lb ∧ Sl w' (some ⟨gp, 0, none⟩) lb l := by
  obtain ⟨W1, hW1⟩ : ∃ W1, ((w.alloc (.cells #[.slice a len cap, .slice b lb cb] 25)).alloc (.cells #[.slice none 0 0, .slice none 0 0] 31)).alloc (.cells #[.slice none 0 0, .slice none 0 0] 31) = W1 := ⟨_, rfl⟩
  have hb1 : Below w.heap.size w W1 := by rw [← hW1]; exact (((Below.refl _ _).alloc (Nat.le_refl _) _).alloc (by simp) _).alloc (by simp; omega) _
  have hsz : W1.heap.size = w.heap.size + 3 := by rw [← hW1]; simp
  have n0 : W1.cell? ⟨w.heap.size, 0, none⟩ = some (.slice a len cap) := by rw [← hW1]; simp [go_sem]
  have n1 : W1.cell? ⟨w.heap.size, 1, none⟩ = some (.slice b lb cb) := by rw [← hW1]; simp [go_sem]
  have m0 : W1.cell? ⟨w.heap.size + 1, 0, none⟩ = some (.slice none 0 0) := by rw [← hW1]; simp [go_sem]
  have m1 : W1.cell? ⟨w.heap.size + 1, 1, none⟩ = some (.slice none 0 0) := by rw [← hW1]; simp [go_sem]
  have o0 : W1.cell? ⟨w.heap.size + 1 + 1, 0, none⟩ = some (.slice none 0 0) := by rw [← hW1]; simp [go_sem]
  have o1 : W1.cell? ⟨w.heap.size + 1 + 1, 1, none⟩ = some (.slice none 0 0) := by rw [← hW1]; simp [go_sem]
  have f0 : W1.frozen? ⟨w.heap.size + 1, 0, none⟩ = false := by rw [← hW1]; simp [go_sem]
  have f1 : W1.frozen? ⟨w.heap.size + 1, 1, none⟩ = false := by rw [← hW1]; simp [go_sem]
  have f2 : W1.frozen? ⟨w.heap.size + 1 + 1, 0, none⟩ = false := by rw [← hW1]; simp [go_sem]
  have f3 : W1.frozen? ⟨w.heap.size + 1 + 1, 1, none⟩ = false := by rw [← hW1]; simp [go_sem]
  have HC := (show Hid _ from copyE_mine a len cap p W1 (h.keep hb1) hn hp)
  have HI : Hid (∀ W, Below w.heap.size w W → Calls Tryd.prog 28 #[.slice b lb cb] W fun e w' => e = .returned (.slice (some ⟨W.heap.size, 0, none⟩) lb lb) ∧ Below W.heap.size W w' ∧ Sl w' (some ⟨W.heap.size, 0, none⟩) lb l ∧ MineI w' W.heap.size lb) := fun W hW => copyI_mine b lb cb l W (hl.keep hW) hn2
  clear h hl
  go_enter Tryd.func8, Tryd.ntmps8
  go_wp2_with fail
  (try rw [hW1])
  refine Calls.mono HC.out ?_
  rintro e w2 ⟨rfl, hb2, hE2⟩
  have lt1 : w.heap.size < W1.heap.size := by omega
  have lt2 : w.heap.size + 1 < W1.heap.size := by omega
  have lt3 : w.heap.size + 1 + 1 < W1.heap.size := by omega
  have q1 := (hb2.cell (p := ⟨w.heap.size, 1, none⟩) lt1).trans n1
  have q2 := (hb2.cell (p := ⟨w.heap.size + 1, 0, none⟩) lt2).trans m0
  have q3 := (hb2.cell (p := ⟨w.heap.size + 1, 1, none⟩) lt2).trans m1
  have q4 := (hb2.cell (p := ⟨w.heap.size + 1 + 1, 0, none⟩) lt3).trans o0
  have q5 := (hb2.cell (p := ⟨w.heap.size + 1 + 1, 1, none⟩) lt3).trans o1
  have r2 := (hb2.frozen (p := ⟨w.heap.size + 1, 0, none⟩) lt2).trans f0
  have r3 := (hb2.frozen (p := ⟨w.heap.size + 1, 1, none⟩) lt2).trans f1
  have r4 := (hb2.frozen (p := ⟨w.heap.size + 1 + 1, 0, none⟩) lt3).trans f2
  have r5 := (hb2.frozen (p := ⟨w.heap.size + 1 + 1, 1, none⟩) lt3).trans f3
  have hB2 : Below w.heap.size w w2 := hb1.trans (hb2.mono hb1.size)
  have hg2 : W1.heap.size < w2.heap.size := hE2.2.2.1
  obtain ⟨g, hg⟩ : ∃ g, W1.heap.size = g := ⟨_, rfl⟩
  rw [hg] at hE2 hg2 lt1 lt2 lt3 ⊢
  clear hb2 HC hb1 n0 n1 m0 m1 o0 o1 f0 f1 f2 f3 hW1 hsz hg
  obtain ⟨W3, hW3⟩ : ∃ W3, w2.setCell ⟨w.heap.size + 1 + 1, 0, none⟩ (.slice (some ⟨g, 0, none⟩) len len) = W3 := ⟨_, rfl⟩
  have hB3 : Below w.heap.size w W3 := by rw [← hW3]; exact hB2.setCell (by show w.heap.size ≤ w.heap.size + 1 + 1; omega) _
  have hs3 : W3.heap.size = w2.heap.size := by rw [← hW3]; simp [World.setCell]
  have hE3 : EMine W3 g w2.heap.size g len p := hE2.map (Nat.le_refl _) (Nat.le_refl _) (by omega) (fun b h1 h2 => by rw [← hW3]; exact Below.heap_setCell _ _ _ _ (by show b ≠ w.heap.size + 1 + 1; omega))
  have l0 : w.heap.size < W3.heap.size := by omega
  have l1 : w.heap.size + 1 < W3.heap.size := by omega
  have l2 : w.heap.size + 1 + 1 < W3.heap.size := by omega
  have s1 : W3.cell? ⟨w.heap.size, 1, none⟩ = some (.slice b lb cb) := by rw [← hW3]; simp [go_sem, q1]
  have s2 : W3.cell? ⟨w.heap.size + 1, 0, none⟩ = some (.slice none 0 0) := by rw [← hW3]; simp [go_sem, q2]
  have s3 : W3.cell? ⟨w.heap.size + 1, 1, none⟩ = some (.slice none 0 0) := by rw [← hW3]; simp [go_sem, q3]
  have s4 : W3.cell? ⟨w.heap.size + 1 + 1, 0, none⟩ = some (.slice (some ⟨g, 0, none⟩) len len) := by rw [← hW3]; simp [go_sem, q4]
  have s5 : W3.cell? ⟨w.heap.size + 1 + 1, 1, none⟩ = some (.slice none 0 0) := by rw [← hW3]; simp [go_sem, q5]
  have u2 : W3.frozen? ⟨w.heap.size + 1, 0, none⟩ = false := by rw [← hW3]; simpa [go_sem] using r2
  have u3 : W3.frozen? ⟨w.heap.size + 1, 1, none⟩ = false := by rw [← hW3]; simpa [go_sem] using r3
  have u5 : W3.frozen? ⟨w.heap.size + 1 + 1, 1, none⟩ = false := by rw [← hW3]; simpa [go_sem] using r5
  have HE3 : Hid (EMine W3 g w2.heap.size g len p) := hE3
  have HB3 := (show Hid _ from hB3)
  have HI3 := (show Hid _ from HI.out W3 hB3)
  clear hE2 hB2 hE3 hB3 HI
  go_wp2_with fail
  (try rw [hW3])
  refine Calls.mono HI3.out ?_
  rintro e w4 ⟨rfl, hb4, hs4, hm4⟩
  have a2 := (hb4.cell (p := ⟨w.heap.size + 1, 0, none⟩) l1).trans s2
  have a3 := (hb4.cell (p := ⟨w.heap.size + 1, 1, none⟩) l1).trans s3
  have a4 := (hb4.cell (p := ⟨w.heap.size + 1 + 1, 0, none⟩) l2).trans s4
  have a5 := (hb4.cell (p := ⟨w.heap.size + 1 + 1, 1, none⟩) l2).trans s5
  have b2 := (hb4.frozen (p := ⟨w.heap.size + 1, 0, none⟩) l1).trans u2
  have b3 := (hb4.frozen (p := ⟨w.heap.size + 1, 1, none⟩) l1).trans u3
  have b5 := (hb4.frozen (p := ⟨w.heap.size + 1 + 1, 1, none⟩) l2).trans u5
  have HX : Hid (Below w.heap.size w w4 ∧ EMine w4 g w2.heap.size g len p ∧ Sl w4 (some ⟨W3.heap.size, 0, none⟩) lb l ∧ MineI w4 W3.heap.size lb) := ⟨HB3.out.trans (hb4.mono HB3.out.size), HE3.out.keep hb4, hs4, hm4⟩
  have hgp : w2.heap.size ≤ W3.heap.size := by omega
  obtain ⟨gp, hgp'⟩ : ∃ gp, W3.heap.size = gp := ⟨_, rfl⟩
  rw [hgp'] at HX hgp ⊢
  clear hb4 hs4 hm4 HE3 HB3 HI3 hW3 s1 s2 s3 s4 s5 u2 u3 u5 q1 q2 q3 q4 q5 r2 r3 r4 r5 l0 l1 l2 hs3 hgp'
  have HP : Hid (∀ v1 v2 v3 : Value, ∀ w5, ((w4.setCell ⟨w.heap.size + 1 + 1, 1, none⟩ v1).setCell ⟨w.heap.size + 1, 0, none⟩ v2).setCell ⟨w.heap.size + 1, 1, none⟩ v3 = w5 → Below w.heap.size w w5 ∧ EMine w5 g w2.heap.size g len p ∧ MineI w5 gp lb ∧ Sl w5 (some ⟨gp, 0, none⟩) lb l) := fun v1 v2 v3 w5 h5 => by
    obtain ⟨x1, x2, x3, x4⟩ := HX.out
    have hs5 : w5.heap.size = w4.heap.size := by rw [← h5]; simp [World.setCell]
    have hblk : ∀ b, g ≤ b → w5.heap[b]? = w4.heap[b]? := fun b hb => by
      rw [← h5, Below.heap_setCell _ _ _ _ (by show b ≠ w.heap.size + 1; omega), Below.heap_setCell _ _ _ _ (by show b ≠ w.heap.size + 1; omega), Below.heap_setCell _ _ _ _ (by show b ≠ w.heap.size + 1 + 1; omega)]
    have hx2 := x2.2.2.2.1
    have hgg := x2.2.2.1
    refine ⟨?_, x2.map (Nat.le_refl _) (Nat.le_refl _) (by omega) (fun b h1 _ => hblk b h1), ⟨by have := x4.1; omega, fun i hi => ?_⟩, x3.1, .inr ⟨gp, 0, rfl, by have := x4.1; omega, fun i hi => ?_⟩⟩
    · rw [← h5]; exact ((x1.setCell (by show w.heap.size ≤ w.heap.size + 1 + 1; omega) _).setCell (by show w.heap.size ≤ w.heap.size + 1; omega) _).setCell (by show w.heap.size ≤ w.heap.size + 1; omega) _
    · obtain ⟨⟨v, hv⟩, hf⟩ := x4.2 i hi
      exact ⟨⟨v, (World.cell?_of_block (a := ⟨gp, i, none⟩) (hblk gp (by omega))).trans hv⟩, (World.frozen?_of_block (a := ⟨gp, i, none⟩) (hblk gp (by omega))).trans hf⟩
    · rcases x3.2 with h0 | ⟨b', off, e, _, hc⟩
      · omega
      · cases e
        exact (World.cell?_of_block (a := ⟨gp, 0 + i, none⟩) (hblk gp (by omega))).trans (hc i hi)
  go_wp2
  refine bodyPost_ret (v := .agg #[.slice (some ⟨g, 0, none⟩) len len, .slice (some ⟨gp, 0, none⟩) lb lb]) (by simp [results, Tryd.results8, go_sem, *]) rfl ⟨g, gp, w2.heap.size, rfl, ?_⟩
  obtain ⟨x1, x2, x3, x4⟩ := HP.out _ _ _ _ rfl
  exact ⟨x1, by omega, x2, hgp, x3, x4⟩
theorem eqE_same (op n : Int) (a b : Option Addr) (len cap cap' : Nat) (l : List Int) (w : World) (h : Sl w a len l) (h' : Sl w b len l) (hn : len ≤ 1048576) :
    Calls Tryd.prog 56 #[.agg #[.int .i64 op, .int .i64 n, .slice a len cap], .agg #[.int .i64 op, .int .i64 n, .slice b len cap']] w fun e w' => e = .returned (.bool true) ∧ Below w.heap.size w w' := by
  obtain ⟨W1, hW1⟩ : ∃ W1, (w.alloc (.cells #[.int .i64 op, .int .i64 n, .slice a len cap] 74)).alloc (.cells #[.int .i64 op, .int .i64 n, .slice b len cap'] 74) = W1 := ⟨_, rfl⟩
  have hb1 : Below w.heap.size w W1 := by rw [← hW1]; exact ((Below.refl _ _).alloc (Nat.le_refl _) _).alloc (by simp) _
  have n0 : W1.cell? ⟨w.heap.size, 0, none⟩ = some (.int .i64 op) := by rw [← hW1]; simp [go_sem]
  have n1 : W1.cell? ⟨w.heap.size, 1, none⟩ = some (.int .i64 n) := by rw [← hW1]; simp [go_sem]
  have n2 : W1.cell? ⟨w.heap.size, 2, none⟩ = some (.slice a len cap) := by rw [← hW1]; simp [go_sem]
  have m0 : W1.cell? ⟨w.heap.size + 1, 0, none⟩ = some (.int .i64 op) := by rw [← hW1]; simp [go_sem]
  have m1 : W1.cell? ⟨w.heap.size + 1, 1, none⟩ = some (.int .i64 n) := by rw [← hW1]; simp [go_sem]
  have m2 : W1.cell? ⟨w.heap.size + 1, 2, none⟩ = some (.slice b len cap') := by rw [← hW1]; simp [go_sem]
  have HE := (show Hid _ from eqI_same a b len cap cap' l W1 (h.keep hb1) (h'.keep hb1) hn)
  have HB := (show Hid _ from hb1)
  have i1 : (op != op) = false := by simp
  have i2 : (n != n) = false := by simp
  clear h h' hb1
  go_enter Tryd.func56, Tryd.ntmps56
  go_wp2_with fail
  (try rw [hW1])
  refine Calls.mono HE.out ?_
  rintro e w2 ⟨rfl, hb2⟩
  have HB2 : Hid (Below w.heap.size w w2) := HB.out.trans (hb2.mono HB.out.size)
  clear HE hb2 hW1
  go_wp2
  go_ret
  exact ⟨rfl, HB2.out⟩
set_option maxHeartbeats 1600000 in
set_option maxRecDepth 20000 in
theorem eqES_same (a b : Option Addr) (len cap cap' : Nat) (p : List EN) (w : World) (h : ESl w a len p) (h' : ESl w b len p) (hn : len ≤ 1048576) (hp : ∀ i, i < len → (p.getD i e0).2.2.length ≤ 1048576) :
    Calls Tryd.prog 32 #[.slice a len cap, .slice b len cap'] w fun e w' => e = .returned (.bool true) ∧ Below w.heap.size w w' := by
  have hne : ((len : Int) != len) = false := by simp
  have HS : Hid (ESl w a len p ∧ ESl w b len p) := ⟨h, h'⟩
  have HP := (show Hid _ from hp)
  clear h h' hp
  go_enter Tryd.func32, Tryd.ntmps32
  go_wp2_with fail
  go_loopw [5] (fun i wr => ∃ (k : Nat), k ≤ len ∧ i = .int .i64 k ∧ Below w.heap.size w wr) (fun i _ => len - (intOf i).toNat)
  case atStart => exact ⟨0, Nat.zero_le _, rfl, Below.refl _ _⟩
  case round =>
    obtain ⟨k, hk, rfl, hbr⟩ := hrel
    by_cases hlt : k < len
    · obtain ⟨bn, on, rfl, hbl, hc⟩ := (HS.out.1.keep hbr).at (by omega)
      obtain ⟨ai, li, ci, c1, c2, c3, hli, hci, hS⟩ := hc k hlt
      obtain ⟨bm, om, rfl, hbm, hd⟩ := (HS.out.2.keep hbr).at (by omega)
      obtain ⟨aj, lj, cj, d1, d2, d3, hlj, hcj, hS'⟩ := hd k hlt
      have hpk := HP.out k hlt
      obtain ⟨m, hm⟩ : ∃ m, p.getD k e0 = m := ⟨_, rfl⟩
      obtain ⟨xo, xn, xk⟩ := m
      rw [hm] at c1 c2 d1 d2 hS hS' hpk
      simp only at c1 c2 d1 d2 hS hS' hpk
      obtain rfl : li = lj := by rw [← hS.1, ← hS'.1]
      have hl1 := hS.1
      have hlt' : (k : Int) < len := by omega
      have g0 : ∀ x : Ahead wr, x.w.cell? ⟨bn, on + k * 3, none⟩ = some (.int .i64 xo) := fun x => (x.h.cell (p := ⟨bn, on + k * 3, none⟩) hbl).trans c1
      have g1 : ∀ x : Ahead wr, x.w.cell? ⟨bn, on + k * 3 + 1, none⟩ = some (.int .i64 xn) := fun x => (x.h.cell (p := ⟨bn, on + k * 3 + 1, none⟩) hbl).trans c2
      have g2 : ∀ x : Ahead wr, x.w.cell? ⟨bn, on + k * 3 + 2, none⟩ = some (.slice ai li ci) := fun x => (x.h.cell (p := ⟨bn, on + k * 3 + 2, none⟩) hbl).trans c3
      have g3 : ∀ x : Ahead wr, x.w.cell? ⟨bm, om + k * 3, none⟩ = some (.int .i64 xo) := fun x => (x.h.cell (p := ⟨bm, om + k * 3, none⟩) hbm).trans d1
      have g4 : ∀ x : Ahead wr, x.w.cell? ⟨bm, om + k * 3 + 1, none⟩ = some (.int .i64 xn) := fun x => (x.h.cell (p := ⟨bm, om + k * 3 + 1, none⟩) hbm).trans d2
      have g5 : ∀ x : Ahead wr, x.w.cell? ⟨bm, om + k * 3 + 2, none⟩ = some (.slice aj li cj) := fun x => (x.h.cell (p := ⟨bm, om + k * 3 + 2, none⟩) hbm).trans d3
      have HA : Hid (∀ x : Ahead wr, Calls Tryd.prog 56 #[.agg #[.int .i64 xo, .int .i64 xn, .slice ai li ci], .agg #[.int .i64 xo, .int .i64 xn, .slice aj li cj]] x.w fun e w' => e = .returned (.bool true) ∧ Below x.w.heap.size x.w w') := fun x => eqE_same xo xn ai aj li ci cj xk x.w (hS.keep x.h) (hS'.keep x.h) (by omega)
      have HFx : Hid (∀ x : Ahead wr, Below w.heap.size w x.w) := fun x => hbr.trans (x.h.mono hbr.size)
      clear hc hd hS hS' c1 c2 c3 d1 d2 d3 hm hpk hbr
      go_wp2_with fail
      have hne' := ahead_some wr
      refine wp_region_ahead (by kernel_rfl) (by kernel_rfl) ?_
      repeat (first
        | go_big_quiet_skip
        | (go_big_quiet_want; go_big_quiet_op; first | go_big_quiet_on | (apply Exists.intro; refine ⟨fun x => ?_, ?_⟩; (focus (exact ahead_of (HA.out x))); go_big_quiet_on)))
      refine wpQuiet_nil ?_
      intro _ hw'
      obtain ⟨xq, rfl⟩ := hw'
      go_wp2
      exact ⟨⟨k + 1, by omega, by go_num, HFx.out xq⟩, by simp [intOf]; omega⟩
    · go_wp2
      go_ret
      exact ⟨rfl, hbr⟩
theorem eqG_same (a b a' b' : Option Addr) (len cap cap' lb cb cb' : Nat) (p : List EN) (l : List Int) (w : World) (h : ESl w a len p) (h' : ESl w a' len p) (hl : Sl w b lb l) (hl' : Sl w b' lb l) (hn : len ≤ 1048576) (hp : ∀ i, i < len → (p.getD i e0).2.2.length ≤ 1048576) (hn2 : lb ≤ 1048576) :
    Calls Tryd.prog 11 #[.agg #[.slice a len cap, .slice b lb cb], .agg #[.slice a' len cap', .slice b' lb cb']] w fun e w' => e = .returned (.bool true) ∧ Below w.heap.size w w' := by
  obtain ⟨W1, hW1⟩ : ∃ W1, (w.alloc (.cells #[.slice a len cap, .slice b lb cb] 31)).alloc (.cells #[.slice a' len cap', .slice b' lb cb'] 31) = W1 := ⟨_, rfl⟩
  have hb1 : Below w.heap.size w W1 := by rw [← hW1]; exact ((Below.refl _ _).alloc (Nat.le_refl _) _).alloc (by simp) _
  have hsz : W1.heap.size = w.heap.size + 2 := by rw [← hW1]; simp
  have n0 : W1.cell? ⟨w.heap.size, 0, none⟩ = some (.slice a len cap) := by rw [← hW1]; simp [go_sem]
  have n1 : W1.cell? ⟨w.heap.size, 1, none⟩ = some (.slice b lb cb) := by rw [← hW1]; simp [go_sem]
  have m0 : W1.cell? ⟨w.heap.size + 1, 0, none⟩ = some (.slice a' len cap') := by rw [← hW1]; simp [go_sem]
  have m1 : W1.cell? ⟨w.heap.size + 1, 1, none⟩ = some (.slice b' lb cb') := by rw [← hW1]; simp [go_sem]
  have lt0 : w.heap.size < W1.heap.size := by omega
  have lt1 : w.heap.size + 1 < W1.heap.size := by omega
  have HE := (show Hid _ from eqES_same a a' len cap cap' p W1 (h.keep hb1) (h'.keep hb1) hn hp)
  have HI : Hid (∀ W, Below W1.heap.size W1 W → Calls Tryd.prog 10 #[.slice b lb cb, .slice b' lb cb'] W fun e w' => e = .returned (.bool true) ∧ Below W.heap.size W w') := fun W hW => eqI_same b b' lb cb cb' l W ((hl.keep hb1).keep hW) ((hl'.keep hb1).keep hW) hn2
  have HF : Hid (∀ W, Below W1.heap.size W1 W → Below w.heap.size w W) := fun W hW => hb1.trans (hW.mono hb1.size)
  clear h h' hl hl' hb1 hsz
  go_enter Tryd.func11, Tryd.ntmps11
  go_wp2_with fail
  (try rw [hW1])
  refine Calls.mono HE.out ?_
  rintro e w2 ⟨rfl, hb2⟩
  have q1 := (hb2.cell (p := ⟨w.heap.size, 1, none⟩) lt0).trans n1
  have q2 := (hb2.cell (p := ⟨w.heap.size + 1, 1, none⟩) lt1).trans m1
  have HI2 := (show Hid _ from HI.out w2 hb2)
  clear HE hW1 HI
  go_wp2_with fail
  refine Calls.mono HI2.out ?_
  rintro e w3 ⟨rfl, hb3⟩
  have HB3 : Hid (Below w.heap.size w w3) := HF.out _ (hb2.trans (hb3.mono hb2.size))
  clear HI2 hb2 hb3
  go_wp2
  go_ret
  exact ⟨rfl, HB3.out⟩
end Go.Proofs.YtmbggaepckgogaaDoor
