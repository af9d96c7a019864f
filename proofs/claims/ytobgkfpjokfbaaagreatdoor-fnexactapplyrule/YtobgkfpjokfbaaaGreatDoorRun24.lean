/-
  PROVED HERE: the law FnExactAddTerm's own run, at every argument, in a world whose table of arities is laid. No other condition. a rule and a place (a class and a bind) weighed, copied, held against each other and marked, in a law's own code. No condition. what the model's and the program's tests of a class and of a bind answer, at every two lists of parts and classes. No other condition.
-/
import Derived.Test.YtobgkfpjokfbaaaGreatDoorRun23
import Derived.Test.YtobgkfpjokfbaaaGreatDoorRun22
import Derived.Test.YtobgkfpjokfbaaaGreatDoorRun8
import Derived.Test.YtobgkfpjokfbaaaGreatDoorRun10
import Derived.Test.YtobgkfpjokfbaaaGreatDoorRun21
import Derived.Test.YtobgkfpjokfbaaaGreatDoorRun11
import Derived.Test.YtobgkfpjokfbaaaGreatDoorRun3
import Derived.Test.YtobgkfpjokfbaaaGreatDoorRun14
namespace Go.Proofs.YtobgkfpjokfbaaaGreatDoor
open Go.ChangeShapes Go.WideShapes Go.ChangeAt Go.RowKit
set_option linter.unusedVariables false

theorem mine_block {w w' : World} {b off len : Nat} (h : Mine w b off len) (hs : w.heap.size ≤ w'.heap.size) (hb : w'.heap[b]? = w.heap[b]?) : Mine w' b off len := by
  refine ⟨Nat.lt_of_lt_of_le h.1 hs, fun i hi => ?_⟩
  obtain ⟨⟨v, hv⟩, hf⟩ := h.2 i hi
  exact ⟨⟨v, (World.cell?_of_block (a := ⟨b, off + i, none⟩) hb).trans hv⟩, (World.frozen?_of_block (a := ⟨b, off + i, none⟩) hb).trans hf⟩
/-- An answer of the model, as it is read. -/
def ReadG (W : World) (va vb : Value) (g : GS) : Prop := ∃ a ca b cb, va = .slice a g.1.length ca ∧ vb = .slice b g.2.length cb ∧ ESl W a g.1.length g.1 ∧ Sl W b g.2.length g.2
theorem ReadG.keep {w w' : World} {va vb : Value} {g : GS} (h : ReadG w va vb g) (hb : Below w.heap.size w w') : ReadG w' va vb g := by
  obtain ⟨a, ca, b, cb, h1, h2, h3, h4⟩ := h
  exact ⟨a, ca, b, cb, h1, h2, h3.keep hb, h4.keep hb⟩
theorem AnsI.read {w : World} {S : Nat → Prop} {va vb : Value} {g : GS} (h : AnsI w S va vb g) : ReadG w va vb g := by
  obtain ⟨a, ca, b, cb, h1, h2, h3, h4, _⟩ := h.reads
  exact ⟨a, ca, b, cb, h1, h2, h3, h4⟩
theorem ansG_few {p : List EN} {l : List Int} {t : List (Int × Int)} : (ansG (addT p l t)).1.length ≤ 120 ∧ (ansG (addT p l t)).2.length = (ansG (addT p l t)).1.length ∧ ∀ i, i < (ansG (addT p l t)).1.length → ((ansG (addT p l t)).1.getD i e0).2.2.length ≤ 3 := by
  cases h : addT p l t with
  | none => exact ⟨by simp [ansG], rfl, fun i hi => absurd hi (Nat.not_lt_zero _)⟩
  | some r =>
    obtain ⟨h1, h2, h3⟩ := addT_good h
    exact ⟨h3, h1.2.1, good_few h1⟩
theorem eqA_any (u1 u2 v1 v2 : Value) (g : GS) (W : World) (h : ReadG W u1 u2 g) (h' : ReadG W v1 v2 g) (h120 : g.1.length ≤ 120) (hlp : g.2.length = g.1.length) (h3 : ∀ i, i < g.1.length → (g.1.getD i e0).2.2.length ≤ 3) : Calls Tryz.prog 12 #[.agg #[u1, u2], .agg #[v1, v2]] W fun e w' => e = .returned (.bool true) ∧ Below W.heap.size W w' := by
  obtain ⟨a, ca, b, cb, rfl, rfl, e3, e4⟩ := h
  obtain ⟨a', ca', b', cb', rfl, rfl, e3', e4'⟩ := h'
  exact eqG_same a b a' b' g.1.length ca ca' g.2.length cb cb' g.1 g.2 W e3 e3' e4 e4' (by omega) (fun i hi => by have := h3 i hi; omega) (by omega)
end Go.Proofs.YtobgkfpjokfbaaaGreatDoor
namespace Go.Proofs.YtobgkfpjokfbaaaGreatDoor
open Go.ChangeShapes Go.WideShapes Go.ChangeAt Go.RowKit
set_option linter.unusedVariables false

set_option maxHeartbeats 1600000 in
theorem copyR_mine (a b : Option Addr) (len cap lb cb : Nat) (p q : List (Int × Int)) (w : World) (h : NSl w a len p) (hl : NSl w b lb q) (hn : len ≤ 1048576) (hn2 : lb ≤ 1048576) :
    Calls Tryz.prog 9 #[.agg #[.slice a len cap, .slice b lb cb]] w fun e w' => ∃ g gp, e = .returned (.agg #[.slice (some ⟨g, 0, none⟩) len len, .slice (some ⟨gp, 0, none⟩) lb lb]) ∧ Below w.heap.size w w' ∧ NSl w' (some ⟨g, 0, none⟩) len p ∧ NSl w' (some ⟨gp, 0, none⟩) lb q ∧ Mine w' g 0 len ∧ Mine w' gp 0 lb ∧ w.heap.size ≤ g ∧ g < gp := by
  obtain ⟨W1, hW1⟩ : ∃ W1, ((w.alloc (.cells #[.slice a len cap, .slice b lb cb] 28)).alloc (.cells #[.slice none 0 0, .slice none 0 0] 42)).alloc (.cells #[.slice none 0 0, .slice none 0 0] 42) = W1 := ⟨_, rfl⟩
  have hb1 : Below w.heap.size w W1 := by rw [← hW1]; exact (((Below.refl _ _).alloc (Nat.le_refl _) _).alloc (by simp) _).alloc (by simp; omega) _
  have hsz : W1.heap.size = w.heap.size + 3 := by rw [← hW1]; simp
  have n0 : W1.cell? ⟨w.heap.size, 0, none⟩ = some (.slice a len cap) := by rw [← hW1]; simp [go_sem]
  have n1 : W1.cell? ⟨w.heap.size, 1, none⟩ = some (.slice b lb cb) := by rw [← hW1]; simp [go_sem]
  have m0 : W1.cell? ⟨w.heap.size + 1, 0, none⟩ = some (.slice none 0 0) := by rw [← hW1]; simp [go_sem]
  have m1 : W1.cell? ⟨w.heap.size + 1, 1, none⟩ = some (.slice none 0 0) := by rw [← hW1]; simp [go_sem]
  have o0 : W1.cell? ⟨w.heap.size + 1 + 1, 0, none⟩ = some (.slice none 0 0) := by rw [← hW1]; simp [go_sem]
  have o1 : W1.cell? ⟨w.heap.size + 1 + 1, 1, none⟩ = some (.slice none 0 0) := by rw [← hW1]; simp [go_sem]
  have f0 : W1.frozen? ⟨w.heap.size + 1, 0, none⟩ = false := by rw [← hW1]; simp [go_sem]
  have f1 : W1.frozen? ⟨w.heap.size + 1, 1, none⟩ = false := by rw [← hW1]; simp [go_sem]
  have f2 : W1.frozen? ⟨w.heap.size + 1 + 1, 0, none⟩ = false := by rw [← hW1]; simp [go_sem]
  have f3 : W1.frozen? ⟨w.heap.size + 1 + 1, 1, none⟩ = false := by rw [← hW1]; simp [go_sem]
  have HC := (show Hid _ from copyN_mine a len cap p W1 (h.keep hb1) hn)
  have HI : Hid (∀ W, Below w.heap.size w W → Calls Tryz.prog 27 #[.slice b lb cb] W fun e w' => e = .returned (.slice (some ⟨W.heap.size, 0, none⟩) lb lb) ∧ Below W.heap.size W w' ∧ NSl w' (some ⟨W.heap.size, 0, none⟩) lb q ∧ Mine w' W.heap.size 0 lb) := fun W hW => copyN_mine b lb cb q W (hl.keep hW) hn2
  clear h hl
  go_enter Tryz.func9, Tryz.ntmps9
  go_wp2_with fail
  (try rw [hW1])
  refine Calls.mono HC.out ?_
  rintro e w2 ⟨rfl, hb2, hE2, hM2⟩
  have lt1 : w.heap.size < W1.heap.size := by omega
  have lt2 : w.heap.size + 1 < W1.heap.size := by omega
  have lt3 : w.heap.size + 1 + 1 < W1.heap.size := by omega
  have q1 := (hb2.cell (p := ⟨w.heap.size, 1, none⟩) lt1).trans n1
  have q2 := (hb2.cell (p := ⟨w.heap.size + 1, 0, none⟩) lt2).trans m0
  have q3 := (hb2.cell (p := ⟨w.heap.size + 1, 1, none⟩) lt2).trans m1
  have q4 := (hb2.cell (p := ⟨w.heap.size + 1 + 1, 0, none⟩) lt3).trans o0
  have q5 := (hb2.cell (p := ⟨w.heap.size + 1 + 1, 1, none⟩) lt3).trans o1
  have r2 := (hb2.frozen (p := ⟨w.heap.size + 1, 0, none⟩) lt2).trans f0
  have r3 := (hb2.frozen (p := ⟨w.heap.size + 1, 1, none⟩) lt2).trans f1
  have r4 := (hb2.frozen (p := ⟨w.heap.size + 1 + 1, 0, none⟩) lt3).trans f2
  have r5 := (hb2.frozen (p := ⟨w.heap.size + 1 + 1, 1, none⟩) lt3).trans f3
  have hB2 : Below w.heap.size w w2 := hb1.trans (hb2.mono hb1.size)
  have hg2 : W1.heap.size ≤ w2.heap.size := hb2.size
  obtain ⟨g, hg⟩ : ∃ g, W1.heap.size = g := ⟨_, rfl⟩
  have hgs : w.heap.size ≤ g := by omega
  have hgl : g < w2.heap.size := by rw [← hg]; exact hM2.1
  rw [hg] at hE2 hM2 hg2 lt1 lt2 lt3 ⊢
  clear hb2 HC hb1 n0 n1 m0 m1 o0 o1 f0 f1 f2 f3 hW1 hsz hg
  obtain ⟨W3, hW3⟩ : ∃ W3, w2.setCell ⟨w.heap.size + 1 + 1, 0, none⟩ (.slice (some ⟨g, 0, none⟩) len len) = W3 := ⟨_, rfl⟩
  have hB3 : Below w.heap.size w W3 := by rw [← hW3]; exact hB2.setCell (by show w.heap.size ≤ w.heap.size + 1 + 1; omega) _
  have hs3 : W3.heap.size = w2.heap.size := by rw [← hW3]; simp [World.setCell]
  have hE3 : NSl W3 (some ⟨g, 0, none⟩) len p := hE2.of_heap hs3 (by rw [← hW3]; exact Below.heap_setCell _ _ _ _ (by show g ≠ w.heap.size + 1 + 1; omega))
  have hM3 : Mine W3 g 0 len := mine_block hM2 (by omega) (by rw [← hW3]; exact Below.heap_setCell _ _ _ _ (by show g ≠ w.heap.size + 1 + 1; omega))
  have l0 : w.heap.size < W3.heap.size := by omega
  have l1 : w.heap.size + 1 < W3.heap.size := by omega
  have l2 : w.heap.size + 1 + 1 < W3.heap.size := by omega
  have s1 : W3.cell? ⟨w.heap.size, 1, none⟩ = some (.slice b lb cb) := by rw [← hW3]; simp [go_sem, q1]
  have s2 : W3.cell? ⟨w.heap.size + 1, 0, none⟩ = some (.slice none 0 0) := by rw [← hW3]; simp [go_sem, q2]
  have s3 : W3.cell? ⟨w.heap.size + 1, 1, none⟩ = some (.slice none 0 0) := by rw [← hW3]; simp [go_sem, q3]
  have s4 : W3.cell? ⟨w.heap.size + 1 + 1, 0, none⟩ = some (.slice (some ⟨g, 0, none⟩) len len) := by rw [← hW3]; simp [go_sem, q4]
  have s5 : W3.cell? ⟨w.heap.size + 1 + 1, 1, none⟩ = some (.slice none 0 0) := by rw [← hW3]; simp [go_sem, q5]
  have u2 : W3.frozen? ⟨w.heap.size + 1, 0, none⟩ = false := by rw [← hW3]; simpa [go_sem] using r2
  have u3 : W3.frozen? ⟨w.heap.size + 1, 1, none⟩ = false := by rw [← hW3]; simpa [go_sem] using r3
  have u5 : W3.frozen? ⟨w.heap.size + 1 + 1, 1, none⟩ = false := by rw [← hW3]; simpa [go_sem] using r5
  have HE3 : Hid (NSl W3 (some ⟨g, 0, none⟩) len p ∧ Mine W3 g 0 len) := ⟨hE3, hM3⟩
  have HB3 := (show Hid _ from hB3)
  have HI3 := (show Hid _ from HI.out W3 hB3)
  clear hE2 hB2 hE3 hB3 HI hM2 hM3
  go_wp2_with fail
  (try rw [hW3])
  refine Calls.mono HI3.out ?_
  rintro e w4 ⟨rfl, hb4, hs4, hm4⟩
  have a2 := (hb4.cell (p := ⟨w.heap.size + 1, 0, none⟩) l1).trans s2
  have a3 := (hb4.cell (p := ⟨w.heap.size + 1, 1, none⟩) l1).trans s3
  have a4 := (hb4.cell (p := ⟨w.heap.size + 1 + 1, 0, none⟩) l2).trans s4
  have a5 := (hb4.cell (p := ⟨w.heap.size + 1 + 1, 1, none⟩) l2).trans s5
  have b2 := (hb4.frozen (p := ⟨w.heap.size + 1, 0, none⟩) l1).trans u2
  have b3 := (hb4.frozen (p := ⟨w.heap.size + 1, 1, none⟩) l1).trans u3
  have b5 := (hb4.frozen (p := ⟨w.heap.size + 1 + 1, 1, none⟩) l2).trans u5
  have HX : Hid (Below w.heap.size w w4 ∧ NSl w4 (some ⟨g, 0, none⟩) len p ∧ NSl w4 (some ⟨W3.heap.size, 0, none⟩) lb q ∧ Mine w4 g 0 len ∧ Mine w4 W3.heap.size 0 lb) := ⟨HB3.out.trans (hb4.mono HB3.out.size), HE3.out.1.keep hb4, hs4, mine_block HE3.out.2 hb4.size (hb4.block g HE3.out.2.1), hm4⟩
  have hggp : g < W3.heap.size := by omega
  have hgp : w2.heap.size ≤ W3.heap.size := by omega
  obtain ⟨gp, hgp'⟩ : ∃ gp, W3.heap.size = gp := ⟨_, rfl⟩
  rw [hgp'] at HX hgp hggp ⊢
  clear hb4 hs4 hm4 HE3 HB3 HI3 hW3 s1 s2 s3 s4 s5 u2 u3 u5 q1 q2 q3 q4 q5 r2 r3 r4 r5 l0 l1 l2 hs3 hgp'
  have HP : Hid (∀ v1 v2 v3 : Value, ∀ w5, ((w4.setCell ⟨w.heap.size + 1 + 1, 1, none⟩ v1).setCell ⟨w.heap.size + 1, 0, none⟩ v2).setCell ⟨w.heap.size + 1, 1, none⟩ v3 = w5 → Below w.heap.size w w5 ∧ NSl w5 (some ⟨g, 0, none⟩) len p ∧ NSl w5 (some ⟨gp, 0, none⟩) lb q ∧ Mine w5 g 0 len ∧ Mine w5 gp 0 lb ∧ w.heap.size ≤ g ∧ g < gp) := fun v1 v2 v3 w5 h5 => by
    obtain ⟨x1, x2, x3, x4, x5⟩ := HX.out
    have hs5 : w5.heap.size = w4.heap.size := by rw [← h5]; simp [World.setCell]
    have hblk : ∀ b, g ≤ b → w5.heap[b]? = w4.heap[b]? := fun b hb => by
      rw [← h5, Below.heap_setCell _ _ _ _ (by show b ≠ w.heap.size + 1; omega), Below.heap_setCell _ _ _ _ (by show b ≠ w.heap.size + 1; omega), Below.heap_setCell _ _ _ _ (by show b ≠ w.heap.size + 1 + 1; omega)]
    refine ⟨?_, x2.of_heap hs5 (hblk g (Nat.le_refl _)), x3.of_heap hs5 (hblk gp (by omega)), mine_block x4 (by omega) (hblk g (Nat.le_refl _)), mine_block x5 (by omega) (hblk gp (by omega)), by omega, by omega⟩
    rw [← h5]; exact ((x1.setCell (by show w.heap.size ≤ w.heap.size + 1 + 1; omega) _).setCell (by show w.heap.size ≤ w.heap.size + 1; omega) _).setCell (by show w.heap.size ≤ w.heap.size + 1; omega) _
  go_wp2
  refine bodyPost_ret (v := .agg #[.slice (some ⟨g, 0, none⟩) len len, .slice (some ⟨gp, 0, none⟩) lb lb]) (by simp [results, Tryz.results9, go_sem, *]) rfl ⟨g, gp, rfl, ?_⟩
  exact HP.out _ _ _ _ rfl
set_option maxHeartbeats 1600000 in
theorem markRM_any (g gp len lb cap cb k : Nat) (w : World) (h : Mine w g 0 len) (h2 : Mine w gp 0 lb) (hlt : g < gp) (hn : len ≤ 1048576) (hn2 : lb ≤ 1048576) (hk : k ≤ 10000000) :
    Calls Tryz.prog 16 #[.agg #[.slice (some ⟨g, 0, none⟩) len cap, .slice (some ⟨gp, 0, none⟩) lb cb], .int .i64 k] w fun e w' => e = .returned (.int .i64 (k + 2 * len + 2 * lb : Nat)) ∧ TurnE g (gp + 1) w w' := by
  obtain ⟨W1, hW1⟩ : ∃ W1, w.alloc (.cells #[.slice (some ⟨g, 0, none⟩) len cap, .slice (some ⟨gp, 0, none⟩) lb cb] 42) = W1 := ⟨_, rfl⟩
  have hb1 : Below w.heap.size w W1 := by rw [← hW1]; exact (Below.refl _ _).alloc (Nat.le_refl _) _
  have hs1 : W1.heap.size = w.heap.size + 1 := by rw [← hW1]; simp
  have n0 : W1.cell? ⟨w.heap.size, 0, none⟩ = some (.slice (some ⟨g, 0, none⟩) len cap) := by rw [← hW1]; simp [go_sem]
  have n1 : W1.cell? ⟨w.heap.size, 1, none⟩ = some (.slice (some ⟨gp, 0, none⟩) lb cb) := by rw [← hW1]; simp [go_sem]
  have hg := h.1
  have hgp := h2.1
  have hM1 : Mine W1 g 0 len := mine_block h hb1.size (hb1.block g hg)
  have hM2 : Mine W1 gp 0 lb := mine_block h2 hb1.size (hb1.block gp hgp)
  have HA := (show Hid _ from mark_any g 0 len cap k W1 hM1 hn (by omega))
  have HB : Hid (∀ W, W1.grownBy W (some g) → Calls Tryz.prog 37 #[.slice (some ⟨gp, 0, none⟩) lb cb, .int .i64 (k + 2 * len : Nat)] W fun e w' => e = .returned (.int .i64 (k + 2 * len + 2 * lb : Nat)) ∧ W.grownBy w' (some gp) ∧ NSl w' (some ⟨gp, 0, none⟩) lb (marks (k + 2 * len) lb)) := fun W hW => mark_any gp 0 lb cb (k + 2 * len) W (mine_block hM2 hW.size (hW.block gp (by omega) (by intro e; cases e; omega))) hn2 (by omega)
  have HT : Hid (TurnE g (gp + 1) w W1) := TurnE.of_below hb1
  have hne : (some w.heap.size : Option Nat) ≠ some g := by intro e; cases e; omega
  clear h h2 hb1 hM1 hM2
  go_enter Tryz.func16, Tryz.ntmps16
  go_wp2_with fail
  (try rw [hW1])
  refine Calls.mono HA.out ?_
  rintro e w2 ⟨rfl, g2, -⟩
  have q1 := (World.cell?_of_block (a := ⟨w.heap.size, 1, none⟩) (g2.block w.heap.size (by omega) hne)).trans n1
  have HB2 := (show Hid _ from HB.out w2 g2)
  have HT2 : Hid (TurnE g (gp + 1) w w2) := HT.out.trans (TurnE.of_grown g2 (Nat.le_refl _) (by omega))
  clear HA hW1 HB g2 HT
  go_wp2_with fail
  refine Calls.mono HB2.out ?_
  rintro e w3 ⟨rfl, g3, -⟩
  have HT3 : Hid (TurnE g (gp + 1) w w3) := HT2.out.trans (TurnE.of_grown g3 (by omega) (by omega))
  clear HB2 g3 HT2 q1
  go_wp2
  go_ret
  exact ⟨rfl, HT3.out⟩
theorem szFo_any (c : Int) (a : Option Addr) (len cap : Nat) (k : Int) (w : World) (hn : 0 ≤ k ∧ k ≤ 1048576) (hl : len ≤ 9223372036854775807) :
    Calls Tryz.prog 6 #[.agg #[.int .i64 c, .slice a len cap], .int .i64 k] w fun e w' => e = .returned (.int .i64 (szV k len)) ∧ Below w.heap.size w w' := by
  have HS : Hid (∀ W, Calls Tryz.prog 20 #[.slice a len cap, .int .i64 k] W fun e w' => e = .returned (.int .i64 (szV k len)) ∧ w' = W) := fun W => sz6I_any a len cap k W hn hl
  have HB : Hid (Below w.heap.size w (w.alloc (.cells #[.int .i64 c, .slice a len cap] 30))) := (Below.refl _ _).alloc (Nat.le_refl _) _
  rcases szV_cases k len hn.1 (by omega) with ⟨e1, _⟩ | ⟨h1, _, _⟩
  · rw [e1] at HS ⊢
    go_enter Tryz.func6, Tryz.ntmps6
    go_wp2_with fail
    refine Calls.mono (HS.out _) ?_
    rintro e w2 ⟨rfl, rfl⟩
    go_wp2
    go_ret
    exact ⟨rfl, HB.out⟩
  · have h2 : ¬ szV k len < 0 := by omega
    generalize szV k len = s at HS h1 h2 ⊢
    go_enter Tryz.func6, Tryz.ntmps6
    go_wp2_with fail
    refine Calls.mono (HS.out _) ?_
    rintro e w2 ⟨rfl, rfl⟩
    go_wp2
    go_ret
    exact ⟨rfl, HB.out⟩
set_option maxHeartbeats 800000 in
theorem toFo_any (c : Int) (a : Option Addr) (len cap : Nat) (l : List Int) (w : World) (h : Sl w a len l) (hn : len ≤ 1048576) :
    Calls Tryz.prog 10 #[.agg #[.int .i64 c, .slice a len cap]] w fun e w' => ∃ g, e = .returned (.agg #[.int .i64 c, .slice (some ⟨g, 0, none⟩) len len]) ∧ Below w.heap.size w w' ∧ w.heap.size ≤ g ∧ g < w'.heap.size ∧ (∀ i, i < len → w'.cell? ⟨g, i, none⟩ = some (.int .i64 (l.getD i 0)) ∧ w'.frozen? ⟨g, i, none⟩ = false) := by
  obtain ⟨W1, hW1⟩ : ∃ W1, ((w.alloc (.cells #[.int .i64 c, .slice a len cap] 30)).alloc (.cells #[.int .i64 0, .slice none 0 0] 44)).alloc (.cells #[.int .i64 c, .slice none 0 0] 44) = W1 := ⟨_, rfl⟩
  have hb1 : Below w.heap.size w W1 := by rw [← hW1]; exact (((Below.refl _ _).alloc (Nat.le_refl _) _).alloc (by simp) _).alloc (by simp; omega) _
  have hsz : W1.heap.size = w.heap.size + 3 := by rw [← hW1]; simp
  have n2 : W1.cell? ⟨w.heap.size, 1, none⟩ = some (.slice a len cap) := by rw [← hW1]; simp [go_sem]
  have m0 : W1.cell? ⟨w.heap.size + 1, 0, none⟩ = some (.int .i64 0) := by rw [← hW1]; simp [go_sem]
  have m2 : W1.cell? ⟨w.heap.size + 1, 1, none⟩ = some (.slice none 0 0) := by rw [← hW1]; simp [go_sem]
  have o0 : W1.cell? ⟨w.heap.size + 1 + 1, 0, none⟩ = some (.int .i64 c) := by rw [← hW1]; simp [go_sem]
  have o2 : W1.cell? ⟨w.heap.size + 1 + 1, 1, none⟩ = some (.slice none 0 0) := by rw [← hW1]; simp [go_sem]
  have f0 : W1.frozen? ⟨w.heap.size + 1, 0, none⟩ = false := by rw [← hW1]; simp [go_sem]
  have f2 : W1.frozen? ⟨w.heap.size + 1, 1, none⟩ = false := by rw [← hW1]; simp [go_sem]
  have f3 : W1.frozen? ⟨w.heap.size + 1 + 1, 1, none⟩ = false := by rw [← hW1]; simp [go_sem]
  have HC := (show Hid _ from copyI5_any a len cap l W1 (h.keep hb1) hn)
  clear h
  go_enter Tryz.func10, Tryz.ntmps10
  go_wp2_with fail
  (try rw [hW1])
  refine Calls.mono HC.out ?_
  rintro e w2 ⟨rfl, hb2, hg2, hc2⟩
  have lt2 : w.heap.size + 1 < W1.heap.size := by omega
  have lt3 : w.heap.size + 1 + 1 < W1.heap.size := by omega
  have q0 := (hb2.cell (p := ⟨w.heap.size + 1, 0, none⟩) lt2).trans m0
  have q2 := (hb2.cell (p := ⟨w.heap.size + 1, 1, none⟩) lt2).trans m2
  have q3 := (hb2.cell (p := ⟨w.heap.size + 1 + 1, 0, none⟩) lt3).trans o0
  have q5 := (hb2.cell (p := ⟨w.heap.size + 1 + 1, 1, none⟩) lt3).trans o2
  have r0 := (hb2.frozen (p := ⟨w.heap.size + 1, 0, none⟩) lt2).trans f0
  have r2 := (hb2.frozen (p := ⟨w.heap.size + 1, 1, none⟩) lt2).trans f2
  have r3 := (hb2.frozen (p := ⟨w.heap.size + 1 + 1, 1, none⟩) lt3).trans f3
  have hB2 : Below w.heap.size w w2 := hb1.trans (hb2.mono hb1.size)
  have HX : Hid (Below w.heap.size w w2 ∧ W1.heap.size < w2.heap.size ∧ ∀ i, i < len → w2.cell? ⟨W1.heap.size, i, none⟩ = some (.int .i64 (l.getD i 0)) ∧ w2.frozen? ⟨W1.heap.size, i, none⟩ = false) := ⟨hB2, hg2, hc2⟩
  obtain ⟨g, hg⟩ : ∃ g, W1.heap.size = g := ⟨_, rfl⟩
  rw [hg] at HX lt3 ⊢
  have lt4 : w.heap.size + 2 < g := lt3
  clear hb2 hc2 hg2 hB2 HC hb1 n2 m0 m2 o0 o2 f0 f2 f3 hW1 lt2 lt3 hsz hg
  go_wp2
  refine bodyPost_ret (v := .agg #[.int .i64 c, .slice (some ⟨g, 0, none⟩) len len]) (by simp [results, Tryz.results10, go_sem, *]) rfl ⟨g, rfl, ?_, by omega, ?_, fun i hi => ?_⟩
  · exact ((HX.out.1.setCell (by show w.heap.size ≤ w.heap.size + 1 + 1; omega) _).setCell (by show w.heap.size ≤ w.heap.size + 1; omega) _).setCell (by show w.heap.size ≤ w.heap.size + 1; omega) _
  · have := HX.out.2.1; simpa [World.setCell] using this
  · have := HX.out.2.2 i hi
    refine ⟨?_, ?_⟩
    · have n1 : ∀ o, (⟨w.heap.size + 1, o, none⟩ : Addr) ≠ ⟨g, i, none⟩ := fun o e => by injection e; omega
      have n2 : ∀ o, (⟨w.heap.size + 1 + 1, o, none⟩ : Addr) ≠ ⟨g, i, none⟩ := fun o e => by injection e; omega
      rw [World.cell?_setCell_other _ _ _ _ (n1 _), World.cell?_setCell_other _ _ _ _ (n1 _), World.cell?_setCell_other _ _ _ _ (n2 _)]
      exact this.1
    · simpa [go_sem] using this.2
theorem toFo_mine (c : Int) (a : Option Addr) (len cap : Nat) (l : List Int) (w : World) (h : Sl w a len l) (hn : len ≤ 1048576) :
    Calls Tryz.prog 10 #[.agg #[.int .i64 c, .slice a len cap]] w fun e w' => ∃ g, e = .returned (.agg #[.int .i64 c, .slice (some ⟨g, 0, none⟩) len len]) ∧ Below w.heap.size w w' ∧ Sl w' (some ⟨g, 0, none⟩) len l ∧ MineI w' g len ∧ w.heap.size ≤ g :=
  (toFo_any c a len cap l w h hn).mono fun e w' ⟨g, r1, r2, r3, r4, r5⟩ => ⟨g, r1, r2, ⟨h.1, .inr ⟨g, 0, rfl, r4, fun i hi => by rw [Nat.zero_add]; exact (r5 i hi).1⟩⟩, ⟨r4, fun i hi => ⟨⟨_, (r5 i hi).1⟩, (r5 i hi).2⟩⟩, r3⟩
theorem eqFo_same (c : Int) (a b : Option Addr) (len cap cap' : Nat) (l : List Int) (w : World) (h : Sl w a len l) (h' : Sl w b len l) (hn : len ≤ 1048576) :
    Calls Tryz.prog 14 #[.agg #[.int .i64 c, .slice a len cap], .agg #[.int .i64 c, .slice b len cap']] w fun e w' => e = .returned (.bool true) ∧ Below w.heap.size w w' := by
  obtain ⟨W1, hW1⟩ : ∃ W1, (w.alloc (.cells #[.int .i64 c, .slice a len cap] 44)).alloc (.cells #[.int .i64 c, .slice b len cap'] 44) = W1 := ⟨_, rfl⟩
  have hb1 : Below w.heap.size w W1 := by rw [← hW1]; exact ((Below.refl _ _).alloc (Nat.le_refl _) _).alloc (by simp) _
  have n0 : W1.cell? ⟨w.heap.size, 0, none⟩ = some (.int .i64 c) := by rw [← hW1]; simp [go_sem]
  have n2 : W1.cell? ⟨w.heap.size, 1, none⟩ = some (.slice a len cap) := by rw [← hW1]; simp [go_sem]
  have m0 : W1.cell? ⟨w.heap.size + 1, 0, none⟩ = some (.int .i64 c) := by rw [← hW1]; simp [go_sem]
  have m2 : W1.cell? ⟨w.heap.size + 1, 1, none⟩ = some (.slice b len cap') := by rw [← hW1]; simp [go_sem]
  have HE := (show Hid _ from eqI_same a b len cap cap' l W1 (h.keep hb1) (h'.keep hb1) hn)
  have HB := (show Hid _ from hb1)
  have i1 : (c != c) = false := by simp
  clear h h' hb1
  go_enter Tryz.func14, Tryz.ntmps14
  go_wp2_with fail
  (try rw [hW1])
  refine Calls.mono HE.out ?_
  rintro e w2 ⟨rfl, hb2⟩
  have HB2 : Hid (Below w.heap.size w w2) := HB.out.trans (hb2.mono HB.out.size)
  clear HE hb2 hW1
  go_wp2
  go_ret
  exact ⟨rfl, HB2.out⟩
theorem markFo_any (c : Int) (gk kl kc k : Nat) (w : World) (h : MineI w gk kl) (hn : kl ≤ 1048576) (hk : k ≤ 16777216) :
    Calls Tryz.prog 17 #[.agg #[.int .i64 c, .slice (some ⟨gk, 0, none⟩) kl kc], .int .i64 k] w fun e w' => e = .returned (.int .i64 (k + kl : Nat)) ∧ TurnE gk (gk + 1) w w' := by
  obtain ⟨W1, hW1⟩ : ∃ W1, w.alloc (.cells #[.int .i64 c, .slice (some ⟨gk, 0, none⟩) kl kc] 44) = W1 := ⟨_, rfl⟩
  have hb1 : Below w.heap.size w W1 := by rw [← hW1]; exact (Below.refl _ _).alloc (Nat.le_refl _) _
  have n2 : W1.cell? ⟨w.heap.size, 1, none⟩ = some (.slice (some ⟨gk, 0, none⟩) kl kc) := by rw [← hW1]; simp [go_sem]
  have HM := (show Hid _ from markI_any gk kl kc k W1 (h.keep hb1) hn hk)
  have HT : Hid (TurnE gk (gk + 1) w W1) := TurnE.of_below hb1
  clear h hb1
  go_enter Tryz.func17, Tryz.ntmps17
  go_wp2_with fail
  (try rw [hW1])
  refine Calls.mono HM.out ?_
  rintro e w2 ⟨rfl, g2, s2⟩
  have HT2 : Hid (TurnE gk (gk + 1) w w2) := HT.out.trans (TurnE.of_grown g2 (Nat.le_refl _) (Nat.lt_succ_self _))
  clear HM hW1 g2 s2 HT
  go_wp2
  go_ret
  exact ⟨rfl, HT2.out⟩
end Go.Proofs.YtobgkfpjokfbaaaGreatDoor
namespace Go.Proofs.YtobgkfpjokfbaaaGreatDoor
open Go.ChangeShapes Go.WideShapes Go.ChangeAt Go.RowKit
set_option linter.unusedVariables false

/-- A number is a class of the parts. -/
def clB (l : List Int) (k : Int) : Bool := hasB l k && (l.getD k.toNat 0 == k)
/-- Each of a bind's four is none or a class. -/
def bindB (l bs : List Int) : Bool := decide (bs.length = 4) && bs.all fun c => c == -1 || clB l c
theorem all_drop {f : Int → Bool} {bs : List Int} {k : Nat} (h : k < bs.length) : (bs.drop k).all f = (f (bs.getD k 0) && (bs.drop (k + 1)).all f) := by
  rw [List.drop_eq_getElem_cons h, List.all_cons]
  congr 2
  rw [List.getD_eq_getElem?_getD, List.getElem?_eq_getElem h]; rfl
theorem specClass_any (a b : Option Addr) (lb cap cb : Nat) (l : List Int) (k : Int) (w : World) (hl : Sl w b lb l) (hm : lb ≤ 1000000) :
    Calls Tryz.prog 43 #[.agg #[.slice a lb cap, .slice b lb cb], .int .i64 k] w fun e w' => e = .returned (.bool (clB l k)) ∧ Below w.heap.size w w' := by
  have hl1 := hl.1
  obtain ⟨W1, hW1⟩ : ∃ W1, w.alloc (.cells #[.slice a lb cap, .slice b lb cb] 36) = W1 := ⟨_, rfl⟩
  have hb1 : Below w.heap.size w W1 := by rw [← hW1]; exact (Below.refl _ _).alloc (Nat.le_refl _) _
  have n0 : W1.cell? ⟨w.heap.size, 0, none⟩ = some (.slice a lb cap) := by rw [← hW1]; simp [go_sem]
  have n1 : W1.cell? ⟨w.heap.size, 1, none⟩ = some (.slice b lb cb) := by rw [← hW1]; simp [go_sem]
  have HB := (show Hid _ from hb1)
  have HH : Hid (∀ W, Calls Tryz.prog 69 #[.int .i64 k, .int .i64 0, .int .i64 ((lb : Int) - 1)] W fun e w' => e = .returned (.bool (hasB l k)) ∧ w' = W) := fun W => specHas_any lb l hl1 k W
  unfold clB
  cases hh : hasB l k with
  | false =>
    rw [hh] at HH
    rw [Bool.false_and]
    clear hb1 hl hh
    go_enter Tryz.func43, Tryz.ntmps43
    go_wp2_with fail
    (try rw [hW1])
    refine Calls.mono (HH.out _) ?_
    rintro e w2 ⟨rfl, rfl⟩
    clear HH hW1
    go_wp2
    go_ret
    exact ⟨rfl, HB.out⟩
  | true =>
    rw [hh] at HH
    rw [Bool.true_and]
    obtain ⟨n, rfl, hn⟩ := has_iff hh
    obtain ⟨bb, bo, rfl, hbl, hc⟩ : ∃ bb bo, b = some ⟨bb, bo, none⟩ ∧ bb < W1.heap.size ∧ ∀ i, i < lb → W1.cell? ⟨bb, bo + i, none⟩ = some (.int .i64 (l.getD i 0)) := by
      rcases (hl.keep hb1).2 with h0 | h0
      · omega
      · exact h0
    have c0 := hc n (by omega)
    have i1 : (n : Int) < lb := by omega
    have i0 : (0 : Int) ≤ n := by omega
    rw [Int.toNat_natCast]
    generalize l.getD n 0 = x at c0 ⊢
    clear hb1 hl hh hc hn
    by_cases hx : x = n
    · have e1 : (x == (n : Int)) = true := by simpa using hx
      rw [e1]
      go_enter Tryz.func43, Tryz.ntmps43
      go_wp2_with fail
      (try rw [hW1])
      refine Calls.mono (HH.out _) ?_
      rintro e w2 ⟨rfl, rfl⟩
      clear HH hW1
      go_wp2
      go_ret
      exact ⟨rfl, HB.out⟩
    · have e1 : (x == (n : Int)) = false := by simpa using hx
      rw [e1]
      go_enter Tryz.func43, Tryz.ntmps43
      go_wp2_with fail
      (try rw [hW1])
      refine Calls.mono (HH.out _) ?_
      rintro e w2 ⟨rfl, rfl⟩
      clear HH hW1
      go_wp2
      go_ret
      exact ⟨rfl, HB.out⟩
theorem implClass_any (a b : Option Addr) (lb cap cb : Nat) (l : List Int) (k : Int) (w : World) (hl : Sl w b lb l) (hm : lb ≤ 1000000) :
    Calls Tryz.prog 53 #[.agg #[.slice a lb cap, .slice b lb cb], .int .i64 k] w fun e w' => e = .returned (.bool (clB l k)) ∧ Below w.heap.size w w' := by
  have hl1 := hl.1
  obtain ⟨W1, hW1⟩ : ∃ W1, w.alloc (.cells #[.slice a lb cap, .slice b lb cb] 36) = W1 := ⟨_, rfl⟩
  have hb1 : Below w.heap.size w W1 := by rw [← hW1]; exact (Below.refl _ _).alloc (Nat.le_refl _) _
  have n0 : W1.cell? ⟨w.heap.size, 0, none⟩ = some (.slice a lb cap) := by rw [← hW1]; simp [go_sem]
  have n1 : W1.cell? ⟨w.heap.size, 1, none⟩ = some (.slice b lb cb) := by rw [← hW1]; simp [go_sem]
  have HB := (show Hid _ from hb1)
  have HH : Hid (∀ W, Calls Tryz.prog 61 #[.slice b lb cb, .int .i64 k] W fun e w' => e = .returned (.bool (hasB l k)) ∧ w' = W) := fun W => implHas_any b lb cb l hl1 k W
  unfold clB
  cases hh : hasB l k with
  | false =>
    rw [hh] at HH
    rw [Bool.false_and]
    clear hb1 hl hh
    go_enter Tryz.func53, Tryz.ntmps53
    go_wp2_with fail
    (try rw [hW1])
    refine Calls.mono (HH.out _) ?_
    rintro e w2 ⟨rfl, rfl⟩
    clear HH hW1
    go_wp2
    go_ret
    exact ⟨rfl, HB.out⟩
  | true =>
    rw [hh] at HH
    rw [Bool.true_and]
    obtain ⟨n, rfl, hn⟩ := has_iff hh
    obtain ⟨bb, bo, rfl, hbl, hc⟩ : ∃ bb bo, b = some ⟨bb, bo, none⟩ ∧ bb < W1.heap.size ∧ ∀ i, i < lb → W1.cell? ⟨bb, bo + i, none⟩ = some (.int .i64 (l.getD i 0)) := by
      rcases (hl.keep hb1).2 with h0 | h0
      · omega
      · exact h0
    have c0 := hc n (by omega)
    have i1 : (n : Int) < lb := by omega
    have i0 : (0 : Int) ≤ n := by omega
    rw [Int.toNat_natCast]
    generalize l.getD n 0 = x at c0 ⊢
    clear hb1 hl hh hc hn
    by_cases hx : x = n
    · have e1 : (x == (n : Int)) = true := by simpa using hx
      rw [e1]
      go_enter Tryz.func53, Tryz.ntmps53
      go_wp2_with fail
      (try rw [hW1])
      refine Calls.mono (HH.out _) ?_
      rintro e w2 ⟨rfl, rfl⟩
      clear HH hW1
      go_wp2
      go_ret
      exact ⟨rfl, HB.out⟩
    · have e1 : (x == (n : Int)) = false := by simpa using hx
      rw [e1]
      go_enter Tryz.func53, Tryz.ntmps53
      go_wp2_with fail
      (try rw [hW1])
      refine Calls.mono (HH.out _) ?_
      rintro e w2 ⟨rfl, rfl⟩
      clear HH hW1
      go_wp2
      go_ret
      exact ⟨rfl, HB.out⟩
set_option maxHeartbeats 800000 in
theorem specBind_any (a b v : Option Addr) (lb cap cb lv cv : Nat) (l bs : List Int) (w : World) (hl : Sl w b lb l) (hv : Sl w v lv bs) (hm : lb ≤ 1000000) (hm2 : lv ≤ 9223372036854775807) :
    Calls Tryz.prog 44 #[.agg #[.slice a lb cap, .slice b lb cb], .slice v lv cv] w fun e w' => e = .returned (.bool (bindB l bs)) ∧ Below w.heap.size w w' := by
  have hv1 := hv.1
  obtain ⟨W1, hW1⟩ : ∃ W1, w.alloc (.cells #[.slice a lb cap, .slice b lb cb] 36) = W1 := ⟨_, rfl⟩
  have hb1 : Below w.heap.size w W1 := by rw [← hW1]; exact (Below.refl _ _).alloc (Nat.le_refl _) _
  have n0 : W1.cell? ⟨w.heap.size, 0, none⟩ = some (.slice a lb cap) := by rw [← hW1]; simp [go_sem]
  have n1 : W1.cell? ⟨w.heap.size, 1, none⟩ = some (.slice b lb cb) := by rw [← hW1]; simp [go_sem]
  have hs1 : w.heap.size < W1.heap.size := by rw [← hW1]; simp
  have HB : Hid (∀ W, Below W1.heap.size W1 W → Below w.heap.size w W ∧ W.cell? ⟨w.heap.size, 0, none⟩ = some (.slice a lb cap) ∧ W.cell? ⟨w.heap.size, 1, none⟩ = some (.slice b lb cb) ∧ Sl W v lv bs) := fun W hW => ⟨hb1.trans (hW.mono hb1.size), (hW.cell (p := ⟨w.heap.size, 0, none⟩) hs1).trans n0, (hW.cell (p := ⟨w.heap.size, 1, none⟩) hs1).trans n1, (hv.keep hb1).keep hW⟩
  have HCl : Hid (∀ W k, Below W1.heap.size W1 W → Calls Tryz.prog 43 #[.agg #[.slice a lb cap, .slice b lb cb], .int .i64 k] W fun e w' => e = .returned (.bool (clB l k)) ∧ Below W.heap.size W w') := fun W k hW => specClass_any a b lb cap cb l k W ((hl.keep hb1).keep hW) hm
  unfold bindB
  by_cases h4 : lv = 4
  · rw [decide_eq_true (by omega), Bool.true_and]
    have i4 : ((lv : Int) != 4) = false := by rw [h4]; decide
    have HT : Hid (bs.all (fun c => c == -1 || clB l c) = (bs.drop 0).all fun c => c == -1 || clB l c) := by rw [List.drop_zero]; rfl
    clear hl hv hb1 hs1 n0 n1 h4
    go_enter Tryz.func44, Tryz.ntmps44
    go_wp2_with fail
    (try rw [hW1])
    clear hW1
    go_loopw [12] (fun i wr => ∃ (k : Nat), k ≤ lv ∧ i = .int .i64 k ∧ Hid (bs.all (fun c => c == -1 || clB l c) = (bs.drop k).all fun c => c == -1 || clB l c) ∧ Below W1.heap.size W1 wr) (fun i _ => lv - (intOf i).toNat)
    case atStart => exact ⟨0, Nat.zero_le _, rfl, HT.out, Below.refl _ _⟩
    case round =>
      obtain ⟨k, hk, rfl, hT, hbr⟩ := hrel
      clear HT
      by_cases hlt : k < lv
      · obtain ⟨hbw, q0, q1, hvr⟩ := HB.out wr hbr
        obtain ⟨bb, bo, rfl, hbl, hc⟩ : ∃ bb bo, v = some ⟨bb, bo, none⟩ ∧ bb < wr.heap.size ∧ ∀ i, i < lv → wr.cell? ⟨bb, bo + i, none⟩ = some (.int .i64 (bs.getD i 0)) := by
          rcases hvr.2 with h0 | h0
          · omega
          · exact h0
        have c0 := hc k hlt
        have hd := all_drop (f := fun c => c == -1 || clB l c) (bs := bs) (k := k) (by omega)
        have hkl : (k : Int) < lv := by omega
        obtain ⟨x, hx⟩ : ∃ x, bs.getD k 0 = x := ⟨_, rfl⟩
        rw [hx] at c0 hd
        have hT2 := hT.out
        rw [hd] at hT2
        clear hx hvr hc hd hbw
        by_cases hm1 : x = -1
        · subst hm1
          have HT2 : Hid (bs.all (fun c => c == -1 || clB l c) = (bs.drop (k + 1)).all fun c => c == -1 || clB l c) := by
            show _ = _
            rw [hT2]; rfl
          clear hT hT2
          go_wp2
          go_roundw
          case rel => exact ⟨k + 1, by omega, by go_num, HT2, hbr⟩
          case measure => simp [intOf]; omega
        · have e1 : (x == -1) = false := by simpa using hm1
          have e2 : (x != -1) = true := by simpa using hm1
          have HC := (show Hid _ from HCl.out wr x hbr)
          cases hcl : clB l x with
          | true =>
            rw [hcl] at HC hT2
            have HT2 : Hid (bs.all (fun c => c == -1 || clB l c) = (bs.drop (k + 1)).all fun c => c == -1 || clB l c) := by
              show _ = _
              rw [hT2, Bool.or_true, Bool.true_and]
            have HBr := (show Hid _ from hbr)
            clear hT hT2 hbr hcl
            go_wp2_with fail
            refine Calls.mono HC.out ?_
            rintro e w2 ⟨rfl, hb2⟩
            have HB2 := (show Hid _ from HBr.out.trans (hb2.mono HBr.out.size))
            clear HC hb2 HBr
            go_wp2
            go_roundw
            case rel => exact ⟨k + 1, by omega, by go_num, HT2, HB2.out⟩
            case measure => simp [intOf]; omega
          | false =>
            rw [hcl, e1] at hT2
            rw [hcl] at HC
            have HT2 : Hid (bs.all (fun c => c == -1 || clB l c) = false) := hT2
            have HBr := (show Hid _ from hbr)
            clear hT hT2 hbr hcl
            go_wp2_with fail
            refine Calls.mono HC.out ?_
            rintro e w2 ⟨rfl, hb2⟩
            have HB2 := (show Hid _ from (HB.out w2 (HBr.out.trans (hb2.mono HBr.out.size))).1)
            clear HC hb2 HBr
            go_wp2
            go_ret
            exact ⟨by rw [HT2.out] <;> rfl, HB2.out⟩
      · obtain rfl : k = lv := by omega
        have HT2 : Hid (bs.all (fun c => c == -1 || clB l c) = true) := by
          exact hT.out.trans (by rw [List.drop_of_length_le (by omega)]; rfl)
        have HB2 := (show Hid _ from (HB.out wr hbr).1)
        clear hT hbr
        go_wp2
        go_ret
        exact ⟨by rw [HT2.out] <;> rfl, HB2.out⟩
  · rw [decide_eq_false (by omega), Bool.false_and]
    have i4 : ((lv : Int) != 4) = true := by rw [bne_iff_ne]; omega
    have HBw : Hid (Below w.heap.size w W1) := hb1
    clear hl hv hb1 hs1 n0 n1 HB HCl
    go_enter Tryz.func44, Tryz.ntmps44
    go_wp2
    go_ret
    exact ⟨rfl, by first | exact HBw.out | (rw [hW1]; exact HBw.out)⟩
set_option maxHeartbeats 800000 in
theorem implBind_any (a b v : Option Addr) (lb cap cb lv cv : Nat) (l bs : List Int) (w : World) (hl : Sl w b lb l) (hv : Sl w v lv bs) (hm : lb ≤ 1000000) (hm2 : lv ≤ 9223372036854775807) :
    Calls Tryz.prog 54 #[.agg #[.slice a lb cap, .slice b lb cb], .slice v lv cv] w fun e w' => e = .returned (.bool (bindB l bs)) ∧ Below w.heap.size w w' := by
  have hv1 := hv.1
  obtain ⟨W1, hW1⟩ : ∃ W1, w.alloc (.cells #[.slice a lb cap, .slice b lb cb] 36) = W1 := ⟨_, rfl⟩
  have hb1 : Below w.heap.size w W1 := by rw [← hW1]; exact (Below.refl _ _).alloc (Nat.le_refl _) _
  have n0 : W1.cell? ⟨w.heap.size, 0, none⟩ = some (.slice a lb cap) := by rw [← hW1]; simp [go_sem]
  have n1 : W1.cell? ⟨w.heap.size, 1, none⟩ = some (.slice b lb cb) := by rw [← hW1]; simp [go_sem]
  have hs1 : w.heap.size < W1.heap.size := by rw [← hW1]; simp
  have HB : Hid (∀ W, Below W1.heap.size W1 W → Below w.heap.size w W ∧ W.cell? ⟨w.heap.size, 0, none⟩ = some (.slice a lb cap) ∧ W.cell? ⟨w.heap.size, 1, none⟩ = some (.slice b lb cb) ∧ Sl W v lv bs) := fun W hW => ⟨hb1.trans (hW.mono hb1.size), (hW.cell (p := ⟨w.heap.size, 0, none⟩) hs1).trans n0, (hW.cell (p := ⟨w.heap.size, 1, none⟩) hs1).trans n1, (hv.keep hb1).keep hW⟩
  have HCl : Hid (∀ W k, Below W1.heap.size W1 W → Calls Tryz.prog 53 #[.agg #[.slice a lb cap, .slice b lb cb], .int .i64 k] W fun e w' => e = .returned (.bool (clB l k)) ∧ Below W.heap.size W w') := fun W k hW => implClass_any a b lb cap cb l k W ((hl.keep hb1).keep hW) hm
  unfold bindB
  by_cases h4 : lv = 4
  · rw [decide_eq_true (by omega), Bool.true_and]
    have i4 : ((lv : Int) != 4) = false := by rw [h4]; decide
    have HT : Hid (bs.all (fun c => c == -1 || clB l c) = (bs.drop 0).all fun c => c == -1 || clB l c) := by rw [List.drop_zero]; rfl
    clear hl hv hb1 hs1 n0 n1 h4
    go_enter Tryz.func54, Tryz.ntmps54
    go_wp2_with fail
    (try rw [hW1])
    clear hW1
    go_loopw [12] (fun i wr => ∃ (k : Nat), k ≤ lv ∧ i = .int .i64 k ∧ Hid (bs.all (fun c => c == -1 || clB l c) = (bs.drop k).all fun c => c == -1 || clB l c) ∧ Below W1.heap.size W1 wr) (fun i _ => lv - (intOf i).toNat)
    case atStart => exact ⟨0, Nat.zero_le _, rfl, HT.out, Below.refl _ _⟩
    case round =>
      obtain ⟨k, hk, rfl, hT, hbr⟩ := hrel
      clear HT
      by_cases hlt : k < lv
      · obtain ⟨hbw, q0, q1, hvr⟩ := HB.out wr hbr
        obtain ⟨bb, bo, rfl, hbl, hc⟩ : ∃ bb bo, v = some ⟨bb, bo, none⟩ ∧ bb < wr.heap.size ∧ ∀ i, i < lv → wr.cell? ⟨bb, bo + i, none⟩ = some (.int .i64 (bs.getD i 0)) := by
          rcases hvr.2 with h0 | h0
          · omega
          · exact h0
        have c0 := hc k hlt
        have hd := all_drop (f := fun c => c == -1 || clB l c) (bs := bs) (k := k) (by omega)
        have hkl : (k : Int) < lv := by omega
        obtain ⟨x, hx⟩ : ∃ x, bs.getD k 0 = x := ⟨_, rfl⟩
        rw [hx] at c0 hd
        have hT2 := hT.out
        rw [hd] at hT2
        clear hx hvr hc hd hbw
        by_cases hm1 : x = -1
        · subst hm1
          have HT2 : Hid (bs.all (fun c => c == -1 || clB l c) = (bs.drop (k + 1)).all fun c => c == -1 || clB l c) := by
            show _ = _
            rw [hT2]; rfl
          clear hT hT2
          go_wp2
          go_roundw
          case rel => exact ⟨k + 1, by omega, by go_num, HT2, hbr⟩
          case measure => simp [intOf]; omega
        · have e1 : (x == -1) = false := by simpa using hm1
          have e2 : (x != -1) = true := by simpa using hm1
          have HC := (show Hid _ from HCl.out wr x hbr)
          cases hcl : clB l x with
          | true =>
            rw [hcl] at HC hT2
            have HT2 : Hid (bs.all (fun c => c == -1 || clB l c) = (bs.drop (k + 1)).all fun c => c == -1 || clB l c) := by
              show _ = _
              rw [hT2, Bool.or_true, Bool.true_and]
            have HBr := (show Hid _ from hbr)
            clear hT hT2 hbr hcl
            go_wp2_with fail
            refine Calls.mono HC.out ?_
            rintro e w2 ⟨rfl, hb2⟩
            have HB2 := (show Hid _ from HBr.out.trans (hb2.mono HBr.out.size))
            clear HC hb2 HBr
            go_wp2
            go_roundw
            case rel => exact ⟨k + 1, by omega, by go_num, HT2, HB2.out⟩
            case measure => simp [intOf]; omega
          | false =>
            rw [hcl, e1] at hT2
            rw [hcl] at HC
            have HT2 : Hid (bs.all (fun c => c == -1 || clB l c) = false) := hT2
            have HBr := (show Hid _ from hbr)
            clear hT hT2 hbr hcl
            go_wp2_with fail
            refine Calls.mono HC.out ?_
            rintro e w2 ⟨rfl, hb2⟩
            have HB2 := (show Hid _ from (HB.out w2 (HBr.out.trans (hb2.mono HBr.out.size))).1)
            clear HC hb2 HBr
            go_wp2
            go_ret
            exact ⟨by rw [HT2.out] <;> rfl, HB2.out⟩
      · obtain rfl : k = lv := by omega
        have HT2 : Hid (bs.all (fun c => c == -1 || clB l c) = true) := by
          exact hT.out.trans (by rw [List.drop_of_length_le (by omega)]; rfl)
        have HB2 := (show Hid _ from (HB.out wr hbr).1)
        clear hT hbr
        go_wp2
        go_ret
        exact ⟨by rw [HT2.out] <;> rfl, HB2.out⟩
  · rw [decide_eq_false (by omega), Bool.false_and]
    have i4 : ((lv : Int) != 4) = true := by rw [bne_iff_ne]; omega
    have HBw : Hid (Below w.heap.size w W1) := hb1
    clear hl hv hb1 hs1 n0 n1 HB HCl
    go_enter Tryz.func54, Tryz.ntmps54
    go_wp2
    go_ret
    exact ⟨rfl, by first | exact HBw.out | (rw [hW1]; exact HBw.out)⟩
end Go.Proofs.YtobgkfpjokfbaaaGreatDoor
