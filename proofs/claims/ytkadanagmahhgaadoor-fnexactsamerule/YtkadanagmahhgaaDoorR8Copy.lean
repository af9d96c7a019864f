/-
  PROVED HERE: what the laws' own weighing, copying and comparing of rules answer, at every rule of at most a million nodes. No other condition.
-/
import Derived.Test.YtkadanagmahhgaaDoorNodes
import Derived.Deep.RegionWith
namespace Go.Proofs.YtkadanagmahhgaaDoor
open Go.ChangeShapes Go.WideShapes Go.ChangeAt Go.RowKit
set_option linter.unusedVariables false

/-- What is left of n behind a rule's nodes. -/
def szRV (n a b : Nat) : Int := if a + b ≤ n then ((n - a - b : Nat) : Int) else -1
set_option maxHeartbeats 800000 in
theorem szR_any (a b : Option Addr) (len cap lb cb : Nat) (n : Nat) (w : World) (hn : n ≤ 1048576) (hm : len ≤ 9223372036854775807) (hm2 : lb ≤ 9223372036854775807) :
    Calls Tryd.prog 4 #[.agg #[.slice a len cap, .slice b lb cb], .int .i64 n] w fun e w' => e = .returned (.int .i64 (szRV n len lb)) ∧ Below w.heap.size w w' := by
  obtain ⟨W1, hW1⟩ : ∃ W1, w.alloc (.cells #[.slice a len cap, .slice b lb cb] 24) = W1 := ⟨_, rfl⟩
  have hb1 : Below w.heap.size w W1 := by rw [← hW1]; exact (Below.refl _ _).alloc (Nat.le_refl _) _
  have n0 : W1.cell? ⟨w.heap.size, 0, none⟩ = some (.slice a len cap) := by rw [← hW1]; simp [go_sem]
  have n1 : W1.cell? ⟨w.heap.size, 1, none⟩ = some (.slice b lb cb) := by rw [← hW1]; simp [go_sem]
  have HB : Hid (Below w.heap.size w W1) := hb1
  have HZ := (show Hid _ from sz_any a len cap n W1 hn hm)
  unfold szRV
  by_cases h1 : len ≤ n
  · rw [if_pos h1] at HZ
    have HY := (show Hid _ from sz_any b lb cb (n - len) W1 (by omega) hm2)
    by_cases h2 : lb ≤ n - len
    · rw [if_pos h2] at HY
      rw [if_pos (by omega)]
      have z1 : ¬ ((n - len : Nat) : Int) < 0 := by omega
      have z2 : ¬ ((n - len - lb : Nat) : Int) < 0 := by omega
      generalize ((n - len - lb : Nat) : Int) = y at HY z2 ⊢
      generalize ((n - len : Nat) : Int) = x at HZ HY z1
      clear h1 h2 hb1
      go_enter Tryd.func4, Tryd.ntmps4
      go_wp2_with fail
      (try rw [hW1])
      refine Calls.mono HZ.out ?_
      rintro e w2 ⟨rfl, rfl⟩
      clear HZ hW1
      go_wp2_with fail
      refine Calls.mono HY.out ?_
      rintro e w3 ⟨rfl, rfl⟩
      clear HY
      go_wp2
      go_ret
      exact ⟨rfl, HB.out⟩
    · rw [if_neg h2] at HY
      rw [if_neg (by omega)]
      have z1 : ¬ ((n - len : Nat) : Int) < 0 := by omega
      generalize ((n - len : Nat) : Int) = x at HZ HY z1
      clear h1 h2 hb1
      go_enter Tryd.func4, Tryd.ntmps4
      go_wp2_with fail
      (try rw [hW1])
      refine Calls.mono HZ.out ?_
      rintro e w2 ⟨rfl, rfl⟩
      clear HZ hW1
      go_wp2_with fail
      refine Calls.mono HY.out ?_
      rintro e w3 ⟨rfl, rfl⟩
      clear HY
      go_wp2
      go_ret
      exact ⟨rfl, HB.out⟩
  · rw [if_neg h1] at HZ
    rw [if_neg (by omega)]
    clear h1 hb1
    go_enter Tryd.func4, Tryd.ntmps4
    go_wp2_with fail
    (try rw [hW1])
    refine Calls.mono HZ.out ?_
    rintro e w2 ⟨rfl, rfl⟩
    clear HZ hW1
    go_wp2
    go_ret
    exact ⟨rfl, HB.out⟩
theorem NSl.of_heap {w w' : World} {b len : Nat} {p : List (Int × Int)} (h : NSl w (some ⟨b, 0, none⟩) len p) (hs : w'.heap.size = w.heap.size) (hb : w'.heap[b]? = w.heap[b]?) : NSl w' (some ⟨b, 0, none⟩) len p := by
  refine ⟨h.1, ?_⟩
  rcases h.2 with h0 | ⟨b', off, e, h1, h2⟩
  · exact .inl h0
  · cases e
    refine .inr ⟨b, 0, rfl, by omega, fun i hi => ?_⟩
    obtain ⟨h3, h4⟩ := h2 i hi
    exact ⟨(World.cell?_of_block (a := ⟨b, 0 + i * 2, none⟩) hb).trans h3, (World.cell?_of_block (a := ⟨b, 0 + i * 2 + 1, none⟩) hb).trans h4⟩
set_option maxHeartbeats 1600000 in
theorem copyR_any (a b : Option Addr) (len cap lb cb : Nat) (p q : List (Int × Int)) (w : World) (h : NSl w a len p) (hl : NSl w b lb q) (hn : len ≤ 1048576) (hn2 : lb ≤ 1048576) :
    Calls Tryd.prog 6 #[.agg #[.slice a len cap, .slice b lb cb]] w fun e w' => ∃ g gp, e = .returned (.agg #[.slice (some ⟨g, 0, none⟩) len len, .slice (some ⟨gp, 0, none⟩) lb lb]) ∧ Below w.heap.size w w' ∧ NSl w' (some ⟨g, 0, none⟩) len p ∧ NSl w' (some ⟨gp, 0, none⟩) lb q := by
  obtain ⟨W1, hW1⟩ : ∃ W1, ((w.alloc (.cells #[.slice a len cap, .slice b lb cb] 24)).alloc (.cells #[.slice none 0 0, .slice none 0 0] 30)).alloc (.cells #[.slice none 0 0, .slice none 0 0] 30) = W1 := ⟨_, rfl⟩
  have hb1 : Below w.heap.size w W1 := by rw [← hW1]; exact (((Below.refl _ _).alloc (Nat.le_refl _) _).alloc (by simp) _).alloc (by simp; omega) _
  have hsz : W1.heap.size = w.heap.size + 3 := by rw [← hW1]; simp
  have n0 : W1.cell? ⟨w.heap.size, 0, none⟩ = some (.slice a len cap) := by rw [← hW1]; simp [go_sem]
  have n1 : W1.cell? ⟨w.heap.size, 1, none⟩ = some (.slice b lb cb) := by rw [← hW1]; simp [go_sem]
  have m0 : W1.cell? ⟨w.heap.size + 1, 0, none⟩ = some (.slice none 0 0) := by rw [← hW1]; simp [go_sem]
  have m1 : W1.cell? ⟨w.heap.size + 1, 1, none⟩ = some (.slice none 0 0) := by rw [← hW1]; simp [go_sem]
  have o0 : W1.cell? ⟨w.heap.size + 1 + 1, 0, none⟩ = some (.slice none 0 0) := by rw [← hW1]; simp [go_sem]
  have o1 : W1.cell? ⟨w.heap.size + 1 + 1, 1, none⟩ = some (.slice none 0 0) := by rw [← hW1]; simp [go_sem]
  have f0 : W1.frozen? ⟨w.heap.size + 1, 0, none⟩ = false := by rw [← hW1]; simp [go_sem]
  have f1 : W1.frozen? ⟨w.heap.size + 1, 1, none⟩ = false := by rw [← hW1]; simp [go_sem]
  have f2 : W1.frozen? ⟨w.heap.size + 1 + 1, 0, none⟩ = false := by rw [← hW1]; simp [go_sem]
  have f3 : W1.frozen? ⟨w.heap.size + 1 + 1, 1, none⟩ = false := by rw [← hW1]; simp [go_sem]
  have HC := (show Hid _ from copyN_any a len cap p W1 (h.keep hb1) hn)
  have HI : Hid (∀ W, Below w.heap.size w W → Calls Tryd.prog 12 #[.slice b lb cb] W fun e w' => e = .returned (.slice (some ⟨W.heap.size, 0, none⟩) lb lb) ∧ Below W.heap.size W w' ∧ NSl w' (some ⟨W.heap.size, 0, none⟩) lb q) := fun W hW => copyN_any b lb cb q W (hl.keep hW) hn2
  clear h hl
  go_enter Tryd.func6, Tryd.ntmps6
  go_wp2_with fail
  (try rw [hW1])
  refine Calls.mono HC.out ?_
  rintro e w2 ⟨rfl, hb2, hE2⟩
  have lt1 : w.heap.size < W1.heap.size := by omega
  have lt2 : w.heap.size + 1 < W1.heap.size := by omega
  have lt3 : w.heap.size + 1 + 1 < W1.heap.size := by omega
  have q1 := (hb2.cell (p := ⟨w.heap.size, 1, none⟩) lt1).trans n1
  have q2 := (hb2.cell (p := ⟨w.heap.size + 1, 0, none⟩) lt2).trans m0
  have q3 := (hb2.cell (p := ⟨w.heap.size + 1, 1, none⟩) lt2).trans m1
  have q4 := (hb2.cell (p := ⟨w.heap.size + 1 + 1, 0, none⟩) lt3).trans o0
  have q5 := (hb2.cell (p := ⟨w.heap.size + 1 + 1, 1, none⟩) lt3).trans o1
  have r2 := (hb2.frozen (p := ⟨w.heap.size + 1, 0, none⟩) lt2).trans f0
  have r3 := (hb2.frozen (p := ⟨w.heap.size + 1, 1, none⟩) lt2).trans f1
  have r4 := (hb2.frozen (p := ⟨w.heap.size + 1 + 1, 0, none⟩) lt3).trans f2
  have r5 := (hb2.frozen (p := ⟨w.heap.size + 1 + 1, 1, none⟩) lt3).trans f3
  have hB2 : Below w.heap.size w w2 := hb1.trans (hb2.mono hb1.size)
  have hg2 : W1.heap.size ≤ w2.heap.size := hb2.size
  obtain ⟨g, hg⟩ : ∃ g, W1.heap.size = g := ⟨_, rfl⟩
  rw [hg] at hE2 hg2 lt1 lt2 lt3 ⊢
  clear hb2 HC hb1 n0 n1 m0 m1 o0 o1 f0 f1 f2 f3 hW1 hsz hg
  obtain ⟨W3, hW3⟩ : ∃ W3, w2.setCell ⟨w.heap.size + 1 + 1, 0, none⟩ (.slice (some ⟨g, 0, none⟩) len len) = W3 := ⟨_, rfl⟩
  have hB3 : Below w.heap.size w W3 := by rw [← hW3]; exact hB2.setCell (by show w.heap.size ≤ w.heap.size + 1 + 1; omega) _
  have hs3 : W3.heap.size = w2.heap.size := by rw [← hW3]; simp [World.setCell]
  have hE3 : NSl W3 (some ⟨g, 0, none⟩) len p := hE2.of_heap hs3 (by rw [← hW3]; exact Below.heap_setCell _ _ _ _ (by show g ≠ w.heap.size + 1 + 1; omega))
  have l0 : w.heap.size < W3.heap.size := by omega
  have l1 : w.heap.size + 1 < W3.heap.size := by omega
  have l2 : w.heap.size + 1 + 1 < W3.heap.size := by omega
  have s1 : W3.cell? ⟨w.heap.size, 1, none⟩ = some (.slice b lb cb) := by rw [← hW3]; simp [go_sem, q1]
  have s2 : W3.cell? ⟨w.heap.size + 1, 0, none⟩ = some (.slice none 0 0) := by rw [← hW3]; simp [go_sem, q2]
  have s3 : W3.cell? ⟨w.heap.size + 1, 1, none⟩ = some (.slice none 0 0) := by rw [← hW3]; simp [go_sem, q3]
  have s4 : W3.cell? ⟨w.heap.size + 1 + 1, 0, none⟩ = some (.slice (some ⟨g, 0, none⟩) len len) := by rw [← hW3]; simp [go_sem, q4]
  have s5 : W3.cell? ⟨w.heap.size + 1 + 1, 1, none⟩ = some (.slice none 0 0) := by rw [← hW3]; simp [go_sem, q5]
  have u2 : W3.frozen? ⟨w.heap.size + 1, 0, none⟩ = false := by rw [← hW3]; simpa [go_sem] using r2
  have u3 : W3.frozen? ⟨w.heap.size + 1, 1, none⟩ = false := by rw [← hW3]; simpa [go_sem] using r3
  have u5 : W3.frozen? ⟨w.heap.size + 1 + 1, 1, none⟩ = false := by rw [← hW3]; simpa [go_sem] using r5
  have HE3 : Hid (NSl W3 (some ⟨g, 0, none⟩) len p) := hE3
  have HB3 := (show Hid _ from hB3)
  have HI3 := (show Hid _ from HI.out W3 hB3)
  clear hE2 hB2 hE3 hB3 HI
  go_wp2_with fail
  (try rw [hW3])
  refine Calls.mono HI3.out ?_
  rintro e w4 ⟨rfl, hb4, hs4⟩
  have a2 := (hb4.cell (p := ⟨w.heap.size + 1, 0, none⟩) l1).trans s2
  have a3 := (hb4.cell (p := ⟨w.heap.size + 1, 1, none⟩) l1).trans s3
  have a4 := (hb4.cell (p := ⟨w.heap.size + 1 + 1, 0, none⟩) l2).trans s4
  have a5 := (hb4.cell (p := ⟨w.heap.size + 1 + 1, 1, none⟩) l2).trans s5
  have b2 := (hb4.frozen (p := ⟨w.heap.size + 1, 0, none⟩) l1).trans u2
  have b3 := (hb4.frozen (p := ⟨w.heap.size + 1, 1, none⟩) l1).trans u3
  have b5 := (hb4.frozen (p := ⟨w.heap.size + 1 + 1, 1, none⟩) l2).trans u5
  have HX : Hid (Below w.heap.size w w4 ∧ NSl w4 (some ⟨g, 0, none⟩) len p ∧ NSl w4 (some ⟨W3.heap.size, 0, none⟩) lb q) := ⟨HB3.out.trans (hb4.mono HB3.out.size), HE3.out.keep hb4, hs4⟩
  have hgp : w2.heap.size ≤ W3.heap.size := by omega
  obtain ⟨gp, hgp'⟩ : ∃ gp, W3.heap.size = gp := ⟨_, rfl⟩
  rw [hgp'] at HX hgp ⊢
  clear hb4 hs4 HE3 HB3 HI3 hW3 s1 s2 s3 s4 s5 u2 u3 u5 q1 q2 q3 q4 q5 r2 r3 r4 r5 l0 l1 l2 hs3 hgp'
  have HP : Hid (∀ v1 v2 v3 : Value, ∀ w5, ((w4.setCell ⟨w.heap.size + 1 + 1, 1, none⟩ v1).setCell ⟨w.heap.size + 1, 0, none⟩ v2).setCell ⟨w.heap.size + 1, 1, none⟩ v3 = w5 → Below w.heap.size w w5 ∧ NSl w5 (some ⟨g, 0, none⟩) len p ∧ NSl w5 (some ⟨gp, 0, none⟩) lb q) := fun v1 v2 v3 w5 h5 => by
    obtain ⟨x1, x2, x3⟩ := HX.out
    have hs5 : w5.heap.size = w4.heap.size := by rw [← h5]; simp [World.setCell]
    have hblk : ∀ b, g ≤ b → w5.heap[b]? = w4.heap[b]? := fun b hb => by
      rw [← h5, Below.heap_setCell _ _ _ _ (by show b ≠ w.heap.size + 1; omega), Below.heap_setCell _ _ _ _ (by show b ≠ w.heap.size + 1; omega), Below.heap_setCell _ _ _ _ (by show b ≠ w.heap.size + 1 + 1; omega)]
    refine ⟨?_, x2.of_heap hs5 (hblk g (Nat.le_refl _)), x3.of_heap hs5 (hblk gp (by omega))⟩
    rw [← h5]; exact ((x1.setCell (by show w.heap.size ≤ w.heap.size + 1 + 1; omega) _).setCell (by show w.heap.size ≤ w.heap.size + 1; omega) _).setCell (by show w.heap.size ≤ w.heap.size + 1; omega) _
  go_wp2
  refine bodyPost_ret (v := .agg #[.slice (some ⟨g, 0, none⟩) len len, .slice (some ⟨gp, 0, none⟩) lb lb]) (by simp [results, Tryd.results6, go_sem, *]) rfl ⟨g, gp, rfl, ?_⟩
  exact HP.out _ _ _ _ rfl
theorem eqR_same (a b a' b' : Option Addr) (len cap cap' lb cb cb' : Nat) (p q : List (Int × Int)) (w : World) (h : NSl w a len p) (h' : NSl w a' len p) (hl : NSl w b lb q) (hl' : NSl w b' lb q) (hn : len ≤ 1048576) (hn2 : lb ≤ 1048576) :
    Calls Tryd.prog 8 #[.agg #[.slice a len cap, .slice b lb cb], .agg #[.slice a' len cap', .slice b' lb cb']] w fun e w' => e = .returned (.bool true) ∧ Below w.heap.size w w' := by
  obtain ⟨W1, hW1⟩ : ∃ W1, (w.alloc (.cells #[.slice a len cap, .slice b lb cb] 30)).alloc (.cells #[.slice a' len cap', .slice b' lb cb'] 30) = W1 := ⟨_, rfl⟩
  have hb1 : Below w.heap.size w W1 := by rw [← hW1]; exact ((Below.refl _ _).alloc (Nat.le_refl _) _).alloc (by simp) _
  have hsz : W1.heap.size = w.heap.size + 2 := by rw [← hW1]; simp
  have n0 : W1.cell? ⟨w.heap.size, 0, none⟩ = some (.slice a len cap) := by rw [← hW1]; simp [go_sem]
  have n1 : W1.cell? ⟨w.heap.size, 1, none⟩ = some (.slice b lb cb) := by rw [← hW1]; simp [go_sem]
  have m0 : W1.cell? ⟨w.heap.size + 1, 0, none⟩ = some (.slice a' len cap') := by rw [← hW1]; simp [go_sem]
  have m1 : W1.cell? ⟨w.heap.size + 1, 1, none⟩ = some (.slice b' lb cb') := by rw [← hW1]; simp [go_sem]
  have lt0 : w.heap.size < W1.heap.size := by omega
  have lt1 : w.heap.size + 1 < W1.heap.size := by omega
  have HE := (show Hid _ from eqN_same a a' len cap cap' p W1 (h.keep hb1) (h'.keep hb1) hn)
  have HI : Hid (∀ W, Below W1.heap.size W1 W → Calls Tryd.prog 15 #[.slice b lb cb, .slice b' lb cb'] W fun e w' => e = .returned (.bool true) ∧ Below W.heap.size W w') := fun W hW => eqN_same b b' lb cb cb' q W ((hl.keep hb1).keep hW) ((hl'.keep hb1).keep hW) hn2
  have HF : Hid (∀ W, Below W1.heap.size W1 W → Below w.heap.size w W) := fun W hW => hb1.trans (hW.mono hb1.size)
  clear h h' hl hl' hb1 hsz
  go_enter Tryd.func8, Tryd.ntmps8
  go_wp2_with fail
  (try rw [hW1])
  refine Calls.mono HE.out ?_
  rintro e w2 ⟨rfl, hb2⟩
  have q1 := (hb2.cell (p := ⟨w.heap.size, 1, none⟩) lt0).trans n1
  have q2 := (hb2.cell (p := ⟨w.heap.size + 1, 1, none⟩) lt1).trans m1
  have HI2 := (show Hid _ from HI.out w2 hb2)
  clear HE hW1 HI
  go_wp2_with fail
  refine Calls.mono HI2.out ?_
  rintro e w3 ⟨rfl, hb3⟩
  have HB3 : Hid (Below w.heap.size w w3) := HF.out _ (hb2.trans (hb3.mono hb2.size))
  clear HI2 hb2 hb3
  go_wp2
  go_ret
  exact ⟨rfl, HB3.out⟩
end Go.Proofs.YtkadanagmahhgaaDoor
