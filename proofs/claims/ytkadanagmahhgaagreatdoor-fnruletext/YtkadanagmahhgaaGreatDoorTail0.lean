/-
  PROVED HERE: a slice of numbers that came in, opened by the form's own reading, holds its list. No condition. what the laws' own drawing of numbers out of bytes answers: some number within its range, whatever the bytes; nothing but the cursor is written. No condition. which number the laws' own cursor draws. No condition. a new cursor, and one of some numbers. No condition.
-/
import Derived.Test.YtkadanagmahhgaaGreatDoorRun1
import Derived.Test.YtkadanagmahhgaaGreatDoorRun27
import Derived.Test.YtkadanagmahhgaaGreatDoorRun0
namespace Go.Proofs.YtkadanagmahhgaaGreatDoor
open Go.ChangeShapes Go.WideShapes Go.ChangeAt Go.RowKit
set_option linter.unusedVariables false

/-- A slice of integers that came in: it is nil; or it leads to a row of 'cap' cells, the numbers 'zs' (the first 'len' are its elements). -/
def IsRow (k : IntKind) (w : World) (a : Option Addr) (len cap : Nat) (zs : List Int) : Prop :=
  (a = none ∧ len = 0 ∧ cap = 0 ∧ zs = []) ∨
  ∃ x, a = some x ∧ len ≤ cap ∧ cap ≤ maxLen ∧ zs.length = cap ∧ (∀ i, i < zs.length → w.cell? (x.add i) = some (.int k (zs.getD i 0))) ∧ ∀ n ∈ zs, (Lit.int k n).wf = true

theorem IsRow.bound {k : IntKind} {w : World} {a : Option Addr} {len cap : Nat} {zs : List Int} (h : IsRow k w a len cap zs) : len ≤ 9223372036854775807 := by
  rcases h with ⟨_, rfl, _⟩ | ⟨x, _, h1, h2, _⟩
  · decide
  · unfold maxLen at h2; omega

/-- Its cells, where there is one. -/
theorem IsRow.at {k : IntKind} {w : World} {a : Option Addr} {len cap : Nat} {zs : List Int} (h : IsRow k w a len cap zs) (h0 : 0 < len) :
    ∃ b off, a = some ⟨b, off, none⟩ ∧ b < w.heap.size ∧ ∀ i, i < len → w.cell? ⟨b, off + i, none⟩ = some (.int k ((zs.take len).getD i 0)) := by
  rcases h with ⟨_, rfl, _⟩ | ⟨⟨b, off, spot⟩, rfl, hl, hm, hz, hc, hw⟩
  · omega
  · have hspot : spot = none := by simpa [Addr.add] using World.cell?_spot (hc 0 (by omega))
    subst hspot
    refine ⟨b, off, rfl, ?_, fun i hi => ?_⟩
    · have := World.block_lt_of_cell? w _ (hc 0 (by omega))
      simpa [Addr.add] using this
    · have h1 : (zs.take len).getD i 0 = zs.getD i 0 := by
        simp only [List.getD_eq_getElem?_getD, List.getElem?_take]
        rw [if_pos hi]
      rw [h1]
      have h2 := hc i (by omega)
      by_cases hi0 : i = 0
      · subst hi0
        simpa [Addr.add] using h2
      · simpa [Addr.add, hi0] using h2
theorem IsRow.len {k : IntKind} {w : World} {a : Option Addr} {len cap : Nat} {zs : List Int} (h : IsRow k w a len cap zs) : (zs.take len).length = len := by
  rcases h with ⟨_, rfl, _, rfl⟩ | ⟨x, rfl, hl, hm, hz, hc, hw⟩
  · rfl
  · simp; omega

theorem Sl.of {w : World} {a : Option Addr} {len cap : Nat} {zs : List Int} (h : IsRow .i64 w a len cap zs) : Sl w a len (zs.take len) := by
  refine ⟨h.len, ?_⟩
  by_cases h0 : len = 0
  · exact .inl h0
  · exact .inr (h.at (by omega))
end Go.Proofs.YtkadanagmahhgaaGreatDoor
namespace Go.Proofs.YtkadanagmahhgaaGreatDoor
open Go.ChangeShapes Go.WideShapes Go.ChangeAt Go.RowKit
open Odd
set_option linter.unusedVariables false
attribute [local go_sem] andu255

/-- The bytes that are drawn from. -/
def Bytes (w : World) (c : Nat) (a : Option Addr) (len : Nat) : Prop :=
  len = 0 ∨ ∃ b off, a = some ⟨b, off, none⟩ ∧ b < c ∧ ∀ i, i < len → ∃ z : Int, w.cell? ⟨b, off + i, none⟩ = some (.int .u8 z) ∧ 0 ≤ z ∧ z ≤ 255

/-- The cursor lies in block c and has drawn n times. -/
def Cur (w : World) (c n : Nat) : Prop :=
  ∃ (a : Option Addr) (len cap : Nat) (s : Int), len ≤ 1048576 ∧ n ≤ 1048576 ∧ Bytes w c a len ∧
    w.cell? ⟨c, 0, none⟩ = some (.slice a len cap) ∧ w.cell? ⟨c, 1, none⟩ = some (.int .i64 n) ∧ w.cell? ⟨c, 2, none⟩ = some (.int .u64 s) ∧
    w.frozen? ⟨c, 1, none⟩ = false ∧ w.frozen? ⟨c, 2, none⟩ = false

/-- A world in which the cursor's two numbers have been written. -/
theorem stepped (w : World) (c m k : Nat) (u v x : Value) (h0 : w.cell? ⟨c, 0, none⟩ = some x) (h1 : ∃ y, w.cell? ⟨c, 1, none⟩ = some y) (h2 : ∃ y, w.cell? ⟨c, 2, none⟩ = some y)
    (f1 : w.frozen? ⟨c, 1, none⟩ = false) (f2 : w.frozen? ⟨c, 2, none⟩ = false) :
    w.grownBy ((((w.drewN m).setCell ⟨c, 1, none⟩ u).setCell ⟨c, 2, none⟩ v).drewN k) (some c) ∧
    ((((w.drewN m).setCell ⟨c, 1, none⟩ u).setCell ⟨c, 2, none⟩ v).drewN k).cell? ⟨c, 0, none⟩ = some x ∧
    ((((w.drewN m).setCell ⟨c, 1, none⟩ u).setCell ⟨c, 2, none⟩ v).drewN k).cell? ⟨c, 1, none⟩ = some u ∧
    ((((w.drewN m).setCell ⟨c, 1, none⟩ u).setCell ⟨c, 2, none⟩ v).drewN k).cell? ⟨c, 2, none⟩ = some v ∧
    ((((w.drewN m).setCell ⟨c, 1, none⟩ u).setCell ⟨c, 2, none⟩ v).drewN k).frozen? ⟨c, 1, none⟩ = false ∧
    ((((w.drewN m).setCell ⟨c, 1, none⟩ u).setCell ⟨c, 2, none⟩ v).drewN k).frozen? ⟨c, 2, none⟩ = false := by
  obtain ⟨y1, h1⟩ := h1
  obtain ⟨y2, h2⟩ := h2
  refine ⟨⟨rfl, rfl, rfl, ?_, fun j hj hne => ?_⟩, ?_, ?_, ?_, ?_, ?_⟩
  · simp [World.drewN, World.setCell]
  · have hne' : j ≠ c := fun e => hne (by rw [e])
    show (((w.drewN m).setCell ⟨c, 1, none⟩ u).setCell ⟨c, 2, none⟩ v).heap[j]? = _
    rw [Below.heap_setCell _ _ _ _ hne', Below.heap_setCell _ _ _ _ hne']
    rfl
  · simp [go_sem, h0]
  · simp [go_sem, h1]
  · simp [go_sem, h2]
  · simp [go_sem, f1]
  · simp [go_sem, f2]

theorem next_in (w : World) (c n b off len cap : Nat) (s z : Int) (h0 : w.cell? ⟨c, 0, none⟩ = some (.slice (some ⟨b, off, none⟩) len cap)) (h1 : w.cell? ⟨c, 1, none⟩ = some (.int .i64 n)) (h2 : w.cell? ⟨c, 2, none⟩ = some (.int .u64 s))
    (f1 : w.frozen? ⟨c, 1, none⟩ = false) (f2 : w.frozen? ⟨c, 2, none⟩ = false) (hb : b ≠ c) (hz : w.cell? ⟨b, off + n, none⟩ = some (.int .u8 z)) (hlt : n < len) (hlen : len ≤ 1048576) (z0 : 0 ≤ z) (z1 : z ≤ 255) :
    Calls Tryz.prog 59 #[.pointer (some ⟨c, 0, none⟩)] w fun e w' => e = .returned (.int .i64 z) ∧ w.grownBy w' (some c) ∧ (∃ s' : Int, w'.cell? ⟨c, 2, none⟩ = some (.int .u64 s')) ∧ w'.cell? ⟨c, 0, none⟩ = some (.slice (some ⟨b, off, none⟩) len cap) ∧ w'.cell? ⟨c, 1, none⟩ = some (.int .i64 (n + 1 : Nat)) ∧ w'.frozen? ⟨c, 1, none⟩ = false ∧ w'.frozen? ⟨c, 2, none⟩ = false := by
  have hl : (n : Int) < len := by omega
  go_enter Tryz.func59, Tryz.ntmps59
  go_wp2
  go_quiet (fail)
  go_wp2
  go_quiet (fail)
  go_wp2
  go_quiet (fail)
  go_wp2
  go_ret
  refine ⟨rfl, ?_⟩
  have H := fun m k u v => stepped w c m k u v _ h0 ⟨_, h1⟩ ⟨_, h2⟩ f1 f2
  refine ⟨(H _ _ _ _).1, ⟨_, (H _ _ _ _).2.2.2.1⟩, (H _ _ _ _).2.1, (H _ _ _ _).2.2.1, (H _ _ _ _).2.2.2.2.1, (H _ _ _ _).2.2.2.2.2⟩

theorem next_out (w : World) (c n len cap : Nat) (a : Option Addr) (s : Int) (h0 : w.cell? ⟨c, 0, none⟩ = some (.slice a len cap)) (h1 : w.cell? ⟨c, 1, none⟩ = some (.int .i64 n)) (h2 : w.cell? ⟨c, 2, none⟩ = some (.int .u64 s))
    (f1 : w.frozen? ⟨c, 1, none⟩ = false) (f2 : w.frozen? ⟨c, 2, none⟩ = false) (hlt : len ≤ n) (hn : n ≤ 1048576) :
    Calls Tryz.prog 59 #[.pointer (some ⟨c, 0, none⟩)] w fun e w' => (∃ v : Int, e = .returned (.int .i64 v) ∧ 0 ≤ v ∧ v ≤ 255) ∧ w.grownBy w' (some c) ∧ (∃ s' : Int, w'.cell? ⟨c, 2, none⟩ = some (.int .u64 s')) ∧ w'.cell? ⟨c, 0, none⟩ = some (.slice a len cap) ∧ w'.cell? ⟨c, 1, none⟩ = some (.int .i64 (n + 1 : Nat)) ∧ w'.frozen? ⟨c, 1, none⟩ = false ∧ w'.frozen? ⟨c, 2, none⟩ = false := by
  have hl : ¬ (n : Int) < len := by omega
  have hl' : ¬ (n : Int) + 1 ≤ len := by omega
  go_enter Tryz.func59, Tryz.ntmps59
  go_wp2
  go_quiet (fail)
  go_wp2
  go_quiet (fail)
  go_wp2
  go_ret
  refine ⟨⟨_, rfl, ?_, ?_⟩, ?_⟩
  · omega
  · omega
  have H := fun m k u v => stepped w c m k u v _ h0 ⟨_, h1⟩ ⟨_, h2⟩ f1 f2
  refine ⟨(H _ _ _ _).1, ⟨_, (H _ _ _ _).2.2.2.1⟩, (H _ _ _ _).2.1, (H _ _ _ _).2.2.1, (H _ _ _ _).2.2.2.2.1, (H _ _ _ _).2.2.2.2.2⟩

theorem Bytes.grown {w w' : World} {c : Nat} {a : Option Addr} {len : Nat} (h : Bytes w c a len) (hg : w.grownBy w' (some c)) : Bytes w' c a len := by
  rcases h with h0 | ⟨b, off, ha, hb, hc⟩
  · exact .inl h0
  · refine .inr ⟨b, off, ha, hb, fun i hi => ?_⟩
    obtain ⟨z, hz, r⟩ := hc i hi
    exact ⟨z, hg.cell hz (by intro e; simp at e; omega), r⟩

theorem next_any (w : World) (c n : Nat) (h : Cur w c n) (hn : n < 1048576) :
    Calls Tryz.prog 59 #[.pointer (some ⟨c, 0, none⟩)] w fun e w' => ∃ v : Int, e = .returned (.int .i64 v) ∧ 0 ≤ v ∧ v ≤ 255 ∧ Cur w' c (n + 1) ∧ w.grownBy w' (some c) := by
  obtain ⟨a, len, cap, s, hlen, hn', hby, h0, h1, h2, f1, f2⟩ := h
  by_cases hlt : n < len
  · have hby' := hby
    rcases hby with h00 | ⟨b, off, rfl, hb, hc⟩
    · omega
    · obtain ⟨z, hz, z0, z1⟩ := hc n hlt
      refine (next_in w c n b off len cap s z h0 h1 h2 f1 f2 (by omega) hz hlt hlen z0 z1).mono ?_
      rintro e w' ⟨rfl, hg, ⟨s', k2⟩, k0, k1, g1, g2⟩
      exact ⟨z, rfl, z0, z1, ⟨_, len, cap, s', hlen, by omega, hby'.grown hg, k0, k1, k2, g1, g2⟩, hg⟩
  · refine (next_out w c n len cap a s h0 h1 h2 f1 f2 (by omega) hn').mono ?_
    rintro e w' ⟨⟨v, rfl, v0, v1⟩, hg, ⟨s', k2⟩, k0, k1, g1, g2⟩
    exact ⟨v, rfl, v0, v1, ⟨_, len, cap, s', hlen, by omega, hby.grown hg, k0, k1, k2, g1, g2⟩, hg⟩

theorem pick_any (w : World) (c n : Nat) (m : Int) (h : Cur w c n) (hn : n < 1048576) (hm : 2 ≤ m) (hm' : m ≤ 200) :
    Calls Tryz.prog 27 #[.pointer (some ⟨c, 0, none⟩), .int .i64 m] w fun e w' => ∃ v : Int, e = .returned (.int .i64 v) ∧ 0 ≤ v ∧ v < m ∧ Cur w' c (n + 1) ∧ w.grownBy w' (some c) := by
  have hN := next_any w c n h hn
  clear h
  have h1 : ¬ m ≤ 1 := by omega
  have h2 : ¬ (200 : Int) < m := by omega
  go_enter Tryz.func27, Tryz.ntmps27
  go_wp2_with fail
  refine hN.mono ?_
  rintro e w1 ⟨v, rfl, v0, v1, hc, hg⟩
  go_wp2
  go_ret
  refine ⟨_, rfl, ?_, ?_, hc, hg⟩
  · exact Int.emod_nonneg _ (by omega)
  · exact Int.emod_lt_of_pos _ (by omega)

theorem gtrans {w1 w2 w3 : World} {c : Nat} (h : w1.grownBy w2 (some c)) (k : w2.grownBy w3 (some c)) : w1.grownBy w3 (some c) :=
  ⟨k.os.trans h.os, k.tape.trans h.tape, k.output.trans h.output, Nat.le_trans h.size k.size, fun i hi hne => (k.block i (Nat.lt_of_lt_of_le hi h.size) hne).trans (h.block i hi hne)⟩

theorem bits_range (op : BinOp) (x y : Int) : -9223372036854775808 ≤ bits op .i64 x y ∧ bits op .i64 x y ≤ 9223372036854775807 := by
  unfold bits
  rw [IntKind.wrap_i64]
  generalize ((_ : Nat) : Int) = t
  omega

/-- It draws a number, so often at most. -/
def Drew (w w' : World) (c n k : Nat) : Prop := (∃ n', n' ≤ n + k ∧ Cur w' c n') ∧ w.grownBy w' (some c)

theorem Cur.lt {w : World} {c n : Nat} (h : Cur w c n) : c < w.heap.size := by
  obtain ⟨a, len, cap, s, hlen, hn', hby, h0, _⟩ := h
  exact World.block_lt_of_cell? w ⟨c, 0, none⟩ h0

theorem Cur.kept {w w' : World} {c n : Nat} {row : Option Nat} (h : Cur w c n) (hg : w.grownBy w' row) (hr : ∀ r, row = some r → c < r) : Cur w' c n := by
  have hlt := h.lt
  obtain ⟨a, len, cap, s, hlen, hn', hby, h0, h1, h2, f1, f2⟩ := h
  have hne : some c ≠ row := fun e => by have := hr c e.symm; omega
  have hb := hg.block c hlt hne
  have hc : ∀ i, w'.cell? ⟨c, i, none⟩ = w.cell? ⟨c, i, none⟩ := fun i => World.cell?_of_block hb
  have hf : ∀ i, w'.frozen? ⟨c, i, none⟩ = w.frozen? ⟨c, i, none⟩ := fun i => World.frozen?_of_block hb
  refine ⟨a, len, cap, s, hlen, hn', ?_, by rw [hc, h0], by rw [hc, h1], by rw [hc, h2], by rw [hf, f1], by rw [hf, f2]⟩
  rcases hby with h00 | ⟨b, off, ha, hbc, hcc⟩
  · exact .inl h00
  · refine .inr ⟨b, off, ha, hbc, fun i hi => ?_⟩
    obtain ⟨z, hz, r⟩ := hcc i hi
    exact ⟨z, hg.cell hz (fun e => by have := hr b e.symm; omega), r⟩


/-- Behind an append to a row that is newer than w: w has grown, by the cursor and by new blocks alone. -/
theorem grown_own {w w1 w2 : World} {c : Nat} {row : Option Nat} (h : w.grownBy w1 (some c)) (hg : w1.grownBy w2 row) (hr : ∀ r, row = some r → w.heap.size ≤ r) : w.grownBy w2 (some c) :=
  ⟨hg.os.trans h.os, hg.tape.trans h.tape, hg.output.trans h.output, Nat.le_trans h.size hg.size, fun i hi hne =>
    (hg.block i (Nat.lt_of_lt_of_le hi h.size) (fun e => by have := hr i e.symm; omega)).trans (h.block i hi hne)⟩

end Go.Proofs.YtkadanagmahhgaaGreatDoor
namespace Go.Proofs.YtkadanagmahhgaaGreatDoor
open Go.ChangeShapes Go.WideShapes Go.ChangeAt Go.RowKit
open Odd
set_option linter.unusedVariables false
attribute [local go_sem] andu255

set_option maxHeartbeats 800000 in
theorem num_any (w : World) (c n : Nat) (h : Cur w c n) (hn : n + 12 < 1048576) :
    Calls Tryz.prog 96 #[.pointer (some ⟨c, 0, none⟩)] w fun e w' => ∃ v : Int, e = .returned (.int .i64 v) ∧ (-9223372036854775808 ≤ v ∧ v ≤ 9223372036854775807) ∧ Drew w w' c n 12 := by
  go_enter Tryz.func96, Tryz.ntmps96
  go_wp2_with fail
  refine (pick_any w c n 7 h (by omega) (by decide) (by decide)).mono ?_
  rintro e w1 ⟨v, rfl, v0, v1, hc, hg⟩
  clear h
  go_wp2_with fail
  refine (pick_any w1 c (n + 1) 8 hc (by omega) (by decide) (by decide)).mono ?_
  rintro e w2 ⟨v2, rfl, v20, v21, hc2, hg2⟩
  have hg12 := gtrans hg hg2
  clear hc hg hg2
  have hcase : v2 = 0 ∨ v2 = 1 ∨ v2 = 2 ∨ 3 ≤ v2 := by omega
  rcases hcase with rfl | rfl | rfl | h3
  · go_wp2_with fail
    go_loopw [3, 4] (fun x i wr => ∃ (k : Nat) (y : Int), k ≤ 8 ∧ i = .int .i64 k ∧ x = .int .i64 y ∧ (-9223372036854775808 ≤ y ∧ y ≤ 9223372036854775807) ∧ Cur wr c (n + 1 + 1 + k) ∧ w.grownBy wr (some c)) (fun _ i _ => 8 - (intOf i).toNat)
    case atStart => exact ⟨0, _, by omega, rfl, rfl, by omega, hc2, hg12⟩
    case round =>
      obtain ⟨k, y, hk, rfl, rfl, hy, hcr, hgr⟩ := hrel
      clear hc2 hg12
      by_cases hlt : k < 8
      · go_wp2_with fail
        refine (next_any wr c _ hcr (by omega)).mono ?_
        rintro e w3 ⟨v3, rfl, v30, v31, hc3, hg3⟩
        have hgr3 := gtrans hgr hg3
        clear hcr hgr hg3
        go_wp2
        go_roundw
        case rel => exact ⟨k + 1, _, by omega, by go_num, rfl, bits_range _ _ _, hc3, hgr3⟩
        case measure => simp [intOf]; omega
      · go_wp2
        go_ret
        exact ⟨_, rfl, hy, ⟨_, by omega, hcr⟩, hgr⟩
  · go_wp2_with fail
    refine (pick_any w2 c _ 64 hc2 (by omega) (by decide) (by decide)).mono ?_
    rintro e w3 ⟨v3, rfl, v30, v31, hc3, hg3⟩
    have hg13 := gtrans hg12 hg3
    clear hc2 hg12 hg3
    go_wp2
    go_ret
    exact ⟨_, rfl, wrap64_range _, ⟨_, by omega, hc3⟩, hg13⟩
  · go_wp2_with fail
    refine (pick_any w2 c _ 3 hc2 (by omega) (by decide) (by decide)).mono ?_
    rintro e w3 ⟨v3, rfl, v30, v31, hc3, hg3⟩
    have hg13 := gtrans hg12 hg3
    clear hc2 hg12 hg3
    go_wp2
    go_ret
    exact ⟨_, rfl, wrap64_range _, ⟨_, by omega, hc3⟩, hg13⟩
  · have b0 : (v2 == 0) = false := by simp; omega
    have b1 : (v2 == 1) = false := by simp; omega
    have b2 : (v2 == 2) = false := by simp; omega
    go_wp2
    go_ret
    exact ⟨_, rfl, by omega, ⟨_, by omega, hc2⟩, hg12⟩

end Go.Proofs.YtkadanagmahhgaaGreatDoor
namespace Go.Proofs.YtkadanagmahhgaaGreatDoor
open Go.ChangeShapes Go.WideShapes Go.ChangeAt Go.RowKit
open Odd
set_option linter.unusedVariables false
attribute [local go_sem] andu255

theorem Bytes.of {w : World} {a : Option Addr} {len cap : Nat} {zs : List Int} (h : IsRow .u8 w a len cap zs) : Bytes w w.heap.size a len := by
  by_cases h0 : len = 0
  · exact .inl h0
  · obtain ⟨b, off, ha, hb, hc⟩ := h.at (by omega)
    refine .inr ⟨b, off, ha, hb, fun i hi => ⟨_, hc i hi, ?_⟩⟩
    have hw : ∀ n ∈ zs, (Lit.int .u8 n).wf = true := by
      rcases h with ⟨_, rfl, _, rfl⟩ | ⟨x, rfl, _, _, _, _, hw⟩
      · omega
      · exact hw
    have hl := h.len
    have hm : (zs.take len).getD i 0 ∈ zs := by
      rw [List.getD_eq_getElem?_getD, List.getElem?_eq_getElem (by omega)]
      exact List.mem_of_mem_take (List.getElem_mem _)
    exact bounds_u8 (hw _ hm)

theorem Bytes.keep {w w' : World} {a : Option Addr} {len : Nat} (h : Bytes w w.heap.size a len) (hb : Below w.heap.size w w') : Bytes w' w'.heap.size a len := by
  rcases h with h0 | ⟨b, off, ha, hlt, hc⟩
  · exact .inl h0
  · refine .inr ⟨b, off, ha, Nat.lt_of_lt_of_le hlt hb.size, fun i hi => ?_⟩
    obtain ⟨z, hz, r⟩ := hc i hi
    exact ⟨z, (hb.cell (p := ⟨b, off + i, none⟩) hlt).trans hz, r⟩

theorem cur_new (w : World) (a : Option Addr) (len cap : Nat) (hb : Bytes w w.heap.size a len) (hl : len ≤ 1048576) :
    Cur (w.alloc (.cells #[.slice a len cap, .int .i64 0, .int .u64 0] 53)) w.heap.size 0 := by
  refine ⟨a, len, cap, 0, hl, by omega, ?_, ?_, ?_, ?_, ?_, ?_⟩
  · rcases hb with h0 | ⟨b, off, ha, hlt, hc⟩
    · exact .inl h0
    · refine .inr ⟨b, off, ha, hlt, fun i hi => ?_⟩
      obtain ⟨z, hz, r⟩ := hc i hi
      exact ⟨z, by rw [World.cell?_alloc_past _ _ _ hlt]; exact hz, r⟩
  all_goals simp [go_sem]

theorem drew_below {w w' : World} {o : Obj} (h : (w.alloc o).grownBy w' (some w.heap.size)) : Below w.heap.size w w' :=
  ((Below.refl _ _).alloc (Nat.le_refl _) o).grown h (by simp) (fun k hk => by cases hk; exact Nat.le_refl _)

theorem among_any (w : World) (c n b cap : Nat) (l : List Int) (h : Cur w c n) (hn : n < 1048576) (hl : 2 ≤ l.length) (hl' : l.length ≤ 200) (hbc : c < b)
    (hcell : ∀ i, i < l.length → w.cell? ⟨b, i, none⟩ = some (.int .i64 (l.getD i 0))) :
    Calls Tryz.prog 98 #[.pointer (some ⟨c, 0, none⟩), .slice (some ⟨b, 0, none⟩) l.length cap] w fun e w' => ∃ i : Nat, i < l.length ∧ e = .returned (.int .i64 (l.getD i 0)) ∧ Cur w' c (n + 1) ∧ w.grownBy w' (some c) := by
  go_enter Tryz.func98, Tryz.ntmps98
  go_wp2_with fail
  refine (pick_any w c n _ h hn (by omega) (by omega)).mono ?_
  rintro e w1 ⟨v, rfl, v0, v1, hc1, hg⟩
  obtain ⟨i, rfl⟩ := Int.eq_ofNat_of_zero_le v0
  have hi : i < l.length := by omega
  have hci : w1.cell? ⟨b, i, none⟩ = some (.int .i64 (l.getD i 0)) := hg.cell (hcell i hi) (by intro e; simp at e; omega)
  clear hcell h
  obtain ⟨z, hz⟩ : ∃ z, l.getD i 0 = z := ⟨_, rfl⟩
  rw [hz] at hci
  have HZ : Hid (l.getD i 0 = z) := hz
  clear hz
  go_wp2
  go_ret
  exact ⟨i, hi, by rw [HZ.out]; rfl, hc1, hg⟩

end Go.Proofs.YtkadanagmahhgaaGreatDoor
