/-
  PROVED HERE: what the laws' own drawing of numbers out of bytes answers: some number within its range, whatever the bytes; nothing but the cursor is written. No condition. a new cursor, and one of some numbers. No condition. when the laws' inputs are too long for them. No condition. the laws' own drawn terms: some list of nodes, not too long, in new memory, whatever the bytes. No condition. the laws' own drawn term: some list of at most forty nodes, in new memory, whatever the bytes. No condition.
-/
import Derived.Test.YtfadclakedfjkaaDoorMath
import Derived.Test.YtfadclakedfjkaaDoorRow
import Derived.Test.YtfadclakedfjkaaDoorBase
import Derived.Test.YtfadclakedfjkaaDoorKeeps
import Derived.Test.YtfadclakedfjkaaDoorSteps
import Derived.Test.YtfadclakedfjkaaDoorGood
import Derived.Test.YtfadclakedfjkaaDoorNodes
namespace Go.Proofs.YtfadclakedfjkaaDoor
open Go.ChangeShapes Go.WideShapes Go.ChangeAt Go.RowKit
open Odd
set_option linter.unusedVariables false
attribute [local go_sem] andu255

/-- The bytes that are drawn from. -/
def Bytes (w : World) (c : Nat) (a : Option Addr) (len : Nat) : Prop :=
  len = 0 ∨ ∃ b off, a = some ⟨b, off, none⟩ ∧ b < c ∧ ∀ i, i < len → ∃ z : Int, w.cell? ⟨b, off + i, none⟩ = some (.int .u8 z) ∧ 0 ≤ z ∧ z ≤ 255

/-- The cursor lies in block c and has drawn n times. -/
def Cur (w : World) (c n : Nat) : Prop :=
  ∃ (a : Option Addr) (len cap : Nat) (s : Int), len ≤ 1048576 ∧ n ≤ 1048576 ∧ Bytes w c a len ∧
    w.cell? ⟨c, 0, none⟩ = some (.slice a len cap) ∧ w.cell? ⟨c, 1, none⟩ = some (.int .i64 n) ∧ w.cell? ⟨c, 2, none⟩ = some (.int .u64 s) ∧
    w.frozen? ⟨c, 1, none⟩ = false ∧ w.frozen? ⟨c, 2, none⟩ = false

/-- A world in which the cursor's two numbers have been written. -/
theorem stepped (w : World) (c m k : Nat) (u v x : Value) (h0 : w.cell? ⟨c, 0, none⟩ = some x) (h1 : ∃ y, w.cell? ⟨c, 1, none⟩ = some y) (h2 : ∃ y, w.cell? ⟨c, 2, none⟩ = some y)
    (f1 : w.frozen? ⟨c, 1, none⟩ = false) (f2 : w.frozen? ⟨c, 2, none⟩ = false) :
    w.grownBy ((((w.drewN m).setCell ⟨c, 1, none⟩ u).setCell ⟨c, 2, none⟩ v).drewN k) (some c) ∧
    ((((w.drewN m).setCell ⟨c, 1, none⟩ u).setCell ⟨c, 2, none⟩ v).drewN k).cell? ⟨c, 0, none⟩ = some x ∧
    ((((w.drewN m).setCell ⟨c, 1, none⟩ u).setCell ⟨c, 2, none⟩ v).drewN k).cell? ⟨c, 1, none⟩ = some u ∧
    ((((w.drewN m).setCell ⟨c, 1, none⟩ u).setCell ⟨c, 2, none⟩ v).drewN k).cell? ⟨c, 2, none⟩ = some v ∧
    ((((w.drewN m).setCell ⟨c, 1, none⟩ u).setCell ⟨c, 2, none⟩ v).drewN k).frozen? ⟨c, 1, none⟩ = false ∧
    ((((w.drewN m).setCell ⟨c, 1, none⟩ u).setCell ⟨c, 2, none⟩ v).drewN k).frozen? ⟨c, 2, none⟩ = false := by
  obtain ⟨y1, h1⟩ := h1
  obtain ⟨y2, h2⟩ := h2
  refine ⟨⟨rfl, rfl, rfl, ?_, fun j hj hne => ?_⟩, ?_, ?_, ?_, ?_, ?_⟩
  · simp [World.drewN, World.setCell]
  · have hne' : j ≠ c := fun e => hne (by rw [e])
    show (((w.drewN m).setCell ⟨c, 1, none⟩ u).setCell ⟨c, 2, none⟩ v).heap[j]? = _
    rw [Below.heap_setCell _ _ _ _ hne', Below.heap_setCell _ _ _ _ hne']
    rfl
  · simp [go_sem, h0]
  · simp [go_sem, h1]
  · simp [go_sem, h2]
  · simp [go_sem, f1]
  · simp [go_sem, f2]

theorem next_in (w : World) (c n b off len cap : Nat) (s z : Int) (h0 : w.cell? ⟨c, 0, none⟩ = some (.slice (some ⟨b, off, none⟩) len cap)) (h1 : w.cell? ⟨c, 1, none⟩ = some (.int .i64 n)) (h2 : w.cell? ⟨c, 2, none⟩ = some (.int .u64 s))
    (f1 : w.frozen? ⟨c, 1, none⟩ = false) (f2 : w.frozen? ⟨c, 2, none⟩ = false) (hb : b ≠ c) (hz : w.cell? ⟨b, off + n, none⟩ = some (.int .u8 z)) (hlt : n < len) (hlen : len ≤ 1048576) (z0 : 0 ≤ z) (z1 : z ≤ 255) :
    Calls Tryd.prog 58 #[.pointer (some ⟨c, 0, none⟩)] w fun e w' => e = .returned (.int .i64 z) ∧ w.grownBy w' (some c) ∧ (∃ s' : Int, w'.cell? ⟨c, 2, none⟩ = some (.int .u64 s')) ∧ w'.cell? ⟨c, 0, none⟩ = some (.slice (some ⟨b, off, none⟩) len cap) ∧ w'.cell? ⟨c, 1, none⟩ = some (.int .i64 (n + 1 : Nat)) ∧ w'.frozen? ⟨c, 1, none⟩ = false ∧ w'.frozen? ⟨c, 2, none⟩ = false := by
  have hl : (n : Int) < len := by omega
  go_enter Tryd.func58, Tryd.ntmps58
  go_wp2
  go_quiet (fail)
  go_wp2
  go_quiet (fail)
  go_wp2
  go_quiet (fail)
  go_wp2
  go_ret
  refine ⟨rfl, ?_⟩
  have H := fun m k u v => stepped w c m k u v _ h0 ⟨_, h1⟩ ⟨_, h2⟩ f1 f2
  refine ⟨(H _ _ _ _).1, ⟨_, (H _ _ _ _).2.2.2.1⟩, (H _ _ _ _).2.1, (H _ _ _ _).2.2.1, (H _ _ _ _).2.2.2.2.1, (H _ _ _ _).2.2.2.2.2⟩

theorem next_out (w : World) (c n len cap : Nat) (a : Option Addr) (s : Int) (h0 : w.cell? ⟨c, 0, none⟩ = some (.slice a len cap)) (h1 : w.cell? ⟨c, 1, none⟩ = some (.int .i64 n)) (h2 : w.cell? ⟨c, 2, none⟩ = some (.int .u64 s))
    (f1 : w.frozen? ⟨c, 1, none⟩ = false) (f2 : w.frozen? ⟨c, 2, none⟩ = false) (hlt : len ≤ n) (hn : n ≤ 1048576) :
    Calls Tryd.prog 58 #[.pointer (some ⟨c, 0, none⟩)] w fun e w' => (∃ v : Int, e = .returned (.int .i64 v) ∧ 0 ≤ v ∧ v ≤ 255) ∧ w.grownBy w' (some c) ∧ (∃ s' : Int, w'.cell? ⟨c, 2, none⟩ = some (.int .u64 s')) ∧ w'.cell? ⟨c, 0, none⟩ = some (.slice a len cap) ∧ w'.cell? ⟨c, 1, none⟩ = some (.int .i64 (n + 1 : Nat)) ∧ w'.frozen? ⟨c, 1, none⟩ = false ∧ w'.frozen? ⟨c, 2, none⟩ = false := by
  have hl : ¬ (n : Int) < len := by omega
  have hl' : ¬ (n : Int) + 1 ≤ len := by omega
  go_enter Tryd.func58, Tryd.ntmps58
  go_wp2
  go_quiet (fail)
  go_wp2
  go_quiet (fail)
  go_wp2
  go_ret
  refine ⟨⟨_, rfl, ?_, ?_⟩, ?_⟩
  · omega
  · omega
  have H := fun m k u v => stepped w c m k u v _ h0 ⟨_, h1⟩ ⟨_, h2⟩ f1 f2
  refine ⟨(H _ _ _ _).1, ⟨_, (H _ _ _ _).2.2.2.1⟩, (H _ _ _ _).2.1, (H _ _ _ _).2.2.1, (H _ _ _ _).2.2.2.2.1, (H _ _ _ _).2.2.2.2.2⟩

theorem Bytes.grown {w w' : World} {c : Nat} {a : Option Addr} {len : Nat} (h : Bytes w c a len) (hg : w.grownBy w' (some c)) : Bytes w' c a len := by
  rcases h with h0 | ⟨b, off, ha, hb, hc⟩
  · exact .inl h0
  · refine .inr ⟨b, off, ha, hb, fun i hi => ?_⟩
    obtain ⟨z, hz, r⟩ := hc i hi
    exact ⟨z, hg.cell hz (by intro e; simp at e; omega), r⟩

theorem next_any (w : World) (c n : Nat) (h : Cur w c n) (hn : n < 1048576) :
    Calls Tryd.prog 58 #[.pointer (some ⟨c, 0, none⟩)] w fun e w' => ∃ v : Int, e = .returned (.int .i64 v) ∧ 0 ≤ v ∧ v ≤ 255 ∧ Cur w' c (n + 1) ∧ w.grownBy w' (some c) := by
  obtain ⟨a, len, cap, s, hlen, hn', hby, h0, h1, h2, f1, f2⟩ := h
  by_cases hlt : n < len
  · have hby' := hby
    rcases hby with h00 | ⟨b, off, rfl, hb, hc⟩
    · omega
    · obtain ⟨z, hz, z0, z1⟩ := hc n hlt
      refine (next_in w c n b off len cap s z h0 h1 h2 f1 f2 (by omega) hz hlt hlen z0 z1).mono ?_
      rintro e w' ⟨rfl, hg, ⟨s', k2⟩, k0, k1, g1, g2⟩
      exact ⟨z, rfl, z0, z1, ⟨_, len, cap, s', hlen, by omega, hby'.grown hg, k0, k1, k2, g1, g2⟩, hg⟩
  · refine (next_out w c n len cap a s h0 h1 h2 f1 f2 (by omega) hn').mono ?_
    rintro e w' ⟨⟨v, rfl, v0, v1⟩, hg, ⟨s', k2⟩, k0, k1, g1, g2⟩
    exact ⟨v, rfl, v0, v1, ⟨_, len, cap, s', hlen, by omega, hby.grown hg, k0, k1, k2, g1, g2⟩, hg⟩

theorem pick_any (w : World) (c n : Nat) (m : Int) (h : Cur w c n) (hn : n < 1048576) (hm : 2 ≤ m) (hm' : m ≤ 200) :
    Calls Tryd.prog 32 #[.pointer (some ⟨c, 0, none⟩), .int .i64 m] w fun e w' => ∃ v : Int, e = .returned (.int .i64 v) ∧ 0 ≤ v ∧ v < m ∧ Cur w' c (n + 1) ∧ w.grownBy w' (some c) := by
  have hN := next_any w c n h hn
  clear h
  have h1 : ¬ m ≤ 1 := by omega
  have h2 : ¬ (200 : Int) < m := by omega
  go_enter Tryd.func32, Tryd.ntmps32
  go_wp2_with fail
  refine hN.mono ?_
  rintro e w1 ⟨v, rfl, v0, v1, hc, hg⟩
  go_wp2
  go_ret
  refine ⟨_, rfl, ?_, ?_, hc, hg⟩
  · exact Int.emod_nonneg _ (by omega)
  · exact Int.emod_lt_of_pos _ (by omega)

theorem gtrans {w1 w2 w3 : World} {c : Nat} (h : w1.grownBy w2 (some c)) (k : w2.grownBy w3 (some c)) : w1.grownBy w3 (some c) :=
  ⟨k.os.trans h.os, k.tape.trans h.tape, k.output.trans h.output, Nat.le_trans h.size k.size, fun i hi hne => (k.block i (Nat.lt_of_lt_of_le hi h.size) hne).trans (h.block i hi hne)⟩

theorem bits_range (op : BinOp) (x y : Int) : -9223372036854775808 ≤ bits op .i64 x y ∧ bits op .i64 x y ≤ 9223372036854775807 := by
  unfold bits
  rw [IntKind.wrap_i64]
  generalize ((_ : Nat) : Int) = t
  omega

/-- It draws a number, so often at most. -/
def Drew (w w' : World) (c n k : Nat) : Prop := (∃ n', n' ≤ n + k ∧ Cur w' c n') ∧ w.grownBy w' (some c)

set_option maxHeartbeats 800000 in
theorem num_any (w : World) (c n : Nat) (h : Cur w c n) (hn : n + 12 < 1048576) :
    Calls Tryd.prog 72 #[.pointer (some ⟨c, 0, none⟩)] w fun e w' => ∃ v : Int, e = .returned (.int .i64 v) ∧ (-9223372036854775808 ≤ v ∧ v ≤ 9223372036854775807) ∧ Drew w w' c n 12 := by
  go_enter Tryd.func72, Tryd.ntmps72
  go_wp2_with fail
  refine (pick_any w c n 7 h (by omega) (by decide) (by decide)).mono ?_
  rintro e w1 ⟨v, rfl, v0, v1, hc, hg⟩
  clear h
  go_wp2_with fail
  refine (pick_any w1 c (n + 1) 8 hc (by omega) (by decide) (by decide)).mono ?_
  rintro e w2 ⟨v2, rfl, v20, v21, hc2, hg2⟩
  have hg12 := gtrans hg hg2
  clear hc hg hg2
  have hcase : v2 = 0 ∨ v2 = 1 ∨ v2 = 2 ∨ 3 ≤ v2 := by omega
  rcases hcase with rfl | rfl | rfl | h3
  · go_wp2_with fail
    go_loopw [3, 4] (fun x i wr => ∃ (k : Nat) (y : Int), k ≤ 8 ∧ i = .int .i64 k ∧ x = .int .i64 y ∧ (-9223372036854775808 ≤ y ∧ y ≤ 9223372036854775807) ∧ Cur wr c (n + 1 + 1 + k) ∧ w.grownBy wr (some c)) (fun _ i _ => 8 - (intOf i).toNat)
    case atStart => exact ⟨0, _, by omega, rfl, rfl, by omega, hc2, hg12⟩
    case round =>
      obtain ⟨k, y, hk, rfl, rfl, hy, hcr, hgr⟩ := hrel
      clear hc2 hg12
      by_cases hlt : k < 8
      · go_wp2_with fail
        refine (next_any wr c _ hcr (by omega)).mono ?_
        rintro e w3 ⟨v3, rfl, v30, v31, hc3, hg3⟩
        have hgr3 := gtrans hgr hg3
        clear hcr hgr hg3
        go_wp2
        go_roundw
        case rel => exact ⟨k + 1, _, by omega, by go_num, rfl, bits_range _ _ _, hc3, hgr3⟩
        case measure => simp [intOf]; omega
      · go_wp2
        go_ret
        exact ⟨_, rfl, hy, ⟨_, by omega, hcr⟩, hgr⟩
  · go_wp2_with fail
    refine (pick_any w2 c _ 64 hc2 (by omega) (by decide) (by decide)).mono ?_
    rintro e w3 ⟨v3, rfl, v30, v31, hc3, hg3⟩
    have hg13 := gtrans hg12 hg3
    clear hc2 hg12 hg3
    go_wp2
    go_ret
    exact ⟨_, rfl, wrap64_range _, ⟨_, by omega, hc3⟩, hg13⟩
  · go_wp2_with fail
    refine (pick_any w2 c _ 3 hc2 (by omega) (by decide) (by decide)).mono ?_
    rintro e w3 ⟨v3, rfl, v30, v31, hc3, hg3⟩
    have hg13 := gtrans hg12 hg3
    clear hc2 hg12 hg3
    go_wp2
    go_ret
    exact ⟨_, rfl, wrap64_range _, ⟨_, by omega, hc3⟩, hg13⟩
  · have b0 : (v2 == 0) = false := by simp; omega
    have b1 : (v2 == 1) = false := by simp; omega
    have b2 : (v2 == 2) = false := by simp; omega
    go_wp2
    go_ret
    exact ⟨_, rfl, by omega, ⟨_, by omega, hc2⟩, hg12⟩

theorem Cur.lt {w : World} {c n : Nat} (h : Cur w c n) : c < w.heap.size := by
  obtain ⟨a, len, cap, s, hlen, hn', hby, h0, _⟩ := h
  exact World.block_lt_of_cell? w ⟨c, 0, none⟩ h0

theorem Cur.kept {w w' : World} {c n : Nat} {row : Option Nat} (h : Cur w c n) (hg : w.grownBy w' row) (hr : ∀ r, row = some r → c < r) : Cur w' c n := by
  have hlt := h.lt
  obtain ⟨a, len, cap, s, hlen, hn', hby, h0, h1, h2, f1, f2⟩ := h
  have hne : some c ≠ row := fun e => by have := hr c e.symm; omega
  have hb := hg.block c hlt hne
  have hc : ∀ i, w'.cell? ⟨c, i, none⟩ = w.cell? ⟨c, i, none⟩ := fun i => World.cell?_of_block hb
  have hf : ∀ i, w'.frozen? ⟨c, i, none⟩ = w.frozen? ⟨c, i, none⟩ := fun i => World.frozen?_of_block hb
  refine ⟨a, len, cap, s, hlen, hn', ?_, by rw [hc, h0], by rw [hc, h1], by rw [hc, h2], by rw [hf, f1], by rw [hf, f2]⟩
  rcases hby with h00 | ⟨b, off, ha, hbc, hcc⟩
  · exact .inl h00
  · refine .inr ⟨b, off, ha, hbc, fun i hi => ?_⟩
    obtain ⟨z, hz, r⟩ := hcc i hi
    exact ⟨z, hg.cell hz (fun e => by have := hr b e.symm; omega), r⟩


/-- Behind an append to a row that is newer than w: w has grown, by the cursor and by new blocks alone. -/
theorem grown_own {w w1 w2 : World} {c : Nat} {row : Option Nat} (h : w.grownBy w1 (some c)) (hg : w1.grownBy w2 row) (hr : ∀ r, row = some r → w.heap.size ≤ r) : w.grownBy w2 (some c) :=
  ⟨hg.os.trans h.os, hg.tape.trans h.tape, hg.output.trans h.output, Nat.le_trans h.size hg.size, fun i hi hne =>
    (hg.block i (Nat.lt_of_lt_of_le hi h.size) (fun e => by have := hr i e.symm; omega)).trans (h.block i hi hne)⟩

end Go.Proofs.YtfadclakedfjkaaDoor
namespace Go.Proofs.YtfadclakedfjkaaDoor
open Go.ChangeShapes Go.WideShapes Go.ChangeAt Go.RowKit
open Odd
set_option linter.unusedVariables false
attribute [local go_sem] andu255

theorem Bytes.of {w : World} {a : Option Addr} {len cap : Nat} {zs : List Int} (h : IsRow .u8 w a len cap zs) : Bytes w w.heap.size a len := by
  by_cases h0 : len = 0
  · exact .inl h0
  · obtain ⟨b, off, ha, hb, hc⟩ := h.at (by omega)
    refine .inr ⟨b, off, ha, hb, fun i hi => ⟨_, hc i hi, ?_⟩⟩
    have hw : ∀ n ∈ zs, (Lit.int .u8 n).wf = true := by
      rcases h with ⟨_, rfl, _, rfl⟩ | ⟨x, rfl, _, _, _, _, hw⟩
      · omega
      · exact hw
    have hl := h.len
    have hm : (zs.take len).getD i 0 ∈ zs := by
      rw [List.getD_eq_getElem?_getD, List.getElem?_eq_getElem (by omega)]
      exact List.mem_of_mem_take (List.getElem_mem _)
    exact bounds_u8 (hw _ hm)

theorem Bytes.keep {w w' : World} {a : Option Addr} {len : Nat} (h : Bytes w w.heap.size a len) (hb : Below w.heap.size w w') : Bytes w' w'.heap.size a len := by
  rcases h with h0 | ⟨b, off, ha, hlt, hc⟩
  · exact .inl h0
  · refine .inr ⟨b, off, ha, Nat.lt_of_lt_of_le hlt hb.size, fun i hi => ?_⟩
    obtain ⟨z, hz, r⟩ := hc i hi
    exact ⟨z, (hb.cell (p := ⟨b, off + i, none⟩) hlt).trans hz, r⟩

theorem cur_new (w : World) (a : Option Addr) (len cap : Nat) (hb : Bytes w w.heap.size a len) (hl : len ≤ 1048576) :
    Cur (w.alloc (.cells #[.slice a len cap, .int .i64 0, .int .u64 0] 59)) w.heap.size 0 := by
  refine ⟨a, len, cap, 0, hl, by omega, ?_, ?_, ?_, ?_, ?_, ?_⟩
  · rcases hb with h0 | ⟨b, off, ha, hlt, hc⟩
    · exact .inl h0
    · refine .inr ⟨b, off, ha, hlt, fun i hi => ?_⟩
      obtain ⟨z, hz, r⟩ := hc i hi
      exact ⟨z, by rw [World.cell?_alloc_past _ _ _ hlt]; exact hz, r⟩
  all_goals simp [go_sem]

theorem drew_below {w w' : World} {o : Obj} (h : (w.alloc o).grownBy w' (some w.heap.size)) : Below w.heap.size w w' :=
  ((Below.refl _ _).alloc (Nat.le_refl _) o).grown h (by simp) (fun k hk => by cases hk; exact Nat.le_refl _)

theorem among_any (w : World) (c n b cap : Nat) (l : List Int) (h : Cur w c n) (hn : n < 1048576) (hl : 2 ≤ l.length) (hl' : l.length ≤ 200) (hbc : c < b)
    (hcell : ∀ i, i < l.length → w.cell? ⟨b, i, none⟩ = some (.int .i64 (l.getD i 0))) :
    Calls Tryd.prog 73 #[.pointer (some ⟨c, 0, none⟩), .slice (some ⟨b, 0, none⟩) l.length cap] w fun e w' => ∃ i : Nat, i < l.length ∧ e = .returned (.int .i64 (l.getD i 0)) ∧ Cur w' c (n + 1) ∧ w.grownBy w' (some c) := by
  go_enter Tryd.func73, Tryd.ntmps73
  go_wp2_with fail
  refine (pick_any w c n _ h hn (by omega) (by omega)).mono ?_
  rintro e w1 ⟨v, rfl, v0, v1, hc1, hg⟩
  obtain ⟨i, rfl⟩ := Int.eq_ofNat_of_zero_le v0
  have hi : i < l.length := by omega
  have hci : w1.cell? ⟨b, i, none⟩ = some (.int .i64 (l.getD i 0)) := hg.cell (hcell i hi) (by intro e; simp at e; omega)
  clear hcell h
  obtain ⟨z, hz⟩ : ∃ z, l.getD i 0 = z := ⟨_, rfl⟩
  rw [hz] at hci
  have HZ : Hid (l.getD i 0 = z) := hz
  clear hz
  go_wp2
  go_ret
  exact ⟨i, hi, by rw [HZ.out]; rfl, hc1, hg⟩

end Go.Proofs.YtfadclakedfjkaaDoor
namespace Go.Proofs.YtfadclakedfjkaaDoor
open Go.ChangeShapes Go.WideShapes Go.ChangeAt Go.RowKit
set_option linter.unusedVariables false
theorem big_no (a b : Option Addr) (len cap len' cap' : Nat) (w : World) (h : len ≤ 1048576) (h' : len' ≤ 1048576 - len) :
    Calls Tryd.prog 7 #[.slice a len cap, .slice b len' cap'] w fun e w' => e = .returned (.bool false) ∧ w' = w := by
  have h1 : ¬ (1048576 : Int) < len := by omega
  have h2 : ¬ (1048576 : Int) - len < len' := by omega
  go_enter Tryd.func7, Tryd.ntmps7
  go_wp2
  go_ret
  exact ⟨rfl, rfl⟩
theorem big_yes (a b : Option Addr) (len cap len' cap' : Nat) (w : World) (h : ¬ (len ≤ 1048576 ∧ len' ≤ 1048576 - len)) (hm : len ≤ 9223372036854775807) (hm' : len' ≤ 9223372036854775807) :
    Calls Tryd.prog 7 #[.slice a len cap, .slice b len' cap'] w fun e w' => e = .returned (.bool true) ∧ w' = w := by
  by_cases h1 : len ≤ 1048576
  · have h2 : ¬ (1048576 : Int) < len := by omega
    have h3 : (1048576 : Int) - len < len' := by omega
    go_enter Tryd.func7, Tryd.ntmps7
    go_wp2
    go_ret
    exact ⟨rfl, rfl⟩
  · have h2 : (1048576 : Int) < len := by omega
    go_enter Tryd.func7, Tryd.ntmps7
    go_wp2
    go_ret
    exact ⟨rfl, rfl⟩

end Go.Proofs.YtfadclakedfjkaaDoor
namespace Go.Proofs.YtfadclakedfjkaaDoor
open Go.ChangeShapes Go.WideShapes Go.ChangeAt Go.RowKit
set_option linter.unusedVariables false

theorem once_any (w : World) (c n : Nat) (m : Int) (h : Cur w c n) (hn : n < 1048576) (hm : 2 ≤ m) (hm' : m ≤ 200) :
    Calls Tryd.prog 57 #[.pointer (some ⟨c, 0, none⟩), .int .i64 m] w fun e w' => ∃ v : Bool, e = .returned (.bool v) ∧ Cur w' c (n + 1) ∧ w.grownBy w' (some c) := by
  have C := (show Hid _ from pick_any w c n m h hn hm hm')
  clear h
  go_enter Tryd.func57, Tryd.ntmps57
  go_wp2_with fail
  refine Calls.mono C.out ?_
  rintro e w1 ⟨v, rfl, v0, v1, hc, hg⟩
  go_wp2
  go_ret
  exact ⟨_, rfl, hc, hg⟩

/-- All numbers lie within 64 bits. -/
def NumsIn (l : List (Int × Int)) : Prop := ∀ x ∈ l, InI x.2
theorem nums_one (op v : Int) (h : InI v) : NumsIn [(op, v)] := fun x hx => by rw [List.mem_singleton.1 hx]; exact h
theorem nums_app {a b : List (Int × Int)} (ha : NumsIn a) (hb : NumsIn b) : NumsIn (a ++ b) := fun x hx => by
  rcases List.mem_append.1 hx with h | h
  · exact ha x h
  · exact hb x h
theorem node_row (w : World) (x y : Int) : NSl (w.alloc (.cells #[.int .i64 x, .int .i64 y] 55)) (some ⟨w.heap.size, 0, none⟩) 1 [(x, y)] := by
  refine ⟨rfl, .inr ⟨w.heap.size, 0, rfl, by simp, fun i hi => ?_⟩⟩
  obtain rfl : i = 0 := by omega
  constructor <;> simp [go_sem]
theorem in_small {v : Int} (h0 : 0 ≤ v) (h1 : v < 200) : InI v := ⟨by omega, by omega⟩
/-- The ops that are drawn. -/
def allOps : List Int := [4, 4, 5, 6, 6, 3, 7, 8, 9, 10, 11]
def Ops (w : World) (b : Nat) : Prop := b < w.heap.size ∧ ∀ i, i < 11 → w.cell? ⟨b, i, none⟩ = some (.int .i64 (allOps.getD i 0))
theorem Ops.grown {w w' : World} {b : Nat} {r : Option Nat} (h : Ops w b) (hg : w.grownBy w' r) (hr : some b ≠ r) : Ops w' b :=
  ⟨Nat.lt_of_lt_of_le h.1 hg.size, fun i hi => hg.cell (h.2 i hi) hr⟩
theorem all_any (w : World) : Calls Tryd.prog 56 #[] w fun e w' => e = .returned (.slice (some ⟨w.heap.size, 0, none⟩) 11 11) ∧ Ops w' w.heap.size ∧ Below w.heap.size w w' := by
  go_enter Tryd.func56, Tryd.ntmps56
  go_wp2
  go_ret
  refine ⟨rfl, ⟨by simp, fun i hi => ?_⟩, (Below.refl _ _).alloc (Nat.le_refl _) _⟩
  have : i = 0 ∨ i = 1 ∨ i = 2 ∨ i = 3 ∨ i = 4 ∨ i = 5 ∨ i = 6 ∨ i = 7 ∨ i = 8 ∨ i = 9 ∨ i = 10 := by omega
  rcases this with rfl | rfl | rfl | rfl | rfl | rfl | rfl | rfl | rfl | rfl | rfl <;> simp [go_sem, allOps]

/-- How often it draws at most; how many nodes there are at most. -/
def draws : Nat → Nat
  | 0 => 14
  | d + 1 => 16 + 3 * draws d
def most : Nat → Nat
  | 0 => 1
  | d + 1 => 1 + 3 * most d
def TreeAt (d : Nat) : Prop := ∀ (w : World) (c n b cap : Nat), Cur w c n → n + draws d ≤ 500000 → c < b → Ops w b →
  Calls Tryd.prog 55 #[.pointer (some ⟨c, 0, none⟩), .int .i64 d, .slice (some ⟨b, 0, none⟩) 11 cap] w fun e w' => ∃ (v : Value) (l : List (Int × Int)), e = .returned v ∧ w'.ownsRow w.heap.size 55 2 v l.length (flat l) ∧ 1 ≤ l.length ∧ l.length ≤ most d ∧ Hid (NumsIn l) ∧ Drew w w' c n (draws d)

theorem node_own (w : World) (x y : Int) : (w.alloc (.cells #[.int .i64 x, .int .i64 y] 55)).ownsRow w.heap.size 55 2 (.slice (some ⟨w.heap.size, 0, none⟩) 1 1) 1 (flat [(x, y)]) :=
  World.ownsRow_lit w #[.int .i64 x, .int .i64 y] 1 (Nat.le_refl _) (by unfold maxLen; omega) rfl

theorem leaf_drew {w w1 w2 : World} {c n n2 k : Nat} (hg1 : w.grownBy w1 (some c)) (hg2 : w1.grownBy w2 (some c)) (hc : Cur w2 c n2) (hn : n2 ≤ n + k) (x y : Int) :
    ((w2.alloc (.cells #[.int .i64 x, .int .i64 y] 55)).alloc (.cells #[.int .i64 x, .int .i64 y] 55)).ownsRow w.heap.size 55 2 (.slice (some ⟨w2.heap.size + 1, 0, none⟩) 1 1) [(x, y)].length (flat [(x, y)]) ∧ Drew w ((w2.alloc (.cells #[.int .i64 x, .int .i64 y] 55)).alloc (.cells #[.int .i64 x, .int .i64 y] 55)) c n k := by
  have hg := gtrans hg1 hg2
  have ho := node_own (w2.alloc (.cells #[.int .i64 x, .int .i64 y] 55)) x y
  have e : (w2.alloc (.cells #[.int .i64 x, .int .i64 y] 55)).heap.size = w2.heap.size + 1 := by simp
  rw [e] at ho
  refine ⟨own_base ho (by have := hg.size; omega), ⟨n2, hn, (hc.kept (World.grownBy_alloc w2 _ none) (fun r hr => by cases hr)).kept (World.grownBy_alloc _ _ none) (fun r hr => by cases hr)⟩, grown_own (grown_own hg (World.grownBy_alloc w2 _ none) (fun r hr => by cases hr)) (World.grownBy_alloc _ _ none) (fun r hr => by cases hr)⟩

set_option maxHeartbeats 1600000 in
set_option maxRecDepth 20000 in
theorem tree_zero : TreeAt 0 := by
  intro w c n b cap h hn hcb ho
  have hcl := h.lt
  have hn' : n + 14 ≤ 500000 := hn
  clear ho hn
  have C3 := (show Hid _ from once_any w c n 3 h (by omega) (by decide) (by decide))
  clear h
  go_enter Tryd.func55, Tryd.ntmps55
  go_wp2_with fail
  refine Calls.mono C3.out ?_
  rintro e w1 ⟨t, rfl, hc1, hg1⟩
  clear C3
  cases t
  · have CP := (show Hid _ from pick_any w1 c _ 3 hc1 (by omega) (by decide) (by decide))
    clear hc1
    go_wp2_with fail
    refine Calls.mono CP.out ?_
    rintro e w2 ⟨v, rfl, v0, v1, hc2, hg2⟩
    clear CP
    have HNI : Hid (NumsIn [(2, v)]) := nums_one 2 v (in_small v0 (by omega))
    have HL := (show Hid _ from leaf_drew (n := n) (k := 14) hg1 hg2 hc2 (by omega) 2 v)
    clear hg1 hg2 hc2
    go_wp2
    go_ret
    exact ⟨_, [(2, v)], rfl, HL.out.1, Nat.le_refl _, Nat.le_refl _, HNI, HL.out.2⟩
  · have CP := (show Hid _ from num_any w1 c _ hc1 (by omega))
    clear hc1
    go_wp2_with fail
    refine Calls.mono CP.out ?_
    rintro e w2 ⟨v, rfl, hv, ⟨n2, hn2, hc2⟩, hg2⟩
    clear CP
    have HNI : Hid (NumsIn [(1, v)]) := nums_one 1 v hv
    have HL := (show Hid _ from leaf_drew (n := n) (k := 14) hg1 hg2 hc2 (by omega) 1 v)
    clear hg1 hg2 hc2 hv
    go_wp2
    go_ret
    exact ⟨_, [(1, v)], rfl, HL.out.1, Nat.le_refl _, Nat.le_refl _, HNI, HL.out.2⟩

set_option maxHeartbeats 1600000 in
set_option maxRecDepth 20000 in
theorem tree_succ (d : Nat) (hd : d ≤ 4) (IH : TreeAt d) (hmo : most d ≤ 40) : TreeAt (d + 1) := by
  intro w c n b cap h hn hcb ho
  have hcl := h.lt
  have hn' : n + (16 + 3 * draws d) ≤ 500000 := hn
  have HI : Hid (TreeAt d) := IH
  have HO : Hid (Ops w b) := ho
  have C5 := (show Hid _ from once_any w c n 5 h (by omega) (by decide) (by decide))
  have i0 : (((d + 1 : Nat) : Int) == 0) = false := by simp; omega
  have hd1 : ((d + 1 : Nat) : Int) = (d : Int) + 1 := by omega
  clear h ho IH hn
  go_enter Tryd.func55, Tryd.ntmps55
  go_wp2_with fail
  refine Calls.mono C5.out ?_
  rintro e w0 ⟨t5, rfl, hc0, hg0⟩
  clear C5
  cases t5
  · have CA := (show Hid _ from among_any w0 c _ b cap allOps hc0 (by omega) (by decide) (by decide) hcb (HO.out.grown hg0 (by simp; omega)).2)
    rw [show allOps.length = 11 from rfl] at CA
    clear hc0
    go_wp2_with fail
    refine Calls.mono CA.out ?_
    rintro e w1 ⟨i, hi, rfl, hc1, hg1⟩
    clear CA
    generalize allOps.getD i 0 = op
    have CL := (show Hid _ from l1Arity_any op w1)
    have hr := ar_range op
    go_wp2_with fail
    refine Calls.mono CL.out ?_
    rintro e w2 ⟨rfl, rfl⟩
    clear CL
    generalize ar op = m at hr
    obtain ⟨j0, hj, hz0, hz1, hz2⟩ := info_parts infoNode
    have hg01 := gtrans hg0 hg1
    have hdm : ∀ j : Nat, j ≤ 3 → j * draws d ≤ 3 * draws d ∧ j * most d ≤ 3 * most d := fun j hj => ⟨Nat.mul_le_mul_right _ hj, Nat.mul_le_mul_right _ hj⟩
    have HDM := (show Hid _ from hdm)
    clear hg0 hg1 hdm hi
    go_wp2_with fail
    go_loopw [8, 9] (fun o i wr => ∃ (j : Nat) (L : List (Int × Int)) (m' : Int) (n1 : Nat), j ≤ 3 ∧ i = .int .i64 m' ∧ m' + j = m ∧ wr.ownsRow w.heap.size 55 2 o L.length (flat L) ∧ Hid (L.length ≤ j * most d ∧ NumsIn L) ∧ Hid (n1 ≤ n + 2 + j * draws d) ∧ Cur wr c n1 ∧ w.grownBy wr (some c)) (fun _ i _ => (intOf i).toNat)
    case atStart => exact ⟨0, [], m, _, by omega, rfl, by omega, World.ownsRow_nil _ _ _ _, ⟨by show 0 ≤ 0 * most d; omega, fun x hx => by cases hx⟩, by show n + 1 + 1 ≤ n + 2 + 0 * draws d; omega, hc1, hg01⟩
    case round =>
      clear hc1 hg01
      obtain ⟨j, L, m', n1, hj3, rfl, hmj, hown, hLl, hnl, hcr, hgr⟩ := hrel
      have hb3 := HDM.out j hj3
      have hLl' := hLl.out.1
      have HNL : Hid (NumsIn L) := hLl.out.2
      have hnl' := hnl.out
      by_cases hpos : 0 < m'
      · have hb4 := HDM.out (j + 1) (by omega)
        have e1 : (j + 1) * most d = j * most d + most d := Nat.succ_mul _ _
        have e2 : (j + 1) * draws d = j * draws d + draws d := Nat.succ_mul _ _
        have C := (show Hid _ from HI.out wr c n1 b cap hcr (by omega) hcb (HO.out.grown hgr (by simp; omega)))
        clear hcr
        go_wp2_with fail
        refine Calls.mono C.out ?_
        rintro e w3 ⟨v3, l3, rfl, hown3, hl1, hl2, hni3, ⟨n3, hn3, hc3⟩, hg3⟩
        clear C
        have ho3 := own_grown hown hg3 (fun x hx e => by have := own_ge hown x hx; have := Option.some.inj e; omega)
        have hgr3 := gtrans hgr hg3
        obtain ⟨a3, c3, rfl, hs3⟩ := NSl.row hown3
        obtain ⟨b3, off3, rfl, _, _⟩ := hs3.at (by omega)
        have hcs := (show Hid _ from flat_cells hs3)
        have HN : Hid (((L ++ l3).length ≤ (j + 1) * most d ∧ NumsIn (L ++ l3)) ∧ n3 ≤ n + 2 + (j + 1) * draws d) := by
          refine ⟨⟨?_, nums_app HNL.out hni3.out⟩, by omega⟩
          rw [List.length_append]
          omega
        have hLb : L.length + l3.length ≤ 1000 := by omega
        have hl3 : (flat l3).length = l3.length * 2 := flat_len l3
        have hfl : Hid (flat (L ++ l3) = flat L ++ flat l3 ∧ (L ++ l3).length = L.length + l3.length) := ⟨flat_append _ _, List.length_append⟩
        have hsz := hgr3.size
        clear hown hown3 hs3 hg3 hgr hl1 hl2 hLl hLl' hnl hnl' hn3 e1 e2 hb3 hb4
        go_wp2_with (at_builtin; refine wpList_append_own _ rfl _ _ 24 rfl w.heap.size 55 j0 (.agg #[.int .i64 0, .int .i64 0]) 2 16 Tryd.underlying24 hj hz0 hz1 hz2 rfl (by decide) u8 _ _ rfl ho3 ⟨b3, off3, none⟩ l3.length c3 (flat l3) rfl hl3 hcs.out (flat_one l3) (by unfold maxLen; omega) (by omega) hsz ?_; intro v5 w5 hown5 hg5 _)
        have hge := own_ge ho3
        have hgr5 : w.grownBy w5 (some c) := grown_own hgr3 hg5 hge
        have hc5 : Cur w5 c n3 := hc3.kept hg5 (fun r hr => by have := hge r hr; omega)
        clear hgr3 hg5 hc3 ho3 hge hcs
        go_wp2
        go_roundw
        case rel => exact ⟨j + 1, L ++ l3, m' - 1, n3, by omega, rfl, by omega, by rw [hfl.out.1, hfl.out.2]; exact hown5, HN.out.1, HN.out.2, hc5, hgr5⟩
        case measure => simp [intOf]; omega
      · have hnode := node_row wr op 0
        have hrow := hown.alloc (.cells #[.int .i64 op, .int .i64 0] 55)
        have hsz := hgr.size
        have hLb : L.length + 1 ≤ 1000 := by omega
        have HN0 : Hid (NumsIn (L ++ [(op, 0)])) := nums_app HNL.out (nums_one op 0 ⟨by omega, by omega⟩)
        have HN : Hid ((L ++ [(op, 0)]).length ≤ most (d + 1) ∧ n1 ≤ n + draws (d + 1) ∧ 1 ≤ (L ++ [(op, 0)]).length) := by
          rw [List.length_append]
          show L.length + 1 ≤ 1 + 3 * most d ∧ n1 ≤ n + (16 + 3 * draws d) ∧ 1 ≤ L.length + 1
          exact ⟨by omega, by omega, by omega⟩
        have hfl : Hid (flat (L ++ [(op, 0)]) = flat L ++ flat [(op, 0)] ∧ (L ++ [(op, 0)]).length = L.length + 1) := ⟨flat_append _ _, by rw [List.length_append]; rfl⟩
        clear hLl hLl' hnl hnl' hb3
        go_wp2_with (at_builtin; refine wpList_append_own _ rfl _ _ 24 rfl w.heap.size 55 j0 (.agg #[.int .i64 0, .int .i64 0]) 2 16 Tryd.underlying24 hj hz0 hz1 hz2 rfl (by decide) u8 _ _ rfl hrow ⟨wr.heap.size, 0, none⟩ 1 1 (flat [(op, 0)]) rfl rfl (flat_cells hnode) (flat_one _) (by unfold maxLen; omega) (by omega) (by simp; omega) ?_; intro v5 w5 hown5 hg5 _)
        have hge := own_ge hrow
        have hgr5 : w.grownBy w5 (some c) := grown_own (grown_own hgr (World.grownBy_alloc wr _ none) (fun r hr => by cases hr)) hg5 hge
        have hc5 : Cur w5 c n1 := (hcr.kept (World.grownBy_alloc wr _ none) (fun r hr => by cases hr)).kept hg5 (fun r hr => by have := hge r hr; omega)
        go_ret
        exact ⟨_, rfl, L ++ [(op, 0)], by rw [hfl.out.1, hfl.out.2]; exact hown5, HN.out.2.2, HN.out.1, HN0, ⟨n1, HN.out.2.1, hc5⟩, hgr5⟩
  · have C3 := (show Hid _ from once_any w0 c _ 3 hc0 (by omega) (by decide) (by decide))
    have HMo : Hid (1 ≤ most (d + 1)) := by show 1 ≤ 1 + 3 * most d; omega
    clear hc0
    go_wp2_with fail
    refine Calls.mono C3.out ?_
    rintro e w1 ⟨t, rfl, hc1, hg1⟩
    clear C3
    cases t
    · have CP := (show Hid _ from pick_any w1 c _ 3 hc1 (by omega) (by decide) (by decide))
      clear hc1
      go_wp2_with fail
      refine Calls.mono CP.out ?_
      rintro e w2 ⟨v, rfl, v0, v1, hc2, hg2⟩
      clear CP
      have HNI : Hid (NumsIn [(2, v)]) := nums_one 2 v (in_small v0 (by omega))
      have HL := (show Hid _ from leaf_drew (n := n) (k := 16 + 3 * draws d) (gtrans hg0 hg1) hg2 hc2 (by omega) 2 v)
      clear hg0 hg1 hg2 hc2
      go_wp2
      go_ret
      exact ⟨_, [(2, v)], rfl, HL.out.1, Nat.le_refl _, HMo.out, HNI, HL.out.2⟩
    · have CP := (show Hid _ from num_any w1 c _ hc1 (by omega))
      clear hc1
      go_wp2_with fail
      refine Calls.mono CP.out ?_
      rintro e w2 ⟨v, rfl, hv, ⟨n2, hn2, hc2⟩, hg2⟩
      clear CP
      have HNI : Hid (NumsIn [(1, v)]) := nums_one 1 v hv
      have HL := (show Hid _ from leaf_drew (n := n) (k := 16 + 3 * draws d) (gtrans hg0 hg1) hg2 hc2 (by omega) 1 v)
      clear hg0 hg1 hg2 hc2 hv
      go_wp2
      go_ret
      exact ⟨_, [(1, v)], rfl, HL.out.1, Nat.le_refl _, HMo.out, HNI, HL.out.2⟩
theorem tree_any : ∀ d, d ≤ 3 → TreeAt d
  | 0, _ => tree_zero
  | 1, _ => tree_succ 0 (by omega) tree_zero (by decide)
  | 2, _ => tree_succ 1 (by omega) (tree_any 1 (by omega)) (by decide)
  | 3, _ => tree_succ 2 (by omega) (tree_any 2 (by omega)) (by decide)
end Go.Proofs.YtfadclakedfjkaaDoor
namespace Go.Proofs.YtfadclakedfjkaaDoor
open Go.ChangeShapes Go.WideShapes Go.ChangeAt Go.RowKit
set_option linter.unusedVariables false

/-- A list of nodes in memory that is newer than B. -/
def New (w : World) (B : Nat) (v : Value) (l : List (Int × Int)) : Prop := ∃ a len cap, v = .slice a len cap ∧ NSl w a len l ∧ len ≤ cap ∧ len ≤ 40 ∧ ∀ x, a = some x → B ≤ x.block
theorem New.of {w : World} {B e : Nat} {v : Value} {n : Nat} {l : List (Int × Int)} (h : w.ownsRow B e 2 v n (flat l)) (hn : n ≤ 40) : New w B v l := by
  obtain ⟨a, cap, rfl, hs⟩ := NSl.row h
  refine ⟨a, n, cap, rfl, hs, ?_, hn, fun x hx => own_ge h _ (by rw [hx]; rfl)⟩
  rcases h.2 with ⟨e, rfl⟩ | ⟨g, cap', cur, e, _, _, hc, _⟩
  · omega
  · simp only [Value.slice.injEq, true_and] at e
    omega
theorem New.grown {w w' : World} {B : Nat} {v : Value} {l : List (Int × Int)} {r : Option Nat} (h : New w B v l) (hg : w.grownBy w' r) (hr : ∀ x, r = some x → x < B) : New w' B v l := by
  obtain ⟨a, len, cap, rfl, hs, h1, h2, h3⟩ := h
  exact ⟨a, len, cap, rfl, hs.grown hg (fun x hx e => by have := hr _ e.symm; have := h3 x hx; omega), h1, h2, h3⟩
theorem New.keep {w w' : World} {B : Nat} {v : Value} {l : List (Int × Int)} (h : New w B v l) (hb : Below w.heap.size w w') : New w' B v l := by
  obtain ⟨a, len, cap, rfl, hs, h1, h2, h3⟩ := h
  exact ⟨a, len, cap, rfl, hs.keep hb, h1, h2, h3⟩

theorem flat_set (x : Int) (hx : InI x) : ∀ (l : List (Int × Int)) (j : Nat), ∃ l' : List (Int × Int), (l'.length = l.length ∧ (NumsIn l → NumsIn l')) ∧ (flat l).set j (.int .i64 x) = flat l'
  | [], j => ⟨[], ⟨rfl, id⟩, rfl⟩
  | (a, b) :: l, 0 => ⟨(x, b) :: l, ⟨rfl, fun h y hy => by
      rcases List.mem_cons.1 hy with e | hy
      · rw [e]; exact h (a, b) (List.mem_cons_self ..)
      · exact h y (List.mem_cons_of_mem _ hy)⟩, rfl⟩
  | (a, b) :: l, 1 => ⟨(a, x) :: l, ⟨rfl, fun h y hy => by
      rcases List.mem_cons.1 hy with e | hy
      · rw [e]; exact hx
      · exact h y (List.mem_cons_of_mem _ hy)⟩, rfl⟩
  | (a, b) :: l, j + 2 => by
    obtain ⟨l', ⟨h1, h3⟩, h2⟩ := flat_set x hx l j
    refine ⟨(a, b) :: l', ⟨by simp [h1], fun h y hy => by
      rcases List.mem_cons.1 hy with e | hy
      · rw [e]; exact h (a, b) (List.mem_cons_self ..)
      · exact h3 (fun z hz => h z (List.mem_cons_of_mem _ hz)) y hy⟩, ?_⟩
    show Value.int .i64 a :: Value.int .i64 b :: (flat l).set j (.int .i64 x) = _
    rw [h2]; rfl
theorem New.set {w : World} {B e g n cap : Nat} {l : List (Int × Int)} (h : w.ownsRow B e 2 (.slice (some ⟨g, 0, none⟩) n cap) n (flat l)) (hn : n ≤ 40) (hN : NumsIn l) (j : Nat) (x : Int) (hx : InI x) : ∃ l', NumsIn l' ∧ New (w.setCell ⟨g, j, none⟩ (.int .i64 x)) B (.slice (some ⟨g, 0, none⟩) n cap) l' := by
  obtain ⟨l', ⟨_, h3⟩, e⟩ := flat_set x hx l j
  have hs := (h.stored j (.int .i64 x)).1
  rw [e] at hs
  exact ⟨l', h3 hN, New.of hs hn⟩
theorem New.tail {w : World} {B g n cap : Nat} {l : List (Int × Int)} (h : New w B (.slice (some ⟨g, 0, none⟩) n cap) l) (h1 : 1 ≤ n) (hN : NumsIn l) : ∃ l', NumsIn l' ∧ New w B (.slice (if cap = 1 then some ⟨g, 0, none⟩ else some ⟨g, 2, none⟩) (n - 1) (cap - 1)) l' := by
  obtain ⟨a, len, cap', e, hs, c1, c2, c3⟩ := h
  simp only [Value.slice.injEq] at e
  obtain ⟨rfl, rfl, rfl⟩ := e
  have hB := c3 _ rfl
  by_cases hc : cap = 1
  · rw [if_pos hc]
    exact ⟨[], (fun x hx => by cases hx), _, _, _, rfl, ⟨by simp; omega, .inl (by omega)⟩, by omega, by omega, fun x hx => by cases hx; exact hB⟩
  · rw [if_neg hc]
    have := hs.sub 1 (n - 1) (by omega)
    exact ⟨_, (fun x hx => hN x (List.mem_of_mem_drop (List.mem_of_mem_take hx))), _, _, _, rfl, this, by omega, by omega, fun x hx => by cases hx; exact hB⟩

set_option maxHeartbeats 1600000 in
set_option maxRecDepth 20000 in
theorem term_any (w : World) (c n : Nat) (h : Cur w c n) (hn : n ≤ 1000) :
    Calls Tryd.prog 31 #[.pointer (some ⟨c, 0, none⟩)] w fun e w' => ∃ (v : Value) (l : List (Int × Int)), e = .returned v ∧ New w' w.heap.size v l ∧ NumsIn l ∧ Drew w w' c n 1000 := by
  have hcl := h.lt
  have CP := (show Hid _ from pick_any w c n 3 h (by omega) (by decide) (by decide))
  clear h
  go_enter Tryd.func31, Tryd.ntmps31
  go_wp2_with fail
  refine Calls.mono CP.out ?_
  rintro e w1 ⟨v, rfl, v0, v1, hc1, hg1⟩
  clear CP
  obtain ⟨vn, rfl⟩ := Int.eq_ofNat_of_zero_le v0
  have CA := (show Hid _ from all_any w1)
  go_wp2_with fail
  refine Calls.mono CA.out ?_
  rintro e w2 ⟨rfl, ho2, hb2⟩
  clear CA
  have hc2 : Cur w2 c (n + 1) := hc1.kept (grown_of hb2) (fun r hr => by cases hr)
  have hdr : draws (1 + vn) ≤ 600 ∧ most (1 + vn) ≤ 40 := by
    have : vn = 0 ∨ vn = 1 ∨ vn = 2 := by omega
    rcases this with rfl | rfl | rfl <;> decide
  have hc1l := hc1.lt
  have CT := tree_any (1 + vn) (by omega) w2 c (n + 1) w1.heap.size 11 hc2 (by omega) hc1l ho2
  rw [show ((1 + vn : Nat) : Int) = 1 + (vn : Int) from by omega] at CT
  have CT' := (show Hid _ from CT)
  have hg2 : w.grownBy w2 (some c) := grown_own hg1 (grown_of hb2) (fun r hr => by cases hr)
  clear CT hc1 hc2 ho2 hb2 hg1
  go_wp2_with fail
  refine Calls.mono CT'.out ?_
  rintro e w3 ⟨v3, l, rfl, hown, hl1, hl2, HNL, ⟨n3, hn3, hc3⟩, hg3⟩
  clear CT'
  have hg3' := gtrans hg2 hg3
  have hown' := own_base hown hg2.size
  have hl40 : l.length ≤ 40 := by omega
  rcases hown'.2 with ⟨_, h0⟩ | ⟨g, cp, cur, rfl, hbg, hgg, hcp, _⟩
  · omega
  have hbig : ¬ (40 : Int) < (l.length : Nat) := by omega
  have CQ := (show Hid _ from pick_any w3 c n3 40 hc3 (by omega) (by decide) (by decide))
  clear hc3 hown hg2 hg3 hl2
  go_wp2_with fail
  refine Calls.mono CQ.out ?_
  rintro e w4 ⟨q, rfl, q0, q1, hc4, hg4⟩
  clear CQ
  have hg4' := gtrans hg3' hg4
  have hown4 := own_grown hown' hg4 (fun x hx e => by have := own_ge hown' x hx; have := Option.some.inj e; omega)
  have hD : Hid (Drew w w4 c n 1000) := ⟨⟨n3 + 1, by omega, hc4⟩, hg4'⟩
  have hNew := New.of hown4 hl40
  clear hown' hg3' hg4 hgg
  have hq : q = 0 ∨ q = 1 ∨ q = 2 ∨ (2 < q) := by omega
  rcases hq with rfl | rfl | rfl | hq
  · obtain ⟨l', hNl', hT⟩ := hNew.tail (by omega) HNL.out
    have HNl' : Hid (NumsIn l') := hNl'
    clear hNl'
    have HT := (show Hid _ from hT)
    have j1 : (1 : Int) ≤ (l.length : Nat) := by omega
    clear hNew hT
    by_cases hcc : cp = 1
    · have HT2 : Hid (New w4 w.heap.size (.slice (some ⟨g, 0, none⟩) (l.length - 1) 0) l') := by
        have t := HT.out
        rw [if_pos hcc] at t
        subst hcc
        exact t
      clear HT
      go_wp2
      go_ret
      exact ⟨_, l', rfl, HT2.out, HNl'.out, hD.out⟩
    · have HT2 : Hid (New w4 w.heap.size (.slice (some ⟨g, 2, none⟩) (l.length - 1) (cp - 1)) l') := by
        have t := HT.out
        rw [if_neg hcc] at t
        exact t
      clear HT
      go_wp2
      go_ret
      exact ⟨_, l', rfl, HT2.out, HNl'.out, hD.out⟩
  · obtain ⟨l', hNl', hT⟩ := New.set hown4 hl40 HNL.out 1 4 (in_small (by omega) (by omega))
    have HNl' : Hid (NumsIn l') := hNl'
    clear hNl'
    have HT := (show Hid _ from hT)
    have hxl : (flat l).length = l.length * 2 := flat_len l
    obtain ⟨y1, hy1⟩ : ∃ y, (flat l)[1]? = some y := ⟨_, List.getElem?_eq_getElem (by omega)⟩
    have hce := hown4.cellAt 1 (by omega)
    rw [hy1] at hce
    have hfr := hown4.frozenAt 1
    have HD2 : Hid (Drew w (w4.setCell ⟨g, 1, none⟩ (.int .i64 4)) c n 1000) := by
      have st := (hown4.stored 1 (.int .i64 4)).2
      exact ⟨⟨n3 + 1, by omega, hc4.kept st (fun r hr => by cases hr; omega)⟩, grown_own hg4' st (fun r hr => by cases hr; exact hbg)⟩
    have j1 : (0 : Int) < (l.length : Nat) := by omega
    clear hNew hT hown4 hc4 hD hg4' hy1
    go_wp2
    go_ret
    exact ⟨_, l', rfl, HT.out, HNl'.out, HD2.out⟩
  · have CR := (show Hid _ from pick_any w4 c _ 13 hc4 (by omega) (by decide) (by decide))
    have j1 : (l.length : Int) - 1 < (l.length : Nat) := by omega
    have j2 : (0 : Int) ≤ (l.length : Int) - 1 := by omega
    clear hNew hc4 hD
    go_wp2_with fail
    refine Calls.mono CR.out ?_
    rintro e w5 ⟨z, rfl, z0, z1, hc5, hg5⟩
    clear CR
    have hg5' := gtrans hg4' hg5
    have hown5 := own_grown hown4 hg5 (fun x hx e => by have := own_ge hown4 x hx; have := Option.some.inj e; omega)
    obtain ⟨k, hk⟩ : ∃ k, k + 1 = l.length := ⟨l.length - 1, by omega⟩
    rw [show (l.length : Int) - 1 = (k : Int) from by omega]
    obtain ⟨l', hNl', hT⟩ := New.set hown5 hl40 HNL.out (k * 2) z (in_small z0 (by omega))
    have HNl' : Hid (NumsIn l') := hNl'
    clear hNl'
    have HT := (show Hid _ from hT)
    have hxl : (flat l).length = l.length * 2 := flat_len l
    obtain ⟨y1, hy1⟩ : ∃ y, (flat l)[k * 2]? = some y := ⟨_, List.getElem?_eq_getElem (by omega)⟩
    have hce := hown5.cellAt (k * 2) (by omega)
    rw [hy1] at hce
    have hfr := hown5.frozenAt (k * 2)
    have HD2 : Hid (Drew w (w5.setCell ⟨g, k * 2, none⟩ (.int .i64 z)) c n 1000) := by
      have st := (hown5.stored (k * 2) (.int .i64 z)).2
      exact ⟨⟨_, by omega, hc5.kept st (fun r hr => by cases hr; omega)⟩, grown_own hg5' st (fun r hr => by cases hr; exact hbg)⟩
    have j3 : (k : Int) < (l.length : Nat) := by omega
    have HK := (show Hid _ from hk)
    clear hT hown4 hown5 hg4' hg5 hg5' hc5 hy1 j1 j2 hk
    go_wp2
    go_ret
    exact ⟨_, l', rfl, HT.out, HNl'.out, HD2.out⟩
  · have n0 : (q == 0) = false := by simp; omega
    have n1 : (q == 1) = false := by simp; omega
    have n2 : (q == 2) = false := by simp; omega
    have HNew := (show Hid _ from hNew)
    clear hNew
    go_wp2
    go_ret
    exact ⟨_, l, rfl, HNew.out, HNL.out, hD.out⟩
end Go.Proofs.YtfadclakedfjkaaDoor
