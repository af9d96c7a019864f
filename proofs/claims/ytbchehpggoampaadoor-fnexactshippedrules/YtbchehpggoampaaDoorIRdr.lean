/-
  PROVED HERE: how the program's reader lies in memory; what its small steps do. No other condition.
-/
import Derived.Test.YtbchehpggoampaaDoorMarks
import Derived.Test.YtbchehpggoampaaDoorPush
import Derived.Test.YtbchehpggoampaaDoorKeeps
import Derived.Deep.RegionHeld3
namespace Go.Proofs.YtbchehpggoampaaDoor
open Go.ChangeShapes Go.WideShapes Go.ChangeAt Go.RowKit
set_option linter.unusedVariables false

/-- The program's reader in block g: its text, its marks (in block mb), its place among them, its nodes (in a row of their own from block B on). -/
structure IRdr (w : World) (B g mb mc : Nat) (s : ByteArray) (M : List (Int × Int)) (k : Nat) (out : List (Int × Int)) : Prop where
  lt : g < B
  ltB : B ≤ w.heap.size
  mlt : mb < B
  ne : mb ≠ g
  c0 : w.cell? ⟨g, 0, none⟩ = some (.string s)
  c1 : w.cell? ⟨g, 1, none⟩ = some (.slice (some ⟨mb, 0, none⟩) M.length mc)
  c2 : w.cell? ⟨g, 2, none⟩ = some (.int .i64 (k : Int))
  row : ∃ v, w.cell? ⟨g, 3, none⟩ = some v ∧ w.ownsRow B 76 2 v out.length (flat out)
  f2 : w.frozen? ⟨g, 2, none⟩ = false
  f3 : w.frozen? ⟨g, 3, none⟩ = false
  mks : ∀ i, i < M.length → w.cell? ⟨mb, i * 2, none⟩ = some (.int .i64 (M.getD i (0, 0)).1) ∧ w.cell? ⟨mb, i * 2 + 1, none⟩ = some (.int .i32 (M.getD i (0, 0)).2)
theorem IRdr.drewN {w : World} {B g mb mc : Nat} {s : ByteArray} {M : List (Int × Int)} {k : Nat} {out : List (Int × Int)} (h : IRdr w B g mb mc s M k out) (n : Nat) : IRdr (w.drewN n) B g mb mc s M k out := by
  obtain ⟨lt, ltB, mlt, ne, c0, c1, c2, ⟨v, c3, hown⟩, f2, f3, mk⟩ := h
  exact ⟨lt, ltB, mlt, ne, c0, c1, c2, ⟨v, c3, hown⟩, f2, f3, mk⟩
theorem IRdr.move {w : World} {B g mb mc : Nat} {s : ByteArray} {M : List (Int × Int)} {k : Nat} {out : List (Int × Int)} (h : IRdr w B g mb mc s M k out) (j : Nat) : IRdr (w.setCell ⟨g, 2, none⟩ (.int .i64 (j : Int))) B g mb mc s M j out := by
  obtain ⟨lt, ltB, mlt, ne, c0, c1, c2, ⟨v, c3, hown⟩, f2, f3, mk⟩ := h
  refine ⟨lt, by simpa using ltB, mlt, ne, by simp [go_sem, c0], by simp [go_sem, c1], by simp [go_sem, c2], ⟨v, by simp [go_sem, c3], ownsRow_setCell_below hown (by simp; omega) _⟩, by simp [go_sem, f2], by simp [go_sem, f3], fun i hi => ?_⟩
  obtain ⟨m1, m2⟩ := mk i hi
  exact ⟨by rw [World.cell?_setCell_far _ _ _ _ (by simpa using ne.symm)]; exact m1, by rw [World.cell?_setCell_far _ _ _ _ (by simpa using ne.symm)]; exact m2⟩
theorem IRdr.keep {w w' : World} {B g mb mc : Nat} {s : ByteArray} {M : List (Int × Int)} {k : Nat} {out : List (Int × Int)} (h : IRdr w B g mb mc s M k out) (hb : Below w.heap.size w w') : IRdr w' B g mb mc s M k out := by
  obtain ⟨lt, ltB, mlt, ne, c0, c1, c2, ⟨v, c3, hown⟩, f2, f3, mk⟩ := h
  have hg : g < w.heap.size := by omega
  have hm : mb < w.heap.size := by omega
  exact ⟨lt, Nat.le_trans ltB hb.size, mlt, ne, (hb.cell (p := ⟨g, 0, none⟩) hg).trans c0, (hb.cell (p := ⟨g, 1, none⟩) hg).trans c1, (hb.cell (p := ⟨g, 2, none⟩) hg).trans c2, ⟨v, (hb.cell (p := ⟨g, 3, none⟩) hg).trans c3, own_keep hown hb⟩, (hb.frozen (p := ⟨g, 2, none⟩) hg).trans f2, (hb.frozen (p := ⟨g, 3, none⟩) hg).trans f3, fun i hi => ⟨(hb.cell (p := ⟨mb, i * 2, none⟩) hm).trans (mk i hi).1, (hb.cell (p := ⟨mb, i * 2 + 1, none⟩) hm).trans (mk i hi).2⟩⟩
/-- Behind an append and its store. -/
theorem IRdr.push {w w5 : World} {B g mb mc : Nat} {s : ByteArray} {M : List (Int × Int)} {k n : Nat} {out out' : List (Int × Int)} {v : Value} (h : IRdr w B g mb mc s M k out) (hB : Below B w w5) (hn : out'.length = n) (hown : w5.ownsRow B 76 2 v n (flat out')) : IRdr (w5.setCell ⟨g, 3, none⟩ v) B g mb mc s M k out' := by
  obtain ⟨lt, ltB, mlt, ne, c0, c1, c2, ⟨v0, c3, _⟩, f2, f3, mk⟩ := h
  have d0 := (hB.cell (p := ⟨g, 0, none⟩) lt).trans c0
  have d1 := (hB.cell (p := ⟨g, 1, none⟩) lt).trans c1
  have d2 := (hB.cell (p := ⟨g, 2, none⟩) lt).trans c2
  have d3 := (hB.cell (p := ⟨g, 3, none⟩) lt).trans c3
  have e2 := (hB.frozen (p := ⟨g, 2, none⟩) lt).trans f2
  have e3 := (hB.frozen (p := ⟨g, 3, none⟩) lt).trans f3
  subst hn
  refine ⟨lt, by have := hB.size; simp; omega, mlt, ne, by simp [go_sem, d0], by simp [go_sem, d1], by simp [go_sem, d2], ⟨v, by simp [go_sem, d3], ownsRow_setCell_below hown (by simp; omega) _⟩, by simp [go_sem, e2], by simp [go_sem, e3], fun i hi => ?_⟩
  obtain ⟨m1, m2⟩ := mk i hi
  have n1 := (hB.cell (p := ⟨mb, i * 2, none⟩) mlt).trans m1
  have n2 := (hB.cell (p := ⟨mb, i * 2 + 1, none⟩) mlt).trans m2
  exact ⟨by rw [World.cell?_setCell_far _ _ _ _ (by simpa using ne.symm)]; exact n1, by rw [World.cell?_setCell_far _ _ _ _ (by simpa using ne.symm)]; exact n2⟩

theorem isDigit_any (c : Int) (w : World) : Calls Tryd.prog 93 #[.int .i32 c] w fun e w' => e = .returned (.bool (decide (48 ≤ c) && decide (c ≤ 57))) ∧ w' = w := by
  by_cases h1 : 48 ≤ c
  · by_cases h2 : c ≤ 57
    · rw [decide_eq_true h1, decide_eq_true h2]
      go_enter Tryd.func93, Tryd.ntmps93
      go_wp2
      go_ret
      exact ⟨by simp, rfl⟩
    · rw [decide_eq_true h1, decide_eq_false h2]
      go_enter Tryd.func93, Tryd.ntmps93
      go_wp2
      go_ret
      exact ⟨by simp, rfl⟩
  · rw [decide_eq_false h1]
    go_enter Tryd.func93, Tryd.ntmps93
    go_wp2
    go_ret
    exact ⟨by simp, rfl⟩

theorem comes_any (w : World) (B g mb mc : Nat) (s : ByteArray) (M : List (Int × Int)) (k : Nat) (out : List (Int × Int)) (c : Int) (h : IRdr w B g mb mc s M k out) (hk : k < M.length) (hM : M.length ≤ 1048576) :
    Calls Tryd.prog 79 #[.pointer (some ⟨g, 0, none⟩), .int .i32 c] w fun e w' => e = .returned (.bool ((M.getD k (0, 0)).2 == c)) ∧ ∃ n, w' = w.drewN n := by
  have c1 := h.c1
  have c2 := h.c2
  have m2 := (h.mks k hk).2
  have i1 : (k : Int) < M.length := by omega
  clear h
  generalize (M.getD k (0, 0)).2 = x at m2 ⊢
  go_enter Tryd.func79, Tryd.ntmps79
  go_wp2
  go_quiet (fail)
  go_wp2
  go_ret
  exact ⟨rfl, _, rfl⟩
theorem below_set2 {w : World} {g o : Nat} (u : Value) : Below g w (w.setCell ⟨g, o, none⟩ u) := below_set u
theorem passes_any (w : World) (B g mb mc : Nat) (s : ByteArray) (M : List (Int × Int)) (k : Nat) (out : List (Int × Int)) (c : Int) (h : IRdr w B g mb mc s M k out) (hk : k < M.length) (hM : M.length ≤ 1048576) :
    Calls Tryd.prog 94 #[.pointer (some ⟨g, 0, none⟩), .int .i32 c] w fun e w' => e = .returned (.bool ((M.getD k (0, 0)).2 == c)) ∧ IRdr w' B g mb mc s M (if ((M.getD k (0, 0)).2 == c) = true then k + 1 else k) out ∧ Below g w w' := by
  have HC := (show Hid _ from comes_any w B g mb mc s M k out c h hk hM)
  have HR : Hid (IRdr w B g mb mc s M k out) := h
  clear h
  cases hb : ((M.getD k (0, 0)).2 == c) with
  | true =>
    rw [hb] at HC
    rw [if_pos rfl]
    clear hb
    go_enter Tryd.func94, Tryd.ntmps94
    go_wp2_with fail
    refine Calls.mono HC.out ?_
    rintro e w1 ⟨rfl, n, rfl⟩
    have hR := HR.out.drewN n
    have hB := below_drewN (w := w) g n
    generalize w.drewN n = w1 at hR hB
    have d2 := hR.c2
    have e2 := hR.f2
    have i1 : (k : Int) ≤ 1048576 := by omega
    clear HC
    go_wp2
    go_ret
    exact ⟨rfl, hR.move (k + 1), hB.trans (below_set _)⟩
  | false =>
    rw [hb] at HC
    rw [if_neg (by decide)]
    clear hb
    go_enter Tryd.func94, Tryd.ntmps94
    go_wp2_with fail
    refine Calls.mono HC.out ?_
    rintro e w1 ⟨rfl, n, rfl⟩
    have hR := HR.out.drewN n
    have hB := below_drewN (w := w) g n
    generalize w.drewN n = w1 at hR hB
    clear HC
    go_wp2
    go_ret
    exact ⟨rfl, hR, hB⟩
theorem flat_two (x y : Int) : flat [(x, y)] = [.int .i64 x, .int .i64 y] := rfl
set_option maxRecDepth 20000 in
theorem put_any (w : World) (B g mb mc : Nat) (s : ByteArray) (M : List (Int × Int)) (k : Nat) (out : List (Int × Int)) (op n : Int) (h : IRdr w B g mb mc s M k out) (ho : out.length ≤ 1048576) :
    Calls Tryd.prog 105 #[.pointer (some ⟨g, 0, none⟩), .int .i64 op, .int .i64 n] w fun e w' => (∃ u, e = .returned u) ∧ IRdr w' B g mb mc s M k (out ++ [(op, n)]) ∧ Below g w w' := by
  obtain ⟨i0, hi, hz0, hz1, hz2⟩ := info_parts infoNode
  have HR : Hid (IRdr w B g mb mc s M k out) := h
  obtain ⟨lt, ltB, _, _, _, _, _, ⟨vo, c3, hown⟩, _, f3, _⟩ := h
  obtain ⟨po, co, rfl⟩ := own_shape hown
  go_enter Tryd.func105, Tryd.ntmps105
  go_wp2_with (at_builtin; refine wpList_append_own _ rfl _ _ 27 rfl B 76 i0 (.agg #[.int .i64 0, .int .i64 0]) 2 16 Tryd.underlying27 hi hz0 hz1 hz2 rfl (by decide) _ _ _ rfl (hown.alloc _) ⟨w.heap.size, 0, none⟩ 1 1 [.int .i64 op, .int .i64 n] rfl (by simp) (two_new w _ _ _) (fun u hu => by rcases List.mem_cons.1 hu with rfl | hu; rfl; rw [List.mem_singleton.1 hu]; rfl) (by unfold maxLen; omega) (by omega) (by simp; omega) ?_; intro v' w5 hown5 hg5 hat5; obtain ⟨p5, q5, rfl⟩ := own_shape hown5; have hB5 : Below B w w5 := ((Below.refl B w).alloc ltB _).grown hg5 (by simp; omega) (own_ge hown); have d3 := (hB5.cell (p := ⟨g, 3, none⟩) lt).trans c3; have e3 := (hB5.frozen (p := ⟨g, 3, none⟩) lt).trans f3)
  go_returns
  exact ⟨⟨_, rfl⟩, HR.out.push (n := out.length + 1) hB5 (by simp) (by rw [flat_append]; exact hown5), (hB5.mono (by omega)).trans (below_set _)⟩
end Go.Proofs.YtbchehpggoampaaDoor
