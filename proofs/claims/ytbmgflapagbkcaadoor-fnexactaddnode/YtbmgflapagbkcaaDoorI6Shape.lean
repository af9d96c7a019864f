/-
  PROVED HERE: what the program's shapeOf answers, at every node whose kids are numbers of the parts. No other condition.
-/
import Derived.Test.YtbmgflapagbkcaaDoorE6Plain
import Derived.Test.YtbmgflapagbkcaaDoorSMap
namespace Go.Proofs.YtbmgflapagbkcaaDoor
open Go.ChangeShapes Go.WideShapes Go.ChangeAt Go.RowKit
set_option linter.unusedVariables false

/-- The part of a kid, 0 where there is none. -/
def partOf (l kids : List Int) (i : Nat) : Int := if i < kids.length then l.getD (kids.getD i 0).toNat 0 else 0
def shO (l : List Int) (x : EN) : Sh := (x.1, x.2.1, partOf l x.2.2 0, partOf l x.2.2 1, partOf l x.2.2 2)
set_option maxHeartbeats 1600000 in
theorem shape_any (op n : Int) (a b : Option Addr) (len cap lb cb : Nat) (kids l : List Int) (w : World) (h : Sl w a len kids) (hl : Sl w b lb l) (h3 : len ≤ 3) (hk : ∀ i, i < len → ∃ y : Nat, kids.getD i 0 = y ∧ y < lb) :
    Calls Tryd.prog 60 #[.agg #[.int .i64 op, .int .i64 n, .slice a len cap], .slice b lb cb] w fun e w' => e = .returned (shV (shO l (op, n, kids))) ∧ Below w.heap.size w w' := by
  have hll := h.1
  unfold shV shO partOf
  simp only [hll]
  have HB : Hid (∀ o1 o2 o3 : Obj, Below w.heap.size w (((w.alloc o1).alloc o2).alloc o3)) := fun o1 o2 o3 => (((Below.refl _ _).alloc (Nat.le_refl _) _).alloc (by simp) _).alloc (by simp; omega) _
  have h3' : len = 0 ∨ len = 1 ∨ len = 2 ∨ len = 3 := by omega
  rcases h3' with rfl | rfl | rfl | rfl
  · have v0 : (if 0 < 0 then l.getD (kids.getD 0 0).toNat 0 else 0) = 0 := by rw [if_neg (by omega)]
    have v1 : (if 1 < 0 then l.getD (kids.getD 1 0).toNat 0 else 0) = 0 := by rw [if_neg (by omega)]
    have v2 : (if 2 < 0 then l.getD (kids.getD 2 0).toNat 0 else 0) = 0 := by rw [if_neg (by omega)]
    rw [v0, v1, v2]
    clear hk h hl v0 v1 v2
    go_enter Tryd.func60, Tryd.ntmps60
    go_wp2_with fail
    refine wp_loop_rounds 1 ?_
    rw [rounds_succ]
    go_wp2
    exact bodyPost_ret (v := .agg #[.int .i64 op, .int .i64 n, .int .i64 0, .int .i64 0, .int .i64 0]) (by simp [results, Tryd.results60, go_sem, *]) rfl ⟨rfl, HB.out _ _ _⟩
  · obtain ⟨bk, ok, rfl, hbk, hck⟩ : ∃ b' off, a = some ⟨b', off, none⟩ ∧ b' < w.heap.size ∧ ∀ i, i < 1 → w.cell? ⟨b', off + i, none⟩ = some (.int .i64 (kids.getD i 0)) := by
      rcases h.2 with h0 | h0
      · omega
      · exact h0
    obtain ⟨y0, hy0, hl0⟩ := hk 0 (by omega)
    have ck0 := hck 0 (by omega)
    rw [hy0, Nat.add_zero] at ck0
    obtain ⟨bp, op', rfl, hbp, hcp⟩ : ∃ b' off, b = some ⟨b', off, none⟩ ∧ b' < w.heap.size ∧ ∀ i, i < lb → w.cell? ⟨b', off + i, none⟩ = some (.int .i64 (l.getD i 0)) := by
      rcases hl.2 with h0 | h0
      · omega
      · exact h0
    have cp0 := hcp y0 (by omega)
    have K0 : ∀ o1 o2 o3 : Obj, (((w.alloc o1).alloc o2).alloc o3).cell? ⟨bk, ok, none⟩ = some (.int .i64 y0) := fun o1 o2 o3 => ((HB.out o1 o2 o3).cell (p := ⟨bk, ok, none⟩) hbk).trans ck0
    have P0 : ∀ o1 o2 o3 : Obj, (((w.alloc o1).alloc o2).alloc o3).cell? ⟨bp, op' + y0, none⟩ = some (.int .i64 (l.getD y0 0)) := fun o1 o2 o3 => ((HB.out o1 o2 o3).cell (p := ⟨bp, op' + y0, none⟩) hbp).trans cp0
    have lt0 : (y0 : Int) < lb := by omega
    have v0 : (if 0 < 1 then l.getD (kids.getD 0 0).toNat 0 else 0) = l.getD y0 0 := by rw [if_pos (by omega), hy0, Int.toNat_natCast]
    have v1 : (if 1 < 1 then l.getD (kids.getD 1 0).toNat 0 else 0) = 0 := by rw [if_neg (by omega)]
    have v2 : (if 2 < 1 then l.getD (kids.getD 2 0).toNat 0 else 0) = 0 := by rw [if_neg (by omega)]
    rw [v0, v1, v2]
    clear hck hcp hk h hl v0 v1 v2 hy0 hl0 hbk hbp ck0 cp0
    generalize l.getD y0 0 = z0 at P0 ⊢
    go_enter Tryd.func60, Tryd.ntmps60
    go_wp2_with fail
    refine wp_loop_rounds 2 ?_
    rw [rounds_succ]
    go_wp2
    rw [rounds_succ]
    go_wp2
    exact bodyPost_ret (v := .agg #[.int .i64 op, .int .i64 n, .int .i64 z0, .int .i64 0, .int .i64 0]) (by simp [results, Tryd.results60, go_sem, *]) rfl ⟨rfl, HB.out _ _ _⟩
  · obtain ⟨bk, ok, rfl, hbk, hck⟩ : ∃ b' off, a = some ⟨b', off, none⟩ ∧ b' < w.heap.size ∧ ∀ i, i < 2 → w.cell? ⟨b', off + i, none⟩ = some (.int .i64 (kids.getD i 0)) := by
      rcases h.2 with h0 | h0
      · omega
      · exact h0
    obtain ⟨y0, hy0, hl0⟩ := hk 0 (by omega)
    have ck0 := hck 0 (by omega)
    rw [hy0, Nat.add_zero] at ck0
    obtain ⟨y1, hy1, hl1⟩ := hk 1 (by omega)
    have ck1 := hck 1 (by omega)
    rw [hy1] at ck1
    obtain ⟨bp, op', rfl, hbp, hcp⟩ : ∃ b' off, b = some ⟨b', off, none⟩ ∧ b' < w.heap.size ∧ ∀ i, i < lb → w.cell? ⟨b', off + i, none⟩ = some (.int .i64 (l.getD i 0)) := by
      rcases hl.2 with h0 | h0
      · omega
      · exact h0
    have cp0 := hcp y0 (by omega)
    have K0 : ∀ o1 o2 o3 : Obj, (((w.alloc o1).alloc o2).alloc o3).cell? ⟨bk, ok, none⟩ = some (.int .i64 y0) := fun o1 o2 o3 => ((HB.out o1 o2 o3).cell (p := ⟨bk, ok, none⟩) hbk).trans ck0
    have P0 : ∀ o1 o2 o3 : Obj, (((w.alloc o1).alloc o2).alloc o3).cell? ⟨bp, op' + y0, none⟩ = some (.int .i64 (l.getD y0 0)) := fun o1 o2 o3 => ((HB.out o1 o2 o3).cell (p := ⟨bp, op' + y0, none⟩) hbp).trans cp0
    have lt0 : (y0 : Int) < lb := by omega
    have cp1 := hcp y1 (by omega)
    have K1 : ∀ o1 o2 o3 : Obj, (((w.alloc o1).alloc o2).alloc o3).cell? ⟨bk, ok + 1, none⟩ = some (.int .i64 y1) := fun o1 o2 o3 => ((HB.out o1 o2 o3).cell (p := ⟨bk, ok + 1, none⟩) hbk).trans ck1
    have P1 : ∀ o1 o2 o3 : Obj, (((w.alloc o1).alloc o2).alloc o3).cell? ⟨bp, op' + y1, none⟩ = some (.int .i64 (l.getD y1 0)) := fun o1 o2 o3 => ((HB.out o1 o2 o3).cell (p := ⟨bp, op' + y1, none⟩) hbp).trans cp1
    have lt1 : (y1 : Int) < lb := by omega
    have v0 : (if 0 < 2 then l.getD (kids.getD 0 0).toNat 0 else 0) = l.getD y0 0 := by rw [if_pos (by omega), hy0, Int.toNat_natCast]
    have v1 : (if 1 < 2 then l.getD (kids.getD 1 0).toNat 0 else 0) = l.getD y1 0 := by rw [if_pos (by omega), hy1, Int.toNat_natCast]
    have v2 : (if 2 < 2 then l.getD (kids.getD 2 0).toNat 0 else 0) = 0 := by rw [if_neg (by omega)]
    rw [v0, v1, v2]
    clear hck hcp hk h hl v0 v1 v2 hy0 hl0 hy1 hl1 hbk hbp ck0 cp0 ck1 cp1
    generalize l.getD y0 0 = z0 at P0 ⊢
    generalize l.getD y1 0 = z1 at P1 ⊢
    go_enter Tryd.func60, Tryd.ntmps60
    go_wp2_with fail
    refine wp_loop_rounds 3 ?_
    rw [rounds_succ]
    go_wp2
    rw [rounds_succ]
    go_wp2
    rw [rounds_succ]
    go_wp2
    exact bodyPost_ret (v := .agg #[.int .i64 op, .int .i64 n, .int .i64 z0, .int .i64 z1, .int .i64 0]) (by simp [results, Tryd.results60, go_sem, *]) rfl ⟨rfl, HB.out _ _ _⟩
  · obtain ⟨bk, ok, rfl, hbk, hck⟩ : ∃ b' off, a = some ⟨b', off, none⟩ ∧ b' < w.heap.size ∧ ∀ i, i < 3 → w.cell? ⟨b', off + i, none⟩ = some (.int .i64 (kids.getD i 0)) := by
      rcases h.2 with h0 | h0
      · omega
      · exact h0
    obtain ⟨y0, hy0, hl0⟩ := hk 0 (by omega)
    have ck0 := hck 0 (by omega)
    rw [hy0, Nat.add_zero] at ck0
    obtain ⟨y1, hy1, hl1⟩ := hk 1 (by omega)
    have ck1 := hck 1 (by omega)
    rw [hy1] at ck1
    obtain ⟨y2, hy2, hl2⟩ := hk 2 (by omega)
    have ck2 := hck 2 (by omega)
    rw [hy2] at ck2
    obtain ⟨bp, op', rfl, hbp, hcp⟩ : ∃ b' off, b = some ⟨b', off, none⟩ ∧ b' < w.heap.size ∧ ∀ i, i < lb → w.cell? ⟨b', off + i, none⟩ = some (.int .i64 (l.getD i 0)) := by
      rcases hl.2 with h0 | h0
      · omega
      · exact h0
    have cp0 := hcp y0 (by omega)
    have K0 : ∀ o1 o2 o3 : Obj, (((w.alloc o1).alloc o2).alloc o3).cell? ⟨bk, ok, none⟩ = some (.int .i64 y0) := fun o1 o2 o3 => ((HB.out o1 o2 o3).cell (p := ⟨bk, ok, none⟩) hbk).trans ck0
    have P0 : ∀ o1 o2 o3 : Obj, (((w.alloc o1).alloc o2).alloc o3).cell? ⟨bp, op' + y0, none⟩ = some (.int .i64 (l.getD y0 0)) := fun o1 o2 o3 => ((HB.out o1 o2 o3).cell (p := ⟨bp, op' + y0, none⟩) hbp).trans cp0
    have lt0 : (y0 : Int) < lb := by omega
    have cp1 := hcp y1 (by omega)
    have K1 : ∀ o1 o2 o3 : Obj, (((w.alloc o1).alloc o2).alloc o3).cell? ⟨bk, ok + 1, none⟩ = some (.int .i64 y1) := fun o1 o2 o3 => ((HB.out o1 o2 o3).cell (p := ⟨bk, ok + 1, none⟩) hbk).trans ck1
    have P1 : ∀ o1 o2 o3 : Obj, (((w.alloc o1).alloc o2).alloc o3).cell? ⟨bp, op' + y1, none⟩ = some (.int .i64 (l.getD y1 0)) := fun o1 o2 o3 => ((HB.out o1 o2 o3).cell (p := ⟨bp, op' + y1, none⟩) hbp).trans cp1
    have lt1 : (y1 : Int) < lb := by omega
    have cp2 := hcp y2 (by omega)
    have K2 : ∀ o1 o2 o3 : Obj, (((w.alloc o1).alloc o2).alloc o3).cell? ⟨bk, ok + 2, none⟩ = some (.int .i64 y2) := fun o1 o2 o3 => ((HB.out o1 o2 o3).cell (p := ⟨bk, ok + 2, none⟩) hbk).trans ck2
    have P2 : ∀ o1 o2 o3 : Obj, (((w.alloc o1).alloc o2).alloc o3).cell? ⟨bp, op' + y2, none⟩ = some (.int .i64 (l.getD y2 0)) := fun o1 o2 o3 => ((HB.out o1 o2 o3).cell (p := ⟨bp, op' + y2, none⟩) hbp).trans cp2
    have lt2 : (y2 : Int) < lb := by omega
    have v0 : (if 0 < 3 then l.getD (kids.getD 0 0).toNat 0 else 0) = l.getD y0 0 := by rw [if_pos (by omega), hy0, Int.toNat_natCast]
    have v1 : (if 1 < 3 then l.getD (kids.getD 1 0).toNat 0 else 0) = l.getD y1 0 := by rw [if_pos (by omega), hy1, Int.toNat_natCast]
    have v2 : (if 2 < 3 then l.getD (kids.getD 2 0).toNat 0 else 0) = l.getD y2 0 := by rw [if_pos (by omega), hy2, Int.toNat_natCast]
    rw [v0, v1, v2]
    clear hck hcp hk h hl v0 v1 v2 hy0 hl0 hy1 hl1 hy2 hl2 hbk hbp ck0 cp0 ck1 cp1 ck2 cp2
    generalize l.getD y0 0 = z0 at P0 ⊢
    generalize l.getD y1 0 = z1 at P1 ⊢
    generalize l.getD y2 0 = z2 at P2 ⊢
    go_enter Tryd.func60, Tryd.ntmps60
    go_wp2_with fail
    refine wp_loop_rounds 4 ?_
    rw [rounds_succ]
    go_wp2
    rw [rounds_succ]
    go_wp2
    rw [rounds_succ]
    go_wp2
    rw [rounds_succ]
    go_wp2
    exact bodyPost_ret (v := .agg #[.int .i64 op, .int .i64 n, .int .i64 z0, .int .i64 z1, .int .i64 z2]) (by simp [results, Tryd.results60, go_sem, *]) rfl ⟨rfl, HB.out _ _ _⟩
end Go.Proofs.YtbmgflapagbkcaaDoor
