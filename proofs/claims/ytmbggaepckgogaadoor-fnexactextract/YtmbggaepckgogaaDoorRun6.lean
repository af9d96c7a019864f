/-
  PROVED HERE: what the program's shapeOf answers, at every node whose kids are numbers of the parts. No other condition. what the program's look whether alike nodes are of one class answers, at every graph of good nodes and parts whose kids are classes. No other condition.
-/
import Derived.Test.YtmbggaepckgogaaDoorRun4
import Derived.Test.YtmbggaepckgogaaDoorRun5
import Derived.Deep.RegionWith
namespace Go.Proofs.YtmbggaepckgogaaDoor
open Go.ChangeShapes Go.WideShapes Go.ChangeAt Go.RowKit
set_option linter.unusedVariables false

/-- The part of a kid, 0 where there is none. -/
def partOf (l kids : List Int) (i : Nat) : Int := if i < kids.length then l.getD (kids.getD i 0).toNat 0 else 0
def shO (l : List Int) (x : EN) : Sh := (x.1, x.2.1, partOf l x.2.2 0, partOf l x.2.2 1, partOf l x.2.2 2)
set_option maxHeartbeats 1600000 in
theorem shape_any (op n : Int) (a b : Option Addr) (len cap lb cb : Nat) (kids l : List Int) (w : World) (h : Sl w a len kids) (hl : Sl w b lb l) (h3 : len ≤ 3) (hk : ∀ i, i < len → ∃ y : Nat, kids.getD i 0 = y ∧ y < lb) :
    Calls Tryd.prog 72 #[.agg #[.int .i64 op, .int .i64 n, .slice a len cap], .slice b lb cb] w fun e w' => e = .returned (shV (shO l (op, n, kids))) ∧ Below w.heap.size w w' := by
  have hll := h.1
  unfold shV shO partOf
  simp only [hll]
  have HB : Hid (∀ o1 o2 o3 : Obj, Below w.heap.size w (((w.alloc o1).alloc o2).alloc o3)) := fun o1 o2 o3 => (((Below.refl _ _).alloc (Nat.le_refl _) _).alloc (by simp) _).alloc (by simp; omega) _
  have h3' : len = 0 ∨ len = 1 ∨ len = 2 ∨ len = 3 := by omega
  rcases h3' with rfl | rfl | rfl | rfl
  · have v0 : (if 0 < 0 then l.getD (kids.getD 0 0).toNat 0 else 0) = 0 := by rw [if_neg (by omega)]
    have v1 : (if 1 < 0 then l.getD (kids.getD 1 0).toNat 0 else 0) = 0 := by rw [if_neg (by omega)]
    have v2 : (if 2 < 0 then l.getD (kids.getD 2 0).toNat 0 else 0) = 0 := by rw [if_neg (by omega)]
    rw [v0, v1, v2]
    clear hk h hl v0 v1 v2
    go_enter Tryd.func72, Tryd.ntmps72
    go_wp2_with fail
    refine wp_loop_rounds 1 ?_
    rw [rounds_succ]
    go_wp2
    exact bodyPost_ret (v := .agg #[.int .i64 op, .int .i64 n, .int .i64 0, .int .i64 0, .int .i64 0]) (by simp [results, Tryd.results72, go_sem, *]) rfl ⟨rfl, HB.out _ _ _⟩
  · obtain ⟨bk, ok, rfl, hbk, hck⟩ : ∃ b' off, a = some ⟨b', off, none⟩ ∧ b' < w.heap.size ∧ ∀ i, i < 1 → w.cell? ⟨b', off + i, none⟩ = some (.int .i64 (kids.getD i 0)) := by
      rcases h.2 with h0 | h0
      · omega
      · exact h0
    obtain ⟨y0, hy0, hl0⟩ := hk 0 (by omega)
    have ck0 := hck 0 (by omega)
    rw [hy0, Nat.add_zero] at ck0
    obtain ⟨bp, op', rfl, hbp, hcp⟩ : ∃ b' off, b = some ⟨b', off, none⟩ ∧ b' < w.heap.size ∧ ∀ i, i < lb → w.cell? ⟨b', off + i, none⟩ = some (.int .i64 (l.getD i 0)) := by
      rcases hl.2 with h0 | h0
      · omega
      · exact h0
    have cp0 := hcp y0 (by omega)
    have K0 : ∀ o1 o2 o3 : Obj, (((w.alloc o1).alloc o2).alloc o3).cell? ⟨bk, ok, none⟩ = some (.int .i64 y0) := fun o1 o2 o3 => ((HB.out o1 o2 o3).cell (p := ⟨bk, ok, none⟩) hbk).trans ck0
    have P0 : ∀ o1 o2 o3 : Obj, (((w.alloc o1).alloc o2).alloc o3).cell? ⟨bp, op' + y0, none⟩ = some (.int .i64 (l.getD y0 0)) := fun o1 o2 o3 => ((HB.out o1 o2 o3).cell (p := ⟨bp, op' + y0, none⟩) hbp).trans cp0
    have lt0 : (y0 : Int) < lb := by omega
    have v0 : (if 0 < 1 then l.getD (kids.getD 0 0).toNat 0 else 0) = l.getD y0 0 := by rw [if_pos (by omega), hy0, Int.toNat_natCast]
    have v1 : (if 1 < 1 then l.getD (kids.getD 1 0).toNat 0 else 0) = 0 := by rw [if_neg (by omega)]
    have v2 : (if 2 < 1 then l.getD (kids.getD 2 0).toNat 0 else 0) = 0 := by rw [if_neg (by omega)]
    rw [v0, v1, v2]
    clear hck hcp hk h hl v0 v1 v2 hy0 hl0 hbk hbp ck0 cp0
    generalize l.getD y0 0 = z0 at P0 ⊢
    go_enter Tryd.func72, Tryd.ntmps72
    go_wp2_with fail
    refine wp_loop_rounds 2 ?_
    rw [rounds_succ]
    go_wp2
    rw [rounds_succ]
    go_wp2
    exact bodyPost_ret (v := .agg #[.int .i64 op, .int .i64 n, .int .i64 z0, .int .i64 0, .int .i64 0]) (by simp [results, Tryd.results72, go_sem, *]) rfl ⟨rfl, HB.out _ _ _⟩
  · obtain ⟨bk, ok, rfl, hbk, hck⟩ : ∃ b' off, a = some ⟨b', off, none⟩ ∧ b' < w.heap.size ∧ ∀ i, i < 2 → w.cell? ⟨b', off + i, none⟩ = some (.int .i64 (kids.getD i 0)) := by
      rcases h.2 with h0 | h0
      · omega
      · exact h0
    obtain ⟨y0, hy0, hl0⟩ := hk 0 (by omega)
    have ck0 := hck 0 (by omega)
    rw [hy0, Nat.add_zero] at ck0
    obtain ⟨y1, hy1, hl1⟩ := hk 1 (by omega)
    have ck1 := hck 1 (by omega)
    rw [hy1] at ck1
    obtain ⟨bp, op', rfl, hbp, hcp⟩ : ∃ b' off, b = some ⟨b', off, none⟩ ∧ b' < w.heap.size ∧ ∀ i, i < lb → w.cell? ⟨b', off + i, none⟩ = some (.int .i64 (l.getD i 0)) := by
      rcases hl.2 with h0 | h0
      · omega
      · exact h0
    have cp0 := hcp y0 (by omega)
    have K0 : ∀ o1 o2 o3 : Obj, (((w.alloc o1).alloc o2).alloc o3).cell? ⟨bk, ok, none⟩ = some (.int .i64 y0) := fun o1 o2 o3 => ((HB.out o1 o2 o3).cell (p := ⟨bk, ok, none⟩) hbk).trans ck0
    have P0 : ∀ o1 o2 o3 : Obj, (((w.alloc o1).alloc o2).alloc o3).cell? ⟨bp, op' + y0, none⟩ = some (.int .i64 (l.getD y0 0)) := fun o1 o2 o3 => ((HB.out o1 o2 o3).cell (p := ⟨bp, op' + y0, none⟩) hbp).trans cp0
    have lt0 : (y0 : Int) < lb := by omega
    have cp1 := hcp y1 (by omega)
    have K1 : ∀ o1 o2 o3 : Obj, (((w.alloc o1).alloc o2).alloc o3).cell? ⟨bk, ok + 1, none⟩ = some (.int .i64 y1) := fun o1 o2 o3 => ((HB.out o1 o2 o3).cell (p := ⟨bk, ok + 1, none⟩) hbk).trans ck1
    have P1 : ∀ o1 o2 o3 : Obj, (((w.alloc o1).alloc o2).alloc o3).cell? ⟨bp, op' + y1, none⟩ = some (.int .i64 (l.getD y1 0)) := fun o1 o2 o3 => ((HB.out o1 o2 o3).cell (p := ⟨bp, op' + y1, none⟩) hbp).trans cp1
    have lt1 : (y1 : Int) < lb := by omega
    have v0 : (if 0 < 2 then l.getD (kids.getD 0 0).toNat 0 else 0) = l.getD y0 0 := by rw [if_pos (by omega), hy0, Int.toNat_natCast]
    have v1 : (if 1 < 2 then l.getD (kids.getD 1 0).toNat 0 else 0) = l.getD y1 0 := by rw [if_pos (by omega), hy1, Int.toNat_natCast]
    have v2 : (if 2 < 2 then l.getD (kids.getD 2 0).toNat 0 else 0) = 0 := by rw [if_neg (by omega)]
    rw [v0, v1, v2]
    clear hck hcp hk h hl v0 v1 v2 hy0 hl0 hy1 hl1 hbk hbp ck0 cp0 ck1 cp1
    generalize l.getD y0 0 = z0 at P0 ⊢
    generalize l.getD y1 0 = z1 at P1 ⊢
    go_enter Tryd.func72, Tryd.ntmps72
    go_wp2_with fail
    refine wp_loop_rounds 3 ?_
    rw [rounds_succ]
    go_wp2
    rw [rounds_succ]
    go_wp2
    rw [rounds_succ]
    go_wp2
    exact bodyPost_ret (v := .agg #[.int .i64 op, .int .i64 n, .int .i64 z0, .int .i64 z1, .int .i64 0]) (by simp [results, Tryd.results72, go_sem, *]) rfl ⟨rfl, HB.out _ _ _⟩
  · obtain ⟨bk, ok, rfl, hbk, hck⟩ : ∃ b' off, a = some ⟨b', off, none⟩ ∧ b' < w.heap.size ∧ ∀ i, i < 3 → w.cell? ⟨b', off + i, none⟩ = some (.int .i64 (kids.getD i 0)) := by
      rcases h.2 with h0 | h0
      · omega
      · exact h0
    obtain ⟨y0, hy0, hl0⟩ := hk 0 (by omega)
    have ck0 := hck 0 (by omega)
    rw [hy0, Nat.add_zero] at ck0
    obtain ⟨y1, hy1, hl1⟩ := hk 1 (by omega)
    have ck1 := hck 1 (by omega)
    rw [hy1] at ck1
    obtain ⟨y2, hy2, hl2⟩ := hk 2 (by omega)
    have ck2 := hck 2 (by omega)
    rw [hy2] at ck2
    obtain ⟨bp, op', rfl, hbp, hcp⟩ : ∃ b' off, b = some ⟨b', off, none⟩ ∧ b' < w.heap.size ∧ ∀ i, i < lb → w.cell? ⟨b', off + i, none⟩ = some (.int .i64 (l.getD i 0)) := by
      rcases hl.2 with h0 | h0
      · omega
      · exact h0
    have cp0 := hcp y0 (by omega)
    have K0 : ∀ o1 o2 o3 : Obj, (((w.alloc o1).alloc o2).alloc o3).cell? ⟨bk, ok, none⟩ = some (.int .i64 y0) := fun o1 o2 o3 => ((HB.out o1 o2 o3).cell (p := ⟨bk, ok, none⟩) hbk).trans ck0
    have P0 : ∀ o1 o2 o3 : Obj, (((w.alloc o1).alloc o2).alloc o3).cell? ⟨bp, op' + y0, none⟩ = some (.int .i64 (l.getD y0 0)) := fun o1 o2 o3 => ((HB.out o1 o2 o3).cell (p := ⟨bp, op' + y0, none⟩) hbp).trans cp0
    have lt0 : (y0 : Int) < lb := by omega
    have cp1 := hcp y1 (by omega)
    have K1 : ∀ o1 o2 o3 : Obj, (((w.alloc o1).alloc o2).alloc o3).cell? ⟨bk, ok + 1, none⟩ = some (.int .i64 y1) := fun o1 o2 o3 => ((HB.out o1 o2 o3).cell (p := ⟨bk, ok + 1, none⟩) hbk).trans ck1
    have P1 : ∀ o1 o2 o3 : Obj, (((w.alloc o1).alloc o2).alloc o3).cell? ⟨bp, op' + y1, none⟩ = some (.int .i64 (l.getD y1 0)) := fun o1 o2 o3 => ((HB.out o1 o2 o3).cell (p := ⟨bp, op' + y1, none⟩) hbp).trans cp1
    have lt1 : (y1 : Int) < lb := by omega
    have cp2 := hcp y2 (by omega)
    have K2 : ∀ o1 o2 o3 : Obj, (((w.alloc o1).alloc o2).alloc o3).cell? ⟨bk, ok + 2, none⟩ = some (.int .i64 y2) := fun o1 o2 o3 => ((HB.out o1 o2 o3).cell (p := ⟨bk, ok + 2, none⟩) hbk).trans ck2
    have P2 : ∀ o1 o2 o3 : Obj, (((w.alloc o1).alloc o2).alloc o3).cell? ⟨bp, op' + y2, none⟩ = some (.int .i64 (l.getD y2 0)) := fun o1 o2 o3 => ((HB.out o1 o2 o3).cell (p := ⟨bp, op' + y2, none⟩) hbp).trans cp2
    have lt2 : (y2 : Int) < lb := by omega
    have v0 : (if 0 < 3 then l.getD (kids.getD 0 0).toNat 0 else 0) = l.getD y0 0 := by rw [if_pos (by omega), hy0, Int.toNat_natCast]
    have v1 : (if 1 < 3 then l.getD (kids.getD 1 0).toNat 0 else 0) = l.getD y1 0 := by rw [if_pos (by omega), hy1, Int.toNat_natCast]
    have v2 : (if 2 < 3 then l.getD (kids.getD 2 0).toNat 0 else 0) = l.getD y2 0 := by rw [if_pos (by omega), hy2, Int.toNat_natCast]
    rw [v0, v1, v2]
    clear hck hcp hk h hl v0 v1 v2 hy0 hl0 hy1 hl1 hy2 hl2 hbk hbp ck0 cp0 ck1 cp1 ck2 cp2
    generalize l.getD y0 0 = z0 at P0 ⊢
    generalize l.getD y1 0 = z1 at P1 ⊢
    generalize l.getD y2 0 = z2 at P2 ⊢
    go_enter Tryd.func72, Tryd.ntmps72
    go_wp2_with fail
    refine wp_loop_rounds 4 ?_
    rw [rounds_succ]
    go_wp2
    rw [rounds_succ]
    go_wp2
    rw [rounds_succ]
    go_wp2
    rw [rounds_succ]
    go_wp2
    exact bodyPost_ret (v := .agg #[.int .i64 op, .int .i64 n, .int .i64 z0, .int .i64 z1, .int .i64 z2]) (by simp [results, Tryd.results72, go_sem, *]) rfl ⟨rfl, HB.out _ _ _⟩
end Go.Proofs.YtmbggaepckgogaaDoor
namespace Go.Proofs.YtmbggaepckgogaaDoor
open Go.ChangeShapes Go.WideShapes Go.ChangeAt Go.RowKit
open Go.MapKept Go.ChangeMaps
set_option linter.unusedVariables false

/-- Numbers within 64 bits. -/
def InE (p : List EN) : Prop := ∀ i, i < p.length → InI (p.getD i e0).2.1
theorem part_kid {l kids : List Int} (h : KidsCl l kids) {i : Nat} (hi : i < kids.length) : partOf l kids i = kids.getD i 0 := by
  unfold partOf; rw [if_pos hi]; exact kidsCl_atI h i hi
theorem sh_same {l : List Int} {x y : EN} {i j : Nat} (hx : fitE i x = true) (hy : fitE j y = true) (kx : KidsCl l x.2.2) (ky : KidsCl l y.2.2) (h : shO l x = shO l y) : x = y := by
  obtain ⟨xo, xn, xk⟩ := x
  obtain ⟨yo, yn, yk⟩ := y
  simp only [shO, Prod.mk.injEq] at h
  obtain ⟨rfl, rfl, h0, h1, h2⟩ := h
  have lx := fit_node hx
  have ly := fit_node hy
  have fx := fit_few hx
  simp only at lx ly fx kx ky
  have hl : xk.length = yk.length := by omega
  have : xk = yk := list_ext hl fun k hk => by
    have hk3 : k = 0 ∨ k = 1 ∨ k = 2 := by omega
    rcases hk3 with rfl | rfl | rfl
    · rwa [part_kid kx hk, part_kid ky (by omega)] at h0
    · rwa [part_kid kx hk, part_kid ky (by omega)] at h1
    · rwa [part_kid kx hk, part_kid ky (by omega)] at h2
  rw [this]
theorem part_in {l : List Int} (hP : partB l = true) (kids : List Int) (i : Nat) : InI (partOf l kids i) := by
  obtain ⟨h200, hp, _⟩ := (partB_iff l).1 hP
  unfold partOf InI
  split
  · generalize (kids.getD i 0).toNat = k
    by_cases hk : k < l.length
    · have := hp k hk; omega
    · rw [List.getD_eq_getElem?_getD, List.getElem?_eq_none (by omega)]; simp
  · omega
theorem sh_in {l : List Int} (hP : partB l = true) {x : EN} {i : Nat} (hx : fitE i x = true) (hn : InI x.2.1) : ShIn (shO l x) := by
  have hf := fit_node hx
  refine ⟨?_, hn, part_in hP _ _, part_in hP _ _, part_in hP _ _⟩
  show InI x.1
  unfold InI
  rcases ops x.1 with h | h
  · have := ar_out x.1 h; omega
  · omega
/-- What the map holds behind k nodes. -/
def Held (p : List EN) (l : List Int) (k : Nat) (f : Sh → Option Int) : Prop := (∀ i, i < k → f (shO l (p.getD i e0)) = some (l.getD i 0)) ∧ ∀ e v, f e = some v → ∃ i, i < k ∧ shO l (p.getD i e0) = e ∧ l.getD i 0 = v
theorem held_none {p : List EN} {l : List Int} {k : Nat} {f : Sh → Option Int} (h : Held p l k f) (e : f (shO l (p.getD k e0)) = none) : OneCl p l k ∧ Held p l (k + 1) (setS f (shO l (p.getD k e0)) (some (l.getD k 0))) := by
  have hn : ∀ i, i < k → shO l (p.getD i e0) ≠ shO l (p.getD k e0) := fun i hi he => by
    have := h.1 i hi
    rw [he, e] at this
    cases this
  refine ⟨fun i hi he => absurd (by rw [he]) (hn i hi), fun i hi => ?_, fun e' v he' => ?_⟩
  · unfold setS
    by_cases hik : i = k
    · rw [hik, if_pos rfl]
    · rw [if_neg (hn i (by omega))]; exact h.1 i (by omega)
  · unfold setS at he'
    by_cases e1 : e' = shO l (p.getD k e0)
    · rw [if_pos e1] at he'; cases he'; exact ⟨k, by omega, e1.symm, rfl⟩
    · rw [if_neg e1] at he'
      obtain ⟨i, h1, h2⟩ := h.2 e' v he'
      exact ⟨i, by omega, h2⟩
theorem held_some {p : List EN} {l : List Int} {k : Nat} {f : Sh → Option Int} (h : Held p l k f) (e : f (shO l (p.getD k e0)) = some (l.getD k 0)) : OneCl p l k ∧ Held p l (k + 1) (setS f (shO l (p.getD k e0)) (some (l.getD k 0))) := by
  have hn : ∀ i, i < k → shO l (p.getD i e0) = shO l (p.getD k e0) → l.getD i 0 = l.getD k 0 := fun i hi he => by
    have := h.1 i hi
    rw [he, e] at this
    exact (Option.some.inj this).symm
  refine ⟨fun i hi he => hn i hi (by rw [he]), fun i hi => ?_, fun e' v he' => ?_⟩
  · unfold setS
    by_cases hik : i = k
    · rw [hik, if_pos rfl]
    · by_cases e1 : shO l (p.getD i e0) = shO l (p.getD k e0)
      · rw [if_pos e1, hn i (by omega) e1]
      · rw [if_neg e1]; exact h.1 i (by omega)
  · unfold setS at he'
    by_cases e1 : e' = shO l (p.getD k e0)
    · rw [if_pos e1] at he'; cases he'; exact ⟨k, by omega, e1.symm, rfl⟩
    · rw [if_neg e1] at he'
      obtain ⟨i, h1, h2⟩ := h.2 e' v he'
      exact ⟨i, by omega, h2⟩
theorem held_bad {p : List EN} {l : List Int} {k : Nat} {f : Sh → Option Int} (hN : nodesB p = true) (hC : AllCl p l) (hk : k < p.length) (h : Held p l k f) {v : Int} (e : f (shO l (p.getD k e0)) = some v) (hv : v ≠ l.getD k 0) : ¬ AllOne p l := by
  obtain ⟨i, h1, h2, h3⟩ := h.2 _ v e
  have hf := ((nodesB_iff p).1 hN).2
  intro ha
  have := sh_same (hf i (by omega)) (hf k hk) (hC i (by omega)) (hC k hk) h2
  exact hv (by rw [← h3]; exact ha k hk i h1 this.symm)
end Go.Proofs.YtmbggaepckgogaaDoor
