/-
  PROVED HERE: what the laws' own copying, comparing, marking and weighing of lists of nodes answer, at every list of at most a million. No other condition. what the laws' own copying, comparing, marking and weighing of lists of nodes answer, at every list of at most a million. No other condition. what the laws' own weighing, copying and comparing of rules answer, at every rule of at most a million nodes. No other condition.
-/
import Derived.Test.YtobgkfpjokfbaaaGreatDoorRows
import Derived.Test.YtobgkfpjokfbaaaGreatDoorRun0
import Derived.WalkKit
import Derived.ProofKit
import Derived.OpenShut
import Derived.Handy
import Derived.OwnWalk
import Derived.WalkSmall
import Derived.BigQuiet
import Derived.Deep.QuietTactic
import Derived.Deep.RegionWith
namespace Go.Proofs.YtobgkfpjokfbaaaGreatDoor
open Go.ChangeShapes Go.WideShapes Go.ChangeAt Go.RowKit
set_option linter.unusedVariables false

theorem toNode_any (x y : Int) (w : World) :
    Calls Tryz.prog 50 #[.agg #[.int .i64 x, .int .i64 y]] w fun e w' => e = .returned (.agg #[.int .i64 x, .int .i64 y]) ∧ Below w.heap.size w w' := by
  go_enter Tryz.func50, Tryz.ntmps50
  go_wp2
  exact bodyPost_ret (v := .agg #[.int .i64 x, .int .i64 y]) (by simp [results, Tryz.results50, go_sem]) rfl ⟨rfl, (((Below.refl _ _).alloc (Nat.le_refl _) _).alloc (by simp) _).alloc (by simp; omega) _⟩

theorem store2 {w w2 : World} {e k len : Nat} {xs : List Value} {l : List (Int × Int)} {x y : Int} (h : w2.ownsRow w.heap.size e 2 (.slice (some ⟨w.heap.size, 0, none⟩) len len) len xs) (hb : Below w.heap.size w w2)
    (hx : ∀ j, j < k → xs[j * 2]? = some (.int .i64 (l.getD j (0, 0)).1) ∧ xs[j * 2 + 1]? = some (.int .i64 (l.getD j (0, 0)).2)) (hk : k < len) (ex : (l.getD k (0, 0)).1 = x) (ey : (l.getD k (0, 0)).2 = y) :
    ∃ xs', ((w2.setCell ⟨w.heap.size, k * 2, none⟩ (.int .i64 x)).setCell ⟨w.heap.size, k * 2 + 1, none⟩ (.int .i64 y)).ownsRow w.heap.size e 2 (.slice (some ⟨w.heap.size, 0, none⟩) len len) len xs' ∧ (∀ j, j < k + 1 → xs'[j * 2]? = some (.int .i64 (l.getD j (0, 0)).1) ∧ xs'[j * 2 + 1]? = some (.int .i64 (l.getD j (0, 0)).2)) ∧ Below w.heap.size w ((w2.setCell ⟨w.heap.size, k * 2, none⟩ (.int .i64 x)).setCell ⟨w.heap.size, k * 2 + 1, none⟩ (.int .i64 y)) := by
  have hl := h.1
  refine ⟨_, ((h.stored (k * 2) (.int .i64 x)).1.stored (k * 2 + 1) (.int .i64 y)).1, fun j hj => ?_, (hb.setCell (Nat.le_refl _) _).setCell (Nat.le_refl _) _⟩
  simp only [List.getElem?_set, List.length_set]
  by_cases e1 : k = j
  · subst e1
    rw [if_neg (by omega), if_pos rfl, if_pos (by omega), if_pos rfl, if_pos (by omega), ex, ey]
    exact ⟨rfl, rfl⟩
  · rw [if_neg (by omega), if_neg (by omega), if_neg (by omega), if_neg (by omega)]
    exact hx j (by omega)

/-- A row of nodes of one's own: it may be written. -/
def Mine (w : World) (b off len : Nat) : Prop := b < w.heap.size ∧ ∀ i, i < len * 2 → (∃ v, w.cell? ⟨b, off + i, none⟩ = some v) ∧ w.frozen? ⟨b, off + i, none⟩ = false
theorem copyN_mine (a : Option Addr) (len cap : Nat) (l : List (Int × Int)) (w : World) (h : NSl w a len l) (hn : len ≤ 1048576) :
    Calls Tryz.prog 27 #[.slice a len cap] w fun e w' => e = .returned (.slice (some ⟨w.heap.size, 0, none⟩) len len) ∧ Below w.heap.size w w' ∧ NSl w' (some ⟨w.heap.size, 0, none⟩) len l ∧ Mine w' w.heap.size 0 len := by
  obtain ⟨i0, hi, hz0, hz1, hz2⟩ := info_parts infoNode
  have hsl := h
  have hlen := h.1
  clear h
  go_enter Tryz.func27, Tryz.ntmps27
  go_wp2_with (at_make; refine wpList_make_full _ rfl _ _ 40 rfl w.heap.size 83 i0 (.agg #[.int .i64 0, .int .i64 0]) 2 Tryz.underlying40 hi hz0 hz1 _ _ _ _ len rfl rfl rfl rfl (by rw [hz2]; omega) (by unfold maxLen; omega) (Nat.le_refl _) ?_; intro w1 hown hgrow)
  have hb1 : Below w.heap.size w w1 := (Below.refl _ _).grown hgrow (Nat.le_refl _) (fun k hk => by cases hk)
  clear hgrow
  go_loopw [4] (fun i wr => ∃ (k : Nat) (xs : List Value), k ≤ len ∧ i = .int .i64 k ∧ wr.ownsRow w.heap.size 83 2 (.slice (some ⟨w.heap.size, 0, none⟩) len len) len xs ∧ Hid (∀ j, j < k → xs[j * 2]? = some (.int .i64 (l.getD j (0, 0)).1) ∧ xs[j * 2 + 1]? = some (.int .i64 (l.getD j (0, 0)).2)) ∧ Below w.heap.size w wr) (fun i _ => len - (intOf i).toNat)
  case atStart => exact ⟨0, _, Nat.zero_le _, rfl, hown, fun j hj => absurd hj (Nat.not_lt_zero _), hb1⟩
  case round =>
    obtain ⟨k, xs, hk, rfl, howr, hx, hbr⟩ := hrel
    clear hown hb1
    by_cases hlt : k < len
    · obtain ⟨b, off, rfl, hbl, hc⟩ := hsl.at (by omega)
      have hc1 : wr.cell? ⟨b, off + k * 2, none⟩ = some (.int .i64 (l.getD k (0, 0)).1) := (hbr.cell (p := ⟨b, off + k * 2, none⟩) hbl).trans (hc k hlt).1
      have hc2 : wr.cell? ⟨b, off + k * 2 + 1, none⟩ = some (.int .i64 (l.getD k (0, 0)).2) := (hbr.cell (p := ⟨b, off + k * 2 + 1, none⟩) hbl).trans (hc k hlt).2
      clear hc
      obtain ⟨x, hxe⟩ : ∃ x, (l.getD k (0, 0)).1 = x := ⟨_, rfl⟩
      obtain ⟨y, hye⟩ : ∃ y, (l.getD k (0, 0)).2 = y := ⟨_, rfl⟩
      rw [hxe] at hc1
      rw [hye] at hc2
      have HX : Hid ((l.getD k (0, 0)).1 = x ∧ (l.getD k (0, 0)).2 = y) := ⟨hxe, hye⟩
      clear hxe hye hsl
      go_wp2_with fail
      refine (toNode_any _ _ _).mono ?_
      rintro e w2 ⟨rfl, hb2⟩
      have how2 := howr.kept (grown_of hb2) (.inr (by simp [Value.ownBlock]))
      have hbr2 := hbr.trans (hb2.mono hbr.size)
      have hf1 := how2.frozenAt (k * 2)
      have hf2 := how2.frozenAt (k * 2 + 1)
      have hxl : xs.length = len * 2 := howr.1
      obtain ⟨y1, hy1⟩ : ∃ y, xs[k * 2]? = some y := ⟨_, List.getElem?_eq_getElem (by omega)⟩
      obtain ⟨y2, hy2⟩ : ∃ y, xs[k * 2 + 1]? = some y := ⟨_, List.getElem?_eq_getElem (by omega)⟩
      have hg1 := how2.cellAt (k * 2) (by omega)
      have hg2 := how2.cellAt (k * 2 + 1) (by omega)
      rw [hy1] at hg1
      rw [hy2] at hg2
      clear howr hc1 hc2
      have R := store2 (l := l) how2 hbr2 hx (by omega) HX.out.1 HX.out.2
      have HR : Hid (∃ xs', ((w2.setCell ⟨w.heap.size, k * 2, none⟩ (.int .i64 x)).setCell ⟨w.heap.size, k * 2 + 1, none⟩ (.int .i64 y)).ownsRow w.heap.size 83 2 (.slice (some ⟨w.heap.size, 0, none⟩) len len) len xs' ∧ (∀ j, j < k + 1 → xs'[j * 2]? = some (.int .i64 (l.getD j (0, 0)).1) ∧ xs'[j * 2 + 1]? = some (.int .i64 (l.getD j (0, 0)).2)) ∧ Below w.heap.size w ((w2.setCell ⟨w.heap.size, k * 2, none⟩ (.int .i64 x)).setCell ⟨w.heap.size, k * 2 + 1, none⟩ (.int .i64 y))) := R
      clear R how2 hbr2 hx hb2 hbr HX hy1 hy2
      go_wp2
      go_roundw
      case rel =>
        obtain ⟨xs', r1, r2, r3⟩ := HR.out
        exact ⟨k + 1, xs', by omega, by go_num, r1, r2, r3⟩
      case measure => simp [intOf]; omega
    · go_wp2
      obtain rfl : k = len := by omega
      go_ret
      refine ⟨rfl, hbr, ⟨hlen, ?_⟩, owns_lt howr, fun i hi => ⟨?_, by rw [Nat.zero_add]; exact howr.frozenAt i⟩⟩
      · by_cases h0 : k = 0
        · exact .inl h0
        · refine .inr ⟨w.heap.size, 0, rfl, owns_lt howr, fun i hi => ?_⟩
          rw [Nat.zero_add, howr.cellAt (i * 2) (by omega), howr.cellAt (i * 2 + 1) (by omega)]
          exact hx.out i hi
      · rw [Nat.zero_add, howr.cellAt i hi]
        exact ⟨_, List.getElem?_eq_getElem (by have := howr.1; omega)⟩
theorem copyN_any (a : Option Addr) (len cap : Nat) (l : List (Int × Int)) (w : World) (h : NSl w a len l) (hn : len ≤ 1048576) :
    Calls Tryz.prog 27 #[.slice a len cap] w fun e w' => e = .returned (.slice (some ⟨w.heap.size, 0, none⟩) len len) ∧ Below w.heap.size w w' ∧ NSl w' (some ⟨w.heap.size, 0, none⟩) len l := by
  refine (copyN_mine a len cap l w h hn).mono ?_
  rintro e w' ⟨rfl, h1, h2, _⟩
  exact ⟨rfl, h1, h2⟩

theorem sz_any (a : Option Addr) (len cap : Nat) (n : Nat) (w : World) (hn : n ≤ 1048576) (hl : len ≤ 9223372036854775807) :
    Calls Tryz.prog 21 #[.slice a len cap, .int .i64 n] w fun e w' => e = .returned (.int .i64 (if len ≤ n then ((n - len : Nat) : Int) else -1)) ∧ w' = w := by
  by_cases h : len ≤ n
  · rw [if_pos h]
    have h1 : ¬ (n : Int) - len < 0 := by omega
    go_enter Tryz.func21, Tryz.ntmps21
    go_wp2
    go_ret
    exact ⟨ret_int (by omega), rfl⟩
  · rw [if_neg h]
    have h1 : (n : Int) - len < 0 := by omega
    go_enter Tryz.func21, Tryz.ntmps21
    go_wp2
    go_ret
    exact ⟨rfl, rfl⟩

theorem eqNode_same (x y : Int) (w : World) :
    Calls Tryz.prog 64 #[.agg #[.int .i64 x, .int .i64 y], .agg #[.int .i64 x, .int .i64 y]] w fun e w' => e = .returned (.bool true) ∧ Below w.heap.size w w' := by
  go_enter Tryz.func64, Tryz.ntmps64
  go_wp2
  go_ret
  exact ⟨rfl, ((Below.refl _ _).alloc (Nat.le_refl _) _).alloc (by simp) _⟩

theorem eqN_same (a b : Option Addr) (len cap cap' : Nat) (l : List (Int × Int)) (w : World) (h : NSl w a len l) (h' : NSl w b len l) (hn : len ≤ 1048576) :
    Calls Tryz.prog 34 #[.slice a len cap, .slice b len cap'] w fun e w' => e = .returned (.bool true) ∧ Below w.heap.size w w' := by
  have hne : ((len : Int) != len) = false := by simp
  go_enter Tryz.func34, Tryz.ntmps34
  go_wp2
  go_loopw [5] (fun i wr => ∃ (k : Nat), k ≤ len ∧ i = .int .i64 k ∧ Below w.heap.size w wr) (fun i _ => len - (intOf i).toNat)
  case atStart => exact ⟨0, Nat.zero_le _, rfl, Below.refl _ _⟩
  case round =>
    obtain ⟨k, hk, rfl, hbr⟩ := hrel
    by_cases hlt : k < len
    · obtain ⟨b1, off, rfl, hbl, hc⟩ := h.at (by omega)
      obtain ⟨b2, off', rfl, hbl', hc'⟩ := h'.at (by omega)
      have c1 := (hbr.cell (p := ⟨b1, off + k * 2, none⟩) hbl).trans (hc k hlt).1
      have c2 := (hbr.cell (p := ⟨b1, off + k * 2 + 1, none⟩) hbl).trans (hc k hlt).2
      have d1 := (hbr.cell (p := ⟨b2, off' + k * 2, none⟩) hbl').trans (hc' k hlt).1
      have d2 := (hbr.cell (p := ⟨b2, off' + k * 2 + 1, none⟩) hbl').trans (hc' k hlt).2
      clear hc hc' h h'
      generalize (l.getD k (0, 0)).1 = x at c1 d1
      generalize (l.getD k (0, 0)).2 = y at c2 d2
      have hlt' : (k : Int) < len := by omega
      go_wp2_with fail
      go_region_with (go_at_call 64; refine (eqNode_same _ _ _).mono ?_; rintro e w1 ⟨rfl, hb⟩)
      all_goals
        have hbb := hbr.drew.trans (hb.mono hbr.size)
        go_wp2
        go_roundw
        case rel => exact ⟨k + 1, by omega, by go_num, hbb⟩
        case measure => simp [intOf]; omega
    · go_wp2
      go_ret
      exact ⟨rfl, hbr⟩

/-- What marking leaves. -/
def marks (k len : Nat) : List (Int × Int) := (List.range len).map fun i => (((k + 2 * i : Nat) : Int), ((k + 2 * i + 1 : Nat) : Int))
theorem marks_len (k len : Nat) : (marks k len).length = len := by simp [marks]
theorem marks_get (k len i : Nat) (h : i < len) : (marks k len).getD i (0, 0) = (((k + 2 * i : Nat) : Int), ((k + 2 * i + 1 : Nat) : Int)) := by
  simp [marks, List.getD_eq_getElem?_getD, h]


theorem two_set (wr : World) (b p q : Nat) (u v : Value) (hpq : p ≠ q) (c1 : ∃ x, wr.cell? ⟨b, p, none⟩ = some x) (c2 : ∃ x, wr.cell? ⟨b, q, none⟩ = some x) :
    ((wr.setCell ⟨b, p, none⟩ u).setCell ⟨b, q, none⟩ v).cell? ⟨b, p, none⟩ = some u ∧ ((wr.setCell ⟨b, p, none⟩ u).setCell ⟨b, q, none⟩ v).cell? ⟨b, q, none⟩ = some v ∧
    (∀ i, i ≠ p → i ≠ q → ((wr.setCell ⟨b, p, none⟩ u).setCell ⟨b, q, none⟩ v).cell? ⟨b, i, none⟩ = wr.cell? ⟨b, i, none⟩) ∧
    (∀ i, ((wr.setCell ⟨b, p, none⟩ u).setCell ⟨b, q, none⟩ v).frozen? ⟨b, i, none⟩ = wr.frozen? ⟨b, i, none⟩) := by
  obtain ⟨x1, c1⟩ := c1
  obtain ⟨x2, c2⟩ := c2
  have n1 : (⟨b, q, none⟩ : Addr) ≠ ⟨b, p, none⟩ := by intro e; injection e with _ e2 _; omega
  have n2 : (⟨b, p, none⟩ : Addr) ≠ ⟨b, q, none⟩ := by intro e; injection e with _ e2 _; omega
  have k1 : (wr.setCell ⟨b, p, none⟩ u).cell? ⟨b, q, none⟩ = some x2 := by rw [World.cell?_setCell_other _ _ _ _ n2, c2]
  refine ⟨?_, World.cell?_setCell_same _ _ _ k1, fun i hp hq => ?_, fun i => by simp [go_sem]⟩
  · rw [World.cell?_setCell_other _ _ _ _ n1]; exact World.cell?_setCell_same _ _ _ c1
  · have m1 : (⟨b, q, none⟩ : Addr) ≠ ⟨b, i, none⟩ := by intro e; injection e with _ e2 _; omega
    have m2 : (⟨b, p, none⟩ : Addr) ≠ ⟨b, i, none⟩ := by intro e; injection e with _ e2 _; omega
    rw [World.cell?_setCell_other _ _ _ _ m1, World.cell?_setCell_other _ _ _ _ m2]
theorem grown_set {w wr : World} {b : Nat} (h : w.grownBy wr (some b)) (p : Nat) (u : Value) : w.grownBy (wr.setCell ⟨b, p, none⟩ u) (some b) :=
  ⟨h.os, h.tape, h.output, by have := h.size; simpa [World.setCell] using this, fun i hi hne => (Below.heap_setCell _ _ _ _ (fun e => hne (by rw [e]))).trans (h.block i hi hne)⟩

theorem mark_step {w wr : World} {b off j k len : Nat} {u v : Value} (hj : j < len) (hg : w.grownBy wr (some b)) (hm : ∀ i, i < len * 2 → (∃ v, wr.cell? ⟨b, off + i, none⟩ = some v) ∧ wr.frozen? ⟨b, off + i, none⟩ = false)
    (hd : ∀ i, i < j → wr.cell? ⟨b, off + i * 2, none⟩ = some (.int .i64 (k + 2 * i : Nat)) ∧ wr.cell? ⟨b, off + i * 2 + 1, none⟩ = some (.int .i64 (k + 2 * i + 1 : Nat)))
    (hu : u = .int .i64 (k + 2 * j : Nat)) (hv : v = .int .i64 (k + 2 * j + 1 : Nat)) :
    w.grownBy ((wr.setCell ⟨b, off + j * 2, none⟩ u).setCell ⟨b, off + j * 2 + 1, none⟩ v) (some b) ∧
    (∀ i, i < len * 2 → (∃ x, ((wr.setCell ⟨b, off + j * 2, none⟩ u).setCell ⟨b, off + j * 2 + 1, none⟩ v).cell? ⟨b, off + i, none⟩ = some x) ∧ ((wr.setCell ⟨b, off + j * 2, none⟩ u).setCell ⟨b, off + j * 2 + 1, none⟩ v).frozen? ⟨b, off + i, none⟩ = false) ∧
    (∀ i, i < j + 1 → ((wr.setCell ⟨b, off + j * 2, none⟩ u).setCell ⟨b, off + j * 2 + 1, none⟩ v).cell? ⟨b, off + i * 2, none⟩ = some (.int .i64 (k + 2 * i : Nat)) ∧ ((wr.setCell ⟨b, off + j * 2, none⟩ u).setCell ⟨b, off + j * 2 + 1, none⟩ v).cell? ⟨b, off + i * 2 + 1, none⟩ = some (.int .i64 (k + 2 * i + 1 : Nat))) := by
  have a1 := hm (j * 2) (by omega)
  have a2 := hm (j * 2 + 1) (by omega)
  obtain ⟨t1, t2, t3, t4⟩ := two_set wr b (off + j * 2) (off + j * 2 + 1) u v (by omega) a1.1 a2.1
  refine ⟨grown_set (grown_set hg _ _) _ _, fun i hi => ⟨?_, by rw [t4]; exact (hm i hi).2⟩, fun i hi => ?_⟩
  · by_cases e1 : i = j * 2
    · subst e1; exact ⟨_, t1⟩
    · by_cases e2 : i = j * 2 + 1
      · subst e2; exact ⟨_, t2⟩
      · rw [t3 (off + i) (by omega) (by omega)]; exact (hm i hi).1
  · by_cases e1 : i = j
    · subst e1
      rw [t1, t2, hu, hv]
      exact ⟨rfl, rfl⟩
    · rw [t3 (off + i * 2) (by omega) (by omega), t3 (off + i * 2 + 1) (by omega) (by omega)]
      exact hd i (by omega)

theorem mark_any (b off len cap k : Nat) (w : World) (h : Mine w b off len) (hn : len ≤ 1048576) (hk : k ≤ 16777216) :
    Calls Tryz.prog 37 #[.slice (some ⟨b, off, none⟩) len cap, .int .i64 k] w fun e w' => e = .returned (.int .i64 (k + 2 * len : Nat)) ∧ w.grownBy w' (some b) ∧ NSl w' (some ⟨b, off, none⟩) len (marks k len) := by
  obtain ⟨hb, hm⟩ := h
  go_enter Tryz.func37, Tryz.ntmps37
  go_wp2
  go_loopw [1, 5] (fun x i wr => ∃ (j : Nat), j ≤ len ∧ i = .int .i64 j ∧ x = .int .i64 (k + 2 * j : Nat) ∧ w.grownBy wr (some b) ∧ Hid (∀ i, i < len * 2 → (∃ v, wr.cell? ⟨b, off + i, none⟩ = some v) ∧ wr.frozen? ⟨b, off + i, none⟩ = false) ∧ Hid (∀ i, i < j → wr.cell? ⟨b, off + i * 2, none⟩ = some (.int .i64 (k + 2 * i : Nat)) ∧ wr.cell? ⟨b, off + i * 2 + 1, none⟩ = some (.int .i64 (k + 2 * i + 1 : Nat)))) (fun _ i _ => len - (intOf i).toNat)
  case atStart => exact ⟨0, Nat.zero_le _, rfl, rfl, World.grownBy.refl _ _, hm, fun i hi => absurd hi (Nat.not_lt_zero _)⟩
  case round =>
    obtain ⟨j, hj, rfl, rfl, hg, hmr, hdone⟩ := hrel
    clear hm
    by_cases hlt : j < len
    · obtain ⟨⟨v1, c1⟩, f1⟩ := hmr.out (j * 2) (by omega)
      obtain ⟨⟨v2, c2⟩, f2⟩ := hmr.out (j * 2 + 1) (by omega)
      rw [← Nat.add_assoc] at c2 f2
      have R := mark_step (k := k) (u := .int .i64 ((k : Int) + 2 * j)) (v := .int .i64 ((k : Int) + 2 * j + 1)) hlt hg hmr.out hdone.out (by go_num) (by go_num)
      have HR := (show Hid _ from R)
      clear R hdone hg hmr
      go_wp2
      go_roundw
      case rel => exact ⟨j + 1, by omega, by go_num, by go_num, HR.out.1, HR.out.2.1, HR.out.2.2⟩
      case measure => simp [intOf]; omega
    · obtain rfl : j = len := by omega
      go_wp2
      go_ret
      refine ⟨rfl, hg, marks_len _ _, ?_⟩
      by_cases h0 : j = 0
      · exact .inl h0
      · exact .inr ⟨b, off, rfl, Nat.lt_of_lt_of_le hb hg.size, fun i hi => by rw [marks_get _ _ _ hi]; exact hdone.out i hi⟩
end Go.Proofs.YtobgkfpjokfbaaaGreatDoor
namespace Go.Proofs.YtobgkfpjokfbaaaGreatDoor
open Go.ChangeShapes Go.WideShapes Go.ChangeAt Go.RowKit
set_option linter.unusedVariables false

end Go.Proofs.YtobgkfpjokfbaaaGreatDoor
namespace Go.Proofs.YtobgkfpjokfbaaaGreatDoor
open Go.ChangeShapes Go.WideShapes Go.ChangeAt Go.RowKit
set_option linter.unusedVariables false

/-- What is left of n behind a rule's nodes. -/
def szRV (n a b : Nat) : Int := if a + b ≤ n then ((n - a - b : Nat) : Int) else -1
set_option maxHeartbeats 800000 in
theorem szR_any (a b : Option Addr) (len cap lb cb : Nat) (n : Nat) (w : World) (hn : n ≤ 1048576) (hm : len ≤ 9223372036854775807) (hm2 : lb ≤ 9223372036854775807) :
    Calls Tryz.prog 5 #[.agg #[.slice a len cap, .slice b lb cb], .int .i64 n] w fun e w' => e = .returned (.int .i64 (szRV n len lb)) ∧ Below w.heap.size w w' := by
  obtain ⟨W1, hW1⟩ : ∃ W1, w.alloc (.cells #[.slice a len cap, .slice b lb cb] 28) = W1 := ⟨_, rfl⟩
  have hb1 : Below w.heap.size w W1 := by rw [← hW1]; exact (Below.refl _ _).alloc (Nat.le_refl _) _
  have n0 : W1.cell? ⟨w.heap.size, 0, none⟩ = some (.slice a len cap) := by rw [← hW1]; simp [go_sem]
  have n1 : W1.cell? ⟨w.heap.size, 1, none⟩ = some (.slice b lb cb) := by rw [← hW1]; simp [go_sem]
  have HB : Hid (Below w.heap.size w W1) := hb1
  have HZ := (show Hid _ from sz_any a len cap n W1 hn hm)
  unfold szRV
  by_cases h1 : len ≤ n
  · rw [if_pos h1] at HZ
    have HY := (show Hid _ from sz_any b lb cb (n - len) W1 (by omega) hm2)
    by_cases h2 : lb ≤ n - len
    · rw [if_pos h2] at HY
      rw [if_pos (by omega)]
      have z1 : ¬ ((n - len : Nat) : Int) < 0 := by omega
      have z2 : ¬ ((n - len - lb : Nat) : Int) < 0 := by omega
      generalize ((n - len - lb : Nat) : Int) = y at HY z2 ⊢
      generalize ((n - len : Nat) : Int) = x at HZ HY z1
      clear h1 h2 hb1
      go_enter Tryz.func5, Tryz.ntmps5
      go_wp2_with fail
      (try rw [hW1])
      refine Calls.mono HZ.out ?_
      rintro e w2 ⟨rfl, rfl⟩
      clear HZ hW1
      go_wp2_with fail
      refine Calls.mono HY.out ?_
      rintro e w3 ⟨rfl, rfl⟩
      clear HY
      go_wp2
      go_ret
      exact ⟨rfl, HB.out⟩
    · rw [if_neg h2] at HY
      rw [if_neg (by omega)]
      have z1 : ¬ ((n - len : Nat) : Int) < 0 := by omega
      generalize ((n - len : Nat) : Int) = x at HZ HY z1
      clear h1 h2 hb1
      go_enter Tryz.func5, Tryz.ntmps5
      go_wp2_with fail
      (try rw [hW1])
      refine Calls.mono HZ.out ?_
      rintro e w2 ⟨rfl, rfl⟩
      clear HZ hW1
      go_wp2_with fail
      refine Calls.mono HY.out ?_
      rintro e w3 ⟨rfl, rfl⟩
      clear HY
      go_wp2
      go_ret
      exact ⟨rfl, HB.out⟩
  · rw [if_neg h1] at HZ
    rw [if_neg (by omega)]
    clear h1 hb1
    go_enter Tryz.func5, Tryz.ntmps5
    go_wp2_with fail
    (try rw [hW1])
    refine Calls.mono HZ.out ?_
    rintro e w2 ⟨rfl, rfl⟩
    clear HZ hW1
    go_wp2
    go_ret
    exact ⟨rfl, HB.out⟩
theorem NSl.of_heap {w w' : World} {b len : Nat} {p : List (Int × Int)} (h : NSl w (some ⟨b, 0, none⟩) len p) (hs : w'.heap.size = w.heap.size) (hb : w'.heap[b]? = w.heap[b]?) : NSl w' (some ⟨b, 0, none⟩) len p := by
  refine ⟨h.1, ?_⟩
  rcases h.2 with h0 | ⟨b', off, e, h1, h2⟩
  · exact .inl h0
  · cases e
    refine .inr ⟨b, 0, rfl, by omega, fun i hi => ?_⟩
    obtain ⟨h3, h4⟩ := h2 i hi
    exact ⟨(World.cell?_of_block (a := ⟨b, 0 + i * 2, none⟩) hb).trans h3, (World.cell?_of_block (a := ⟨b, 0 + i * 2 + 1, none⟩) hb).trans h4⟩
set_option maxHeartbeats 1600000 in
theorem copyR_any (a b : Option Addr) (len cap lb cb : Nat) (p q : List (Int × Int)) (w : World) (h : NSl w a len p) (hl : NSl w b lb q) (hn : len ≤ 1048576) (hn2 : lb ≤ 1048576) :
    Calls Tryz.prog 9 #[.agg #[.slice a len cap, .slice b lb cb]] w fun e w' => ∃ g gp, e = .returned (.agg #[.slice (some ⟨g, 0, none⟩) len len, .slice (some ⟨gp, 0, none⟩) lb lb]) ∧ Below w.heap.size w w' ∧ NSl w' (some ⟨g, 0, none⟩) len p ∧ NSl w' (some ⟨gp, 0, none⟩) lb q := by
  obtain ⟨W1, hW1⟩ : ∃ W1, ((w.alloc (.cells #[.slice a len cap, .slice b lb cb] 28)).alloc (.cells #[.slice none 0 0, .slice none 0 0] 42)).alloc (.cells #[.slice none 0 0, .slice none 0 0] 42) = W1 := ⟨_, rfl⟩
  have hb1 : Below w.heap.size w W1 := by rw [← hW1]; exact (((Below.refl _ _).alloc (Nat.le_refl _) _).alloc (by simp) _).alloc (by simp; omega) _
  have hsz : W1.heap.size = w.heap.size + 3 := by rw [← hW1]; simp
  have n0 : W1.cell? ⟨w.heap.size, 0, none⟩ = some (.slice a len cap) := by rw [← hW1]; simp [go_sem]
  have n1 : W1.cell? ⟨w.heap.size, 1, none⟩ = some (.slice b lb cb) := by rw [← hW1]; simp [go_sem]
  have m0 : W1.cell? ⟨w.heap.size + 1, 0, none⟩ = some (.slice none 0 0) := by rw [← hW1]; simp [go_sem]
  have m1 : W1.cell? ⟨w.heap.size + 1, 1, none⟩ = some (.slice none 0 0) := by rw [← hW1]; simp [go_sem]
  have o0 : W1.cell? ⟨w.heap.size + 1 + 1, 0, none⟩ = some (.slice none 0 0) := by rw [← hW1]; simp [go_sem]
  have o1 : W1.cell? ⟨w.heap.size + 1 + 1, 1, none⟩ = some (.slice none 0 0) := by rw [← hW1]; simp [go_sem]
  have f0 : W1.frozen? ⟨w.heap.size + 1, 0, none⟩ = false := by rw [← hW1]; simp [go_sem]
  have f1 : W1.frozen? ⟨w.heap.size + 1, 1, none⟩ = false := by rw [← hW1]; simp [go_sem]
  have f2 : W1.frozen? ⟨w.heap.size + 1 + 1, 0, none⟩ = false := by rw [← hW1]; simp [go_sem]
  have f3 : W1.frozen? ⟨w.heap.size + 1 + 1, 1, none⟩ = false := by rw [← hW1]; simp [go_sem]
  have HC := (show Hid _ from copyN_any a len cap p W1 (h.keep hb1) hn)
  have HI : Hid (∀ W, Below w.heap.size w W → Calls Tryz.prog 27 #[.slice b lb cb] W fun e w' => e = .returned (.slice (some ⟨W.heap.size, 0, none⟩) lb lb) ∧ Below W.heap.size W w' ∧ NSl w' (some ⟨W.heap.size, 0, none⟩) lb q) := fun W hW => copyN_any b lb cb q W (hl.keep hW) hn2
  clear h hl
  go_enter Tryz.func9, Tryz.ntmps9
  go_wp2_with fail
  (try rw [hW1])
  refine Calls.mono HC.out ?_
  rintro e w2 ⟨rfl, hb2, hE2⟩
  have lt1 : w.heap.size < W1.heap.size := by omega
  have lt2 : w.heap.size + 1 < W1.heap.size := by omega
  have lt3 : w.heap.size + 1 + 1 < W1.heap.size := by omega
  have q1 := (hb2.cell (p := ⟨w.heap.size, 1, none⟩) lt1).trans n1
  have q2 := (hb2.cell (p := ⟨w.heap.size + 1, 0, none⟩) lt2).trans m0
  have q3 := (hb2.cell (p := ⟨w.heap.size + 1, 1, none⟩) lt2).trans m1
  have q4 := (hb2.cell (p := ⟨w.heap.size + 1 + 1, 0, none⟩) lt3).trans o0
  have q5 := (hb2.cell (p := ⟨w.heap.size + 1 + 1, 1, none⟩) lt3).trans o1
  have r2 := (hb2.frozen (p := ⟨w.heap.size + 1, 0, none⟩) lt2).trans f0
  have r3 := (hb2.frozen (p := ⟨w.heap.size + 1, 1, none⟩) lt2).trans f1
  have r4 := (hb2.frozen (p := ⟨w.heap.size + 1 + 1, 0, none⟩) lt3).trans f2
  have r5 := (hb2.frozen (p := ⟨w.heap.size + 1 + 1, 1, none⟩) lt3).trans f3
  have hB2 : Below w.heap.size w w2 := hb1.trans (hb2.mono hb1.size)
  have hg2 : W1.heap.size ≤ w2.heap.size := hb2.size
  obtain ⟨g, hg⟩ : ∃ g, W1.heap.size = g := ⟨_, rfl⟩
  rw [hg] at hE2 hg2 lt1 lt2 lt3 ⊢
  clear hb2 HC hb1 n0 n1 m0 m1 o0 o1 f0 f1 f2 f3 hW1 hsz hg
  obtain ⟨W3, hW3⟩ : ∃ W3, w2.setCell ⟨w.heap.size + 1 + 1, 0, none⟩ (.slice (some ⟨g, 0, none⟩) len len) = W3 := ⟨_, rfl⟩
  have hB3 : Below w.heap.size w W3 := by rw [← hW3]; exact hB2.setCell (by show w.heap.size ≤ w.heap.size + 1 + 1; omega) _
  have hs3 : W3.heap.size = w2.heap.size := by rw [← hW3]; simp [World.setCell]
  have hE3 : NSl W3 (some ⟨g, 0, none⟩) len p := hE2.of_heap hs3 (by rw [← hW3]; exact Below.heap_setCell _ _ _ _ (by show g ≠ w.heap.size + 1 + 1; omega))
  have l0 : w.heap.size < W3.heap.size := by omega
  have l1 : w.heap.size + 1 < W3.heap.size := by omega
  have l2 : w.heap.size + 1 + 1 < W3.heap.size := by omega
  have s1 : W3.cell? ⟨w.heap.size, 1, none⟩ = some (.slice b lb cb) := by rw [← hW3]; simp [go_sem, q1]
  have s2 : W3.cell? ⟨w.heap.size + 1, 0, none⟩ = some (.slice none 0 0) := by rw [← hW3]; simp [go_sem, q2]
  have s3 : W3.cell? ⟨w.heap.size + 1, 1, none⟩ = some (.slice none 0 0) := by rw [← hW3]; simp [go_sem, q3]
  have s4 : W3.cell? ⟨w.heap.size + 1 + 1, 0, none⟩ = some (.slice (some ⟨g, 0, none⟩) len len) := by rw [← hW3]; simp [go_sem, q4]
  have s5 : W3.cell? ⟨w.heap.size + 1 + 1, 1, none⟩ = some (.slice none 0 0) := by rw [← hW3]; simp [go_sem, q5]
  have u2 : W3.frozen? ⟨w.heap.size + 1, 0, none⟩ = false := by rw [← hW3]; simpa [go_sem] using r2
  have u3 : W3.frozen? ⟨w.heap.size + 1, 1, none⟩ = false := by rw [← hW3]; simpa [go_sem] using r3
  have u5 : W3.frozen? ⟨w.heap.size + 1 + 1, 1, none⟩ = false := by rw [← hW3]; simpa [go_sem] using r5
  have HE3 : Hid (NSl W3 (some ⟨g, 0, none⟩) len p) := hE3
  have HB3 := (show Hid _ from hB3)
  have HI3 := (show Hid _ from HI.out W3 hB3)
  clear hE2 hB2 hE3 hB3 HI
  go_wp2_with fail
  (try rw [hW3])
  refine Calls.mono HI3.out ?_
  rintro e w4 ⟨rfl, hb4, hs4⟩
  have a2 := (hb4.cell (p := ⟨w.heap.size + 1, 0, none⟩) l1).trans s2
  have a3 := (hb4.cell (p := ⟨w.heap.size + 1, 1, none⟩) l1).trans s3
  have a4 := (hb4.cell (p := ⟨w.heap.size + 1 + 1, 0, none⟩) l2).trans s4
  have a5 := (hb4.cell (p := ⟨w.heap.size + 1 + 1, 1, none⟩) l2).trans s5
  have b2 := (hb4.frozen (p := ⟨w.heap.size + 1, 0, none⟩) l1).trans u2
  have b3 := (hb4.frozen (p := ⟨w.heap.size + 1, 1, none⟩) l1).trans u3
  have b5 := (hb4.frozen (p := ⟨w.heap.size + 1 + 1, 1, none⟩) l2).trans u5
  have HX : Hid (Below w.heap.size w w4 ∧ NSl w4 (some ⟨g, 0, none⟩) len p ∧ NSl w4 (some ⟨W3.heap.size, 0, none⟩) lb q) := ⟨HB3.out.trans (hb4.mono HB3.out.size), HE3.out.keep hb4, hs4⟩
  have hgp : w2.heap.size ≤ W3.heap.size := by omega
  obtain ⟨gp, hgp'⟩ : ∃ gp, W3.heap.size = gp := ⟨_, rfl⟩
  rw [hgp'] at HX hgp ⊢
  clear hb4 hs4 HE3 HB3 HI3 hW3 s1 s2 s3 s4 s5 u2 u3 u5 q1 q2 q3 q4 q5 r2 r3 r4 r5 l0 l1 l2 hs3 hgp'
  have HP : Hid (∀ v1 v2 v3 : Value, ∀ w5, ((w4.setCell ⟨w.heap.size + 1 + 1, 1, none⟩ v1).setCell ⟨w.heap.size + 1, 0, none⟩ v2).setCell ⟨w.heap.size + 1, 1, none⟩ v3 = w5 → Below w.heap.size w w5 ∧ NSl w5 (some ⟨g, 0, none⟩) len p ∧ NSl w5 (some ⟨gp, 0, none⟩) lb q) := fun v1 v2 v3 w5 h5 => by
    obtain ⟨x1, x2, x3⟩ := HX.out
    have hs5 : w5.heap.size = w4.heap.size := by rw [← h5]; simp [World.setCell]
    have hblk : ∀ b, g ≤ b → w5.heap[b]? = w4.heap[b]? := fun b hb => by
      rw [← h5, Below.heap_setCell _ _ _ _ (by show b ≠ w.heap.size + 1; omega), Below.heap_setCell _ _ _ _ (by show b ≠ w.heap.size + 1; omega), Below.heap_setCell _ _ _ _ (by show b ≠ w.heap.size + 1 + 1; omega)]
    refine ⟨?_, x2.of_heap hs5 (hblk g (Nat.le_refl _)), x3.of_heap hs5 (hblk gp (by omega))⟩
    rw [← h5]; exact ((x1.setCell (by show w.heap.size ≤ w.heap.size + 1 + 1; omega) _).setCell (by show w.heap.size ≤ w.heap.size + 1; omega) _).setCell (by show w.heap.size ≤ w.heap.size + 1; omega) _
  go_wp2
  refine bodyPost_ret (v := .agg #[.slice (some ⟨g, 0, none⟩) len len, .slice (some ⟨gp, 0, none⟩) lb lb]) (by simp [results, Tryz.results9, go_sem, *]) rfl ⟨g, gp, rfl, ?_⟩
  exact HP.out _ _ _ _ rfl
theorem eqR_same (a b a' b' : Option Addr) (len cap cap' lb cb cb' : Nat) (p q : List (Int × Int)) (w : World) (h : NSl w a len p) (h' : NSl w a' len p) (hl : NSl w b lb q) (hl' : NSl w b' lb q) (hn : len ≤ 1048576) (hn2 : lb ≤ 1048576) :
    Calls Tryz.prog 13 #[.agg #[.slice a len cap, .slice b lb cb], .agg #[.slice a' len cap', .slice b' lb cb']] w fun e w' => e = .returned (.bool true) ∧ Below w.heap.size w w' := by
  obtain ⟨W1, hW1⟩ : ∃ W1, (w.alloc (.cells #[.slice a len cap, .slice b lb cb] 42)).alloc (.cells #[.slice a' len cap', .slice b' lb cb'] 42) = W1 := ⟨_, rfl⟩
  have hb1 : Below w.heap.size w W1 := by rw [← hW1]; exact ((Below.refl _ _).alloc (Nat.le_refl _) _).alloc (by simp) _
  have hsz : W1.heap.size = w.heap.size + 2 := by rw [← hW1]; simp
  have n0 : W1.cell? ⟨w.heap.size, 0, none⟩ = some (.slice a len cap) := by rw [← hW1]; simp [go_sem]
  have n1 : W1.cell? ⟨w.heap.size, 1, none⟩ = some (.slice b lb cb) := by rw [← hW1]; simp [go_sem]
  have m0 : W1.cell? ⟨w.heap.size + 1, 0, none⟩ = some (.slice a' len cap') := by rw [← hW1]; simp [go_sem]
  have m1 : W1.cell? ⟨w.heap.size + 1, 1, none⟩ = some (.slice b' lb cb') := by rw [← hW1]; simp [go_sem]
  have lt0 : w.heap.size < W1.heap.size := by omega
  have lt1 : w.heap.size + 1 < W1.heap.size := by omega
  have HE := (show Hid _ from eqN_same a a' len cap cap' p W1 (h.keep hb1) (h'.keep hb1) hn)
  have HI : Hid (∀ W, Below W1.heap.size W1 W → Calls Tryz.prog 34 #[.slice b lb cb, .slice b' lb cb'] W fun e w' => e = .returned (.bool true) ∧ Below W.heap.size W w') := fun W hW => eqN_same b b' lb cb cb' q W ((hl.keep hb1).keep hW) ((hl'.keep hb1).keep hW) hn2
  have HF : Hid (∀ W, Below W1.heap.size W1 W → Below w.heap.size w W) := fun W hW => hb1.trans (hW.mono hb1.size)
  clear h h' hl hl' hb1 hsz
  go_enter Tryz.func13, Tryz.ntmps13
  go_wp2_with fail
  (try rw [hW1])
  refine Calls.mono HE.out ?_
  rintro e w2 ⟨rfl, hb2⟩
  have q1 := (hb2.cell (p := ⟨w.heap.size, 1, none⟩) lt0).trans n1
  have q2 := (hb2.cell (p := ⟨w.heap.size + 1, 1, none⟩) lt1).trans m1
  have HI2 := (show Hid _ from HI.out w2 hb2)
  clear HE hW1 HI
  go_wp2_with fail
  refine Calls.mono HI2.out ?_
  rintro e w3 ⟨rfl, hb3⟩
  have HB3 : Hid (Below w.heap.size w w3) := HF.out _ (hb2.trans (hb3.mono hb2.size))
  clear HI2 hb2 hb3
  go_wp2
  go_ret
  exact ⟨rfl, HB3.out⟩
end Go.Proofs.YtobgkfpjokfbaaaGreatDoor
