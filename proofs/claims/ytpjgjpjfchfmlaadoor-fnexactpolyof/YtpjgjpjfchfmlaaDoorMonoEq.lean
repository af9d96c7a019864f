/-
  PROVED HERE: that the laws' own comparing finds lists of the same products to be the same, at every list of at most a million. No other condition.
-/
import Derived.Test.YtpjgjpjfchfmlaaDoorPolyCmp
import Derived.Test.YtpjgjpjfchfmlaaDoorEqI
import Derived.Test.YtpjgjpjfchfmlaaDoorAhead
import Derived.Deep.RegionWith
namespace Go.Proofs.YtpjgjpjfchfmlaaDoor
open Go.ChangeShapes Go.WideShapes Go.ChangeAt Go.RowKit
set_option linter.unusedVariables false

theorem eqM_same (a b : Option Addr) (len ca cb : Nat) (l : List Int) (y : Int) (w : World) (h : Sl w a len l) (h' : Sl w b len l) (hn : len ≤ 1048576) :
    Calls Tryd.prog 23 #[.agg #[.slice a len ca, .int .i64 y], .agg #[.slice b len cb, .int .i64 y]] w fun e w' => e = .returned (.bool true) ∧ Below w.heap.size w w' := by
  obtain ⟨W1, hW1⟩ : ∃ W1, (w.alloc (.cells #[.slice a len ca, .int .i64 y] 51)).alloc (.cells #[.slice b len cb, .int .i64 y] 51) = W1 := ⟨_, rfl⟩
  have hb1 : Below w.heap.size w W1 := by rw [← hW1]; exact ((Below.refl _ _).alloc (Nat.le_refl _) _).alloc (by simp) _
  have hsz : W1.heap.size = w.heap.size + 2 := by rw [← hW1]; simp
  have n0 : W1.cell? ⟨w.heap.size, 0, none⟩ = some (.slice a len ca) := by rw [← hW1]; simp [go_sem]
  have n1 : W1.cell? ⟨w.heap.size, 1, none⟩ = some (.int .i64 y) := by rw [← hW1]; simp [go_sem]
  have m0 : W1.cell? ⟨w.heap.size + 1, 0, none⟩ = some (.slice b len cb) := by rw [← hW1]; simp [go_sem]
  have m1 : W1.cell? ⟨w.heap.size + 1, 1, none⟩ = some (.int .i64 y) := by rw [← hW1]; simp [go_sem]
  have HE := (show Hid _ from eqI_same a b len ca cb l W1 (h.keep hb1) (h'.keep hb1) hn)
  have hyy : (y != y) = false := by simp
  clear h h'
  go_enter Tryd.func23, Tryd.ntmps23
  go_wp2_with fail
  (try rw [hW1])
  refine Calls.mono HE.out ?_
  rintro e w2 ⟨rfl, hb2⟩
  have q1 := (hb2.cell (p := ⟨w.heap.size, 1, none⟩) (by show w.heap.size < _; omega)).trans n1
  have q2 := (hb2.cell (p := ⟨w.heap.size + 1, 1, none⟩) (by show w.heap.size + 1 < _; omega)).trans m1
  have HB : Hid (Below w.heap.size w w2) := hb1.trans (hb2.mono hb1.size)
  clear hb2 HE n0 n1 m0 m1 hW1 hb1
  go_wp2
  go_ret
  exact ⟨rfl, HB.out⟩
set_option maxHeartbeats 1600000 in
theorem eqP_same (a b : Option Addr) (len ca cb : Nat) (p : List Mon) (w : World) (h : PSl w a len p) (h' : PSl w b len p) (hn : len ≤ 1048576) (hp : ∀ i, i < len → (p.getD i ([], 0)).1.length ≤ 1048576) :
    Calls Tryd.prog 9 #[.slice a len ca, .slice b len cb] w fun e w' => e = .returned (.bool true) ∧ Below w.heap.size w w' := by
  have hne : ((len : Int) != len) = false := by simp
  go_enter Tryd.func9, Tryd.ntmps9
  go_wp2
  go_loopw [5] (fun i wr => ∃ (k : Nat), k ≤ len ∧ i = .int .i64 k ∧ Below w.heap.size w wr) (fun i _ => len - (intOf i).toNat)
  case atStart => exact ⟨0, Nat.zero_le _, rfl, Below.refl _ _⟩
  case round =>
    obtain ⟨k, hk, rfl, hbr⟩ := hrel
    by_cases hlt : k < len
    · obtain ⟨b1, off, rfl, hbl, hc⟩ := (h.keep hbr).at (by omega)
      obtain ⟨b2, off', rfl, hbl', hc'⟩ := (h'.keep hbr).at (by omega)
      obtain ⟨ai, li, ci, c1, hli, hci, hS, c2⟩ := hc k hlt
      obtain ⟨aj, lj, cj, d1, hlj, hcj, hS', d2⟩ := hc' k hlt
      have hpk := hp k hlt
      generalize (p.getD k ([], 0)).1 = l at hS hS' hpk
      generalize (p.getD k ([], 0)).2 = y at c2 d2
      obtain rfl : li = lj := by have := hS.1; have := hS'.1; omega
      have hlt' : (k : Int) < len := by omega
      have HE : Hid (∀ x : Ahead wr, Calls Tryd.prog 23 #[.agg #[.slice ai li ci, .int .i64 y], .agg #[.slice aj li cj, .int .i64 y]] x.w fun e w' => e = .returned (.bool true) ∧ Below x.w.heap.size x.w w') := fun x => eqM_same ai aj li ci cj l y x.w (hS.keep x.h) (hS'.keep x.h) (by have := hS.1; omega)
      have k1 : ∀ x : Ahead wr, x.w.cell? ⟨b1, off + k * 2, none⟩ = some (.slice ai li ci) := fun x => (x.h.cell (p := ⟨b1, off + k * 2, none⟩) hbl).trans c1
      have k2 : ∀ x : Ahead wr, x.w.cell? ⟨b1, off + k * 2 + 1, none⟩ = some (.int .i64 y) := fun x => (x.h.cell (p := ⟨b1, off + k * 2 + 1, none⟩) hbl).trans c2
      have k3 : ∀ x : Ahead wr, x.w.cell? ⟨b2, off' + k * 2, none⟩ = some (.slice aj li cj) := fun x => (x.h.cell (p := ⟨b2, off' + k * 2, none⟩) hbl').trans d1
      have k4 : ∀ x : Ahead wr, x.w.cell? ⟨b2, off' + k * 2 + 1, none⟩ = some (.int .i64 y) := fun x => (x.h.cell (p := ⟨b2, off' + k * 2 + 1, none⟩) hbl').trans d2
      clear hc hc' h h' hS hS' hp
      go_wp2_with fail
      have hne := ahead_some wr
      refine wp_region_ahead (by kernel_rfl) (by kernel_rfl) ?_
      repeat (first
        | go_big_quiet_skip
        | (go_big_quiet_want; go_big_quiet_op; first | go_big_quiet_on | (apply Exists.intro; refine ⟨fun x => ?_, ?_⟩; (focus (exact ahead_of (HE.out x))); go_big_quiet_on)))
      refine wpQuiet_nil ?_
      intro _ hw'
      obtain ⟨xq, rfl⟩ := hw'
      have hB := hbr.trans (xq.h.mono hbr.size)
      go_wp2
      go_roundw
      case rel => exact ⟨k + 1, by omega, by go_num, hB⟩
      case measure => simp [intOf]; omega
    · go_wp2
      go_ret
      exact ⟨rfl, hbr⟩
end Go.Proofs.YtpjgjpjfchfmlaaDoor
