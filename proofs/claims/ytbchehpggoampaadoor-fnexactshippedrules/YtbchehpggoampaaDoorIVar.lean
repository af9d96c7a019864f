/-
  PROVED HERE: the program's reading of a variable. No other condition.
-/
import Derived.Test.YtbchehpggoampaaDoorIRdr
import Derived.LoopN
namespace Go.Proofs.YtbchehpggoampaaDoor
open Go.ChangeShapes Go.WideShapes Go.ChangeAt Go.RowKit
set_option linter.unusedVariables false

theorem iter_below (w : World) (s : ByteArray) (p : Nat) : Below w.heap.size w (w.iter s p) := (Below.refl _ _).alloc (Nat.le_refl _) _
theorem next_drew {P : Program} (w : World) (s : ByteArray) (i n : Nat) (ty : TypeId) (h : i < s.size) (ha : (s[i]'h).toNat < 128) :
    (Instr.next (.pointer (some ⟨w.heap.size, 0, none⟩)) true ty).run P ((w.iter s i).drewN n) = .ok (.tuple #[.bool true, .int .i64 i, .int .i32 (s[i]'h).toNat]) ((w.iter s (i + 1)).drewN n) := run_next_ascii (w.drewN n) s i ty h ha
theorem next_drewEnd {P : Program} (w : World) (s : ByteArray) (i n : Nat) (ty : TypeId) (h : ¬ i < s.size) :
    (Instr.next (.pointer (some ⟨w.heap.size, 0, none⟩)) true ty).run P ((w.iter s i).drewN n) = .ok (.tuple #[.bool false]) ((w.iter s i).drewN n) := run_next_end (w.drewN n) s i ty h
theorem passes_no (w : World) (B g mb mc : Nat) (s : ByteArray) (M : List (Int × Int)) (k : Nat) (out : List (Int × Int)) (c : Int) (h : IRdr w B g mb mc s M k out) (hk : k < M.length) (hM : M.length ≤ 1048576) (hc : ((M.getD k (0, 0)).2 == c) = false) :
    Calls Tryd.prog 94 #[.pointer (some ⟨g, 0, none⟩), .int .i32 c] w fun e w' => e = .returned (.bool false) ∧ ∃ n, w' = w.drewN n := by
  have HC := (show Hid _ from comes_any w B g mb mc s M k out c h hk hM)
  rw [hc] at HC
  clear h hc
  go_enter Tryd.func94, Tryd.ntmps94
  go_wp2_with fail
  refine Calls.mono HC.out ?_
  rintro e w1 ⟨rfl, n, rfl⟩
  have hn : ∃ m, w.drewN n = w.drewN m := ⟨n, rfl⟩
  generalize w.drewN n = w1 at hn
  clear HC
  go_wp2
  go_ret
  exact ⟨rfl, hn⟩
def abcd : ByteArray := ⟨#[97, 98, 99, 100]⟩
set_option maxHeartbeats 1600000 in
set_option maxRecDepth 20000 in
theorem ivar_0 (w : World) (B g mb mc : Nat) (s : ByteArray) (M : List (Int × Int)) (k : Nat) (out : List (Int × Int)) (h : IRdr w B g mb mc s M k out) (hk : k < M.length) (hM : M.length ≤ 1048576) (ho : out.length ≤ 1048576) (hx : (M.getD k (0, 0)).2 = 97) :
    Calls Tryd.prog 98 #[.pointer (some ⟨g, 0, none⟩)] w fun e w' => e = .returned (.bool true) ∧ IRdr w' B g mb mc s M (k + 1) (out ++ [(2, 0)]) ∧ Below g w w' := by
  have hgw : g ≤ w.heap.size := by have := h.lt; have := h.ltB; omega
  have HI : Hid (∀ p n, IRdr ((w.iter abcd p).drewN n) B g mb mc s M k out) := fun p n => (h.keep (iter_below w abcd p)).drewN n
  have HB : Hid (∀ p n, Below g w ((w.iter abcd p).drewN n)) := fun p n => ((iter_below w abcd p).mono hgw).trans (below_drewN g n)
  have Y : Hid (∀ p n, Calls Tryd.prog 94 #[.pointer (some ⟨g, 0, none⟩), .int .i32 97] ((w.iter abcd p).drewN n) fun e w' => e = .returned (.bool true) ∧ IRdr w' B g mb mc s M (k + 1) out ∧ Below g ((w.iter abcd p).drewN n) w') := fun p n => by
    have hp := passes_any _ B g mb mc s M k out 97 (HI.out p n) hk hM
    rw [hx, show ((97 : Int) == 97) = true from rfl, if_pos rfl] at hp
    exact hp
  have HP : Hid (∀ W, IRdr W B g mb mc s M (k + 1) out → Calls Tryd.prog 105 #[.pointer (some ⟨g, 0, none⟩), .int .i64 2, .int .i64 0] W fun e w' => (∃ u, e = .returned u) ∧ IRdr w' B g mb mc s M (k + 1) (out ++ [(2, 0)]) ∧ Below g W w') := fun W hW => put_any W B g mb mc s M (k + 1) out 2 0 hW ho
  have X0 : ∀ n ty, (Instr.next (.pointer (some ⟨w.heap.size, 0, none⟩)) true ty).run Tryd.prog ((w.iter abcd 0).drewN n) = .ok (.tuple #[.bool true, .int .i64 0, .int .i32 97]) ((w.iter abcd 1).drewN n) := fun n ty => next_drew w abcd 0 n ty (by decide) (by decide)
  clear h hx
  go_enter Tryd.func98, Tryd.ntmps98
  go_wp2_with fail
  rw [show w.iter ⟨#[97, 98, 99, 100]⟩ 0 = (w.iter abcd 0).drewN 0 from rfl]
  refine wp_loop_rounds 5 ?_
  rw [rounds_succ]
  go_wp2_with fail
  refine (Y.out _ _).mono ?_
  rintro e wy ⟨rfl, hR, hb⟩
  have hB := (HB.out _ _).trans hb
  go_wp2_with fail
  refine (HP.out _ hR).mono ?_
  rintro e wz ⟨⟨u, rfl⟩, hR2, hb2⟩
  go_wp2
  go_ret
  exact ⟨rfl, hR2, hB.trans hb2⟩
set_option maxHeartbeats 1600000 in
set_option maxRecDepth 20000 in
theorem ivar_1 (w : World) (B g mb mc : Nat) (s : ByteArray) (M : List (Int × Int)) (k : Nat) (out : List (Int × Int)) (h : IRdr w B g mb mc s M k out) (hk : k < M.length) (hM : M.length ≤ 1048576) (ho : out.length ≤ 1048576) (hx : (M.getD k (0, 0)).2 = 98) :
    Calls Tryd.prog 98 #[.pointer (some ⟨g, 0, none⟩)] w fun e w' => e = .returned (.bool true) ∧ IRdr w' B g mb mc s M (k + 1) (out ++ [(2, 1)]) ∧ Below g w w' := by
  have hgw : g ≤ w.heap.size := by have := h.lt; have := h.ltB; omega
  have HI : Hid (∀ p n, IRdr ((w.iter abcd p).drewN n) B g mb mc s M k out) := fun p n => (h.keep (iter_below w abcd p)).drewN n
  have HB : Hid (∀ p n, Below g w ((w.iter abcd p).drewN n)) := fun p n => ((iter_below w abcd p).mono hgw).trans (below_drewN g n)
  have N0 : Hid (∀ p n, Calls Tryd.prog 94 #[.pointer (some ⟨g, 0, none⟩), .int .i32 97] ((w.iter abcd p).drewN n) fun e w' => e = .returned (.bool false) ∧ ∃ m, w' = ((w.iter abcd p).drewN n).drewN m) := fun p n => passes_no _ B g mb mc s M k out 97 (HI.out p n) hk hM (by rw [hx]; rfl)
  have Y : Hid (∀ p n, Calls Tryd.prog 94 #[.pointer (some ⟨g, 0, none⟩), .int .i32 98] ((w.iter abcd p).drewN n) fun e w' => e = .returned (.bool true) ∧ IRdr w' B g mb mc s M (k + 1) out ∧ Below g ((w.iter abcd p).drewN n) w') := fun p n => by
    have hp := passes_any _ B g mb mc s M k out 98 (HI.out p n) hk hM
    rw [hx, show ((98 : Int) == 98) = true from rfl, if_pos rfl] at hp
    exact hp
  have HP : Hid (∀ W, IRdr W B g mb mc s M (k + 1) out → Calls Tryd.prog 105 #[.pointer (some ⟨g, 0, none⟩), .int .i64 2, .int .i64 1] W fun e w' => (∃ u, e = .returned u) ∧ IRdr w' B g mb mc s M (k + 1) (out ++ [(2, 1)]) ∧ Below g W w') := fun W hW => put_any W B g mb mc s M (k + 1) out 2 1 hW ho
  have X0 : ∀ n ty, (Instr.next (.pointer (some ⟨w.heap.size, 0, none⟩)) true ty).run Tryd.prog ((w.iter abcd 0).drewN n) = .ok (.tuple #[.bool true, .int .i64 0, .int .i32 97]) ((w.iter abcd 1).drewN n) := fun n ty => next_drew w abcd 0 n ty (by decide) (by decide)
  have X1 : ∀ n ty, (Instr.next (.pointer (some ⟨w.heap.size, 0, none⟩)) true ty).run Tryd.prog ((w.iter abcd 1).drewN n) = .ok (.tuple #[.bool true, .int .i64 1, .int .i32 98]) ((w.iter abcd 2).drewN n) := fun n ty => next_drew w abcd 1 n ty (by decide) (by decide)
  clear h hx
  go_enter Tryd.func98, Tryd.ntmps98
  go_wp2_with fail
  rw [show w.iter ⟨#[97, 98, 99, 100]⟩ 0 = (w.iter abcd 0).drewN 0 from rfl]
  refine wp_loop_rounds 5 ?_
  rw [rounds_succ]
  go_wp2_with fail
  refine (N0.out _ _).mono ?_
  rintro e w0 ⟨rfl, m0, rfl⟩
  rw [World.drewN_drewN]
  go_wp2_with fail
  rw [rounds_succ]
  go_wp2_with fail
  refine (Y.out _ _).mono ?_
  rintro e wy ⟨rfl, hR, hb⟩
  have hB := (HB.out _ _).trans hb
  go_wp2_with fail
  refine (HP.out _ hR).mono ?_
  rintro e wz ⟨⟨u, rfl⟩, hR2, hb2⟩
  go_wp2
  go_ret
  exact ⟨rfl, hR2, hB.trans hb2⟩
set_option maxHeartbeats 1600000 in
set_option maxRecDepth 20000 in
theorem ivar_2 (w : World) (B g mb mc : Nat) (s : ByteArray) (M : List (Int × Int)) (k : Nat) (out : List (Int × Int)) (h : IRdr w B g mb mc s M k out) (hk : k < M.length) (hM : M.length ≤ 1048576) (ho : out.length ≤ 1048576) (hx : (M.getD k (0, 0)).2 = 99) :
    Calls Tryd.prog 98 #[.pointer (some ⟨g, 0, none⟩)] w fun e w' => e = .returned (.bool true) ∧ IRdr w' B g mb mc s M (k + 1) (out ++ [(2, 2)]) ∧ Below g w w' := by
  have hgw : g ≤ w.heap.size := by have := h.lt; have := h.ltB; omega
  have HI : Hid (∀ p n, IRdr ((w.iter abcd p).drewN n) B g mb mc s M k out) := fun p n => (h.keep (iter_below w abcd p)).drewN n
  have HB : Hid (∀ p n, Below g w ((w.iter abcd p).drewN n)) := fun p n => ((iter_below w abcd p).mono hgw).trans (below_drewN g n)
  have N0 : Hid (∀ p n, Calls Tryd.prog 94 #[.pointer (some ⟨g, 0, none⟩), .int .i32 97] ((w.iter abcd p).drewN n) fun e w' => e = .returned (.bool false) ∧ ∃ m, w' = ((w.iter abcd p).drewN n).drewN m) := fun p n => passes_no _ B g mb mc s M k out 97 (HI.out p n) hk hM (by rw [hx]; rfl)
  have N1 : Hid (∀ p n, Calls Tryd.prog 94 #[.pointer (some ⟨g, 0, none⟩), .int .i32 98] ((w.iter abcd p).drewN n) fun e w' => e = .returned (.bool false) ∧ ∃ m, w' = ((w.iter abcd p).drewN n).drewN m) := fun p n => passes_no _ B g mb mc s M k out 98 (HI.out p n) hk hM (by rw [hx]; rfl)
  have Y : Hid (∀ p n, Calls Tryd.prog 94 #[.pointer (some ⟨g, 0, none⟩), .int .i32 99] ((w.iter abcd p).drewN n) fun e w' => e = .returned (.bool true) ∧ IRdr w' B g mb mc s M (k + 1) out ∧ Below g ((w.iter abcd p).drewN n) w') := fun p n => by
    have hp := passes_any _ B g mb mc s M k out 99 (HI.out p n) hk hM
    rw [hx, show ((99 : Int) == 99) = true from rfl, if_pos rfl] at hp
    exact hp
  have HP : Hid (∀ W, IRdr W B g mb mc s M (k + 1) out → Calls Tryd.prog 105 #[.pointer (some ⟨g, 0, none⟩), .int .i64 2, .int .i64 2] W fun e w' => (∃ u, e = .returned u) ∧ IRdr w' B g mb mc s M (k + 1) (out ++ [(2, 2)]) ∧ Below g W w') := fun W hW => put_any W B g mb mc s M (k + 1) out 2 2 hW ho
  have X0 : ∀ n ty, (Instr.next (.pointer (some ⟨w.heap.size, 0, none⟩)) true ty).run Tryd.prog ((w.iter abcd 0).drewN n) = .ok (.tuple #[.bool true, .int .i64 0, .int .i32 97]) ((w.iter abcd 1).drewN n) := fun n ty => next_drew w abcd 0 n ty (by decide) (by decide)
  have X1 : ∀ n ty, (Instr.next (.pointer (some ⟨w.heap.size, 0, none⟩)) true ty).run Tryd.prog ((w.iter abcd 1).drewN n) = .ok (.tuple #[.bool true, .int .i64 1, .int .i32 98]) ((w.iter abcd 2).drewN n) := fun n ty => next_drew w abcd 1 n ty (by decide) (by decide)
  have X2 : ∀ n ty, (Instr.next (.pointer (some ⟨w.heap.size, 0, none⟩)) true ty).run Tryd.prog ((w.iter abcd 2).drewN n) = .ok (.tuple #[.bool true, .int .i64 2, .int .i32 99]) ((w.iter abcd 3).drewN n) := fun n ty => next_drew w abcd 2 n ty (by decide) (by decide)
  clear h hx
  go_enter Tryd.func98, Tryd.ntmps98
  go_wp2_with fail
  rw [show w.iter ⟨#[97, 98, 99, 100]⟩ 0 = (w.iter abcd 0).drewN 0 from rfl]
  refine wp_loop_rounds 5 ?_
  rw [rounds_succ]
  go_wp2_with fail
  refine (N0.out _ _).mono ?_
  rintro e w0 ⟨rfl, m0, rfl⟩
  rw [World.drewN_drewN]
  go_wp2_with fail
  rw [rounds_succ]
  go_wp2_with fail
  refine (N1.out _ _).mono ?_
  rintro e w1 ⟨rfl, m1, rfl⟩
  rw [World.drewN_drewN]
  go_wp2_with fail
  rw [rounds_succ]
  go_wp2_with fail
  refine (Y.out _ _).mono ?_
  rintro e wy ⟨rfl, hR, hb⟩
  have hB := (HB.out _ _).trans hb
  go_wp2_with fail
  refine (HP.out _ hR).mono ?_
  rintro e wz ⟨⟨u, rfl⟩, hR2, hb2⟩
  go_wp2
  go_ret
  exact ⟨rfl, hR2, hB.trans hb2⟩
set_option maxHeartbeats 1600000 in
set_option maxRecDepth 20000 in
theorem ivar_3 (w : World) (B g mb mc : Nat) (s : ByteArray) (M : List (Int × Int)) (k : Nat) (out : List (Int × Int)) (h : IRdr w B g mb mc s M k out) (hk : k < M.length) (hM : M.length ≤ 1048576) (ho : out.length ≤ 1048576) (hx : (M.getD k (0, 0)).2 = 100) :
    Calls Tryd.prog 98 #[.pointer (some ⟨g, 0, none⟩)] w fun e w' => e = .returned (.bool true) ∧ IRdr w' B g mb mc s M (k + 1) (out ++ [(2, 3)]) ∧ Below g w w' := by
  have hgw : g ≤ w.heap.size := by have := h.lt; have := h.ltB; omega
  have HI : Hid (∀ p n, IRdr ((w.iter abcd p).drewN n) B g mb mc s M k out) := fun p n => (h.keep (iter_below w abcd p)).drewN n
  have HB : Hid (∀ p n, Below g w ((w.iter abcd p).drewN n)) := fun p n => ((iter_below w abcd p).mono hgw).trans (below_drewN g n)
  have N0 : Hid (∀ p n, Calls Tryd.prog 94 #[.pointer (some ⟨g, 0, none⟩), .int .i32 97] ((w.iter abcd p).drewN n) fun e w' => e = .returned (.bool false) ∧ ∃ m, w' = ((w.iter abcd p).drewN n).drewN m) := fun p n => passes_no _ B g mb mc s M k out 97 (HI.out p n) hk hM (by rw [hx]; rfl)
  have N1 : Hid (∀ p n, Calls Tryd.prog 94 #[.pointer (some ⟨g, 0, none⟩), .int .i32 98] ((w.iter abcd p).drewN n) fun e w' => e = .returned (.bool false) ∧ ∃ m, w' = ((w.iter abcd p).drewN n).drewN m) := fun p n => passes_no _ B g mb mc s M k out 98 (HI.out p n) hk hM (by rw [hx]; rfl)
  have N2 : Hid (∀ p n, Calls Tryd.prog 94 #[.pointer (some ⟨g, 0, none⟩), .int .i32 99] ((w.iter abcd p).drewN n) fun e w' => e = .returned (.bool false) ∧ ∃ m, w' = ((w.iter abcd p).drewN n).drewN m) := fun p n => passes_no _ B g mb mc s M k out 99 (HI.out p n) hk hM (by rw [hx]; rfl)
  have Y : Hid (∀ p n, Calls Tryd.prog 94 #[.pointer (some ⟨g, 0, none⟩), .int .i32 100] ((w.iter abcd p).drewN n) fun e w' => e = .returned (.bool true) ∧ IRdr w' B g mb mc s M (k + 1) out ∧ Below g ((w.iter abcd p).drewN n) w') := fun p n => by
    have hp := passes_any _ B g mb mc s M k out 100 (HI.out p n) hk hM
    rw [hx, show ((100 : Int) == 100) = true from rfl, if_pos rfl] at hp
    exact hp
  have HP : Hid (∀ W, IRdr W B g mb mc s M (k + 1) out → Calls Tryd.prog 105 #[.pointer (some ⟨g, 0, none⟩), .int .i64 2, .int .i64 3] W fun e w' => (∃ u, e = .returned u) ∧ IRdr w' B g mb mc s M (k + 1) (out ++ [(2, 3)]) ∧ Below g W w') := fun W hW => put_any W B g mb mc s M (k + 1) out 2 3 hW ho
  have X0 : ∀ n ty, (Instr.next (.pointer (some ⟨w.heap.size, 0, none⟩)) true ty).run Tryd.prog ((w.iter abcd 0).drewN n) = .ok (.tuple #[.bool true, .int .i64 0, .int .i32 97]) ((w.iter abcd 1).drewN n) := fun n ty => next_drew w abcd 0 n ty (by decide) (by decide)
  have X1 : ∀ n ty, (Instr.next (.pointer (some ⟨w.heap.size, 0, none⟩)) true ty).run Tryd.prog ((w.iter abcd 1).drewN n) = .ok (.tuple #[.bool true, .int .i64 1, .int .i32 98]) ((w.iter abcd 2).drewN n) := fun n ty => next_drew w abcd 1 n ty (by decide) (by decide)
  have X2 : ∀ n ty, (Instr.next (.pointer (some ⟨w.heap.size, 0, none⟩)) true ty).run Tryd.prog ((w.iter abcd 2).drewN n) = .ok (.tuple #[.bool true, .int .i64 2, .int .i32 99]) ((w.iter abcd 3).drewN n) := fun n ty => next_drew w abcd 2 n ty (by decide) (by decide)
  have X3 : ∀ n ty, (Instr.next (.pointer (some ⟨w.heap.size, 0, none⟩)) true ty).run Tryd.prog ((w.iter abcd 3).drewN n) = .ok (.tuple #[.bool true, .int .i64 3, .int .i32 100]) ((w.iter abcd 4).drewN n) := fun n ty => next_drew w abcd 3 n ty (by decide) (by decide)
  clear h hx
  go_enter Tryd.func98, Tryd.ntmps98
  go_wp2_with fail
  rw [show w.iter ⟨#[97, 98, 99, 100]⟩ 0 = (w.iter abcd 0).drewN 0 from rfl]
  refine wp_loop_rounds 5 ?_
  rw [rounds_succ]
  go_wp2_with fail
  refine (N0.out _ _).mono ?_
  rintro e w0 ⟨rfl, m0, rfl⟩
  rw [World.drewN_drewN]
  go_wp2_with fail
  rw [rounds_succ]
  go_wp2_with fail
  refine (N1.out _ _).mono ?_
  rintro e w1 ⟨rfl, m1, rfl⟩
  rw [World.drewN_drewN]
  go_wp2_with fail
  rw [rounds_succ]
  go_wp2_with fail
  refine (N2.out _ _).mono ?_
  rintro e w2 ⟨rfl, m2, rfl⟩
  rw [World.drewN_drewN]
  go_wp2_with fail
  rw [rounds_succ]
  go_wp2_with fail
  refine (Y.out _ _).mono ?_
  rintro e wy ⟨rfl, hR, hb⟩
  have hB := (HB.out _ _).trans hb
  go_wp2_with fail
  refine (HP.out _ hR).mono ?_
  rintro e wz ⟨⟨u, rfl⟩, hR2, hb2⟩
  go_wp2
  go_ret
  exact ⟨rfl, hR2, hB.trans hb2⟩
set_option maxHeartbeats 1600000 in
set_option maxRecDepth 20000 in
theorem ivar_no (w : World) (B g mb mc : Nat) (s : ByteArray) (M : List (Int × Int)) (k : Nat) (out : List (Int × Int)) (h : IRdr w B g mb mc s M k out) (hk : k < M.length) (hM : M.length ≤ 1048576) (ho : out.length ≤ 1048576) (hx : ∀ i : Nat, i < 4 → (M.getD k (0, 0)).2 ≠ 97 + i) :
    Calls Tryd.prog 98 #[.pointer (some ⟨g, 0, none⟩)] w fun e w' => e = .returned (.bool false) ∧ IRdr w' B g mb mc s M k out ∧ Below g w w' := by
  have hgw : g ≤ w.heap.size := by have := h.lt; have := h.ltB; omega
  have HI : Hid (∀ p n, IRdr ((w.iter abcd p).drewN n) B g mb mc s M k out) := fun p n => (h.keep (iter_below w abcd p)).drewN n
  have HB : Hid (∀ p n, Below g w ((w.iter abcd p).drewN n)) := fun p n => ((iter_below w abcd p).mono hgw).trans (below_drewN g n)
  have N0 : Hid (∀ p n, Calls Tryd.prog 94 #[.pointer (some ⟨g, 0, none⟩), .int .i32 97] ((w.iter abcd p).drewN n) fun e w' => e = .returned (.bool false) ∧ ∃ m, w' = ((w.iter abcd p).drewN n).drewN m) := fun p n => passes_no _ B g mb mc s M k out 97 (HI.out p n) hk hM (by rw [beq_eq_false_iff_ne]; exact hx 0 (by decide))
  have N1 : Hid (∀ p n, Calls Tryd.prog 94 #[.pointer (some ⟨g, 0, none⟩), .int .i32 98] ((w.iter abcd p).drewN n) fun e w' => e = .returned (.bool false) ∧ ∃ m, w' = ((w.iter abcd p).drewN n).drewN m) := fun p n => passes_no _ B g mb mc s M k out 98 (HI.out p n) hk hM (by rw [beq_eq_false_iff_ne]; exact hx 1 (by decide))
  have N2 : Hid (∀ p n, Calls Tryd.prog 94 #[.pointer (some ⟨g, 0, none⟩), .int .i32 99] ((w.iter abcd p).drewN n) fun e w' => e = .returned (.bool false) ∧ ∃ m, w' = ((w.iter abcd p).drewN n).drewN m) := fun p n => passes_no _ B g mb mc s M k out 99 (HI.out p n) hk hM (by rw [beq_eq_false_iff_ne]; exact hx 2 (by decide))
  have N3 : Hid (∀ p n, Calls Tryd.prog 94 #[.pointer (some ⟨g, 0, none⟩), .int .i32 100] ((w.iter abcd p).drewN n) fun e w' => e = .returned (.bool false) ∧ ∃ m, w' = ((w.iter abcd p).drewN n).drewN m) := fun p n => passes_no _ B g mb mc s M k out 100 (HI.out p n) hk hM (by rw [beq_eq_false_iff_ne]; exact hx 3 (by decide))
  have X0 : ∀ n ty, (Instr.next (.pointer (some ⟨w.heap.size, 0, none⟩)) true ty).run Tryd.prog ((w.iter abcd 0).drewN n) = .ok (.tuple #[.bool true, .int .i64 0, .int .i32 97]) ((w.iter abcd 1).drewN n) := fun n ty => next_drew w abcd 0 n ty (by decide) (by decide)
  have X1 : ∀ n ty, (Instr.next (.pointer (some ⟨w.heap.size, 0, none⟩)) true ty).run Tryd.prog ((w.iter abcd 1).drewN n) = .ok (.tuple #[.bool true, .int .i64 1, .int .i32 98]) ((w.iter abcd 2).drewN n) := fun n ty => next_drew w abcd 1 n ty (by decide) (by decide)
  have X2 : ∀ n ty, (Instr.next (.pointer (some ⟨w.heap.size, 0, none⟩)) true ty).run Tryd.prog ((w.iter abcd 2).drewN n) = .ok (.tuple #[.bool true, .int .i64 2, .int .i32 99]) ((w.iter abcd 3).drewN n) := fun n ty => next_drew w abcd 2 n ty (by decide) (by decide)
  have X3 : ∀ n ty, (Instr.next (.pointer (some ⟨w.heap.size, 0, none⟩)) true ty).run Tryd.prog ((w.iter abcd 3).drewN n) = .ok (.tuple #[.bool true, .int .i64 3, .int .i32 100]) ((w.iter abcd 4).drewN n) := fun n ty => next_drew w abcd 3 n ty (by decide) (by decide)
  have X4 : ∀ n ty, (Instr.next (.pointer (some ⟨w.heap.size, 0, none⟩)) true ty).run Tryd.prog ((w.iter abcd 4).drewN n) = .ok (.tuple #[.bool false]) ((w.iter abcd 4).drewN n) := fun n ty => next_drewEnd w abcd 4 n ty (by decide)
  clear h hx
  go_enter Tryd.func98, Tryd.ntmps98
  go_wp2_with fail
  rw [show w.iter ⟨#[97, 98, 99, 100]⟩ 0 = (w.iter abcd 0).drewN 0 from rfl]
  refine wp_loop_rounds 5 ?_
  rw [rounds_succ]
  go_wp2_with fail
  refine (N0.out _ _).mono ?_
  rintro e w0 ⟨rfl, m0, rfl⟩
  rw [World.drewN_drewN]
  go_wp2_with fail
  rw [rounds_succ]
  go_wp2_with fail
  refine (N1.out _ _).mono ?_
  rintro e w1 ⟨rfl, m1, rfl⟩
  rw [World.drewN_drewN]
  go_wp2_with fail
  rw [rounds_succ]
  go_wp2_with fail
  refine (N2.out _ _).mono ?_
  rintro e w2 ⟨rfl, m2, rfl⟩
  rw [World.drewN_drewN]
  go_wp2_with fail
  rw [rounds_succ]
  go_wp2_with fail
  refine (N3.out _ _).mono ?_
  rintro e w3 ⟨rfl, m3, rfl⟩
  rw [World.drewN_drewN]
  go_wp2_with fail
  rw [rounds_succ]
  go_wp2_with fail
  go_ret
  exact ⟨rfl, HI.out _ _, HB.out _ _⟩
end Go.Proofs.YtbchehpggoampaaDoor
