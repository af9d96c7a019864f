/-
  PROVED HERE: which sum of products the model makes of a number and of a variable. No other condition.
-/
import Derived.Test.YtpjgjpjfchfmlaaDoorPolyMulM
import Derived.Test.YtpjgjpjfchfmlaaDoorPolyOfGood
import Derived.Test.YtpjgjpjfchfmlaaDoorNodeRows
namespace Go.Proofs.YtpjgjpjfchfmlaaDoor
open Go.ChangeShapes Go.WideShapes Go.ChangeAt Go.RowKit
set_option linter.unusedVariables false

/-- How the model answers with the sum of a node, or with none. -/
def SOf (W : World) (o : Option (List Mon)) (r : Ending) (w' : World) : Prop := ∃ v, r = .returned (.tuple #[v, .bool o.isSome]) ∧ (∀ s, o = some s → SpecV w' v s) ∧ Below W.heap.size W w'
theorem sl_zero (W : World) (t : TypeId) : Sl (W.alloc (.cells #[.int .i64 0, .int .i64 0, .int .i64 0, .int .i64 0] t)) (some ⟨W.heap.size, 0, none⟩) 4 zero4 := by
  refine ⟨rfl, .inr ⟨W.heap.size, 0, rfl, by simp, fun i hi => ?_⟩⟩
  match i, hi with
  | 0, _ => simp [go_sem, zero4]
  | 1, _ => simp [go_sem, zero4]
  | 2, _ => simp [go_sem, zero4]
  | 3, _ => simp [go_sem, zero4]
theorem mk4 (w : World) : (Instr.makeSlice 49 (.int .i64 4) (.int .i64 4)).run Tryd.prog w = .ok (.slice (some ⟨w.heap.size, 0, none⟩) 4 4) (w.alloc (.cells #[.int .i64 0, .int .i64 0, .int .i64 0, .int .i64 0] 3)) := by kernel_rfl
set_option maxHeartbeats 1600000 in
set_option maxRecDepth 20000 in
theorem sOfNum (b off len cap k : Nat) (n : Int) (W : World) (hk : k < len) (hl : len ≤ 40) (c1 : W.cell? ⟨b, off + k * 2, none⟩ = some (.int .i64 1)) (c2 : W.cell? ⟨b, off + k * 2 + 1, none⟩ = some (.int .i64 n)) :
    Calls Tryd.prog 18 #[.slice (some ⟨b, off, none⟩) len cap, .int .i64 (k : Int)] W fun r w' => SOf W (some (numP n)) r w' := by
  have hbl : b < W.heap.size := World.block_lt_of_cell? W _ c1
  have hik : (k : Int) < len := by omega
  have hbne : ¬ b = W.heap.size := by omega
  have hb2 : Below W.heap.size W ((W.alloc (.cells #[.int .i64 1, .int .i64 n] 40)).alloc (.cells #[.int .i64 0, .int .i64 0, .int .i64 0, .int .i64 0] 3)) := ((Below.refl _ _).alloc (Nat.le_refl _) _).alloc (by simp) _
  have HP := (show Hid _ from put_spec ((W.alloc (.cells #[.int .i64 1, .int .i64 n] 40)).alloc (.cells #[.int .i64 0, .int .i64 0, .int .i64 0, .int .i64 0] 3)) (.slice none 0 0) [] (SpecV.nil _) (by simp) sum4_nil _ 4 zero4 rfl (Nat.le_refl _) (sl_zero _ _) n)
  rw [show (W.alloc (.cells #[.int .i64 1, .int .i64 n] 40)).heap.size = W.heap.size + 1 from by simp] at HP
  have HB := (show Hid _ from hb2)
  have hmk := mk4
  clear hb2
  go_enter Tryd.func18, Tryd.ntmps18
  go_wp2_with fail
  refine Calls.mono HP.out ?_
  rintro r w3 ⟨v3, rfl, s3, hb3⟩
  clear HP
  go_wp2
  go_ret2
  exact ⟨_, rfl, fun s hs => by cases hs; exact s3, HB.out.trans (hb3.mono HB.out.size)⟩
theorem sl_unit0 (W : World) (t : TypeId) : Sl (W.alloc (.cells #[.int .i64 1, .int .i64 0, .int .i64 0, .int .i64 0] t)) (some ⟨W.heap.size, 0, none⟩) 4 (unit4 0) := by
  refine ⟨rfl, .inr ⟨W.heap.size, 0, rfl, by simp, fun i hi => ?_⟩⟩
  match i, hi with
  | 0, _ => simp [go_sem, unit4, zero4]
  | 1, _ => simp [go_sem, unit4, zero4]
  | 2, _ => simp [go_sem, unit4, zero4]
  | 3, _ => simp [go_sem, unit4, zero4]
set_option maxHeartbeats 1600000 in
set_option maxRecDepth 20000 in
theorem sOfVar0 (b off len cap k : Nat) (W : World) (hk : k < len) (hl : len ≤ 40) (c1 : W.cell? ⟨b, off + k * 2, none⟩ = some (.int .i64 2)) (c2 : W.cell? ⟨b, off + k * 2 + 1, none⟩ = some (.int .i64 0)) :
    Calls Tryd.prog 18 #[.slice (some ⟨b, off, none⟩) len cap, .int .i64 (k : Int)] W fun r w' => SOf W (some (varP 0)) r w' := by
  have hbl : b < W.heap.size := World.block_lt_of_cell? W _ c1
  have hik : (k : Int) < len := by omega
  have hbne : ¬ b = W.heap.size := by omega
  have hb2 : Below W.heap.size W ((W.alloc (.cells #[.int .i64 2, .int .i64 0] 40)).alloc (.cells #[.int .i64 1, .int .i64 0, .int .i64 0, .int .i64 0] 3)) := ((Below.refl _ _).alloc (Nat.le_refl _) _).alloc (by simp) _
  have HP := (show Hid _ from put_spec ((W.alloc (.cells #[.int .i64 2, .int .i64 0] 40)).alloc (.cells #[.int .i64 1, .int .i64 0, .int .i64 0, .int .i64 0] 3)) (.slice none 0 0) [] (SpecV.nil _) (by simp) sum4_nil _ 4 (unit4 0) rfl (Nat.le_refl _) (sl_unit0 _ _) 1)
  rw [show (W.alloc (.cells #[.int .i64 2, .int .i64 0] 40)).heap.size = W.heap.size + 1 from by simp] at HP
  have HB := (show Hid _ from hb2)
  have hmk := mk4
  clear hb2
  go_enter Tryd.func18, Tryd.ntmps18
  go_wp2_with fail
  refine Calls.mono HP.out ?_
  rintro r w3 ⟨v3, rfl, s3, hb3⟩
  clear HP
  go_wp2
  go_ret2
  exact ⟨_, rfl, fun s hs => by cases hs; exact s3, HB.out.trans (hb3.mono HB.out.size)⟩
theorem sl_unit1 (W : World) (t : TypeId) : Sl (W.alloc (.cells #[.int .i64 0, .int .i64 1, .int .i64 0, .int .i64 0] t)) (some ⟨W.heap.size, 0, none⟩) 4 (unit4 1) := by
  refine ⟨rfl, .inr ⟨W.heap.size, 0, rfl, by simp, fun i hi => ?_⟩⟩
  match i, hi with
  | 0, _ => simp [go_sem, unit4, zero4]
  | 1, _ => simp [go_sem, unit4, zero4]
  | 2, _ => simp [go_sem, unit4, zero4]
  | 3, _ => simp [go_sem, unit4, zero4]
set_option maxHeartbeats 1600000 in
set_option maxRecDepth 20000 in
theorem sOfVar1 (b off len cap k : Nat) (W : World) (hk : k < len) (hl : len ≤ 40) (c1 : W.cell? ⟨b, off + k * 2, none⟩ = some (.int .i64 2)) (c2 : W.cell? ⟨b, off + k * 2 + 1, none⟩ = some (.int .i64 1)) :
    Calls Tryd.prog 18 #[.slice (some ⟨b, off, none⟩) len cap, .int .i64 (k : Int)] W fun r w' => SOf W (some (varP 1)) r w' := by
  have hbl : b < W.heap.size := World.block_lt_of_cell? W _ c1
  have hik : (k : Int) < len := by omega
  have hbne : ¬ b = W.heap.size := by omega
  have hb2 : Below W.heap.size W ((W.alloc (.cells #[.int .i64 2, .int .i64 1] 40)).alloc (.cells #[.int .i64 0, .int .i64 1, .int .i64 0, .int .i64 0] 3)) := ((Below.refl _ _).alloc (Nat.le_refl _) _).alloc (by simp) _
  have HP := (show Hid _ from put_spec ((W.alloc (.cells #[.int .i64 2, .int .i64 1] 40)).alloc (.cells #[.int .i64 0, .int .i64 1, .int .i64 0, .int .i64 0] 3)) (.slice none 0 0) [] (SpecV.nil _) (by simp) sum4_nil _ 4 (unit4 1) rfl (Nat.le_refl _) (sl_unit1 _ _) 1)
  rw [show (W.alloc (.cells #[.int .i64 2, .int .i64 1] 40)).heap.size = W.heap.size + 1 from by simp] at HP
  have HB := (show Hid _ from hb2)
  have hmk := mk4
  clear hb2
  go_enter Tryd.func18, Tryd.ntmps18
  go_wp2_with fail
  refine Calls.mono HP.out ?_
  rintro r w3 ⟨v3, rfl, s3, hb3⟩
  clear HP
  go_wp2
  go_ret2
  exact ⟨_, rfl, fun s hs => by cases hs; exact s3, HB.out.trans (hb3.mono HB.out.size)⟩
theorem sl_unit2 (W : World) (t : TypeId) : Sl (W.alloc (.cells #[.int .i64 0, .int .i64 0, .int .i64 1, .int .i64 0] t)) (some ⟨W.heap.size, 0, none⟩) 4 (unit4 2) := by
  refine ⟨rfl, .inr ⟨W.heap.size, 0, rfl, by simp, fun i hi => ?_⟩⟩
  match i, hi with
  | 0, _ => simp [go_sem, unit4, zero4]
  | 1, _ => simp [go_sem, unit4, zero4]
  | 2, _ => simp [go_sem, unit4, zero4]
  | 3, _ => simp [go_sem, unit4, zero4]
set_option maxHeartbeats 1600000 in
set_option maxRecDepth 20000 in
theorem sOfVar2 (b off len cap k : Nat) (W : World) (hk : k < len) (hl : len ≤ 40) (c1 : W.cell? ⟨b, off + k * 2, none⟩ = some (.int .i64 2)) (c2 : W.cell? ⟨b, off + k * 2 + 1, none⟩ = some (.int .i64 2)) :
    Calls Tryd.prog 18 #[.slice (some ⟨b, off, none⟩) len cap, .int .i64 (k : Int)] W fun r w' => SOf W (some (varP 2)) r w' := by
  have hbl : b < W.heap.size := World.block_lt_of_cell? W _ c1
  have hik : (k : Int) < len := by omega
  have hbne : ¬ b = W.heap.size := by omega
  have hb2 : Below W.heap.size W ((W.alloc (.cells #[.int .i64 2, .int .i64 2] 40)).alloc (.cells #[.int .i64 0, .int .i64 0, .int .i64 1, .int .i64 0] 3)) := ((Below.refl _ _).alloc (Nat.le_refl _) _).alloc (by simp) _
  have HP := (show Hid _ from put_spec ((W.alloc (.cells #[.int .i64 2, .int .i64 2] 40)).alloc (.cells #[.int .i64 0, .int .i64 0, .int .i64 1, .int .i64 0] 3)) (.slice none 0 0) [] (SpecV.nil _) (by simp) sum4_nil _ 4 (unit4 2) rfl (Nat.le_refl _) (sl_unit2 _ _) 1)
  rw [show (W.alloc (.cells #[.int .i64 2, .int .i64 2] 40)).heap.size = W.heap.size + 1 from by simp] at HP
  have HB := (show Hid _ from hb2)
  have hmk := mk4
  clear hb2
  go_enter Tryd.func18, Tryd.ntmps18
  go_wp2_with fail
  refine Calls.mono HP.out ?_
  rintro r w3 ⟨v3, rfl, s3, hb3⟩
  clear HP
  go_wp2
  go_ret2
  exact ⟨_, rfl, fun s hs => by cases hs; exact s3, HB.out.trans (hb3.mono HB.out.size)⟩
theorem sl_unit3 (W : World) (t : TypeId) : Sl (W.alloc (.cells #[.int .i64 0, .int .i64 0, .int .i64 0, .int .i64 1] t)) (some ⟨W.heap.size, 0, none⟩) 4 (unit4 3) := by
  refine ⟨rfl, .inr ⟨W.heap.size, 0, rfl, by simp, fun i hi => ?_⟩⟩
  match i, hi with
  | 0, _ => simp [go_sem, unit4, zero4]
  | 1, _ => simp [go_sem, unit4, zero4]
  | 2, _ => simp [go_sem, unit4, zero4]
  | 3, _ => simp [go_sem, unit4, zero4]
set_option maxHeartbeats 1600000 in
set_option maxRecDepth 20000 in
theorem sOfVar3 (b off len cap k : Nat) (W : World) (hk : k < len) (hl : len ≤ 40) (c1 : W.cell? ⟨b, off + k * 2, none⟩ = some (.int .i64 2)) (c2 : W.cell? ⟨b, off + k * 2 + 1, none⟩ = some (.int .i64 3)) :
    Calls Tryd.prog 18 #[.slice (some ⟨b, off, none⟩) len cap, .int .i64 (k : Int)] W fun r w' => SOf W (some (varP 3)) r w' := by
  have hbl : b < W.heap.size := World.block_lt_of_cell? W _ c1
  have hik : (k : Int) < len := by omega
  have hbne : ¬ b = W.heap.size := by omega
  have hb2 : Below W.heap.size W ((W.alloc (.cells #[.int .i64 2, .int .i64 3] 40)).alloc (.cells #[.int .i64 0, .int .i64 0, .int .i64 0, .int .i64 1] 3)) := ((Below.refl _ _).alloc (Nat.le_refl _) _).alloc (by simp) _
  have HP := (show Hid _ from put_spec ((W.alloc (.cells #[.int .i64 2, .int .i64 3] 40)).alloc (.cells #[.int .i64 0, .int .i64 0, .int .i64 0, .int .i64 1] 3)) (.slice none 0 0) [] (SpecV.nil _) (by simp) sum4_nil _ 4 (unit4 3) rfl (Nat.le_refl _) (sl_unit3 _ _) 1)
  rw [show (W.alloc (.cells #[.int .i64 2, .int .i64 3] 40)).heap.size = W.heap.size + 1 from by simp] at HP
  have HB := (show Hid _ from hb2)
  have hmk := mk4
  clear hb2
  go_enter Tryd.func18, Tryd.ntmps18
  go_wp2_with fail
  refine Calls.mono HP.out ?_
  rintro r w3 ⟨v3, rfl, s3, hb3⟩
  clear HP
  go_wp2
  go_ret2
  exact ⟨_, rfl, fun s hs => by cases hs; exact s3, HB.out.trans (hb3.mono HB.out.size)⟩
end Go.Proofs.YtpjgjpjfchfmlaaDoor
