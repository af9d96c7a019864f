/-
  PROVED HERE: what the model's own copy of a list of nodes is, at every list of at most a million. No other condition. what the model's l1In answers, at every three numbers. No condition. what the model says of the part at a node, at every list of nodes and every number. No other condition. what the program says of the part at a node, at every list of nodes and every number, in a world whose table of arities is laid. No other condition.
-/
import Derived.Test.YtkadanagmahhgaaGreatDoorRun0
import Derived.Test.YtkadanagmahhgaaGreatDoorRun1
import Derived.Test.YtkadanagmahhgaaGreatDoorRun18
import Derived.Lib.SliceRun
namespace Go.Proofs.YtkadanagmahhgaaGreatDoor
open Go.ChangeShapes Go.WideShapes Go.ChangeAt Go.RowKit
set_option linter.unusedVariables false

theorem empty_row (w : World) : (w.alloc (.cells #[] 66)).ownsRow w.heap.size 66 2 (.slice (some ⟨w.heap.size, 0, none⟩) 0 0) 0 (flat []) :=
  World.ownsRow_lit w #[] 0 (Nat.le_refl _) (by unfold maxLen; omega) rfl

/-- The model's own copy. -/
theorem own_any (b off len cap : Nat) (l : List (Int × Int)) (w : World) (h : NSl w (some ⟨b, off, none⟩) len l) (hn : len ≤ 1048576) :
    Calls Tryz.prog 154 #[.slice (some ⟨b, off, none⟩) len cap] w fun e w' => ∃ v : Value, e = .returned v ∧ w'.ownsRow w.heap.size 66 2 v len (flat l) ∧ Below w.heap.size w w' := by
  obtain ⟨i0, hi, hz0, hz1, hz2⟩ := info_parts infoNode
  have hll := h.1
  have hb0 : Below w.heap.size w (w.alloc (.cells #[] 66)) := (Below.refl _ _).alloc (Nat.le_refl _) _
  have h1 := h.keep hb0
  go_enter Tryz.func154, Tryz.ntmps154
  go_wp2_with (at_builtin; refine wpList_append_own _ rfl _ _ 24 rfl w.heap.size 66 i0 (.agg #[.int .i64 0, .int .i64 0]) 2 16 Tryz.underlying24 hi hz0 hz1 hz2 rfl (by decide) _ _ _ rfl (empty_row w) ⟨b, off, none⟩ len cap (flat l) rfl (by rw [flat_len]; omega) (flat_cells h1) (flat_one l) (by unfold maxLen; omega) (by omega) (by simp) ?_; intro v' w4 hown4 hg4 _)
  go_ret
  exact ⟨_, rfl, by rw [Nat.zero_add] at hown4; exact hown4, hb0.grown hg4 (by simp) (fun r hr => by cases hr; exact Nat.le_refl _)⟩
end Go.Proofs.YtkadanagmahhgaaGreatDoor
namespace Go.Proofs.YtkadanagmahhgaaGreatDoor
open Go.ChangeShapes Go.WideShapes Go.ChangeAt Go.RowKit
set_option linter.unusedVariables false

theorem in_yes (n lo hi : Int) (w : World) (h1 : lo ≤ n) (h2 : n ≤ hi) : Calls Tryz.prog 116 #[.int .i64 n, .int .i64 lo, .int .i64 hi] w fun e w' => e = .returned (.bool true) ∧ w' = w := by
  go_enter Tryz.func116, Tryz.ntmps116
  go_wp2
  go_ret
  exact ⟨rfl, rfl⟩
theorem in_no (n lo hi : Int) (w : World) (h : n < lo ∨ hi < n) : Calls Tryz.prog 116 #[.int .i64 n, .int .i64 lo, .int .i64 hi] w fun e w' => e = .returned (.bool false) ∧ w' = w := by
  by_cases h1 : lo ≤ n
  · have h2 : ¬ n ≤ hi := by omega
    clear h
    go_enter Tryz.func116, Tryz.ntmps116
    go_wp2
    go_ret
    exact ⟨by simp, rfl⟩
  · clear h
    go_enter Tryz.func116, Tryz.ntmps116
    go_wp2
    go_ret
    exact ⟨rfl, rfl⟩
end Go.Proofs.YtkadanagmahhgaaGreatDoor
namespace Go.Proofs.YtkadanagmahhgaaGreatDoor
open Go.ChangeShapes Go.WideShapes Go.ChangeAt Go.RowKit
set_option linter.unusedVariables false

def partOk (l : List (Int × Int)) (k : Int) : Bool := goodB l && decide (0 ≤ k ∧ k < l.length)
def partL (l : List (Int × Int)) (k : Int) : List (Int × Int) := if partOk l k = true then (l.drop (start l k.toNat)).take (k.toNat + 1 - start l k.toNat) else []

end Go.Proofs.YtkadanagmahhgaaGreatDoor
namespace Go.Proofs.YtkadanagmahhgaaGreatDoor
open Go.ChangeShapes Go.WideShapes Go.ChangeAt Go.RowKit
set_option linter.unusedVariables false

set_option maxRecDepth 20000 in
theorem clone_any (b off len cap : Nat) (l : List (Int × Int)) (w : World) (h : NSl w (some ⟨b, off, none⟩) len l) (hn : len ≤ 1048576) :
    Calls Tryz.prog 138 #[.slice (some ⟨b, off, none⟩) len cap] w fun e w' => ∃ v : Value, e = .returned v ∧ w'.ownsRow w.heap.size 66 2 v len (flat l) ∧ Below w.heap.size w w' := by
  obtain ⟨i0, hi, hz0, hz1, hz2⟩ := info_parts infoNode
  have hll := h.1
  have hb0 : Below w.heap.size w (w.alloc (.cells #[] 66)) := (Below.refl _ _).alloc (Nat.le_refl _) _
  have h1 := h.keep hb0
  have q : ∀ (w : World) (a : Option Addr) (n c n' c' : Nat), (binOp .eql 24 (.slice a n c) (.slice none n' c')).run Tryz.prog w = .ok (.bool a.isNone) w := fun w a n c n' c' => Lib.run_eql_slice_nil w _ _ a n c n' c' Tryz.underlying24
  go_enter Tryz.func138, Tryz.ntmps138
  go_wp2_with (at_builtin; refine wpList_append_own _ rfl _ _ 24 rfl w.heap.size 66 i0 (.agg #[.int .i64 0, .int .i64 0]) 2 16 Tryz.underlying24 hi hz0 hz1 hz2 rfl (by decide) _ _ _ rfl (empty_row w) ⟨b, off, none⟩ len cap (flat l) rfl (by rw [flat_len]; omega) (flat_cells h1) (flat_one l) (by unfold maxLen; omega) (by omega) (by simp) ?_; intro v' w4 hown4 hg4 _)
  go_ret
  exact ⟨_, rfl, by rw [Nat.zero_add] at hown4; exact hown4, hb0.grown hg4 (by simp) (fun r hr => by cases hr; exact Nat.le_refl _)⟩

end Go.Proofs.YtkadanagmahhgaaGreatDoor
