/-
  PROVED HERE: what the program says of the part at a node, at every list of nodes and every number, in a world whose table of arities is laid. No other condition.
-/
import Derived.Test.YtkadanagmahhgaaDoorIFirst
import Derived.Test.YtkadanagmahhgaaDoorPartAt
import Derived.Lib.SliceRun
namespace Go.Proofs.YtkadanagmahhgaaDoor
open Go.ChangeShapes Go.WideShapes Go.ChangeAt Go.RowKit
set_option linter.unusedVariables false

set_option maxRecDepth 20000 in
theorem clone_any (b off len cap : Nat) (l : List (Int × Int)) (w : World) (h : NSl w (some ⟨b, off, none⟩) len l) (hn : len ≤ 1048576) :
    Calls Tryd.prog 30 #[.slice (some ⟨b, off, none⟩) len cap] w fun e w' => ∃ v : Value, e = .returned v ∧ w'.ownsRow w.heap.size 44 2 v len (flat l) ∧ Below w.heap.size w w' := by
  obtain ⟨i0, hi, hz0, hz1, hz2⟩ := info_parts infoNode
  have hll := h.1
  have hb0 : Below w.heap.size w (w.alloc (.cells #[] 44)) := (Below.refl _ _).alloc (Nat.le_refl _) _
  have h1 := h.keep hb0
  have q : ∀ (w : World) (a : Option Addr) (n c n' c' : Nat), (binOp .eql 28 (.slice a n c) (.slice none n' c')).run Tryd.prog w = .ok (.bool a.isNone) w := fun w a n c n' c' => Lib.run_eql_slice_nil w _ _ a n c n' c' Tryd.underlying28
  go_enter Tryd.func30, Tryd.ntmps30
  go_wp2_with (at_builtin; refine wpList_append_own _ rfl _ _ 28 rfl w.heap.size 44 i0 (.agg #[.int .i64 0, .int .i64 0]) 2 16 Tryd.underlying28 hi hz0 hz1 hz2 rfl (by decide) _ _ _ rfl (empty_row w) ⟨b, off, none⟩ len cap (flat l) rfl (by rw [flat_len]; omega) (flat_cells h1) (flat_one l) (by unfold maxLen; omega) (by omega) (by simp) ?_; intro v' w4 hown4 hg4 _)
  go_ret
  exact ⟨_, rfl, by rw [Nat.zero_add] at hown4; exact hown4, hb0.grown hg4 (by simp) (fun r hr => by cases hr; exact Nat.le_refl _)⟩

end Go.Proofs.YtkadanagmahhgaaDoor
