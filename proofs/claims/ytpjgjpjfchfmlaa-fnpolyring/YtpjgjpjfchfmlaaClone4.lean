/-
  PROVED HERE: what cloning four numbers leaves. No other condition.
-/
import Derived.Test.YtpjgjpjfchfmlaaLists
import Derived.Lib.SliceRun
namespace Go.Proofs.Ytpjgjpjfchfmlaa
open Go.ChangeShapes Go.WideShapes Go.ChangeAt Go.RowKit
set_option linter.unusedVariables false

/-- Four numbers in a block of their own. -/
def Pow4 (w : World) (g : Nat) (e : List Int) : Prop := e.length = 4 ∧ ∀ i, i < 4 → w.cell? ⟨g, i, none⟩ = some (.int .i64 (e.getD i 0)) ∧ w.frozen? ⟨g, i, none⟩ = false
theorem Pow4.block {w w' : World} {g : Nat} {e : List Int} (h : Pow4 w g e) (hb : w'.heap[g]? = w.heap[g]?) : Pow4 w' g e :=
  ⟨h.1, fun i hi => ⟨(World.cell?_of_block (a := ⟨g, i, none⟩) hb).trans (h.2 i hi).1, (World.frozen?_of_block (a := ⟨g, i, none⟩) hb).trans (h.2 i hi).2⟩⟩
theorem empty4 (w : World) : (w.alloc (.cells #[] 3)).ownsRow w.heap.size 3 1 (.slice (some ⟨w.heap.size, 0, none⟩) 0 0) 0 [] :=
  ⟨rfl, .inr ⟨w.heap.size, 0, #[], rfl, Nat.le_refl _, by unfold World.alloc; exact Array.getElem?_push_size, by omega, by unfold maxLen; omega, rfl, rfl⟩⟩
theorem clone4_any (b off c : Nat) (e : List Int) (w : World) (h : Sl w (some ⟨b, off, none⟩) 4 e) :
    Calls Try.prog 31 #[.slice (some ⟨b, off, none⟩) 4 c] w fun r w' => ∃ g cap, r = .returned (.slice (some ⟨g, 0, none⟩) 4 cap) ∧ 4 ≤ cap ∧ w.heap.size ≤ g ∧ g < w'.heap.size ∧ Pow4 w' g e ∧ Below w.heap.size w w' := by
  obtain ⟨i0, hi, hz0, hz1, hz2⟩ := info_parts infoInt
  have h4 := h.1
  have hb0 : Below w.heap.size w (w.alloc (.cells #[] 3)) := (Below.refl _ _).alloc (Nat.le_refl _) _
  have hcs := sl_cells (h.keep hb0) 0 4 (by omega)
  rw [List.drop_zero, List.take_of_length_le (by omega), Nat.add_zero] at hcs
  have HC := (show Hid _ from hcs)
  have H1 : Hid (∀ u ∈ vals e, u.oneCell' = true) := vals_one e
  have hvl : (vals e).length = 4 * 1 := by rw [vals_len]; omega
  have q : ∀ (w : World) (a : Option Addr) (n c n' c' : Nat), (binOp .eql 41 (.slice a n c) (.slice none n' c')).run Try.prog w = .ok (.bool a.isNone) w := fun w a n c n' c' => Lib.run_eql_slice_nil w _ _ a n c n' c' Try.underlying41
  clear hcs h
  go_enter Try.func31, Try.ntmps31
  go_wp2_with (at_builtin; refine wpList_append_own _ rfl _ _ 41 rfl w.heap.size 3 i0 (.int .i64 0) 1 8 Try.underlying41 hi hz0 hz1 hz2 rfl (by decide) _ _ _ rfl (empty4 w) ⟨b, off, none⟩ 4 c (vals e) rfl hvl HC.out H1.out (by unfold maxLen; omega) (by omega) (by simp) ?_; intro v' w4 hown4 hg4 _)
  go_ret
  rw [Nat.zero_add, List.nil_append] at hown4
  rcases hown4.2 with ⟨_, h00⟩ | ⟨g, cap, cur, hv, hbg, hg, hcap, _⟩
  · omega
  · subst hv
    refine ⟨g, cap, rfl, hcap, hbg, Array.getElem?_eq_some_iff.1 hg |>.1, ⟨h4, fun i hi => ⟨?_, hown4.frozenAt i⟩⟩, hb0.grown hg4 (by simp) (fun r hr => by cases hr; exact Nat.le_refl _)⟩
    rw [hown4.cellAt i (by omega)]
    simp [vals, List.getD_eq_getElem?_getD, List.getElem?_eq_getElem (show i < e.length by omega)]
end Go.Proofs.Ytpjgjpjfchfmlaa
