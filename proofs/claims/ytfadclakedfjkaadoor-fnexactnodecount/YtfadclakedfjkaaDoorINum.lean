/-
  PROVED HERE: the program's reading of a number. The tables are laid. No other condition.
-/
import Derived.Test.YtfadclakedfjkaaDoorIEnv
namespace Go.Proofs.YtfadclakedfjkaaDoor
open Go.ChangeShapes Go.WideShapes Go.ChangeAt Go.RowKit
set_option linter.unusedVariables false
def digB (c : Int) : Bool := decide (48 ≤ c) && decide (c ≤ 57)
theorem ext_seg2 (s : ByteArray) (a n : Nat) : (s.extract a n).data.toList = (s.data.toList.drop a).take (n - a) := by
  rw [ByteArray.data_extract, Array.toList_extract]
theorem held5_b {A B C D E : Prop} {w2 wp : World} (h : A ∧ B ∧ C ∧ D ∧ E ∧ Below w2.heap.size w2 wp) : Below w2.heap.size w2 wp := h.2.2.2.2.2
theorem held5_step {A B C D E : Prop} {w2 wp w4 : World} (h : A ∧ B ∧ C ∧ D ∧ E ∧ Below w2.heap.size w2 wp) (hb : Below wp.heap.size wp w4) : Below w2.heap.size w2 w4 := h.2.2.2.2.2.trans (hb.mono h.2.2.2.2.2.size)
set_option maxHeartbeats 1600000 in
set_option maxRecDepth 20000 in
theorem inum_neg_bare (w : World) (B g mb mc : Nat) (s : ByteArray) (M : List (Int × Int)) (k : Nat) (out : List (Int × Int)) (h : IRdr w B g mb mc s M k out) (hEnv : Env w) (hG : Gl g) (hs : s.size ≤ 1048576) (hM : M.length ≤ 1048576) (ho : out.length ≤ 1048576) (d : Nat) (hd1 : d = k + 1) (h45 : ((M.getD k (0, 0)).2 == 45) = true) (hkl : d < M.length) (hd : digB (M.getD (d) (0, 0)).2 = false) :
    Calls Tryd.prog 53 #[.pointer (some ⟨g, 0, none⟩)] w fun e w' => e = .returned (.bool false) ∧ IRdr w' B g mb mc s M d out ∧ Below g w w' := by
  have HP := (show Hid _ from passes_any w B g mb mc s M k out 45 h (by omega) hM)
  rw [h45] at HP
  rw [if_pos rfl] at HP
  have HD : Hid (∀ W, Calls Tryd.prog 49 #[.int .i32 (M.getD (d) (0, 0)).2] W fun e w' => e = .returned (.bool (digB (M.getD (d) (0, 0)).2)) ∧ w' = W) := fun W => isDigit_any _ W
  rw [hd] at HD
  obtain ⟨x, hx⟩ : ∃ x, (M.getD (d) (0, 0)).2 = x := ⟨_, rfl⟩
  rw [hx] at HD
  have HX : Hid ((M.getD (d) (0, 0)).2 = x) := hx
  clear hx
  have c2 := h.c2
  rw [← hd1] at HP
  have i1 : (d : Int) < M.length := by omega
  have i0 : (M.length : Int) ≤ 1048576 := by omega
  have HEnv : Hid (Env w) := hEnv
  have hdd : d < M.length := by omega
  clear h hd h45 hEnv hd1
  go_enter Tryd.func53, Tryd.ntmps53
  go_wp2_with fail
  refine Calls.mono HP.out ?_
  rintro e w1 ⟨rfl, hR1, hb1⟩
  have d1 := hR1.c1
  have d2 := hR1.c2
  have m2 := (hR1.mks (d) hdd).2
  rw [HX.out] at m2
  clear HP c2 HX
  go_wp2_with fail
  go_quiet (exact Calls.quiet_of_same (HD.out _))
  go_wp2
  go_ret
  exact ⟨rfl, hR1.drewN _, hb1.trans (below_drewN g _)⟩
end Go.Proofs.YtfadclakedfjkaaDoor
