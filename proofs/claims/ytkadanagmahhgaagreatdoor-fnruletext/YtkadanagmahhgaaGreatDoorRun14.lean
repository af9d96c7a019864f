/-
  PROVED HERE: the program's reading of a number. The tables are laid. No other condition. the program's reading of a number. The tables are laid. No other condition. the program's reading of a number. The tables are laid. No other condition. the program's reading of a number. The tables are laid. No other condition.
-/
import Derived.Test.YtkadanagmahhgaaGreatDoorRun13
namespace Go.Proofs.YtkadanagmahhgaaGreatDoor
open Go.ChangeShapes Go.WideShapes Go.ChangeAt Go.RowKit
set_option linter.unusedVariables false
def digB (c : Int) : Bool := decide (48 ≤ c) && decide (c ≤ 57)
theorem ext_seg2 (s : ByteArray) (a n : Nat) : (s.extract a n).data.toList = (s.data.toList.drop a).take (n - a) := by
  rw [ByteArray.data_extract, Array.toList_extract]
theorem held5_b {A B C D E : Prop} {w2 wp : World} (h : A ∧ B ∧ C ∧ D ∧ E ∧ Below w2.heap.size w2 wp) : Below w2.heap.size w2 wp := h.2.2.2.2.2
theorem held5_step {A B C D E : Prop} {w2 wp w4 : World} (h : A ∧ B ∧ C ∧ D ∧ E ∧ Below w2.heap.size w2 wp) (hb : Below wp.heap.size wp w4) : Below w2.heap.size w2 w4 := h.2.2.2.2.2.trans (hb.mono h.2.2.2.2.2.size)
set_option maxHeartbeats 1600000 in
set_option maxRecDepth 20000 in
theorem inum_neg_bare (w : World) (B g mb mc : Nat) (s : ByteArray) (M : List (Int × Int)) (k : Nat) (out : List (Int × Int)) (h : IRdr w B g mb mc s M k out) (hEnv : Env w) (hG : Gl g) (hs : s.size ≤ 1048576) (hM : M.length ≤ 1048576) (ho : out.length ≤ 1048576) (d : Nat) (hd1 : d = k + 1) (h45 : ((M.getD k (0, 0)).2 == 45) = true) (hkl : d < M.length) (hd : digB (M.getD (d) (0, 0)).2 = false) :
    Calls Tryz.prog 125 #[.pointer (some ⟨g, 0, none⟩)] w fun e w' => e = .returned (.bool false) ∧ IRdr w' B g mb mc s M d out ∧ Below g w w' := by
  have HP := (show Hid _ from passes_any w B g mb mc s M k out 45 h (by omega) hM)
  rw [h45] at HP
  rw [if_pos rfl] at HP
  have HD : Hid (∀ W, Calls Tryz.prog 121 #[.int .i32 (M.getD (d) (0, 0)).2] W fun e w' => e = .returned (.bool (digB (M.getD (d) (0, 0)).2)) ∧ w' = W) := fun W => isDigit_any _ W
  rw [hd] at HD
  obtain ⟨x, hx⟩ : ∃ x, (M.getD (d) (0, 0)).2 = x := ⟨_, rfl⟩
  rw [hx] at HD
  have HX : Hid ((M.getD (d) (0, 0)).2 = x) := hx
  clear hx
  have c2 := h.c2
  rw [← hd1] at HP
  have i1 : (d : Int) < M.length := by omega
  have i0 : (M.length : Int) ≤ 1048576 := by omega
  have HEnv : Hid (Env w) := hEnv
  have hdd : d < M.length := by omega
  clear h hd h45 hEnv hd1
  go_enter Tryz.func125, Tryz.ntmps125
  go_wp2_with fail
  refine Calls.mono HP.out ?_
  rintro e w1 ⟨rfl, hR1, hb1⟩
  have d1 := hR1.c1
  have d2 := hR1.c2
  have m2 := (hR1.mks (d) hdd).2
  rw [HX.out] at m2
  clear HP c2 HX
  go_wp2_with fail
  go_quiet (exact Calls.quiet_of_same (HD.out _))
  go_wp2
  go_ret
  exact ⟨rfl, hR1.drewN _, hb1.trans (below_drewN g _)⟩
end Go.Proofs.YtkadanagmahhgaaGreatDoor
namespace Go.Proofs.YtkadanagmahhgaaGreatDoor
open Go.ChangeShapes Go.WideShapes Go.ChangeAt Go.RowKit
set_option linter.unusedVariables false
set_option maxHeartbeats 1600000 in
set_option maxRecDepth 20000 in
theorem inum_neg_none (w : World) (B g mb mc : Nat) (s : ByteArray) (M : List (Int × Int)) (k : Nat) (out : List (Int × Int)) (h : IRdr w B g mb mc s M k out) (hEnv : Env w) (hG : Gl g) (hs : s.size ≤ 1048576) (hM : M.length ≤ 1048576) (ho : out.length ≤ 1048576) (d : Nat) (hd1 : d = k + 1) (e1 : Nat) (he1 : e1 = d + 1) (h45 : ((M.getD k (0, 0)).2 == 45) = true) (hkl : e1 < M.length) (hd : digB (M.getD (d) (0, 0)).2 = true) (a E : Nat) (ha : (M.getD k (0, 0)).1 = a) (hE : (M.getD (e1) (0, 0)).1 = E) (haE : a ≤ E) (hEs : E ≤ s.size) (hno : ∀ n, InI n → Lib.itoa n ≠ (s.data.toList.drop a).take (E - a)) :
    Calls Tryz.prog 125 #[.pointer (some ⟨g, 0, none⟩)] w fun e w' => e = .returned (.bool false) ∧ IRdr w' B g mb mc s M k out ∧ Below g w w' := by
  have HP := (show Hid _ from passes_any w B g mb mc s M k out 45 h (by omega) hM)
  rw [h45] at HP
  rw [if_pos rfl] at HP
  have HD : Hid (∀ W, Calls Tryz.prog 121 #[.int .i32 (M.getD (d) (0, 0)).2] W fun e w' => e = .returned (.bool (digB (M.getD (d) (0, 0)).2)) ∧ w' = W) := fun W => isDigit_any _ W
  rw [hd] at HD
  obtain ⟨x, hx⟩ : ∃ x, (M.getD (d) (0, 0)).2 = x := ⟨_, rfl⟩
  rw [hx] at HD
  have HX : Hid ((M.getD (d) (0, 0)).2 = x) := hx
  clear hx
  have c2 := h.c2
  rw [← hd1] at HP
  have i1 : (d : Int) < M.length := by omega
  have i0 : (M.length : Int) ≤ 1048576 := by omega
  have i2 : (e1 : Int) < M.length := by omega
  have i3 : (k : Int) < M.length := by omega
  have hsl : ∀ W, (Instr.slice 9 (.string s) (some (.int .i64 (a : Int))) (some (.int .i64 (E : Int))) none).run Tryz.prog W = .ok (.string (s.extract a E)) W := by
    intro W
    rw [run_slice_string W 9 s .i64 .i64 _ _ Tryz.underlying9 (by omega) (by omega) (by omega)]; rfl
  have hseg := ext_seg2 s a E
  have hxs : (s.extract a E).size ≤ 1048576 := by rw [ByteArray.size_extract]; omega
  obtain ⟨X, hX⟩ : ∃ X, s.extract a E = X := ⟨_, rfl⟩
  rw [hX] at hsl hseg hxs
  rw [← hseg] at hno
  have HC : Hid (∀ W, Env W → Calls Tryz.prog 150 #[.string X] W fun e w' => e = .returned (.tuple #[.int .i64 0, .bool false]) ∧ Below W.heap.size W w') := fun W hW => implRead_none X W (by omega) hno hW.1 hW.2.1
  clear hno hX hseg
  have HEnv : Hid (Env w) := hEnv
  have HE1 : Hid (d + 1 = e1) := he1.symm
  have hkk : k < M.length := by omega
  have hdd : d < M.length := by omega
  clear h hd h45 hEnv hd1 he1
  go_enter Tryz.func125, Tryz.ntmps125
  go_wp2_with fail
  refine Calls.mono HP.out ?_
  rintro e w1 ⟨rfl, hR1, hb1⟩
  have d1 := hR1.c1
  have d2 := hR1.c2
  have m2 := (hR1.mks (d) hdd).2
  rw [HX.out] at m2
  clear HP c2 HX
  go_wp2_with fail
  go_quiet (exact Calls.quiet_of_same (HD.out _))
  have f2 := hR1.f2
  clear HD m2
  go_wp2
  obtain ⟨W, hW⟩ : ∃ W, (w1.drewN nq).setCell ⟨g, 2, none⟩ (.int .i64 ((d : Int) + 1)) = W := ⟨_, rfl⟩
  have hR2 : IRdr W B g mb mc s M (e1) out := by rw [← hW, ← HE1.out]; exact (hR1.drewN nq).move (d + 1)
  have hB2 : Below g w W := by rw [← hW]; exact (hb1.trans (below_drewN g _)).trans (below_set _)
  rw [hW]
  clear hW d1 d2 f2 hR1 hb1
  have hEW := HEnv.out.keepG hG hB2
  have c0 := hR2.c0
  have c1 := hR2.c1
  have c2 := hR2.c2
  have n1 := (hR2.mks k hkk).1
  have n2 := (hR2.mks (e1) (by omega)).1
  rw [ha] at n1
  rw [hE] at n2
  have hgW : g ≤ W.heap.size := by have := hR2.lt; have := hR2.ltB; omega
  have HR2 : Hid (IRdr W B g mb mc s M (e1) out) := hR2
  have HEW : Hid (Env W) := hEW
  clear hR2 hEW ha hE
  have hgW' : g < W.heap.size := by have := HR2.out.lt; have := HR2.out.ltB; omega
  have hmW : mb < W.heap.size := by have := HR2.out.mlt; have := HR2.out.ltB; omega
  have KS : Hid (∀ w', Below W.heap.size W w' → w'.cell? ⟨g, 0, none⟩ = some (.string s) ∧ w'.cell? ⟨g, 1, none⟩ = some (.slice (some ⟨mb, 0, none⟩) M.length mc) ∧ w'.cell? ⟨g, 2, none⟩ = some (.int .i64 (e1 : Int)) ∧ w'.cell? ⟨mb, k * 2, none⟩ = some (.int .i64 (a : Int)) ∧ w'.cell? ⟨mb, e1 * 2, none⟩ = some (.int .i64 (E : Int)) ∧ Below W.heap.size W w') := fun w' h' => ⟨(h'.cell (p := ⟨g, 0, none⟩) hgW').trans c0, (h'.cell (p := ⟨g, 1, none⟩) hgW').trans c1, (h'.cell (p := ⟨g, 2, none⟩) hgW').trans c2, (h'.cell (p := ⟨mb, k * 2, none⟩) hmW).trans n1, (h'.cell (p := ⟨mb, e1 * 2, none⟩) hmW).trans n2, h'⟩
  go_region_held3 (fun w' => w'.cell? ⟨g, 0, none⟩ = some (.string s) ∧ w'.cell? ⟨g, 1, none⟩ = some (.slice (some ⟨mb, 0, none⟩) M.length mc) ∧ w'.cell? ⟨g, 2, none⟩ = some (.int .i64 (e1 : Int)) ∧ w'.cell? ⟨mb, k * 2, none⟩ = some (.int .i64 (a : Int)) ∧ w'.cell? ⟨mb, e1 * 2, none⟩ = some (.int .i64 (E : Int)) ∧ Below W.heap.size W w')
    ((refine KS.out _ ?_; first | assumption | exact held5_b (by assumption) | exact (Below.refl _ _).drew))
    (first
      | (go_at_call 150; refine (HC.out _ (HEW.out.keep (held5_b (by assumption)))).mono ?_; rintro e w2 ⟨rfl, hb2⟩; have hbB := held5_step (by assumption) hb2; clear hb2))
  all_goals
    have hR3 := HR2.out.keep hbB
    have hB3 : Below g w w2 := hB2.trans (hbB.mono hgW)
    have d2 := hR3.c2
    have e2 := hR3.f2
    clear c0 c1 c2 n1 n2
    go_wp2
    go_ret
    exact ⟨rfl, hR3.move k, hB3.trans (below_set _)⟩
end Go.Proofs.YtkadanagmahhgaaGreatDoor
namespace Go.Proofs.YtkadanagmahhgaaGreatDoor
open Go.ChangeShapes Go.WideShapes Go.ChangeAt Go.RowKit
set_option linter.unusedVariables false
set_option maxHeartbeats 1600000 in
set_option maxRecDepth 20000 in
theorem inum_neg_some (w : World) (B g mb mc : Nat) (s : ByteArray) (M : List (Int × Int)) (k : Nat) (out : List (Int × Int)) (h : IRdr w B g mb mc s M k out) (hEnv : Env w) (hG : Gl g) (hs : s.size ≤ 1048576) (hM : M.length ≤ 1048576) (ho : out.length ≤ 1048576) (d : Nat) (hd1 : d = k + 1) (e1 : Nat) (he1 : e1 = d + 1) (h45 : ((M.getD k (0, 0)).2 == 45) = true) (hkl : e1 < M.length) (hd : digB (M.getD (d) (0, 0)).2 = true) (a E : Nat) (ha : (M.getD k (0, 0)).1 = a) (hE : (M.getD (e1) (0, 0)).1 = E) (haE : a ≤ E) (hEs : E ≤ s.size) (n : Int) (hn : InI n) (hi : Lib.itoa n = (s.data.toList.drop a).take (E - a)) :
    Calls Tryz.prog 125 #[.pointer (some ⟨g, 0, none⟩)] w fun e w' => e = .returned (.bool true) ∧ IRdr w' B g mb mc s M (e1) (out ++ [(1, n)]) ∧ Below g w w' := by
  have HP := (show Hid _ from passes_any w B g mb mc s M k out 45 h (by omega) hM)
  rw [h45] at HP
  rw [if_pos rfl] at HP
  have HD : Hid (∀ W, Calls Tryz.prog 121 #[.int .i32 (M.getD (d) (0, 0)).2] W fun e w' => e = .returned (.bool (digB (M.getD (d) (0, 0)).2)) ∧ w' = W) := fun W => isDigit_any _ W
  rw [hd] at HD
  obtain ⟨x, hx⟩ : ∃ x, (M.getD (d) (0, 0)).2 = x := ⟨_, rfl⟩
  rw [hx] at HD
  have HX : Hid ((M.getD (d) (0, 0)).2 = x) := hx
  clear hx
  have c2 := h.c2
  rw [← hd1] at HP
  have i1 : (d : Int) < M.length := by omega
  have i0 : (M.length : Int) ≤ 1048576 := by omega
  have i2 : (e1 : Int) < M.length := by omega
  have i3 : (k : Int) < M.length := by omega
  have hsl : ∀ W, (Instr.slice 9 (.string s) (some (.int .i64 (a : Int))) (some (.int .i64 (E : Int))) none).run Tryz.prog W = .ok (.string (s.extract a E)) W := by
    intro W
    rw [run_slice_string W 9 s .i64 .i64 _ _ Tryz.underlying9 (by omega) (by omega) (by omega)]; rfl
  have hseg := ext_seg2 s a E
  have hxs : (s.extract a E).size ≤ 1048576 := by rw [ByteArray.size_extract]; omega
  obtain ⟨X, hX⟩ : ∃ X, s.extract a E = X := ⟨_, rfl⟩
  rw [hX] at hsl hseg hxs
  rw [← hseg] at hi
  have HC : Hid (∀ W, Env W → Calls Tryz.prog 150 #[.string X] W fun e w' => e = .returned (.tuple #[.int .i64 n, .bool true]) ∧ Below W.heap.size W w') := fun W hW => implRead_some n X W hn hi hW.1
  have HPut : Hid (∀ W, IRdr W B g mb mc s M (e1) out → Calls Tryz.prog 146 #[.pointer (some ⟨g, 0, none⟩), .int .i64 1, .int .i64 n] W fun e w' => (∃ u, e = .returned u) ∧ IRdr w' B g mb mc s M (e1) (out ++ [(1, n)]) ∧ Below g W w') := fun W hW => put_any W B g mb mc s M (e1) out 1 n hW ho
  clear hi hn hX hseg
  have HEnv : Hid (Env w) := hEnv
  have HE1 : Hid (d + 1 = e1) := he1.symm
  have hkk : k < M.length := by omega
  have hdd : d < M.length := by omega
  clear h hd h45 hEnv hd1 he1
  go_enter Tryz.func125, Tryz.ntmps125
  go_wp2_with fail
  refine Calls.mono HP.out ?_
  rintro e w1 ⟨rfl, hR1, hb1⟩
  have d1 := hR1.c1
  have d2 := hR1.c2
  have m2 := (hR1.mks (d) hdd).2
  rw [HX.out] at m2
  clear HP c2 HX
  go_wp2_with fail
  go_quiet (exact Calls.quiet_of_same (HD.out _))
  have f2 := hR1.f2
  clear HD m2
  go_wp2
  obtain ⟨W, hW⟩ : ∃ W, (w1.drewN nq).setCell ⟨g, 2, none⟩ (.int .i64 ((d : Int) + 1)) = W := ⟨_, rfl⟩
  have hR2 : IRdr W B g mb mc s M (e1) out := by rw [← hW, ← HE1.out]; exact (hR1.drewN nq).move (d + 1)
  have hB2 : Below g w W := by rw [← hW]; exact (hb1.trans (below_drewN g _)).trans (below_set _)
  rw [hW]
  clear hW d1 d2 f2 hR1 hb1
  have hEW := HEnv.out.keepG hG hB2
  have c0 := hR2.c0
  have c1 := hR2.c1
  have c2 := hR2.c2
  have n1 := (hR2.mks k hkk).1
  have n2 := (hR2.mks (e1) (by omega)).1
  rw [ha] at n1
  rw [hE] at n2
  have hgW : g ≤ W.heap.size := by have := hR2.lt; have := hR2.ltB; omega
  have HR2 : Hid (IRdr W B g mb mc s M (e1) out) := hR2
  have HEW : Hid (Env W) := hEW
  clear hR2 hEW ha hE
  have hgW' : g < W.heap.size := by have := HR2.out.lt; have := HR2.out.ltB; omega
  have hmW : mb < W.heap.size := by have := HR2.out.mlt; have := HR2.out.ltB; omega
  have KS : Hid (∀ w', Below W.heap.size W w' → w'.cell? ⟨g, 0, none⟩ = some (.string s) ∧ w'.cell? ⟨g, 1, none⟩ = some (.slice (some ⟨mb, 0, none⟩) M.length mc) ∧ w'.cell? ⟨g, 2, none⟩ = some (.int .i64 (e1 : Int)) ∧ w'.cell? ⟨mb, k * 2, none⟩ = some (.int .i64 (a : Int)) ∧ w'.cell? ⟨mb, e1 * 2, none⟩ = some (.int .i64 (E : Int)) ∧ Below W.heap.size W w') := fun w' h' => ⟨(h'.cell (p := ⟨g, 0, none⟩) hgW').trans c0, (h'.cell (p := ⟨g, 1, none⟩) hgW').trans c1, (h'.cell (p := ⟨g, 2, none⟩) hgW').trans c2, (h'.cell (p := ⟨mb, k * 2, none⟩) hmW).trans n1, (h'.cell (p := ⟨mb, e1 * 2, none⟩) hmW).trans n2, h'⟩
  go_region_held3 (fun w' => w'.cell? ⟨g, 0, none⟩ = some (.string s) ∧ w'.cell? ⟨g, 1, none⟩ = some (.slice (some ⟨mb, 0, none⟩) M.length mc) ∧ w'.cell? ⟨g, 2, none⟩ = some (.int .i64 (e1 : Int)) ∧ w'.cell? ⟨mb, k * 2, none⟩ = some (.int .i64 (a : Int)) ∧ w'.cell? ⟨mb, e1 * 2, none⟩ = some (.int .i64 (E : Int)) ∧ Below W.heap.size W w')
    ((refine KS.out _ ?_; first | assumption | exact held5_b (by assumption) | exact (Below.refl _ _).drew))
    (first
      | (go_at_call 150; refine (HC.out _ (HEW.out.keep (held5_b (by assumption)))).mono ?_; rintro e w2 ⟨rfl, hb2⟩; have hbB := held5_step (by assumption) hb2; clear hb2))
  all_goals
    have hR3 := HR2.out.keep hbB
    have hB3 : Below g w w2 := hB2.trans (hbB.mono hgW)
    clear c0 c1 c2 n1 n2
    go_wp2_with fail
    refine (HPut.out _ hR3).mono ?_
    rintro e w4 ⟨⟨u, rfl⟩, hR4, hb4⟩
    go_wp2
    go_ret
    exact ⟨rfl, hR4, hB3.trans hb4⟩
end Go.Proofs.YtkadanagmahhgaaGreatDoor
namespace Go.Proofs.YtkadanagmahhgaaGreatDoor
open Go.ChangeShapes Go.WideShapes Go.ChangeAt Go.RowKit
set_option linter.unusedVariables false
set_option maxHeartbeats 1600000 in
set_option maxRecDepth 20000 in
theorem inum_pos_none (w : World) (B g mb mc : Nat) (s : ByteArray) (M : List (Int × Int)) (k : Nat) (out : List (Int × Int)) (h : IRdr w B g mb mc s M k out) (hEnv : Env w) (hG : Gl g) (hs : s.size ≤ 1048576) (hM : M.length ≤ 1048576) (ho : out.length ≤ 1048576) (e1 : Nat) (he1 : e1 = k + 1) (h45 : ((M.getD k (0, 0)).2 == 45) = false) (hkl : e1 < M.length) (hd : digB (M.getD (k) (0, 0)).2 = true) (a E : Nat) (ha : (M.getD k (0, 0)).1 = a) (hE : (M.getD (e1) (0, 0)).1 = E) (haE : a ≤ E) (hEs : E ≤ s.size) (hno : ∀ n, InI n → Lib.itoa n ≠ (s.data.toList.drop a).take (E - a)) :
    Calls Tryz.prog 125 #[.pointer (some ⟨g, 0, none⟩)] w fun e w' => e = .returned (.bool false) ∧ IRdr w' B g mb mc s M k out ∧ Below g w w' := by
  have HP := (show Hid _ from passes_any w B g mb mc s M k out 45 h (by omega) hM)
  rw [h45] at HP
  rw [if_neg (by decide)] at HP
  have HD : Hid (∀ W, Calls Tryz.prog 121 #[.int .i32 (M.getD (k) (0, 0)).2] W fun e w' => e = .returned (.bool (digB (M.getD (k) (0, 0)).2)) ∧ w' = W) := fun W => isDigit_any _ W
  rw [hd] at HD
  obtain ⟨x, hx⟩ : ∃ x, (M.getD (k) (0, 0)).2 = x := ⟨_, rfl⟩
  rw [hx] at HD
  have HX : Hid ((M.getD (k) (0, 0)).2 = x) := hx
  clear hx
  have c2 := h.c2
  have i1 : (k : Int) < M.length := by omega
  have i0 : (M.length : Int) ≤ 1048576 := by omega
  have i2 : (e1 : Int) < M.length := by omega
  have i3 : (k : Int) < M.length := by omega
  have hsl : ∀ W, (Instr.slice 9 (.string s) (some (.int .i64 (a : Int))) (some (.int .i64 (E : Int))) none).run Tryz.prog W = .ok (.string (s.extract a E)) W := by
    intro W
    rw [run_slice_string W 9 s .i64 .i64 _ _ Tryz.underlying9 (by omega) (by omega) (by omega)]; rfl
  have hseg := ext_seg2 s a E
  have hxs : (s.extract a E).size ≤ 1048576 := by rw [ByteArray.size_extract]; omega
  obtain ⟨X, hX⟩ : ∃ X, s.extract a E = X := ⟨_, rfl⟩
  rw [hX] at hsl hseg hxs
  rw [← hseg] at hno
  have HC : Hid (∀ W, Env W → Calls Tryz.prog 150 #[.string X] W fun e w' => e = .returned (.tuple #[.int .i64 0, .bool false]) ∧ Below W.heap.size W w') := fun W hW => implRead_none X W (by omega) hno hW.1 hW.2.1
  clear hno hX hseg
  have HEnv : Hid (Env w) := hEnv
  have HE1 : Hid (k + 1 = e1) := he1.symm
  have hkk : k < M.length := by omega
  clear h hd h45 hEnv he1
  go_enter Tryz.func125, Tryz.ntmps125
  go_wp2_with fail
  refine Calls.mono HP.out ?_
  rintro e w1 ⟨rfl, hR1, hb1⟩
  have d1 := hR1.c1
  have d2 := hR1.c2
  have m2 := (hR1.mks (k) hkk).2
  rw [HX.out] at m2
  clear HP c2 HX
  go_wp2_with fail
  go_quiet (exact Calls.quiet_of_same (HD.out _))
  have f2 := hR1.f2
  clear HD m2
  go_wp2
  obtain ⟨W, hW⟩ : ∃ W, (w1.drewN nq).setCell ⟨g, 2, none⟩ (.int .i64 ((k : Int) + 1)) = W := ⟨_, rfl⟩
  have hR2 : IRdr W B g mb mc s M (e1) out := by rw [← hW, ← HE1.out]; exact (hR1.drewN nq).move (k + 1)
  have hB2 : Below g w W := by rw [← hW]; exact (hb1.trans (below_drewN g _)).trans (below_set _)
  rw [hW]
  clear hW d1 d2 f2 hR1 hb1
  have hEW := HEnv.out.keepG hG hB2
  have c0 := hR2.c0
  have c1 := hR2.c1
  have c2 := hR2.c2
  have n1 := (hR2.mks k hkk).1
  have n2 := (hR2.mks (e1) (by omega)).1
  rw [ha] at n1
  rw [hE] at n2
  have hgW : g ≤ W.heap.size := by have := hR2.lt; have := hR2.ltB; omega
  have HR2 : Hid (IRdr W B g mb mc s M (e1) out) := hR2
  have HEW : Hid (Env W) := hEW
  clear hR2 hEW ha hE
  have hgW' : g < W.heap.size := by have := HR2.out.lt; have := HR2.out.ltB; omega
  have hmW : mb < W.heap.size := by have := HR2.out.mlt; have := HR2.out.ltB; omega
  have KS : Hid (∀ w', Below W.heap.size W w' → w'.cell? ⟨g, 0, none⟩ = some (.string s) ∧ w'.cell? ⟨g, 1, none⟩ = some (.slice (some ⟨mb, 0, none⟩) M.length mc) ∧ w'.cell? ⟨g, 2, none⟩ = some (.int .i64 (e1 : Int)) ∧ w'.cell? ⟨mb, k * 2, none⟩ = some (.int .i64 (a : Int)) ∧ w'.cell? ⟨mb, e1 * 2, none⟩ = some (.int .i64 (E : Int)) ∧ Below W.heap.size W w') := fun w' h' => ⟨(h'.cell (p := ⟨g, 0, none⟩) hgW').trans c0, (h'.cell (p := ⟨g, 1, none⟩) hgW').trans c1, (h'.cell (p := ⟨g, 2, none⟩) hgW').trans c2, (h'.cell (p := ⟨mb, k * 2, none⟩) hmW).trans n1, (h'.cell (p := ⟨mb, e1 * 2, none⟩) hmW).trans n2, h'⟩
  go_region_held3 (fun w' => w'.cell? ⟨g, 0, none⟩ = some (.string s) ∧ w'.cell? ⟨g, 1, none⟩ = some (.slice (some ⟨mb, 0, none⟩) M.length mc) ∧ w'.cell? ⟨g, 2, none⟩ = some (.int .i64 (e1 : Int)) ∧ w'.cell? ⟨mb, k * 2, none⟩ = some (.int .i64 (a : Int)) ∧ w'.cell? ⟨mb, e1 * 2, none⟩ = some (.int .i64 (E : Int)) ∧ Below W.heap.size W w')
    ((refine KS.out _ ?_; first | assumption | exact held5_b (by assumption) | exact (Below.refl _ _).drew))
    (first
      | (go_at_call 150; refine (HC.out _ (HEW.out.keep (held5_b (by assumption)))).mono ?_; rintro e w2 ⟨rfl, hb2⟩; have hbB := held5_step (by assumption) hb2; clear hb2))
  all_goals
    have hR3 := HR2.out.keep hbB
    have hB3 : Below g w w2 := hB2.trans (hbB.mono hgW)
    have d2 := hR3.c2
    have e2 := hR3.f2
    clear c0 c1 c2 n1 n2
    go_wp2
    go_ret
    exact ⟨rfl, hR3.move k, hB3.trans (below_set _)⟩
end Go.Proofs.YtkadanagmahhgaaGreatDoor
