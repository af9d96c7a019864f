/-
  PROVED HERE: the model's reading of a variable. No other condition.
-/
import Derived.Test.YtbchehpggoampaaDoorTwoPlain
import Derived.Test.YtbchehpggoampaaDoorPush
import Derived.Test.YtbchehpggoampaaDoorKeeps
namespace Go.Proofs.YtbchehpggoampaaDoor
open Go.ChangeShapes Go.WideShapes Go.ChangeAt Go.RowKit
set_option linter.unusedVariables false
set_option maxHeartbeats 1000000 in
set_option maxRecDepth 20000 in
theorem term_var (w : World) (g : Nat) (s : ByteArray) (a : Nat) (out : List (Int × Int)) (h : Rdr w g s a out) (hs : s.size ≤ 1048576) (ho : out.length ≤ 1048576) (ha : a < s.size) (v : Nat) (hv : v < 4) (hb : (s[a]).toNat = 97 + v) :
    Calls Tryd.prog 75 #[.pointer (some ⟨g, 0, none⟩)] w fun e w' => e = .returned (.bool true) ∧ Rdr w' g s (a + 1) (out ++ [(2, (v : Int))]) ∧ Below g w w' := by
  have HR : Hid (Rdr w g s a out) := h
  have c0 := h.c0
  have c1 := h.c1
  have f1 := h.f1
  have hlt := h.lt
  have i2 : (s.size : Int) ≤ 1048576 := by omega
  have i1 : (a : Int) < s.size := by omega
  have j1 : ((a : Int) == s.size) = false := by simp; omega
  have hix : ∀ W, (Instr.index 9 (.string s) (.int .i64 (a : Int))).run Tryd.prog W = .ok (.int .u8 (97 + (v : Int))) W := by
    intro W
    rw [run_index_string W 9 s .i64 _ Tryd.underlying9, dif_pos (show (0 : Int) ≤ (a : Int) ∧ (a : Int) < s.size from ⟨by omega, by omega⟩)]
    show Result.ok (Value.int .u8 (((s[a]).toNat : Nat) : Int)) W = _
    rw [hb]; rfl
  have k1 : decide ((48 : Int) ≤ 97 + v) = true := by simp; omega
  have k2 : decide (97 + (v : Int) ≤ 57) = false := by simp; omega
  have k3 : ((97 + (v : Int)) == 45) = false := by simp; omega
  have k4 : decide ((97 : Int) ≤ 97 + v) = true := by simp; omega
  have k5 : decide (97 + (v : Int) < 101) = true := by simp; omega
  have hv' : (v : Int) < 4 := by omega
  have k6 : IntKind.i64.wrap (IntKind.u8.wrap (97 + (v : Int) - 97)) = v := by rw [IntKind.wrap_u8, IntKind.wrap_i64]; omega
  have HV : Hid (∀ W, Calls Tryd.prog 86 #[.int .i64 (v : Int)] W fun e w' => e = .returned (.agg #[.int .i64 2, .int .i64 (v : Int)]) ∧ Below W.heap.size W w') := fun W => l2Var_any v W
  obtain ⟨i0, hi, hz0, hz1, hz2⟩ := info_parts infoNode
  clear hb h
  go_enter Tryd.func75, Tryd.ntmps75
  go_wp2
  go_big_quiet (fail)
  revert nq; intro q1
  go_wp2
  go_big_quiet (fail)
  revert nq; intro q2
  go_wp2
  obtain ⟨W, hW⟩ : ∃ W, (w.drewN (q1 + q2)).setCell ⟨g, 1, none⟩ (.int .i64 ((a : Int) + 1)) = W := ⟨_, rfl⟩
  have hR1 : Rdr W g s (a + 1) out := by rw [← hW]; exact (HR.out.drewN _).move (a + 1)
  have hBW : Below g w W := by rw [← hW]; exact (below_drewN g _).trans (below_set _)
  rw [hW]
  clear hW HR c0 c1 f1 hlt
  have HR1 : Hid (Rdr W g s (a + 1) out) := hR1
  obtain ⟨lt, _, _, ⟨vo, c2, hown⟩, _, f2⟩ := hR1
  obtain ⟨po, co, rfl⟩ := own_shape hown
  go_region_law (first
    | (refine step_append rfl _ _ 27 rfl (g + 1) 76 i0 (.agg #[.int .i64 0, .int .i64 0]) 2 16 Tryd.underlying27 hi hz0 hz1 hz2 rfl (by decide) (.slice po out.length co) _ _ rfl ((own_keep hown hb2).alloc _) ⟨w2.heap.size, 0, none⟩ 1 1 [.int .i64 2, .int .i64 (v : Int)] rfl (by simp) (two_new w2 _ _ _) (fun u hu => by rcases List.mem_cons.1 hu with rfl | hu; rfl; rw [List.mem_singleton.1 hu]; rfl) (by unfold maxLen; omega) (by omega) (by have := hb2.size; first | (simp; omega) | simp) ?_; intro v' w5 hown5 hg5 hat5; obtain ⟨p5, q5, rfl⟩ := own_shape hown5; have hB5 : Below (g + 1) W w5 := ((hb2.mono (by omega)).alloc (by have := hb2.size; omega) _).grown hg5 (by have := hb2.size; first | (simp; omega) | simp) (own_ge hown); have d2 := (hB5.cell (p := ⟨g, 2, none⟩) (by simp)).trans c2; have e2 := (hB5.frozen (p := ⟨g, 2, none⟩) (by simp)).trans f2)
    | (go_simp; (try rw [k6]); go_at_call 86; refine (HV.out _).mono ?_; rintro e w2 ⟨rfl, hb2'⟩; have hb2 : Below W.heap.size W w2 := ((Below.refl _ _).drew).trans hb2'; have d2 := (hb2.cell (p := ⟨g, 2, none⟩) lt).trans c2; have hlt2 : g < w2.heap.size := Nat.lt_of_lt_of_le lt hb2.size; have hne2 : ¬ g = w2.heap.size := (by omega); clear hb2'))
  all_goals
    go_wp2
    go_returns
    exact ⟨rfl, HR1.out.push (n := out.length + 1) hB5 (by simp) (by rw [flat_append]; exact hown5), (hBW.trans (hB5.mono (by omega))).trans (below_set _)⟩
end Go.Proofs.YtbchehpggoampaaDoor
