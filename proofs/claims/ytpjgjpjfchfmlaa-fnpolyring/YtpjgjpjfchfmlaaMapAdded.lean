/-
  PROVED HERE: what the program's adding of powers answers. No other condition.
-/
import Derived.Test.YtpjgjpjfchfmlaaLists
namespace Go.Proofs.Ytpjgjpjfchfmlaa
open Go.ChangeShapes Go.WideShapes Go.ChangeAt Go.RowKit
set_option linter.unusedVariables false

set_option maxHeartbeats 1600000 in
theorem added_any (a b : Option Addr) (ca cb : Nat) (x0 x1 x2 x3 y0 y1 y2 y3 : Int) (w : World) (ha : Sl w a 4 [x0, x1, x2, x3]) (hb : Sl w b 4 [y0, y1, y2, y3])
    (r0 : 0 ≤ x0 + y0 ∧ x0 + y0 ≤ 1000) (r1 : 0 ≤ x1 + y1 ∧ x1 + y1 ≤ 1000) (r2 : 0 ≤ x2 + y2 ∧ x2 + y2 ≤ 1000) (r3 : 0 ≤ x3 + y3 ∧ x3 + y3 ≤ 1000) :
    Calls Try.prog 21 #[.slice a 4 ca, .slice b 4 cb] w fun r w' => r = .returned (.agg #[.int .i64 (x0 + y0), .int .i64 (x1 + y1), .int .i64 (x2 + y2), .int .i64 (x3 + y3)]) ∧ Below w.heap.size w w' := by
  obtain ⟨b1, o1, rfl, hc1⟩ := cells_of ha (by omega)
  obtain ⟨b2, o2, rfl, hc2⟩ := cells_of hb (by omega)
  have hl1 : b1 < w.heap.size := World.block_lt_of_cell? w _ (hc1 0 (by omega))
  have hl2 : b2 < w.heap.size := World.block_lt_of_cell? w _ (hc2 0 (by omega))
  have c0 : w.cell? ⟨b1, o1, none⟩ = some (.int .i64 x0) := hc1 0 (by omega)
  have c1 : w.cell? ⟨b1, o1 + 1, none⟩ = some (.int .i64 x1) := hc1 1 (by omega)
  have c2 : w.cell? ⟨b1, o1 + 2, none⟩ = some (.int .i64 x2) := hc1 2 (by omega)
  have c3 : w.cell? ⟨b1, o1 + 3, none⟩ = some (.int .i64 x3) := hc1 3 (by omega)
  have d0 : w.cell? ⟨b2, o2, none⟩ = some (.int .i64 y0) := hc2 0 (by omega)
  have d1 : w.cell? ⟨b2, o2 + 1, none⟩ = some (.int .i64 y1) := hc2 1 (by omega)
  have d2 : w.cell? ⟨b2, o2 + 2, none⟩ = some (.int .i64 y2) := hc2 2 (by omega)
  have d3 : w.cell? ⟨b2, o2 + 3, none⟩ = some (.int .i64 y3) := hc2 3 (by omega)
  have n1 : ¬ b1 = w.heap.size := by omega
  have n2 : ¬ b1 = w.heap.size + 1 := by omega
  have n3 : ¬ b2 = w.heap.size := by omega
  have n4 : ¬ b2 = w.heap.size + 1 := by omega
  have n5 : ¬ w.heap.size + 1 = b1 := by omega
  have n6 : ¬ w.heap.size + 1 = b2 := by omega
  clear hc1 hc2 ha hb
  go_enter Try.func21, Try.ntmps21
  go_wp2_with fail
  refine wp_loop_rounds 5 ?_
  rw [rounds_succ]; go_wp2
  go_region
  all_goals (go_wp2; rw [rounds_succ]; go_wp2; go_region)
  all_goals (go_wp2; rw [rounds_succ]; go_wp2; go_region)
  all_goals (go_wp2; rw [rounds_succ]; go_wp2; go_region)
  all_goals (go_wp2; rw [rounds_succ]; go_wp2)
  all_goals exact bodyPost_ret (v := .agg #[.int .i64 (x0 + y0), .int .i64 (x1 + y1), .int .i64 (x2 + y2), .int .i64 (x3 + y3)]) (by simp [results, Try.results21, go_sem]) rfl ⟨rfl, by go_grown⟩
end Go.Proofs.Ytpjgjpjfchfmlaa
