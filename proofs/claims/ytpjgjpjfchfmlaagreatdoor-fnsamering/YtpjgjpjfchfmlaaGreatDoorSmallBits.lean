/-
  PROVED HERE: what a type assertion of one of the four kinds of trees gives. No condition. what the laws' own comparing answers at equal lists, and whether a number is in a list. No condition.
-/
import Derived.Test.YtpjgjpjfchfmlaaGreatDoorPolyRows
import Derived.Test.YtpjgjpjfchfmlaaGreatDoorNodeRows
import Derived.Test.YtpjgjpjfchfmlaaGreatDoorKeepsM
import Derived.Test.YtpjgjpjfchfmlaaGreatDoorLists
import Derived.Laws.StructEq
namespace Go.Proofs.YtpjgjpjfchfmlaaGreatDoor
set_option linter.unusedVariables false

theorem as_nn (v : Value) (w : World) : (Instr.typeAssert (.iface 83 v) 50 83 true).run Tryz.prog w = .ok (.tuple #[v, .bool true]) w := by kernel_rfl
theorem as_nv (v : Value) (w : World) : (Instr.typeAssert (.iface 83 v) 50 86 true).run Tryz.prog w = .ok (.tuple #[.agg #[.int .i64 0], .bool false]) w := by kernel_rfl
theorem as_nc (v : Value) (w : World) : (Instr.typeAssert (.iface 83 v) 50 107 true).run Tryz.prog w = .ok (.tuple #[.agg #[.nilIface, .nilIface, .nilIface], .bool false]) w := by kernel_rfl
theorem as_no (v : Value) (w : World) : (Instr.typeAssert (.iface 83 v) 50 94 true).run Tryz.prog w = .ok (.tuple #[.agg #[.int .i64 0, .slice none 0 0], .bool false]) w := by kernel_rfl
theorem as_vn (v : Value) (w : World) : (Instr.typeAssert (.iface 86 v) 50 83 true).run Tryz.prog w = .ok (.tuple #[.agg #[.int .i64 0], .bool false]) w := by kernel_rfl
theorem as_vv (v : Value) (w : World) : (Instr.typeAssert (.iface 86 v) 50 86 true).run Tryz.prog w = .ok (.tuple #[v, .bool true]) w := by kernel_rfl
theorem as_vc (v : Value) (w : World) : (Instr.typeAssert (.iface 86 v) 50 107 true).run Tryz.prog w = .ok (.tuple #[.agg #[.nilIface, .nilIface, .nilIface], .bool false]) w := by kernel_rfl
theorem as_vo (v : Value) (w : World) : (Instr.typeAssert (.iface 86 v) 50 94 true).run Tryz.prog w = .ok (.tuple #[.agg #[.int .i64 0, .slice none 0 0], .bool false]) w := by kernel_rfl
theorem as_cn (v : Value) (w : World) : (Instr.typeAssert (.iface 107 v) 50 83 true).run Tryz.prog w = .ok (.tuple #[.agg #[.int .i64 0], .bool false]) w := by kernel_rfl
theorem as_cv (v : Value) (w : World) : (Instr.typeAssert (.iface 107 v) 50 86 true).run Tryz.prog w = .ok (.tuple #[.agg #[.int .i64 0], .bool false]) w := by kernel_rfl
theorem as_cc (v : Value) (w : World) : (Instr.typeAssert (.iface 107 v) 50 107 true).run Tryz.prog w = .ok (.tuple #[v, .bool true]) w := by kernel_rfl
theorem as_co (v : Value) (w : World) : (Instr.typeAssert (.iface 107 v) 50 94 true).run Tryz.prog w = .ok (.tuple #[.agg #[.int .i64 0, .slice none 0 0], .bool false]) w := by kernel_rfl
theorem as_on (v : Value) (w : World) : (Instr.typeAssert (.iface 94 v) 50 83 true).run Tryz.prog w = .ok (.tuple #[.agg #[.int .i64 0], .bool false]) w := by kernel_rfl
theorem as_ov (v : Value) (w : World) : (Instr.typeAssert (.iface 94 v) 50 86 true).run Tryz.prog w = .ok (.tuple #[.agg #[.int .i64 0], .bool false]) w := by kernel_rfl
theorem as_oc (v : Value) (w : World) : (Instr.typeAssert (.iface 94 v) 50 107 true).run Tryz.prog w = .ok (.tuple #[.agg #[.nilIface, .nilIface, .nilIface], .bool false]) w := by kernel_rfl
theorem as_oo (v : Value) (w : World) : (Instr.typeAssert (.iface 94 v) 50 94 true).run Tryz.prog w = .ok (.tuple #[v, .bool true]) w := by kernel_rfl
end Go.Proofs.YtpjgjpjfchfmlaaGreatDoor
namespace Go.Proofs.YtpjgjpjfchfmlaaGreatDoor
open Go.ChangeShapes Go.WideShapes Go.ChangeAt Go.RowKit
set_option linter.unusedVariables false

theorem eqNd (a b c d : Int) (w : World) : (Op.equalIn 10000 77 (.agg #[.int .i64 a, .int .i64 b]) (.agg #[.int .i64 c, .int .i64 d])).run Tryz.prog w = .ok (a == c && b == d) w := by
  have hS : Tryz.prog.underlying 77 = some (.struct (Tryz.prog.fieldsOf 77)) := by kernel_rfl
  have hp : Tryz.prog.stoodInHeld 77 = false := by kernel_rfl
  rw [show (10000 : Nat) = 9999 + 1 from rfl, run_equalIn_agg w 9999 77 _ _ hS hp]
  simp only [Program.fieldsOf, Tryz.underlying77]
  go_simp
  by_cases h1 : a = c <;> by_cases h2 : b = d <;> simp [h1, h2]
theorem neqNd (a b : Int) (w : World) : (binOp .neq 77 (.agg #[.int .i64 a, .int .i64 b]) (.agg #[.int .i64 a, .int .i64 b])).run Tryz.prog w = .ok (.bool false) w := by
  rw [run_neq_struct, eqNd]
  simp
theorem guardNd : Tryz.prog.eqGuardType Tryz.prog.depth 77 = false := by kernel_rfl
set_option maxRecDepth 20000 in
theorem sameN_same (a b : Option Addr) (len cap cap' : Nat) (l : List (Int × Int)) (w : World) (h : NSl w a len l) (h' : NSl w b len l) (hn : len ≤ 1048576) :
    Calls Tryz.prog 24 #[.slice a len cap, .slice b len cap'] w fun e w' => e = .returned (.bool true) ∧ Below w.heap.size w w' := by
  have hne : ((len : Int) != len) = false := by simp
  go_enter Tryz.func24, Tryz.ntmps24
  go_wp2_with fail
  go_loopw [13] (fun i wr => ∃ (k : Nat), k ≤ len ∧ i = .int .i64 k ∧ Below w.heap.size w wr) (fun i _ => len - (intOf i).toNat)
  case atStart => exact ⟨0, Nat.zero_le _, rfl, Below.refl _ _⟩
  case round =>
    obtain ⟨k, hk, rfl, hbr⟩ := hrel
    by_cases hlt : k < len
    · obtain ⟨b1, off, rfl, hbl, hc⟩ := h.at (by omega)
      obtain ⟨b2, off', rfl, hbl', hc'⟩ := h'.at (by omega)
      have c1 := (hbr.cell (p := ⟨b1, off + k * 2, none⟩) hbl).trans (hc k hlt).1
      have c2 := (hbr.cell (p := ⟨b1, off + k * 2 + 1, none⟩) hbl).trans (hc k hlt).2
      have d1 := (hbr.cell (p := ⟨b2, off' + k * 2, none⟩) hbl').trans (hc' k hlt).1
      have d2 := (hbr.cell (p := ⟨b2, off' + k * 2 + 1, none⟩) hbl').trans (hc' k hlt).2
      clear hc hc' h h'
      generalize (l.getD k (0, 0)).1 = x at c1 d1
      generalize (l.getD k (0, 0)).2 = y at c2 d2
      have hlt' : (k : Int) < len := by omega
      have hq := fun W => neqNd x y W
      have hgd := guardNd
      go_wp2_with fail
      go_quiet (fail)
      have hbb := below_drawn hbr nq
      go_wp2
      go_roundw
      case rel => exact ⟨k + 1, by omega, by go_num, hbb⟩
      case measure => simp [intOf]; omega
    · go_wp2
      go_ret
      exact ⟨rfl, hbr⟩
end Go.Proofs.YtpjgjpjfchfmlaaGreatDoor
