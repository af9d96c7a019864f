/-
  PROVED HERE: what a type assertion of one of the four kinds of trees gives. No condition.
-/
import Derived.Test.YtbchehpggoampaaDoorSteps
namespace Go.Proofs.YtbchehpggoampaaDoor
set_option linter.unusedVariables false

theorem as_nn (v : Value) (w : World) : (Instr.typeAssert (.iface 97 v) 86 97 true).run Tryd.prog w = .ok (.tuple #[v, .bool true]) w := by kernel_rfl
theorem as_nv (v : Value) (w : World) : (Instr.typeAssert (.iface 97 v) 86 99 true).run Tryd.prog w = .ok (.tuple #[.agg #[.int .i64 0], .bool false]) w := by kernel_rfl
theorem as_nc (v : Value) (w : World) : (Instr.typeAssert (.iface 97 v) 86 101 true).run Tryd.prog w = .ok (.tuple #[.agg #[.nilIface, .nilIface, .nilIface], .bool false]) w := by kernel_rfl
theorem as_no (v : Value) (w : World) : (Instr.typeAssert (.iface 97 v) 86 104 true).run Tryd.prog w = .ok (.tuple #[.agg #[.int .i64 0, .slice none 0 0], .bool false]) w := by kernel_rfl
theorem as_vn (v : Value) (w : World) : (Instr.typeAssert (.iface 99 v) 86 97 true).run Tryd.prog w = .ok (.tuple #[.agg #[.int .i64 0], .bool false]) w := by kernel_rfl
theorem as_vv (v : Value) (w : World) : (Instr.typeAssert (.iface 99 v) 86 99 true).run Tryd.prog w = .ok (.tuple #[v, .bool true]) w := by kernel_rfl
theorem as_vc (v : Value) (w : World) : (Instr.typeAssert (.iface 99 v) 86 101 true).run Tryd.prog w = .ok (.tuple #[.agg #[.nilIface, .nilIface, .nilIface], .bool false]) w := by kernel_rfl
theorem as_vo (v : Value) (w : World) : (Instr.typeAssert (.iface 99 v) 86 104 true).run Tryd.prog w = .ok (.tuple #[.agg #[.int .i64 0, .slice none 0 0], .bool false]) w := by kernel_rfl
theorem as_cn (v : Value) (w : World) : (Instr.typeAssert (.iface 101 v) 86 97 true).run Tryd.prog w = .ok (.tuple #[.agg #[.int .i64 0], .bool false]) w := by kernel_rfl
theorem as_cv (v : Value) (w : World) : (Instr.typeAssert (.iface 101 v) 86 99 true).run Tryd.prog w = .ok (.tuple #[.agg #[.int .i64 0], .bool false]) w := by kernel_rfl
theorem as_cc (v : Value) (w : World) : (Instr.typeAssert (.iface 101 v) 86 101 true).run Tryd.prog w = .ok (.tuple #[v, .bool true]) w := by kernel_rfl
theorem as_co (v : Value) (w : World) : (Instr.typeAssert (.iface 101 v) 86 104 true).run Tryd.prog w = .ok (.tuple #[.agg #[.int .i64 0, .slice none 0 0], .bool false]) w := by kernel_rfl
theorem as_on (v : Value) (w : World) : (Instr.typeAssert (.iface 104 v) 86 97 true).run Tryd.prog w = .ok (.tuple #[.agg #[.int .i64 0], .bool false]) w := by kernel_rfl
theorem as_ov (v : Value) (w : World) : (Instr.typeAssert (.iface 104 v) 86 99 true).run Tryd.prog w = .ok (.tuple #[.agg #[.int .i64 0], .bool false]) w := by kernel_rfl
theorem as_oc (v : Value) (w : World) : (Instr.typeAssert (.iface 104 v) 86 101 true).run Tryd.prog w = .ok (.tuple #[.agg #[.nilIface, .nilIface, .nilIface], .bool false]) w := by kernel_rfl
theorem as_oo (v : Value) (w : World) : (Instr.typeAssert (.iface 104 v) 86 104 true).run Tryd.prog w = .ok (.tuple #[v, .bool true]) w := by kernel_rfl
end Go.Proofs.YtbchehpggoampaaDoor
