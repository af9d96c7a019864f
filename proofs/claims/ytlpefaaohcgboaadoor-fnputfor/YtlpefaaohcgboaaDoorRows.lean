/-
  NARROWER THAN 'FOR EVERY INPUT', by the rows' own cells (each row's printed sentence says how): FnPutFor: laid · FnReplaced: laid · FnExactReplaceAt: laid · FnExactJoinTerm: laid.
  DERIVED. THE GIVEN ROWS OF THIS SEAT. 4 by the template 'for every input the law returns true; each argument reads behind the call as it read before'; 0 by the template 'total and deterministic' (their statements: YtlpefaaohcgboaaDoorTotals.lean).
  GIVEN WITH THE SEED: the statements are not yours to turn. If you find one false, say at which input.
  Laid BY PROGRAM, IN A SANDBOX (cutbox-rows.mjs): the forced cells as the released guide's own fill.sh prints them over the translation c728672789c67863… (all of the seat's roots in one cut). By AI agents, Wed Nov 11 2026. No macro, syntax, notation, axiom, sorry.
-/
import Derived.Test.YtlpefaaohcgboaaDoorChecked
import GoSem.Claim
import GoSem.ClaimJoined
import GoSem.ClaimMapViews
import Derived.JoinedTies
import Derived.KernelRfl
namespace Go.Proofs.YtlpefaaohcgboaaDoor
/- THE CELL 'sum', in the pinned program and in every row, IS THE sha256 OF THE DUMP (.gsa) THAT YtlpefaaohcgboaaDoorProg.lean LOADS. Nothing in Lean hashes anything: it is a label: what it is worth is what the hold of that sum in a sandbox is worth. -/
noncomputable def Tryd.pinned : Pinned := { name := "ytlpefaaohcgboaadoor", sum := "c728672789c67863ba0486f45092b82be3cbb9980c67f79ded91c26e57167c84", checked := Tryd.checked }
namespace Rows
def none {H : Type} : Left H := { results := [], args := [] }

/- WHAT THE LISTED PACKAGE-LEVEL VARIABLES READ AS WHEN THE CALL BEGINS. Each datum BY PROGRAM (the guide's laid-datum.mjs) off the statement by which the dump's own 'gosem.cut.vars' lays the variable. In a bare row this is a premise. The card (YtlpefaaohcgboaaDoorCards.lean) ties it to the program's text. -/
def laid_loop_example_g00694_impl_arities {H : Type} : DataW H := .agg [.lit (.int .i64 0), .lit (.int .i64 0), .lit (.int .i64 0), .lit (.int .i64 1), .lit (.int .i64 2), .lit (.int .i64 2), .lit (.int .i64 2), .lit (.int .i64 2), .lit (.int .i64 2), .lit (.int .i64 2), .lit (.int .i64 2), .lit (.int .i64 3)]

/-- 'laws.FnPutFor': WHATEVER THE INPUT: true; the input reads as it did. -/
def fnPutForSpec : ChangeSpec := { name := "fnPutFor", vars := ["loop.example/g00694/impl.arities"], fn := fun _ => fun
  | [d1, d2, g1] => { results := [.lit (.bool true)], args := [d1, d2], vars := [g1] }
  | _ => none }
def fnPutForRow : OpenClaim := { program := "ytlpefaaohcgboaadoor", sum := "c728672789c67863ba0486f45092b82be3cbb9980c67f79ded91c26e57167c84", func := "loop.example/g00694/laws.FnPutFor", spec := "fnPutFor", unfollowed := true, recurses := true, named := ["loop.example/g00694/impl.arities"], apart := false, laid := [("loop.example/g00694/impl.arities", laid_loop_example_g00694_impl_arities)] }
def FnPutForSaid : Prop := fnPutForRow.holds Tryd.pinned (OpenSpec.ofChange fnPutForSpec)

/-- ITS FALSE NEIGHBOUR: 'it returns false'. Refute it at one input. -/
def fnPutForWrong : ChangeSpec := { name := "fnPutFor", vars := ["loop.example/g00694/impl.arities"], fn := fun _ => fun
  | [d1, d2, g1] => { results := [.lit (.bool false)], args := [d1, d2], vars := [g1] }
  | _ => none }
def FnPutForWrongFalsely : Prop := fnPutForRow.holds Tryd.pinned (OpenSpec.ofChange fnPutForWrong)

/-- 'laws.FnReplaced': WHATEVER THE INPUT: true; the input reads as it did. -/
def fnReplacedSpec : ChangeSpec := { name := "fnReplaced", vars := ["loop.example/g00694/impl.arities"], fn := fun _ => fun
  | [d1, d2, g1] => { results := [.lit (.bool true)], args := [d1, d2], vars := [g1] }
  | _ => none }
def fnReplacedRow : OpenClaim := { program := "ytlpefaaohcgboaadoor", sum := "c728672789c67863ba0486f45092b82be3cbb9980c67f79ded91c26e57167c84", func := "loop.example/g00694/laws.FnReplaced", spec := "fnReplaced", recurses := true, named := ["loop.example/g00694/impl.arities"], apart := false, laid := [("loop.example/g00694/impl.arities", laid_loop_example_g00694_impl_arities)] }
def FnReplacedSaid : Prop := fnReplacedRow.holds Tryd.pinned (OpenSpec.ofChange fnReplacedSpec)

/-- ITS FALSE NEIGHBOUR: 'it returns false'. Refute it at one input. -/
def fnReplacedWrong : ChangeSpec := { name := "fnReplaced", vars := ["loop.example/g00694/impl.arities"], fn := fun _ => fun
  | [d1, d2, g1] => { results := [.lit (.bool false)], args := [d1, d2], vars := [g1] }
  | _ => none }
def FnReplacedWrongFalsely : Prop := fnReplacedRow.holds Tryd.pinned (OpenSpec.ofChange fnReplacedWrong)

/-- 'laws.FnExactReplaceAt': WHATEVER THE INPUT: true; the input reads as it did. -/
def fnExactReplaceAtSpec : ChangeSpec := { name := "fnExactReplaceAt", vars := ["loop.example/g00694/impl.arities"], fn := fun _ => fun
  | [d1, d2, d3, g1] => { results := [.lit (.bool true)], args := [d1, d2, d3], vars := [g1] }
  | _ => none }
def fnExactReplaceAtRow : OpenClaim := { program := "ytlpefaaohcgboaadoor", sum := "c728672789c67863ba0486f45092b82be3cbb9980c67f79ded91c26e57167c84", func := "loop.example/g00694/laws.FnExactReplaceAt", spec := "fnExactReplaceAt", recurses := true, named := ["loop.example/g00694/impl.arities"], apart := false, laid := [("loop.example/g00694/impl.arities", laid_loop_example_g00694_impl_arities)] }
def FnExactReplaceAtSaid : Prop := fnExactReplaceAtRow.holds Tryd.pinned (OpenSpec.ofChange fnExactReplaceAtSpec)

/-- ITS FALSE NEIGHBOUR: 'it returns false'. Refute it at one input. -/
def fnExactReplaceAtWrong : ChangeSpec := { name := "fnExactReplaceAt", vars := ["loop.example/g00694/impl.arities"], fn := fun _ => fun
  | [d1, d2, d3, g1] => { results := [.lit (.bool false)], args := [d1, d2, d3], vars := [g1] }
  | _ => none }
def FnExactReplaceAtWrongFalsely : Prop := fnExactReplaceAtRow.holds Tryd.pinned (OpenSpec.ofChange fnExactReplaceAtWrong)

/-- 'laws.FnExactJoinTerm': WHATEVER THE INPUT: true; the input reads as it did. -/
def fnExactJoinTermSpec : ChangeSpec := { name := "fnExactJoinTerm", vars := ["loop.example/g00694/impl.arities"], fn := fun _ => fun
  | [d1, d2, g1] => { results := [.lit (.bool true)], args := [d1, d2], vars := [g1] }
  | _ => none }
def fnExactJoinTermRow : OpenClaim := { program := "ytlpefaaohcgboaadoor", sum := "c728672789c67863ba0486f45092b82be3cbb9980c67f79ded91c26e57167c84", func := "loop.example/g00694/laws.FnExactJoinTerm", spec := "fnExactJoinTerm", named := ["loop.example/g00694/impl.arities"], apart := false, laid := [("loop.example/g00694/impl.arities", laid_loop_example_g00694_impl_arities)] }
def FnExactJoinTermSaid : Prop := fnExactJoinTermRow.holds Tryd.pinned (OpenSpec.ofChange fnExactJoinTermSpec)

/-- ITS FALSE NEIGHBOUR: 'it returns false'. Refute it at one input. -/
def fnExactJoinTermWrong : ChangeSpec := { name := "fnExactJoinTerm", vars := ["loop.example/g00694/impl.arities"], fn := fun _ => fun
  | [d1, d2, g1] => { results := [.lit (.bool false)], args := [d1, d2], vars := [g1] }
  | _ => none }
def FnExactJoinTermWrongFalsely : Prop := fnExactJoinTermRow.holds Tryd.pinned (OpenSpec.ofChange fnExactJoinTermWrong)

/- THE SECOND FORM. 'bulk': how many values and letters a reading holds, each counted each time it is reached (what is shared counts as often as it is met; a slice's spare places count too). A statement '..UptoSaid' is the law's where the arguments, and the package variables that the reading takes, are together of bulk at most 1048576: NARROWER than '..Said'. Prove '..Said' where nothing that the law and all that it calls make is longer than what came in: it says more and counts as full. Else prove '..UptoSaid'. A law counts once. -/
mutual
def uptoBulk {H : Type} : DataW H → Nat
  | .lit (.string bytes) => bytes.length + 1
  | .lit _ => 1
  | .nil => 1
  | .ptr d => uptoBulk d + 1
  | .slice elems spare => uptoBulkAll elems + uptoBulkAll spare + 1
  | .agg parts => uptoBulkAll parts + 1
  | .iface _ d => uptoBulk d + 1
  | .map entries => uptoBulkEntries entries + 1
  | .held _ => 1
def uptoBulkAll {H : Type} : List (DataW H) → Nat
  | [] => 0
  | d :: r => uptoBulk d + uptoBulkAll r
def uptoBulkEntries {H : Type} : List (Lit × DataW H) → Nat
  | [] => 0
  | x :: r => uptoBulkEntry x + uptoBulkEntries r
def uptoBulkEntry {H : Type} : Lit × DataW H → Nat
  | (.string bytes, d) => bytes.length + uptoBulk d + 1
  | (_, d) => uptoBulk d + 1
 end
def uptoSmall : (H : Type) → List (DataW H) → Bool := fun _ ds => decide (uptoBulkAll ds ≤ 1048576)
def OpenSpec.upto (s : _root_.Go.ChangeSpec) : _root_.Go.OpenSpec := { _root_.Go.OpenSpec.ofChange s with cond := some uptoSmall }

/-- 'laws.FnPutFor', WHERE WHAT IT READS IS OF BULK AT MOST 1048576: true; the input reads as it did. -/
def fnPutForUptoRow : OpenClaim := { program := "ytlpefaaohcgboaadoor", sum := "c728672789c67863ba0486f45092b82be3cbb9980c67f79ded91c26e57167c84", func := "loop.example/g00694/laws.FnPutFor", spec := "fnPutFor", unfollowed := true, recurses := true, named := ["loop.example/g00694/impl.arities"], apart := false, laid := [("loop.example/g00694/impl.arities", laid_loop_example_g00694_impl_arities)], narrowed := true }
def FnPutForUptoSaid : Prop := fnPutForUptoRow.holds Tryd.pinned (OpenSpec.upto fnPutForSpec)

/-- 'laws.FnReplaced', WHERE WHAT IT READS IS OF BULK AT MOST 1048576: true; the input reads as it did. -/
def fnReplacedUptoRow : OpenClaim := { program := "ytlpefaaohcgboaadoor", sum := "c728672789c67863ba0486f45092b82be3cbb9980c67f79ded91c26e57167c84", func := "loop.example/g00694/laws.FnReplaced", spec := "fnReplaced", recurses := true, named := ["loop.example/g00694/impl.arities"], apart := false, laid := [("loop.example/g00694/impl.arities", laid_loop_example_g00694_impl_arities)], narrowed := true }
def FnReplacedUptoSaid : Prop := fnReplacedUptoRow.holds Tryd.pinned (OpenSpec.upto fnReplacedSpec)

/-- 'laws.FnExactReplaceAt', WHERE WHAT IT READS IS OF BULK AT MOST 1048576: true; the input reads as it did. -/
def fnExactReplaceAtUptoRow : OpenClaim := { program := "ytlpefaaohcgboaadoor", sum := "c728672789c67863ba0486f45092b82be3cbb9980c67f79ded91c26e57167c84", func := "loop.example/g00694/laws.FnExactReplaceAt", spec := "fnExactReplaceAt", recurses := true, named := ["loop.example/g00694/impl.arities"], apart := false, laid := [("loop.example/g00694/impl.arities", laid_loop_example_g00694_impl_arities)], narrowed := true }
def FnExactReplaceAtUptoSaid : Prop := fnExactReplaceAtUptoRow.holds Tryd.pinned (OpenSpec.upto fnExactReplaceAtSpec)

/-- 'laws.FnExactJoinTerm', WHERE WHAT IT READS IS OF BULK AT MOST 1048576: true; the input reads as it did. -/
def fnExactJoinTermUptoRow : OpenClaim := { program := "ytlpefaaohcgboaadoor", sum := "c728672789c67863ba0486f45092b82be3cbb9980c67f79ded91c26e57167c84", func := "loop.example/g00694/laws.FnExactJoinTerm", spec := "fnExactJoinTerm", named := ["loop.example/g00694/impl.arities"], apart := false, laid := [("loop.example/g00694/impl.arities", laid_loop_example_g00694_impl_arities)], narrowed := true }
def FnExactJoinTermUptoSaid : Prop := fnExactJoinTermUptoRow.holds Tryd.pinned (OpenSpec.upto fnExactJoinTermSpec)

end Rows
end Go.Proofs.YtlpefaaohcgboaaDoor
