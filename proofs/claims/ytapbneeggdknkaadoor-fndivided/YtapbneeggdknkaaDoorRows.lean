/-
  NARROWER THAN 'FOR EVERY INPUT', by the rows' own cells (each row's printed sentence says how): FnWrap: laid · FnDivided: laid · FnExactArityOf: laid · FnExactDoOp: laid.
  DERIVED. THE GIVEN ROWS OF THIS SEAT. 4 by the template 'for every input the law returns true; each argument reads behind the call as it read before'; 0 by the template 'total and deterministic' (their statements: YtapbneeggdknkaaDoorTotals.lean).
  GIVEN WITH THE SEED: the statements are not yours to turn. If you find one false, say at which input.
  Laid BY PROGRAM, IN A SANDBOX (cutbox-rows.mjs): the forced cells as the released guide's own fill.sh prints them over the translation 506c5a98e4accbd2… (all of the seat's roots in one cut). By AI agents, Wed Nov 11 2026. No macro, syntax, notation, axiom, sorry.
-/
import Derived.Test.YtapbneeggdknkaaDoorChecked
import GoSem.Claim
import GoSem.ClaimJoined
import GoSem.ClaimMapViews
import Derived.JoinedTies
import Derived.KernelRfl
namespace Go.Proofs.YtapbneeggdknkaaDoor
/- THE CELL 'sum', in the pinned program and in every row, IS THE sha256 OF THE DUMP (.gsa) THAT YtapbneeggdknkaaDoorProg.lean LOADS. Nothing in Lean hashes anything: it is a label: what it is worth is what the hold of that sum in a sandbox is worth. -/
noncomputable def Tryd.pinned : Pinned := { name := "ytapbneeggdknkaadoor", sum := "506c5a98e4accbd257d52172fd1e4e6fb0c833491a743c231df3fa3748e62f64", checked := Tryd.checked }
namespace Rows
def none {H : Type} : Left H := { results := [], args := [] }

/- WHAT THE LISTED PACKAGE-LEVEL VARIABLES READ AS WHEN THE CALL BEGINS. Each datum BY PROGRAM (the guide's laid-datum.mjs) off the statement by which the dump's own 'gosem.cut.vars' lays the variable. In a bare row this is a premise. The card (YtapbneeggdknkaaDoorCards.lean) ties it to the program's text. -/
def laid_loop_example_g00694_impl_arities {H : Type} : DataW H := .agg [.lit (.int .i64 0), .lit (.int .i64 0), .lit (.int .i64 0), .lit (.int .i64 1), .lit (.int .i64 2), .lit (.int .i64 2), .lit (.int .i64 2), .lit (.int .i64 2), .lit (.int .i64 2), .lit (.int .i64 2), .lit (.int .i64 2), .lit (.int .i64 3)]

/-- 'laws.FnWrap': WHATEVER THE INPUT: true; the input reads as it did. -/
def fnWrapSpec : ChangeSpec := { name := "fnWrap", vars := ["loop.example/g00694/impl.arities"], fn := fun _ => fun
  | [d1, d2, g1] => { results := [.lit (.bool true)], args := [d1, d2], vars := [g1] }
  | _ => none }
def fnWrapRow : OpenClaim := { program := "ytapbneeggdknkaadoor", sum := "506c5a98e4accbd257d52172fd1e4e6fb0c833491a743c231df3fa3748e62f64", func := "loop.example/g00694/laws.FnWrap", spec := "fnWrap", named := ["loop.example/g00694/impl.arities"], apart := false, laid := [("loop.example/g00694/impl.arities", laid_loop_example_g00694_impl_arities)] }
def FnWrapSaid : Prop := fnWrapRow.holds Tryd.pinned (OpenSpec.ofChange fnWrapSpec)

/-- ITS FALSE NEIGHBOUR: 'it returns false'. Refute it at one input. -/
def fnWrapWrong : ChangeSpec := { name := "fnWrap", vars := ["loop.example/g00694/impl.arities"], fn := fun _ => fun
  | [d1, d2, g1] => { results := [.lit (.bool false)], args := [d1, d2], vars := [g1] }
  | _ => none }
def FnWrapWrongFalsely : Prop := fnWrapRow.holds Tryd.pinned (OpenSpec.ofChange fnWrapWrong)

/-- 'laws.FnDivided': WHATEVER THE INPUT: true; the input reads as it did. -/
def fnDividedSpec : ChangeSpec := { name := "fnDivided", vars := ["loop.example/g00694/impl.arities"], fn := fun _ => fun
  | [d1, d2, g1] => { results := [.lit (.bool true)], args := [d1, d2], vars := [g1] }
  | _ => none }
def fnDividedRow : OpenClaim := { program := "ytapbneeggdknkaadoor", sum := "506c5a98e4accbd257d52172fd1e4e6fb0c833491a743c231df3fa3748e62f64", func := "loop.example/g00694/laws.FnDivided", spec := "fnDivided", named := ["loop.example/g00694/impl.arities"], apart := false, laid := [("loop.example/g00694/impl.arities", laid_loop_example_g00694_impl_arities)] }
def FnDividedSaid : Prop := fnDividedRow.holds Tryd.pinned (OpenSpec.ofChange fnDividedSpec)

/-- ITS FALSE NEIGHBOUR: 'it returns false'. Refute it at one input. -/
def fnDividedWrong : ChangeSpec := { name := "fnDivided", vars := ["loop.example/g00694/impl.arities"], fn := fun _ => fun
  | [d1, d2, g1] => { results := [.lit (.bool false)], args := [d1, d2], vars := [g1] }
  | _ => none }
def FnDividedWrongFalsely : Prop := fnDividedRow.holds Tryd.pinned (OpenSpec.ofChange fnDividedWrong)

/-- 'laws.FnExactArityOf': WHATEVER THE INPUT: true; the input reads as it did. -/
def fnExactArityOfSpec : ChangeSpec := { name := "fnExactArityOf", vars := ["loop.example/g00694/impl.arities"], fn := fun _ => fun
  | [d, g1] => { results := [.lit (.bool true)], args := [d], vars := [g1] }
  | _ => none }
def fnExactArityOfRow : OpenClaim := { program := "ytapbneeggdknkaadoor", sum := "506c5a98e4accbd257d52172fd1e4e6fb0c833491a743c231df3fa3748e62f64", func := "loop.example/g00694/laws.FnExactArityOf", spec := "fnExactArityOf", named := ["loop.example/g00694/impl.arities"], apart := false, laid := [("loop.example/g00694/impl.arities", laid_loop_example_g00694_impl_arities)] }
def FnExactArityOfSaid : Prop := fnExactArityOfRow.holds Tryd.pinned (OpenSpec.ofChange fnExactArityOfSpec)

/-- ITS FALSE NEIGHBOUR: 'it returns false'. Refute it at one input. -/
def fnExactArityOfWrong : ChangeSpec := { name := "fnExactArityOf", vars := ["loop.example/g00694/impl.arities"], fn := fun _ => fun
  | [d, g1] => { results := [.lit (.bool false)], args := [d], vars := [g1] }
  | _ => none }
def FnExactArityOfWrongFalsely : Prop := fnExactArityOfRow.holds Tryd.pinned (OpenSpec.ofChange fnExactArityOfWrong)

/-- 'laws.FnExactDoOp': WHATEVER THE INPUT: true; the input reads as it did. -/
def fnExactDoOpSpec : ChangeSpec := { name := "fnExactDoOp", vars := ["loop.example/g00694/impl.arities"], fn := fun _ => fun
  | [d1, d2, g1] => { results := [.lit (.bool true)], args := [d1, d2], vars := [g1] }
  | _ => none }
def fnExactDoOpRow : OpenClaim := { program := "ytapbneeggdknkaadoor", sum := "506c5a98e4accbd257d52172fd1e4e6fb0c833491a743c231df3fa3748e62f64", func := "loop.example/g00694/laws.FnExactDoOp", spec := "fnExactDoOp", named := ["loop.example/g00694/impl.arities"], apart := false, laid := [("loop.example/g00694/impl.arities", laid_loop_example_g00694_impl_arities)] }
def FnExactDoOpSaid : Prop := fnExactDoOpRow.holds Tryd.pinned (OpenSpec.ofChange fnExactDoOpSpec)

/-- ITS FALSE NEIGHBOUR: 'it returns false'. Refute it at one input. -/
def fnExactDoOpWrong : ChangeSpec := { name := "fnExactDoOp", vars := ["loop.example/g00694/impl.arities"], fn := fun _ => fun
  | [d1, d2, g1] => { results := [.lit (.bool false)], args := [d1, d2], vars := [g1] }
  | _ => none }
def FnExactDoOpWrongFalsely : Prop := fnExactDoOpRow.holds Tryd.pinned (OpenSpec.ofChange fnExactDoOpWrong)

/- THE SECOND FORM. 'bulk': how many values and letters a reading holds, each counted each time it is reached (what is shared counts as often as it is met; a slice's spare places count too). A statement '..UptoSaid' is the law's where the arguments, and the package variables that the reading takes, are together of bulk at most 1048576: NARROWER than '..Said'. Prove '..Said' where nothing that the law and all that it calls make is longer than what came in: it says more and counts as full. Else prove '..UptoSaid'. A law counts once. -/
mutual
def uptoBulk {H : Type} : DataW H → Nat
  | .lit (.string bytes) => bytes.length + 1
  | .lit _ => 1
  | .nil => 1
  | .ptr d => uptoBulk d + 1
  | .slice elems spare => uptoBulkAll elems + uptoBulkAll spare + 1
  | .agg parts => uptoBulkAll parts + 1
  | .iface _ d => uptoBulk d + 1
  | .map entries => uptoBulkEntries entries + 1
  | .held _ => 1
def uptoBulkAll {H : Type} : List (DataW H) → Nat
  | [] => 0
  | d :: r => uptoBulk d + uptoBulkAll r
def uptoBulkEntries {H : Type} : List (Lit × DataW H) → Nat
  | [] => 0
  | x :: r => uptoBulkEntry x + uptoBulkEntries r
def uptoBulkEntry {H : Type} : Lit × DataW H → Nat
  | (.string bytes, d) => bytes.length + uptoBulk d + 1
  | (_, d) => uptoBulk d + 1
 end
def uptoSmall : (H : Type) → List (DataW H) → Bool := fun _ ds => decide (uptoBulkAll ds ≤ 1048576)
def OpenSpec.upto (s : _root_.Go.ChangeSpec) : _root_.Go.OpenSpec := { _root_.Go.OpenSpec.ofChange s with cond := some uptoSmall }

/-- 'laws.FnWrap', WHERE WHAT IT READS IS OF BULK AT MOST 1048576: true; the input reads as it did. -/
def fnWrapUptoRow : OpenClaim := { program := "ytapbneeggdknkaadoor", sum := "506c5a98e4accbd257d52172fd1e4e6fb0c833491a743c231df3fa3748e62f64", func := "loop.example/g00694/laws.FnWrap", spec := "fnWrap", named := ["loop.example/g00694/impl.arities"], apart := false, laid := [("loop.example/g00694/impl.arities", laid_loop_example_g00694_impl_arities)], narrowed := true }
def FnWrapUptoSaid : Prop := fnWrapUptoRow.holds Tryd.pinned (OpenSpec.upto fnWrapSpec)

/-- 'laws.FnDivided', WHERE WHAT IT READS IS OF BULK AT MOST 1048576: true; the input reads as it did. -/
def fnDividedUptoRow : OpenClaim := { program := "ytapbneeggdknkaadoor", sum := "506c5a98e4accbd257d52172fd1e4e6fb0c833491a743c231df3fa3748e62f64", func := "loop.example/g00694/laws.FnDivided", spec := "fnDivided", named := ["loop.example/g00694/impl.arities"], apart := false, laid := [("loop.example/g00694/impl.arities", laid_loop_example_g00694_impl_arities)], narrowed := true }
def FnDividedUptoSaid : Prop := fnDividedUptoRow.holds Tryd.pinned (OpenSpec.upto fnDividedSpec)

/-- 'laws.FnExactArityOf', WHERE WHAT IT READS IS OF BULK AT MOST 1048576: true; the input reads as it did. -/
def fnExactArityOfUptoRow : OpenClaim := { program := "ytapbneeggdknkaadoor", sum := "506c5a98e4accbd257d52172fd1e4e6fb0c833491a743c231df3fa3748e62f64", func := "loop.example/g00694/laws.FnExactArityOf", spec := "fnExactArityOf", named := ["loop.example/g00694/impl.arities"], apart := false, laid := [("loop.example/g00694/impl.arities", laid_loop_example_g00694_impl_arities)], narrowed := true }
def FnExactArityOfUptoSaid : Prop := fnExactArityOfUptoRow.holds Tryd.pinned (OpenSpec.upto fnExactArityOfSpec)

/-- 'laws.FnExactDoOp', WHERE WHAT IT READS IS OF BULK AT MOST 1048576: true; the input reads as it did. -/
def fnExactDoOpUptoRow : OpenClaim := { program := "ytapbneeggdknkaadoor", sum := "506c5a98e4accbd257d52172fd1e4e6fb0c833491a743c231df3fa3748e62f64", func := "loop.example/g00694/laws.FnExactDoOp", spec := "fnExactDoOp", named := ["loop.example/g00694/impl.arities"], apart := false, laid := [("loop.example/g00694/impl.arities", laid_loop_example_g00694_impl_arities)], narrowed := true }
def FnExactDoOpUptoSaid : Prop := fnExactDoOpUptoRow.holds Tryd.pinned (OpenSpec.upto fnExactDoOpSpec)

end Rows
end Go.Proofs.YtapbneeggdknkaaDoor
