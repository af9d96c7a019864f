/-
  NARROWER THAN 'FOR EVERY INPUT', by the rows' own cells (each row's printed sentence says how): FnExactGoodTerm: laid · FnExactEvalTerm: laid · FnExactVarsIn: laid · FnExactSureVars: laid · FnExactPutAll: laid · FnExactPartAt: laid.
  DERIVED. THE GIVEN ROWS OF THIS SEAT. 6 by the template 'for every input the law returns true; each argument reads behind the call as it read before'; 0 by the template 'total and deterministic' (their statements: YtoppbchacdpenaaDoorTotals.lean).
  GIVEN WITH THE SEED: the statements are not yours to turn. If you find one false, say at which input.
  Laid BY PROGRAM, IN A SANDBOX (cutbox-rows.mjs): the forced cells as the released guide's own fill.sh prints them over the translation 5f61c2c7bb2681b1… (all of the seat's roots in one cut). By AI agents, Wed Nov 11 2026. No macro, syntax, notation, axiom, sorry.
-/
import Derived.Test.YtoppbchacdpenaaDoorChecked
import GoSem.Claim
import GoSem.ClaimJoined
import GoSem.ClaimMapViews
import Derived.JoinedTies
import Derived.KernelRfl
namespace Go.Proofs.YtoppbchacdpenaaDoor
/- THE CELL 'sum', in the pinned program and in every row, IS THE sha256 OF THE DUMP (.gsa) THAT YtoppbchacdpenaaDoorProg.lean LOADS. Nothing in Lean hashes anything: it is a label: what it is worth is what the hold of that sum in a sandbox is worth. -/
noncomputable def Tryd.pinned : Pinned := { name := "ytoppbchacdpenaadoor", sum := "5f61c2c7bb2681b1cc4866edae30e66960e7cd535010fcbe2e2f06f64e90ca0d", checked := Tryd.checked }
namespace Rows
def none {H : Type} : Left H := { results := [], args := [] }

/- WHAT THE LISTED PACKAGE-LEVEL VARIABLES READ AS WHEN THE CALL BEGINS. Each datum BY PROGRAM (the guide's laid-datum.mjs) off the statement by which the dump's own 'gosem.cut.vars' lays the variable. In a bare row this is a premise. The card (YtoppbchacdpenaaDoorCards.lean) ties it to the program's text. -/
def laid_loop_example_g00694_impl_arities {H : Type} : DataW H := .agg [.lit (.int .i64 0), .lit (.int .i64 0), .lit (.int .i64 0), .lit (.int .i64 1), .lit (.int .i64 2), .lit (.int .i64 2), .lit (.int .i64 2), .lit (.int .i64 2), .lit (.int .i64 2), .lit (.int .i64 2), .lit (.int .i64 2), .lit (.int .i64 3)]

/-- 'laws.FnExactGoodTerm': WHATEVER THE INPUT: true; the input reads as it did. -/
def fnExactGoodTermSpec : ChangeSpec := { name := "fnExactGoodTerm", vars := ["loop.example/g00694/impl.arities"], fn := fun _ => fun
  | [d, g1] => { results := [.lit (.bool true)], args := [d], vars := [g1] }
  | _ => none }
def fnExactGoodTermRow : OpenClaim := { program := "ytoppbchacdpenaadoor", sum := "5f61c2c7bb2681b1cc4866edae30e66960e7cd535010fcbe2e2f06f64e90ca0d", func := "loop.example/g00694/laws.FnExactGoodTerm", spec := "fnExactGoodTerm", named := ["loop.example/g00694/impl.arities"], apart := false, laid := [("loop.example/g00694/impl.arities", laid_loop_example_g00694_impl_arities)] }
def FnExactGoodTermSaid : Prop := fnExactGoodTermRow.holds Tryd.pinned (OpenSpec.ofChange fnExactGoodTermSpec)

/-- ITS FALSE NEIGHBOUR: 'it returns false'. Refute it at one input. -/
def fnExactGoodTermWrong : ChangeSpec := { name := "fnExactGoodTerm", vars := ["loop.example/g00694/impl.arities"], fn := fun _ => fun
  | [d, g1] => { results := [.lit (.bool false)], args := [d], vars := [g1] }
  | _ => none }
def FnExactGoodTermWrongFalsely : Prop := fnExactGoodTermRow.holds Tryd.pinned (OpenSpec.ofChange fnExactGoodTermWrong)

/-- 'laws.FnExactEvalTerm': WHATEVER THE INPUT: true; the input reads as it did. -/
def fnExactEvalTermSpec : ChangeSpec := { name := "fnExactEvalTerm", vars := ["loop.example/g00694/impl.arities"], fn := fun _ => fun
  | [d1, d2, g1] => { results := [.lit (.bool true)], args := [d1, d2], vars := [g1] }
  | _ => none }
def fnExactEvalTermRow : OpenClaim := { program := "ytoppbchacdpenaadoor", sum := "5f61c2c7bb2681b1cc4866edae30e66960e7cd535010fcbe2e2f06f64e90ca0d", func := "loop.example/g00694/laws.FnExactEvalTerm", spec := "fnExactEvalTerm", recurses := true, named := ["loop.example/g00694/impl.arities"], apart := false, laid := [("loop.example/g00694/impl.arities", laid_loop_example_g00694_impl_arities)] }
def FnExactEvalTermSaid : Prop := fnExactEvalTermRow.holds Tryd.pinned (OpenSpec.ofChange fnExactEvalTermSpec)

/-- ITS FALSE NEIGHBOUR: 'it returns false'. Refute it at one input. -/
def fnExactEvalTermWrong : ChangeSpec := { name := "fnExactEvalTerm", vars := ["loop.example/g00694/impl.arities"], fn := fun _ => fun
  | [d1, d2, g1] => { results := [.lit (.bool false)], args := [d1, d2], vars := [g1] }
  | _ => none }
def FnExactEvalTermWrongFalsely : Prop := fnExactEvalTermRow.holds Tryd.pinned (OpenSpec.ofChange fnExactEvalTermWrong)

/-- 'laws.FnExactVarsIn': WHATEVER THE INPUT: true; the input reads as it did. -/
def fnExactVarsInSpec : ChangeSpec := { name := "fnExactVarsIn", vars := ["loop.example/g00694/impl.arities"], fn := fun _ => fun
  | [d, g1] => { results := [.lit (.bool true)], args := [d], vars := [g1] }
  | _ => none }
def fnExactVarsInRow : OpenClaim := { program := "ytoppbchacdpenaadoor", sum := "5f61c2c7bb2681b1cc4866edae30e66960e7cd535010fcbe2e2f06f64e90ca0d", func := "loop.example/g00694/laws.FnExactVarsIn", spec := "fnExactVarsIn", named := ["loop.example/g00694/impl.arities"], apart := false, laid := [("loop.example/g00694/impl.arities", laid_loop_example_g00694_impl_arities)] }
def FnExactVarsInSaid : Prop := fnExactVarsInRow.holds Tryd.pinned (OpenSpec.ofChange fnExactVarsInSpec)

/-- ITS FALSE NEIGHBOUR: 'it returns false'. Refute it at one input. -/
def fnExactVarsInWrong : ChangeSpec := { name := "fnExactVarsIn", vars := ["loop.example/g00694/impl.arities"], fn := fun _ => fun
  | [d, g1] => { results := [.lit (.bool false)], args := [d], vars := [g1] }
  | _ => none }
def FnExactVarsInWrongFalsely : Prop := fnExactVarsInRow.holds Tryd.pinned (OpenSpec.ofChange fnExactVarsInWrong)

/-- 'laws.FnExactSureVars': WHATEVER THE INPUT: true; the input reads as it did. -/
def fnExactSureVarsSpec : ChangeSpec := { name := "fnExactSureVars", vars := ["loop.example/g00694/impl.arities"], fn := fun _ => fun
  | [d, g1] => { results := [.lit (.bool true)], args := [d], vars := [g1] }
  | _ => none }
def fnExactSureVarsRow : OpenClaim := { program := "ytoppbchacdpenaadoor", sum := "5f61c2c7bb2681b1cc4866edae30e66960e7cd535010fcbe2e2f06f64e90ca0d", func := "loop.example/g00694/laws.FnExactSureVars", spec := "fnExactSureVars", unfollowed := true, recurses := true, named := ["loop.example/g00694/impl.arities"], apart := false, laid := [("loop.example/g00694/impl.arities", laid_loop_example_g00694_impl_arities)] }
def FnExactSureVarsSaid : Prop := fnExactSureVarsRow.holds Tryd.pinned (OpenSpec.ofChange fnExactSureVarsSpec)

/-- ITS FALSE NEIGHBOUR: 'it returns false'. Refute it at one input. -/
def fnExactSureVarsWrong : ChangeSpec := { name := "fnExactSureVars", vars := ["loop.example/g00694/impl.arities"], fn := fun _ => fun
  | [d, g1] => { results := [.lit (.bool false)], args := [d], vars := [g1] }
  | _ => none }
def FnExactSureVarsWrongFalsely : Prop := fnExactSureVarsRow.holds Tryd.pinned (OpenSpec.ofChange fnExactSureVarsWrong)

/-- 'laws.FnExactPutAll': WHATEVER THE INPUT: true; the input reads as it did. -/
def fnExactPutAllSpec : ChangeSpec := { name := "fnExactPutAll", vars := ["loop.example/g00694/impl.arities"], fn := fun _ => fun
  | [d1, d2, g1] => { results := [.lit (.bool true)], args := [d1, d2], vars := [g1] }
  | _ => none }
def fnExactPutAllRow : OpenClaim := { program := "ytoppbchacdpenaadoor", sum := "5f61c2c7bb2681b1cc4866edae30e66960e7cd535010fcbe2e2f06f64e90ca0d", func := "loop.example/g00694/laws.FnExactPutAll", spec := "fnExactPutAll", named := ["loop.example/g00694/impl.arities"], apart := false, laid := [("loop.example/g00694/impl.arities", laid_loop_example_g00694_impl_arities)] }
def FnExactPutAllSaid : Prop := fnExactPutAllRow.holds Tryd.pinned (OpenSpec.ofChange fnExactPutAllSpec)

/-- ITS FALSE NEIGHBOUR: 'it returns false'. Refute it at one input. -/
def fnExactPutAllWrong : ChangeSpec := { name := "fnExactPutAll", vars := ["loop.example/g00694/impl.arities"], fn := fun _ => fun
  | [d1, d2, g1] => { results := [.lit (.bool false)], args := [d1, d2], vars := [g1] }
  | _ => none }
def FnExactPutAllWrongFalsely : Prop := fnExactPutAllRow.holds Tryd.pinned (OpenSpec.ofChange fnExactPutAllWrong)

/-- 'laws.FnExactPartAt': WHATEVER THE INPUT: true; the input reads as it did. -/
def fnExactPartAtSpec : ChangeSpec := { name := "fnExactPartAt", vars := ["loop.example/g00694/impl.arities"], fn := fun _ => fun
  | [d1, d2, g1] => { results := [.lit (.bool true)], args := [d1, d2], vars := [g1] }
  | _ => none }
def fnExactPartAtRow : OpenClaim := { program := "ytoppbchacdpenaadoor", sum := "5f61c2c7bb2681b1cc4866edae30e66960e7cd535010fcbe2e2f06f64e90ca0d", func := "loop.example/g00694/laws.FnExactPartAt", spec := "fnExactPartAt", recurses := true, named := ["loop.example/g00694/impl.arities"], apart := false, laid := [("loop.example/g00694/impl.arities", laid_loop_example_g00694_impl_arities)] }
def FnExactPartAtSaid : Prop := fnExactPartAtRow.holds Tryd.pinned (OpenSpec.ofChange fnExactPartAtSpec)

/-- ITS FALSE NEIGHBOUR: 'it returns false'. Refute it at one input. -/
def fnExactPartAtWrong : ChangeSpec := { name := "fnExactPartAt", vars := ["loop.example/g00694/impl.arities"], fn := fun _ => fun
  | [d1, d2, g1] => { results := [.lit (.bool false)], args := [d1, d2], vars := [g1] }
  | _ => none }
def FnExactPartAtWrongFalsely : Prop := fnExactPartAtRow.holds Tryd.pinned (OpenSpec.ofChange fnExactPartAtWrong)

/- THE SECOND FORM. 'bulk': how many values and letters a reading holds, each counted each time it is reached (what is shared counts as often as it is met; a slice's spare places count too). A statement '..UptoSaid' is the law's where the arguments, and the package variables that the reading takes, are together of bulk at most 1048576: NARROWER than '..Said'. Prove '..Said' where nothing that the law and all that it calls make is longer than what came in: it says more and counts as full. Else prove '..UptoSaid'. A law counts once. -/
mutual
def uptoBulk {H : Type} : DataW H → Nat
  | .lit (.string bytes) => bytes.length + 1
  | .lit _ => 1
  | .nil => 1
  | .ptr d => uptoBulk d + 1
  | .slice elems spare => uptoBulkAll elems + uptoBulkAll spare + 1
  | .agg parts => uptoBulkAll parts + 1
  | .iface _ d => uptoBulk d + 1
  | .map entries => uptoBulkEntries entries + 1
  | .held _ => 1
def uptoBulkAll {H : Type} : List (DataW H) → Nat
  | [] => 0
  | d :: r => uptoBulk d + uptoBulkAll r
def uptoBulkEntries {H : Type} : List (Lit × DataW H) → Nat
  | [] => 0
  | x :: r => uptoBulkEntry x + uptoBulkEntries r
def uptoBulkEntry {H : Type} : Lit × DataW H → Nat
  | (.string bytes, d) => bytes.length + uptoBulk d + 1
  | (_, d) => uptoBulk d + 1
 end
def uptoSmall : (H : Type) → List (DataW H) → Bool := fun _ ds => decide (uptoBulkAll ds ≤ 1048576)
def OpenSpec.upto (s : _root_.Go.ChangeSpec) : _root_.Go.OpenSpec := { _root_.Go.OpenSpec.ofChange s with cond := some uptoSmall }

/-- 'laws.FnExactGoodTerm', WHERE WHAT IT READS IS OF BULK AT MOST 1048576: true; the input reads as it did. -/
def fnExactGoodTermUptoRow : OpenClaim := { program := "ytoppbchacdpenaadoor", sum := "5f61c2c7bb2681b1cc4866edae30e66960e7cd535010fcbe2e2f06f64e90ca0d", func := "loop.example/g00694/laws.FnExactGoodTerm", spec := "fnExactGoodTerm", named := ["loop.example/g00694/impl.arities"], apart := false, laid := [("loop.example/g00694/impl.arities", laid_loop_example_g00694_impl_arities)], narrowed := true }
def FnExactGoodTermUptoSaid : Prop := fnExactGoodTermUptoRow.holds Tryd.pinned (OpenSpec.upto fnExactGoodTermSpec)

/-- 'laws.FnExactEvalTerm', WHERE WHAT IT READS IS OF BULK AT MOST 1048576: true; the input reads as it did. -/
def fnExactEvalTermUptoRow : OpenClaim := { program := "ytoppbchacdpenaadoor", sum := "5f61c2c7bb2681b1cc4866edae30e66960e7cd535010fcbe2e2f06f64e90ca0d", func := "loop.example/g00694/laws.FnExactEvalTerm", spec := "fnExactEvalTerm", recurses := true, named := ["loop.example/g00694/impl.arities"], apart := false, laid := [("loop.example/g00694/impl.arities", laid_loop_example_g00694_impl_arities)], narrowed := true }
def FnExactEvalTermUptoSaid : Prop := fnExactEvalTermUptoRow.holds Tryd.pinned (OpenSpec.upto fnExactEvalTermSpec)

/-- 'laws.FnExactVarsIn', WHERE WHAT IT READS IS OF BULK AT MOST 1048576: true; the input reads as it did. -/
def fnExactVarsInUptoRow : OpenClaim := { program := "ytoppbchacdpenaadoor", sum := "5f61c2c7bb2681b1cc4866edae30e66960e7cd535010fcbe2e2f06f64e90ca0d", func := "loop.example/g00694/laws.FnExactVarsIn", spec := "fnExactVarsIn", named := ["loop.example/g00694/impl.arities"], apart := false, laid := [("loop.example/g00694/impl.arities", laid_loop_example_g00694_impl_arities)], narrowed := true }
def FnExactVarsInUptoSaid : Prop := fnExactVarsInUptoRow.holds Tryd.pinned (OpenSpec.upto fnExactVarsInSpec)

/-- 'laws.FnExactSureVars', WHERE WHAT IT READS IS OF BULK AT MOST 1048576: true; the input reads as it did. -/
def fnExactSureVarsUptoRow : OpenClaim := { program := "ytoppbchacdpenaadoor", sum := "5f61c2c7bb2681b1cc4866edae30e66960e7cd535010fcbe2e2f06f64e90ca0d", func := "loop.example/g00694/laws.FnExactSureVars", spec := "fnExactSureVars", unfollowed := true, recurses := true, named := ["loop.example/g00694/impl.arities"], apart := false, laid := [("loop.example/g00694/impl.arities", laid_loop_example_g00694_impl_arities)], narrowed := true }
def FnExactSureVarsUptoSaid : Prop := fnExactSureVarsUptoRow.holds Tryd.pinned (OpenSpec.upto fnExactSureVarsSpec)

/-- 'laws.FnExactPutAll', WHERE WHAT IT READS IS OF BULK AT MOST 1048576: true; the input reads as it did. -/
def fnExactPutAllUptoRow : OpenClaim := { program := "ytoppbchacdpenaadoor", sum := "5f61c2c7bb2681b1cc4866edae30e66960e7cd535010fcbe2e2f06f64e90ca0d", func := "loop.example/g00694/laws.FnExactPutAll", spec := "fnExactPutAll", named := ["loop.example/g00694/impl.arities"], apart := false, laid := [("loop.example/g00694/impl.arities", laid_loop_example_g00694_impl_arities)], narrowed := true }
def FnExactPutAllUptoSaid : Prop := fnExactPutAllUptoRow.holds Tryd.pinned (OpenSpec.upto fnExactPutAllSpec)

/-- 'laws.FnExactPartAt', WHERE WHAT IT READS IS OF BULK AT MOST 1048576: true; the input reads as it did. -/
def fnExactPartAtUptoRow : OpenClaim := { program := "ytoppbchacdpenaadoor", sum := "5f61c2c7bb2681b1cc4866edae30e66960e7cd535010fcbe2e2f06f64e90ca0d", func := "loop.example/g00694/laws.FnExactPartAt", spec := "fnExactPartAt", recurses := true, named := ["loop.example/g00694/impl.arities"], apart := false, laid := [("loop.example/g00694/impl.arities", laid_loop_example_g00694_impl_arities)], narrowed := true }
def FnExactPartAtUptoSaid : Prop := fnExactPartAtUptoRow.holds Tryd.pinned (OpenSpec.upto fnExactPartAtSpec)

end Rows
end Go.Proofs.YtoppbchacdpenaaDoor
