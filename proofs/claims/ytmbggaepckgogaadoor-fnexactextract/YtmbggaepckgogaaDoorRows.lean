/-
  NARROWER THAN 'FOR EVERY INPUT', by the rows' own cells (each row's printed sentence says how): FnExactBestCosts: laid · FnExactChosenIn: laid · FnExactExtract: laid.
  DERIVED. THE GIVEN ROWS OF THIS SEAT. 3 by the template 'for every input the law returns true; each argument reads behind the call as it read before'; 0 by the template 'total and deterministic' (their statements: YtmbggaepckgogaaDoorTotals.lean).
  GIVEN WITH THE SEED: the statements are not yours to turn. If you find one false, say at which input.
  Laid BY PROGRAM, IN A SANDBOX (cutbox-rows.mjs): the forced cells as the released guide's own fill.sh prints them over the translation 81abc41d760599f1… (all of the seat's roots in one cut). By AI agents, Wed Nov 11 2026. No macro, syntax, notation, axiom, sorry.
-/
import Derived.Test.YtmbggaepckgogaaDoorChecked
import GoSem.Claim
import GoSem.ClaimJoined
import GoSem.ClaimMapViews
import Derived.JoinedTies
import Derived.KernelRfl
namespace Go.Proofs.YtmbggaepckgogaaDoor
/- THE CELL 'sum', in the pinned program and in every row, IS THE sha256 OF THE DUMP (.gsa) THAT YtmbggaepckgogaaDoorProg.lean LOADS. Nothing in Lean hashes anything: it is a label: what it is worth is what the hold of that sum in a sandbox is worth. -/
noncomputable def Tryd.pinned : Pinned := { name := "ytmbggaepckgogaadoor", sum := "81abc41d760599f10889474df24b874d4a682a8f370fd8ae817fe1c53bcaeaa2", checked := Tryd.checked }
namespace Rows
def none {H : Type} : Left H := { results := [], args := [] }

/- WHAT THE LISTED PACKAGE-LEVEL VARIABLES READ AS WHEN THE CALL BEGINS. Each datum BY PROGRAM (the guide's laid-datum.mjs) off the statement by which the dump's own 'gosem.cut.vars' lays the variable. In a bare row this is a premise. The card (YtmbggaepckgogaaDoorCards.lean) ties it to the program's text. -/
def laid_loop_example_g00694_impl_opCosts {H : Type} : DataW H := .agg [.lit (.int .i64 0), .lit (.int .i64 1), .lit (.int .i64 1), .lit (.int .i64 2), .lit (.int .i64 2), .lit (.int .i64 2), .lit (.int .i64 4), .lit (.int .i64 2), .lit (.int .i64 20), .lit (.int .i64 2), .lit (.int .i64 2), .lit (.int .i64 3)]
def laid_loop_example_g00694_impl_arities {H : Type} : DataW H := .agg [.lit (.int .i64 0), .lit (.int .i64 0), .lit (.int .i64 0), .lit (.int .i64 1), .lit (.int .i64 2), .lit (.int .i64 2), .lit (.int .i64 2), .lit (.int .i64 2), .lit (.int .i64 2), .lit (.int .i64 2), .lit (.int .i64 2), .lit (.int .i64 3)]

/-- 'laws.FnExactBestCosts': WHATEVER THE INPUT: true; the input reads as it did. -/
def fnExactBestCostsSpec : ChangeSpec := { name := "fnExactBestCosts", vars := ["loop.example/g00694/impl.arities", "loop.example/g00694/impl.opCosts"], fn := fun _ => fun
  | [d, g1, g2] => { results := [.lit (.bool true)], args := [d], vars := [g1, g2] }
  | _ => none }
def fnExactBestCostsRow : OpenClaim := { program := "ytmbggaepckgogaadoor", sum := "81abc41d760599f10889474df24b874d4a682a8f370fd8ae817fe1c53bcaeaa2", func := "loop.example/g00694/laws.FnExactBestCosts", spec := "fnExactBestCosts", unfollowed := true, recurses := true, named := ["loop.example/g00694/impl.arities", "loop.example/g00694/impl.opCosts"], plainKeys := false, apart := false, laid := [("loop.example/g00694/impl.opCosts", laid_loop_example_g00694_impl_opCosts), ("loop.example/g00694/impl.arities", laid_loop_example_g00694_impl_arities)] }
def FnExactBestCostsSaid : Prop := fnExactBestCostsRow.holds Tryd.pinned (OpenSpec.ofChange fnExactBestCostsSpec)

/-- ITS FALSE NEIGHBOUR: 'it returns false'. Refute it at one input. -/
def fnExactBestCostsWrong : ChangeSpec := { name := "fnExactBestCosts", vars := ["loop.example/g00694/impl.arities", "loop.example/g00694/impl.opCosts"], fn := fun _ => fun
  | [d, g1, g2] => { results := [.lit (.bool false)], args := [d], vars := [g1, g2] }
  | _ => none }
def FnExactBestCostsWrongFalsely : Prop := fnExactBestCostsRow.holds Tryd.pinned (OpenSpec.ofChange fnExactBestCostsWrong)

/-- 'laws.FnExactChosenIn': WHATEVER THE INPUT: true; the input reads as it did. -/
def fnExactChosenInSpec : ChangeSpec := { name := "fnExactChosenIn", vars := ["loop.example/g00694/impl.arities", "loop.example/g00694/impl.opCosts"], fn := fun _ => fun
  | [d1, d2, g1, g2] => { results := [.lit (.bool true)], args := [d1, d2], vars := [g1, g2] }
  | _ => none }
def fnExactChosenInRow : OpenClaim := { program := "ytmbggaepckgogaadoor", sum := "81abc41d760599f10889474df24b874d4a682a8f370fd8ae817fe1c53bcaeaa2", func := "loop.example/g00694/laws.FnExactChosenIn", spec := "fnExactChosenIn", unfollowed := true, recurses := true, named := ["loop.example/g00694/impl.arities", "loop.example/g00694/impl.opCosts"], plainKeys := false, apart := false, laid := [("loop.example/g00694/impl.opCosts", laid_loop_example_g00694_impl_opCosts), ("loop.example/g00694/impl.arities", laid_loop_example_g00694_impl_arities)] }
def FnExactChosenInSaid : Prop := fnExactChosenInRow.holds Tryd.pinned (OpenSpec.ofChange fnExactChosenInSpec)

/-- ITS FALSE NEIGHBOUR: 'it returns false'. Refute it at one input. -/
def fnExactChosenInWrong : ChangeSpec := { name := "fnExactChosenIn", vars := ["loop.example/g00694/impl.arities", "loop.example/g00694/impl.opCosts"], fn := fun _ => fun
  | [d1, d2, g1, g2] => { results := [.lit (.bool false)], args := [d1, d2], vars := [g1, g2] }
  | _ => none }
def FnExactChosenInWrongFalsely : Prop := fnExactChosenInRow.holds Tryd.pinned (OpenSpec.ofChange fnExactChosenInWrong)

/-- 'laws.FnExactExtract': WHATEVER THE INPUT: true; the input reads as it did. -/
def fnExactExtractSpec : ChangeSpec := { name := "fnExactExtract", vars := ["loop.example/g00694/impl.arities", "loop.example/g00694/impl.opCosts"], fn := fun _ => fun
  | [d1, d2, g1, g2] => { results := [.lit (.bool true)], args := [d1, d2], vars := [g1, g2] }
  | _ => none }
def fnExactExtractRow : OpenClaim := { program := "ytmbggaepckgogaadoor", sum := "81abc41d760599f10889474df24b874d4a682a8f370fd8ae817fe1c53bcaeaa2", func := "loop.example/g00694/laws.FnExactExtract", spec := "fnExactExtract", unfollowed := true, recurses := true, named := ["loop.example/g00694/impl.arities", "loop.example/g00694/impl.opCosts"], plainKeys := false, apart := false, laid := [("loop.example/g00694/impl.opCosts", laid_loop_example_g00694_impl_opCosts), ("loop.example/g00694/impl.arities", laid_loop_example_g00694_impl_arities)] }
def FnExactExtractSaid : Prop := fnExactExtractRow.holds Tryd.pinned (OpenSpec.ofChange fnExactExtractSpec)

/-- ITS FALSE NEIGHBOUR: 'it returns false'. Refute it at one input. -/
def fnExactExtractWrong : ChangeSpec := { name := "fnExactExtract", vars := ["loop.example/g00694/impl.arities", "loop.example/g00694/impl.opCosts"], fn := fun _ => fun
  | [d1, d2, g1, g2] => { results := [.lit (.bool false)], args := [d1, d2], vars := [g1, g2] }
  | _ => none }
def FnExactExtractWrongFalsely : Prop := fnExactExtractRow.holds Tryd.pinned (OpenSpec.ofChange fnExactExtractWrong)

/- THE SECOND FORM. 'bulk': how many values and letters a reading holds, each counted each time it is reached (what is shared counts as often as it is met; a slice's spare places count too). A statement '..UptoSaid' is the law's where the arguments, and the package variables that the reading takes, are together of bulk at most 1048576: NARROWER than '..Said'. Prove '..Said' where nothing that the law and all that it calls make is longer than what came in: it says more and counts as full. Else prove '..UptoSaid'. A law counts once. -/
mutual
def uptoBulk {H : Type} : DataW H → Nat
  | .lit (.string bytes) => bytes.length + 1
  | .lit _ => 1
  | .nil => 1
  | .ptr d => uptoBulk d + 1
  | .slice elems spare => uptoBulkAll elems + uptoBulkAll spare + 1
  | .agg parts => uptoBulkAll parts + 1
  | .iface _ d => uptoBulk d + 1
  | .map entries => uptoBulkEntries entries + 1
  | .held _ => 1
def uptoBulkAll {H : Type} : List (DataW H) → Nat
  | [] => 0
  | d :: r => uptoBulk d + uptoBulkAll r
def uptoBulkEntries {H : Type} : List (Lit × DataW H) → Nat
  | [] => 0
  | x :: r => uptoBulkEntry x + uptoBulkEntries r
def uptoBulkEntry {H : Type} : Lit × DataW H → Nat
  | (.string bytes, d) => bytes.length + uptoBulk d + 1
  | (_, d) => uptoBulk d + 1
 end
def uptoSmall : (H : Type) → List (DataW H) → Bool := fun _ ds => decide (uptoBulkAll ds ≤ 1048576)
def OpenSpec.upto (s : _root_.Go.ChangeSpec) : _root_.Go.OpenSpec := { _root_.Go.OpenSpec.ofChange s with cond := some uptoSmall }

/-- 'laws.FnExactBestCosts', WHERE WHAT IT READS IS OF BULK AT MOST 1048576: true; the input reads as it did. -/
def fnExactBestCostsUptoRow : OpenClaim := { program := "ytmbggaepckgogaadoor", sum := "81abc41d760599f10889474df24b874d4a682a8f370fd8ae817fe1c53bcaeaa2", func := "loop.example/g00694/laws.FnExactBestCosts", spec := "fnExactBestCosts", unfollowed := true, recurses := true, named := ["loop.example/g00694/impl.arities", "loop.example/g00694/impl.opCosts"], plainKeys := false, apart := false, laid := [("loop.example/g00694/impl.opCosts", laid_loop_example_g00694_impl_opCosts), ("loop.example/g00694/impl.arities", laid_loop_example_g00694_impl_arities)], narrowed := true }
def FnExactBestCostsUptoSaid : Prop := fnExactBestCostsUptoRow.holds Tryd.pinned (OpenSpec.upto fnExactBestCostsSpec)

/-- 'laws.FnExactChosenIn', WHERE WHAT IT READS IS OF BULK AT MOST 1048576: true; the input reads as it did. -/
def fnExactChosenInUptoRow : OpenClaim := { program := "ytmbggaepckgogaadoor", sum := "81abc41d760599f10889474df24b874d4a682a8f370fd8ae817fe1c53bcaeaa2", func := "loop.example/g00694/laws.FnExactChosenIn", spec := "fnExactChosenIn", unfollowed := true, recurses := true, named := ["loop.example/g00694/impl.arities", "loop.example/g00694/impl.opCosts"], plainKeys := false, apart := false, laid := [("loop.example/g00694/impl.opCosts", laid_loop_example_g00694_impl_opCosts), ("loop.example/g00694/impl.arities", laid_loop_example_g00694_impl_arities)], narrowed := true }
def FnExactChosenInUptoSaid : Prop := fnExactChosenInUptoRow.holds Tryd.pinned (OpenSpec.upto fnExactChosenInSpec)

/-- 'laws.FnExactExtract', WHERE WHAT IT READS IS OF BULK AT MOST 1048576: true; the input reads as it did. -/
def fnExactExtractUptoRow : OpenClaim := { program := "ytmbggaepckgogaadoor", sum := "81abc41d760599f10889474df24b874d4a682a8f370fd8ae817fe1c53bcaeaa2", func := "loop.example/g00694/laws.FnExactExtract", spec := "fnExactExtract", unfollowed := true, recurses := true, named := ["loop.example/g00694/impl.arities", "loop.example/g00694/impl.opCosts"], plainKeys := false, apart := false, laid := [("loop.example/g00694/impl.opCosts", laid_loop_example_g00694_impl_opCosts), ("loop.example/g00694/impl.arities", laid_loop_example_g00694_impl_arities)], narrowed := true }
def FnExactExtractUptoSaid : Prop := fnExactExtractUptoRow.holds Tryd.pinned (OpenSpec.upto fnExactExtractSpec)

end Rows
end Go.Proofs.YtmbggaepckgogaaDoor
