/-
  NARROWER THAN 'FOR EVERY INPUT', by the rows' own cells (each row's printed sentence says how): FnExactMatchAt: laid · FnExactAllMatches: laid · FnExactIsMatch: laid.
  DERIVED. THE GIVEN ROWS OF THIS SEAT. 3 by the template 'for every input the law returns true; each argument reads behind the call as it read before'; 0 by the template 'total and deterministic' (their statements: YtajcddnclahhhaaDoorTotals.lean).
  GIVEN WITH THE SEED: the statements are not yours to turn. If you find one false, say at which input.
  Laid BY PROGRAM, IN A SANDBOX (cutbox-rows.mjs): the forced cells as the released guide's own fill.sh prints them over the translation e5e3ffd8cbac9f19… (all of the seat's roots in one cut). By AI agents, Wed Nov 11 2026. No macro, syntax, notation, axiom, sorry.
-/
import Derived.Test.YtajcddnclahhhaaDoorChecked
import GoSem.Claim
import GoSem.ClaimJoined
import GoSem.ClaimMapViews
import Derived.JoinedTies
import Derived.KernelRfl
namespace Go.Proofs.YtajcddnclahhhaaDoor
/- THE CELL 'sum', in the pinned program and in every row, IS THE sha256 OF THE DUMP (.gsa) THAT YtajcddnclahhhaaDoorProg.lean LOADS. Nothing in Lean hashes anything: it is a label: what it is worth is what the hold of that sum in a sandbox is worth. -/
noncomputable def Tryd.pinned : Pinned := { name := "ytajcddnclahhhaadoor", sum := "e5e3ffd8cbac9f1960035fe1ff2776aa575a696db1a14e12240107895fe5d03f", checked := Tryd.checked }
namespace Rows
def none {H : Type} : Left H := { results := [], args := [] }

/- WHAT THE LISTED PACKAGE-LEVEL VARIABLES READ AS WHEN THE CALL BEGINS. Each datum BY PROGRAM (the guide's laid-datum.mjs) off the statement by which the dump's own 'gosem.cut.vars' lays the variable. In a bare row this is a premise. The card (YtajcddnclahhhaaDoorCards.lean) ties it to the program's text. -/
def laid_loop_example_g00694_impl_arities {H : Type} : DataW H := .agg [.lit (.int .i64 0), .lit (.int .i64 0), .lit (.int .i64 0), .lit (.int .i64 1), .lit (.int .i64 2), .lit (.int .i64 2), .lit (.int .i64 2), .lit (.int .i64 2), .lit (.int .i64 2), .lit (.int .i64 2), .lit (.int .i64 2), .lit (.int .i64 3)]

/-- 'laws.FnExactMatchAt': WHATEVER THE INPUT: true; the input reads as it did. -/
def fnExactMatchAtSpec : ChangeSpec := { name := "fnExactMatchAt", vars := ["loop.example/g00694/impl.arities"], fn := fun _ => fun
  | [d1, d2, d3, g1] => { results := [.lit (.bool true)], args := [d1, d2, d3], vars := [g1] }
  | _ => none }
def fnExactMatchAtRow : OpenClaim := { program := "ytajcddnclahhhaadoor", sum := "e5e3ffd8cbac9f1960035fe1ff2776aa575a696db1a14e12240107895fe5d03f", func := "loop.example/g00694/laws.FnExactMatchAt", spec := "fnExactMatchAt", unfollowed := true, recurses := true, named := ["loop.example/g00694/impl.arities"], plainKeys := false, apart := false, laid := [("loop.example/g00694/impl.arities", laid_loop_example_g00694_impl_arities)] }
def FnExactMatchAtSaid : Prop := fnExactMatchAtRow.holds Tryd.pinned (OpenSpec.ofChange fnExactMatchAtSpec)

/-- ITS FALSE NEIGHBOUR: 'it returns false'. Refute it at one input. -/
def fnExactMatchAtWrong : ChangeSpec := { name := "fnExactMatchAt", vars := ["loop.example/g00694/impl.arities"], fn := fun _ => fun
  | [d1, d2, d3, g1] => { results := [.lit (.bool false)], args := [d1, d2, d3], vars := [g1] }
  | _ => none }
def FnExactMatchAtWrongFalsely : Prop := fnExactMatchAtRow.holds Tryd.pinned (OpenSpec.ofChange fnExactMatchAtWrong)

/-- 'laws.FnExactAllMatches': WHATEVER THE INPUT: true; the input reads as it did. -/
def fnExactAllMatchesSpec : ChangeSpec := { name := "fnExactAllMatches", vars := ["loop.example/g00694/impl.arities"], fn := fun _ => fun
  | [d1, d2, g1] => { results := [.lit (.bool true)], args := [d1, d2], vars := [g1] }
  | _ => none }
def fnExactAllMatchesRow : OpenClaim := { program := "ytajcddnclahhhaadoor", sum := "e5e3ffd8cbac9f1960035fe1ff2776aa575a696db1a14e12240107895fe5d03f", func := "loop.example/g00694/laws.FnExactAllMatches", spec := "fnExactAllMatches", unfollowed := true, recurses := true, named := ["loop.example/g00694/impl.arities"], plainKeys := false, apart := false, laid := [("loop.example/g00694/impl.arities", laid_loop_example_g00694_impl_arities)] }
def FnExactAllMatchesSaid : Prop := fnExactAllMatchesRow.holds Tryd.pinned (OpenSpec.ofChange fnExactAllMatchesSpec)

/-- ITS FALSE NEIGHBOUR: 'it returns false'. Refute it at one input. -/
def fnExactAllMatchesWrong : ChangeSpec := { name := "fnExactAllMatches", vars := ["loop.example/g00694/impl.arities"], fn := fun _ => fun
  | [d1, d2, g1] => { results := [.lit (.bool false)], args := [d1, d2], vars := [g1] }
  | _ => none }
def FnExactAllMatchesWrongFalsely : Prop := fnExactAllMatchesRow.holds Tryd.pinned (OpenSpec.ofChange fnExactAllMatchesWrong)

/-- 'laws.FnExactIsMatch': WHATEVER THE INPUT: true; the input reads as it did. -/
def fnExactIsMatchSpec : ChangeSpec := { name := "fnExactIsMatch", vars := ["loop.example/g00694/impl.arities"], fn := fun _ => fun
  | [d1, d2, d3, d4, g1] => { results := [.lit (.bool true)], args := [d1, d2, d3, d4], vars := [g1] }
  | _ => none }
def fnExactIsMatchRow : OpenClaim := { program := "ytajcddnclahhhaadoor", sum := "e5e3ffd8cbac9f1960035fe1ff2776aa575a696db1a14e12240107895fe5d03f", func := "loop.example/g00694/laws.FnExactIsMatch", spec := "fnExactIsMatch", unfollowed := true, recurses := true, named := ["loop.example/g00694/impl.arities"], plainKeys := false, apart := false, laid := [("loop.example/g00694/impl.arities", laid_loop_example_g00694_impl_arities)] }
def FnExactIsMatchSaid : Prop := fnExactIsMatchRow.holds Tryd.pinned (OpenSpec.ofChange fnExactIsMatchSpec)

/-- ITS FALSE NEIGHBOUR: 'it returns false'. Refute it at one input. -/
def fnExactIsMatchWrong : ChangeSpec := { name := "fnExactIsMatch", vars := ["loop.example/g00694/impl.arities"], fn := fun _ => fun
  | [d1, d2, d3, d4, g1] => { results := [.lit (.bool false)], args := [d1, d2, d3, d4], vars := [g1] }
  | _ => none }
def FnExactIsMatchWrongFalsely : Prop := fnExactIsMatchRow.holds Tryd.pinned (OpenSpec.ofChange fnExactIsMatchWrong)

/- THE SECOND FORM. 'bulk': how many values and letters a reading holds, each counted each time it is reached (what is shared counts as often as it is met; a slice's spare places count too). A statement '..UptoSaid' is the law's where the arguments, and the package variables that the reading takes, are together of bulk at most 1048576: NARROWER than '..Said'. Prove '..Said' where nothing that the law and all that it calls make is longer than what came in: it says more and counts as full. Else prove '..UptoSaid'. A law counts once. -/
mutual
def uptoBulk {H : Type} : DataW H → Nat
  | .lit (.string bytes) => bytes.length + 1
  | .lit _ => 1
  | .nil => 1
  | .ptr d => uptoBulk d + 1
  | .slice elems spare => uptoBulkAll elems + uptoBulkAll spare + 1
  | .agg parts => uptoBulkAll parts + 1
  | .iface _ d => uptoBulk d + 1
  | .map entries => uptoBulkEntries entries + 1
  | .held _ => 1
def uptoBulkAll {H : Type} : List (DataW H) → Nat
  | [] => 0
  | d :: r => uptoBulk d + uptoBulkAll r
def uptoBulkEntries {H : Type} : List (Lit × DataW H) → Nat
  | [] => 0
  | x :: r => uptoBulkEntry x + uptoBulkEntries r
def uptoBulkEntry {H : Type} : Lit × DataW H → Nat
  | (.string bytes, d) => bytes.length + uptoBulk d + 1
  | (_, d) => uptoBulk d + 1
 end
def uptoSmall : (H : Type) → List (DataW H) → Bool := fun _ ds => decide (uptoBulkAll ds ≤ 1048576)
def OpenSpec.upto (s : _root_.Go.ChangeSpec) : _root_.Go.OpenSpec := { _root_.Go.OpenSpec.ofChange s with cond := some uptoSmall }

/-- 'laws.FnExactMatchAt', WHERE WHAT IT READS IS OF BULK AT MOST 1048576: true; the input reads as it did. -/
def fnExactMatchAtUptoRow : OpenClaim := { program := "ytajcddnclahhhaadoor", sum := "e5e3ffd8cbac9f1960035fe1ff2776aa575a696db1a14e12240107895fe5d03f", func := "loop.example/g00694/laws.FnExactMatchAt", spec := "fnExactMatchAt", unfollowed := true, recurses := true, named := ["loop.example/g00694/impl.arities"], plainKeys := false, apart := false, laid := [("loop.example/g00694/impl.arities", laid_loop_example_g00694_impl_arities)], narrowed := true }
def FnExactMatchAtUptoSaid : Prop := fnExactMatchAtUptoRow.holds Tryd.pinned (OpenSpec.upto fnExactMatchAtSpec)

/-- 'laws.FnExactAllMatches', WHERE WHAT IT READS IS OF BULK AT MOST 1048576: true; the input reads as it did. -/
def fnExactAllMatchesUptoRow : OpenClaim := { program := "ytajcddnclahhhaadoor", sum := "e5e3ffd8cbac9f1960035fe1ff2776aa575a696db1a14e12240107895fe5d03f", func := "loop.example/g00694/laws.FnExactAllMatches", spec := "fnExactAllMatches", unfollowed := true, recurses := true, named := ["loop.example/g00694/impl.arities"], plainKeys := false, apart := false, laid := [("loop.example/g00694/impl.arities", laid_loop_example_g00694_impl_arities)], narrowed := true }
def FnExactAllMatchesUptoSaid : Prop := fnExactAllMatchesUptoRow.holds Tryd.pinned (OpenSpec.upto fnExactAllMatchesSpec)

/-- 'laws.FnExactIsMatch', WHERE WHAT IT READS IS OF BULK AT MOST 1048576: true; the input reads as it did. -/
def fnExactIsMatchUptoRow : OpenClaim := { program := "ytajcddnclahhhaadoor", sum := "e5e3ffd8cbac9f1960035fe1ff2776aa575a696db1a14e12240107895fe5d03f", func := "loop.example/g00694/laws.FnExactIsMatch", spec := "fnExactIsMatch", unfollowed := true, recurses := true, named := ["loop.example/g00694/impl.arities"], plainKeys := false, apart := false, laid := [("loop.example/g00694/impl.arities", laid_loop_example_g00694_impl_arities)], narrowed := true }
def FnExactIsMatchUptoSaid : Prop := fnExactIsMatchUptoRow.holds Tryd.pinned (OpenSpec.upto fnExactIsMatchSpec)

end Rows
end Go.Proofs.YtajcddnclahhhaaDoor
