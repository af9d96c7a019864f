/-
  No cell of these rows narrows 'for every input' (looked for: loops, veiled, ifaces, maps, wideKeys, modest, calm, conditions, laid).
  DERIVED. THE GIVEN ROWS OF THIS SEAT. 6 by the template 'for every input the law returns true; each argument reads behind the call as it read before'; 0 by the template 'total and deterministic' (their statements: YtoobobhlenfccaaTotals.lean).
  GIVEN WITH THE SEED: the statements are not yours to turn. If you find one false, say at which input.
  Laid BY PROGRAM, IN A SANDBOX (cutbox-rows.mjs): the forced cells as the released guide's own fill.sh prints them over the translation fbebe3ea667271d2… (all of the seat's roots in one cut). By AI agents, Wed Nov 11 2026. No macro, syntax, notation, axiom, sorry.
-/
import Derived.Test.YtoobobhlenfccaaChecked
import GoSem.Claim
import GoSem.ClaimJoined
import GoSem.ClaimMapViews
import Derived.JoinedTies
import Derived.KernelRfl
namespace Go.Proofs.Ytoobobhlenfccaa
/- THE CELL 'sum', in the pinned program and in every row, IS THE sha256 OF THE DUMP (.gsa) THAT YtoobobhlenfccaaProg.lean LOADS. Nothing in Lean hashes anything: it is a label: what it is worth is what the hold of that sum in a sandbox is worth. -/
noncomputable def Try.pinned : Pinned := { name := "ytoobobhlenfccaa", sum := "fbebe3ea667271d2ad19956c2b5c2e7f52f44d691008aec76019a8632ac9dfcc", checked := Try.checked }
namespace Rows
def none {H : Type} : Left H := { results := [], args := [] }

/-- 'laws.FnExactGoodParents': WHATEVER THE INPUT: true; the input reads as it did. -/
def fnExactGoodParentsSpec : ChangeSpec := { name := "fnExactGoodParents", fn := fun _ => fun
  | [d] => { results := [.lit (.bool true)], args := [d] }
  | _ => none }
def fnExactGoodParentsRow : OpenClaim := { program := "ytoobobhlenfccaa", sum := "fbebe3ea667271d2ad19956c2b5c2e7f52f44d691008aec76019a8632ac9dfcc", func := "loop.example/g00694/laws.FnExactGoodParents", spec := "fnExactGoodParents", apart := false }
def FnExactGoodParentsSaid : Prop := fnExactGoodParentsRow.holds Try.pinned (OpenSpec.ofChange fnExactGoodParentsSpec)

/-- ITS FALSE NEIGHBOUR: 'it returns false'. Refute it at one input. -/
def fnExactGoodParentsWrong : ChangeSpec := { name := "fnExactGoodParents", fn := fun _ => fun
  | [d] => { results := [.lit (.bool false)], args := [d] }
  | _ => none }
def FnExactGoodParentsWrongFalsely : Prop := fnExactGoodParentsRow.holds Try.pinned (OpenSpec.ofChange fnExactGoodParentsWrong)

/-- 'laws.FnExactFindRoot': WHATEVER THE INPUT: true; the input reads as it did. -/
def fnExactFindRootSpec : ChangeSpec := { name := "fnExactFindRoot", fn := fun _ => fun
  | [d1, d2] => { results := [.lit (.bool true)], args := [d1, d2] }
  | _ => none }
def fnExactFindRootRow : OpenClaim := { program := "ytoobobhlenfccaa", sum := "fbebe3ea667271d2ad19956c2b5c2e7f52f44d691008aec76019a8632ac9dfcc", func := "loop.example/g00694/laws.FnExactFindRoot", spec := "fnExactFindRoot", apart := false }
def FnExactFindRootSaid : Prop := fnExactFindRootRow.holds Try.pinned (OpenSpec.ofChange fnExactFindRootSpec)

/-- ITS FALSE NEIGHBOUR: 'it returns false'. Refute it at one input. -/
def fnExactFindRootWrong : ChangeSpec := { name := "fnExactFindRoot", fn := fun _ => fun
  | [d1, d2] => { results := [.lit (.bool false)], args := [d1, d2] }
  | _ => none }
def FnExactFindRootWrongFalsely : Prop := fnExactFindRootRow.holds Try.pinned (OpenSpec.ofChange fnExactFindRootWrong)

/-- 'laws.FnExactUnionRoots': WHATEVER THE INPUT: true; the input reads as it did. -/
def fnExactUnionRootsSpec : ChangeSpec := { name := "fnExactUnionRoots", fn := fun _ => fun
  | [d1, d2, d3] => { results := [.lit (.bool true)], args := [d1, d2, d3] }
  | _ => none }
def fnExactUnionRootsRow : OpenClaim := { program := "ytoobobhlenfccaa", sum := "fbebe3ea667271d2ad19956c2b5c2e7f52f44d691008aec76019a8632ac9dfcc", func := "loop.example/g00694/laws.FnExactUnionRoots", spec := "fnExactUnionRoots", apart := false }
def FnExactUnionRootsSaid : Prop := fnExactUnionRootsRow.holds Try.pinned (OpenSpec.ofChange fnExactUnionRootsSpec)

/-- ITS FALSE NEIGHBOUR: 'it returns false'. Refute it at one input. -/
def fnExactUnionRootsWrong : ChangeSpec := { name := "fnExactUnionRoots", fn := fun _ => fun
  | [d1, d2, d3] => { results := [.lit (.bool false)], args := [d1, d2, d3] }
  | _ => none }
def FnExactUnionRootsWrongFalsely : Prop := fnExactUnionRootsRow.holds Try.pinned (OpenSpec.ofChange fnExactUnionRootsWrong)

/-- 'laws.FnExactFlatOf': WHATEVER THE INPUT: true; the input reads as it did. -/
def fnExactFlatOfSpec : ChangeSpec := { name := "fnExactFlatOf", fn := fun _ => fun
  | [d] => { results := [.lit (.bool true)], args := [d] }
  | _ => none }
def fnExactFlatOfRow : OpenClaim := { program := "ytoobobhlenfccaa", sum := "fbebe3ea667271d2ad19956c2b5c2e7f52f44d691008aec76019a8632ac9dfcc", func := "loop.example/g00694/laws.FnExactFlatOf", spec := "fnExactFlatOf", apart := false }
def FnExactFlatOfSaid : Prop := fnExactFlatOfRow.holds Try.pinned (OpenSpec.ofChange fnExactFlatOfSpec)

/-- ITS FALSE NEIGHBOUR: 'it returns false'. Refute it at one input. -/
def fnExactFlatOfWrong : ChangeSpec := { name := "fnExactFlatOf", fn := fun _ => fun
  | [d] => { results := [.lit (.bool false)], args := [d] }
  | _ => none }
def FnExactFlatOfWrongFalsely : Prop := fnExactFlatOfRow.holds Try.pinned (OpenSpec.ofChange fnExactFlatOfWrong)

/-- 'laws.FnExactGoodParts': WHATEVER THE INPUT: true; the input reads as it did. -/
def fnExactGoodPartsSpec : ChangeSpec := { name := "fnExactGoodParts", fn := fun _ => fun
  | [d] => { results := [.lit (.bool true)], args := [d] }
  | _ => none }
def fnExactGoodPartsRow : OpenClaim := { program := "ytoobobhlenfccaa", sum := "fbebe3ea667271d2ad19956c2b5c2e7f52f44d691008aec76019a8632ac9dfcc", func := "loop.example/g00694/laws.FnExactGoodParts", spec := "fnExactGoodParts", apart := false }
def FnExactGoodPartsSaid : Prop := fnExactGoodPartsRow.holds Try.pinned (OpenSpec.ofChange fnExactGoodPartsSpec)

/-- ITS FALSE NEIGHBOUR: 'it returns false'. Refute it at one input. -/
def fnExactGoodPartsWrong : ChangeSpec := { name := "fnExactGoodParts", fn := fun _ => fun
  | [d] => { results := [.lit (.bool false)], args := [d] }
  | _ => none }
def FnExactGoodPartsWrongFalsely : Prop := fnExactGoodPartsRow.holds Try.pinned (OpenSpec.ofChange fnExactGoodPartsWrong)

/-- 'laws.FnExactJoinParts': WHATEVER THE INPUT: true; the input reads as it did. -/
def fnExactJoinPartsSpec : ChangeSpec := { name := "fnExactJoinParts", fn := fun _ => fun
  | [d1, d2, d3] => { results := [.lit (.bool true)], args := [d1, d2, d3] }
  | _ => none }
def fnExactJoinPartsRow : OpenClaim := { program := "ytoobobhlenfccaa", sum := "fbebe3ea667271d2ad19956c2b5c2e7f52f44d691008aec76019a8632ac9dfcc", func := "loop.example/g00694/laws.FnExactJoinParts", spec := "fnExactJoinParts", apart := false }
def FnExactJoinPartsSaid : Prop := fnExactJoinPartsRow.holds Try.pinned (OpenSpec.ofChange fnExactJoinPartsSpec)

/-- ITS FALSE NEIGHBOUR: 'it returns false'. Refute it at one input. -/
def fnExactJoinPartsWrong : ChangeSpec := { name := "fnExactJoinParts", fn := fun _ => fun
  | [d1, d2, d3] => { results := [.lit (.bool false)], args := [d1, d2, d3] }
  | _ => none }
def FnExactJoinPartsWrongFalsely : Prop := fnExactJoinPartsRow.holds Try.pinned (OpenSpec.ofChange fnExactJoinPartsWrong)

/- THE SECOND FORM. 'bulk': how many values and letters a reading holds, each counted each time it is reached (what is shared counts as often as it is met; a slice's spare places count too). A statement '..UptoSaid' is the law's where the arguments, and the package variables that the reading takes, are together of bulk at most 1048576: NARROWER than '..Said'. Prove '..Said' where nothing that the law and all that it calls make is longer than what came in: it says more and counts as full. Else prove '..UptoSaid'. A law counts once. -/
mutual
def uptoBulk {H : Type} : DataW H → Nat
  | .lit (.string bytes) => bytes.length + 1
  | .lit _ => 1
  | .nil => 1
  | .ptr d => uptoBulk d + 1
  | .slice elems spare => uptoBulkAll elems + uptoBulkAll spare + 1
  | .agg parts => uptoBulkAll parts + 1
  | .iface _ d => uptoBulk d + 1
  | .map entries => uptoBulkEntries entries + 1
  | .held _ => 1
def uptoBulkAll {H : Type} : List (DataW H) → Nat
  | [] => 0
  | d :: r => uptoBulk d + uptoBulkAll r
def uptoBulkEntries {H : Type} : List (Lit × DataW H) → Nat
  | [] => 0
  | x :: r => uptoBulkEntry x + uptoBulkEntries r
def uptoBulkEntry {H : Type} : Lit × DataW H → Nat
  | (.string bytes, d) => bytes.length + uptoBulk d + 1
  | (_, d) => uptoBulk d + 1
 end
def uptoSmall : (H : Type) → List (DataW H) → Bool := fun _ ds => decide (uptoBulkAll ds ≤ 1048576)
def OpenSpec.upto (s : _root_.Go.ChangeSpec) : _root_.Go.OpenSpec := { _root_.Go.OpenSpec.ofChange s with cond := some uptoSmall }

/-- 'laws.FnExactGoodParents', WHERE WHAT IT READS IS OF BULK AT MOST 1048576: true; the input reads as it did. -/
def fnExactGoodParentsUptoRow : OpenClaim := { program := "ytoobobhlenfccaa", sum := "fbebe3ea667271d2ad19956c2b5c2e7f52f44d691008aec76019a8632ac9dfcc", func := "loop.example/g00694/laws.FnExactGoodParents", spec := "fnExactGoodParents", apart := false, narrowed := true }
def FnExactGoodParentsUptoSaid : Prop := fnExactGoodParentsUptoRow.holds Try.pinned (OpenSpec.upto fnExactGoodParentsSpec)

/-- 'laws.FnExactFindRoot', WHERE WHAT IT READS IS OF BULK AT MOST 1048576: true; the input reads as it did. -/
def fnExactFindRootUptoRow : OpenClaim := { program := "ytoobobhlenfccaa", sum := "fbebe3ea667271d2ad19956c2b5c2e7f52f44d691008aec76019a8632ac9dfcc", func := "loop.example/g00694/laws.FnExactFindRoot", spec := "fnExactFindRoot", apart := false, narrowed := true }
def FnExactFindRootUptoSaid : Prop := fnExactFindRootUptoRow.holds Try.pinned (OpenSpec.upto fnExactFindRootSpec)

/-- 'laws.FnExactUnionRoots', WHERE WHAT IT READS IS OF BULK AT MOST 1048576: true; the input reads as it did. -/
def fnExactUnionRootsUptoRow : OpenClaim := { program := "ytoobobhlenfccaa", sum := "fbebe3ea667271d2ad19956c2b5c2e7f52f44d691008aec76019a8632ac9dfcc", func := "loop.example/g00694/laws.FnExactUnionRoots", spec := "fnExactUnionRoots", apart := false, narrowed := true }
def FnExactUnionRootsUptoSaid : Prop := fnExactUnionRootsUptoRow.holds Try.pinned (OpenSpec.upto fnExactUnionRootsSpec)

/-- 'laws.FnExactFlatOf', WHERE WHAT IT READS IS OF BULK AT MOST 1048576: true; the input reads as it did. -/
def fnExactFlatOfUptoRow : OpenClaim := { program := "ytoobobhlenfccaa", sum := "fbebe3ea667271d2ad19956c2b5c2e7f52f44d691008aec76019a8632ac9dfcc", func := "loop.example/g00694/laws.FnExactFlatOf", spec := "fnExactFlatOf", apart := false, narrowed := true }
def FnExactFlatOfUptoSaid : Prop := fnExactFlatOfUptoRow.holds Try.pinned (OpenSpec.upto fnExactFlatOfSpec)

/-- 'laws.FnExactGoodParts', WHERE WHAT IT READS IS OF BULK AT MOST 1048576: true; the input reads as it did. -/
def fnExactGoodPartsUptoRow : OpenClaim := { program := "ytoobobhlenfccaa", sum := "fbebe3ea667271d2ad19956c2b5c2e7f52f44d691008aec76019a8632ac9dfcc", func := "loop.example/g00694/laws.FnExactGoodParts", spec := "fnExactGoodParts", apart := false, narrowed := true }
def FnExactGoodPartsUptoSaid : Prop := fnExactGoodPartsUptoRow.holds Try.pinned (OpenSpec.upto fnExactGoodPartsSpec)

/-- 'laws.FnExactJoinParts', WHERE WHAT IT READS IS OF BULK AT MOST 1048576: true; the input reads as it did. -/
def fnExactJoinPartsUptoRow : OpenClaim := { program := "ytoobobhlenfccaa", sum := "fbebe3ea667271d2ad19956c2b5c2e7f52f44d691008aec76019a8632ac9dfcc", func := "loop.example/g00694/laws.FnExactJoinParts", spec := "fnExactJoinParts", apart := false, narrowed := true }
def FnExactJoinPartsUptoSaid : Prop := fnExactJoinPartsUptoRow.holds Try.pinned (OpenSpec.upto fnExactJoinPartsSpec)

end Rows
end Go.Proofs.Ytoobobhlenfccaa
