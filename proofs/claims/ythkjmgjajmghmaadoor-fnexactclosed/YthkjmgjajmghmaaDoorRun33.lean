/-
  PROVED HERE: how many parts the model and the program tell, at every list. No other condition. what the model's and the program's NodesIn and ClassesIn answer, at every graph and number, in a world whose table of arities is laid. No other condition.
-/
import Derived.Test.YthkjmgjajmghmaaDoorRun26
import Derived.Test.YthkjmgjajmghmaaDoorRun32
import Derived.Test.YthkjmgjajmghmaaDoorRun22
namespace Go.Proofs.YthkjmgjajmghmaaDoor
open Go.ChangeShapes Go.WideShapes Go.ChangeAt Go.RowKit
set_option linter.unusedVariables false

/-- The roots of parts. -/
def rootsL (l : List Int) : List Int := pickU (fun i => l.getD i 0 == (i : Int)) l.length
/-- CountParts' answer. -/
def countR (l : List Int) : Int := if partB l = true then ((rootsL l).length : Nat) else 0

end Go.Proofs.YthkjmgjajmghmaaDoor
namespace Go.Proofs.YthkjmgjajmghmaaDoor
open Go.ChangeShapes Go.WideShapes Go.ChangeAt Go.RowKit
set_option linter.unusedVariables false

/-- ClassesIn's answer. -/
def classesR (p : List EN) (l : List Int) : List Int := if graphB p l = true then rootsL l else []
def nodesOk (p : List EN) (l : List Int) (k : Int) : Bool := graphB p l && hasB l k
/-- NodesIn's answer. -/
def nodesR (p : List EN) (l : List Int) (k : Int) : List Int := if nodesOk p l k = true then placesL l (l.getD k.toNat 0) else []
theorem graph_parts2 {p : List EN} {l : List Int} (h : graphB p l = true) : partB l = true ∧ l.length = p.length ∧ l.length ≤ 120 := by
  obtain ⟨h1, _⟩ := (graphB_iff p l).1 h
  obtain ⟨h2, h3, h4⟩ := (headB_iff p l).1 h1
  have := ((nodesB_iff p).1 h2).1
  exact ⟨h4, h3, by omega⟩
end Go.Proofs.YthkjmgjajmghmaaDoor
