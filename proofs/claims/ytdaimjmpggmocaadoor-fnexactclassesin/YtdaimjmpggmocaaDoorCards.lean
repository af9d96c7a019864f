/-
  DERIVED. GIVEN WITH THE SEED: THE CARDS: each row of YtdaimjmpggmocaaDoorRows.lean that lists a variable, with what it lists TIED to the program's text (the seventh form; the later family's looks); each row that meets fmt, with fmt's text TOLD by the authors' own Lean function (tested against real Go, not proved from fmt's source: count such statements apart). THE CARD IS WHAT COUNTS. Prove the row's statement (the work); the ties are given (YtdaimjmpggmocaaDoorTie.lean); close each card by the builder's one call (the guide's Derived/Test/ToyasCard.lean, 'card_holds'). Laid BY PROGRAM, IN A SANDBOX (cutbox-door.mjs). By AI agents, Wed Nov 11 2026. No macro, syntax, notation, axiom, sorry.
-/
import Derived.Test.YtdaimjmpggmocaaDoorRows
import GoSem.ClaimSeven
namespace Go.Proofs.YtdaimjmpggmocaaDoor
namespace Rows

/-- THE TIED CARD OF 'laws.FnExactGoodGraph'. -/
def fnExactGoodGraphCard : Claim7 := { stood := { row := fnExactGoodGraphRow, standIns := [], harness := (true, "0ccb14f4014838d88cd9b3916ab526cceed98578a9db6e47a17be6f00e08c114"), looks := false }, kinds := [], alts := [], laidByText := true, laidKinds := [.data], laidTests := true, laidLooks := .later }
def FnExactGoodGraphCardSaid : Prop := Claim7.holds Tryd.pinned (.plain (OpenSpec.ofChange fnExactGoodGraphSpec)) fnExactGoodGraphCard

/-- THE TIED CARD OF 'laws.FnExactAddNode'. -/
def fnExactAddNodeCard : Claim7 := { stood := { row := fnExactAddNodeRow, standIns := [], harness := (true, "0ccb14f4014838d88cd9b3916ab526cceed98578a9db6e47a17be6f00e08c114"), looks := false }, kinds := [], alts := [], laidByText := true, laidKinds := [.data], laidTests := true, laidLooks := .later }
def FnExactAddNodeCardSaid : Prop := Claim7.holds Tryd.pinned (.plain (OpenSpec.ofChange fnExactAddNodeSpec)) fnExactAddNodeCard

/-- THE TIED CARD OF 'laws.FnExactMerge'. -/
def fnExactMergeCard : Claim7 := { stood := { row := fnExactMergeRow, standIns := [], harness := (true, "0ccb14f4014838d88cd9b3916ab526cceed98578a9db6e47a17be6f00e08c114"), looks := false }, kinds := [], alts := [], laidByText := true, laidKinds := [.data], laidTests := true, laidLooks := .later }
def FnExactMergeCardSaid : Prop := Claim7.holds Tryd.pinned (.plain (OpenSpec.ofChange fnExactMergeSpec)) fnExactMergeCard

/-- THE TIED CARD OF 'laws.FnExactNodesIn'. -/
def fnExactNodesInCard : Claim7 := { stood := { row := fnExactNodesInRow, standIns := [], harness := (true, "0ccb14f4014838d88cd9b3916ab526cceed98578a9db6e47a17be6f00e08c114"), looks := false }, kinds := [], alts := [], laidByText := true, laidKinds := [.data], laidTests := true, laidLooks := .later }
def FnExactNodesInCardSaid : Prop := Claim7.holds Tryd.pinned (.plain (OpenSpec.ofChange fnExactNodesInSpec)) fnExactNodesInCard

/-- THE TIED CARD OF 'laws.FnExactClassesIn'. -/
def fnExactClassesInCard : Claim7 := { stood := { row := fnExactClassesInRow, standIns := [], harness := (true, "0ccb14f4014838d88cd9b3916ab526cceed98578a9db6e47a17be6f00e08c114"), looks := false }, kinds := [], alts := [], laidByText := true, laidKinds := [.data], laidTests := true, laidLooks := .later }
def FnExactClassesInCardSaid : Prop := Claim7.holds Tryd.pinned (.plain (OpenSpec.ofChange fnExactClassesInSpec)) fnExactClassesInCard

/-- THE TIED CARD OF 'laws.FnExactClosed'. -/
def fnExactClosedCard : Claim7 := { stood := { row := fnExactClosedRow, standIns := [], harness := (true, "0ccb14f4014838d88cd9b3916ab526cceed98578a9db6e47a17be6f00e08c114"), looks := false }, kinds := [], alts := [], laidByText := true, laidKinds := [.data], laidTests := true, laidLooks := .later }
def FnExactClosedCardSaid : Prop := Claim7.holds Tryd.pinned (.plain (OpenSpec.ofChange fnExactClosedSpec)) fnExactClosedCard

/-- THE SECOND FORM's CARD OF 'laws.FnExactGoodGraph'. -/
def fnExactGoodGraphUptoCard : Claim7 := { stood := { row := fnExactGoodGraphUptoRow, standIns := [], harness := (true, "0ccb14f4014838d88cd9b3916ab526cceed98578a9db6e47a17be6f00e08c114"), looks := false }, kinds := [], alts := [], laidByText := true, laidKinds := [.data], laidTests := true, laidLooks := .later }
def FnExactGoodGraphUptoCardSaid : Prop := Claim7.holds Tryd.pinned (.plain (OpenSpec.upto fnExactGoodGraphSpec)) fnExactGoodGraphUptoCard

/-- THE SECOND FORM's CARD OF 'laws.FnExactAddNode'. -/
def fnExactAddNodeUptoCard : Claim7 := { stood := { row := fnExactAddNodeUptoRow, standIns := [], harness := (true, "0ccb14f4014838d88cd9b3916ab526cceed98578a9db6e47a17be6f00e08c114"), looks := false }, kinds := [], alts := [], laidByText := true, laidKinds := [.data], laidTests := true, laidLooks := .later }
def FnExactAddNodeUptoCardSaid : Prop := Claim7.holds Tryd.pinned (.plain (OpenSpec.upto fnExactAddNodeSpec)) fnExactAddNodeUptoCard

/-- THE SECOND FORM's CARD OF 'laws.FnExactMerge'. -/
def fnExactMergeUptoCard : Claim7 := { stood := { row := fnExactMergeUptoRow, standIns := [], harness := (true, "0ccb14f4014838d88cd9b3916ab526cceed98578a9db6e47a17be6f00e08c114"), looks := false }, kinds := [], alts := [], laidByText := true, laidKinds := [.data], laidTests := true, laidLooks := .later }
def FnExactMergeUptoCardSaid : Prop := Claim7.holds Tryd.pinned (.plain (OpenSpec.upto fnExactMergeSpec)) fnExactMergeUptoCard

/-- THE SECOND FORM's CARD OF 'laws.FnExactNodesIn'. -/
def fnExactNodesInUptoCard : Claim7 := { stood := { row := fnExactNodesInUptoRow, standIns := [], harness := (true, "0ccb14f4014838d88cd9b3916ab526cceed98578a9db6e47a17be6f00e08c114"), looks := false }, kinds := [], alts := [], laidByText := true, laidKinds := [.data], laidTests := true, laidLooks := .later }
def FnExactNodesInUptoCardSaid : Prop := Claim7.holds Tryd.pinned (.plain (OpenSpec.upto fnExactNodesInSpec)) fnExactNodesInUptoCard

/-- THE SECOND FORM's CARD OF 'laws.FnExactClassesIn'. -/
def fnExactClassesInUptoCard : Claim7 := { stood := { row := fnExactClassesInUptoRow, standIns := [], harness := (true, "0ccb14f4014838d88cd9b3916ab526cceed98578a9db6e47a17be6f00e08c114"), looks := false }, kinds := [], alts := [], laidByText := true, laidKinds := [.data], laidTests := true, laidLooks := .later }
def FnExactClassesInUptoCardSaid : Prop := Claim7.holds Tryd.pinned (.plain (OpenSpec.upto fnExactClassesInSpec)) fnExactClassesInUptoCard

/-- THE SECOND FORM's CARD OF 'laws.FnExactClosed'. -/
def fnExactClosedUptoCard : Claim7 := { stood := { row := fnExactClosedUptoRow, standIns := [], harness := (true, "0ccb14f4014838d88cd9b3916ab526cceed98578a9db6e47a17be6f00e08c114"), looks := false }, kinds := [], alts := [], laidByText := true, laidKinds := [.data], laidTests := true, laidLooks := .later }
def FnExactClosedUptoCardSaid : Prop := Claim7.holds Tryd.pinned (.plain (OpenSpec.upto fnExactClosedSpec)) fnExactClosedUptoCard
end Rows
end Go.Proofs.YtdaimjmpggmocaaDoor
