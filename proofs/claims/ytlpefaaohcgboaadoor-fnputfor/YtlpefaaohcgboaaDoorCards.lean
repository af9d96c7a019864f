/-
  DERIVED. GIVEN WITH THE SEED: THE CARDS: each row of YtlpefaaohcgboaaDoorRows.lean that lists a variable, with what it lists TIED to the program's text (the seventh form; the later family's looks); each row that meets fmt, with fmt's text TOLD by the authors' own Lean function (tested against real Go, not proved from fmt's source: count such statements apart). THE CARD IS WHAT COUNTS. Prove the row's statement (the work); the ties are given (YtlpefaaohcgboaaDoorTie.lean); close each card by the builder's one call (the guide's Derived/Test/ToyasCard.lean, 'card_holds'). Laid BY PROGRAM, IN A SANDBOX (cutbox-door.mjs). By AI agents, Wed Nov 11 2026. No macro, syntax, notation, axiom, sorry.
-/
import Derived.Test.YtlpefaaohcgboaaDoorRows
import GoSem.ClaimSeven
namespace Go.Proofs.YtlpefaaohcgboaaDoor
namespace Rows

/-- THE TIED CARD OF 'laws.FnPutFor'. -/
def fnPutForCard : Claim7 := { stood := { row := fnPutForRow, standIns := [], harness := (true, "4db6b857f0a4c30a82fdc3c0ee415aadd5a0aa36b92b5b419da44faa05094cd0"), looks := true }, kinds := [], alts := [], laidByText := true, laidKinds := [.data], laidTests := true, laidLooks := .later }
def FnPutForCardSaid : Prop := Claim7.holds Tryd.pinned (.plain (OpenSpec.ofChange fnPutForSpec)) fnPutForCard

/-- THE TIED CARD OF 'laws.FnReplaced'. -/
def fnReplacedCard : Claim7 := { stood := { row := fnReplacedRow, standIns := [], harness := (true, "4db6b857f0a4c30a82fdc3c0ee415aadd5a0aa36b92b5b419da44faa05094cd0"), looks := true }, kinds := [], alts := [], laidByText := true, laidKinds := [.data], laidTests := true, laidLooks := .later }
def FnReplacedCardSaid : Prop := Claim7.holds Tryd.pinned (.plain (OpenSpec.ofChange fnReplacedSpec)) fnReplacedCard

/-- THE TIED CARD OF 'laws.FnExactReplaceAt'. -/
def fnExactReplaceAtCard : Claim7 := { stood := { row := fnExactReplaceAtRow, standIns := [], harness := (true, "4db6b857f0a4c30a82fdc3c0ee415aadd5a0aa36b92b5b419da44faa05094cd0"), looks := true }, kinds := [], alts := [], laidByText := true, laidKinds := [.data], laidTests := true, laidLooks := .later }
def FnExactReplaceAtCardSaid : Prop := Claim7.holds Tryd.pinned (.plain (OpenSpec.ofChange fnExactReplaceAtSpec)) fnExactReplaceAtCard

/-- THE TIED CARD OF 'laws.FnExactJoinTerm'. -/
def fnExactJoinTermCard : Claim7 := { stood := { row := fnExactJoinTermRow, standIns := [], harness := (true, "4db6b857f0a4c30a82fdc3c0ee415aadd5a0aa36b92b5b419da44faa05094cd0"), looks := true }, kinds := [], alts := [], laidByText := true, laidKinds := [.data], laidTests := true, laidLooks := .later }
def FnExactJoinTermCardSaid : Prop := Claim7.holds Tryd.pinned (.plain (OpenSpec.ofChange fnExactJoinTermSpec)) fnExactJoinTermCard

/-- THE SECOND FORM's CARD OF 'laws.FnPutFor'. -/
def fnPutForUptoCard : Claim7 := { stood := { row := fnPutForUptoRow, standIns := [], harness := (true, "4db6b857f0a4c30a82fdc3c0ee415aadd5a0aa36b92b5b419da44faa05094cd0"), looks := true }, kinds := [], alts := [], laidByText := true, laidKinds := [.data], laidTests := true, laidLooks := .later }
def FnPutForUptoCardSaid : Prop := Claim7.holds Tryd.pinned (.plain (OpenSpec.upto fnPutForSpec)) fnPutForUptoCard

/-- THE SECOND FORM's CARD OF 'laws.FnReplaced'. -/
def fnReplacedUptoCard : Claim7 := { stood := { row := fnReplacedUptoRow, standIns := [], harness := (true, "4db6b857f0a4c30a82fdc3c0ee415aadd5a0aa36b92b5b419da44faa05094cd0"), looks := true }, kinds := [], alts := [], laidByText := true, laidKinds := [.data], laidTests := true, laidLooks := .later }
def FnReplacedUptoCardSaid : Prop := Claim7.holds Tryd.pinned (.plain (OpenSpec.upto fnReplacedSpec)) fnReplacedUptoCard

/-- THE SECOND FORM's CARD OF 'laws.FnExactReplaceAt'. -/
def fnExactReplaceAtUptoCard : Claim7 := { stood := { row := fnExactReplaceAtUptoRow, standIns := [], harness := (true, "4db6b857f0a4c30a82fdc3c0ee415aadd5a0aa36b92b5b419da44faa05094cd0"), looks := true }, kinds := [], alts := [], laidByText := true, laidKinds := [.data], laidTests := true, laidLooks := .later }
def FnExactReplaceAtUptoCardSaid : Prop := Claim7.holds Tryd.pinned (.plain (OpenSpec.upto fnExactReplaceAtSpec)) fnExactReplaceAtUptoCard

/-- THE SECOND FORM's CARD OF 'laws.FnExactJoinTerm'. -/
def fnExactJoinTermUptoCard : Claim7 := { stood := { row := fnExactJoinTermUptoRow, standIns := [], harness := (true, "4db6b857f0a4c30a82fdc3c0ee415aadd5a0aa36b92b5b419da44faa05094cd0"), looks := true }, kinds := [], alts := [], laidByText := true, laidKinds := [.data], laidTests := true, laidLooks := .later }
def FnExactJoinTermUptoCardSaid : Prop := Claim7.holds Tryd.pinned (.plain (OpenSpec.upto fnExactJoinTermSpec)) fnExactJoinTermUptoCard
end Rows
end Go.Proofs.YtlpefaaohcgboaaDoor
