/-
  DERIVED. GIVEN WITH THE SEED: THE CARDS: each row of YtpjgjpjfchfmlaaDoorRows.lean that lists a variable, with what it lists TIED to the program's text (the seventh form; the later family's looks); each row that meets fmt, with fmt's text TOLD by the authors' own Lean function (tested against real Go, not proved from fmt's source: count such statements apart). THE CARD IS WHAT COUNTS. Prove the row's statement (the work); the ties are given (YtpjgjpjfchfmlaaDoorTie.lean); close each card by the builder's one call (the guide's Derived/Test/ToyasCard.lean, 'card_holds'). Laid BY PROGRAM, IN A SANDBOX (cutbox-door.mjs). By AI agents, Wed Nov 11 2026. No macro, syntax, notation, axiom, sorry.
-/
import Derived.Test.YtpjgjpjfchfmlaaDoorRows
import GoSem.ClaimSeven
namespace Go.Proofs.YtpjgjpjfchfmlaaDoor
namespace Rows

/-- THE TIED CARD OF 'laws.FnExactPolyOf'. -/
def fnExactPolyOfCard : Claim7 := { stood := { row := fnExactPolyOfRow, standIns := [], harness := (true, "af80ce53df110fa40ea3ffa9ccaf63cb3f090cb482167a419c6dc2601e4f46c2"), looks := true }, kinds := [], alts := [], laidByText := true, laidKinds := [.data], laidTests := true, laidLooks := .later }
def FnExactPolyOfCardSaid : Prop := Claim7.holds Tryd.pinned (.plain (OpenSpec.ofChange fnExactPolyOfSpec)) fnExactPolyOfCard

/-- THE TIED CARD OF 'laws.FnExactSameRing'. -/
def fnExactSameRingCard : Claim7 := { stood := { row := fnExactSameRingRow, standIns := [], harness := (true, "af80ce53df110fa40ea3ffa9ccaf63cb3f090cb482167a419c6dc2601e4f46c2"), looks := true }, kinds := [], alts := [], laidByText := true, laidKinds := [.data], laidTests := true, laidLooks := .later }
def FnExactSameRingCardSaid : Prop := Claim7.holds Tryd.pinned (.plain (OpenSpec.ofChange fnExactSameRingSpec)) fnExactSameRingCard

/-- THE SECOND FORM's CARD OF 'laws.FnExactPolyOf'. -/
def fnExactPolyOfUptoCard : Claim7 := { stood := { row := fnExactPolyOfUptoRow, standIns := [], harness := (true, "af80ce53df110fa40ea3ffa9ccaf63cb3f090cb482167a419c6dc2601e4f46c2"), looks := true }, kinds := [], alts := [], laidByText := true, laidKinds := [.data], laidTests := true, laidLooks := .later }
def FnExactPolyOfUptoCardSaid : Prop := Claim7.holds Tryd.pinned (.plain (OpenSpec.upto fnExactPolyOfSpec)) fnExactPolyOfUptoCard

/-- THE SECOND FORM's CARD OF 'laws.FnExactSameRing'. -/
def fnExactSameRingUptoCard : Claim7 := { stood := { row := fnExactSameRingUptoRow, standIns := [], harness := (true, "af80ce53df110fa40ea3ffa9ccaf63cb3f090cb482167a419c6dc2601e4f46c2"), looks := true }, kinds := [], alts := [], laidByText := true, laidKinds := [.data], laidTests := true, laidLooks := .later }
def FnExactSameRingUptoCardSaid : Prop := Claim7.holds Tryd.pinned (.plain (OpenSpec.upto fnExactSameRingSpec)) fnExactSameRingUptoCard
end Rows
end Go.Proofs.YtpjgjpjfchfmlaaDoor
