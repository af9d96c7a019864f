/-
  DERIVED. GIVEN WITH THE SEED: THE CARDS: each row of YtpjgjpjfchfmlaaGreatDoorRows.lean that lists a variable, with what it lists TIED to the program's text (the seventh form; the later family's looks); each row that meets fmt, with fmt's text TOLD by the authors' own Lean function (tested against real Go, not proved from fmt's source: count such statements apart). THE CARD IS WHAT COUNTS. Prove the row's statement (the work); the ties are given (YtpjgjpjfchfmlaaGreatDoorTie.lean); close each card by the builder's one call (the guide's Derived/Test/ToyasCard.lean, 'card_holds'). Laid BY PROGRAM, IN A SANDBOX (cutbox-door.mjs). By AI agents, Wed Nov 11 2026. No macro, syntax, notation, axiom, sorry.
-/
import Derived.Test.YtpjgjpjfchfmlaaGreatDoorRows
import GoSem.ClaimSeven
namespace Go.Proofs.YtpjgjpjfchfmlaaGreatDoor
namespace Rows

/-- THE TIED CARD OF 'laws.FnRing'. -/
def fnRingCard : Claim7 := { stood := { row := fnRingRow, standIns := [], harness := (true, "79dbfbf32d44d2fa902733b12e15e012531c6192b4204519580d5e6411bcfc8c"), looks := true }, kinds := [], alts := [], laidByText := true, laidKinds := [.data], laidTests := true, laidLooks := .later }
def FnRingCardSaid : Prop := Claim7.holds Tryz.pinned (.plain (OpenSpec.ofChange fnRingSpec)) fnRingCard

/-- THE TIED CARD OF 'laws.FnSameRing'. -/
def fnSameRingCard : Claim7 := { stood := { row := fnSameRingRow, standIns := [], harness := (true, "79dbfbf32d44d2fa902733b12e15e012531c6192b4204519580d5e6411bcfc8c"), looks := true }, kinds := [], alts := [], laidByText := true, laidKinds := [.data], laidTests := true, laidLooks := .later }
def FnSameRingCardSaid : Prop := Claim7.holds Tryz.pinned (.plain (OpenSpec.ofChange fnSameRingSpec)) fnSameRingCard

/-- THE SECOND FORM's CARD OF 'laws.FnRing'. -/
def fnRingUptoCard : Claim7 := { stood := { row := fnRingUptoRow, standIns := [], harness := (true, "79dbfbf32d44d2fa902733b12e15e012531c6192b4204519580d5e6411bcfc8c"), looks := true }, kinds := [], alts := [], laidByText := true, laidKinds := [.data], laidTests := true, laidLooks := .later }
def FnRingUptoCardSaid : Prop := Claim7.holds Tryz.pinned (.plain (OpenSpec.upto fnRingSpec)) fnRingUptoCard

/-- THE SECOND FORM's CARD OF 'laws.FnSameRing'. -/
def fnSameRingUptoCard : Claim7 := { stood := { row := fnSameRingUptoRow, standIns := [], harness := (true, "79dbfbf32d44d2fa902733b12e15e012531c6192b4204519580d5e6411bcfc8c"), looks := true }, kinds := [], alts := [], laidByText := true, laidKinds := [.data], laidTests := true, laidLooks := .later }
def FnSameRingUptoCardSaid : Prop := Claim7.holds Tryz.pinned (.plain (OpenSpec.upto fnSameRingSpec)) fnSameRingUptoCard
end Rows
end Go.Proofs.YtpjgjpjfchfmlaaGreatDoor
