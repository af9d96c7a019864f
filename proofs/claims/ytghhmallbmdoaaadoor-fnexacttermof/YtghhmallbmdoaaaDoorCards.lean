/-
  DERIVED. GIVEN WITH THE SEED: THE CARDS: each row of YtghhmallbmdoaaaDoorRows.lean that lists a variable, with what it lists TIED to the program's text (the seventh form; the later family's looks); each row that meets fmt, with fmt's text TOLD by the authors' own Lean function (tested against real Go, not proved from fmt's source: count such statements apart). THE CARD IS WHAT COUNTS. Prove the row's statement (the work); the ties are given (YtghhmallbmdoaaaDoorTie.lean); close each card by the builder's one call (the guide's Derived/Test/ToyasCard.lean, 'card_holds'). Laid BY PROGRAM, IN A SANDBOX (cutbox-door.mjs). By AI agents, Wed Nov 11 2026. No macro, syntax, notation, axiom, sorry.
-/
import Derived.Test.YtghhmallbmdoaaaDoorRows
import GoSem.ClaimSeven
namespace Go.Proofs.YtghhmallbmdoaaaDoor
namespace Rows

/-- THE TIED CARD OF 'laws.FnExactIsRing'. -/
def fnExactIsRingCard : Claim7 := { stood := { row := fnExactIsRingRow, standIns := [], harness := (true, "076c35c2dec9106e7a5c3f6a38aa92f551f0f488e29aa077bd452e054266c315"), looks := false }, kinds := [], alts := [], laidByText := true, laidKinds := [.data], laidTests := true, laidLooks := .later }
def FnExactIsRingCardSaid : Prop := Claim7.holds Tryd.pinned (.plain (OpenSpec.ofChange fnExactIsRingSpec)) fnExactIsRingCard

/-- THE TIED CARD OF 'laws.FnExactTermOf'. -/
def fnExactTermOfCard : Claim7 := { stood := { row := fnExactTermOfRow, standIns := [], harness := (true, "076c35c2dec9106e7a5c3f6a38aa92f551f0f488e29aa077bd452e054266c315"), looks := false }, kinds := [], alts := [], laidByText := true, laidKinds := [.data], laidTests := true, laidLooks := .later }
def FnExactTermOfCardSaid : Prop := Claim7.holds Tryd.pinned (.plain (OpenSpec.ofChange fnExactTermOfSpec)) fnExactTermOfCard

/-- THE SECOND FORM's CARD OF 'laws.FnExactIsRing'. -/
def fnExactIsRingUptoCard : Claim7 := { stood := { row := fnExactIsRingUptoRow, standIns := [], harness := (true, "076c35c2dec9106e7a5c3f6a38aa92f551f0f488e29aa077bd452e054266c315"), looks := false }, kinds := [], alts := [], laidByText := true, laidKinds := [.data], laidTests := true, laidLooks := .later }
def FnExactIsRingUptoCardSaid : Prop := Claim7.holds Tryd.pinned (.plain (OpenSpec.upto fnExactIsRingSpec)) fnExactIsRingUptoCard

/-- THE SECOND FORM's CARD OF 'laws.FnExactTermOf'. -/
def fnExactTermOfUptoCard : Claim7 := { stood := { row := fnExactTermOfUptoRow, standIns := [], harness := (true, "076c35c2dec9106e7a5c3f6a38aa92f551f0f488e29aa077bd452e054266c315"), looks := false }, kinds := [], alts := [], laidByText := true, laidKinds := [.data], laidTests := true, laidLooks := .later }
def FnExactTermOfUptoCardSaid : Prop := Claim7.holds Tryd.pinned (.plain (OpenSpec.upto fnExactTermOfSpec)) fnExactTermOfUptoCard
end Rows
end Go.Proofs.YtghhmallbmdoaaaDoor
