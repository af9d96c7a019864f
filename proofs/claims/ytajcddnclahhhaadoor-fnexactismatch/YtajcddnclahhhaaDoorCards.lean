/-
  DERIVED. GIVEN WITH THE SEED: THE CARDS: each row of YtajcddnclahhhaaDoorRows.lean that lists a variable, with what it lists TIED to the program's text (the seventh form; the later family's looks); each row that meets fmt, with fmt's text TOLD by the authors' own Lean function (tested against real Go, not proved from fmt's source: count such statements apart). THE CARD IS WHAT COUNTS. Prove the row's statement (the work); the ties are given (YtajcddnclahhhaaDoorTie.lean); close each card by the builder's one call (the guide's Derived/Test/ToyasCard.lean, 'card_holds'). Laid BY PROGRAM, IN A SANDBOX (cutbox-door.mjs). By AI agents, Wed Nov 11 2026. No macro, syntax, notation, axiom, sorry.
-/
import Derived.Test.YtajcddnclahhhaaDoorRows
import GoSem.ClaimSeven
namespace Go.Proofs.YtajcddnclahhhaaDoor
namespace Rows

/-- THE TIED CARD OF 'laws.FnExactMatchAt'. -/
def fnExactMatchAtCard : Claim7 := { stood := { row := fnExactMatchAtRow, standIns := [], harness := (true, "b692209a8852b1f1c2d3e1259e0d8550e0b835f5c41d510350c5e44e78d83c25"), looks := false }, kinds := [], alts := [], laidByText := true, laidKinds := [.data], laidTests := true, laidLooks := .later }
def FnExactMatchAtCardSaid : Prop := Claim7.holds Tryd.pinned (.plain (OpenSpec.ofChange fnExactMatchAtSpec)) fnExactMatchAtCard

/-- THE TIED CARD OF 'laws.FnExactAllMatches'. -/
def fnExactAllMatchesCard : Claim7 := { stood := { row := fnExactAllMatchesRow, standIns := [], harness := (true, "b692209a8852b1f1c2d3e1259e0d8550e0b835f5c41d510350c5e44e78d83c25"), looks := false }, kinds := [], alts := [], laidByText := true, laidKinds := [.data], laidTests := true, laidLooks := .later }
def FnExactAllMatchesCardSaid : Prop := Claim7.holds Tryd.pinned (.plain (OpenSpec.ofChange fnExactAllMatchesSpec)) fnExactAllMatchesCard

/-- THE TIED CARD OF 'laws.FnExactIsMatch'. -/
def fnExactIsMatchCard : Claim7 := { stood := { row := fnExactIsMatchRow, standIns := [], harness := (true, "b692209a8852b1f1c2d3e1259e0d8550e0b835f5c41d510350c5e44e78d83c25"), looks := false }, kinds := [], alts := [], laidByText := true, laidKinds := [.data], laidTests := true, laidLooks := .later }
def FnExactIsMatchCardSaid : Prop := Claim7.holds Tryd.pinned (.plain (OpenSpec.ofChange fnExactIsMatchSpec)) fnExactIsMatchCard

/-- THE SECOND FORM's CARD OF 'laws.FnExactMatchAt'. -/
def fnExactMatchAtUptoCard : Claim7 := { stood := { row := fnExactMatchAtUptoRow, standIns := [], harness := (true, "b692209a8852b1f1c2d3e1259e0d8550e0b835f5c41d510350c5e44e78d83c25"), looks := false }, kinds := [], alts := [], laidByText := true, laidKinds := [.data], laidTests := true, laidLooks := .later }
def FnExactMatchAtUptoCardSaid : Prop := Claim7.holds Tryd.pinned (.plain (OpenSpec.upto fnExactMatchAtSpec)) fnExactMatchAtUptoCard

/-- THE SECOND FORM's CARD OF 'laws.FnExactAllMatches'. -/
def fnExactAllMatchesUptoCard : Claim7 := { stood := { row := fnExactAllMatchesUptoRow, standIns := [], harness := (true, "b692209a8852b1f1c2d3e1259e0d8550e0b835f5c41d510350c5e44e78d83c25"), looks := false }, kinds := [], alts := [], laidByText := true, laidKinds := [.data], laidTests := true, laidLooks := .later }
def FnExactAllMatchesUptoCardSaid : Prop := Claim7.holds Tryd.pinned (.plain (OpenSpec.upto fnExactAllMatchesSpec)) fnExactAllMatchesUptoCard

/-- THE SECOND FORM's CARD OF 'laws.FnExactIsMatch'. -/
def fnExactIsMatchUptoCard : Claim7 := { stood := { row := fnExactIsMatchUptoRow, standIns := [], harness := (true, "b692209a8852b1f1c2d3e1259e0d8550e0b835f5c41d510350c5e44e78d83c25"), looks := false }, kinds := [], alts := [], laidByText := true, laidKinds := [.data], laidTests := true, laidLooks := .later }
def FnExactIsMatchUptoCardSaid : Prop := Claim7.holds Tryd.pinned (.plain (OpenSpec.upto fnExactIsMatchSpec)) fnExactIsMatchUptoCard
end Rows
end Go.Proofs.YtajcddnclahhhaaDoor
