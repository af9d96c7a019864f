/-
  DERIVED. GIVEN WITH THE SEED: THE CARDS: each row of YtfbbaemmgmeomaaDoorRows.lean that lists a variable, with what it lists TIED to the program's text (the seventh form; the later family's looks); each row that meets fmt, with fmt's text TOLD by the authors' own Lean function (tested against real Go, not proved from fmt's source: count such statements apart). THE CARD IS WHAT COUNTS. Prove the row's statement (the work); the ties are given (YtfbbaemmgmeomaaDoorTie.lean); close each card by the builder's one call (the guide's Derived/Test/ToyasCard.lean, 'card_holds'). Laid BY PROGRAM, IN A SANDBOX (cutbox-door.mjs). By AI agents, Wed Nov 11 2026. No macro, syntax, notation, axiom, sorry.
-/
import Derived.Test.YtfbbaemmgmeomaaDoorRows
import GoSem.ClaimSeven
namespace Go.Proofs.YtfbbaemmgmeomaaDoor
namespace Rows

/-- THE TIED CARD OF 'laws.FnExactGoodPattern'. -/
def fnExactGoodPatternCard : Claim7 := { stood := { row := fnExactGoodPatternRow, standIns := [], harness := (true, "b6f1b8e3647b1602ed84f1bc28f6f7c4ec115d76002404d02d9fbe3f6e54ea65"), looks := false }, kinds := [], alts := [], laidByText := true, laidKinds := [.data], laidTests := true, laidLooks := .later }
def FnExactGoodPatternCardSaid : Prop := Claim7.holds Tryd.pinned (.plain (OpenSpec.ofChange fnExactGoodPatternSpec)) fnExactGoodPatternCard

/-- THE TIED CARD OF 'laws.FnExactMatchAt'. -/
def fnExactMatchAtCard : Claim7 := { stood := { row := fnExactMatchAtRow, standIns := [], harness := (true, "b6f1b8e3647b1602ed84f1bc28f6f7c4ec115d76002404d02d9fbe3f6e54ea65"), looks := false }, kinds := [], alts := [], laidByText := true, laidKinds := [.data], laidTests := true, laidLooks := .later }
def FnExactMatchAtCardSaid : Prop := Claim7.holds Tryd.pinned (.plain (OpenSpec.ofChange fnExactMatchAtSpec)) fnExactMatchAtCard

/-- THE TIED CARD OF 'laws.FnExactAllMatches'. -/
def fnExactAllMatchesCard : Claim7 := { stood := { row := fnExactAllMatchesRow, standIns := [], harness := (true, "b6f1b8e3647b1602ed84f1bc28f6f7c4ec115d76002404d02d9fbe3f6e54ea65"), looks := false }, kinds := [], alts := [], laidByText := true, laidKinds := [.data], laidTests := true, laidLooks := .later }
def FnExactAllMatchesCardSaid : Prop := Claim7.holds Tryd.pinned (.plain (OpenSpec.ofChange fnExactAllMatchesSpec)) fnExactAllMatchesCard

/-- THE TIED CARD OF 'laws.FnExactIsMatch'. -/
def fnExactIsMatchCard : Claim7 := { stood := { row := fnExactIsMatchRow, standIns := [], harness := (true, "b6f1b8e3647b1602ed84f1bc28f6f7c4ec115d76002404d02d9fbe3f6e54ea65"), looks := false }, kinds := [], alts := [], laidByText := true, laidKinds := [.data], laidTests := true, laidLooks := .later }
def FnExactIsMatchCardSaid : Prop := Claim7.holds Tryd.pinned (.plain (OpenSpec.ofChange fnExactIsMatchSpec)) fnExactIsMatchCard

/-- THE SECOND FORM's CARD OF 'laws.FnExactGoodPattern'. -/
def fnExactGoodPatternUptoCard : Claim7 := { stood := { row := fnExactGoodPatternUptoRow, standIns := [], harness := (true, "b6f1b8e3647b1602ed84f1bc28f6f7c4ec115d76002404d02d9fbe3f6e54ea65"), looks := false }, kinds := [], alts := [], laidByText := true, laidKinds := [.data], laidTests := true, laidLooks := .later }
def FnExactGoodPatternUptoCardSaid : Prop := Claim7.holds Tryd.pinned (.plain (OpenSpec.upto fnExactGoodPatternSpec)) fnExactGoodPatternUptoCard

/-- THE SECOND FORM's CARD OF 'laws.FnExactMatchAt'. -/
def fnExactMatchAtUptoCard : Claim7 := { stood := { row := fnExactMatchAtUptoRow, standIns := [], harness := (true, "b6f1b8e3647b1602ed84f1bc28f6f7c4ec115d76002404d02d9fbe3f6e54ea65"), looks := false }, kinds := [], alts := [], laidByText := true, laidKinds := [.data], laidTests := true, laidLooks := .later }
def FnExactMatchAtUptoCardSaid : Prop := Claim7.holds Tryd.pinned (.plain (OpenSpec.upto fnExactMatchAtSpec)) fnExactMatchAtUptoCard

/-- THE SECOND FORM's CARD OF 'laws.FnExactAllMatches'. -/
def fnExactAllMatchesUptoCard : Claim7 := { stood := { row := fnExactAllMatchesUptoRow, standIns := [], harness := (true, "b6f1b8e3647b1602ed84f1bc28f6f7c4ec115d76002404d02d9fbe3f6e54ea65"), looks := false }, kinds := [], alts := [], laidByText := true, laidKinds := [.data], laidTests := true, laidLooks := .later }
def FnExactAllMatchesUptoCardSaid : Prop := Claim7.holds Tryd.pinned (.plain (OpenSpec.upto fnExactAllMatchesSpec)) fnExactAllMatchesUptoCard

/-- THE SECOND FORM's CARD OF 'laws.FnExactIsMatch'. -/
def fnExactIsMatchUptoCard : Claim7 := { stood := { row := fnExactIsMatchUptoRow, standIns := [], harness := (true, "b6f1b8e3647b1602ed84f1bc28f6f7c4ec115d76002404d02d9fbe3f6e54ea65"), looks := false }, kinds := [], alts := [], laidByText := true, laidKinds := [.data], laidTests := true, laidLooks := .later }
def FnExactIsMatchUptoCardSaid : Prop := Claim7.holds Tryd.pinned (.plain (OpenSpec.upto fnExactIsMatchSpec)) fnExactIsMatchUptoCard
end Rows
end Go.Proofs.YtfbbaemmgmeomaaDoor
