/-
  DERIVED. GIVEN WITH THE SEED: THE CARDS: each row of YtmbggaepckgogaaDoorRows.lean that lists a variable, with what it lists TIED to the program's text (the seventh form; the later family's looks); each row that meets fmt, with fmt's text TOLD by the authors' own Lean function (tested against real Go, not proved from fmt's source: count such statements apart). THE CARD IS WHAT COUNTS. Prove the row's statement (the work); the ties are given (YtmbggaepckgogaaDoorTie.lean); close each card by the builder's one call (the guide's Derived/Test/ToyasCard.lean, 'card_holds'). Laid BY PROGRAM, IN A SANDBOX (cutbox-door.mjs). By AI agents, Wed Nov 11 2026. No macro, syntax, notation, axiom, sorry.
-/
import Derived.Test.YtmbggaepckgogaaDoorRows
import GoSem.ClaimSeven
namespace Go.Proofs.YtmbggaepckgogaaDoor
namespace Rows

/-- THE TIED CARD OF 'laws.FnExactBestCosts'. -/
def fnExactBestCostsCard : Claim7 := { stood := { row := fnExactBestCostsRow, standIns := [], harness := (true, "d885df964fbc8b965f216a31c19ad6b3515b30ce25ab4a8fef70a37d9badb640"), looks := false }, kinds := [], alts := [], laidByText := true, laidKinds := [.data, .data], laidTests := true, laidLooks := .later }
def FnExactBestCostsCardSaid : Prop := Claim7.holds Tryd.pinned (.plain (OpenSpec.ofChange fnExactBestCostsSpec)) fnExactBestCostsCard

/-- THE TIED CARD OF 'laws.FnExactChosenIn'. -/
def fnExactChosenInCard : Claim7 := { stood := { row := fnExactChosenInRow, standIns := [], harness := (true, "d885df964fbc8b965f216a31c19ad6b3515b30ce25ab4a8fef70a37d9badb640"), looks := false }, kinds := [], alts := [], laidByText := true, laidKinds := [.data, .data], laidTests := true, laidLooks := .later }
def FnExactChosenInCardSaid : Prop := Claim7.holds Tryd.pinned (.plain (OpenSpec.ofChange fnExactChosenInSpec)) fnExactChosenInCard

/-- THE TIED CARD OF 'laws.FnExactExtract'. -/
def fnExactExtractCard : Claim7 := { stood := { row := fnExactExtractRow, standIns := [], harness := (true, "d885df964fbc8b965f216a31c19ad6b3515b30ce25ab4a8fef70a37d9badb640"), looks := false }, kinds := [], alts := [], laidByText := true, laidKinds := [.data, .data], laidTests := true, laidLooks := .later }
def FnExactExtractCardSaid : Prop := Claim7.holds Tryd.pinned (.plain (OpenSpec.ofChange fnExactExtractSpec)) fnExactExtractCard

/-- THE SECOND FORM's CARD OF 'laws.FnExactBestCosts'. -/
def fnExactBestCostsUptoCard : Claim7 := { stood := { row := fnExactBestCostsUptoRow, standIns := [], harness := (true, "d885df964fbc8b965f216a31c19ad6b3515b30ce25ab4a8fef70a37d9badb640"), looks := false }, kinds := [], alts := [], laidByText := true, laidKinds := [.data, .data], laidTests := true, laidLooks := .later }
def FnExactBestCostsUptoCardSaid : Prop := Claim7.holds Tryd.pinned (.plain (OpenSpec.upto fnExactBestCostsSpec)) fnExactBestCostsUptoCard

/-- THE SECOND FORM's CARD OF 'laws.FnExactChosenIn'. -/
def fnExactChosenInUptoCard : Claim7 := { stood := { row := fnExactChosenInUptoRow, standIns := [], harness := (true, "d885df964fbc8b965f216a31c19ad6b3515b30ce25ab4a8fef70a37d9badb640"), looks := false }, kinds := [], alts := [], laidByText := true, laidKinds := [.data, .data], laidTests := true, laidLooks := .later }
def FnExactChosenInUptoCardSaid : Prop := Claim7.holds Tryd.pinned (.plain (OpenSpec.upto fnExactChosenInSpec)) fnExactChosenInUptoCard

/-- THE SECOND FORM's CARD OF 'laws.FnExactExtract'. -/
def fnExactExtractUptoCard : Claim7 := { stood := { row := fnExactExtractUptoRow, standIns := [], harness := (true, "d885df964fbc8b965f216a31c19ad6b3515b30ce25ab4a8fef70a37d9badb640"), looks := false }, kinds := [], alts := [], laidByText := true, laidKinds := [.data, .data], laidTests := true, laidLooks := .later }
def FnExactExtractUptoCardSaid : Prop := Claim7.holds Tryd.pinned (.plain (OpenSpec.upto fnExactExtractSpec)) fnExactExtractUptoCard
end Rows
end Go.Proofs.YtmbggaepckgogaaDoor
