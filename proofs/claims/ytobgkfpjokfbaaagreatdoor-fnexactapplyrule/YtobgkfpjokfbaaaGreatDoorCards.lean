/-
  DERIVED. GIVEN WITH THE SEED: THE CARDS: each row of YtobgkfpjokfbaaaGreatDoorRows.lean that lists a variable, with what it lists TIED to the program's text (the seventh form; the later family's looks); each row that meets fmt, with fmt's text TOLD by the authors' own Lean function (tested against real Go, not proved from fmt's source: count such statements apart). THE CARD IS WHAT COUNTS. Prove the row's statement (the work); the ties are given (YtobgkfpjokfbaaaGreatDoorTie.lean); close each card by the builder's one call (the guide's Derived/Test/ToyasCard.lean, 'card_holds'). Laid BY PROGRAM, IN A SANDBOX (cutbox-door.mjs). By AI agents, Wed Nov 11 2026. No macro, syntax, notation, axiom, sorry.
-/
import Derived.Test.YtobgkfpjokfbaaaGreatDoorRows
import GoSem.ClaimSeven
namespace Go.Proofs.YtobgkfpjokfbaaaGreatDoor
namespace Rows

/-- THE TIED CARD OF 'laws.FnExactApplyRule'. -/
def fnExactApplyRuleCard : Claim7 := { stood := { row := fnExactApplyRuleRow, standIns := [], harness := (true, "e33261f04e18ea84319b8abfdc825c73966f0d302e2aaf113a9c7ce91727577e"), looks := false }, kinds := [], alts := [], laidByText := true, laidKinds := [.data], laidTests := true, laidLooks := .later }
def FnExactApplyRuleCardSaid : Prop := Claim7.holds Tryz.pinned (.plain (OpenSpec.ofChange fnExactApplyRuleSpec)) fnExactApplyRuleCard

/-- THE SECOND FORM's CARD OF 'laws.FnExactApplyRule'. -/
def fnExactApplyRuleUptoCard : Claim7 := { stood := { row := fnExactApplyRuleUptoRow, standIns := [], harness := (true, "e33261f04e18ea84319b8abfdc825c73966f0d302e2aaf113a9c7ce91727577e"), looks := false }, kinds := [], alts := [], laidByText := true, laidKinds := [.data], laidTests := true, laidLooks := .later }
def FnExactApplyRuleUptoCardSaid : Prop := Claim7.holds Tryz.pinned (.plain (OpenSpec.upto fnExactApplyRuleSpec)) fnExactApplyRuleUptoCard
end Rows
end Go.Proofs.YtobgkfpjokfbaaaGreatDoor
