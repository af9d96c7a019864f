/-
  DERIVED. GIVEN WITH THE SEED: THE CARDS: each row of YtkadanagmahhgaaGreatDoorRows.lean that lists a variable, with what it lists TIED to the program's text (the seventh form; the later family's looks); each row that meets fmt, with fmt's text TOLD by the authors' own Lean function (tested against real Go, not proved from fmt's source: count such statements apart). THE CARD IS WHAT COUNTS. Prove the row's statement (the work); the ties are given (YtkadanagmahhgaaGreatDoorTie.lean); close each card by the builder's one call (the guide's Derived/Test/ToyasCard.lean, 'card_holds'). Laid BY PROGRAM, IN A SANDBOX (cutbox-door.mjs). By AI agents, Wed Nov 11 2026. No macro, syntax, notation, axiom, sorry.
-/
import Derived.Test.YtkadanagmahhgaaGreatDoorRows
import GoSem.ClaimSeven
namespace Go.Proofs.YtkadanagmahhgaaGreatDoor
namespace Rows

/-- THE TIED CARD OF 'laws.FnRuleText'. -/
def fnRuleTextCard : Claim7 := { stood := { row := fnRuleTextRow, standIns := [], harness := (true, "f00ad7bc9635f73696df99084896ca9bae54978b2bc0b44c54b0a1046481efc0"), looks := true }, kinds := [], alts := [], laidByText := true, laidKinds := [.data, .data, .data, .sentinel, .sentinel, .data, .data], laidTests := true, laidLooks := .later }
def FnRuleTextCardSaid : Prop := Claim7.holds Tryz.pinned (.plain (OpenSpec.ofChange fnRuleTextSpec)) fnRuleTextCard

/-- THE TIED CARD OF 'laws.FnExactCheckRule'. -/
def fnExactCheckRuleCard : Claim7 := { stood := { row := fnExactCheckRuleRow, standIns := [], harness := (true, "f00ad7bc9635f73696df99084896ca9bae54978b2bc0b44c54b0a1046481efc0"), looks := true }, kinds := [], alts := [], laidByText := true, laidKinds := [.data, .data, .data, .sentinel, .sentinel, .data, .data], laidTests := true, laidLooks := .later }
def FnExactCheckRuleCardSaid : Prop := Claim7.holds Tryz.pinned (.plain (OpenSpec.ofChange fnExactCheckRuleSpec)) fnExactCheckRuleCard

/-- THE SECOND FORM's CARD OF 'laws.FnRuleText'. -/
def fnRuleTextUptoCard : Claim7 := { stood := { row := fnRuleTextUptoRow, standIns := [], harness := (true, "f00ad7bc9635f73696df99084896ca9bae54978b2bc0b44c54b0a1046481efc0"), looks := true }, kinds := [], alts := [], laidByText := true, laidKinds := [.data, .data, .data, .sentinel, .sentinel, .data, .data], laidTests := true, laidLooks := .later }
def FnRuleTextUptoCardSaid : Prop := Claim7.holds Tryz.pinned (.plain (OpenSpec.upto fnRuleTextSpec)) fnRuleTextUptoCard

/-- THE SECOND FORM's CARD OF 'laws.FnExactCheckRule'. -/
def fnExactCheckRuleUptoCard : Claim7 := { stood := { row := fnExactCheckRuleUptoRow, standIns := [], harness := (true, "f00ad7bc9635f73696df99084896ca9bae54978b2bc0b44c54b0a1046481efc0"), looks := true }, kinds := [], alts := [], laidByText := true, laidKinds := [.data, .data, .data, .sentinel, .sentinel, .data, .data], laidTests := true, laidLooks := .later }
def FnExactCheckRuleUptoCardSaid : Prop := Claim7.holds Tryz.pinned (.plain (OpenSpec.upto fnExactCheckRuleSpec)) fnExactCheckRuleUptoCard
end Rows
end Go.Proofs.YtkadanagmahhgaaGreatDoor
