/-
  DERIVED. GIVEN WITH THE SEED: THE CARDS: each row of YtbchehpggoampaaDoorRows.lean that lists a variable, with what it lists TIED to the program's text (the seventh form; the later family's looks); each row that meets fmt, with fmt's text TOLD by the authors' own Lean function (tested against real Go, not proved from fmt's source: count such statements apart). THE CARD IS WHAT COUNTS. Prove the row's statement (the work); the ties are given (YtbchehpggoampaaDoorTie.lean); close each card by the builder's one call (the guide's Derived/Test/ToyasCard.lean, 'card_holds'). Laid BY PROGRAM, IN A SANDBOX (cutbox-door.mjs). By AI agents, Wed Nov 11 2026. No macro, syntax, notation, axiom, sorry.
-/
import Derived.Test.YtbchehpggoampaaDoorRows
import GoSem.ClaimSeven
namespace Go.Proofs.YtbchehpggoampaaDoor
namespace Rows

/-- THE TIED CARD OF 'laws.FnExactGoodRule'. -/
def fnExactGoodRuleCard : Claim7 := { stood := { row := fnExactGoodRuleRow, standIns := [], harness := (true, "5288beed677bcbcdd86e5f2e062cac7f8b65626fa72cabecacaef3efd8cd5b84"), looks := true }, kinds := [], alts := [], laidByText := true, laidKinds := [.data], laidTests := true, laidLooks := .later }
def FnExactGoodRuleCardSaid : Prop := Claim7.holds Tryd.pinned (.plain (OpenSpec.ofChange fnExactGoodRuleSpec)) fnExactGoodRuleCard

/-- THE TIED CARD OF 'laws.FnExactAxiomAt'. -/
def fnExactAxiomAtCard : Claim7 := { stood := { row := fnExactAxiomAtRow, standIns := [], harness := (true, "5288beed677bcbcdd86e5f2e062cac7f8b65626fa72cabecacaef3efd8cd5b84"), looks := true }, kinds := [], alts := [], laidByText := true, laidKinds := [.data, .data, .data, .sentinel, .sentinel, .data, .data], laidTests := true, laidLooks := .later }
def FnExactAxiomAtCardSaid : Prop := Claim7.holds Tryd.pinned (.plain (OpenSpec.ofChange fnExactAxiomAtSpec)) fnExactAxiomAtCard

/-- THE TIED CARD OF 'laws.FnExactRuleText'. -/
def fnExactRuleTextCard : Claim7 := { stood := { row := fnExactRuleTextRow, standIns := [], harness := (true, "5288beed677bcbcdd86e5f2e062cac7f8b65626fa72cabecacaef3efd8cd5b84"), looks := true }, kinds := [], alts := [], laidByText := true, laidKinds := [.data, .data, .data, .data, .data], laidTests := true, laidLooks := .later }
def FnExactRuleTextCardSaid : Prop := Claim7.holds Tryd.pinned (.plain (OpenSpec.ofChange fnExactRuleTextSpec)) fnExactRuleTextCard

/-- THE TIED CARD OF 'laws.FnExactReadRule'. -/
def fnExactReadRuleCard : Claim7 := { stood := { row := fnExactReadRuleRow, standIns := [], harness := (true, "5288beed677bcbcdd86e5f2e062cac7f8b65626fa72cabecacaef3efd8cd5b84"), looks := true }, kinds := [], alts := [], laidByText := true, laidKinds := [.data, .data, .data, .sentinel, .sentinel, .data, .data], laidTests := true, laidLooks := .later }
def FnExactReadRuleCardSaid : Prop := Claim7.holds Tryd.pinned (.plain (OpenSpec.ofChange fnExactReadRuleSpec)) fnExactReadRuleCard

/-- THE TIED CARD OF 'laws.FnExactShippedRules'. -/
def fnExactShippedRulesCard : Claim7 := { stood := { row := fnExactShippedRulesRow, standIns := [], harness := (true, "5288beed677bcbcdd86e5f2e062cac7f8b65626fa72cabecacaef3efd8cd5b84"), looks := true }, kinds := [], alts := [], laidByText := true, laidKinds := [.data, .data, .data, .sentinel, .sentinel, .data, .data], laidTests := true, laidLooks := .later }
def FnExactShippedRulesCardSaid : Prop := Claim7.holds Tryd.pinned (.plain (OpenSpec.ofChange fnExactShippedRulesSpec)) fnExactShippedRulesCard

/-- THE TIED CARD OF 'laws.FnExactHoldsAt'. -/
def fnExactHoldsAtCard : Claim7 := { stood := { row := fnExactHoldsAtRow, standIns := [], harness := (true, "5288beed677bcbcdd86e5f2e062cac7f8b65626fa72cabecacaef3efd8cd5b84"), looks := true }, kinds := [], alts := [], laidByText := true, laidKinds := [.data], laidTests := true, laidLooks := .later }
def FnExactHoldsAtCardSaid : Prop := Claim7.holds Tryd.pinned (.plain (OpenSpec.ofChange fnExactHoldsAtSpec)) fnExactHoldsAtCard

/-- THE SECOND FORM's CARD OF 'laws.FnExactGoodRule'. -/
def fnExactGoodRuleUptoCard : Claim7 := { stood := { row := fnExactGoodRuleUptoRow, standIns := [], harness := (true, "5288beed677bcbcdd86e5f2e062cac7f8b65626fa72cabecacaef3efd8cd5b84"), looks := true }, kinds := [], alts := [], laidByText := true, laidKinds := [.data], laidTests := true, laidLooks := .later }
def FnExactGoodRuleUptoCardSaid : Prop := Claim7.holds Tryd.pinned (.plain (OpenSpec.upto fnExactGoodRuleSpec)) fnExactGoodRuleUptoCard

/-- THE SECOND FORM's CARD OF 'laws.FnExactAxiomAt'. -/
def fnExactAxiomAtUptoCard : Claim7 := { stood := { row := fnExactAxiomAtUptoRow, standIns := [], harness := (true, "5288beed677bcbcdd86e5f2e062cac7f8b65626fa72cabecacaef3efd8cd5b84"), looks := true }, kinds := [], alts := [], laidByText := true, laidKinds := [.data, .data, .data, .sentinel, .sentinel, .data, .data], laidTests := true, laidLooks := .later }
def FnExactAxiomAtUptoCardSaid : Prop := Claim7.holds Tryd.pinned (.plain (OpenSpec.upto fnExactAxiomAtSpec)) fnExactAxiomAtUptoCard

/-- THE SECOND FORM's CARD OF 'laws.FnExactRuleText'. -/
def fnExactRuleTextUptoCard : Claim7 := { stood := { row := fnExactRuleTextUptoRow, standIns := [], harness := (true, "5288beed677bcbcdd86e5f2e062cac7f8b65626fa72cabecacaef3efd8cd5b84"), looks := true }, kinds := [], alts := [], laidByText := true, laidKinds := [.data, .data, .data, .data, .data], laidTests := true, laidLooks := .later }
def FnExactRuleTextUptoCardSaid : Prop := Claim7.holds Tryd.pinned (.plain (OpenSpec.upto fnExactRuleTextSpec)) fnExactRuleTextUptoCard

/-- THE SECOND FORM's CARD OF 'laws.FnExactReadRule'. -/
def fnExactReadRuleUptoCard : Claim7 := { stood := { row := fnExactReadRuleUptoRow, standIns := [], harness := (true, "5288beed677bcbcdd86e5f2e062cac7f8b65626fa72cabecacaef3efd8cd5b84"), looks := true }, kinds := [], alts := [], laidByText := true, laidKinds := [.data, .data, .data, .sentinel, .sentinel, .data, .data], laidTests := true, laidLooks := .later }
def FnExactReadRuleUptoCardSaid : Prop := Claim7.holds Tryd.pinned (.plain (OpenSpec.upto fnExactReadRuleSpec)) fnExactReadRuleUptoCard

/-- THE SECOND FORM's CARD OF 'laws.FnExactShippedRules'. -/
def fnExactShippedRulesUptoCard : Claim7 := { stood := { row := fnExactShippedRulesUptoRow, standIns := [], harness := (true, "5288beed677bcbcdd86e5f2e062cac7f8b65626fa72cabecacaef3efd8cd5b84"), looks := true }, kinds := [], alts := [], laidByText := true, laidKinds := [.data, .data, .data, .sentinel, .sentinel, .data, .data], laidTests := true, laidLooks := .later }
def FnExactShippedRulesUptoCardSaid : Prop := Claim7.holds Tryd.pinned (.plain (OpenSpec.upto fnExactShippedRulesSpec)) fnExactShippedRulesUptoCard

/-- THE SECOND FORM's CARD OF 'laws.FnExactHoldsAt'. -/
def fnExactHoldsAtUptoCard : Claim7 := { stood := { row := fnExactHoldsAtUptoRow, standIns := [], harness := (true, "5288beed677bcbcdd86e5f2e062cac7f8b65626fa72cabecacaef3efd8cd5b84"), looks := true }, kinds := [], alts := [], laidByText := true, laidKinds := [.data], laidTests := true, laidLooks := .later }
def FnExactHoldsAtUptoCardSaid : Prop := Claim7.holds Tryd.pinned (.plain (OpenSpec.upto fnExactHoldsAtSpec)) fnExactHoldsAtUptoCard
end Rows
end Go.Proofs.YtbchehpggoampaaDoor
