/-
  DERIVED. GIVEN WITH THE SEED: THE CARDS: each row of YtkadanagmahhgaaDoorRows.lean that lists a variable, with what it lists TIED to the program's text (the seventh form; the later family's looks); each row that meets fmt, with fmt's text TOLD by the authors' own Lean function (tested against real Go, not proved from fmt's source: count such statements apart). THE CARD IS WHAT COUNTS. Prove the row's statement (the work); the ties are given (YtkadanagmahhgaaDoorTie.lean); close each card by the builder's one call (the guide's Derived/Test/ToyasCard.lean, 'card_holds'). Laid BY PROGRAM, IN A SANDBOX (cutbox-door.mjs). By AI agents, Wed Nov 11 2026. No macro, syntax, notation, axiom, sorry.
-/
import Derived.Test.YtkadanagmahhgaaDoorRows
import GoSem.ClaimSeven
namespace Go.Proofs.YtkadanagmahhgaaDoor
namespace Rows

/-- THE TIED CARD OF 'laws.FnExactSameRule'. -/
def fnExactSameRuleCard : Claim7 := { stood := { row := fnExactSameRuleRow, standIns := [], harness := (true, "b01feba5fa04e174085ab725f533ad9872755c35b2dc622c0f14615f52f39de4"), looks := false }, kinds := [], alts := [], laidByText := true, laidKinds := [.data], laidTests := true, laidLooks := .later }
def FnExactSameRuleCardSaid : Prop := Claim7.holds Tryd.pinned (.plain (OpenSpec.ofChange fnExactSameRuleSpec)) fnExactSameRuleCard

/-- THE SECOND FORM's CARD OF 'laws.FnExactSameRule'. -/
def fnExactSameRuleUptoCard : Claim7 := { stood := { row := fnExactSameRuleUptoRow, standIns := [], harness := (true, "b01feba5fa04e174085ab725f533ad9872755c35b2dc622c0f14615f52f39de4"), looks := false }, kinds := [], alts := [], laidByText := true, laidKinds := [.data], laidTests := true, laidLooks := .later }
def FnExactSameRuleUptoCardSaid : Prop := Claim7.holds Tryd.pinned (.plain (OpenSpec.upto fnExactSameRuleSpec)) fnExactSameRuleUptoCard
end Rows
end Go.Proofs.YtkadanagmahhgaaDoor
