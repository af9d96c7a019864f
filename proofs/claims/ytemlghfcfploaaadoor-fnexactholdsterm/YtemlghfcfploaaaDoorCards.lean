/-
  DERIVED. GIVEN WITH THE SEED: THE CARDS: each row of YtemlghfcfploaaaDoorRows.lean that lists a variable, with what it lists TIED to the program's text (the seventh form; the later family's looks); each row that meets fmt, with fmt's text TOLD by the authors' own Lean function (tested against real Go, not proved from fmt's source: count such statements apart). THE CARD IS WHAT COUNTS. Prove the row's statement (the work); the ties are given (YtemlghfcfploaaaDoorTie.lean); close each card by the builder's one call (the guide's Derived/Test/ToyasCard.lean, 'card_holds'). Laid BY PROGRAM, IN A SANDBOX (cutbox-door.mjs). By AI agents, Wed Nov 11 2026. No macro, syntax, notation, axiom, sorry.
-/
import Derived.Test.YtemlghfcfploaaaDoorRows
import GoSem.ClaimSeven
namespace Go.Proofs.YtemlghfcfploaaaDoor
namespace Rows

/-- THE TIED CARD OF 'laws.FnExactCostOfOp'. -/
def fnExactCostOfOpCard : Claim7 := { stood := { row := fnExactCostOfOpRow, standIns := [], harness := (true, "140196ab8cbdd55d521a5ba8ee6673d40e62ff71857868d357c8e5725f314992"), looks := false }, kinds := [], alts := [], laidByText := true, laidKinds := [.data, .data], laidTests := true, laidLooks := .later }
def FnExactCostOfOpCardSaid : Prop := Claim7.holds Tryd.pinned (.plain (OpenSpec.ofChange fnExactCostOfOpSpec)) fnExactCostOfOpCard

/-- THE TIED CARD OF 'laws.FnExactCostOf'. -/
def fnExactCostOfCard : Claim7 := { stood := { row := fnExactCostOfRow, standIns := [], harness := (true, "140196ab8cbdd55d521a5ba8ee6673d40e62ff71857868d357c8e5725f314992"), looks := false }, kinds := [], alts := [], laidByText := true, laidKinds := [.data, .data], laidTests := true, laidLooks := .later }
def FnExactCostOfCardSaid : Prop := Claim7.holds Tryd.pinned (.plain (OpenSpec.ofChange fnExactCostOfSpec)) fnExactCostOfCard

/-- THE TIED CARD OF 'laws.FnExactHoldsTerm'. -/
def fnExactHoldsTermCard : Claim7 := { stood := { row := fnExactHoldsTermRow, standIns := [], harness := (true, "140196ab8cbdd55d521a5ba8ee6673d40e62ff71857868d357c8e5725f314992"), looks := false }, kinds := [], alts := [], laidByText := true, laidKinds := [.data], laidTests := true, laidLooks := .later }
def FnExactHoldsTermCardSaid : Prop := Claim7.holds Tryd.pinned (.plain (OpenSpec.ofChange fnExactHoldsTermSpec)) fnExactHoldsTermCard

/-- THE SECOND FORM's CARD OF 'laws.FnExactCostOfOp'. -/
def fnExactCostOfOpUptoCard : Claim7 := { stood := { row := fnExactCostOfOpUptoRow, standIns := [], harness := (true, "140196ab8cbdd55d521a5ba8ee6673d40e62ff71857868d357c8e5725f314992"), looks := false }, kinds := [], alts := [], laidByText := true, laidKinds := [.data, .data], laidTests := true, laidLooks := .later }
def FnExactCostOfOpUptoCardSaid : Prop := Claim7.holds Tryd.pinned (.plain (OpenSpec.upto fnExactCostOfOpSpec)) fnExactCostOfOpUptoCard

/-- THE SECOND FORM's CARD OF 'laws.FnExactCostOf'. -/
def fnExactCostOfUptoCard : Claim7 := { stood := { row := fnExactCostOfUptoRow, standIns := [], harness := (true, "140196ab8cbdd55d521a5ba8ee6673d40e62ff71857868d357c8e5725f314992"), looks := false }, kinds := [], alts := [], laidByText := true, laidKinds := [.data, .data], laidTests := true, laidLooks := .later }
def FnExactCostOfUptoCardSaid : Prop := Claim7.holds Tryd.pinned (.plain (OpenSpec.upto fnExactCostOfSpec)) fnExactCostOfUptoCard

/-- THE SECOND FORM's CARD OF 'laws.FnExactHoldsTerm'. -/
def fnExactHoldsTermUptoCard : Claim7 := { stood := { row := fnExactHoldsTermUptoRow, standIns := [], harness := (true, "140196ab8cbdd55d521a5ba8ee6673d40e62ff71857868d357c8e5725f314992"), looks := false }, kinds := [], alts := [], laidByText := true, laidKinds := [.data], laidTests := true, laidLooks := .later }
def FnExactHoldsTermUptoCardSaid : Prop := Claim7.holds Tryd.pinned (.plain (OpenSpec.upto fnExactHoldsTermSpec)) fnExactHoldsTermUptoCard
end Rows
end Go.Proofs.YtemlghfcfploaaaDoor
