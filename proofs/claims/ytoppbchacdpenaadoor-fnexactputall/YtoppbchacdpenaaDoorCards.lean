/-
  DERIVED. GIVEN WITH THE SEED: THE CARDS: each row of YtoppbchacdpenaaDoorRows.lean that lists a variable, with what it lists TIED to the program's text (the seventh form; the later family's looks); each row that meets fmt, with fmt's text TOLD by the authors' own Lean function (tested against real Go, not proved from fmt's source: count such statements apart). THE CARD IS WHAT COUNTS. Prove the row's statement (the work); the ties are given (YtoppbchacdpenaaDoorTie.lean); close each card by the builder's one call (the guide's Derived/Test/ToyasCard.lean, 'card_holds'). Laid BY PROGRAM, IN A SANDBOX (cutbox-door.mjs). By AI agents, Wed Nov 11 2026. No macro, syntax, notation, axiom, sorry.
-/
import Derived.Test.YtoppbchacdpenaaDoorRows
import GoSem.ClaimSeven
namespace Go.Proofs.YtoppbchacdpenaaDoor
namespace Rows

/-- THE TIED CARD OF 'laws.FnExactGoodTerm'. -/
def fnExactGoodTermCard : Claim7 := { stood := { row := fnExactGoodTermRow, standIns := [], harness := (true, "3d342d64feea02ae99cfa5cafa62899bf053256011947d164ebdfc8ea98f975d"), looks := true }, kinds := [], alts := [], laidByText := true, laidKinds := [.data], laidTests := true, laidLooks := .later }
def FnExactGoodTermCardSaid : Prop := Claim7.holds Tryd.pinned (.plain (OpenSpec.ofChange fnExactGoodTermSpec)) fnExactGoodTermCard

/-- THE TIED CARD OF 'laws.FnExactEvalTerm'. -/
def fnExactEvalTermCard : Claim7 := { stood := { row := fnExactEvalTermRow, standIns := [], harness := (true, "3d342d64feea02ae99cfa5cafa62899bf053256011947d164ebdfc8ea98f975d"), looks := true }, kinds := [], alts := [], laidByText := true, laidKinds := [.data], laidTests := true, laidLooks := .later }
def FnExactEvalTermCardSaid : Prop := Claim7.holds Tryd.pinned (.plain (OpenSpec.ofChange fnExactEvalTermSpec)) fnExactEvalTermCard

/-- THE TIED CARD OF 'laws.FnExactVarsIn'. -/
def fnExactVarsInCard : Claim7 := { stood := { row := fnExactVarsInRow, standIns := [], harness := (true, "3d342d64feea02ae99cfa5cafa62899bf053256011947d164ebdfc8ea98f975d"), looks := true }, kinds := [], alts := [], laidByText := true, laidKinds := [.data], laidTests := true, laidLooks := .later }
def FnExactVarsInCardSaid : Prop := Claim7.holds Tryd.pinned (.plain (OpenSpec.ofChange fnExactVarsInSpec)) fnExactVarsInCard

/-- THE TIED CARD OF 'laws.FnExactSureVars'. -/
def fnExactSureVarsCard : Claim7 := { stood := { row := fnExactSureVarsRow, standIns := [], harness := (true, "3d342d64feea02ae99cfa5cafa62899bf053256011947d164ebdfc8ea98f975d"), looks := true }, kinds := [], alts := [], laidByText := true, laidKinds := [.data], laidTests := true, laidLooks := .later }
def FnExactSureVarsCardSaid : Prop := Claim7.holds Tryd.pinned (.plain (OpenSpec.ofChange fnExactSureVarsSpec)) fnExactSureVarsCard

/-- THE TIED CARD OF 'laws.FnExactPutAll'. -/
def fnExactPutAllCard : Claim7 := { stood := { row := fnExactPutAllRow, standIns := [], harness := (true, "3d342d64feea02ae99cfa5cafa62899bf053256011947d164ebdfc8ea98f975d"), looks := true }, kinds := [], alts := [], laidByText := true, laidKinds := [.data], laidTests := true, laidLooks := .later }
def FnExactPutAllCardSaid : Prop := Claim7.holds Tryd.pinned (.plain (OpenSpec.ofChange fnExactPutAllSpec)) fnExactPutAllCard

/-- THE TIED CARD OF 'laws.FnExactPartAt'. -/
def fnExactPartAtCard : Claim7 := { stood := { row := fnExactPartAtRow, standIns := [], harness := (true, "3d342d64feea02ae99cfa5cafa62899bf053256011947d164ebdfc8ea98f975d"), looks := true }, kinds := [], alts := [], laidByText := true, laidKinds := [.data], laidTests := true, laidLooks := .later }
def FnExactPartAtCardSaid : Prop := Claim7.holds Tryd.pinned (.plain (OpenSpec.ofChange fnExactPartAtSpec)) fnExactPartAtCard

/-- THE SECOND FORM's CARD OF 'laws.FnExactGoodTerm'. -/
def fnExactGoodTermUptoCard : Claim7 := { stood := { row := fnExactGoodTermUptoRow, standIns := [], harness := (true, "3d342d64feea02ae99cfa5cafa62899bf053256011947d164ebdfc8ea98f975d"), looks := true }, kinds := [], alts := [], laidByText := true, laidKinds := [.data], laidTests := true, laidLooks := .later }
def FnExactGoodTermUptoCardSaid : Prop := Claim7.holds Tryd.pinned (.plain (OpenSpec.upto fnExactGoodTermSpec)) fnExactGoodTermUptoCard

/-- THE SECOND FORM's CARD OF 'laws.FnExactEvalTerm'. -/
def fnExactEvalTermUptoCard : Claim7 := { stood := { row := fnExactEvalTermUptoRow, standIns := [], harness := (true, "3d342d64feea02ae99cfa5cafa62899bf053256011947d164ebdfc8ea98f975d"), looks := true }, kinds := [], alts := [], laidByText := true, laidKinds := [.data], laidTests := true, laidLooks := .later }
def FnExactEvalTermUptoCardSaid : Prop := Claim7.holds Tryd.pinned (.plain (OpenSpec.upto fnExactEvalTermSpec)) fnExactEvalTermUptoCard

/-- THE SECOND FORM's CARD OF 'laws.FnExactVarsIn'. -/
def fnExactVarsInUptoCard : Claim7 := { stood := { row := fnExactVarsInUptoRow, standIns := [], harness := (true, "3d342d64feea02ae99cfa5cafa62899bf053256011947d164ebdfc8ea98f975d"), looks := true }, kinds := [], alts := [], laidByText := true, laidKinds := [.data], laidTests := true, laidLooks := .later }
def FnExactVarsInUptoCardSaid : Prop := Claim7.holds Tryd.pinned (.plain (OpenSpec.upto fnExactVarsInSpec)) fnExactVarsInUptoCard

/-- THE SECOND FORM's CARD OF 'laws.FnExactSureVars'. -/
def fnExactSureVarsUptoCard : Claim7 := { stood := { row := fnExactSureVarsUptoRow, standIns := [], harness := (true, "3d342d64feea02ae99cfa5cafa62899bf053256011947d164ebdfc8ea98f975d"), looks := true }, kinds := [], alts := [], laidByText := true, laidKinds := [.data], laidTests := true, laidLooks := .later }
def FnExactSureVarsUptoCardSaid : Prop := Claim7.holds Tryd.pinned (.plain (OpenSpec.upto fnExactSureVarsSpec)) fnExactSureVarsUptoCard

/-- THE SECOND FORM's CARD OF 'laws.FnExactPutAll'. -/
def fnExactPutAllUptoCard : Claim7 := { stood := { row := fnExactPutAllUptoRow, standIns := [], harness := (true, "3d342d64feea02ae99cfa5cafa62899bf053256011947d164ebdfc8ea98f975d"), looks := true }, kinds := [], alts := [], laidByText := true, laidKinds := [.data], laidTests := true, laidLooks := .later }
def FnExactPutAllUptoCardSaid : Prop := Claim7.holds Tryd.pinned (.plain (OpenSpec.upto fnExactPutAllSpec)) fnExactPutAllUptoCard

/-- THE SECOND FORM's CARD OF 'laws.FnExactPartAt'. -/
def fnExactPartAtUptoCard : Claim7 := { stood := { row := fnExactPartAtUptoRow, standIns := [], harness := (true, "3d342d64feea02ae99cfa5cafa62899bf053256011947d164ebdfc8ea98f975d"), looks := true }, kinds := [], alts := [], laidByText := true, laidKinds := [.data], laidTests := true, laidLooks := .later }
def FnExactPartAtUptoCardSaid : Prop := Claim7.holds Tryd.pinned (.plain (OpenSpec.upto fnExactPartAtSpec)) fnExactPartAtUptoCard
end Rows
end Go.Proofs.YtoppbchacdpenaaDoor
