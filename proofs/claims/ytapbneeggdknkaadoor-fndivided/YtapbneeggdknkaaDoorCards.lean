/-
  DERIVED. GIVEN WITH THE SEED: THE CARDS: each row of YtapbneeggdknkaaDoorRows.lean that lists a variable, with what it lists TIED to the program's text (the seventh form; the later family's looks); each row that meets fmt, with fmt's text TOLD by the authors' own Lean function (tested against real Go, not proved from fmt's source: count such statements apart). THE CARD IS WHAT COUNTS. Prove the row's statement (the work); the ties are given (YtapbneeggdknkaaDoorTie.lean); close each card by the builder's one call (the guide's Derived/Test/ToyasCard.lean, 'card_holds'). Laid BY PROGRAM, IN A SANDBOX (cutbox-door.mjs). By AI agents, Wed Nov 11 2026. No macro, syntax, notation, axiom, sorry.
-/
import Derived.Test.YtapbneeggdknkaaDoorRows
import GoSem.ClaimSeven
namespace Go.Proofs.YtapbneeggdknkaaDoor
namespace Rows

/-- THE TIED CARD OF 'laws.FnWrap'. -/
def fnWrapCard : Claim7 := { stood := { row := fnWrapRow, standIns := [], harness := (true, "23fb130d58206576efb1635ff235c917ea57f09d509866541c8d6fe1f94d639b"), looks := false }, kinds := [], alts := [], laidByText := true, laidKinds := [.data], laidTests := true, laidLooks := .later }
def FnWrapCardSaid : Prop := Claim7.holds Tryd.pinned (.plain (OpenSpec.ofChange fnWrapSpec)) fnWrapCard

/-- THE TIED CARD OF 'laws.FnDivided'. -/
def fnDividedCard : Claim7 := { stood := { row := fnDividedRow, standIns := [], harness := (true, "23fb130d58206576efb1635ff235c917ea57f09d509866541c8d6fe1f94d639b"), looks := false }, kinds := [], alts := [], laidByText := true, laidKinds := [.data], laidTests := true, laidLooks := .later }
def FnDividedCardSaid : Prop := Claim7.holds Tryd.pinned (.plain (OpenSpec.ofChange fnDividedSpec)) fnDividedCard

/-- THE TIED CARD OF 'laws.FnExactArityOf'. -/
def fnExactArityOfCard : Claim7 := { stood := { row := fnExactArityOfRow, standIns := [], harness := (true, "23fb130d58206576efb1635ff235c917ea57f09d509866541c8d6fe1f94d639b"), looks := false }, kinds := [], alts := [], laidByText := true, laidKinds := [.data], laidTests := true, laidLooks := .later }
def FnExactArityOfCardSaid : Prop := Claim7.holds Tryd.pinned (.plain (OpenSpec.ofChange fnExactArityOfSpec)) fnExactArityOfCard

/-- THE TIED CARD OF 'laws.FnExactDoOp'. -/
def fnExactDoOpCard : Claim7 := { stood := { row := fnExactDoOpRow, standIns := [], harness := (true, "23fb130d58206576efb1635ff235c917ea57f09d509866541c8d6fe1f94d639b"), looks := false }, kinds := [], alts := [], laidByText := true, laidKinds := [.data], laidTests := true, laidLooks := .later }
def FnExactDoOpCardSaid : Prop := Claim7.holds Tryd.pinned (.plain (OpenSpec.ofChange fnExactDoOpSpec)) fnExactDoOpCard

/-- THE SECOND FORM's CARD OF 'laws.FnWrap'. -/
def fnWrapUptoCard : Claim7 := { stood := { row := fnWrapUptoRow, standIns := [], harness := (true, "23fb130d58206576efb1635ff235c917ea57f09d509866541c8d6fe1f94d639b"), looks := false }, kinds := [], alts := [], laidByText := true, laidKinds := [.data], laidTests := true, laidLooks := .later }
def FnWrapUptoCardSaid : Prop := Claim7.holds Tryd.pinned (.plain (OpenSpec.upto fnWrapSpec)) fnWrapUptoCard

/-- THE SECOND FORM's CARD OF 'laws.FnDivided'. -/
def fnDividedUptoCard : Claim7 := { stood := { row := fnDividedUptoRow, standIns := [], harness := (true, "23fb130d58206576efb1635ff235c917ea57f09d509866541c8d6fe1f94d639b"), looks := false }, kinds := [], alts := [], laidByText := true, laidKinds := [.data], laidTests := true, laidLooks := .later }
def FnDividedUptoCardSaid : Prop := Claim7.holds Tryd.pinned (.plain (OpenSpec.upto fnDividedSpec)) fnDividedUptoCard

/-- THE SECOND FORM's CARD OF 'laws.FnExactArityOf'. -/
def fnExactArityOfUptoCard : Claim7 := { stood := { row := fnExactArityOfUptoRow, standIns := [], harness := (true, "23fb130d58206576efb1635ff235c917ea57f09d509866541c8d6fe1f94d639b"), looks := false }, kinds := [], alts := [], laidByText := true, laidKinds := [.data], laidTests := true, laidLooks := .later }
def FnExactArityOfUptoCardSaid : Prop := Claim7.holds Tryd.pinned (.plain (OpenSpec.upto fnExactArityOfSpec)) fnExactArityOfUptoCard

/-- THE SECOND FORM's CARD OF 'laws.FnExactDoOp'. -/
def fnExactDoOpUptoCard : Claim7 := { stood := { row := fnExactDoOpUptoRow, standIns := [], harness := (true, "23fb130d58206576efb1635ff235c917ea57f09d509866541c8d6fe1f94d639b"), looks := false }, kinds := [], alts := [], laidByText := true, laidKinds := [.data], laidTests := true, laidLooks := .later }
def FnExactDoOpUptoCardSaid : Prop := Claim7.holds Tryd.pinned (.plain (OpenSpec.upto fnExactDoOpSpec)) fnExactDoOpUptoCard
end Rows
end Go.Proofs.YtapbneeggdknkaaDoor
