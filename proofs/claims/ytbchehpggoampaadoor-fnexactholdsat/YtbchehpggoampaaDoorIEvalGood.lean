/-
  PROVED HERE: what the program says that a good term comes to at four values, in a world whose table of arities is laid. No other condition.
-/
import Derived.Test.YtbchehpggoampaaDoorIEval
namespace Go.Proofs.YtbchehpggoampaaDoor
open Go.ChangeShapes Go.WideShapes Go.ChangeAt Go.RowKit
set_option linter.unusedVariables false

/-- What a good term comes to, once more. -/
theorem implEval_good (L : List (Int × Int)) (a : Option Addr) (len c : Nat) (ys : List Int) (va : Option Addr) (vc : Nat) (W : World) (hg : goodB L = true) (hT : Tab W) (hs : NSl W a len L) (he : Sl W va 4 ys) :
    Calls Tryd.prog 51 #[.slice a len c, .slice va 4 vc] W fun e w' => e = .returned (.tuple #[.int .i64 (valO (evalT L ys)), .bool (trapO (evalT L ys)), .bool true]) ∧ Below W.heap.size W w' := by
  have hk : evalOk L ys = true := by unfold evalOk; rw [hg, he.1]; rfl
  have hl := (good_pile hg).2.2
  have h := implEval_any a len c L va 4 vc ys W hT hs he (by have := hs.1; omega) (by omega)
  rw [hk] at h
  unfold evalV evalTr at h
  rw [if_pos hk, if_pos hk] at h
  exact h

end Go.Proofs.YtbchehpggoampaaDoor
