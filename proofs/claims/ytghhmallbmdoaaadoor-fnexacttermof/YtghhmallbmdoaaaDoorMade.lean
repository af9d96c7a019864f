/-
  PROVED HERE: what the model makes of a list of nodes that may be too long for a term. No other condition.
-/
import Derived.Test.YtghhmallbmdoaaaDoorGood
namespace Go.Proofs.YtghhmallbmdoaaaDoor
open Go.ChangeShapes Go.WideShapes Go.ChangeAt Go.RowKit
set_option linter.unusedVariables false

/-- A made term: itself if it is good, else nothing. -/
def madeL (l : List (Int × Int)) : List (Int × Int) := if goodB l = true then l else []
theorem made_any (base : Nat) (v : Value) (len : Nat) (l : List (Int × Int)) (w : World) (h : w.ownsRow base 42 2 v len (flat l)) (hb : base ≤ w.heap.size) (hm : len ≤ 9223372036854775807) :
    Calls Tryd.prog 28 #[v] w fun e w' => ∃ v' : Value, e = .returned (.tuple #[v', .bool (goodB l)]) ∧ w'.ownsRow base 42 2 v' (madeL l).length (flat (madeL l)) ∧ Below w.heap.size w w' := by
  obtain ⟨a, cap, rfl, hs⟩ := NSl.row h
  have HG := (show Hid _ from specGood_any a len cap l w hs hm)
  have hll := hs.1
  by_cases hg : goodB l = true
  · have e : madeL l = l := by unfold madeL; rw [if_pos hg]
    rw [e, hg, hll]
    rw [hg] at HG
    clear e hg hs
    go_enter Tryd.func28, Tryd.ntmps28
    go_wp2_with fail
    refine Calls.mono HG.out ?_
    rintro e w1 ⟨rfl, hb1⟩
    have h1 := h.kept (grown_of hb1) (by cases hv : (Value.slice a len cap).ownBlock <;> simp)
    clear h
    go_wp2
    go_ret2
    exact ⟨_, rfl, h1, hb1⟩
  · have e : madeL l = [] := by unfold madeL; rw [if_neg hg]
    have hg' : goodB l = false := by simpa using hg
    rw [e, hg']
    rw [hg'] at HG
    clear e hg hg' hs
    go_enter Tryd.func28, Tryd.ntmps28
    go_wp2_with fail
    refine Calls.mono HG.out ?_
    rintro e w1 ⟨rfl, hb1⟩
    go_wp2
    go_ret2
    exact ⟨_, rfl, World.ownsRow_nil _ _ _ _, hb1⟩

end Go.Proofs.YtghhmallbmdoaaaDoor
