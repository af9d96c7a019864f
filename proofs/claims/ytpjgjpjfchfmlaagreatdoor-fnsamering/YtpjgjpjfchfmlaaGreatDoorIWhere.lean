/-
  PROVED HERE: what the program makes of a list of nodes that may be no term. No other condition.
-/
import Derived.Test.YtpjgjpjfchfmlaaGreatDoorIGoods
import Derived.Test.YtpjgjpjfchfmlaaGreatDoorKeepsM
namespace Go.Proofs.YtpjgjpjfchfmlaaGreatDoor
open Go.ChangeShapes Go.WideShapes Go.ChangeAt Go.RowKit
set_option linter.unusedVariables false

theorem implWhere_any (base : Nat) (v : Value) (len : Nat) (l : List (Int × Int)) (w : World) (hT : Tab w) (h : w.ownsRow base 77 2 v len (flat l)) (hb : base ≤ w.heap.size) (hm : len ≤ 9223372036854775807) :
    Calls Tryz.prog 50 #[v] w fun e w' => ∃ v' : Value, e = .returned (.tuple #[v', .bool (goodB l)]) ∧ w'.ownsRow base 77 2 v' (if goodB l = true then l else []).length (flat (if goodB l = true then l else [])) ∧ Below w.heap.size w w' := by
  obtain ⟨a, cap, rfl, hs⟩ := NSl.row h
  have HG := (show Hid _ from implGood_any a len cap l w hT hs hm)
  have hll := hs.1
  by_cases hg : goodB l = true
  · rw [if_pos hg, hg, hll]
    rw [hg] at HG
    clear hg hs
    go_enter Tryz.func50, Tryz.ntmps50
    go_wp2_with fail
    refine Calls.mono HG.out ?_
    rintro e w1 ⟨rfl, hb1⟩
    have h1 := own_keep h hb1
    clear h
    go_wp2
    go_ret2
    exact ⟨_, rfl, h1, hb1⟩
  · have hg' : goodB l = false := by simpa using hg
    rw [if_neg hg, hg']
    rw [hg'] at HG
    clear hg hg' hs
    go_enter Tryz.func50, Tryz.ntmps50
    go_wp2_with fail
    refine Calls.mono HG.out ?_
    rintro e w1 ⟨rfl, hb1⟩
    go_wp2
    go_ret2
    exact ⟨_, rfl, World.ownsRow_nil _ _ _ _, hb1⟩
end Go.Proofs.YtpjgjpjfchfmlaaGreatDoor
