/-
  PROVED HERE: what the model's IsRing answers, at every list of nodes, in a world whose table of arities is laid. No other condition.
-/
import Derived.Test.YtpjgjpjfchfmlaaGreatDoorIPolyEnd
namespace Go.Proofs.YtpjgjpjfchfmlaaGreatDoor
open Go.ChangeShapes Go.WideShapes Go.ChangeAt Go.RowKit
set_option linter.unusedVariables false

theorem specIsRing_any (a : Option Addr) (len cap : Nat) (l : List (Int × Int)) (w : World) (h : NSl w a len l) (hm : len ≤ 9223372036854775807) :
    Calls Tryz.prog 10 #[.slice a len cap] w fun e w' => e = .returned (.tuple #[.bool (isRingB l), .bool (goodB l)]) ∧ Below w.heap.size w w' := by
  have hll := h.1
  have HG := (show Hid _ from specGood_any a len cap l w h hm)
  unfold isRingB
  cases hg : goodB l with
  | false =>
    rw [hg] at HG
    go_enter Tryz.func10, Tryz.ntmps10
    go_wp2_with fail
    refine Calls.mono HG.out ?_
    rintro e w1 ⟨rfl, hb1⟩
    clear HG
    go_wp2
    go_ret2
    exact ⟨rfl, hb1⟩
  | true =>
    rw [hg] at HG
    obtain ⟨hp, h1, h40⟩ := good_pile hg
    have HR : Hid (∀ W, Below w.heap.size w W → Calls Tryz.prog 29 #[.slice a len cap] W fun e w' => e = .returned (.bool (ringB l)) ∧ Below W.heap.size W w') := fun W hW => l4Ring_any (fun k hk => good_ops hp k hk) a len cap W (h.keep hW) (by omega)
    generalize ringB l = R at HR
    clear hp
    go_enter Tryz.func10, Tryz.ntmps10
    go_wp2_with fail
    refine Calls.mono HG.out ?_
    rintro e w1 ⟨rfl, hb1⟩
    clear HG
    go_wp2_with fail
    refine Calls.mono (HR.out _ hb1) ?_
    rintro e w2 ⟨rfl, hb2⟩
    have hB := hb1.trans (hb2.mono hb1.size)
    clear HR
    go_wp2
    go_ret2
    exact ⟨by simp, hB⟩
end Go.Proofs.YtpjgjpjfchfmlaaGreatDoor
