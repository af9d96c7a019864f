/-
  PROVED HERE: when the laws' inputs are too long for them. No condition.
-/
import Derived.Test.YtoaejodpklhmjaaDrawsA
namespace Go.Proofs.Ytoaejodpklhmjaa
open Go.ChangeShapes Go.WideShapes Go.ChangeAt Go.RowKit
set_option linter.unusedVariables false
theorem big_no (a b : Option Addr) (len cap len' cap' : Nat) (w : World) (h : len ≤ 1048576) (h' : len' ≤ 1048576 - len) :
    Calls Try.prog 9 #[.slice a len cap, .slice b len' cap'] w fun e w' => e = .returned (.bool false) ∧ w' = w := by
  have h1 : ¬ (1048576 : Int) < len := by omega
  have h2 : ¬ (1048576 : Int) - len < len' := by omega
  go_enter Try.func9, Try.ntmps9
  go_wp2
  go_ret
  exact ⟨rfl, rfl⟩
theorem big_yes (a b : Option Addr) (len cap len' cap' : Nat) (w : World) (h : ¬ (len ≤ 1048576 ∧ len' ≤ 1048576 - len)) (hm : len ≤ 9223372036854775807) (hm' : len' ≤ 9223372036854775807) :
    Calls Try.prog 9 #[.slice a len cap, .slice b len' cap'] w fun e w' => e = .returned (.bool true) ∧ w' = w := by
  by_cases h1 : len ≤ 1048576
  · have h2 : ¬ (1048576 : Int) < len := by omega
    have h3 : (1048576 : Int) - len < len' := by omega
    go_enter Try.func9, Try.ntmps9
    go_wp2
    go_ret
    exact ⟨rfl, rfl⟩
  · have h2 : (1048576 : Int) < len := by omega
    go_enter Try.func9, Try.ntmps9
    go_wp2
    go_ret
    exact ⟨rfl, rfl⟩

end Go.Proofs.Ytoaejodpklhmjaa
