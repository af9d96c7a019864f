/-
  PROVED HERE: what the model's l1In answers, at every three numbers. No condition. plain facts on walks back over the trees of a term. No condition.
-/
import Derived.Test.YtkadanagmahhgaaDoorLists
import Derived.Test.YtkadanagmahhgaaDoorBegin
namespace Go.Proofs.YtkadanagmahhgaaDoor
open Go.ChangeShapes Go.WideShapes Go.ChangeAt Go.RowKit
set_option linter.unusedVariables false

theorem in_yes (n lo hi : Int) (w : World) (h1 : lo ≤ n) (h2 : n ≤ hi) : Calls Tryd.prog 32 #[.int .i64 n, .int .i64 lo, .int .i64 hi] w fun e w' => e = .returned (.bool true) ∧ w' = w := by
  go_enter Tryd.func32, Tryd.ntmps32
  go_wp2
  go_ret
  exact ⟨rfl, rfl⟩
theorem in_no (n lo hi : Int) (w : World) (h : n < lo ∨ hi < n) : Calls Tryd.prog 32 #[.int .i64 n, .int .i64 lo, .int .i64 hi] w fun e w' => e = .returned (.bool false) ∧ w' = w := by
  by_cases h1 : lo ≤ n
  · have h2 : ¬ n ≤ hi := by omega
    clear h
    go_enter Tryd.func32, Tryd.ntmps32
    go_wp2
    go_ret
    exact ⟨by simp, rfl⟩
  · clear h
    go_enter Tryd.func32, Tryd.ntmps32
    go_wp2
    go_ret
    exact ⟨rfl, rfl⟩
end Go.Proofs.YtkadanagmahhgaaDoor
namespace Go.Proofs.YtkadanagmahhgaaDoor
set_option linter.unusedVariables false

theorem iter_add (f : Nat → Nat) : ∀ (m n x : Nat), iter f (m + n) x = iter f n (iter f m x)
  | 0, n, x => by rw [Nat.zero_add]; rfl
  | m + 1, n, x => by
    rw [show m + 1 + n = (m + n) + 1 from by omega]
    exact iter_add f m n (f x)
theorem back_add (l : List (Int × Int)) (m n x : Nat) : back l (m + n) x = back l n (back l m x) := iter_add _ m n x
theorem back_step {l : List (Int × Int)} {q : Int} (h : pile l 0 = some q) (n x : Nat) (hx : x < l.length) : back l (n + 1) (x + 1) = back l ((ar (l.getD x (0, 0)).1).toNat + n) x := by
  rw [back_succ, Nat.add_sub_cancel, back_add, ← start_eq h x hx]

theorem cnt_le {l : List (Int × Int)} {q : Int} (h : pile l 0 = some q) : ∀ x, x ≤ l.length → 0 ≤ cnt l x ∧ cnt l x ≤ x
  | 0, _ => by rw [cnt_zero]; omega
  | x + 1, hx => by
    have ih := cnt_le h x (by omega)
    obtain ⟨h1, h2⟩ := cnt_step h x (by omega)
    obtain ⟨a1, a2, _⟩ := fits_iff _ _ _ _ h1
    omega

end Go.Proofs.YtkadanagmahhgaaDoor
