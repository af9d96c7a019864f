/-
  PROVED HERE: what the functions on arities answer, the program's and the model's, at every op; in a world whose table of arities is laid. No other condition. the table of arities stays where memory grows. No condition.
-/
import Derived.Test.YtmbggaepckgogaaDoorRows
import Derived.Test.YtmbggaepckgogaaDoorRun1
import Derived.WalkKit
import Derived.ProofKit
import Derived.OpenShut
import Derived.Handy
import Derived.OwnWalk
namespace Go.Proofs.YtmbggaepckgogaaDoor
open Go.ChangeShapes Go.WideShapes Go.ChangeAt Go.RowKit
set_option linter.unusedVariables false

def tab : List Int := [0, 0, 0, 1, 2, 2, 2, 2, 2, 2, 2, 3]
/-- The table of arities lies in block 0. -/
def Tab (w : World) : Prop := ∀ i : Nat, i < 12 → w.cell? ⟨1, i, none⟩ = some (.int .i64 (tab.getD i 0))

theorem implArity_out (op : Int) (w : World) (h : op < 1 ∨ 11 < op) :
    Calls Tryd.prog 76 #[.int .i64 op] w fun e w' => e = .returned (.tuple #[.int .i64 0, .bool false]) ∧ w' = w := by
  rcases h with h | h
  · go_enter Tryd.func76, Tryd.ntmps76
    go_wp2
    go_ret2
    exact ⟨rfl, rfl⟩
  · have h' : ¬ op < 1 := by omega
    go_enter Tryd.func76, Tryd.ntmps76
    go_wp2
    go_ret2
    exact ⟨rfl, rfl⟩

theorem implArity_in (op : Int) (w : World) (ht : Tab w) (h : 1 ≤ op ∧ op ≤ 11) :
    Calls Tryd.prog 76 #[.int .i64 op] w fun e w' => e = .returned (.tuple #[.int .i64 (ar op), .bool true]) ∧ w' = w := by
  obtain ⟨n, rfl⟩ := Int.eq_ofNat_of_zero_le (show 0 ≤ op by omega)
  have hc := ht n (by omega)
  have e1 : tab.getD n 0 = ar n := by
    obtain ⟨h1, h2⟩ := h
    have : n = 1 ∨ n = 2 ∨ n = 3 ∨ n = 4 ∨ n = 5 ∨ n = 6 ∨ n = 7 ∨ n = 8 ∨ n = 9 ∨ n = 10 ∨ n = 11 := by omega
    rcases this with rfl | rfl | rfl | rfl | rfl | rfl | rfl | rfl | rfl | rfl | rfl <;> rfl
  rw [e1] at hc
  clear ht e1
  obtain ⟨h1, h2⟩ := h
  have h3 : ¬ (n : Int) < 1 := by omega
  have h4 : ¬ 11 < (n : Int) := by omega
  go_enter Tryd.func76, Tryd.ntmps76
  go_wp2
  go_ret2
  exact ⟨rfl, rfl⟩

end Go.Proofs.YtmbggaepckgogaaDoor
namespace Go.Proofs.YtmbggaepckgogaaDoor
open Go.ChangeShapes Go.WideShapes Go.ChangeAt Go.RowKit
set_option linter.unusedVariables false
theorem Tab.keeps {w w' : World} (h : Tab w) (hb : Below w.heap.size w w') : Tab w' := fun i hi => by
  have hc := h i hi
  exact (hb.cell (p := ⟨1, i, none⟩) (World.block_lt_of_cell? w _ hc)).trans hc
end Go.Proofs.YtmbggaepckgogaaDoor
