/-
  PROVED HERE: what an op costs, the program's and the model's, at every op; and the law FnExactCostOfOp's own run; in a world whose tables of arities and of costs are laid. No other condition.
-/
import Derived.Test.YtemlghfcfploaaaDoorTabs
import Derived.Test.YtemlghfcfploaaaDoorArLaw
namespace Go.Proofs.YtemlghfcfploaaaDoor
open Go.ChangeShapes Go.WideShapes Go.ChangeAt Go.RowKit
set_option linter.unusedVariables false

/-- What an op costs. -/
def cst (op : Int) : Int := if op = 1 then 1 else if op = 2 then 1 else if op = 11 then 3 else if op = 6 then 4 else if op = 8 then 20 else 2
def ctab : List Int := [0, 1, 1, 2, 2, 2, 4, 2, 20, 2, 2, 3]
/-- The table of costs lies in its block. -/
def Cst (w : World) : Prop := ∀ i : Nat, i < 12 → w.cell? ⟨0, i, none⟩ = some (.int .i64 (ctab.getD i 0))
theorem Cst.keeps {w w' : World} (h : Cst w) (hb : Below w.heap.size w w') : Cst w' := fun i hi => by
  have hc := h i hi
  exact (hb.cell (p := ⟨0, i, none⟩) (World.block_lt_of_cell? w _ hc)).trans hc
theorem cst_pos (op : Int) : 1 ≤ cst op ∧ cst op ≤ 20 := by
  unfold cst
  repeat' split
  all_goals omega
theorem ctab_get (n : Nat) (h : 1 ≤ n ∧ n ≤ 11) : ctab.getD n 0 = cst n := by
  have : n = 1 ∨ n = 2 ∨ n = 3 ∨ n = 4 ∨ n = 5 ∨ n = 6 ∨ n = 7 ∨ n = 8 ∨ n = 9 ∨ n = 10 ∨ n = 11 := by omega
  rcases this with rfl | rfl | rfl | rfl | rfl | rfl | rfl | rfl | rfl | rfl | rfl <;> rfl

theorem l10Op_any (op : Int) (w : World) :
    Calls Tryd.prog 19 #[.int .i64 op] w fun e w' => e = .returned (.int .i64 (cst op)) ∧ w' = w := by
  unfold cst
  by_cases h1 : op = 1
  · subst h1
    go_enter Tryd.func19, Tryd.ntmps19
    go_wp2
    go_ret
    exact ⟨rfl, rfl⟩
  by_cases h2 : op = 2
  · subst h2
    go_enter Tryd.func19, Tryd.ntmps19
    go_wp2
    go_ret
    exact ⟨rfl, rfl⟩
  by_cases h3 : op = 11
  · subst h3
    go_enter Tryd.func19, Tryd.ntmps19
    go_wp2
    go_ret
    exact ⟨rfl, rfl⟩
  by_cases h4 : op = 6
  · subst h4
    go_enter Tryd.func19, Tryd.ntmps19
    go_wp2
    go_ret
    exact ⟨rfl, rfl⟩
  by_cases h5 : op = 8
  · subst h5
    go_enter Tryd.func19, Tryd.ntmps19
    go_wp2
    go_ret
    exact ⟨rfl, rfl⟩
  rw [if_neg h1, if_neg h2, if_neg h3, if_neg h4, if_neg h5]
  have e1 : (op == 1) = false := by simp; omega
  have e2 : (op == 2) = false := by simp; omega
  have e3 : (op == 11) = false := by simp; omega
  have e4 : (op == 6) = false := by simp; omega
  have e5 : (op == 8) = false := by simp; omega
  clear h1 h2 h3 h4 h5
  go_enter Tryd.func19, Tryd.ntmps19
  go_wp2
  go_ret
  exact ⟨rfl, rfl⟩

theorem specCostOp_in (op : Int) (w : World) (h : 0 ≤ ar op) :
    Calls Tryd.prog 6 #[.int .i64 op] w fun e w' => e = .returned (.tuple #[.int .i64 (cst op), .bool true]) ∧ w' = w := by
  have h' : ¬ ar op < 0 := by omega
  go_enter Tryd.func6, Tryd.ntmps6
  go_wp2_with (first | (go_at_call 18; refine (l1Arity_any _ _).mono ?_; rintro e w' ⟨rfl, rfl⟩) | (go_at_call 19; refine (l10Op_any _ _).mono ?_; rintro e w' ⟨rfl, rfl⟩))
  go_ret2
  exact ⟨rfl, rfl⟩
theorem specCostOp_out (op : Int) (w : World) (h : op < 1 ∨ 11 < op) :
    Calls Tryd.prog 6 #[.int .i64 op] w fun e w' => e = .returned (.tuple #[.int .i64 0, .bool false]) ∧ w' = w := by
  go_enter Tryd.func6, Tryd.ntmps6
  go_wp2_with (go_at_call 18; refine (l1Arity_out _ _ h).mono ?_; rintro e w' ⟨rfl, rfl⟩)
  go_ret2
  exact ⟨rfl, rfl⟩
theorem implCostOp_out (op : Int) (w : World) (h : op < 1 ∨ 11 < op) :
    Calls Tryd.prog 7 #[.int .i64 op] w fun e w' => e = .returned (.tuple #[.int .i64 0, .bool false]) ∧ w' = w := by
  have H := (show Hid _ from implArity_out op w h)
  clear h
  go_enter Tryd.func7, Tryd.ntmps7
  go_wp2_with (go_at_call 20; refine Calls.mono H.out ?_; rintro e w' ⟨rfl, rfl⟩)
  go_ret2
  exact ⟨rfl, rfl⟩
theorem implCostOp_in (op : Int) (w : World) (ht : Tab w) (hc : Cst w) (h : 1 ≤ op ∧ op ≤ 11) :
    Calls Tryd.prog 7 #[.int .i64 op] w fun e w' => e = .returned (.tuple #[.int .i64 (cst op), .bool true]) ∧ w' = w := by
  have H := (show Hid _ from implArity_in op w ht h)
  obtain ⟨n, rfl⟩ := Int.eq_ofNat_of_zero_le (show 0 ≤ op by omega)
  have hc := hc n (by omega)
  rw [ctab_get n (by omega)] at hc
  clear ht
  have h1 : (n : Int) < 12 := by omega
  generalize cst n = C at hc ⊢
  generalize ar n = R at H
  clear h
  go_enter Tryd.func7, Tryd.ntmps7
  go_wp2_with (go_at_call 20; refine Calls.mono H.out ?_; rintro e w' ⟨rfl, rfl⟩)
  go_ret2
  exact ⟨rfl, rfl⟩
theorem lawCostOp (op : Int) (w : World) (ht : Tab w) (hc : Cst w) :
    Calls Tryd.prog 3 #[.int .i64 op] w fun e w' => e = .returned (.bool true) ∧ w' = w := by
  by_cases h : op < 1 ∨ 11 < op
  · go_enter Tryd.func3, Tryd.ntmps3
    go_wp2_with (first | (go_at_call 6; refine (specCostOp_out _ _ h).mono ?_; rintro e w' ⟨rfl, rfl⟩) | (go_at_call 7; refine (implCostOp_out _ _ h).mono ?_; rintro e w' ⟨rfl, rfl⟩))
    go_ret
    exact ⟨rfl, rfl⟩
  · have h1 : 1 ≤ op ∧ op ≤ 11 := by omega
    have h2 : 0 ≤ ar op := by
      rcases ops op with h | rfl | rfl | rfl | rfl | rfl | rfl | rfl | rfl | rfl | rfl | rfl
      · omega
      all_goals decide
    have H := (show Hid _ from implCostOp_in op w ht hc h1)
    have HS := (show Hid _ from specCostOp_in op w h2)
    generalize cst op = C at H HS
    have hCC : (C != C) = false := by simp
    clear ht hc h h1 h2
    go_enter Tryd.func3, Tryd.ntmps3
    go_wp2_with (first | (go_at_call 6; refine Calls.mono HS.out ?_; rintro e w' ⟨rfl, rfl⟩) | (go_at_call 7; refine Calls.mono H.out ?_; rintro e w' ⟨rfl, rfl⟩))
    go_ret
    exact ⟨rfl, rfl⟩
end Go.Proofs.YtemlghfcfploaaaDoor
