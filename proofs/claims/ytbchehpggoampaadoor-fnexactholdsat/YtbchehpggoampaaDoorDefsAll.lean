/-
  PROVED HERE: what an op makes of its arguments, as plain functions. No condition. plain functions: what a term comes to. No condition.
-/
import Derived.Test.YtbchehpggoampaaDoorArAll
import Derived.Test.YtbchehpggoampaaDoorMath
import Derived.Test.YtbchehpggoampaaDoorLists
import Derived.Test.YtbchehpggoampaaDoorParts
namespace Go.Proofs.YtbchehpggoampaaDoor
open Go.ChangeShapes Go.WideShapes Go.ChangeAt Go.RowKit
open Odd
set_option linter.unusedVariables false

def sel (x y z : Int) : Int := if x = 0 then z else y
def bone (b : Bool) : Int := if b = true then 1 else 0
/-- What an op makes of its arguments. -/
def dv (op x y z : Int) : Int :=
  if op = 3 then wrap64 (-x) else if op = 4 then wrap64 (x + y) else if op = 5 then wrap64 (x - y) else if op = 6 then wrap64 (x * y)
  else if op = 7 then wrap64 (x * 2 ^ (y % 64).toNat) else if op = 8 then (if y = 0 then 0 else wrap64 (x.tdiv y))
  else if op = 9 then bone (x == y) else if op = 10 then bone (decide (x < y)) else sel x y z
/-- Does it trap? -/
def dt (op y : Int) : Bool := op == 8 && y == 0

theorem u64_mod (y : Int) : IntKind.u64.wrap y % 64 = y % 64 := by
  rw [IntKind.wrap_u64]; omega

end Go.Proofs.YtbchehpggoampaaDoor
namespace Go.Proofs.YtbchehpggoampaaDoor
open Go.ChangeShapes Go.WideShapes Go.ChangeAt Go.RowKit
set_option linter.unusedVariables false

/-- One behind the other, till one traps. -/
def seqO (g : Nat → Option Int) : List Nat → Option (List Int)
  | [] => some []
  | r :: rs => match g r with
    | none => none
    | some v => match seqO g rs with
      | none => none
      | some vs => some (v :: vs)
/-- What an op makes of its arguments; none: it traps. -/
def doO (op : Int) (xs : List Int) : Option Int := if dt op (xs.getD 1 0) = true then none else some (dv op (xs.getD 0 0) (xs.getD 1 0) (xs.getD 2 0))
/-- The same of arguments one of which may have trapped. -/
def allO (op : Int) : Option (List Int) → Option Int
  | none => none
  | some xs => doO op xs
def ifO (c : Option Int) (y z : Option Int) : Option Int := match c with
  | none => none
  | some v => if v = 0 then z else y
/-- What the tree of node k comes to (with so much fuel); none: it traps. -/
def evalF (l : List (Int × Int)) (env : List Int) : Nat → Nat → Option Int
  | 0, _ => none
  | f + 1, k =>
    if (l.getD k (0, 0)).1 = 1 then some (l.getD k (0, 0)).2
    else if (l.getD k (0, 0)).1 = 2 then some (env.getD (l.getD k (0, 0)).2.toNat 0)
    else if (l.getD k (0, 0)).1 = 11 then ifO (evalF l env f ((roots l 3 k).getD 0 0)) (evalF l env f ((roots l 3 k).getD 1 0)) (evalF l env f ((roots l 3 k).getD 2 0))
    else allO (l.getD k (0, 0)).1 (seqO (evalF l env f) (roots l (ar (l.getD k (0, 0)).1).toNat k))

/-- A value and whether it traps, as two answers. -/
def valO (o : Option Int) : Int := o.getD 0
def trapO (o : Option Int) : Bool := o.isNone

theorem seqO_snoc (g : Nat → Option Int) (r : Nat) : ∀ rs, seqO g (rs ++ [r]) = match seqO g rs with
    | none => none
    | some vs => match g r with
      | none => none
      | some v => some (vs ++ [v])
  | [] => by simp only [List.nil_append, seqO]
  | x :: rs => by
    simp only [List.cons_append, seqO]
    cases g x with
    | none => rfl
    | some v =>
      simp only [seqO_snoc g r rs]
      cases seqO g rs with
      | none => rfl
      | some vs => cases g r <;> rfl
theorem seqO_none (g : Nat → Option Int) (rs ss : List Nat) (h : seqO g rs = none) : seqO g (rs ++ ss) = none := by
  induction rs with
  | nil => cases h
  | cons x rs ih =>
    simp only [List.cons_append, seqO] at h ⊢
    cases hx : g x with
    | none => rfl
    | some v =>
      rw [hx] at h
      simp only at h ⊢
      cases hr : seqO g rs with
      | none => rw [ih hr]
      | some vs => rw [hr] at h; cases h

theorem seqO_get (g : Nat → Option Int) : ∀ (rs : List Nat) (xs : List Int), seqO g rs = some xs → xs.length = rs.length ∧ ∀ i, i < rs.length → g (rs.getD i 0) = some (xs.getD i 0)
  | [], xs, h => by
    simp only [seqO, Option.some.injEq] at h
    subst h
    exact ⟨rfl, fun i hi => absurd hi (Nat.not_lt_zero _)⟩
  | r :: rs, xs, h => by
    simp only [seqO] at h
    cases hr : g r with
    | none => rw [hr] at h; cases h
    | some v =>
      rw [hr] at h
      simp only at h
      cases hs : seqO g rs with
      | none => rw [hs] at h; cases h
      | some vs =>
        rw [hs] at h
        simp only [Option.some.injEq] at h
        subst h
        obtain ⟨e1, e2⟩ := seqO_get g rs vs hs
        refine ⟨by simp [e1], fun i hi => ?_⟩
        cases i with
        | zero => simpa using hr
        | succ i => simpa using e2 i (by simpa using hi)
theorem seqO_all (g : Nat → Option Int) : ∀ rs : List Nat, (∀ i, i < rs.length → ∃ v, g (rs.getD i 0) = some v) → ∃ xs, seqO g rs = some xs
  | [], _ => ⟨[], rfl⟩
  | r :: rs, h => by
    obtain ⟨v, hv⟩ := h 0 (by simp)
    obtain ⟨vs, hvs⟩ := seqO_all g rs (fun i hi => by simpa using h (i + 1) (by simpa using hi))
    exact ⟨v :: vs, by simp only [seqO]; rw [show g r = some v from by simpa using hv, hvs]⟩
theorem do_val (op : Int) (xs : List Int) : valO (doO op xs) = dv op (xs.getD 0 0) (xs.getD 1 0) (xs.getD 2 0) ∧ trapO (doO op xs) = dt op (xs.getD 1 0) := by
  unfold doO
  by_cases h : dt op (xs.getD 1 0) = true
  · rw [if_pos h, h]
    refine ⟨?_, rfl⟩
    simp only [dt, Bool.and_eq_true, beq_iff_eq] at h
    obtain ⟨rfl, hy⟩ := h
    rw [hy]
    rfl
  · rw [if_neg h]
    have h' : dt op (xs.getD 1 0) = false := by simpa using h
    rw [h']
    exact ⟨rfl, rfl⟩

theorem seqO_next (g : Nat → Option Int) (R : List Nat) (n : Nat) (ys : List Int) (z : Int) (hn : n < R.length) (h : seqO g (R.take n) = some ys) (hr : g (R.getD n 0) = some z) : seqO g (R.take (n + 1)) = some (ys ++ [z]) := by
  rw [List.take_succ_eq_append_getElem hn, seqO_snoc, h]
  have e : R.getD n 0 = R[n] := by rw [List.getD_eq_getElem?_getD, List.getElem?_eq_getElem hn]; rfl
  rw [e] at hr
  simp only [hr]
theorem seqO_stop (g : Nat → Option Int) (R : List Nat) (n : Nat) (ys : List Int) (hn : n < R.length) (h : seqO g (R.take n) = some ys) (hr : g (R.getD n 0) = none) : seqO g R = none := by
  have e : R.getD n 0 = R[n] := by rw [List.getD_eq_getElem?_getD, List.getElem?_eq_getElem hn]; rfl
  rw [e] at hr
  have : seqO g (R.take (n + 1)) = none := by
    rw [List.take_succ_eq_append_getElem hn, seqO_snoc, h]
    simp only [hr]
  have := seqO_none g _ (R.drop (n + 1)) this
  rwa [List.take_append_drop] at this

/-- What a good term comes to at four values. -/
def evalT (l : List (Int × Int)) (env : List Int) : Option Int := evalF l env l.length (l.length - 1)
/-- Whether there is an answer. -/
def evalOk (l : List (Int × Int)) (env : List Int) : Bool := goodB l && decide (env.length = 4)
def evalV (l : List (Int × Int)) (env : List Int) : Int := if evalOk l env = true then valO (evalT l env) else 0
def evalTr (l : List (Int × Int)) (env : List Int) : Bool := if evalOk l env = true then trapO (evalT l env) else false

end Go.Proofs.YtbchehpggoampaaDoor
