/-
  PROVED HERE: what the model's AddTerm and FindTerm answer, at every graph and every list of nodes. No other condition. what the program's FindTerm answers, at every graph and every list of nodes, in a world whose table of arities is laid. No other condition.
-/
import Derived.Test.YthkjmgjajmghmaaDoorRun34
import Derived.Test.YthkjmgjajmghmaaDoorRun32
import Derived.Test.YthkjmgjajmghmaaDoorRun1
import Derived.Test.YthkjmgjajmghmaaDoorRun35
import Derived.Test.YthkjmgjajmghmaaDoorRun23
import Derived.Test.YthkjmgjajmghmaaDoorRun22
namespace Go.Proofs.YthkjmgjajmghmaaDoor
open Go.ChangeShapes Go.WideShapes Go.ChangeAt Go.RowKit
set_option linter.unusedVariables false

/-- What comes of a graph that was put into, where it has room. -/
def roomA (r : GS × List Int) : Option (GS × Int) := if r.1.1.length ≤ 120 then some (r.1, r.2.getD 0 0) else none
def addT (p : List EN) (l : List Int) (t : List (Int × Int)) : Option (GS × Int) := if graphB p l && goodB t then roomA (runA none t ((p, l), [])) else none
def ansG (o : Option (GS × Int)) : GS := (o.map (fun r => r.1)).getD ([], [])
def ansC (o : Option (GS × Int)) : Int := (o.map (fun r => r.2)).getD 0
theorem gown_nil (w : World) (s : Bool) (S : Nat → Prop) : GOwn w s S (.slice none 0 0) (.slice none 0 0) ([], []) :=
  ⟨[], fun _ => undef, World.ownsRow_nil _ _ _ _, World.ownsRow_nil _ _ _ _, (fun x hx => by cases hx), (fun x hx => by cases hx), fun i hi => absurd hi (Nat.not_lt_zero _)⟩
theorem good_few {g : GS} (hg : GoodG g) : ∀ i, i < g.1.length → (g.1.getD i e0).2.2.length ≤ 3 := fun i hi => fit_few (hg.1 i hi)
theorem bok_none (g : GS) (t : List (Int × Int)) : BOk none g t := fun bs h => by cases h
/-- What FindTerm tells. -/
def findT (p : List EN) (l : List Int) (t : List (Int × Int)) : Option Int := match addT p l t with
  | some r => if p.length < r.1.1.length then none else some r.2
  | none => none
end Go.Proofs.YthkjmgjajmghmaaDoor
namespace Go.Proofs.YthkjmgjajmghmaaDoor
open Go.ChangeShapes Go.WideShapes Go.ChangeAt Go.RowKit
set_option linter.unusedVariables false

/-- The class that is found. -/
def clsFi : Cls := fun g n kids => (findL g.1 g.2 (n.1, n.2, kids)).map fun v => (g, v)
theorem clsFi_keeps : Keeps clsFi := ⟨fun g n kids r hg h120 hf hr => by
  unfold clsFi at hr
  cases hfl : findL g.1 g.2 (n.1, n.2, kids) with
  | none => rw [hfl] at hr; cases hr
  | some v =>
    rw [hfl] at hr
    cases hr
    have := putL_good hg (x := (n.1, n.2, kids)) hf.ok hf.cl
    rw [putL_some hfl] at this
    exact ⟨this.1, this.2.1, this.2.2.1, h120⟩⟩
theorem nfits_fits {g : GS} {n : Int × Int} {kids : List Int} (h : NFits g n kids) : Fits g n.1 n.2 kids ∧ kidsL g.2 kids = kids := by
  refine ⟨⟨h.ok, h.num, fun i hi => ?_⟩, kidsL_same (fun c hc => (h.cl c hc).2.2)⟩
  have := h.cl _ (show kids.getD i 0 ∈ kids by rw [getI_lt hi]; exact List.getElem_mem _)
  have h1 := this.1
  have h2 := this.2.1
  exact ⟨(kids.getD i 0).toNat, by omega, by omega⟩
theorem putL_ge (g : GS) (x : EN) : g.1.length ≤ (putL g x).1.1.length := by
  cases hf : findL g.1 g.2 x with
  | some v => rw [putL_some hf]; exact Nat.le_refl _
  | none => rw [putL_none hf]; simp
theorem runA_ge : ∀ (t : List (Int × Int)) (s : GS × List Int), s.1.1.length ≤ (runA none t s).1.1.length
  | [], s => Nat.le_refl _
  | n :: t, s => Nat.le_trans (putL_ge s.1 (n.1, n.2, s.2.drop (s.2.length - (ar n.1).toNat))) (runA_ge t (stepA none s n))
theorem find_run (g : GS) : ∀ (t : List (Int × Int)) (Q : List Int), (runO clsFi t (g, Q) = some (runA none t (g, Q)) ∧ (runA none t (g, Q)).1 = g) ∨ (runO clsFi t (g, Q) = none ∧ g.1.length < (runA none t (g, Q)).1.1.length)
  | [], Q => .inl ⟨rfl, rfl⟩
  | n :: t, Q => by
    cases hf : findL g.1 g.2 (n.1, n.2, Q.drop (Q.length - (ar n.1).toNat)) with
    | some v =>
      have e1 : stepO clsFi (g, Q) n = some (g, Q.take (Q.length - (ar n.1).toNat) ++ [v]) := stepO_some (r := (g, v)) (by unfold clsFi; rw [hf]; rfl)
      have e2 : stepA none (g, Q) n = (g, Q.take (Q.length - (ar n.1).toNat) ++ [v]) := by
        unfold stepA classA
        simp only
        rw [putL_some hf]
      have ih := find_run g t (Q.take (Q.length - (ar n.1).toNat) ++ [v])
      show ((stepO clsFi (g, Q) n).bind (runO clsFi t) = some (runA none t (stepA none (g, Q) n)) ∧ (runA none t (stepA none (g, Q) n)).1 = g) ∨ ((stepO clsFi (g, Q) n).bind (runO clsFi t) = none ∧ g.1.length < (runA none t (stepA none (g, Q) n)).1.1.length)
      rw [e1, e2]
      exact ih
    | none =>
      have e1 : stepO clsFi (g, Q) n = none := stepO_none (by unfold clsFi; rw [hf]; rfl)
      refine .inr ⟨?_, ?_⟩
      · show (stepO clsFi (g, Q) n).bind (runO clsFi t) = none
        rw [e1]; rfl
      · have h1 := runA_ge t (stepA none (g, Q) n)
        have h2 : (stepA none (g, Q) n).1.1.length = g.1.length + 1 := by
          unfold stepA classA
          simp only
          rw [putL_none hf]; simp
        show g.1.length < (runA none t (stepA none (g, Q) n)).1.1.length
        omega
theorem findT_run {p : List EN} {l : List Int} {t : List (Int × Int)} (hg : graphB p l = true) (ht : goodB t = true) : findT p l t = (runO clsFi t ((p, l), [])).map (fun r => r.2.getD 0 0) := by
  have h120 := ((graphB_good p l).1 hg).1
  unfold findT addT
  rw [hg, ht]
  simp only [Bool.and_self, if_pos]
  rcases find_run (p, l) t [] with ⟨h1, h2⟩ | ⟨h1, h2⟩
  · rw [h1]
    unfold roomA
    rw [h2]
    simp only
    rw [if_pos h120]
    simp
  · rw [h1]
    simp only at h2
    unfold roomA
    by_cases h00 : (runA none t ((p, l), [])).1.1.length ≤ 120
    · rw [if_pos h00]; simp only; rw [if_pos h2]; rfl
    · rw [if_neg h00]; rfl
end Go.Proofs.YthkjmgjajmghmaaDoor
