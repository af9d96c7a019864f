/-
  PROVED HERE: a term's sum, where it has one, is good. No condition.
-/
import Derived.Test.YtpjgjpjfchfmlaaDoorPolyOfPlain
namespace Go.Proofs.YtpjgjpjfchfmlaaDoor
open Go.RowKit
set_option linter.unusedVariables false

/-- A sum that is good. -/
def GoodS (p : List Mon) : Prop := polyB p = true ∧ ∀ x ∈ p, InI x.2
theorem GoodS.fine {p : List Mon} (h : GoodS p) : ∀ m ∈ p, m.1.length = 4 ∧ InI m.2 := fine_of h.1 h.2
theorem GoodS.len {p : List Mon} (h : GoodS p) : ∀ m ∈ p, m.1.length = 4 := fun m hm => (h.fine m hm).1
theorem num_GoodS {n : Int} (h : InI n) : GoodS (numP n) := ⟨num_good n, fun x hx => (num_fine n h x hx).2⟩
theorem var_GoodS {v : Nat} (h : v < 4) : GoodS (varP v) := ⟨var_good v h, fun x hx => by
  rw [varP_is] at hx
  rcases List.mem_singleton.1 hx with rfl
  show InI 1
  unfold InI; omega⟩
theorem times_GoodS {p s : List Mon} {n : Int} (hp : GoodS p) (hn : InI n) (h : okP (mulP p (numP n)) = some s) : GoodS s := by
  obtain ⟨rfl, h1⟩ := okP_some h
  exact ⟨h1, fun x hx => ((mulP_ok hp.len (fun m hm => (num_fine n hn m hm).1)).1.2 x hx).2.1⟩
theorem two_GoodS {op : Int} {p q s : List Mon} (hp : GoodS p) (hq : GoodS q) (h : okP (twoP op p q) = some s) : GoodS s := by
  obtain ⟨rfl, h1⟩ := okP_some h
  refine ⟨h1, ?_⟩
  have hn : InI (-1) := by unfold InI; omega
  unfold twoP
  by_cases h4 : op = 4
  · rw [if_pos h4]
    exact fun x hx => ((addP_ok hp.fine hq.fine).1.2 x hx).2.1
  · rw [if_neg h4]
    by_cases h5 : op = 5
    · rw [if_pos h5]
      have hm := (mulP_ok hq.len (fun m hm => (num_fine (-1) hn m hm).1)).1
      exact fun x hx => ((addP_ok hp.fine (fun m hm' => ⟨(hm.2 m hm').1, (hm.2 m hm').2.1⟩)).1.2 x hx).2.1
    · rw [if_neg h5]
      exact fun x hx => ((mulP_ok hp.len hq.len).1.2 x hx).2.1
theorem ofF_good {l : List (Int × Int)} (hn : ∀ k, (l.getD k (0, 0)).1 = 1 → InI (l.getD k (0, 0)).2) (hv : ∀ k, (l.getD k (0, 0)).1 = 2 → (l.getD k (0, 0)).2.toNat < 4) : ∀ (f k : Nat) (p : List Mon), ofF l f k = some p → GoodS p
  | 0, _, _, h => by cases h
  | f + 1, k, p, h => by
    have ih := fun k p => ofF_good hn hv f k p
    unfold ofF at h
    by_cases h1 : (l.getD k (0, 0)).1 = 1
    · rw [if_pos h1] at h
      cases h
      exact num_GoodS (hn k h1)
    · rw [if_neg h1] at h
      by_cases h2 : (l.getD k (0, 0)).1 = 2
      · rw [if_pos h2] at h
        cases h
        exact var_GoodS (hv k h2)
      · rw [if_neg h2] at h
        cases h0 : ofF l f ((roots l (ar (l.getD k (0, 0)).1).toNat k).getD 0 0) with
        | none => rw [h0] at h; cases h
        | some p0 =>
          rw [h0] at h
          have g0 := ih _ _ h0
          simp only at h
          by_cases h3 : (l.getD k (0, 0)).1 = 3
          · rw [if_pos h3] at h
            exact times_GoodS g0 (by unfold InI; omega) h
          · rw [if_neg h3] at h
            by_cases h7 : (l.getD k (0, 0)).1 = 7
            · rw [if_pos h7] at h
              exact times_GoodS g0 (wrap_in _) h
            · rw [if_neg h7] at h
              cases h9 : ofF l f ((roots l (ar (l.getD k (0, 0)).1).toNat k).getD 1 0) with
              | none => rw [h9] at h; cases h
              | some q0 =>
                rw [h9] at h
                exact two_GoodS g0 (ih _ _ h9) h
end Go.Proofs.YtpjgjpjfchfmlaaDoor
