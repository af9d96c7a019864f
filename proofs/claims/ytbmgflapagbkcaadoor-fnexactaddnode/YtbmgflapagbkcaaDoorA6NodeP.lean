/-
  PROVED HERE: what AddNode tells, plainly. No condition.
-/
import Derived.Test.YtbmgflapagbkcaaDoorAddEnd
namespace Go.Proofs.YtbmgflapagbkcaaDoor
set_option linter.unusedVariables false

/-- What AddNode tells. -/
def addN (p : List EN) (l : List Int) (op n : Int) (kids : List Int) : Option (GS × Int) := if graphB p l && (nodeOk op n kids.length && kidsB kids 0 ((p.length : Int) - 1)) then (if (putL (p, l) (op, n, kidsL l kids)).1.1.length ≤ 120 then some (putL (p, l) (op, n, kidsL l kids)) else none) else none
theorem addN_fits {p : List EN} {l : List Int} {op n : Int} {kids : List Int} (h1 : nodeOk op n kids.length = true) (h2 : kidsB kids 0 ((p.length : Int) - 1) = true) (hn : InI n) : Fits (p, l) op n kids := ⟨h1, hn, fun i hi => by
  have := (kidsB_iff _ _ _).1 h2 (kids.getD i 0) (by rw [getI_lt hi]; exact List.getElem_mem _)
  exact ⟨(kids.getD i 0).toNat, by omega, by simp only; omega⟩⟩
theorem clsP_room {g : GS} {x : EN} (h : g.1.length ≤ 120) : clsP g x = if (putL g x).1.1.length ≤ 120 then some (putL g x) else none := by
  cases hc : clsP g x with
  | some r =>
    have hl := clsP_len hc h
    have hr := (clsP_some hc).1
    rw [← hr, if_pos hl]
  | none =>
    have h0 : findL g.1 g.2 x = none ∧ g.1.length = 120 := by
      unfold clsP at hc
      by_cases h0 : findL g.1 g.2 x = none ∧ g.1.length = 120
      · exact h0
      · rw [if_neg h0] at hc; cases hc
    rw [putL_none h0.1, if_neg (by simp; omega)]
theorem addN_cls {p : List EN} {l : List Int} {op n : Int} {kids : List Int} (hg : graphB p l = true) (ho : nodeOk op n kids.length = true) (hk : kidsB kids 0 ((p.length : Int) - 1) = true) : addN p l op n kids = clsP (p, l) (op, n, kidsL l kids) := by
  have h120 := ((graphB_good p l).1 hg).1
  unfold addN
  rw [hg, ho, hk, clsP_room (g := (p, l)) h120]
  rfl
theorem addN_good {p : List EN} {l : List Int} {op n : Int} {kids : List Int} {r : GS × Int} (hn : InI n) (h : addN p l op n kids = some r) : GoodG r.1 ∧ 0 < r.1.1.length ∧ r.1.1.length ≤ 120 := by
  unfold addN at h
  by_cases hc : (graphB p l && (nodeOk op n kids.length && kidsB kids 0 ((p.length : Int) - 1))) = true
  · rw [if_pos hc] at h
    simp only [Bool.and_eq_true] at hc
    have hgood := ((graphB_good p l).1 hc.1).2
    have hfit := addN_fits (l := l) hc.2.1 hc.2.2 hn
    have hpg := putL_good hgood (x := (op, n, kidsL l kids)) (fits_ok hfit) (kidsL_cl hgood hfit)
    by_cases h0 : (putL (p, l) (op, n, kidsL l kids)).1.1.length ≤ 120
    · rw [if_pos h0] at h
      cases h
      have h1 := hpg.2.1.1
      have h2 := hpg.2.1.2.1
      exact ⟨hpg.1, by omega, h0⟩
    · rw [if_neg h0] at h; cases h
  · rw [if_neg hc] at h; cases h
end Go.Proofs.YtbmgflapagbkcaaDoor
