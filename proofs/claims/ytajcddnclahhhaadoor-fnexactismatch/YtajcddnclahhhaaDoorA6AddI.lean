/-
  PROVED HERE: what the program's AddTerm answers, at every graph and every list of nodes, in a world whose table of arities is laid. No other condition.
-/
import Derived.Test.YtajcddnclahhhaaDoorClsAll
import Derived.Test.YtajcddnclahhhaaDoorA6FindI
import Derived.Test.YtajcddnclahhhaaDoorShelfAll
import Derived.Test.YtajcddnclahhhaaDoorMarkHeld
namespace Go.Proofs.YtajcddnclahhhaaDoor
open Go.ChangeShapes Go.WideShapes Go.ChangeAt Go.RowKit
set_option linter.unusedVariables false

def clsPu : Cls := fun g n kids => clsP g (n.1, n.2, kids)
theorem clsP_some {g : GS} {x : EN} {r : GS × Int} (h : clsP g x = some r) : r = putL g x ∧ ¬ (findL g.1 g.2 x = none ∧ g.1.length = 120) := by
  unfold clsP at h
  by_cases h0 : findL g.1 g.2 x = none ∧ g.1.length = 120
  · rw [if_pos h0] at h; cases h
  · rw [if_neg h0] at h; exact ⟨(Option.some.inj h).symm, h0⟩
theorem clsP_len {g : GS} {x : EN} {r : GS × Int} (h : clsP g x = some r) (h120 : g.1.length ≤ 120) : r.1.1.length ≤ 120 := by
  obtain ⟨h1, h2⟩ := clsP_some h
  rw [h1]
  cases hf : findL g.1 g.2 x with
  | some v => rw [putL_some hf]; exact h120
  | none =>
    rw [putL_none hf]
    simp only [List.length_append, List.length_singleton]
    have : g.1.length ≠ 120 := fun e => h2 ⟨hf, e⟩
    omega
theorem clsPu_keeps : Keeps clsPu := ⟨fun g n kids r hg h120 hf hr => by
  have hl := clsP_len hr h120
  have hp := putL_good hg (x := (n.1, n.2, kids)) hf.ok hf.cl
  rw [← (clsP_some hr).1] at hp
  exact ⟨hp.1, hp.2.1, hp.2.2.1, hl⟩⟩
theorem put_run : ∀ (t : List (Int × Int)) (g : GS) (Q : List Int), g.1.length ≤ 120 → runO clsPu t (g, Q) = if (runA none t (g, Q)).1.1.length ≤ 120 then some (runA none t (g, Q)) else none
  | [], g, Q, h => by
    show some (g, Q) = if g.1.length ≤ 120 then some (g, Q) else none
    rw [if_pos h]
  | n :: t, g, Q, h => by
    have e2 : stepA none (g, Q) n = ((putL g (n.1, n.2, Q.drop (Q.length - (ar n.1).toNat))).1, Q.take (Q.length - (ar n.1).toNat) ++ [(putL g (n.1, n.2, Q.drop (Q.length - (ar n.1).toNat))).2]) := rfl
    have hge := runA_ge t (stepA none (g, Q) n)
    show (stepO clsPu (g, Q) n).bind (runO clsPu t) = if (runA none t (stepA none (g, Q) n)).1.1.length ≤ 120 then some (runA none t (stepA none (g, Q) n)) else none
    cases hc : clsP g (n.1, n.2, Q.drop (Q.length - (ar n.1).toNat)) with
    | some r =>
      rw [stepO_some (cls := clsPu) hc]
      have hr := (clsP_some hc).1
      rw [e2, ← hr]
      exact put_run t r.1 _ (clsP_len hc h)
    | none =>
      rw [stepO_none (cls := clsPu) hc]
      have h0 : findL g.1 g.2 (n.1, n.2, Q.drop (Q.length - (ar n.1).toNat)) = none ∧ g.1.length = 120 := by
        unfold clsP at hc
        by_cases h0 : findL g.1 g.2 (n.1, n.2, Q.drop (Q.length - (ar n.1).toNat)) = none ∧ g.1.length = 120
        · exact h0
        · rw [if_neg h0] at hc; cases hc
      have hlen : (stepA none (g, Q) n).1.1.length = g.1.length + 1 := by rw [e2, putL_none h0.1]; simp
      rw [if_neg (by omega)]; rfl
theorem addT_run {p : List EN} {l : List Int} {t : List (Int × Int)} (hg : graphB p l = true) (ht : goodB t = true) : addT p l t = (runO clsPu t ((p, l), [])).map (fun r => (r.1, r.2.getD 0 0)) := by
  have h120 := ((graphB_good p l).1 hg).1
  unfold addT
  rw [hg, ht, put_run t (p, l) [] h120]
  simp only [Bool.and_self, if_pos]
  unfold roomA
  split <;> rfl
theorem addT_good {p : List EN} {l : List Int} {t : List (Int × Int)} {r : GS × Int} (h : addT p l t = some r) : GoodG r.1 ∧ 0 < r.1.1.length ∧ r.1.1.length ≤ 120 := by
  unfold addT at h
  by_cases hc : (graphB p l && goodB t) = true
  · rw [if_pos hc] at h
    rw [Bool.and_eq_true] at hc
    obtain ⟨hp, ht1, ht40⟩ := good_pile hc.2
    have hgood := ((graphB_good p l).1 hc.1).2
    have hr := runA_good (b := none) t (p, l) [] 1 hp hgood (fun c hc => by cases hc) (bok_none _ _)
    have hfr := (runA_frame none [] t (p, l) [] 1 hp).2
    unfold roomA at h
    by_cases h0 : (runA none t ((p, l), [])).1.1.length ≤ 120
    · rw [if_pos h0] at h
      cases h
      refine ⟨hr.1, ?_, h0⟩
      have hlen : (runA none t ((p, l), [])).2.length = 1 := by omega
      have hmem : (runA none t ((p, l), [])).2.getD 0 0 ∈ (runA none t ((p, l), [])).2 := by rw [getI_lt (by omega)]; exact List.getElem_mem _
      have := (hr.2.1 _ hmem)
      have h1 := this.1
      have h2 := this.2.1
      show 0 < (runA none t ((p, l), [])).1.1.length
      omega
    · rw [if_neg h0] at h; cases h
  · rw [if_neg hc] at h; cases h
end Go.Proofs.YtajcddnclahhhaaDoor
