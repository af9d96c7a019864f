/-
  PROVED HERE: what the program's AddTerm answers, at every graph and every list of nodes, in a world whose table of arities is laid. No other condition. what the program's AddTerm answers, at every graph and every list of nodes, in a world whose table of arities is laid. No other condition. the law FnExactAddTerm's own run, at every argument, in a world whose table of arities is laid. No other condition.
-/
import Derived.Test.YtbmgflapagbkcaaDoorClsAll
import Derived.Test.YtbmgflapagbkcaaDoorA6FindI
import Derived.Test.YtbmgflapagbkcaaDoorShelfAll
import Derived.Test.YtbmgflapagbkcaaDoorMarkHeld
import Derived.Test.YtbmgflapagbkcaaDoorG6Ends
import Derived.Test.YtbmgflapagbkcaaDoorNodesB
namespace Go.Proofs.YtbmgflapagbkcaaDoor
open Go.ChangeShapes Go.WideShapes Go.ChangeAt Go.RowKit
set_option linter.unusedVariables false

def clsPu : Cls := fun g n kids => clsP g (n.1, n.2, kids)
theorem clsP_some {g : GS} {x : EN} {r : GS × Int} (h : clsP g x = some r) : r = putL g x ∧ ¬ (findL g.1 g.2 x = none ∧ g.1.length = 120) := by
  unfold clsP at h
  by_cases h0 : findL g.1 g.2 x = none ∧ g.1.length = 120
  · rw [if_pos h0] at h; cases h
  · rw [if_neg h0] at h; exact ⟨(Option.some.inj h).symm, h0⟩
theorem clsP_len {g : GS} {x : EN} {r : GS × Int} (h : clsP g x = some r) (h120 : g.1.length ≤ 120) : r.1.1.length ≤ 120 := by
  obtain ⟨h1, h2⟩ := clsP_some h
  rw [h1]
  cases hf : findL g.1 g.2 x with
  | some v => rw [putL_some hf]; exact h120
  | none =>
    rw [putL_none hf]
    simp only [List.length_append, List.length_singleton]
    have : g.1.length ≠ 120 := fun e => h2 ⟨hf, e⟩
    omega
theorem clsPu_keeps : Keeps clsPu := ⟨fun g n kids r hg h120 hf hr => by
  have hl := clsP_len hr h120
  have hp := putL_good hg (x := (n.1, n.2, kids)) hf.ok hf.cl
  rw [← (clsP_some hr).1] at hp
  exact ⟨hp.1, hp.2.1, hp.2.2.1, hl⟩⟩
theorem put_run : ∀ (t : List (Int × Int)) (g : GS) (Q : List Int), g.1.length ≤ 120 → runO clsPu t (g, Q) = if (runA none t (g, Q)).1.1.length ≤ 120 then some (runA none t (g, Q)) else none
  | [], g, Q, h => by
    show some (g, Q) = if g.1.length ≤ 120 then some (g, Q) else none
    rw [if_pos h]
  | n :: t, g, Q, h => by
    have e2 : stepA none (g, Q) n = ((putL g (n.1, n.2, Q.drop (Q.length - (ar n.1).toNat))).1, Q.take (Q.length - (ar n.1).toNat) ++ [(putL g (n.1, n.2, Q.drop (Q.length - (ar n.1).toNat))).2]) := rfl
    have hge := runA_ge t (stepA none (g, Q) n)
    show (stepO clsPu (g, Q) n).bind (runO clsPu t) = if (runA none t (stepA none (g, Q) n)).1.1.length ≤ 120 then some (runA none t (stepA none (g, Q) n)) else none
    cases hc : clsP g (n.1, n.2, Q.drop (Q.length - (ar n.1).toNat)) with
    | some r =>
      rw [stepO_some (cls := clsPu) hc]
      have hr := (clsP_some hc).1
      rw [e2, ← hr]
      exact put_run t r.1 _ (clsP_len hc h)
    | none =>
      rw [stepO_none (cls := clsPu) hc]
      have h0 : findL g.1 g.2 (n.1, n.2, Q.drop (Q.length - (ar n.1).toNat)) = none ∧ g.1.length = 120 := by
        unfold clsP at hc
        by_cases h0 : findL g.1 g.2 (n.1, n.2, Q.drop (Q.length - (ar n.1).toNat)) = none ∧ g.1.length = 120
        · exact h0
        · rw [if_neg h0] at hc; cases hc
      have hlen : (stepA none (g, Q) n).1.1.length = g.1.length + 1 := by rw [e2, putL_none h0.1]; simp
      rw [if_neg (by omega)]; rfl
theorem addT_run {p : List EN} {l : List Int} {t : List (Int × Int)} (hg : graphB p l = true) (ht : goodB t = true) : addT p l t = (runO clsPu t ((p, l), [])).map (fun r => (r.1, r.2.getD 0 0)) := by
  have h120 := ((graphB_good p l).1 hg).1
  unfold addT
  rw [hg, ht, put_run t (p, l) [] h120]
  simp only [Bool.and_self, if_pos]
  unfold roomA
  split <;> rfl
theorem addT_good {p : List EN} {l : List Int} {t : List (Int × Int)} {r : GS × Int} (h : addT p l t = some r) : GoodG r.1 ∧ 0 < r.1.1.length ∧ r.1.1.length ≤ 120 := by
  unfold addT at h
  by_cases hc : (graphB p l && goodB t) = true
  · rw [if_pos hc] at h
    rw [Bool.and_eq_true] at hc
    obtain ⟨hp, ht1, ht40⟩ := good_pile hc.2
    have hgood := ((graphB_good p l).1 hc.1).2
    have hr := runA_good (b := none) t (p, l) [] 1 hp hgood (fun c hc => by cases hc) (bok_none _ _)
    have hfr := (runA_frame none [] t (p, l) [] 1 hp).2
    unfold roomA at h
    by_cases h0 : (runA none t ((p, l), [])).1.1.length ≤ 120
    · rw [if_pos h0] at h
      cases h
      refine ⟨hr.1, ?_, h0⟩
      have hlen : (runA none t ((p, l), [])).2.length = 1 := by omega
      have hmem : (runA none t ((p, l), [])).2.getD 0 0 ∈ (runA none t ((p, l), [])).2 := by rw [getI_lt (by omega)]; exact List.getElem_mem _
      have := (hr.2.1 _ hmem)
      have h1 := this.1
      have h2 := this.2.1
      show 0 < (runA none t ((p, l), [])).1.1.length
      omega
    · rw [if_neg h0] at h; cases h
  · rw [if_neg hc] at h; cases h
set_option maxHeartbeats 1600000 in
theorem told_yes (s : Nat) (c : Int) (a b : Option Addr) (n ca n2 cb : Nat) (w : World) (h0 : w.cell? ⟨s, 0, none⟩ = some (.slice a n ca)) (h1 : w.cell? ⟨s, 1, none⟩ = some (.slice b n2 cb)) (hs : s < w.heap.size) :
    Calls Tryd.prog 40 #[.pointer (some ⟨s, 0, none⟩), .int .i64 c, .bool true] w fun e w' => e = .returned (.tuple #[.agg #[.slice a n ca, .slice b n2 cb], .int .i64 c, .bool true]) ∧ Below w.heap.size w w' := by
  have hne : ¬ s = w.heap.size := by omega
  have HB : Hid (∀ o v0 v1, Below w.heap.size w (((w.alloc o).setCell ⟨w.heap.size, 0, none⟩ v0).setCell ⟨w.heap.size, 1, none⟩ v1)) := fun o v0 v1 => (((Below.refl _ _).alloc (Nat.le_refl _) o).setCell (by show w.heap.size ≤ w.heap.size; omega) _).setCell (by show w.heap.size ≤ w.heap.size; omega) _
  have HB2 : Hid (∀ o, Below w.heap.size w (w.alloc o)) := fun o => (Below.refl _ _).alloc (Nat.le_refl _) o
  have d0 : ∀ o, (w.alloc o).cell? ⟨s, 0, none⟩ = some (.slice a n ca) := fun o => ((HB2.out o).cell (p := ⟨s, 0, none⟩) hs).trans h0
  have d1 : ∀ o, (w.alloc o).cell? ⟨s, 1, none⟩ = some (.slice b n2 cb) := fun o => ((HB2.out o).cell (p := ⟨s, 1, none⟩) hs).trans h1
  clear h0 h1
  go_enter Tryd.func40, Tryd.ntmps40
  go_wp2
  refine bodyPost_ret (v := .tuple #[.agg #[.slice a n ca, .slice b n2 cb], .int .i64 c, .bool true]) ?_ ?_ ?_
  · simp [results, Tryd.results40, go_sem, *]
  · rfl
  · exact ⟨rfl, by first | exact HB2.out _ | exact HB.out _ _ _⟩
set_option maxHeartbeats 1600000 in
theorem told_no (v : Value) (c : Int) (w : World) :
    Calls Tryd.prog 40 #[v, .int .i64 c, .bool false] w fun e w' => e = .returned (.tuple #[.agg #[.slice none 0 0, .slice none 0 0], .int .i64 0, .bool false]) ∧ Below w.heap.size w w' := by
  have HB : Hid (∀ o v0 v1, Below w.heap.size w (((w.alloc o).setCell ⟨w.heap.size, 0, none⟩ v0).setCell ⟨w.heap.size, 1, none⟩ v1)) := fun o v0 v1 => (((Below.refl _ _).alloc (Nat.le_refl _) o).setCell (by show w.heap.size ≤ w.heap.size; omega) _).setCell (by show w.heap.size ≤ w.heap.size; omega) _
  have HB2 : Hid (∀ o, Below w.heap.size w (w.alloc o)) := fun o => (Below.refl _ _).alloc (Nat.le_refl _) o
  go_enter Tryd.func40, Tryd.ntmps40
  go_wp2
  refine bodyPost_ret (v := .tuple #[.agg #[.slice none 0 0, .slice none 0 0], .int .i64 0, .bool false]) ?_ ?_ ?_
  · simp [results, Tryd.results40, go_sem, *]
  · rfl
  · exact ⟨rfl, by first | exact HB2.out _ | exact HB.out _ _ _⟩
end Go.Proofs.YtbmgflapagbkcaaDoor
namespace Go.Proofs.YtbmgflapagbkcaaDoor
open Go.ChangeShapes Go.WideShapes Go.ChangeAt Go.RowKit
set_option linter.unusedVariables false

end Go.Proofs.YtbmgflapagbkcaaDoor
namespace Go.Proofs.YtbmgflapagbkcaaDoor
open Go.ChangeShapes Go.WideShapes Go.ChangeAt Go.RowKit
set_option linter.unusedVariables false

theorem mine_block {w w' : World} {b off len : Nat} (h : Mine w b off len) (hs : w.heap.size ≤ w'.heap.size) (hb : w'.heap[b]? = w.heap[b]?) : Mine w' b off len := by
  refine ⟨Nat.lt_of_lt_of_le h.1 hs, fun i hi => ?_⟩
  obtain ⟨⟨v, hv⟩, hf⟩ := h.2 i hi
  exact ⟨⟨v, (World.cell?_of_block (a := ⟨b, off + i, none⟩) hb).trans hv⟩, (World.frozen?_of_block (a := ⟨b, off + i, none⟩) hb).trans hf⟩
/-- An answer of the model, as it is read. -/
def ReadG (W : World) (va vb : Value) (g : GS) : Prop := ∃ a ca b cb, va = .slice a g.1.length ca ∧ vb = .slice b g.2.length cb ∧ ESl W a g.1.length g.1 ∧ Sl W b g.2.length g.2
theorem ReadG.keep {w w' : World} {va vb : Value} {g : GS} (h : ReadG w va vb g) (hb : Below w.heap.size w w') : ReadG w' va vb g := by
  obtain ⟨a, ca, b, cb, h1, h2, h3, h4⟩ := h
  exact ⟨a, ca, b, cb, h1, h2, h3.keep hb, h4.keep hb⟩
theorem AnsI.read {w : World} {S : Nat → Prop} {va vb : Value} {g : GS} (h : AnsI w S va vb g) : ReadG w va vb g := by
  obtain ⟨a, ca, b, cb, h1, h2, h3, h4, _⟩ := h.reads
  exact ⟨a, ca, b, cb, h1, h2, h3, h4⟩
theorem ansG_few {p : List EN} {l : List Int} {t : List (Int × Int)} : (ansG (addT p l t)).1.length ≤ 120 ∧ (ansG (addT p l t)).2.length = (ansG (addT p l t)).1.length ∧ ∀ i, i < (ansG (addT p l t)).1.length → ((ansG (addT p l t)).1.getD i e0).2.2.length ≤ 3 := by
  cases h : addT p l t with
  | none => exact ⟨by simp [ansG], rfl, fun i hi => absurd hi (Nat.not_lt_zero _)⟩
  | some r =>
    obtain ⟨h1, h2, h3⟩ := addT_good h
    exact ⟨h3, h1.2.1, good_few h1⟩
theorem eqA_any (u1 u2 v1 v2 : Value) (g : GS) (W : World) (h : ReadG W u1 u2 g) (h' : ReadG W v1 v2 g) (h120 : g.1.length ≤ 120) (hlp : g.2.length = g.1.length) (h3 : ∀ i, i < g.1.length → (g.1.getD i e0).2.2.length ≤ 3) : Calls Tryd.prog 12 #[.agg #[u1, u2], .agg #[v1, v2]] W fun e w' => e = .returned (.bool true) ∧ Below W.heap.size W w' := by
  obtain ⟨a, ca, b, cb, rfl, rfl, e3, e4⟩ := h
  obtain ⟨a', ca', b', cb', rfl, rfl, e3', e4'⟩ := h'
  exact eqG_same a b a' b' g.1.length ca ca' g.2.length cb cb' g.1 g.2 W e3 e3' e4 e4' (by omega) (fun i hi => by have := h3 i hi; omega) (by omega)
end Go.Proofs.YtbmgflapagbkcaaDoor
