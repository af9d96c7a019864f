/-
  PROVED HERE: the law FnExactAddTerm's own run, at every argument, in a world whose table of arities is laid. No other condition.
-/
import Derived.Test.YthkjmgjajmghmaaDoorRun41
import Derived.Test.YthkjmgjajmghmaaDoorRun38
namespace Go.Proofs.YthkjmgjajmghmaaDoor
open Go.ChangeShapes Go.WideShapes Go.ChangeAt Go.RowKit
set_option linter.unusedVariables false

theorem mine_block {w w' : World} {b off len : Nat} (h : Mine w b off len) (hs : w.heap.size ≤ w'.heap.size) (hb : w'.heap[b]? = w.heap[b]?) : Mine w' b off len := by
  refine ⟨Nat.lt_of_lt_of_le h.1 hs, fun i hi => ?_⟩
  obtain ⟨⟨v, hv⟩, hf⟩ := h.2 i hi
  exact ⟨⟨v, (World.cell?_of_block (a := ⟨b, off + i, none⟩) hb).trans hv⟩, (World.frozen?_of_block (a := ⟨b, off + i, none⟩) hb).trans hf⟩
/-- An answer of the model, as it is read. -/
def ReadG (W : World) (va vb : Value) (g : GS) : Prop := ∃ a ca b cb, va = .slice a g.1.length ca ∧ vb = .slice b g.2.length cb ∧ ESl W a g.1.length g.1 ∧ Sl W b g.2.length g.2
theorem ReadG.keep {w w' : World} {va vb : Value} {g : GS} (h : ReadG w va vb g) (hb : Below w.heap.size w w') : ReadG w' va vb g := by
  obtain ⟨a, ca, b, cb, h1, h2, h3, h4⟩ := h
  exact ⟨a, ca, b, cb, h1, h2, h3.keep hb, h4.keep hb⟩
theorem AnsI.read {w : World} {S : Nat → Prop} {va vb : Value} {g : GS} (h : AnsI w S va vb g) : ReadG w va vb g := by
  obtain ⟨a, ca, b, cb, h1, h2, h3, h4, _⟩ := h.reads
  exact ⟨a, ca, b, cb, h1, h2, h3, h4⟩
theorem ansG_few {p : List EN} {l : List Int} {t : List (Int × Int)} : (ansG (addT p l t)).1.length ≤ 120 ∧ (ansG (addT p l t)).2.length = (ansG (addT p l t)).1.length ∧ ∀ i, i < (ansG (addT p l t)).1.length → ((ansG (addT p l t)).1.getD i e0).2.2.length ≤ 3 := by
  cases h : addT p l t with
  | none => exact ⟨by simp [ansG], rfl, fun i hi => absurd hi (Nat.not_lt_zero _)⟩
  | some r =>
    obtain ⟨h1, h2, h3⟩ := addT_good h
    exact ⟨h3, h1.2.1, good_few h1⟩
theorem eqA_any (u1 u2 v1 v2 : Value) (g : GS) (W : World) (h : ReadG W u1 u2 g) (h' : ReadG W v1 v2 g) (h120 : g.1.length ≤ 120) (hlp : g.2.length = g.1.length) (h3 : ∀ i, i < g.1.length → (g.1.getD i e0).2.2.length ≤ 3) : Calls Tryd.prog 9 #[.agg #[u1, u2], .agg #[v1, v2]] W fun e w' => e = .returned (.bool true) ∧ Below W.heap.size W w' := by
  obtain ⟨a, ca, b, cb, rfl, rfl, e3, e4⟩ := h
  obtain ⟨a', ca', b', cb', rfl, rfl, e3', e4'⟩ := h'
  exact eqG_same a b a' b' g.1.length ca ca' g.2.length cb cb' g.1 g.2 W e3 e3' e4 e4' (by omega) (fun i hi => by have := h3 i hi; omega) (by omega)
end Go.Proofs.YthkjmgjajmghmaaDoor
