/-
  PROVED HERE: plain facts on copied lists of lists of nodes. No condition.
-/
import Derived.Test.YtlpefaaohcgboaaDoorLots
namespace Go.Proofs.YtlpefaaohcgboaaDoor
open Go.ChangeShapes Go.WideShapes Go.ChangeAt Go.RowKit
set_option linter.unusedVariables false

/-- Lists of one's own: the outer one in block b, the others behind it, all ahead of hi. -/
def Own2 (w : World) (b : Nat) (ls : List (List (Int × Int))) (hi : Nat) : Prop :=
  ∃ f : Nat → Nat, Copied w b ls ls.length f ∧ (∀ i, i < ls.length → f i < hi) ∧ b < w.heap.size ∧ b < hi ∧ ∀ i, i < ls.length → w.cell? ⟨b, i, none⟩ = some (.slice (some ⟨f i, 0, none⟩) (ls.getD i []).length (ls.getD i []).length)
theorem Own2.lt {w : World} {b hi : Nat} {ls : List (List (Int × Int))} (h : Own2 w b ls hi) : b < hi := by
  obtain ⟨f, _, _, _, h1, _⟩ := h
  exact h1
theorem Own2.grown {w w' : World} {b hi r : Nat} {ls : List (List (Int × Int))} (h : Own2 w b ls hi) (hg : w.grownBy w' (some r)) (hr : r < b ∨ hi ≤ r) : Own2 w' b ls hi := by
  obtain ⟨f, h1, h2, h3, h4, h5⟩ := h
  refine ⟨f, h1.grown hg (fun i hi' => ne_some (by have := (h1 i hi').1; have := h2 i hi'; omega)), h2, Nat.lt_of_lt_of_le h3 hg.size, h4, fun i hi' => hg.cell (h5 i hi') (ne_some (show b ≠ r by omega))⟩
theorem Own2.keep {w w' : World} {b hi : Nat} {ls : List (List (Int × Int))} (h : Own2 w b ls hi) (hb : Below w.heap.size w w') : Own2 w' b ls hi := by
  obtain ⟨f, h1, h2, h3, h4, h5⟩ := h
  exact ⟨f, h1.grown (grown_of hb) (fun i hi' => by simp), h2, Nat.lt_of_lt_of_le h3 hb.size, h4, fun i hi' => (hb.cell (p := ⟨b, i, none⟩) h3).trans (h5 i hi')⟩
theorem copyNN_own (a : Option Addr) (lb cb : Nat) (ls : List (List (Int × Int))) (w : World) (h : NNSl w a lb ls) (hn : lb ≤ 1048576) (hp : ∀ i, i < lb → (ls.getD i []).length ≤ 1048576) :
    Calls Tryd.prog 34 #[.slice a lb cb] w fun e w' => e = .returned (.slice (some ⟨w.heap.size, 0, none⟩) lb lb) ∧ Below w.heap.size w w' ∧ NNSl w' (some ⟨w.heap.size, 0, none⟩) lb ls ∧ Own2 w' w.heap.size ls w'.heap.size := by
  have hl := h.1
  refine (copyNN_mine a lb cb ls w h hn hp).mono ?_
  rintro e w' ⟨rfl, hb, hlt, f, h1, h2⟩
  refine ⟨rfl, hb, h1.lists hl hlt h2 hp, f, ?_⟩
  rw [hl]
  exact ⟨h1, fun i hi' => (h1 i hi').2.1, hlt, hlt, h2⟩
end Go.Proofs.YtlpefaaohcgboaaDoor
