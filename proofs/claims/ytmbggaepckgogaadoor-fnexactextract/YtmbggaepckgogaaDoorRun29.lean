/-
  PROVED HERE: plain facts on what stays where memory grows or one block is written. No condition. plain facts on what stays where memory grows or one block is written. No condition.
-/
import Derived.Test.YtmbggaepckgogaaDoorRun0
import Derived.Test.YtmbggaepckgogaaDoorRun28
namespace Go.Proofs.YtmbggaepckgogaaDoor
open Go.ChangeShapes Go.WideShapes Go.ChangeAt Go.RowKit
set_option linter.unusedVariables false

theorem NSl.grown {w w' : World} {a : Option Addr} {len : Nat} {l : List (Int × Int)} {r : Option Nat} (h : NSl w a len l) (hg : w.grownBy w' r) (hne : ∀ x, a = some x → some x.block ≠ r) : NSl w' a len l := by
  refine ⟨h.1, ?_⟩
  rcases h.2 with h0 | ⟨b, off, ha, hlt, hc⟩
  · exact .inl h0
  · have hb := hg.block b hlt (hne _ ha)
    refine .inr ⟨b, off, ha, Nat.lt_of_lt_of_le hlt hg.size, fun i hi => ?_⟩
    rw [← (hc i hi).1, ← (hc i hi).2]
    constructor <;> simp only [World.cell?, hb]
theorem own_keep {w w' : World} {base e size n : Nat} {v : Value} {xs : List Value} (h : w.ownsRow base e size v n xs) (hb : Below w.heap.size w w') : w'.ownsRow base e size v n xs :=
  h.kept (grown_of hb) (by cases hv : v.ownBlock <;> simp)
theorem own_grown {w w' : World} {base e size n : Nat} {v : Value} {xs : List Value} {r : Option Nat} (h : w.ownsRow base e size v n xs) (hg : w.grownBy w' r) (hne : ∀ x, v.ownBlock = some x → some x ≠ r) : w'.ownsRow base e size v n xs :=
  h.kept hg (by
    cases hv : v.ownBlock with
    | none => exact .inl rfl
    | some x => exact .inr (hne x hv))
theorem own_in {w : World} {base e size n : Nat} {v : Value} {xs : List Value} (h : w.ownsRow base e size v n xs) : ∀ x, v.ownBlock = some x → x < w.heap.size := by
  intro x hx
  rcases h.2 with ⟨rfl, _⟩ | ⟨g, cap, cur, rfl, _, hg, _⟩
  · cases hx
  · cases hx; exact Array.getElem?_eq_some_iff.1 hg |>.1
end Go.Proofs.YtmbggaepckgogaaDoor
namespace Go.Proofs.YtmbggaepckgogaaDoor
open Go.ChangeShapes Go.WideShapes Go.ChangeAt Go.RowKit
set_option linter.unusedVariables false

theorem Mine.keep {w w' : World} {b off len : Nat} (h : Mine w b off len) (hb : Below w.heap.size w w') : Mine w' b off len := by
  refine ⟨Nat.lt_of_lt_of_le h.1 hb.size, fun i hi => ?_⟩
  have e := hb.block b h.1
  obtain ⟨⟨v, hv⟩, hf⟩ := h.2 i hi
  refine ⟨⟨v, ?_⟩, ?_⟩
  · rw [← hv]; simp only [World.cell?, e]
  · rw [← hf]; simp only [World.frozen?, e]

end Go.Proofs.YtmbggaepckgogaaDoor
