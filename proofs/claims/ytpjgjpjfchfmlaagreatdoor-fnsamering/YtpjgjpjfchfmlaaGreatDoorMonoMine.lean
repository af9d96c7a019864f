/-
  PROVED HERE: what it is for a list of products to lie in memory of its own. No condition.
-/
import Derived.Test.YtpjgjpjfchfmlaaGreatDoorPolyGoods
namespace Go.Proofs.YtpjgjpjfchfmlaaGreatDoor
open Go.ChangeShapes Go.WideShapes Go.ChangeAt Go.RowKit
set_option linter.unusedVariables false

/-- A list of products of one's own, in blocks from lo on: each part may be written, and no two lie in one block. -/
def PMine (w : World) (lo hi g len : Nat) (p : List Mon) : Prop :=
  p.length = len ∧ lo ≤ g ∧ g < hi ∧ hi ≤ w.heap.size ∧ ∃ bs : Nat → Nat, (∀ i, i < len → lo ≤ bs i ∧ bs i < hi ∧ bs i ≠ g ∧ ∀ j, j < i → bs j ≠ bs i) ∧
    ∀ i, i < len → (∃ c, (p.getD i ([], 0)).1.length ≤ c ∧ w.cell? ⟨g, i * 2, none⟩ = some (.slice (some ⟨bs i, 0, none⟩) (p.getD i ([], 0)).1.length c)) ∧ w.cell? ⟨g, i * 2 + 1, none⟩ = some (.int .i64 (p.getD i ([], 0)).2) ∧ w.frozen? ⟨g, i * 2 + 1, none⟩ = false ∧
      ∀ j, j < (p.getD i ([], 0)).1.length → w.cell? ⟨bs i, j, none⟩ = some (.int .i64 ((p.getD i ([], 0)).1.getD j 0)) ∧ w.frozen? ⟨bs i, j, none⟩ = false
theorem PMine.psl {w : World} {lo hi g len : Nat} {p : List Mon} (h : PMine w lo hi g len p) (hp : ∀ i, i < len → (p.getD i ([], 0)).1.length ≤ 9223372036854775807) : PSl w (some ⟨g, 0, none⟩) len p := by
  obtain ⟨h1, h2, h3, hw, bs, h4, h5⟩ := h
  refine ⟨h1, .inr ⟨g, 0, rfl, by omega, fun i hi => ?_⟩⟩
  obtain ⟨⟨c, hc, c1⟩, c2, c3, c4⟩ := h5 i hi
  have hb := (h4 i hi).2.1
  refine ⟨some ⟨bs i, 0, none⟩, _, c, by rw [Nat.zero_add]; exact c1, hp i hi, hc, ⟨rfl, .inr ⟨bs i, 0, rfl, by omega, fun j hj => by rw [Nat.zero_add]; exact (c4 j hj).1⟩⟩, by rw [Nat.zero_add]; exact c2⟩
/-- Where its blocks stay as they were. -/
theorem PMine.map {w w' : World} {lo hi lo' hi' g len : Nat} {p : List Mon} (h : PMine w lo hi g len p) (hl : lo' ≤ lo) (hh : hi ≤ hi') (hs : hi' ≤ w'.heap.size) (hk : ∀ b, lo ≤ b → b < hi → w'.heap[b]? = w.heap[b]?) : PMine w' lo' hi' g len p := by
  obtain ⟨h1, h2, h3, hw, bs, h4, h5⟩ := h
  refine ⟨h1, by omega, by omega, hs, bs, fun i hi => ?_, fun i hi => ?_⟩
  · obtain ⟨a, b, c, d⟩ := h4 i hi
    exact ⟨by omega, by omega, c, d⟩
  · obtain ⟨⟨c, hc, c1⟩, c2, c3, c4⟩ := h5 i hi
    have hg := hk g h2 h3
    have hbs := hk (bs i) (h4 i hi).1 (h4 i hi).2.1
    exact ⟨⟨c, hc, (World.cell?_of_block (a := ⟨g, i * 2, none⟩) hg).trans c1⟩, (World.cell?_of_block (a := ⟨g, i * 2 + 1, none⟩) hg).trans c2, (World.frozen?_of_block (a := ⟨g, i * 2 + 1, none⟩) hg).trans c3,
      fun j hj => ⟨(World.cell?_of_block (a := ⟨bs i, j, none⟩) hbs).trans (c4 j hj).1, (World.frozen?_of_block (a := ⟨bs i, j, none⟩) hbs).trans (c4 j hj).2⟩⟩
theorem PMine.keep {w w' : World} {lo hi g len : Nat} {p : List Mon} (h : PMine w lo hi g len p) (hb : Below w.heap.size w w') : PMine w' lo hi g len p :=
  h.map (Nat.le_refl _) (Nat.le_refl _) (Nat.le_trans h.2.2.2.1 hb.size) (fun b _ hlt => hb.block b (by have := h.2.2.2.1; omega))
end Go.Proofs.YtpjgjpjfchfmlaaGreatDoor
