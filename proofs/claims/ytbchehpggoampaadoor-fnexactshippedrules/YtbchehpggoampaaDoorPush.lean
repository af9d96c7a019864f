/-
  PROVED HERE: what the model's reader is behind an append; what the makers of a node answer. No other condition.
-/
import Derived.Test.YtbchehpggoampaaDoorRdr
import Derived.Test.YtbchehpggoampaaDoorSteps
namespace Go.Proofs.YtbchehpggoampaaDoor
open Go.ChangeShapes Go.WideShapes Go.ChangeAt Go.RowKit
set_option linter.unusedVariables false

theorem own_shape {w : World} {base e n : Nat} {v : Value} {xs : List Value} (h : w.ownsRow base e 2 v n xs) : ∃ p cap, v = .slice p n cap := by
  rcases h.2 with ⟨rfl, rfl⟩ | ⟨g, cap, cur, rfl, _⟩
  · exact ⟨_, _, rfl⟩
  · exact ⟨_, _, rfl⟩
theorem l2Var_any (v : Int) (w : World) : Calls Tryd.prog 86 #[.int .i64 v] w fun e w' => e = .returned (.agg #[.int .i64 2, .int .i64 v]) ∧ Below w.heap.size w w' := by
  go_enter Tryd.func86, Tryd.ntmps86
  go_wp2
  exact bodyPost_ret (v := .agg #[.int .i64 2, .int .i64 v]) (by simp [results, Tryd.results86, go_sem]) rfl ⟨rfl, (Below.refl _ _).alloc (Nat.le_refl _) _⟩
theorem l2Num_any (v : Int) (w : World) : Calls Tryd.prog 102 #[.int .i64 v] w fun e w' => e = .returned (.agg #[.int .i64 1, .int .i64 v]) ∧ Below w.heap.size w w' := by
  go_enter Tryd.func102, Tryd.ntmps102
  go_wp2
  exact bodyPost_ret (v := .agg #[.int .i64 1, .int .i64 v]) (by simp [results, Tryd.results102, go_sem]) rfl ⟨rfl, (Below.refl _ _).alloc (Nat.le_refl _) _⟩
theorem two_new (w : World) (x y : Value) (t : TypeId) : ∀ j u, [x, y][j]? = some u → (w.alloc (.cells #[x, y] t)).cell? ((⟨w.heap.size, 0, none⟩ : Addr).add j) = some u := by
  intro j u hj
  match j, hj with
  | 0, hj => simp at hj; subst hj; simp [Addr.add]
  | 1, hj => simp at hj; subst hj; simp [Addr.add]
theorem frozen_keep {w w' : World} {k g o : Nat} (hB : Below k w w') (hg : g < k) : w'.frozen? ⟨g, o, none⟩ = w.frozen? ⟨g, o, none⟩ := by
  have := hB.block g hg
  unfold World.frozen?
  simp [this]
/-- Behind an append and its store. -/
theorem Rdr.push {w w5 : World} {g : Nat} {s : ByteArray} {a n : Nat} {out out' : List (Int × Int)} {v : Value} (h : Rdr w g s a out) (hB : Below (g + 1) w w5) (hn : out'.length = n) (hown : w5.ownsRow (g + 1) 76 2 v n (flat out')) : Rdr (w5.setCell ⟨g, 2, none⟩ v) g s a out' := by
  obtain ⟨lt, c0, c1, ⟨v0, c2, _⟩, f1, f2⟩ := h
  have d0 := (hB.cell (p := ⟨g, 0, none⟩) (by simp)).trans c0
  have d1 := (hB.cell (p := ⟨g, 1, none⟩) (by simp)).trans c1
  have d2 := (hB.cell (p := ⟨g, 2, none⟩) (by simp)).trans c2
  have e1 := (frozen_keep (o := 1) hB (Nat.lt_succ_self g)).trans f1
  have e2 := (frozen_keep (o := 2) hB (Nat.lt_succ_self g)).trans f2
  subst hn
  exact ⟨by have := hB.size; simp; omega, by simp [go_sem, d0], by simp [go_sem, d1], ⟨v, by simp [go_sem, d2], ownsRow_setCell_below hown (by simp) _⟩, by simp [go_sem, e1], by simp [go_sem, e2]⟩
end Go.Proofs.YtbchehpggoampaaDoor
