/-
  PROVED HERE: plain facts on what stays where memory grows or one block is written. No condition. all namings, as the model lists them. No condition.
-/
import Derived.Test.YthkjmgjajmghmaaDoorRun0
import Derived.Test.YthkjmgjajmghmaaDoorRun28
import Derived.Test.YthkjmgjajmghmaaDoorRun20
import Derived.Laws.AppendOwnNone
import Derived.Maps.AppendAt
import Derived.Laws.OwnMore
namespace Go.Proofs.YthkjmgjajmghmaaDoor
open Go.ChangeShapes Go.WideShapes Go.ChangeAt Go.RowKit
set_option linter.unusedVariables false

theorem NSl.grown {w w' : World} {a : Option Addr} {len : Nat} {l : List (Int × Int)} {r : Option Nat} (h : NSl w a len l) (hg : w.grownBy w' r) (hne : ∀ x, a = some x → some x.block ≠ r) : NSl w' a len l := by
  refine ⟨h.1, ?_⟩
  rcases h.2 with h0 | ⟨b, off, ha, hlt, hc⟩
  · exact .inl h0
  · have hb := hg.block b hlt (hne _ ha)
    refine .inr ⟨b, off, ha, Nat.lt_of_lt_of_le hlt hg.size, fun i hi => ?_⟩
    rw [← (hc i hi).1, ← (hc i hi).2]
    constructor <;> simp only [World.cell?, hb]
theorem own_keep {w w' : World} {base e size n : Nat} {v : Value} {xs : List Value} (h : w.ownsRow base e size v n xs) (hb : Below w.heap.size w w') : w'.ownsRow base e size v n xs :=
  h.kept (grown_of hb) (by cases hv : v.ownBlock <;> simp)
theorem own_grown {w w' : World} {base e size n : Nat} {v : Value} {xs : List Value} {r : Option Nat} (h : w.ownsRow base e size v n xs) (hg : w.grownBy w' r) (hne : ∀ x, v.ownBlock = some x → some x ≠ r) : w'.ownsRow base e size v n xs :=
  h.kept hg (by
    cases hv : v.ownBlock with
    | none => exact .inl rfl
    | some x => exact .inr (hne x hv))
theorem own_in {w : World} {base e size n : Nat} {v : Value} {xs : List Value} (h : w.ownsRow base e size v n xs) : ∀ x, v.ownBlock = some x → x < w.heap.size := by
  intro x hx
  rcases h.2 with ⟨rfl, _⟩ | ⟨g, cap, cur, rfl, _, hg, _⟩
  · cases hx
  · cases hx; exact Array.getElem?_eq_some_iff.1 hg |>.1
end Go.Proofs.YthkjmgjajmghmaaDoor
namespace Go.Proofs.YthkjmgjajmghmaaDoor
open Go.ChangeShapes Go.WideShapes Go.ChangeAt Go.RowKit
set_option linter.unusedVariables false

theorem own8Z_any (a : Option Addr) (cap : Nat) (w : World) :
    Calls Tryd.prog 49 #[.slice a 0 cap] w fun e w' => ∃ v : Value, e = .returned v ∧ w'.ownsRow w.heap.size 3 1 v 0 (vals []) ∧ Below w.heap.size w w' := by
  obtain ⟨i0, hi, hz0, hz1, hz2⟩ := info_parts infoInt
  have hb0 : Below w.heap.size w (w.alloc (.cells #[] 3)) := (Below.refl _ _).alloc (Nat.le_refl _) _
  cases a with
  | none =>
    go_enter Tryd.func49, Tryd.ntmps49
    go_wp2
    go_ret
    exact ⟨_, rfl, empty5 w, hb0⟩
  | some x =>
    go_enter Tryd.func49, Tryd.ntmps49
    go_wp2_with (at_builtin; refine wpList_append_own _ rfl _ _ 23 rfl w.heap.size 3 i0 (.int .i64 0) 1 8 Tryd.underlying23 hi hz0 hz1 hz2 rfl (by decide) _ _ _ rfl (empty5 w) x 0 cap (vals []) rfl rfl (fun j u hj => by simp [vals] at hj) (fun u hu => by simp [vals] at hu) (by unfold maxLen; omega) (by omega) (by simp) ?_; intro v' w4 hown4 hg4 _)
    go_ret
    rw [Nat.zero_add, List.nil_append] at hown4
    exact ⟨_, rfl, hown4, hb0.grown hg4 (by simp) (fun r hr => by cases hr; exact Nat.le_refl _)⟩
theorem own8_any (a : Option Addr) (len cap : Nat) (l : List Int) (w : World) (h : Sl w a len l) (hn : len ≤ 1048576) :
    Calls Tryd.prog 49 #[.slice a len cap] w fun e w' => ∃ v : Value, e = .returned v ∧ w'.ownsRow w.heap.size 3 1 v len (vals l) ∧ Below w.heap.size w w' := by
  by_cases h0 : len = 0
  · subst h0
    have : l = [] := List.length_eq_zero_iff.1 h.1
    subst this
    exact own8Z_any a cap w
  · exact own5_any a len cap l w h (by omega) hn
abbrev nov8 : Value := .bool false
/-- A row of rows of numbers. -/
def RowsP (w : World) (g : Option Nat) (ok : Nat → Prop) (xs : List Value) (ps : List (List Int)) : Prop :=
  xs.length = ps.length ∧ ∀ i, i < ps.length → ∃ b off ci, xs.getD i nov8 = .slice (some ⟨b, off, none⟩) (ps.getD i []).length ci ∧ Sl w (some ⟨b, off, none⟩) (ps.getD i []).length (ps.getD i []) ∧ b < w.heap.size ∧ g ≠ some b ∧ ok b
theorem RowsP.keep {w w' : World} {g : Option Nat} {ok : Nat → Prop} {xs : List Value} {ps : List (List Int)} (h : RowsP w g ok xs ps) (hb : Below w.heap.size w w') : RowsP w' g ok xs ps :=
  ⟨h.1, fun i hi => by
    obtain ⟨b, off, ci, h1, h2, h3, h4, h5⟩ := h.2 i hi
    exact ⟨b, off, ci, h1, h2.keep hb, Nat.lt_of_lt_of_le h3 hb.size, h4, h5⟩⟩
theorem getV8_app {xs ys : List Value} {k : Nat} (h : k < xs.length) : (xs ++ ys).getD k nov8 = xs.getD k nov8 := by
  rw [List.getD_eq_getElem?_getD, List.getElem?_append_left h, ← List.getD_eq_getElem?_getD]
theorem getV8_app2 {xs ys : List Value} {k : Nat} (h : xs.length ≤ k) : (xs ++ ys).getD k nov8 = ys.getD (k - xs.length) nov8 := by
  rw [List.getD_eq_getElem?_getD, List.getElem?_append_right h, ← List.getD_eq_getElem?_getD]
theorem getP8_app {xs ys : List (List Int)} {k : Nat} (h : k < xs.length) : (xs ++ ys).getD k [] = xs.getD k [] := by
  rw [List.getD_eq_getElem?_getD, List.getElem?_append_left h, ← List.getD_eq_getElem?_getD]
theorem getP8_app2 {xs ys : List (List Int)} {k : Nat} (h : xs.length ≤ k) : (xs ++ ys).getD k [] = ys.getD (k - xs.length) [] := by
  rw [List.getD_eq_getElem?_getD, List.getElem?_append_right h, ← List.getD_eq_getElem?_getD]
theorem RowsP.one {w w6 : World} {g g6 : Option Nat} {ok ok' : Nat → Prop} {v : Value} {p : List Int} (h : ∃ b off ci, v = .slice (some ⟨b, off, none⟩) p.length ci ∧ Sl w (some ⟨b, off, none⟩) p.length p ∧ b < w.heap.size ∧ ok b ∧ g ≠ some b) (hok : ∀ b, ok b → ok' b) (hg : w.grownBy w6 g) (h6 : g6 = g ∨ ∃ n, g6 = some n ∧ w.heap.size ≤ n) : ∃ b off ci, v = .slice (some ⟨b, off, none⟩) p.length ci ∧ Sl w6 (some ⟨b, off, none⟩) p.length p ∧ b < w6.heap.size ∧ g6 ≠ some b ∧ ok' b := by
  obtain ⟨b, off, ci, h1, h2, h3, h4, h5⟩ := h
  have hb := hg.block b h3 (fun e => h5 e.symm)
  refine ⟨b, off, ci, h1, ⟨h2.1, ?_⟩, Nat.lt_of_lt_of_le h3 hg.size, ?_, hok b h4⟩
  · rcases h2.2 with h0 | ⟨b', off', e, hl, hc⟩
    · exact .inl h0
    · cases e
      exact .inr ⟨b, off, rfl, Nat.lt_of_lt_of_le h3 hg.size, fun i hi => (World.cell?_of_block (a := ⟨b, off + i, none⟩) hb).trans (hc i hi)⟩
  · rcases h6 with e | ⟨n, e, hn⟩
    · rw [e]; exact h5
    · rw [e]; intro e'; have := Option.some.inj e'; omega
theorem RowsP.app {w w6 : World} {g g' g6 : Option Nat} {ok ok' : Nat → Prop} {xs xs' : List Value} {ps ps' : List (List Int)} (h : RowsP w g ok xs ps) (h' : RowsP w g' ok' xs' ps') (hne : ∀ b, ok' b → g ≠ some b) (hok : ∀ b, ok' b → ok b)
    (hg : w.grownBy w6 g) (h6 : g6 = g ∨ ∃ n, g6 = some n ∧ w.heap.size ≤ n) : RowsP w6 g6 ok (xs ++ xs') (ps ++ ps') := by
  have hl := h.1
  refine ⟨by rw [List.length_append, List.length_append, h.1, h'.1], fun i hi => ?_⟩
  rw [List.length_append] at hi
  by_cases hlt : i < ps.length
  · rw [getV8_app (by omega), getP8_app hlt]
    obtain ⟨b, off, ci, h1, h2, h3, h4, h5⟩ := h.2 i hlt
    exact RowsP.one (ok := ok) ⟨b, off, ci, h1, h2, h3, h5, h4⟩ (fun _ h => h) hg h6
  · rw [getV8_app2 (by omega), getP8_app2 (by omega), hl]
    obtain ⟨b, off, ci, h1, h2, h3, h4, h5⟩ := h'.2 (i - ps.length) (by omega)
    exact RowsP.one (ok := ok') ⟨b, off, ci, h1, h2, h3, h5, hne b h5⟩ hok hg h6
theorem RowsP.one_cells {w : World} {g : Option Nat} {ok : Nat → Prop} {xs : List Value} {ps : List (List Int)} (h : RowsP w g ok xs ps) : ∀ u ∈ xs, u.oneCell' = true := by
  intro u hu
  obtain ⟨i, hi, e⟩ := List.getElem_of_mem hu
  obtain ⟨b, off, ci, h1, -⟩ := h.2 i (by rw [← h.1]; exact hi)
  rw [List.getD_eq_getElem?_getD, List.getElem?_eq_getElem hi] at h1
  simp only [Option.getD_some] at h1
  rw [← e, h1]
  rfl
/-- The namings that begin with one of the first k names more. -/
def permsK (m : Nat) (p : List Int) (k : Nat) : List (List Int) := (List.range k).flatMap fun v => if ((v : Nat) : Int) ∈ p then [] else permsL m (p ++ [((v : Nat) : Int)])
theorem permsK_4 (m : Nat) (p : List Int) : permsK m p 4 = permsL (m + 1) p := by
  simp [permsK, permsL, List.range_succ, List.flatMap_cons]
theorem permsK_step (m : Nat) (p : List Int) (k : Nat) : permsK m p (k + 1) = permsK m p k ++ if ((k : Nat) : Int) ∈ p then [] else permsL m (p ++ [((k : Nat) : Int)]) := by
  unfold permsK
  rw [List.range_succ, List.flatMap_append, List.flatMap_singleton]
theorem permsL_few : ∀ (m : Nat) (p : List Int), (permsL m p).length ≤ 4 ^ m := by
  intro m
  induction m with
  | zero => intro p; simp [permsL]
  | succ m ih =>
    intro p
    rw [← permsK_4]
    have : ∀ k, (permsK m p k).length ≤ k * 4 ^ m := by
      intro k
      induction k with
      | zero => simp [permsK]
      | succ k ihk =>
        rw [permsK_step, List.length_append, Nat.succ_mul]
        have := ih (p ++ [((k : Nat) : Int)])
        split
        · simp; omega
        · omega
    have := this 4
    rw [Nat.pow_succ]
    omega
theorem permsK_few (m : Nat) (p : List Int) (k : Nat) (hk : k ≤ 4) (hm : m ≤ 3) : (permsK m p k).length ≤ 256 := by
  have : ∀ k, (permsK m p k).length ≤ k * 4 ^ m := by
    intro k
    induction k with
    | zero => simp [permsK]
    | succ k ihk =>
      rw [permsK_step, List.length_append, Nat.succ_mul]
      have := permsL_few m (p ++ [((k : Nat) : Int)])
      split
      · simp; omega
      · omega
  have h1 := this k
  have h2 : 4 ^ m ≤ 4 ^ 3 := Nat.pow_le_pow_right (by omega) hm
  have h3 : k * 4 ^ m ≤ 4 * 4 ^ 3 := Nat.mul_le_mul hk h2
  omega
theorem permsL_pos : ∀ (m : Nat) (p : List Int), p.length + m = 4 → 0 < (permsL m p).length := by
  intro m
  induction m with
  | zero => intro p _; simp [permsL]
  | succ m ih =>
    intro p hp
    obtain ⟨v, hv, hn⟩ : ∃ v ∈ [0, 1, 2, (3 : Int)], v ∉ p := by
      refine Classical.byContradiction fun hx => ?_
      have := sub_len (l := [0, 1, 2, (3 : Int)]) (m := p) (by decide) (fun v hv => Classical.byContradiction fun hn => hx ⟨v, hv, hn⟩)
      simp at this
      omega
    have h1 := ih (p ++ [v]) (by simp; omega)
    obtain ⟨q, hq⟩ := List.exists_mem_of_length_pos h1
    unfold permsL
    refine List.length_pos_of_mem (a := q) (List.mem_flatMap.2 ⟨v, hv, ?_⟩)
    rw [if_neg hn]
    exact hq
theorem infoIntS : (Tryd.prog.info? 23).map (fun i => (i.zero, i.size, i.bytes)) = some (some (.slice none 0 0), 1, 24) := by kernel_rfl
theorem row_open {w : World} {base e n : Nat} {v : Value} {xs : List Value} (h : w.ownsRow base e 1 v n xs) : ∃ a c, v = .slice a n c := by
  rcases h.2 with ⟨rfl, rfl⟩ | ⟨g, cap, cur, rfl, _⟩
  · exact ⟨_, _, rfl⟩
  · exact ⟨_, _, rfl⟩
def PermR (W w' : World) (oka : Nat → Prop) (ps : List (List Int)) (e : Ending) : Prop := ∃ (v : Value) (xs : List Value), e = .returned v ∧ w'.ownsRow W.heap.size 23 1 v xs.length xs ∧ RowsP w' v.ownBlock (fun b => oka b ∨ W.heap.size ≤ b) xs ps ∧ Below W.heap.size W w'
def OkA (a : Option Addr) (b : Nat) : Prop := ∃ off, a = some ⟨b, off, none⟩
end Go.Proofs.YthkjmgjajmghmaaDoor
