/-
  PROVED HERE: how a row of products that a call makes lies in memory, and what an append to it leaves. No condition.
-/
import Derived.Test.YtpjgjpjfchfmlaaDoorPolyCmp
import Derived.Maps.AppendAt
import Derived.Lib.SliceRun
namespace Go.Proofs.YtpjgjpjfchfmlaaDoor
open Go.ChangeShapes Go.WideShapes Go.ChangeAt Go.RowKit
set_option linter.unusedVariables false

theorem infoMono : (Tryd.prog.info? 51).map (fun i => (i.zero, i.size, i.bytes)) = some (some (.agg #[.slice none 0 0, .int .i64 0]), 2, 32) := by kernel_rfl
/-- The cells of products. -/
def flatV : List (Value × Int) → List Value
  | [] => []
  | x :: l => x.1 :: .int .i64 x.2 :: flatV l
theorem flatV_len : ∀ l, (flatV l).length = l.length * 2
  | [] => rfl
  | x :: l => by simp only [flatV, List.length_cons, flatV_len l]; omega
theorem flatV_append : ∀ l m, flatV (l ++ m) = flatV l ++ flatV m
  | [], _ => rfl
  | x :: l, m => by simp only [List.cons_append, flatV, flatV_append l m]
theorem flatV_get : ∀ (l : List (Value × Int)) (i : Nat), i < l.length → (flatV l)[i * 2]? = some (l.getD i (.nilIface, 0)).1 ∧ (flatV l)[i * 2 + 1]? = some (.int .i64 (l.getD i (.nilIface, 0)).2)
  | [], _, h => absurd h (Nat.not_lt_zero _)
  | x :: l, 0, _ => ⟨rfl, rfl⟩
  | x :: l, i + 1, h => by
    have := flatV_get l i (by simpa using h)
    rw [show (i + 1) * 2 = i * 2 + 1 + 1 from by omega]
    simpa [flatV] using this
/-- A value that holds powers, in a block that is ok. -/
def PowV (w : World) (ok : Nat → Prop) (v : Value) (e : List Int) : Prop := ∃ b off l c, v = .slice (some ⟨b, off, none⟩) l c ∧ l ≤ c ∧ l ≤ 1048576 ∧ ok b ∧ b < w.heap.size ∧ e.length = l ∧ ∀ i, i < l → w.cell? ⟨b, off + i, none⟩ = some (.int .i64 (e.getD i 0))
theorem PowV.map {w w' : World} {ok ok' : Nat → Prop} {v : Value} {e : List Int} (h : PowV w ok v e) (hs : w.heap.size ≤ w'.heap.size) (hk : ∀ b, ok b → b < w.heap.size → ok' b ∧ w'.heap[b]? = w.heap[b]?) : PowV w' ok' v e := by
  obtain ⟨b, off, l, c, h1, h2, h3, h4, h5, h6, h7⟩ := h
  obtain ⟨k1, k2⟩ := hk b h4 h5
  exact ⟨b, off, l, c, h1, h2, h3, k1, Nat.lt_of_lt_of_le h5 hs, h6, fun i hi => (World.cell?_of_block (a := ⟨b, off + i, none⟩) k2).trans (h7 i hi)⟩
theorem PowV.keep {w w' : World} {ok : Nat → Prop} {v : Value} {e : List Int} (h : PowV w ok v e) (hb : Below w.heap.size w w') : PowV w' ok v e :=
  h.map hb.size (fun b h1 h2 => ⟨h1, hb.block b h2⟩)
theorem PowV.one {w : World} {ok : Nat → Prop} {v : Value} {e : List Int} (h : PowV w ok v e) : v.oneCell' = true := by
  obtain ⟨b, off, l, c, rfl, _⟩ := h; rfl
/-- A row of products of one's own; its powers lie in blocks that are ok and not the row's. -/
def PRow (w : World) (base : Nat) (ok : Nat → Prop) (v : Value) (vs : List (Value × Int)) (q : List Mon) : Prop :=
  w.ownsRow base 51 2 v q.length (flatV vs) ∧ vs.length = q.length ∧ ∀ i, i < q.length → PowV w (fun b => ok b ∧ v.ownBlock ≠ some b) (vs.getD i (.nilIface, 0)).1 (q.getD i ([], 0)).1 ∧ (vs.getD i (.nilIface, 0)).2 = (q.getD i ([], 0)).2
theorem PRow.nil (w : World) (base : Nat) (ok : Nat → Prop) : PRow w base ok (.slice none 0 0) [] [] := ⟨World.ownsRow_nil _ _ _ _, rfl, fun i hi => absurd hi (Nat.not_lt_zero _)⟩
theorem PRow.keep {w w' : World} {base : Nat} {ok : Nat → Prop} {v : Value} {vs : List (Value × Int)} {q : List Mon} (h : PRow w base ok v vs q) (hb : Below w.heap.size w w') : PRow w' base ok v vs q := by
  obtain ⟨h1, h2, h3⟩ := h
  exact ⟨h1.kept (grown_of hb) (by cases hv : v.ownBlock <;> simp), h2, fun i hi => ⟨(h3 i hi).1.keep hb, (h3 i hi).2⟩⟩
/-- Behind an append. -/
theorem PRow.push {w w4 w5 : World} {base : Nat} {ok : Nat → Prop} {v v' u : Value} {vs : List (Value × Int)} {q : List Mon} {e : List Int} {n : Int} (h : PRow w base ok v vs q) (hb : Below w.heap.size w w4) (hg : w4.grownBy w5 v.ownBlock) (hown : w5.ownsRow base 51 2 v' (q.length + 1) (flatV vs ++ [u, .int .i64 n])) (hat : v'.ownBlock = v.ownBlock ∨ v'.ownBlock = some w4.heap.size)
    (hu : PowV w4 (fun b => ok b ∧ v.ownBlock ≠ some b) u e) : PRow w5 base ok v' (vs ++ [(u, n)]) (q ++ [(e, n)]) := by
  obtain ⟨h1, h2, h3⟩ := h
  have key : ∀ {x : Value} {f : List Int}, PowV w4 (fun b => ok b ∧ v.ownBlock ≠ some b) x f → PowV w5 (fun b => ok b ∧ v'.ownBlock ≠ some b) x f := fun hx =>
    hx.map hg.size (fun b hok hlt => ⟨⟨hok.1, by
      rcases hat with e | e
      · rw [e]; exact hok.2
      · rw [e]; intro e'; have := Option.some.inj e'; omega⟩, hg.block b hlt (fun e' => hok.2 e'.symm)⟩)
  refine ⟨by rw [List.length_append, flatV_append]; exact hown, by simp [h2], fun i hi => ?_⟩
  rw [List.length_append, List.length_singleton] at hi
  by_cases hlt : i < q.length
  · have e1 : (vs ++ [(u, n)]).getD i (.nilIface, 0) = vs.getD i (.nilIface, 0) := by simp [List.getD_eq_getElem?_getD, List.getElem?_append_left (show i < vs.length by omega)]
    have e2 : (q ++ [(e, n)]).getD i ([], 0) = q.getD i ([], 0) := by simp [List.getD_eq_getElem?_getD, List.getElem?_append_left hlt]
    rw [e1, e2]
    exact ⟨key ((h3 i hlt).1.keep hb), (h3 i hlt).2⟩
  · obtain rfl : i = q.length := by omega
    have e1 : (vs ++ [(u, n)]).getD q.length (.nilIface, 0) = (u, n) := by rw [← h2]; simp [List.getD_eq_getElem?_getD]
    have e2 : (q ++ [(e, n)]).getD q.length ([], 0) = (e, n) := by simp [List.getD_eq_getElem?_getD]
    rw [e1, e2]
    exact ⟨key hu, rfl⟩
/-- Such a row holds its sum. -/
theorem PRow.psl {w : World} {base : Nat} {ok : Nat → Prop} {v : Value} {vs : List (Value × Int)} {q : List Mon} (h : PRow w base ok v vs q) : ∃ a cap, v = .slice a q.length cap ∧ PSl w a q.length q := by
  obtain ⟨h1, h2, h3⟩ := h
  rcases h1.2 with ⟨rfl, h0⟩ | ⟨g, cap, cur, rfl, hb, hg, _⟩
  · exact ⟨none, 0, by rw [h0], rfl, .inl h0⟩
  · have hcs := h1.cells rfl
    refine ⟨_, cap, rfl, rfl, .inr ⟨g, 0, rfl, Array.getElem?_eq_some_iff.1 hg |>.1, fun i hi => ?_⟩⟩
    obtain ⟨gv1, gv2⟩ := flatV_get vs i (by omega)
    have c1 := hcs _ _ gv1
    have c2 := hcs _ _ gv2
    rw [add_to] at c1 c2
    obtain ⟨⟨b, off, l, c, e1, e2, e3, e4, e5, e6, e7⟩, e8⟩ := h3 i hi
    refine ⟨some ⟨b, off, none⟩, l, c, by rw [c1, e1], by omega, e2, ⟨e6, ?_⟩, by rw [Nat.add_assoc, c2, e8]⟩
    by_cases h0 : l = 0
    · exact .inl h0
    · exact .inr ⟨b, off, rfl, e5, e7⟩
theorem emptyInts (w : World) : (w.alloc (.cells #[] 3)).ownsRow w.heap.size 3 1 (.slice (some ⟨w.heap.size, 0, none⟩) 0 0) 0 [] :=
  World.ownsRow_lit w #[] 0 (Nat.le_refl _) (by unfold maxLen; omega) rfl
/-- The model's own copy of powers. -/
theorem ownP_any (w : World) (ok : Nat → Prop) (v : Value) (e : List Int) (h : PowV w ok v e) (h0 : 0 < e.length) :
    Calls Tryd.prog 49 #[v] w fun r w' => ∃ u, r = .returned u ∧ PowV w' (fun b => w.heap.size ≤ b) u e ∧ Below w.heap.size w w' := by
  obtain ⟨i0, hi, hz0, hz1, hz2⟩ := info_parts infoInt
  obtain ⟨b, off, l, c, rfl, h2, h3, h4, h5, h6, h7⟩ := h
  have hb0 : Below w.heap.size w (w.alloc (.cells #[] 3)) := (Below.refl _ _).alloc (Nat.le_refl _) _
  have hsl : Sl w (some ⟨b, off, none⟩) l e := ⟨h6, .inr ⟨b, off, rfl, h5, h7⟩⟩
  have hcs := sl_cells (hsl.keep hb0) 0 l (by omega)
  rw [List.drop_zero, List.take_of_length_le (by omega), Nat.add_zero] at hcs
  have HC := (show Hid _ from hcs)
  have H1 : Hid (∀ u ∈ vals e, u.oneCell' = true) := vals_one e
  have hvl : (vals e).length = l * 1 := by rw [vals_len]; omega
  clear hcs h7 hsl h4
  go_enter Tryd.func49, Tryd.ntmps49
  go_wp2_with (at_builtin; refine wpList_append_own _ rfl _ _ 49 rfl w.heap.size 3 i0 (.int .i64 0) 1 8 Tryd.underlying49 hi hz0 hz1 hz2 rfl (by decide) _ _ _ rfl (emptyInts w) ⟨b, off, none⟩ l c (vals e) rfl hvl HC.out H1.out (by unfold maxLen; omega) (by omega) (by simp) ?_; intro v' w4 hown4 hg4 _)
  go_ret
  rw [Nat.zero_add, List.nil_append] at hown4
  refine ⟨_, rfl, ?_, hb0.grown hg4 (by simp) (fun r hr => by cases hr; exact Nat.le_refl _)⟩
  rcases hown4.2 with ⟨_, h00⟩ | ⟨g, cap, cur, hv, hbg, hg, hcap, _⟩
  · omega
  · obtain ⟨a', c', hv', hs'⟩ := Sl.vals hown4
    rw [hv] at hv'
    simp only [Value.slice.injEq, true_and] at hv'
    obtain ⟨rfl, rfl⟩ := hv'
    obtain ⟨b', off', e', hc'⟩ := cells_of hs' (by omega)
    cases e'
    exact ⟨g, 0, l, cap, hv, hcap, h3, hbg, Array.getElem?_eq_some_iff.1 hg |>.1, h6, hc'⟩
end Go.Proofs.YtpjgjpjfchfmlaaDoor
