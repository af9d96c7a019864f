/-
  PROVED HERE: what the program's naming of variables answers and leaves, at every naming in memory and every variable within 0..3; and of a term. No other condition.
-/
import Derived.Test.YtkadanagmahhgaaDoorS8Plain
import Derived.Test.YtkadanagmahhgaaDoorIPart
import Derived.Deep.RegionHeld3
namespace Go.Proofs.YtkadanagmahhgaaDoor
open Go.ChangeShapes Go.WideShapes Go.ChangeAt Go.RowKit
set_option linter.unusedVariables false

theorem grown8_trans {a b c : World} {r : Option Nat} (h : a.grownBy b r) (k : b.grownBy c r) : a.grownBy c r :=
  ⟨k.os.trans h.os, k.tape.trans h.tape, k.output.trans h.output, Nat.le_trans h.size k.size, fun i hi hn => (k.block i (Nat.lt_of_lt_of_le hi h.size) hn).trans (h.block i hi hn)⟩
theorem grown8_below {a b : World} (r : Option Nat) (h : Below a.heap.size a b) : a.grownBy b r := ⟨h.os, h.tape, h.output, h.size, fun i hi _ => h.block i hi⟩
theorem grown8_set {a b : World} {q : Nat} (h : a.grownBy b (some q)) (o : Nat) (v : Value) : a.grownBy (b.setCell ⟨q, o, none⟩ v) (some q) :=
  ⟨h.os, h.tape, h.output, by simpa [World.setCell] using h.size, fun i hi hn => (Below.heap_setCell _ _ _ _ (by intro e; exact hn (by rw [e]))).trans (h.block i hi hn)⟩
/-- A naming in memory. -/
def Nmg (W : World) (q : Nat) (ms : List Int) : Prop := q < W.heap.size ∧ (∀ i : Nat, i < 4 → W.cell? ⟨q, i, none⟩ = some (.int .i64 (if (i : Int) ∈ ms then ((ix i ms : Nat) : Int) else 0)) ∧ W.cell? ⟨q, 4 + i, none⟩ = some (.bool (decide ((i : Int) ∈ ms)))) ∧ W.cell? ⟨q, 8, none⟩ = some (.int .i64 ((ms.length : Nat) : Int)) ∧ ∀ i : Nat, i < 9 → W.frozen? ⟨q, i, none⟩ = false
theorem Nmg.of_block {w w' : World} {q : Nat} {ms : List Int} (h : Nmg w q ms) (hs : w.heap.size ≤ w'.heap.size) (hb : w'.heap[q]? = w.heap[q]?) : Nmg w' q ms :=
  ⟨Nat.lt_of_lt_of_le h.1 hs, fun i hi => ⟨(World.cell?_of_block (a := ⟨q, i, none⟩) hb).trans (h.2.1 i hi).1, (World.cell?_of_block (a := ⟨q, 4 + i, none⟩) hb).trans (h.2.1 i hi).2⟩, (World.cell?_of_block (a := ⟨q, 8, none⟩) hb).trans h.2.2.1, fun i hi => (World.frozen?_of_block (a := ⟨q, i, none⟩) hb).trans (h.2.2.2 i hi)⟩
theorem Nmg.keep {w w' : World} {q : Nat} {ms : List Int} (h : Nmg w q ms) (hb : Below w.heap.size w w') : Nmg w' q ms := h.of_block hb.size (hb.block q h.1)
/-- A naming with one name more. -/
theorem Nmg.more {W W3 : World} {q : Nat} {ms : List Int} {v : Nat} (h : Nmg W q ms) (hv : v < 4) (hm : ((v : Nat) : Int) ∉ ms)
    (hW : ((W.setCell ⟨q, 4 + v, none⟩ (.bool true)).setCell ⟨q, v, none⟩ (.int .i64 ((ms.length : Nat) : Int))).setCell ⟨q, 8, none⟩ (.int .i64 (((ms.length + 1 : Nat)) : Int)) = W3) : Nmg W3 q (ms ++ [((v : Nat) : Int)]) ∧ W.grownBy W3 (some q) := by
  obtain ⟨h1, h2, h3, h4⟩ := h
  have oth : ∀ (w : World) (o o' : Nat) (u : Value), o ≠ o' → (w.setCell ⟨q, o, none⟩ u).cell? ⟨q, o', none⟩ = w.cell? ⟨q, o', none⟩ := fun w o o' u hn => World.cell?_setCell_other _ _ _ _ (fun e => by injection e with _ e _; exact hn (by omega))
  have same : ∀ (w : World) (o : Nat) (u x : Value), w.cell? ⟨q, o, none⟩ = some x → (w.setCell ⟨q, o, none⟩ u).cell? ⟨q, o, none⟩ = some u := fun w o u x hx => World.cell?_setCell_same _ _ _ hx
  have g3 : W.grownBy W3 (some q) := by rw [← hW]; exact grown8_set (grown8_set (grown8_set (World.grownBy.refl _ _) _ _) _ _) _ _
  have hne : ∀ i : Nat, i < 4 → i ≠ v → ((i : Int) ∈ ms ++ [((v : Nat) : Int)] ↔ (i : Int) ∈ ms) := fun i hi hn => by
    rw [List.mem_append]
    refine ⟨fun hx => ?_, .inl⟩
    rcases hx with hx | hx
    · exact hx
    · simp at hx; omega
  have a1 : (W.setCell ⟨q, 4 + v, none⟩ (.bool true)).cell? ⟨q, v, none⟩ = W.cell? ⟨q, v, none⟩ := oth _ _ _ _ (by omega)
  refine ⟨⟨by have := g3.size; omega, fun i hi => ?_, ?_, fun i hi => ?_⟩, g3⟩
  · by_cases e : i = v
    · subst e
      have hin : (i : Int) ∈ ms ++ [(i : Int)] := List.mem_append_right _ (by simp)
      refine ⟨?_, ?_⟩
      · rw [if_pos hin, ix_end hm, ← hW, oth _ _ _ _ (by omega)]
        exact same _ _ _ _ (a1.trans (h2 i hi).1)
      · rw [decide_eq_true hin, ← hW, oth _ _ _ _ (by omega), oth _ _ _ _ (by omega)]
        exact same _ _ _ _ (h2 i hi).2
    · refine ⟨?_, ?_⟩
      · rw [← hW, oth _ _ _ _ (by omega), oth _ _ _ _ (by omega), oth _ _ _ _ (by omega), (h2 i hi).1]
        by_cases hin : (i : Int) ∈ ms
        · rw [if_pos hin, if_pos ((hne i hi e).2 hin), ix_app hin]
        · rw [if_neg hin, if_neg (fun hx => hin ((hne i hi e).1 hx))]
      · rw [← hW, oth _ _ _ _ (by omega), oth _ _ _ _ (by omega), oth _ _ _ _ (by omega), (h2 i hi).2]
        by_cases hin : (i : Int) ∈ ms
        · rw [decide_eq_true hin, decide_eq_true ((hne i hi e).2 hin)]
        · rw [decide_eq_false hin, decide_eq_false (fun hx => hin ((hne i hi e).1 hx))]
  · rw [List.length_append, List.length_singleton, ← hW]
    exact same _ _ _ _ ((oth _ _ _ _ (by omega)).trans ((oth _ _ _ _ (by omega)).trans h3))
  · rw [← hW]; simpa [go_sem] using h4 i hi
theorem nameOf_at0 (q : Nat) (ms : List Int) (w : World) (h : Nmg w q ms) (hl : ms.length ≤ 1000) :
    Calls Tryd.prog 31 #[.pointer (some ⟨q, 0, none⟩), .int .i64 0] w fun e w' => e = .returned (.int .i64 ((ix 0 ms : Nat) : Int)) ∧ Nmg w' q (addM ms 0) ∧ w.grownBy w' (some q) := by
  have H := (show Hid _ from h)
  have b0 : w.cell? ⟨q, 0, none⟩ = some (.int .i64 (if (0 : Int) ∈ ms then ((ix 0 ms : Nat) : Int) else 0)) := (h.2.1 0 (by omega)).1
  have b1 : w.cell? ⟨q, 4, none⟩ = some (.bool (decide ((0 : Int) ∈ ms))) := (h.2.1 0 (by omega)).2
  have b2 := h.2.2.1
  have f0 := h.2.2.2 0 (by omega)
  have f1 := h.2.2.2 4 (by omega)
  have f2 := h.2.2.2 8 (by omega)
  clear h
  by_cases hm : (0 : Int) ∈ ms
  · rw [if_pos hm] at b0
    rw [decide_eq_true hm] at b1
    have ha : addM ms 0 = ms := by unfold addM; rw [if_pos hm]
    rw [ha]
    clear hm ha
    go_enter Tryd.func31, Tryd.ntmps31
    go_wp2
    go_ret
    exact ⟨rfl, H.out, World.grownBy.refl _ _⟩
  · rw [if_neg hm] at b0
    rw [decide_eq_false hm] at b1
    have ha : addM ms 0 = ms ++ [0] := by unfold addM; rw [if_neg hm]
    have hi := ix_not hm
    rw [ha, hi]
    have HM : Hid (∀ W3, ((w.setCell ⟨q, 4, none⟩ (.bool true)).setCell ⟨q, 0, none⟩ (.int .i64 ((ms.length : Nat) : Int))).setCell ⟨q, 8, none⟩ (.int .i64 ((ms.length : Nat) + 1 : Int)) = W3 → Nmg W3 q (ms ++ [0]) ∧ w.grownBy W3 (some q)) := fun W3 e => Nmg.more (v := 0) H.out (by omega) hm e
    generalize hL : ms.length = L at b2 HM hl ⊢
    clear hm ha hi hL
    go_enter Tryd.func31, Tryd.ntmps31
    go_wp2
    (try go_region)
    (try go_wp2)
    go_ret
    exact ⟨rfl, Nmg.of_block (HM.out _ rfl).1 (Nat.le_refl _) rfl, grown8_trans (HM.out _ rfl).2 (grown8_below _ (Below.refl _ _).drew)⟩
theorem nameOf_at1 (q : Nat) (ms : List Int) (w : World) (h : Nmg w q ms) (hl : ms.length ≤ 1000) :
    Calls Tryd.prog 31 #[.pointer (some ⟨q, 0, none⟩), .int .i64 1] w fun e w' => e = .returned (.int .i64 ((ix 1 ms : Nat) : Int)) ∧ Nmg w' q (addM ms 1) ∧ w.grownBy w' (some q) := by
  have H := (show Hid _ from h)
  have b0 : w.cell? ⟨q, 1, none⟩ = some (.int .i64 (if (1 : Int) ∈ ms then ((ix 1 ms : Nat) : Int) else 0)) := (h.2.1 1 (by omega)).1
  have b1 : w.cell? ⟨q, 5, none⟩ = some (.bool (decide ((1 : Int) ∈ ms))) := (h.2.1 1 (by omega)).2
  have b2 := h.2.2.1
  have f0 := h.2.2.2 1 (by omega)
  have f1 := h.2.2.2 5 (by omega)
  have f2 := h.2.2.2 8 (by omega)
  clear h
  by_cases hm : (1 : Int) ∈ ms
  · rw [if_pos hm] at b0
    rw [decide_eq_true hm] at b1
    have ha : addM ms 1 = ms := by unfold addM; rw [if_pos hm]
    rw [ha]
    clear hm ha
    go_enter Tryd.func31, Tryd.ntmps31
    go_wp2
    go_ret
    exact ⟨rfl, H.out, World.grownBy.refl _ _⟩
  · rw [if_neg hm] at b0
    rw [decide_eq_false hm] at b1
    have ha : addM ms 1 = ms ++ [1] := by unfold addM; rw [if_neg hm]
    have hi := ix_not hm
    rw [ha, hi]
    have HM : Hid (∀ W3, ((w.setCell ⟨q, 5, none⟩ (.bool true)).setCell ⟨q, 1, none⟩ (.int .i64 ((ms.length : Nat) : Int))).setCell ⟨q, 8, none⟩ (.int .i64 ((ms.length : Nat) + 1 : Int)) = W3 → Nmg W3 q (ms ++ [1]) ∧ w.grownBy W3 (some q)) := fun W3 e => Nmg.more (v := 1) H.out (by omega) hm e
    generalize hL : ms.length = L at b2 HM hl ⊢
    clear hm ha hi hL
    go_enter Tryd.func31, Tryd.ntmps31
    go_wp2
    (try go_region)
    (try go_wp2)
    go_ret
    exact ⟨rfl, Nmg.of_block (HM.out _ rfl).1 (Nat.le_refl _) rfl, grown8_trans (HM.out _ rfl).2 (grown8_below _ (Below.refl _ _).drew)⟩
theorem nameOf_at2 (q : Nat) (ms : List Int) (w : World) (h : Nmg w q ms) (hl : ms.length ≤ 1000) :
    Calls Tryd.prog 31 #[.pointer (some ⟨q, 0, none⟩), .int .i64 2] w fun e w' => e = .returned (.int .i64 ((ix 2 ms : Nat) : Int)) ∧ Nmg w' q (addM ms 2) ∧ w.grownBy w' (some q) := by
  have H := (show Hid _ from h)
  have b0 : w.cell? ⟨q, 2, none⟩ = some (.int .i64 (if (2 : Int) ∈ ms then ((ix 2 ms : Nat) : Int) else 0)) := (h.2.1 2 (by omega)).1
  have b1 : w.cell? ⟨q, 6, none⟩ = some (.bool (decide ((2 : Int) ∈ ms))) := (h.2.1 2 (by omega)).2
  have b2 := h.2.2.1
  have f0 := h.2.2.2 2 (by omega)
  have f1 := h.2.2.2 6 (by omega)
  have f2 := h.2.2.2 8 (by omega)
  clear h
  by_cases hm : (2 : Int) ∈ ms
  · rw [if_pos hm] at b0
    rw [decide_eq_true hm] at b1
    have ha : addM ms 2 = ms := by unfold addM; rw [if_pos hm]
    rw [ha]
    clear hm ha
    go_enter Tryd.func31, Tryd.ntmps31
    go_wp2
    go_ret
    exact ⟨rfl, H.out, World.grownBy.refl _ _⟩
  · rw [if_neg hm] at b0
    rw [decide_eq_false hm] at b1
    have ha : addM ms 2 = ms ++ [2] := by unfold addM; rw [if_neg hm]
    have hi := ix_not hm
    rw [ha, hi]
    have HM : Hid (∀ W3, ((w.setCell ⟨q, 6, none⟩ (.bool true)).setCell ⟨q, 2, none⟩ (.int .i64 ((ms.length : Nat) : Int))).setCell ⟨q, 8, none⟩ (.int .i64 ((ms.length : Nat) + 1 : Int)) = W3 → Nmg W3 q (ms ++ [2]) ∧ w.grownBy W3 (some q)) := fun W3 e => Nmg.more (v := 2) H.out (by omega) hm e
    generalize hL : ms.length = L at b2 HM hl ⊢
    clear hm ha hi hL
    go_enter Tryd.func31, Tryd.ntmps31
    go_wp2
    (try go_region)
    (try go_wp2)
    go_ret
    exact ⟨rfl, Nmg.of_block (HM.out _ rfl).1 (Nat.le_refl _) rfl, grown8_trans (HM.out _ rfl).2 (grown8_below _ (Below.refl _ _).drew)⟩
theorem nameOf_at3 (q : Nat) (ms : List Int) (w : World) (h : Nmg w q ms) (hl : ms.length ≤ 1000) :
    Calls Tryd.prog 31 #[.pointer (some ⟨q, 0, none⟩), .int .i64 3] w fun e w' => e = .returned (.int .i64 ((ix 3 ms : Nat) : Int)) ∧ Nmg w' q (addM ms 3) ∧ w.grownBy w' (some q) := by
  have H := (show Hid _ from h)
  have b0 : w.cell? ⟨q, 3, none⟩ = some (.int .i64 (if (3 : Int) ∈ ms then ((ix 3 ms : Nat) : Int) else 0)) := (h.2.1 3 (by omega)).1
  have b1 : w.cell? ⟨q, 7, none⟩ = some (.bool (decide ((3 : Int) ∈ ms))) := (h.2.1 3 (by omega)).2
  have b2 := h.2.2.1
  have f0 := h.2.2.2 3 (by omega)
  have f1 := h.2.2.2 7 (by omega)
  have f2 := h.2.2.2 8 (by omega)
  clear h
  by_cases hm : (3 : Int) ∈ ms
  · rw [if_pos hm] at b0
    rw [decide_eq_true hm] at b1
    have ha : addM ms 3 = ms := by unfold addM; rw [if_pos hm]
    rw [ha]
    clear hm ha
    go_enter Tryd.func31, Tryd.ntmps31
    go_wp2
    go_ret
    exact ⟨rfl, H.out, World.grownBy.refl _ _⟩
  · rw [if_neg hm] at b0
    rw [decide_eq_false hm] at b1
    have ha : addM ms 3 = ms ++ [3] := by unfold addM; rw [if_neg hm]
    have hi := ix_not hm
    rw [ha, hi]
    have HM : Hid (∀ W3, ((w.setCell ⟨q, 7, none⟩ (.bool true)).setCell ⟨q, 3, none⟩ (.int .i64 ((ms.length : Nat) : Int))).setCell ⟨q, 8, none⟩ (.int .i64 ((ms.length : Nat) + 1 : Int)) = W3 → Nmg W3 q (ms ++ [3]) ∧ w.grownBy W3 (some q)) := fun W3 e => Nmg.more (v := 3) H.out (by omega) hm e
    generalize hL : ms.length = L at b2 HM hl ⊢
    clear hm ha hi hL
    go_enter Tryd.func31, Tryd.ntmps31
    go_wp2
    (try go_region)
    (try go_wp2)
    go_ret
    exact ⟨rfl, Nmg.of_block (HM.out _ rfl).1 (Nat.le_refl _) rfl, grown8_trans (HM.out _ rfl).2 (grown8_below _ (Below.refl _ _).drew)⟩
theorem nameOf_any (q : Nat) (ms : List Int) (v : Int) (w : World) (h : Nmg w q ms) (hl : ms.length ≤ 1000) (hv : 0 ≤ v ∧ v < 4) :
    Calls Tryd.prog 31 #[.pointer (some ⟨q, 0, none⟩), .int .i64 v] w fun e w' => e = .returned (.int .i64 ((ix v ms : Nat) : Int)) ∧ Nmg w' q (addM ms v) ∧ w.grownBy w' (some q) := by
  have : v = 0 ∨ v = 1 ∨ v = 2 ∨ v = 3 := by omega
  rcases this with rfl | rfl | rfl | rfl
  · exact nameOf_at0 q ms w h hl
  · exact nameOf_at1 q ms w h hl
  · exact nameOf_at2 q ms w h hl
  · exact nameOf_at3 q ms w h hl
theorem metL_snoc : ∀ (l : List (Int × Int)) (ms : List Int) (x : Int × Int), metL ms (l ++ [x]) = nextM (metL ms l) x := by
  intro l
  induction l with
  | nil => intro ms x; rfl
  | cons y l ih => intro ms x; exact ih _ x
theorem renL_snoc : ∀ (l : List (Int × Int)) (ms : List Int) (x : Int × Int), renL ms (l ++ [x]) = renL ms l ++ [renX (metL ms l) x] := by
  intro l
  induction l with
  | nil => intro ms x; rfl
  | cons y l ih => intro ms x; simp only [List.cons_append, renL, metL, ih]
theorem renL_len : ∀ (l : List (Int × Int)) (ms : List Int), (renL ms l).length = l.length := by
  intro l
  induction l with
  | nil => intro ms; rfl
  | cons y l ih => intro ms; simp only [renL, List.length_cons, ih]
theorem metL_len : ∀ (l : List (Int × Int)) (ms : List Int), (metL ms l).length ≤ ms.length + l.length := by
  intro l
  induction l with
  | nil => intro ms; exact Nat.le_refl _
  | cons y l ih =>
    intro ms
    have := ih (nextM ms y)
    have h2 : (nextM ms y).length ≤ ms.length + 1 := by
      unfold nextM
      split
      · unfold addM
        split
        · omega
        · simp
      · omega
    simp only [metL, List.length_cons]
    omega
/-- A term whose first k variables have been named. -/
def halfN (ms : List Int) (l : List (Int × Int)) (k : Nat) : List (Int × Int) := renL ms (l.take k) ++ l.drop k
theorem halfN_len (ms : List Int) (l : List (Int × Int)) (k : Nat) : (halfN ms l k).length = l.length := by
  unfold halfN
  rw [List.length_append, renL_len, List.length_take, List.length_drop]
  omega
theorem takeN {l : List (Int × Int)} {k : Nat} (h : k < l.length) : l.take (k + 1) = l.take k ++ [l.getD k (0, 0)] := by
  rw [List.take_add_one, List.getD_eq_getElem?_getD, List.getElem?_eq_getElem h]; rfl
theorem halfN_at {ms : List Int} {l : List (Int × Int)} {k : Nat} (h : k < l.length) : (halfN ms l k).getD k (0, 0) = l.getD k (0, 0) := by
  unfold halfN
  rw [List.getD_eq_getElem?_getD, List.getElem?_append_right (by rw [renL_len, List.length_take]; omega), renL_len, List.length_take, List.getElem?_drop, show k + (k - min k l.length) = k by omega, ← List.getD_eq_getElem?_getD]
theorem getD_mid (a z : List (Int × Int)) (x y : Int × Int) {k : Nat} (ha : a.length = k) : (a ++ x :: z).getD k (0, 0) = x ∧ ∀ j, j ≠ k → (a ++ x :: z).getD j (0, 0) = (a ++ y :: z).getD j (0, 0) := by
  simp only [List.getD_eq_getElem?_getD]
  refine ⟨?_, fun j hj => ?_⟩
  · rw [List.getElem?_append_right (by omega), ha, Nat.sub_self]
    rfl
  · by_cases hlt : j < k
    · rw [List.getElem?_append_left (by omega), List.getElem?_append_left (by omega)]
    · rw [List.getElem?_append_right (by omega), List.getElem?_append_right (by omega), ha]
      obtain ⟨d, hd⟩ : ∃ d, j - k = d + 1 := ⟨j - k - 1, by omega⟩
      rw [hd]
      rfl
theorem halfN_next {ms : List Int} {l : List (Int × Int)} {k : Nat} (h : k < l.length) : (halfN ms l (k + 1)).getD k (0, 0) = renX (metL ms (l.take k)) (l.getD k (0, 0)) ∧ ∀ j, j ≠ k → (halfN ms l (k + 1)).getD j (0, 0) = (halfN ms l k).getD j (0, 0) := by
  have hr : (renL ms (l.take k)).length = k := by rw [renL_len, List.length_take]; omega
  have e : halfN ms l (k + 1) = renL ms (l.take k) ++ (renX (metL ms (l.take k)) (l.getD k (0, 0)) :: l.drop (k + 1)) := by
    unfold halfN
    rw [takeN h, renL_snoc, List.append_assoc, List.singleton_append]
  have e2 : halfN ms l k = renL ms (l.take k) ++ (l.getD k (0, 0) :: l.drop (k + 1)) := by
    unfold halfN
    rw [List.drop_eq_getElem_cons h, List.getD_eq_getElem?_getD, List.getElem?_eq_getElem h]
    rfl
  rw [e, e2]
  exact getD_mid _ _ _ _ hr
theorem take_all {l : List (Int × Int)} {k : Nat} (h : l.length = k) : l.take k = l := by rw [← h, List.take_length]
end Go.Proofs.YtkadanagmahhgaaDoor
