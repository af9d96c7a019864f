/-
  PROVED HERE: what the program's naming of variables answers and leaves, at every naming in memory and every variable within 0..3; and of a term. No other condition. what the program's naming of a term's variables answers and leaves. No other condition than that the term is not empty, and its variables lie within 0..3. what the model answers of a term by other names. No other condition than that the term is not empty, and its variables lie within 0..3. what the model's and the program's comparing of two terms answers, at every two lists of nodes. No other condition.
-/
import Derived.Test.YtkadanagmahhgaaGreatDoorRun18
import Derived.Test.YtkadanagmahhgaaGreatDoorRun19
import Derived.Deep.RegionHeld3
import Derived.Test.YtkadanagmahhgaaGreatDoorRun0
import Derived.Test.YtkadanagmahhgaaGreatDoorRun8
import Derived.Test.YtkadanagmahhgaaGreatDoorRun7
import Derived.Test.YtkadanagmahhgaaGreatDoorRun1
import Derived.Laws.StructEq
namespace Go.Proofs.YtkadanagmahhgaaGreatDoor
open Go.ChangeShapes Go.WideShapes Go.ChangeAt Go.RowKit
set_option linter.unusedVariables false

theorem grown8_trans {a b c : World} {r : Option Nat} (h : a.grownBy b r) (k : b.grownBy c r) : a.grownBy c r :=
  ⟨k.os.trans h.os, k.tape.trans h.tape, k.output.trans h.output, Nat.le_trans h.size k.size, fun i hi hn => (k.block i (Nat.lt_of_lt_of_le hi h.size) hn).trans (h.block i hi hn)⟩
theorem grown8_below {a b : World} (r : Option Nat) (h : Below a.heap.size a b) : a.grownBy b r := ⟨h.os, h.tape, h.output, h.size, fun i hi _ => h.block i hi⟩
theorem grown8_set {a b : World} {q : Nat} (h : a.grownBy b (some q)) (o : Nat) (v : Value) : a.grownBy (b.setCell ⟨q, o, none⟩ v) (some q) :=
  ⟨h.os, h.tape, h.output, by simpa [World.setCell] using h.size, fun i hi hn => (Below.heap_setCell _ _ _ _ (by intro e; exact hn (by rw [e]))).trans (h.block i hi hn)⟩
/-- A naming in memory. -/
def Nmg (W : World) (q : Nat) (ms : List Int) : Prop := q < W.heap.size ∧ (∀ i : Nat, i < 4 → W.cell? ⟨q, i, none⟩ = some (.int .i64 (if (i : Int) ∈ ms then ((ix i ms : Nat) : Int) else 0)) ∧ W.cell? ⟨q, 4 + i, none⟩ = some (.bool (decide ((i : Int) ∈ ms)))) ∧ W.cell? ⟨q, 8, none⟩ = some (.int .i64 ((ms.length : Nat) : Int)) ∧ ∀ i : Nat, i < 9 → W.frozen? ⟨q, i, none⟩ = false
theorem Nmg.of_block {w w' : World} {q : Nat} {ms : List Int} (h : Nmg w q ms) (hs : w.heap.size ≤ w'.heap.size) (hb : w'.heap[q]? = w.heap[q]?) : Nmg w' q ms :=
  ⟨Nat.lt_of_lt_of_le h.1 hs, fun i hi => ⟨(World.cell?_of_block (a := ⟨q, i, none⟩) hb).trans (h.2.1 i hi).1, (World.cell?_of_block (a := ⟨q, 4 + i, none⟩) hb).trans (h.2.1 i hi).2⟩, (World.cell?_of_block (a := ⟨q, 8, none⟩) hb).trans h.2.2.1, fun i hi => (World.frozen?_of_block (a := ⟨q, i, none⟩) hb).trans (h.2.2.2 i hi)⟩
theorem Nmg.keep {w w' : World} {q : Nat} {ms : List Int} (h : Nmg w q ms) (hb : Below w.heap.size w w') : Nmg w' q ms := h.of_block hb.size (hb.block q h.1)
/-- A naming with one name more. -/
theorem Nmg.more {W W3 : World} {q : Nat} {ms : List Int} {v : Nat} (h : Nmg W q ms) (hv : v < 4) (hm : ((v : Nat) : Int) ∉ ms)
    (hW : ((W.setCell ⟨q, 4 + v, none⟩ (.bool true)).setCell ⟨q, v, none⟩ (.int .i64 ((ms.length : Nat) : Int))).setCell ⟨q, 8, none⟩ (.int .i64 (((ms.length + 1 : Nat)) : Int)) = W3) : Nmg W3 q (ms ++ [((v : Nat) : Int)]) ∧ W.grownBy W3 (some q) := by
  obtain ⟨h1, h2, h3, h4⟩ := h
  have oth : ∀ (w : World) (o o' : Nat) (u : Value), o ≠ o' → (w.setCell ⟨q, o, none⟩ u).cell? ⟨q, o', none⟩ = w.cell? ⟨q, o', none⟩ := fun w o o' u hn => World.cell?_setCell_other _ _ _ _ (fun e => by injection e with _ e _; exact hn (by omega))
  have same : ∀ (w : World) (o : Nat) (u x : Value), w.cell? ⟨q, o, none⟩ = some x → (w.setCell ⟨q, o, none⟩ u).cell? ⟨q, o, none⟩ = some u := fun w o u x hx => World.cell?_setCell_same _ _ _ hx
  have g3 : W.grownBy W3 (some q) := by rw [← hW]; exact grown8_set (grown8_set (grown8_set (World.grownBy.refl _ _) _ _) _ _) _ _
  have hne : ∀ i : Nat, i < 4 → i ≠ v → ((i : Int) ∈ ms ++ [((v : Nat) : Int)] ↔ (i : Int) ∈ ms) := fun i hi hn => by
    rw [List.mem_append]
    refine ⟨fun hx => ?_, .inl⟩
    rcases hx with hx | hx
    · exact hx
    · simp at hx; omega
  have a1 : (W.setCell ⟨q, 4 + v, none⟩ (.bool true)).cell? ⟨q, v, none⟩ = W.cell? ⟨q, v, none⟩ := oth _ _ _ _ (by omega)
  refine ⟨⟨by have := g3.size; omega, fun i hi => ?_, ?_, fun i hi => ?_⟩, g3⟩
  · by_cases e : i = v
    · subst e
      have hin : (i : Int) ∈ ms ++ [(i : Int)] := List.mem_append_right _ (by simp)
      refine ⟨?_, ?_⟩
      · rw [if_pos hin, ix_end hm, ← hW, oth _ _ _ _ (by omega)]
        exact same _ _ _ _ (a1.trans (h2 i hi).1)
      · rw [decide_eq_true hin, ← hW, oth _ _ _ _ (by omega), oth _ _ _ _ (by omega)]
        exact same _ _ _ _ (h2 i hi).2
    · refine ⟨?_, ?_⟩
      · rw [← hW, oth _ _ _ _ (by omega), oth _ _ _ _ (by omega), oth _ _ _ _ (by omega), (h2 i hi).1]
        by_cases hin : (i : Int) ∈ ms
        · rw [if_pos hin, if_pos ((hne i hi e).2 hin), ix_app hin]
        · rw [if_neg hin, if_neg (fun hx => hin ((hne i hi e).1 hx))]
      · rw [← hW, oth _ _ _ _ (by omega), oth _ _ _ _ (by omega), oth _ _ _ _ (by omega), (h2 i hi).2]
        by_cases hin : (i : Int) ∈ ms
        · rw [decide_eq_true hin, decide_eq_true ((hne i hi e).2 hin)]
        · rw [decide_eq_false hin, decide_eq_false (fun hx => hin ((hne i hi e).1 hx))]
  · rw [List.length_append, List.length_singleton, ← hW]
    exact same _ _ _ _ ((oth _ _ _ _ (by omega)).trans ((oth _ _ _ _ (by omega)).trans h3))
  · rw [← hW]; simpa [go_sem] using h4 i hi
theorem nameOf_at0 (q : Nat) (ms : List Int) (w : World) (h : Nmg w q ms) (hl : ms.length ≤ 1000) :
    Calls Tryz.prog 139 #[.pointer (some ⟨q, 0, none⟩), .int .i64 0] w fun e w' => e = .returned (.int .i64 ((ix 0 ms : Nat) : Int)) ∧ Nmg w' q (addM ms 0) ∧ w.grownBy w' (some q) := by
  have H := (show Hid _ from h)
  have b0 : w.cell? ⟨q, 0, none⟩ = some (.int .i64 (if (0 : Int) ∈ ms then ((ix 0 ms : Nat) : Int) else 0)) := (h.2.1 0 (by omega)).1
  have b1 : w.cell? ⟨q, 4, none⟩ = some (.bool (decide ((0 : Int) ∈ ms))) := (h.2.1 0 (by omega)).2
  have b2 := h.2.2.1
  have f0 := h.2.2.2 0 (by omega)
  have f1 := h.2.2.2 4 (by omega)
  have f2 := h.2.2.2 8 (by omega)
  clear h
  by_cases hm : (0 : Int) ∈ ms
  · rw [if_pos hm] at b0
    rw [decide_eq_true hm] at b1
    have ha : addM ms 0 = ms := by unfold addM; rw [if_pos hm]
    rw [ha]
    clear hm ha
    go_enter Tryz.func139, Tryz.ntmps139
    go_wp2
    go_ret
    exact ⟨rfl, H.out, World.grownBy.refl _ _⟩
  · rw [if_neg hm] at b0
    rw [decide_eq_false hm] at b1
    have ha : addM ms 0 = ms ++ [0] := by unfold addM; rw [if_neg hm]
    have hi := ix_not hm
    rw [ha, hi]
    have HM : Hid (∀ W3, ((w.setCell ⟨q, 4, none⟩ (.bool true)).setCell ⟨q, 0, none⟩ (.int .i64 ((ms.length : Nat) : Int))).setCell ⟨q, 8, none⟩ (.int .i64 ((ms.length : Nat) + 1 : Int)) = W3 → Nmg W3 q (ms ++ [0]) ∧ w.grownBy W3 (some q)) := fun W3 e => Nmg.more (v := 0) H.out (by omega) hm e
    generalize hL : ms.length = L at b2 HM hl ⊢
    clear hm ha hi hL
    go_enter Tryz.func139, Tryz.ntmps139
    go_wp2
    (try go_region)
    (try go_wp2)
    go_ret
    exact ⟨rfl, Nmg.of_block (HM.out _ rfl).1 (Nat.le_refl _) rfl, grown8_trans (HM.out _ rfl).2 (grown8_below _ (Below.refl _ _).drew)⟩
theorem nameOf_at1 (q : Nat) (ms : List Int) (w : World) (h : Nmg w q ms) (hl : ms.length ≤ 1000) :
    Calls Tryz.prog 139 #[.pointer (some ⟨q, 0, none⟩), .int .i64 1] w fun e w' => e = .returned (.int .i64 ((ix 1 ms : Nat) : Int)) ∧ Nmg w' q (addM ms 1) ∧ w.grownBy w' (some q) := by
  have H := (show Hid _ from h)
  have b0 : w.cell? ⟨q, 1, none⟩ = some (.int .i64 (if (1 : Int) ∈ ms then ((ix 1 ms : Nat) : Int) else 0)) := (h.2.1 1 (by omega)).1
  have b1 : w.cell? ⟨q, 5, none⟩ = some (.bool (decide ((1 : Int) ∈ ms))) := (h.2.1 1 (by omega)).2
  have b2 := h.2.2.1
  have f0 := h.2.2.2 1 (by omega)
  have f1 := h.2.2.2 5 (by omega)
  have f2 := h.2.2.2 8 (by omega)
  clear h
  by_cases hm : (1 : Int) ∈ ms
  · rw [if_pos hm] at b0
    rw [decide_eq_true hm] at b1
    have ha : addM ms 1 = ms := by unfold addM; rw [if_pos hm]
    rw [ha]
    clear hm ha
    go_enter Tryz.func139, Tryz.ntmps139
    go_wp2
    go_ret
    exact ⟨rfl, H.out, World.grownBy.refl _ _⟩
  · rw [if_neg hm] at b0
    rw [decide_eq_false hm] at b1
    have ha : addM ms 1 = ms ++ [1] := by unfold addM; rw [if_neg hm]
    have hi := ix_not hm
    rw [ha, hi]
    have HM : Hid (∀ W3, ((w.setCell ⟨q, 5, none⟩ (.bool true)).setCell ⟨q, 1, none⟩ (.int .i64 ((ms.length : Nat) : Int))).setCell ⟨q, 8, none⟩ (.int .i64 ((ms.length : Nat) + 1 : Int)) = W3 → Nmg W3 q (ms ++ [1]) ∧ w.grownBy W3 (some q)) := fun W3 e => Nmg.more (v := 1) H.out (by omega) hm e
    generalize hL : ms.length = L at b2 HM hl ⊢
    clear hm ha hi hL
    go_enter Tryz.func139, Tryz.ntmps139
    go_wp2
    (try go_region)
    (try go_wp2)
    go_ret
    exact ⟨rfl, Nmg.of_block (HM.out _ rfl).1 (Nat.le_refl _) rfl, grown8_trans (HM.out _ rfl).2 (grown8_below _ (Below.refl _ _).drew)⟩
theorem nameOf_at2 (q : Nat) (ms : List Int) (w : World) (h : Nmg w q ms) (hl : ms.length ≤ 1000) :
    Calls Tryz.prog 139 #[.pointer (some ⟨q, 0, none⟩), .int .i64 2] w fun e w' => e = .returned (.int .i64 ((ix 2 ms : Nat) : Int)) ∧ Nmg w' q (addM ms 2) ∧ w.grownBy w' (some q) := by
  have H := (show Hid _ from h)
  have b0 : w.cell? ⟨q, 2, none⟩ = some (.int .i64 (if (2 : Int) ∈ ms then ((ix 2 ms : Nat) : Int) else 0)) := (h.2.1 2 (by omega)).1
  have b1 : w.cell? ⟨q, 6, none⟩ = some (.bool (decide ((2 : Int) ∈ ms))) := (h.2.1 2 (by omega)).2
  have b2 := h.2.2.1
  have f0 := h.2.2.2 2 (by omega)
  have f1 := h.2.2.2 6 (by omega)
  have f2 := h.2.2.2 8 (by omega)
  clear h
  by_cases hm : (2 : Int) ∈ ms
  · rw [if_pos hm] at b0
    rw [decide_eq_true hm] at b1
    have ha : addM ms 2 = ms := by unfold addM; rw [if_pos hm]
    rw [ha]
    clear hm ha
    go_enter Tryz.func139, Tryz.ntmps139
    go_wp2
    go_ret
    exact ⟨rfl, H.out, World.grownBy.refl _ _⟩
  · rw [if_neg hm] at b0
    rw [decide_eq_false hm] at b1
    have ha : addM ms 2 = ms ++ [2] := by unfold addM; rw [if_neg hm]
    have hi := ix_not hm
    rw [ha, hi]
    have HM : Hid (∀ W3, ((w.setCell ⟨q, 6, none⟩ (.bool true)).setCell ⟨q, 2, none⟩ (.int .i64 ((ms.length : Nat) : Int))).setCell ⟨q, 8, none⟩ (.int .i64 ((ms.length : Nat) + 1 : Int)) = W3 → Nmg W3 q (ms ++ [2]) ∧ w.grownBy W3 (some q)) := fun W3 e => Nmg.more (v := 2) H.out (by omega) hm e
    generalize hL : ms.length = L at b2 HM hl ⊢
    clear hm ha hi hL
    go_enter Tryz.func139, Tryz.ntmps139
    go_wp2
    (try go_region)
    (try go_wp2)
    go_ret
    exact ⟨rfl, Nmg.of_block (HM.out _ rfl).1 (Nat.le_refl _) rfl, grown8_trans (HM.out _ rfl).2 (grown8_below _ (Below.refl _ _).drew)⟩
theorem nameOf_at3 (q : Nat) (ms : List Int) (w : World) (h : Nmg w q ms) (hl : ms.length ≤ 1000) :
    Calls Tryz.prog 139 #[.pointer (some ⟨q, 0, none⟩), .int .i64 3] w fun e w' => e = .returned (.int .i64 ((ix 3 ms : Nat) : Int)) ∧ Nmg w' q (addM ms 3) ∧ w.grownBy w' (some q) := by
  have H := (show Hid _ from h)
  have b0 : w.cell? ⟨q, 3, none⟩ = some (.int .i64 (if (3 : Int) ∈ ms then ((ix 3 ms : Nat) : Int) else 0)) := (h.2.1 3 (by omega)).1
  have b1 : w.cell? ⟨q, 7, none⟩ = some (.bool (decide ((3 : Int) ∈ ms))) := (h.2.1 3 (by omega)).2
  have b2 := h.2.2.1
  have f0 := h.2.2.2 3 (by omega)
  have f1 := h.2.2.2 7 (by omega)
  have f2 := h.2.2.2 8 (by omega)
  clear h
  by_cases hm : (3 : Int) ∈ ms
  · rw [if_pos hm] at b0
    rw [decide_eq_true hm] at b1
    have ha : addM ms 3 = ms := by unfold addM; rw [if_pos hm]
    rw [ha]
    clear hm ha
    go_enter Tryz.func139, Tryz.ntmps139
    go_wp2
    go_ret
    exact ⟨rfl, H.out, World.grownBy.refl _ _⟩
  · rw [if_neg hm] at b0
    rw [decide_eq_false hm] at b1
    have ha : addM ms 3 = ms ++ [3] := by unfold addM; rw [if_neg hm]
    have hi := ix_not hm
    rw [ha, hi]
    have HM : Hid (∀ W3, ((w.setCell ⟨q, 7, none⟩ (.bool true)).setCell ⟨q, 3, none⟩ (.int .i64 ((ms.length : Nat) : Int))).setCell ⟨q, 8, none⟩ (.int .i64 ((ms.length : Nat) + 1 : Int)) = W3 → Nmg W3 q (ms ++ [3]) ∧ w.grownBy W3 (some q)) := fun W3 e => Nmg.more (v := 3) H.out (by omega) hm e
    generalize hL : ms.length = L at b2 HM hl ⊢
    clear hm ha hi hL
    go_enter Tryz.func139, Tryz.ntmps139
    go_wp2
    (try go_region)
    (try go_wp2)
    go_ret
    exact ⟨rfl, Nmg.of_block (HM.out _ rfl).1 (Nat.le_refl _) rfl, grown8_trans (HM.out _ rfl).2 (grown8_below _ (Below.refl _ _).drew)⟩
theorem nameOf_any (q : Nat) (ms : List Int) (v : Int) (w : World) (h : Nmg w q ms) (hl : ms.length ≤ 1000) (hv : 0 ≤ v ∧ v < 4) :
    Calls Tryz.prog 139 #[.pointer (some ⟨q, 0, none⟩), .int .i64 v] w fun e w' => e = .returned (.int .i64 ((ix v ms : Nat) : Int)) ∧ Nmg w' q (addM ms v) ∧ w.grownBy w' (some q) := by
  have : v = 0 ∨ v = 1 ∨ v = 2 ∨ v = 3 := by omega
  rcases this with rfl | rfl | rfl | rfl
  · exact nameOf_at0 q ms w h hl
  · exact nameOf_at1 q ms w h hl
  · exact nameOf_at2 q ms w h hl
  · exact nameOf_at3 q ms w h hl
theorem metL_snoc : ∀ (l : List (Int × Int)) (ms : List Int) (x : Int × Int), metL ms (l ++ [x]) = nextM (metL ms l) x := by
  intro l
  induction l with
  | nil => intro ms x; rfl
  | cons y l ih => intro ms x; exact ih _ x
theorem renL_snoc : ∀ (l : List (Int × Int)) (ms : List Int) (x : Int × Int), renL ms (l ++ [x]) = renL ms l ++ [renX (metL ms l) x] := by
  intro l
  induction l with
  | nil => intro ms x; rfl
  | cons y l ih => intro ms x; simp only [List.cons_append, renL, metL, ih]
theorem renL_len : ∀ (l : List (Int × Int)) (ms : List Int), (renL ms l).length = l.length := by
  intro l
  induction l with
  | nil => intro ms; rfl
  | cons y l ih => intro ms; simp only [renL, List.length_cons, ih]
theorem metL_len : ∀ (l : List (Int × Int)) (ms : List Int), (metL ms l).length ≤ ms.length + l.length := by
  intro l
  induction l with
  | nil => intro ms; exact Nat.le_refl _
  | cons y l ih =>
    intro ms
    have := ih (nextM ms y)
    have h2 : (nextM ms y).length ≤ ms.length + 1 := by
      unfold nextM
      split
      · unfold addM
        split
        · omega
        · simp
      · omega
    simp only [metL, List.length_cons]
    omega
/-- A term whose first k variables have been named. -/
def halfN (ms : List Int) (l : List (Int × Int)) (k : Nat) : List (Int × Int) := renL ms (l.take k) ++ l.drop k
theorem halfN_len (ms : List Int) (l : List (Int × Int)) (k : Nat) : (halfN ms l k).length = l.length := by
  unfold halfN
  rw [List.length_append, renL_len, List.length_take, List.length_drop]
  omega
theorem takeN {l : List (Int × Int)} {k : Nat} (h : k < l.length) : l.take (k + 1) = l.take k ++ [l.getD k (0, 0)] := by
  rw [List.take_add_one, List.getD_eq_getElem?_getD, List.getElem?_eq_getElem h]; rfl
theorem halfN_at {ms : List Int} {l : List (Int × Int)} {k : Nat} (h : k < l.length) : (halfN ms l k).getD k (0, 0) = l.getD k (0, 0) := by
  unfold halfN
  rw [List.getD_eq_getElem?_getD, List.getElem?_append_right (by rw [renL_len, List.length_take]; omega), renL_len, List.length_take, List.getElem?_drop, show k + (k - min k l.length) = k by omega, ← List.getD_eq_getElem?_getD]
theorem getD_mid (a z : List (Int × Int)) (x y : Int × Int) {k : Nat} (ha : a.length = k) : (a ++ x :: z).getD k (0, 0) = x ∧ ∀ j, j ≠ k → (a ++ x :: z).getD j (0, 0) = (a ++ y :: z).getD j (0, 0) := by
  simp only [List.getD_eq_getElem?_getD]
  refine ⟨?_, fun j hj => ?_⟩
  · rw [List.getElem?_append_right (by omega), ha, Nat.sub_self]
    rfl
  · by_cases hlt : j < k
    · rw [List.getElem?_append_left (by omega), List.getElem?_append_left (by omega)]
    · rw [List.getElem?_append_right (by omega), List.getElem?_append_right (by omega), ha]
      obtain ⟨d, hd⟩ : ∃ d, j - k = d + 1 := ⟨j - k - 1, by omega⟩
      rw [hd]
      rfl
theorem halfN_next {ms : List Int} {l : List (Int × Int)} {k : Nat} (h : k < l.length) : (halfN ms l (k + 1)).getD k (0, 0) = renX (metL ms (l.take k)) (l.getD k (0, 0)) ∧ ∀ j, j ≠ k → (halfN ms l (k + 1)).getD j (0, 0) = (halfN ms l k).getD j (0, 0) := by
  have hr : (renL ms (l.take k)).length = k := by rw [renL_len, List.length_take]; omega
  have e : halfN ms l (k + 1) = renL ms (l.take k) ++ (renX (metL ms (l.take k)) (l.getD k (0, 0)) :: l.drop (k + 1)) := by
    unfold halfN
    rw [takeN h, renL_snoc, List.append_assoc, List.singleton_append]
  have e2 : halfN ms l k = renL ms (l.take k) ++ (l.getD k (0, 0) :: l.drop (k + 1)) := by
    unfold halfN
    rw [List.drop_eq_getElem_cons h, List.getD_eq_getElem?_getD, List.getElem?_eq_getElem h]
    rfl
  rw [e, e2]
  exact getD_mid _ _ _ _ hr
theorem take_all {l : List (Int × Int)} {k : Nat} (h : l.length = k) : l.take k = l := by rw [← h, List.take_length]
end Go.Proofs.YtkadanagmahhgaaGreatDoor
namespace Go.Proofs.YtkadanagmahhgaaGreatDoor
open Go.ChangeShapes Go.WideShapes Go.ChangeAt Go.RowKit
set_option linter.unusedVariables false

/-- A list of nodes that may be written, in a block of its own. -/
def Wr8 (w : World) (g len : Nat) (l : List (Int × Int)) : Prop := l.length = len ∧ g < w.heap.size ∧ ∀ i, i < len → (w.cell? ⟨g, i * 2, none⟩ = some (.int .i64 (l.getD i (0, 0)).1) ∧ w.cell? ⟨g, i * 2 + 1, none⟩ = some (.int .i64 (l.getD i (0, 0)).2)) ∧ w.frozen? ⟨g, i * 2 + 1, none⟩ = false
theorem Wr8.nsl {w : World} {g len : Nat} {l : List (Int × Int)} (h : Wr8 w g len l) : NSl w (some ⟨g, 0, none⟩) len l :=
  ⟨h.1, .inr ⟨g, 0, rfl, h.2.1, fun i hi => ⟨by rw [Nat.zero_add]; exact (h.2.2 i hi).1.1, by rw [Nat.zero_add]; exact (h.2.2 i hi).1.2⟩⟩⟩
theorem Wr8.of_block {w w' : World} {g len : Nat} {l : List (Int × Int)} (h : Wr8 w g len l) (hs : w.heap.size ≤ w'.heap.size) (hb : w'.heap[g]? = w.heap[g]?) : Wr8 w' g len l :=
  ⟨h.1, Nat.lt_of_lt_of_le h.2.1 hs, fun i hi => ⟨⟨(World.cell?_of_block (a := ⟨g, i * 2, none⟩) hb).trans (h.2.2 i hi).1.1, (World.cell?_of_block (a := ⟨g, i * 2 + 1, none⟩) hb).trans (h.2.2 i hi).1.2⟩, (World.frozen?_of_block (a := ⟨g, i * 2 + 1, none⟩) hb).trans (h.2.2 i hi).2⟩⟩
theorem Wr8.of {w : World} {base n : Nat} {v : Value} {l : List (Int × Int)} (h : w.ownsRow base 66 2 v n (flat l)) (h1 : 1 ≤ n) : ∃ g c, v = .slice (some ⟨g, 0, none⟩) n c ∧ base ≤ g ∧ Wr8 w g n l := by
  have hl : l.length = n := by have := h.1; rw [flat_len] at this; omega
  rcases h.2 with ⟨rfl, h0⟩ | ⟨g, cap, cur, rfl, hg, hh, r⟩
  · omega
  · refine ⟨g, cap, rfl, hg, hl, owns_lt h, fun i hi => ⟨⟨?_, ?_⟩, h.frozenAt _⟩⟩
    · rw [h.cellAt (i * 2) (by omega)]; exact (flat_get l i (by omega)).1
    · rw [h.cellAt (i * 2 + 1) (by omega)]; exact (flat_get l i (by omega)).2
theorem Wr8.set {w : World} {g len k : Nat} {l l' : List (Int × Int)} {x : Int} (h : Wr8 w g len l) (hk : k < len) (hl : l'.length = len) (h1 : l'.getD k (0, 0) = ((l.getD k (0, 0)).1, x)) (h2 : ∀ j, j ≠ k → l'.getD j (0, 0) = l.getD j (0, 0)) : Wr8 (w.setCell ⟨g, k * 2 + 1, none⟩ (.int .i64 x)) g len l' := by
  refine ⟨hl, by simpa [World.setCell] using h.2.1, fun i hi => ⟨⟨?_, ?_⟩, by simpa [go_sem] using (h.2.2 i hi).2⟩⟩
  · rw [World.cell?_setCell_other _ _ _ _ (fun e => by injection e with _ e _; omega)]
    by_cases e : i = k
    · subst e; rw [h1]; exact (h.2.2 i hi).1.1
    · rw [h2 i e]; exact (h.2.2 i hi).1.1
  · by_cases e : i = k
    · subst e; rw [h1]; exact World.cell?_setCell_same _ _ _ (h.2.2 i hi).1.2
    · rw [World.cell?_setCell_other _ _ _ _ (fun e' => by injection e' with _ e' _; omega), h2 i e]; exact (h.2.2 i hi).1.2
set_option maxHeartbeats 3200000 in
set_option maxRecDepth 20000 in
theorem renamed_any (q : Nat) (ms : List Int) (b off len cap : Nat) (l : List (Int × Int)) (w : World) (hN : Nmg w q ms) (h : NSl w (some ⟨b, off, none⟩) len l) (hv : VR l) (h1 : 1 ≤ len) (hn : len ≤ 40) (hl : ms.length ≤ 100) :
    Calls Tryz.prog 111 #[.pointer (some ⟨q, 0, none⟩), .slice (some ⟨b, off, none⟩) len cap] w fun e w' => ∃ (g c : Nat), e = .returned (.slice (some ⟨g, 0, none⟩) len c) ∧ Wr8 w' g len (renL ms l) ∧ w.heap.size ≤ g ∧ Nmg w' q (metL ms l) ∧ w.grownBy w' (some q) := by
  have hll := h.1
  have HC := (show Hid _ from clone_any b off len cap l w h (by omega))
  have HN : Hid (Nmg w q ms) := hN
  have HNa : Hid (∀ W ms v, Nmg W q ms → ms.length ≤ 1000 → 0 ≤ v ∧ v < 4 → Calls Tryz.prog 139 #[.pointer (some ⟨q, 0, none⟩), .int .i64 v] W fun e w' => e = .returned (.int .i64 ((ix v ms : Nat) : Int)) ∧ Nmg w' q (addM ms v) ∧ W.grownBy w' (some q)) := fun W ms v h1 h2 h3 => nameOf_any q ms v W h1 h2 h3
  have hqs : q < w.heap.size := hN.1
  clear h hN
  go_enter Tryz.func111, Tryz.ntmps111
  go_wp2_with fail
  refine Calls.mono HC.out ?_
  rintro e w2 ⟨v, rfl, ho, hb2⟩
  obtain ⟨g, c, rfl, hg, hW2⟩ := Wr8.of ho h1
  have HS : Hid (Wr8 w2 g len (halfN ms l 0) ∧ Nmg w2 q (metL ms (l.take 0)) ∧ w.grownBy w2 (some q)) := ⟨hW2, HN.out.keep hb2, grown8_below _ hb2⟩
  clear HC ho hb2 hW2 HN
  go_wp2_with fail
  go_loopw [11] (fun x wr => ∃ (k : Nat), k ≤ len ∧ x = .int .i64 k ∧ Hid (Wr8 wr g len (halfN ms l k) ∧ Nmg wr q (metL ms (l.take k)) ∧ w.grownBy wr (some q))) (fun x _ => len - (intOf x).toNat)
  case atStart => exact ⟨0, Nat.zero_le _, rfl, HS⟩
  case round =>
    obtain ⟨k, hk, rfl, hR⟩ := hrel
    clear HS
    by_cases hlt : k < len
    · have hkl : (k : Int) < len := by omega
      obtain ⟨⟨c1, c2⟩, f2⟩ := hR.out.1.2.2 k hlt
      have hgl := hR.out.1.2.1
      rw [halfN_at (by omega)] at c1 c2
      have hne := halfN_next (ms := ms) (l := l) (k := k) (by omega)
      have htk := takeN (l := l) (k := k) (by omega)
      have hmem : l.getD k (0, 0) ∈ l := by rw [List.getD_eq_getElem?_getD, List.getElem?_eq_getElem (by omega)]; exact List.getElem_mem _
      have hvk := hv _ hmem
      have hml := metL_len (l.take k) ms
      rw [List.length_take] at hml
      obtain ⟨x, hx⟩ : ∃ x, l.getD k (0, 0) = x := ⟨_, rfl⟩
      rw [hx] at c1 c2 hne htk hvk
      obtain ⟨x1, x2⟩ := x
      simp only at c1 c2
      by_cases e : x1 = 2
      · subst e
        have hv4 := hvk rfl
        have HC5 := (show Hid _ from HNa.out wr (metL ms (l.take k)) x2 hR.out.2.1 (by omega) hv4)
        have HP : Hid (∀ w5, Nmg w5 q (addM (metL ms (l.take k)) x2) → wr.grownBy w5 (some q) → (w5.cell? ⟨g, k * 2 + 1, none⟩ = some (.int .i64 x2) ∧ w5.frozen? ⟨g, k * 2 + 1, none⟩ = false) ∧ (Wr8 (w5.setCell ⟨g, k * 2 + 1, none⟩ (.int .i64 ((ix x2 (metL ms (l.take k)) : Nat) : Int))) g len (halfN ms l (k + 1)) ∧ Nmg (w5.setCell ⟨g, k * 2 + 1, none⟩ (.int .i64 ((ix x2 (metL ms (l.take k)) : Nat) : Int))) q (metL ms (l.take (k + 1))) ∧ w.grownBy (w5.setCell ⟨g, k * 2 + 1, none⟩ (.int .i64 ((ix x2 (metL ms (l.take k)) : Nat) : Int))) (some q))) := fun w5 h5 g5 => by
          have hgb : w5.heap[g]? = wr.heap[g]? := g5.block g hgl (by intro e; have := Option.some.inj e; omega)
          have hW5 := hR.out.1.of_block g5.size hgb
          refine ⟨⟨(World.cell?_of_block (a := ⟨g, k * 2 + 1, none⟩) hgb).trans c2, (World.frozen?_of_block (a := ⟨g, k * 2 + 1, none⟩) hgb).trans f2⟩, hW5.set hlt (by rw [halfN_len]; exact hll) ?_ hne.2, ?_, ?_⟩
          · rw [hne.1, halfN_at (by omega), hx]; rfl
          · rw [htk, metL_snoc]
            exact h5.of_block (by simp [World.setCell]) (Below.heap_setCell _ _ _ _ (by show q ≠ g; omega))
          · have hgw := grown8_trans hR.out.2.2 g5
            exact ⟨hgw.os, hgw.tape, hgw.output, by simpa [World.setCell] using hgw.size, fun i hi hn => (Below.heap_setCell _ _ _ _ (by show i ≠ g; omega)).trans (hgw.block i hi hn)⟩
        clear hne htk hmem hvk hml hx hR hll
        go_wp2_with fail
        refine Calls.mono HC5.out ?_
        rintro e w5 ⟨rfl, h5, g5⟩
        obtain ⟨⟨d1, d2⟩, hF⟩ := HP.out w5 h5 g5
        have HFn := (show Hid _ from hF)
        clear HC5 HP h5 g5 hF
        go_wp2
        exact ⟨⟨k + 1, by omega, by go_num, HFn⟩, by simp [intOf]; omega⟩
      · have e2 : (x1 == 2) = false := by simpa using e
        have HP : Hid (Wr8 wr g len (halfN ms l (k + 1)) ∧ Nmg wr q (metL ms (l.take (k + 1))) ∧ w.grownBy wr (some q)) := by
          have hsame : halfN ms l (k + 1) = halfN ms l k := by
            refine List.ext_getElem (by rw [halfN_len, halfN_len]) fun j h1 h2 => ?_
            have : (halfN ms l (k + 1)).getD j (0, 0) = (halfN ms l k).getD j (0, 0) := by
              by_cases e' : j = k
              · subst e'
                rw [hne.1, halfN_at (by omega), hx]
                unfold renX
                rw [if_neg e]
              · exact hne.2 j e'
            simpa [List.getD_eq_getElem?_getD, h1, h2] using this
          refine ⟨by rw [hsame]; exact hR.out.1, ?_, hR.out.2.2⟩
          rw [htk, metL_snoc]
          unfold nextM
          rw [if_neg e]
          exact hR.out.2.1
        clear hne htk hmem hvk hml hx hR hll e
        go_wp2
        exact ⟨⟨k + 1, by omega, by go_num, HP⟩, by simp [intOf]; omega⟩
    · obtain rfl : k = len := by omega
      have hd : halfN ms l k = renL ms l := by
        unfold halfN
        rw [take_all hll, List.drop_eq_nil_of_le (by omega), List.append_nil]
      have HP := (show Hid _ from hR.out)
      rw [hd, take_all hll] at HP
      clear hR hd
      go_wp2
      go_ret
      exact ⟨g, c, rfl, HP.out.1, hg, HP.out.2.1, HP.out.2.2⟩
end Go.Proofs.YtkadanagmahhgaaGreatDoor
namespace Go.Proofs.YtkadanagmahhgaaGreatDoor
open Go.ChangeShapes Go.WideShapes Go.ChangeAt Go.RowKit
set_option linter.unusedVariables false

/-- A term whose first k variables have other names. -/
def halfM (f : Int → Int) (l : List (Int × Int)) (k : Nat) : List (Int × Int) := nmL f (l.take k) ++ l.drop k
theorem halfM_len (f : Int → Int) (l : List (Int × Int)) (k : Nat) : (halfM f l k).length = l.length := by
  unfold halfM
  rw [List.length_append, nmL_len, List.length_take, List.length_drop]
  omega
theorem halfM_at {f : Int → Int} {l : List (Int × Int)} {k : Nat} (h : k < l.length) : (halfM f l k).getD k (0, 0) = l.getD k (0, 0) := by
  unfold halfM
  rw [List.getD_eq_getElem?_getD, List.getElem?_append_right (by rw [nmL_len, List.length_take]; omega), nmL_len, List.length_take, List.getElem?_drop, show k + (k - min k l.length) = k by omega, ← List.getD_eq_getElem?_getD]
theorem halfM_next {f : Int → Int} {l : List (Int × Int)} {k : Nat} (h : k < l.length) : (halfM f l (k + 1)).getD k (0, 0) = (if (l.getD k (0, 0)).1 = 2 then ((l.getD k (0, 0)).1, f (l.getD k (0, 0)).2) else l.getD k (0, 0)) ∧ ∀ j, j ≠ k → (halfM f l (k + 1)).getD j (0, 0) = (halfM f l k).getD j (0, 0) := by
  have hr : (nmL f (l.take k)).length = k := by rw [nmL_len, List.length_take]; omega
  have e : halfM f l (k + 1) = nmL f (l.take k) ++ ((if (l.getD k (0, 0)).1 = 2 then ((l.getD k (0, 0)).1, f (l.getD k (0, 0)).2) else l.getD k (0, 0)) :: l.drop (k + 1)) := by
    unfold halfM
    rw [takeN h]
    unfold nmL
    rw [List.map_append, List.append_assoc]
    rfl
  have e2 : halfM f l k = nmL f (l.take k) ++ (l.getD k (0, 0) :: l.drop (k + 1)) := by
    unfold halfM
    rw [List.drop_eq_getElem_cons h, List.getD_eq_getElem?_getD, List.getElem?_eq_getElem h]
    rfl
  rw [e, e2]
  exact getD_mid _ _ _ _ hr
set_option maxHeartbeats 3200000 in
set_option maxRecDepth 20000 in
theorem named_any (b off len cap : Nat) (l : List (Int × Int)) (nb no nc : Nat) (q : List Int) (w : World) (h : NSl w (some ⟨b, off, none⟩) len l) (hq : Sl w (some ⟨nb, no, none⟩) 4 q) (hv : VR l) (h1 : 1 ≤ len) (hn : len ≤ 40) :
    Calls Tryz.prog 137 #[.slice (some ⟨b, off, none⟩) len cap, .slice (some ⟨nb, no, none⟩) 4 nc] w fun e w' => ∃ (g c : Nat), e = .returned (.slice (some ⟨g, 0, none⟩) len c) ∧ NSl w' (some ⟨g, 0, none⟩) len (nmL (lk q) l) ∧ Below w.heap.size w w' := by
  have hll := h.1
  have HC := (show Hid _ from own_any b off len cap l w h (by omega))
  have HQ : Hid (∀ W (v : Nat), Below w.heap.size w W → v < 4 → W.cell? ⟨nb, no + v, none⟩ = some (.int .i64 (lk q (v : Int)))) := fun W v hW hv => by
    rcases hq.2 with h0 | ⟨b', off', e, hl, hc⟩
    · omega
    · cases e
      rw [(hW.cell (p := ⟨nb, no + v, none⟩) hl), hc v hv]
      simp [lk]
  clear h hq
  go_enter Tryz.func137, Tryz.ntmps137
  go_wp2_with fail
  refine Calls.mono HC.out ?_
  rintro e w2 ⟨v, rfl, ho, hb2⟩
  obtain ⟨g, c, rfl, hg, hW2⟩ := Wr8.of ho h1
  have HS : Hid (Wr8 w2 g len (halfM (lk q) l 0) ∧ Below w.heap.size w w2) := ⟨hW2, hb2⟩
  clear HC ho hb2 hW2
  go_wp2_with fail
  go_loopw [12] (fun x wr => ∃ (k : Nat), k ≤ len ∧ x = .int .i64 k ∧ Hid (Wr8 wr g len (halfM (lk q) l k) ∧ Below w.heap.size w wr)) (fun x _ => len - (intOf x).toNat)
  case atStart => exact ⟨0, Nat.zero_le _, rfl, HS⟩
  case round =>
    obtain ⟨k, hk, rfl, hR⟩ := hrel
    clear HS
    by_cases hlt : k < len
    · have hkl : (k : Int) < len := by omega
      obtain ⟨⟨c1, c2⟩, f2⟩ := hR.out.1.2.2 k hlt
      have hgl := hR.out.1.2.1
      rw [halfM_at (by omega)] at c1 c2
      have hne := halfM_next (f := lk q) (l := l) (k := k) (by omega)
      have hmem : l.getD k (0, 0) ∈ l := by rw [List.getD_eq_getElem?_getD, List.getElem?_eq_getElem (by omega)]; exact List.getElem_mem _
      have hvk := hv _ hmem
      obtain ⟨x, hx⟩ : ∃ x, l.getD k (0, 0) = x := ⟨_, rfl⟩
      rw [hx] at c1 c2 hne hvk
      obtain ⟨x1, x2⟩ := x
      simp only at c1 c2 hne hvk
      obtain ⟨W4, hW4⟩ : ∃ W4, wr.alloc (.cells #[.int .i64 x1, .int .i64 x2] 66) = W4 := ⟨_, rfl⟩
      have hb4 : Below wr.heap.size wr W4 := by rw [← hW4]; exact (Below.refl _ _).alloc (Nat.le_refl _) _
      have m0 : W4.cell? ⟨wr.heap.size, 0, none⟩ = some (.int .i64 x1) := by rw [← hW4]; simp [go_sem]
      have m1 : W4.cell? ⟨wr.heap.size, 1, none⟩ = some (.int .i64 x2) := by rw [← hW4]; simp [go_sem]
      by_cases e : x1 = 2
      · subst e
        have hv4 := hvk rfl
        obtain ⟨vn, rfl⟩ := Int.eq_ofNat_of_zero_le hv4.1
        have hvn : vn < 4 := by omega
        have hB4 : Below w.heap.size w W4 := hR.out.2.trans (hb4.mono hR.out.2.size)
        have q4 := HQ.out W4 vn hB4 hvn
        have hvi : (vn : Int) < 4 := by omega
        have d1 : W4.cell? ⟨g, k * 2 + 1, none⟩ = some (.int .i64 (vn : Int)) := (hb4.cell (p := ⟨g, k * 2 + 1, none⟩) hgl).trans c2
        have d2 : W4.frozen? ⟨g, k * 2 + 1, none⟩ = false := (hb4.frozen (p := ⟨g, k * 2 + 1, none⟩) hgl).trans f2
        have HP : Hid (Wr8 (W4.setCell ⟨g, k * 2 + 1, none⟩ (.int .i64 (lk q (vn : Int)))) g len (halfM (lk q) l (k + 1)) ∧ Below w.heap.size w (W4.setCell ⟨g, k * 2 + 1, none⟩ (.int .i64 (lk q (vn : Int))))) := by
          refine ⟨(hR.out.1.of_block hb4.size (hb4.block g hgl)).set hlt (by rw [halfM_len]; exact hll) ?_ hne.2, hB4.setCell (by show w.heap.size ≤ g; omega) _⟩
          rw [hne.1, if_pos rfl, halfM_at (by omega), hx]
        clear hne hmem hvk hx hR hll hb4 hB4
        go_wp2_with fail
        (try rw [hW4])
        go_wp2
        exact ⟨⟨k + 1, by omega, by go_num, HP⟩, by simp [intOf]; omega⟩
      · have e2 : (x1 == 2) = false := by simpa using e
        have HP : Hid (Wr8 W4 g len (halfM (lk q) l (k + 1)) ∧ Below w.heap.size w W4) := by
          have hsame : halfM (lk q) l (k + 1) = halfM (lk q) l k := by
            refine List.ext_getElem (by rw [halfM_len, halfM_len]) fun j h1 h2 => ?_
            have : (halfM (lk q) l (k + 1)).getD j (0, 0) = (halfM (lk q) l k).getD j (0, 0) := by
              by_cases e' : j = k
              · subst e'
                rw [hne.1, halfM_at (by omega), hx, if_neg e]
              · exact hne.2 j e'
            simpa [List.getD_eq_getElem?_getD, h1, h2] using this
          exact ⟨by rw [hsame]; exact hR.out.1.of_block hb4.size (hb4.block g hgl), hR.out.2.trans (hb4.mono hR.out.2.size)⟩
        clear hne hmem hvk hx hR hll e hb4
        go_wp2_with fail
        (try rw [hW4])
        go_wp2
        exact ⟨⟨k + 1, by omega, by go_num, HP⟩, by simp [intOf]; omega⟩
    · obtain rfl : k = len := by omega
      have hd : halfM (lk q) l k = nmL (lk q) l := by
        unfold halfM
        rw [take_all hll, List.drop_eq_nil_of_le (by omega), List.append_nil]
      have HP := (show Hid _ from hR.out)
      rw [hd] at HP
      clear hR hd
      go_wp2
      go_ret
      exact ⟨g, c, rfl, HP.out.1.nsl, HP.out.2⟩
end Go.Proofs.YtkadanagmahhgaaGreatDoor
namespace Go.Proofs.YtkadanagmahhgaaGreatDoor
open Go.ChangeShapes Go.WideShapes Go.ChangeAt Go.RowKit
set_option linter.unusedVariables false

theorem eqNd8 (a b c d : Int) (w : World) : (Op.equalIn 10000 66 (.agg #[.int .i64 a, .int .i64 b]) (.agg #[.int .i64 c, .int .i64 d])).run Tryz.prog w = .ok (a == c && b == d) w := by
  have hS : Tryz.prog.underlying 66 = some (.struct (Tryz.prog.fieldsOf 66)) := by kernel_rfl
  have hp : Tryz.prog.stoodInHeld 66 = false := by kernel_rfl
  rw [show (10000 : Nat) = 9999 + 1 from rfl, run_equalIn_agg w 9999 66 _ _ hS hp]
  simp only [Program.fieldsOf, Tryz.underlying66]
  go_simp
  by_cases h1 : a = c <;> by_cases h2 : b = d <;> simp [h1, h2]
theorem neqNd8 (a b c d : Int) (w : World) : (binOp .neq 66 (.agg #[.int .i64 a, .int .i64 b]) (.agg #[.int .i64 c, .int .i64 d])).run Tryz.prog w = .ok (.bool (!(a == c && b == d))) w := by
  rw [run_neq_struct, eqNd8]
  simp
theorem guardNd8 : Tryz.prog.eqGuardType Tryz.prog.depth 66 = false := by kernel_rfl
theorem eqT_yes {l m : List (Int × Int)} {len : Nat} (h1 : l.length = len) (h2 : m.length = len) (h : ∀ j, j < len → l.getD j (0, 0) = m.getD j (0, 0)) : (l == m) = true := by
  rw [beq_iff_eq]
  refine List.ext_getElem (by omega) fun j hj hj' => ?_
  have := h j (by omega)
  simpa [List.getD_eq_getElem?_getD, hj, hj'] using this
theorem eqT_no {l m : List (Int × Int)} {j : Nat} (h : ¬ l.getD j (0, 0) = m.getD j (0, 0)) : (l == m) = false := by
  rw [beq_eq_false_iff_ne]
  intro e
  exact h (by rw [e])
set_option maxHeartbeats 1600000 in
set_option maxRecDepth 20000 in
theorem eqT_any (a b : Option Addr) (len cap len' cap' : Nat) (l m : List (Int × Int)) (w : World) (h : NSl w a len l) (h' : NSl w b len' m) (hm : len ≤ 9223372036854775807) (hm2 : len' ≤ 9223372036854775807) :
    Calls Tryz.prog 110 #[.slice a len cap, .slice b len' cap'] w fun e w' => e = .returned (.bool (l == m)) ∧ Below w.heap.size w w' := by
  have hll := h.1
  have hl2 := h'.1
  by_cases hn : len = len'
  case neg =>
    have e : (l == m) = false := by
      rw [beq_eq_false_iff_ne]
      intro e
      rw [e] at hll
      omega
    rw [e]
    have hne : ((len : Int) != len') = true := by simp; omega
    clear h h'
    go_enter Tryz.func110, Tryz.ntmps110
    go_wp2
    go_ret
    exact ⟨rfl, Below.refl _ _⟩
  subst hn
  have hne : ((len : Int) != len) = false := by simp
  have HS : Hid (NSl w a len l ∧ NSl w b len m) := ⟨h, h'⟩
  have HE : Hid ((∀ j, j < len → l.getD j (0, 0) = m.getD j (0, 0)) → true = (l == m)) := fun h => (eqT_yes hll hl2 h).symm
  have HN : Hid (∀ j, ¬ l.getD j (0, 0) = m.getD j (0, 0) → false = (l == m)) := fun j h => (eqT_no h).symm
  generalize (l == m) = R at HE HN ⊢
  clear h h' hll hl2
  go_enter Tryz.func110, Tryz.ntmps110
  go_wp2_with fail
  go_loopw [13] (fun x wr => ∃ (k : Nat), k ≤ len ∧ x = .int .i64 k ∧ Hid (∀ j, j < k → l.getD j (0, 0) = m.getD j (0, 0)) ∧ Below w.heap.size w wr) (fun x _ => len - (intOf x).toNat)
  case atStart => exact ⟨0, Nat.zero_le _, rfl, fun j hj => absurd hj (Nat.not_lt_zero _), Below.refl _ _⟩
  case round =>
    obtain ⟨k, hk, rfl, hE, hbr⟩ := hrel
    by_cases hlt : k < len
    · obtain ⟨b1, off, rfl, hbl, hc⟩ := HS.out.1.at (by omega)
      obtain ⟨b2, off', rfl, hbl', hc'⟩ := HS.out.2.at (by omega)
      have c1 := (hbr.cell (p := ⟨b1, off + k * 2, none⟩) hbl).trans (hc k hlt).1
      have c2 := (hbr.cell (p := ⟨b1, off + k * 2 + 1, none⟩) hbl).trans (hc k hlt).2
      have d1 := (hbr.cell (p := ⟨b2, off' + k * 2, none⟩) hbl').trans (hc' k hlt).1
      have d2 := (hbr.cell (p := ⟨b2, off' + k * 2 + 1, none⟩) hbl').trans (hc' k hlt).2
      clear hc hc'
      have hlt' : (k : Int) < len := by omega
      have hq := fun (W : World) (a b c d : Int) => neqNd8 a b c d W
      have hgd := guardNd8
      by_cases e : l.getD k (0, 0) = m.getD k (0, 0)
      · have HE2 : Hid (∀ j, j < k + 1 → l.getD j (0, 0) = m.getD j (0, 0)) := fun j hj => by
          by_cases e2 : j = k
          · rw [e2]; exact e
          · exact hE.out j (by omega)
        rw [← e] at d1 d2
        clear e hE HE HN
        generalize (l.getD k (0, 0)).1 = x at c1 d1
        generalize (l.getD k (0, 0)).2 = y at c2 d2
        have e3 : (!(x == x && y == y)) = false := by simp
        go_wp2_with fail
        go_quiet (fail)
        have hbb := below_drawn hbr nq
        go_wp2
        go_roundw
        case rel => exact ⟨k + 1, by omega, by go_num, HE2, hbb⟩
        case measure => simp [intOf]; omega
      · have hR := HN.out k e
        have e3 : (!((l.getD k (0, 0)).1 == (m.getD k (0, 0)).1 && (l.getD k (0, 0)).2 == (m.getD k (0, 0)).2)) = true := by
          rw [Bool.not_eq_true']
          refine Bool.eq_false_iff.2 fun ht => e ?_
          rw [Bool.and_eq_true, beq_iff_eq, beq_iff_eq] at ht
          exact Prod.ext ht.1 ht.2
        subst hR
        clear e hE HE HN
        generalize (l.getD k (0, 0)).1 = x at c1 e3
        generalize (l.getD k (0, 0)).2 = y at c2 e3
        generalize (m.getD k (0, 0)).1 = x' at d1 e3
        generalize (m.getD k (0, 0)).2 = y' at d2 e3
        go_wp2_with fail
        go_quiet (fail)
        have hbb := below_drawn hbr nq
        go_wp2
        go_ret
        exact ⟨rfl, hbb⟩
    · obtain rfl : k = len := by omega
      have hR := HE.out hE.out
      subst hR
      go_wp2
      go_ret
      exact ⟨rfl, hbr⟩
set_option maxHeartbeats 1600000 in
set_option maxRecDepth 20000 in
theorem eqT8_any (a b : Option Addr) (len cap len' cap' : Nat) (l m : List (Int × Int)) (w : World) (h : NSl w a len l) (h' : NSl w b len' m) (hm : len ≤ 9223372036854775807) (hm2 : len' ≤ 9223372036854775807) :
    Calls Tryz.prog 136 #[.slice a len cap, .slice b len' cap'] w fun e w' => e = .returned (.bool (l == m)) ∧ Below w.heap.size w w' := by
  have hll := h.1
  have hl2 := h'.1
  by_cases hn : len = len'
  case neg =>
    have e : (l == m) = false := by
      rw [beq_eq_false_iff_ne]
      intro e
      rw [e] at hll
      omega
    rw [e]
    have hne : ((len : Int) != len') = true := by simp; omega
    clear h h'
    go_enter Tryz.func136, Tryz.ntmps136
    go_wp2
    go_ret
    exact ⟨rfl, Below.refl _ _⟩
  subst hn
  have hne : ((len : Int) != len) = false := by simp
  have HS : Hid (NSl w a len l ∧ NSl w b len m) := ⟨h, h'⟩
  have HE : Hid ((∀ j, j < len → l.getD j (0, 0) = m.getD j (0, 0)) → true = (l == m)) := fun h => (eqT_yes hll hl2 h).symm
  have HN : Hid (∀ j, ¬ l.getD j (0, 0) = m.getD j (0, 0) → false = (l == m)) := fun j h => (eqT_no h).symm
  generalize (l == m) = R at HE HN ⊢
  clear h h' hll hl2
  go_enter Tryz.func136, Tryz.ntmps136
  go_wp2_with fail
  go_loopw [13] (fun x wr => ∃ (k : Nat), k ≤ len ∧ x = .int .i64 k ∧ Hid (∀ j, j < k → l.getD j (0, 0) = m.getD j (0, 0)) ∧ Below w.heap.size w wr) (fun x _ => len - (intOf x).toNat)
  case atStart => exact ⟨0, Nat.zero_le _, rfl, fun j hj => absurd hj (Nat.not_lt_zero _), Below.refl _ _⟩
  case round =>
    obtain ⟨k, hk, rfl, hE, hbr⟩ := hrel
    by_cases hlt : k < len
    · obtain ⟨b1, off, rfl, hbl, hc⟩ := HS.out.1.at (by omega)
      obtain ⟨b2, off', rfl, hbl', hc'⟩ := HS.out.2.at (by omega)
      have c1 := (hbr.cell (p := ⟨b1, off + k * 2, none⟩) hbl).trans (hc k hlt).1
      have c2 := (hbr.cell (p := ⟨b1, off + k * 2 + 1, none⟩) hbl).trans (hc k hlt).2
      have d1 := (hbr.cell (p := ⟨b2, off' + k * 2, none⟩) hbl').trans (hc' k hlt).1
      have d2 := (hbr.cell (p := ⟨b2, off' + k * 2 + 1, none⟩) hbl').trans (hc' k hlt).2
      clear hc hc'
      have hlt' : (k : Int) < len := by omega
      have hq := fun (W : World) (a b c d : Int) => neqNd8 a b c d W
      have hgd := guardNd8
      by_cases e : l.getD k (0, 0) = m.getD k (0, 0)
      · have HE2 : Hid (∀ j, j < k + 1 → l.getD j (0, 0) = m.getD j (0, 0)) := fun j hj => by
          by_cases e2 : j = k
          · rw [e2]; exact e
          · exact hE.out j (by omega)
        rw [← e] at d1 d2
        clear e hE HE HN
        generalize (l.getD k (0, 0)).1 = x at c1 d1
        generalize (l.getD k (0, 0)).2 = y at c2 d2
        have e3 : (!(x == x && y == y)) = false := by simp
        go_wp2_with fail
        go_quiet (fail)
        have hbb := below_drawn hbr nq
        go_wp2
        go_roundw
        case rel => exact ⟨k + 1, by omega, by go_num, HE2, hbb⟩
        case measure => simp [intOf]; omega
      · have hR := HN.out k e
        have e3 : (!((l.getD k (0, 0)).1 == (m.getD k (0, 0)).1 && (l.getD k (0, 0)).2 == (m.getD k (0, 0)).2)) = true := by
          rw [Bool.not_eq_true']
          refine Bool.eq_false_iff.2 fun ht => e ?_
          rw [Bool.and_eq_true, beq_iff_eq, beq_iff_eq] at ht
          exact Prod.ext ht.1 ht.2
        subst hR
        clear e hE HE HN
        generalize (l.getD k (0, 0)).1 = x at c1 e3
        generalize (l.getD k (0, 0)).2 = y at c2 e3
        generalize (m.getD k (0, 0)).1 = x' at d1 e3
        generalize (m.getD k (0, 0)).2 = y' at d2 e3
        go_wp2_with fail
        go_quiet (fail)
        have hbb := below_drawn hbr nq
        go_wp2
        go_ret
        exact ⟨rfl, hbb⟩
    · obtain rfl : k = len := by omega
      have hR := HE.out hE.out
      subst hR
      go_wp2
      go_ret
      exact ⟨rfl, hbr⟩
end Go.Proofs.YtkadanagmahhgaaGreatDoor
