/-
  PROVED HERE: chapter 5's functions, called with a drawn list. No other condition.
-/
import Derived.Test.YtoaejodpklhmjaaP5Draws
import Derived.Test.YtoaejodpklhmjaaP5MeetI
import Derived.Test.YtoaejodpklhmjaaP5Sames
import Derived.Test.YtoaejodpklhmjaaP5More
namespace Go.Proofs.Ytoaejodpklhmjaa
open Go.ChangeShapes Go.WideShapes Go.ChangeAt Go.RowKit
set_option linter.unusedVariables false

theorem few_union (l : List Int) (x y : Int) : (unionR l x y).length ≤ 300 := by
  unfold unionR
  rcases union_cases l x y with ⟨e0, e1, _⟩ | ⟨e0, _⟩
  · rw [if_pos e0, union_len]; have := ((parB_iff l).1 e1).1; omega
  · rw [e0, if_neg (by decide)]; simp
theorem few_flat (l : List Int) : (flatR l).length ≤ 300 := by
  unfold flatR
  split
  · rename_i h; rw [flat_length]; have := ((parB_iff l).1 h).1; omega
  · simp
theorem few_join (l : List Int) (x y : Int) : (joinR l x y).length ≤ 300 := by
  unfold joinR
  rcases join_cases l x y with ⟨e0, e1, _⟩ | ⟨e0, _⟩
  · rw [if_pos e0, join_len]; have := ((partB_iff l).1 e1).1; omega
  · rw [e0, if_neg (by decide)]; simp
theorem few_members (l : List Int) (k : Int) : (membersR l k).length ≤ 300 := by
  unfold membersR
  split
  · rename_i h
    unfold askedB at h
    rw [Bool.and_eq_true] at h
    have := ((partB_iff l).1 h.1).1
    have := places_len l (l.getD k.toNat 0)
    omega
  · simp
theorem few_meet (l m : List Int) : (meetR l m).length ≤ 300 := by
  unfold meetR
  split
  · rename_i h; rw [meet_len]; have := ((partB_iff l).1 ((pair_iff l m).1 h).2.1).1; omega
  · simp

theorem implUnion5 {W : World} {B : Nat} {v : Value} {l : List Int} (h : Row5 W B v l) (x y : Int) : Calls Try.prog 11 #[v, .int .i64 x, .int .i64 y] W fun e w' => ∃ u : Value, e = .returned (.tuple #[u, .bool (unionOk l x y)]) ∧ Row5 w' W.heap.size u (unionR l x y) ∧ Below W.heap.size W w' := by
  have hl := h.2
  obtain ⟨a, c, rfl, hs, hz⟩ := h.sl
  exact (implUnion_any a _ c l x y W hs (by omega)).mono fun e w' ⟨u, h1, h2, h3⟩ => ⟨u, h1, ⟨h2, few_union l x y⟩, h3⟩
theorem specUnion5 {W : World} {B : Nat} {v : Value} {l : List Int} (h : Row5 W B v l) (x y : Int) : Calls Try.prog 12 #[v, .int .i64 x, .int .i64 y] W fun e w' => ∃ u : Value, e = .returned (.tuple #[u, .bool (unionOk l x y)]) ∧ Row5 w' W.heap.size u (unionR l x y) ∧ Below W.heap.size W w' := by
  have hl := h.2
  obtain ⟨a, c, rfl, hs, hz⟩ := h.sl
  exact (specUnion_any a _ c l x y W hs (by omega)).mono fun e w' ⟨u, h1, h2, h3⟩ => ⟨u, h1, ⟨h2, few_union l x y⟩, h3⟩
theorem implFlat5 {W : World} {B : Nat} {v : Value} {l : List Int} (h : Row5 W B v l) : Calls Try.prog 13 #[v] W fun e w' => ∃ u : Value, e = .returned (.tuple #[u, .bool (parB l)]) ∧ Row5 w' W.heap.size u (flatR l) ∧ Below W.heap.size W w' := by
  have hl := h.2
  obtain ⟨a, c, rfl, hs, hz⟩ := h.sl
  exact (implFlat_any a _ c l W hs (by omega) hz).mono fun e w' ⟨u, h1, h2, h3⟩ => ⟨u, h1, ⟨h2, few_flat l⟩, h3⟩
theorem specFlat5 {W : World} {B : Nat} {v : Value} {l : List Int} (h : Row5 W B v l) : Calls Try.prog 14 #[v] W fun e w' => ∃ u : Value, e = .returned (.tuple #[u, .bool (parB l)]) ∧ Row5 w' W.heap.size u (flatR l) ∧ Below W.heap.size W w' := by
  have hl := h.2
  obtain ⟨a, c, rfl, hs, hz⟩ := h.sl
  exact (specFlat_any a _ c l W hs (by omega)).mono fun e w' ⟨u, h1, h2, h3⟩ => ⟨u, h1, ⟨h2, few_flat l⟩, h3⟩
theorem implJoin5 {W : World} {B : Nat} {v : Value} {l : List Int} (h : Row5 W B v l) (x y : Int) : Calls Try.prog 18 #[v, .int .i64 x, .int .i64 y] W fun e w' => ∃ u : Value, e = .returned (.tuple #[u, .bool (joinOk l x y)]) ∧ Row5 w' W.heap.size u (joinR l x y) ∧ Below W.heap.size W w' := by
  have hl := h.2
  obtain ⟨a, c, rfl, hs, hz⟩ := h.sl
  exact (implJoin_any a _ c l x y W hs (by omega)).mono fun e w' ⟨u, h1, h2, h3⟩ => ⟨u, h1, ⟨h2, few_join l x y⟩, h3⟩
theorem specJoin5 {W : World} {B : Nat} {v : Value} {l : List Int} (h : Row5 W B v l) (x y : Int) : Calls Try.prog 29 #[v, .int .i64 x, .int .i64 y] W fun e w' => ∃ u : Value, e = .returned (.tuple #[u, .bool (joinOk l x y)]) ∧ Row5 w' W.heap.size u (joinR l x y) ∧ Below W.heap.size W w' := by
  have hl := h.2
  obtain ⟨a, c, rfl, hs, hz⟩ := h.sl
  exact (specJoin_any a _ c l x y W hs (by omega)).mono fun e w' ⟨u, h1, h2, h3⟩ => ⟨u, h1, ⟨h2, few_join l x y⟩, h3⟩
theorem implMembers5 {W : World} {B : Nat} {v : Value} {l : List Int} (h : Row5 W B v l) (x : Int) : Calls Try.prog 30 #[v, .int .i64 x] W fun e w' => ∃ u : Value, e = .returned (.tuple #[u, .bool (askedB l x)]) ∧ Row5 w' W.heap.size u (membersR l x) ∧ Below W.heap.size W w' := by
  have hl := h.2
  obtain ⟨a, c, rfl, hs, hz⟩ := h.sl
  exact (implMembers_any a _ c l x W hs (by omega)).mono fun e w' ⟨u, h1, h2, h3⟩ => ⟨u, h1, ⟨h2, few_members l x⟩, h3⟩
theorem specMembers5 {W : World} {B : Nat} {v : Value} {l : List Int} (h : Row5 W B v l) (x : Int) : Calls Try.prog 31 #[v, .int .i64 x] W fun e w' => ∃ u : Value, e = .returned (.tuple #[u, .bool (askedB l x)]) ∧ Row5 w' W.heap.size u (membersR l x) ∧ Below W.heap.size W w' := by
  have hl := h.2
  obtain ⟨a, c, rfl, hs, hz⟩ := h.sl
  exact (specMembers_any a _ c l x W hs (by omega)).mono fun e w' ⟨u, h1, h2, h3⟩ => ⟨u, h1, ⟨h2, few_members l x⟩, h3⟩
theorem implFind5 {W : World} {B : Nat} {v : Value} {l : List Int} (h : Row5 W B v l) (x : Int) : Calls Try.prog 19 #[v, .int .i64 x] W fun e w' => e = .returned (.tuple #[.int .i64 (findR l x), .int .i64 (findS l x), .bool (findOk l x)]) ∧ w' = W := by
  have hl := h.2
  obtain ⟨a, c, rfl, hs, hz⟩ := h.sl
  exact implFind_any a _ c l x W hs (by omega)
theorem specFind5 {W : World} {B : Nat} {v : Value} {l : List Int} (h : Row5 W B v l) (x : Int) : Calls Try.prog 22 #[v, .int .i64 x] W fun e w' => e = .returned (.tuple #[.int .i64 (findR l x), .int .i64 (findS l x), .bool (findOk l x)]) ∧ w' = W := by
  have hl := h.2
  obtain ⟨a, c, rfl, hs, hz⟩ := h.sl
  exact specFind_any a _ c l x W hs (by omega)
theorem implParents5 {W : World} {B : Nat} {v : Value} {l : List Int} (h : Row5 W B v l) : Calls Try.prog 16 #[v] W fun e w' => e = .returned (.bool (parB l)) ∧ w' = W := by
  have hl := h.2
  obtain ⟨a, c, rfl, hs, hz⟩ := h.sl
  exact implParents_any a _ c l W hs (by omega)
theorem specParents5 {W : World} {B : Nat} {v : Value} {l : List Int} (h : Row5 W B v l) : Calls Try.prog 17 #[v] W fun e w' => e = .returned (.bool (parB l)) ∧ w' = W := by
  have hl := h.2
  obtain ⟨a, c, rfl, hs, hz⟩ := h.sl
  exact specParents_any a _ c l W hs (by omega)
theorem implParts5 {W : World} {B : Nat} {v : Value} {l : List Int} (h : Row5 W B v l) : Calls Try.prog 20 #[v] W fun e w' => e = .returned (.bool (partB l)) ∧ w' = W := by
  have hl := h.2
  obtain ⟨a, c, rfl, hs, hz⟩ := h.sl
  exact implParts_any a _ c l W hs (by omega)
theorem specParts5 {W : World} {B : Nat} {v : Value} {l : List Int} (h : Row5 W B v l) : Calls Try.prog 26 #[v] W fun e w' => e = .returned (.bool (partB l)) ∧ w' = W := by
  have hl := h.2
  obtain ⟨a, c, rfl, hs, hz⟩ := h.sl
  exact specParts_any a _ c l W hs (by omega)
theorem implCount5 {W : World} {B : Nat} {v : Value} {l : List Int} (h : Row5 W B v l) : Calls Try.prog 32 #[v] W fun e w' => e = .returned (.tuple #[.int .i64 (countR l), .bool (partB l)]) ∧ Below W.heap.size W w' := by
  have hl := h.2
  obtain ⟨a, c, rfl, hs, hz⟩ := h.sl
  exact implCount2_any a _ c l W hs (by omega)
theorem specCount5 {W : World} {B : Nat} {v : Value} {l : List Int} (h : Row5 W B v l) : Calls Try.prog 38 #[v] W fun e w' => e = .returned (.tuple #[.int .i64 (countR l), .bool (partB l)]) ∧ w' = W := by
  have hl := h.2
  obtain ⟨a, c, rfl, hs, hz⟩ := h.sl
  exact specCount_any a _ c l W hs (by omega)
theorem implMeet5 {W : World} {B B' : Nat} {v u : Value} {l m : List Int} (h : Row5 W B v l) (h' : Row5 W B' u m) : Calls Try.prog 24 #[v, u] W fun e w' => ∃ z : Value, e = .returned (.tuple #[z, .bool (pairB l m)]) ∧ Row5 w' W.heap.size z (meetR l m) ∧ Below W.heap.size W w' := by
  have hl := h.2
  have hl' := h'.2
  obtain ⟨a, c, rfl, hs, hz⟩ := h.sl
  obtain ⟨a', c', rfl, hs', hz'⟩ := h'.sl
  exact (implMeet_any a _ c l a' _ c' m W hs hs' (by omega) (by omega)).mono fun e w' ⟨u, h1, h2, h3⟩ => ⟨u, h1, ⟨h2, few_meet l m⟩, h3⟩
theorem specMeet5 {W : World} {B B' : Nat} {v u : Value} {l m : List Int} (h : Row5 W B v l) (h' : Row5 W B' u m) : Calls Try.prog 25 #[v, u] W fun e w' => ∃ z : Value, e = .returned (.tuple #[z, .bool (pairB l m)]) ∧ Row5 w' W.heap.size z (meetR l m) ∧ Below W.heap.size W w' := by
  have hl := h.2
  have hl' := h'.2
  obtain ⟨a, c, rfl, hs, hz⟩ := h.sl
  obtain ⟨a', c', rfl, hs', hz'⟩ := h'.sl
  exact (specMeet_any a _ c l a' _ c' m W hs hs' (by omega) (by omega)).mono fun e w' ⟨u, h1, h2, h3⟩ => ⟨u, h1, ⟨h2, few_meet l m⟩, h3⟩
theorem implFiner5 {W : World} {B B' : Nat} {v u : Value} {l m : List Int} (h : Row5 W B v l) (h' : Row5 W B' u m) : Calls Try.prog 27 #[v, u] W fun e w' => e = .returned (.tuple #[.bool (finerR l m), .bool (pairB l m)]) ∧ Below W.heap.size W w' := by
  have hl := h.2
  have hl' := h'.2
  obtain ⟨a, c, rfl, hs, hz⟩ := h.sl
  obtain ⟨a', c', rfl, hs', hz'⟩ := h'.sl
  exact implFiner2_any a _ c l a' _ c' m W hs hs' (by omega) (by omega)
theorem specFiner5 {W : World} {B B' : Nat} {v u : Value} {l m : List Int} (h : Row5 W B v l) (h' : Row5 W B' u m) : Calls Try.prog 36 #[v, u] W fun e w' => e = .returned (.tuple #[.bool (finerR l m), .bool (pairB l m)]) ∧ Below W.heap.size W w' := by
  have hl := h.2
  have hl' := h'.2
  obtain ⟨a, c, rfl, hs, hz⟩ := h.sl
  obtain ⟨a', c', rfl, hs', hz'⟩ := h'.sl
  exact specFiner2_any a _ c l a' _ c' m W hs hs' (by omega) (by omega)
theorem same5 {W : World} {B B' : Nat} {v u : Value} {l : List Int} (h : Row5 W B v l) (h' : Row5 W B' u l) : Calls Try.prog 15 #[v, u] W fun e w' => e = .returned (.bool true) ∧ Below W.heap.size W w' := by
  have hl := h.2
  obtain ⟨a, c, rfl, hs, hz⟩ := h.sl
  obtain ⟨a', c', rfl, hs', hz'⟩ := h'.sl
  exact sameI_same a a' _ c c' l W hs hs' (by omega)
theorem has5 {W : World} {B : Nat} {v : Value} {l : List Int} (h : Row5 W B v l) {z : Int} (hz : z ∈ l) : Calls Try.prog 33 #[v, .int .i64 z] W fun e w' => e = .returned (.bool true) ∧ w' = W := by
  have hl := h.2
  obtain ⟨a, c, rfl, hs, _⟩ := h.sl
  exact hasI_any a _ c l z W hs (by omega) hz
theorem within5 {W : World} {B B' : Nat} {v u : Value} {l m : List Int} (h : Row5 W B v l) (h' : Row5 W B' u m) (hz : ∀ x ∈ l, x ∈ m) : Calls Try.prog 34 #[v, u] W fun e w' => e = .returned (.bool true) ∧ w' = W := by
  have hl := h.2
  have hl' := h'.2
  obtain ⟨a, c, rfl, hs, _⟩ := h.sl
  obtain ⟨a', c', rfl, hs', _⟩ := h'.sl
  exact within_any a _ c l a' _ c' m W hs hs' (by omega) (by omega) hz
end Go.Proofs.Ytoaejodpklhmjaa
