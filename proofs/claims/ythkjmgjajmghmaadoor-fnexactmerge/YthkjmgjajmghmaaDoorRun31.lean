/-
  PROVED HERE: what is left to do for a closing, read out of memory. No condition. the least joining that is closed, as a function of lists. No condition.
-/
import Derived.Test.YthkjmgjajmghmaaDoorC6Join
import Derived.Test.YthkjmgjajmghmaaDoorRun30
namespace Go.Proofs.YthkjmgjajmghmaaDoor
open Go.ChangeShapes Go.WideShapes Go.ChangeAt Go.RowKit
open Go.MapKept Go.ChangeMaps
set_option linter.unusedVariables false

def lenV6 : Value → Nat
  | .slice _ n _ => n
  | _ => 0
def cellV (w : World) (b j : Nat) : Value := (w.cell? ⟨b, j, none⟩).getD (.int .i64 0)
def blkV : Value → Nat
  | .slice (some a) _ _ => a.block
  | _ => 0
/-- What is left to do, read out of memory. -/
def leftM (w : World) (C n : Nat) : Nat := lenV6 (cellV w C 4) + rootsN (readL w (cellV w C 1) n) n * sumN (fun y => if (readL w (cellV w C 1) n).getD y 0 = y then lenV6 (cellV w (blkV (cellV w C 2)) y) else 0) n
theorem len_row {w : World} {base e size n : Nat} {v : Value} {xs : List Value} (h : w.ownsRow base e size v n xs) : lenV6 v = n := by
  obtain ⟨a, c, rfl, _⟩ := row_slice h
  rfl
theorem leftM_of {w : World} {lo : Nat} {T : Nat → Nat} {n C bu bf : Nat} {na vp vd : Value} {V : Nat → Value} {l : List Int} {U : Nat → List Int} {F : Sh → Option Int} {D : List (Int × Int)} (h : Clo w lo T n C bu bf na vp vd V l U F D) : leftM w C n = leftN l U n D.length := by
  have e4 : cellV w C 4 = vd := by unfold cellV; rw [h.c4]; rfl
  have e1 : cellV w C 1 = vp := by unfold cellV; rw [h.c1]; rfl
  have e2 : blkV (cellV w C 2) = bu := by unfold cellV; rw [h.c2]; rfl
  unfold leftM leftN
  rw [e4, e1, e2, len_row h.rd]
  rcases Nat.eq_zero_or_pos n with h0 | h0
  · subst h0
    rfl
  · obtain ⟨ap, cp, rfl, hs⟩ := Sl.vals h.rp
    rw [readL_of hs h0]
    unfold totN
    congr 2
    refine sumN_congr fun y hy => ?_
    try simp only
    have : cellV w bu y = V y := by unfold cellV; rw [(h.cu y hy).1]; rfl
    rw [this, len_row (h.ru y hy)]
/-- A root there is, and its users are no more than what is left. -/
theorem users_few {n : Nat} {l : List Int} (hP : PartsN n l) (U : Nat → List Int) {i j : Nat} (hi : i < n) (hj : j < n) (hne : l.getD i 0 ≠ l.getD j 0) (d : Nat) : ∀ g : Nat, g < n → l.getD g 0 = g → (U g).length + d ≤ leftN l U n d := by
  intro g hg hr
  have h1 := meas_roots hP hi hj hne
  have h2 := sumN_ge (f := fun x => if l.getD x 0 = x then (U x).length else 0) hg
  try simp only at h2
  rw [if_pos hr] at h2
  unfold leftN
  have h3 : totN l U n ≤ rootsN l n * totN l U n := Nat.le_mul_of_pos_left _ (by omega)
  have h4 : (U g).length ≤ totN l U n := h2
  omega
theorem snoc_cases {α : Type} (D : List α) : D = [] ∨ ∃ D0 x, D = D0 ++ [x] := by
  rcases List.eq_nil_or_concat D with h | ⟨D0, x, h⟩
  · exact .inl h
  · exact .inr ⟨D0, x, by simpa using h⟩
end Go.Proofs.YthkjmgjajmghmaaDoor
namespace Go.Proofs.YthkjmgjajmghmaaDoor
open Go.ChangeShapes Go.WideShapes Go.ChangeAt Go.RowKit
set_option linter.unusedVariables false

def pairsN (n : Nat) : List (Nat × Nat) := (List.range n).flatMap fun k => (List.range k).map fun i => (i, k)
theorem pairsN_mem (n i k : Nat) : (i, k) ∈ pairsN n ↔ i < k ∧ k < n := by
  unfold pairsN
  simp only [List.mem_flatMap, List.mem_range, List.mem_map, Prod.mk.injEq]
  constructor
  · rintro ⟨k', h1, i', h2, rfl, rfl⟩; exact ⟨h2, h1⟩
  · rintro ⟨h1, h2⟩; exact ⟨k, h2, i, h1, rfl, rfl⟩
def closeF (p : List EN) : Nat → List Int → List Int
  | 0, l => l
  | m + 1, l => match (pairsN p.length).find? (fun x => CongR p l x.1 x.2) with
    | some x => closeF p m (joinPL l x.1 x.2)
    | none => l
def closeL (p : List EN) (l : List Int) : List Int := closeF p (rootsN l p.length) l
theorem closeF_ok {p : List EN} {l0 : List Int} (hN : nodesB p = true) (hl0 : l0.length = p.length) : ∀ (m : Nat) (l : List Int), Toward p l0 l → rootsN l p.length ≤ m → Closure p l0 (closeF p m l) := by
  intro m
  induction m with
  | zero =>
    intro l hT hm
    refine toward_end hT (cong_all fun i j hij hj e => ?_)
    by_cases h : l.getD i 0 = l.getD j 0
    · exact h
    · have := meas_roots hT.1 (show i < p.length by omega) hj h
      omega
  | succ m ih =>
    intro l hT hm
    unfold closeF
    cases hf : (pairsN p.length).find? (fun x => CongR p l x.1 x.2) with
    | some x =>
      obtain ⟨i, k⟩ := x
      have hmem := List.mem_of_find?_eq_some hf
      have hR := List.find?_some hf
      obtain ⟨h1, h2⟩ := (pairsN_mem p.length i k).1 hmem
      simp only at hR
      unfold CongR at hR
      obtain ⟨h3, h4⟩ := of_decide_eq_true hR
      have := meas_roots hT.1 (show i < p.length by omega) h2 h3
      exact ih _ (toward_join hN hl0 hT (by omega) h2 h4) (by simp only; omega)
    | none =>
      refine toward_end hT (cong_all fun i j hij hj e => ?_)
      have := List.find?_eq_none.1 hf (i, j) ((pairsN_mem p.length i j).2 ⟨hij, hj⟩)
      simp only at this
      unfold CongR at this
      by_cases h : l.getD i 0 = l.getD j 0
      · exact h
      · exact absurd (decide_eq_true ⟨h, e⟩) this
theorem close_is {p : List EN} {l0 c : List Int} (hN : nodesB p = true) (hP0 : PartsN p.length l0) (hc : Closure p l0 c) : c = closeL p l0 :=
  closure_one hc (closeF_ok hN hP0.1 _ l0 (toward_start hP0) (Nat.le_refl _))
theorem close_parts {p : List EN} {l0 : List Int} (hN : nodesB p = true) (hP0 : PartsN p.length l0) : Closure p l0 (closeL p l0) := closeF_ok hN hP0.1 _ l0 (toward_start hP0) (Nat.le_refl _)
theorem specClose_any {p : List EN} {l0 : List Int} (hN : nodesB p = true) (hP0 : PartsN p.length l0) (a b : Option Addr) (n cap cb : Nat) (w : World) (hE : ESl w a n p) (hS : Sl w b n l0) :
    Calls Tryd.prog 33 #[.slice a n cap, .slice b n cb] w fun e w' => ∃ (v : Option Addr) (c : Nat), e = .returned (.slice v n c) ∧ Sl w' v n (closeL p l0) ∧ Below w.heap.size w w' := by
  refine (l6Closed_any hN hP0 a b n cap cb w hE hS).mono ?_
  rintro e w' ⟨v, c, L, h1, h2, h3, h4⟩
  rw [close_is hN hP0 h3] at h2
  exact ⟨v, c, h1, h2, h4⟩
end Go.Proofs.YthkjmgjajmghmaaDoor
