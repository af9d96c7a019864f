/-
  PROVED HERE: the sum of products of a term, plainly. No condition. a term's sum, where it has one, is good. No condition.
-/
import Derived.Test.YtpjgjpjfchfmlaaGreatDoorPolyMs
import Derived.Test.YtpjgjpjfchfmlaaGreatDoorParts
namespace Go.Proofs.YtpjgjpjfchfmlaaGreatDoor
open Go.RowKit
set_option linter.unusedVariables false

def zero4 : List Int := [0, 0, 0, 0]
def unit4 (v : Nat) : List Int := zero4.set v 1
/-- A number, a variable as sums. -/
def numP (n : Int) : List Mon := putP [] zero4 n
def varP (v : Nat) : List Mon := putP [] (unit4 v) 1
theorem numP_is (n : Int) : numP n = if n = 0 then [] else [(zero4, n)] := by
  unfold numP putP putO
  by_cases h : n = 0 <;> simp [h]
theorem varP_is (v : Nat) : varP v = [(unit4 v, 1)] := by
  unfold varP putP putO
  simp
theorem addE_zero (e : List Int) (h : e.length = 4) : addE e zero4 = e := by
  match e, h with
  | [a, b, c, d], _ => simp [addE, zero4]
/-- What a sum times a number has at some powers. -/
theorem mulC_num (n : Int) (e : List Int) : ∀ p : List Mon, (∀ m ∈ p, m.1.length = 4) → Like (mulC p (numP n) e) (n * coef p e)
  | [], _ => by show Like 0 (n * 0); rw [Int.mul_zero]; exact Like.refl _
  | a :: r, h => by
    rw [mulC_cons, coef_cons, Int.mul_add]
    refine Like.add ?_ (mulC_num n e r fun m hm => h m (List.mem_cons_of_mem _ hm))
    have ha := h a (List.mem_cons_self ..)
    rw [numP_is]
    by_cases hn : n = 0
    · rw [if_pos hn, hn, Int.zero_mul]
      show Like 0 0
      exact Like.refl _
    · rw [if_neg hn]
      show Like (coef [(addE a.1 zero4, wrap64 (a.2 * n))] e) _
      rw [addE_zero _ ha, coef_cons, coef_nil, Int.add_zero]
      by_cases he : a.1 = e
      · rw [if_pos he, if_pos he, Int.mul_comm n]
        exact like_wrap _
      · rw [if_neg he, if_neg he, Int.mul_zero]
        exact Like.refl _
theorem num_fine (n : Int) (hn : InI n) : ∀ m ∈ numP n, m.1.length = 4 ∧ InI m.2 := fun m hm => by
  rw [numP_is] at hm
  by_cases h : n = 0
  · rw [if_pos h] at hm; cases hm
  · rw [if_neg h] at hm
    rcases List.mem_singleton.1 hm with rfl
    exact ⟨rfl, hn⟩
theorem times_same {s p : List Mon} {n : Int} (hs : Sum4 s) (hp : ∀ m ∈ p, m.1.length = 4) (hn : InI n) (h : ∀ e, Like (coef s e) (n * coef p e)) : s = mulP p (numP n) := by
  obtain ⟨a1, -, a3⟩ := mulP_ok hp (fun m hm => (num_fine n hn m hm).1)
  exact sum_unique hs a1 fun e => (h e).trans ((a3 e).trans (mulC_num n e p hp)).symm
theorem sub_same {s p q : List Mon} (hs : Sum4 s) (hp : ∀ m ∈ p, m.1.length = 4 ∧ InI m.2) (hq : ∀ m ∈ q, m.1.length = 4) (h : ∀ e, Like (coef s e) (coef p e + -1 * coef q e)) : s = addP p (mulP q (numP (-1))) := by
  have hn : InI (-1) := by unfold InI; omega
  obtain ⟨b1, -, b3⟩ := mulP_ok hq (fun m hm => (num_fine (-1) hn m hm).1)
  obtain ⟨a1, -, a3⟩ := addP_ok hp (fun m hm => ⟨(b1.2 m hm).1, (b1.2 m hm).2.1⟩)
  exact sum_unique hs a1 fun e => (h e).trans ((a3 e).trans ((Like.refl _).add ((b3 e).trans (mulC_num (-1) e q hq)))).symm
/-- What a shift multiplies by. -/
def shlN (n : Int) : Int := wrap64 (2 ^ (n % 64).toNat)
def okP (s : List Mon) : Option (List Mon) := if polyB s = true then some s else none
def twoP (op : Int) (p q : List Mon) : List Mon := if op = 4 then addP p q else if op = 5 then addP p (mulP q (numP (-1))) else mulP p q
/-- The sum of the tree of node k (with so much fuel); none: it is too great. -/
def ofF (l : List (Int × Int)) : Nat → Nat → Option (List Mon)
  | 0, _ => none
  | f + 1, k =>
    if (l.getD k (0, 0)).1 = 1 then some (numP (l.getD k (0, 0)).2)
    else if (l.getD k (0, 0)).1 = 2 then some (varP (l.getD k (0, 0)).2.toNat)
    else match ofF l f ((roots l (ar (l.getD k (0, 0)).1).toNat k).getD 0 0) with
      | none => none
      | some p =>
        if (l.getD k (0, 0)).1 = 3 then okP (mulP p (numP (-1)))
        else if (l.getD k (0, 0)).1 = 7 then okP (mulP p (numP (shlN (l.getD (k - 1) (0, 0)).2)))
        else match ofF l f ((roots l (ar (l.getD k (0, 0)).1).toNat k).getD 1 0) with
          | none => none
          | some q => okP (twoP (l.getD k (0, 0)).1 p q)
theorem okP_some {s p : List Mon} (h : okP s = some p) : p = s ∧ polyB s = true := by
  unfold okP at h
  by_cases h0 : polyB s = true
  · rw [if_pos h0] at h; exact ⟨(Option.some.inj h).symm, h0⟩
  · rw [if_neg h0] at h; cases h
theorem num_good (n : Int) : polyB (numP n) = true := by
  rw [numP_is]
  by_cases h : n = 0
  · rw [if_pos h]; rfl
  · rw [if_neg h]
    simp [polyB, gpF, fitM, powB, allB, zero4, h]
theorem var_good (v : Nat) (hv : v < 4) : polyB (varP v) = true := by
  rw [varP_is]
  match v, hv with
  | 0, _ => decide
  | 1, _ => decide
  | 2, _ => decide
  | 3, _ => decide
end Go.Proofs.YtpjgjpjfchfmlaaGreatDoor
namespace Go.Proofs.YtpjgjpjfchfmlaaGreatDoor
open Go.RowKit
set_option linter.unusedVariables false

/-- A sum that is good. -/
def GoodS (p : List Mon) : Prop := polyB p = true ∧ ∀ x ∈ p, InI x.2
theorem GoodS.fine {p : List Mon} (h : GoodS p) : ∀ m ∈ p, m.1.length = 4 ∧ InI m.2 := fine_of h.1 h.2
theorem GoodS.len {p : List Mon} (h : GoodS p) : ∀ m ∈ p, m.1.length = 4 := fun m hm => (h.fine m hm).1
theorem num_GoodS {n : Int} (h : InI n) : GoodS (numP n) := ⟨num_good n, fun x hx => (num_fine n h x hx).2⟩
theorem var_GoodS {v : Nat} (h : v < 4) : GoodS (varP v) := ⟨var_good v h, fun x hx => by
  rw [varP_is] at hx
  rcases List.mem_singleton.1 hx with rfl
  show InI 1
  unfold InI; omega⟩
theorem times_GoodS {p s : List Mon} {n : Int} (hp : GoodS p) (hn : InI n) (h : okP (mulP p (numP n)) = some s) : GoodS s := by
  obtain ⟨rfl, h1⟩ := okP_some h
  exact ⟨h1, fun x hx => ((mulP_ok hp.len (fun m hm => (num_fine n hn m hm).1)).1.2 x hx).2.1⟩
theorem two_GoodS {op : Int} {p q s : List Mon} (hp : GoodS p) (hq : GoodS q) (h : okP (twoP op p q) = some s) : GoodS s := by
  obtain ⟨rfl, h1⟩ := okP_some h
  refine ⟨h1, ?_⟩
  have hn : InI (-1) := by unfold InI; omega
  unfold twoP
  by_cases h4 : op = 4
  · rw [if_pos h4]
    exact fun x hx => ((addP_ok hp.fine hq.fine).1.2 x hx).2.1
  · rw [if_neg h4]
    by_cases h5 : op = 5
    · rw [if_pos h5]
      have hm := (mulP_ok hq.len (fun m hm => (num_fine (-1) hn m hm).1)).1
      exact fun x hx => ((addP_ok hp.fine (fun m hm' => ⟨(hm.2 m hm').1, (hm.2 m hm').2.1⟩)).1.2 x hx).2.1
    · rw [if_neg h5]
      exact fun x hx => ((mulP_ok hp.len hq.len).1.2 x hx).2.1
theorem ofF_good {l : List (Int × Int)} (hn : ∀ k, (l.getD k (0, 0)).1 = 1 → InI (l.getD k (0, 0)).2) (hv : ∀ k, (l.getD k (0, 0)).1 = 2 → (l.getD k (0, 0)).2.toNat < 4) : ∀ (f k : Nat) (p : List Mon), ofF l f k = some p → GoodS p
  | 0, _, _, h => by cases h
  | f + 1, k, p, h => by
    have ih := fun k p => ofF_good hn hv f k p
    unfold ofF at h
    by_cases h1 : (l.getD k (0, 0)).1 = 1
    · rw [if_pos h1] at h
      cases h
      exact num_GoodS (hn k h1)
    · rw [if_neg h1] at h
      by_cases h2 : (l.getD k (0, 0)).1 = 2
      · rw [if_pos h2] at h
        cases h
        exact var_GoodS (hv k h2)
      · rw [if_neg h2] at h
        cases h0 : ofF l f ((roots l (ar (l.getD k (0, 0)).1).toNat k).getD 0 0) with
        | none => rw [h0] at h; cases h
        | some p0 =>
          rw [h0] at h
          have g0 := ih _ _ h0
          simp only at h
          by_cases h3 : (l.getD k (0, 0)).1 = 3
          · rw [if_pos h3] at h
            exact times_GoodS g0 (by unfold InI; omega) h
          · rw [if_neg h3] at h
            by_cases h7 : (l.getD k (0, 0)).1 = 7
            · rw [if_pos h7] at h
              exact times_GoodS g0 (wrap_in _) h
            · rw [if_neg h7] at h
              cases h9 : ofF l f ((roots l (ar (l.getD k (0, 0)).1).toNat k).getD 1 0) with
              | none => rw [h9] at h; cases h
              | some q0 =>
                rw [h9] at h
                exact two_GoodS g0 (ih _ _ h9) h
end Go.Proofs.YtpjgjpjfchfmlaaGreatDoor
