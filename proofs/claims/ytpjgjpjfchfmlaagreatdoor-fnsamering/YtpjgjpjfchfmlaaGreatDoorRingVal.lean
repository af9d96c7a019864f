/-
  PROVED HERE: plain facts on what sums of products come to: the value of a sum, of a product, is the sum, the product, of the values, to 64 bits. No condition. a term of sums and products comes to what its sum of products does, and does not trap, plainly. No condition.
-/
import Derived.Test.YtpjgjpjfchfmlaaGreatDoorPolyRows
import Derived.Test.YtpjgjpjfchfmlaaGreatDoorPolyEvals
import Derived.Test.YtpjgjpjfchfmlaaGreatDoorRingMs
import Derived.Test.YtpjgjpjfchfmlaaGreatDoorDefsAll
namespace Go.Proofs.YtpjgjpjfchfmlaaGreatDoor
open Go.RowKit
set_option linter.unusedVariables false

/-- The value of powers, unwrapped. -/
def mm : List Int → List Int → Int
  | n :: r, v :: env => v ^ n.toNat * mm r env
  | _, _ => 1
/-- The value of a sum, unwrapped. -/
def VV (env : List Int) (p : List Mon) : Int := (p.map fun m => m.2 * mm m.1 env).sum
theorem VV_nil (env : List Int) : VV env [] = 0 := rfl
theorem VV_cons (env : List Int) (m : Mon) (p : List Mon) : VV env (m :: p) = m.2 * mm m.1 env + VV env p := by simp [VV]
theorem VV_append (env : List Int) (p q : List Mon) : VV env (p ++ q) = VV env p + VV env q := by simp [VV]
theorem pw_like (v : Int) : ∀ n, Like (pw v n) (v ^ n)
  | 0 => by unfold pw; rw [Int.pow_zero]; exact Like.refl _
  | n + 1 => by
    unfold pw
    rw [Int.pow_succ]
    exact (like_wrap _).trans (Like.mul (pw_like v n) (Like.refl _))
theorem mon_like : ∀ (e env : List Int) (x y : Int), Like x y → Like (monF x e env) (y * mm e env)
  | [], env, x, y, h => by cases env <;> (unfold monF mm; rw [Int.mul_one]; exact h)
  | n :: r, [], x, y, h => by unfold monF mm; rw [Int.mul_one]; exact h
  | n :: r, v :: env, x, y, h => by
    unfold monF mm
    have := mon_like r env (wrap64 (x * pw v n.toNat)) (y * v ^ n.toNat) ((like_wrap _).trans (Like.mul h (pw_like v _)))
    rwa [Int.mul_assoc] at this
theorem sum_like (env : List Int) : ∀ (p : List Mon) (s t : Int), Like s t → Like (sumF env s p) (t + VV env p)
  | [], s, t, h => by unfold sumF; rw [VV_nil, Int.add_zero]; exact h
  | m :: r, s, t, h => by
    unfold sumF
    have := sum_like env r (wrap64 (s + monF m.2 m.1 env)) (t + m.2 * mm m.1 env) ((like_wrap _).trans (Like.add h (mon_like m.1 env m.2 m.2 (Like.refl _))))
    rwa [VV_cons, ← Int.add_assoc]
theorem sumF_in (env : List Int) : ∀ (p : List Mon) (s : Int), InI s → InI (sumF env s p)
  | [], s, h => h
  | m :: r, s, h => by unfold sumF; exact sumF_in env r _ (wrap_in _)
/-- What a good sum comes to. -/
theorem eval_is {p : List Mon} {env : List Int} (h : polyB p = true) (he : env.length = 4) : evalPok p env = true ∧ evalPV p env = wrap64 (VV env p) := by
  have hok : evalPok p env = true := by unfold evalPok; rw [h, decide_eq_true he]; rfl
  refine ⟨hok, ?_⟩
  unfold evalPV
  rw [if_pos hok]
  have h1 := sum_like env p 0 0 (Like.refl _)
  rw [Int.zero_add] at h1
  exact Like.eq (sumF_in env p 0 (by unfold InI; omega)) (wrap_in _) (h1.trans (like_wrap _).symm)

/-- Lists of powers, each once. -/
def ones : List (List Int) → List (List Int)
  | [] => []
  | e :: r => if e ∈ ones r then ones r else e :: ones r
theorem ones_mem : ∀ (l : List (List Int)) (e : List Int), e ∈ ones l ↔ e ∈ l
  | [], e => by simp [ones]
  | a :: r, e => by
    unfold ones
    by_cases h : a ∈ ones r
    · rw [if_pos h, ones_mem r e]
      constructor
      · exact fun x => List.mem_cons_of_mem _ x
      · intro x
        rcases List.mem_cons.1 x with rfl | x
        · exact (ones_mem r _).1 h
        · exact x
    · rw [if_neg h, List.mem_cons, List.mem_cons, ones_mem r e]
theorem ones_nodup : ∀ l : List (List Int), (ones l).Nodup
  | [] => List.nodup_nil
  | a :: r => by
    unfold ones
    by_cases h : a ∈ ones r
    · rw [if_pos h]; exact ones_nodup r
    · rw [if_neg h]; exact List.nodup_cons.2 ⟨h, ones_nodup r⟩
/-- The value by powers. -/
def TT (env : List Int) (S : List (List Int)) (p : List Mon) : Int := (S.map fun e => coef p e * mm e env).sum
theorem single (env : List Int) (a : List Int) (n : Int) : ∀ S : List (List Int), S.Nodup → (S.map fun e => (if a = e then n else 0) * mm e env).sum = if a ∈ S then n * mm a env else 0
  | [], _ => by simp
  | e :: r, h => by
    obtain ⟨h1, h2⟩ := List.nodup_cons.1 h
    rw [List.map_cons, List.sum_cons, single env a n r h2]
    by_cases ha : a = e
    · subst ha
      rw [if_pos rfl, if_neg h1, if_pos (List.mem_cons_self ..), Int.add_zero]
    · rw [if_neg ha, Int.zero_mul, Int.zero_add]
      by_cases hr : a ∈ r
      · rw [if_pos hr, if_pos (List.mem_cons_of_mem _ hr)]
      · rw [if_neg hr, if_neg (fun x => by rcases List.mem_cons.1 x with x | x; exact ha x; exact hr x)]
theorem sum_add {α : Type} (f g : α → Int) : ∀ S : List α, (S.map fun e => f e + g e).sum = (S.map f).sum + (S.map g).sum
  | [] => rfl
  | e :: r => by simp only [List.map_cons, List.sum_cons]; rw [sum_add f g r]; omega
theorem zero_sum : ∀ S : List (List Int), (S.map fun _ => (0 : Int)).sum = 0
  | [] => rfl
  | e :: r => by rw [List.map_cons, List.sum_cons, zero_sum r, Int.add_zero]
theorem TT_is (env : List Int) (S : List (List Int)) (hS : S.Nodup) : ∀ p : List Mon, (∀ m ∈ p, m.1 ∈ S) → TT env S p = VV env p
  | [], _ => by
    unfold TT
    rw [VV_nil]
    have : (fun e => coef [] e * mm e env) = fun _ => 0 := by funext e; rw [coef_nil, Int.zero_mul]
    rw [this]
    exact zero_sum S
  | m :: p, h => by
    have ih := TT_is env S hS p (fun x hx => h x (List.mem_cons_of_mem _ hx))
    unfold TT at ih ⊢
    have e : (fun e => coef (m :: p) e * mm e env) = fun e => (if m.1 = e then m.2 else 0) * mm e env + coef p e * mm e env := by
      funext e; rw [coef_cons, Int.add_mul]
    rw [e, sum_add, single env m.1 m.2 S hS, if_pos (h m (List.mem_cons_self ..)), ih, VV_cons]
theorem TT_like (env : List Int) {p q : List Mon} (h : ∀ e, Like (coef p e) (coef q e)) : ∀ S, Like (TT env S p) (TT env S q)
  | [] => Like.refl _
  | e :: r => by
    unfold TT
    rw [List.map_cons, List.sum_cons, List.map_cons, List.sum_cons]
    exact Like.add (Like.mul (h e) (Like.refl _)) (TT_like env h r)
/-- Sums with like coefficients come to the same. -/
theorem VV_like (env : List Int) {p q : List Mon} (h : ∀ e, Like (coef p e) (coef q e)) : Like (VV env p) (VV env q) := by
  have hS := ones_nodup ((p ++ q).map Prod.fst)
  have h1 := TT_is env _ hS p (fun m hm => (ones_mem _ _).2 (List.mem_map_of_mem (List.mem_append_left _ hm)))
  have h2 := TT_is env _ hS q (fun m hm => (ones_mem _ _).2 (List.mem_map_of_mem (List.mem_append_right _ hm)))
  rw [← h1, ← h2]
  exact TT_like env h _
theorem add_value (env : List Int) {p q : List Mon} (hp : ∀ m ∈ p, m.1.length = 4 ∧ InI m.2) (hq : ∀ m ∈ q, m.1.length = 4 ∧ InI m.2) : Like (VV env (addP p q)) (VV env p + VV env q) := by
  rw [← VV_append]
  exact VV_like env fun e => by rw [coef_append]; exact (addP_ok hp hq).2.2 e
/-- The products of a product and a sum. -/
def allL (p q : List Mon) : List Mon := p.flatMap fun a => mulL a q
theorem all_coef (q : List Mon) (e : List Int) : ∀ p : List Mon, coef (allL p q) e = mulC p q e
  | [] => rfl
  | a :: r => by
    unfold allL
    rw [List.flatMap_cons, coef_append, mulC_cons]
    have := all_coef q e r
    unfold allL at this
    rw [this]
theorem mm_add : ∀ (a b env : List Int), a.length = b.length → (∀ x ∈ a, 0 ≤ x) → (∀ x ∈ b, 0 ≤ x) → mm (addE a b) env = mm a env * mm b env
  | [], [], env, _, _, _ => by cases env <;> simp [addE, mm]
  | x :: a, y :: b, [], h, ha, hb => by simp [addE, mm]
  | x :: a, y :: b, v :: env, h, ha, hb => by
    have h0 := ha x (List.mem_cons_self ..)
    have h1 := hb y (List.mem_cons_self ..)
    have ih := mm_add a b env (by simpa using h) (fun z hz => ha z (List.mem_cons_of_mem _ hz)) (fun z hz => hb z (List.mem_cons_of_mem _ hz))
    show v ^ (x + y).toNat * mm (addE a b) env = v ^ x.toNat * mm a env * (v ^ y.toNat * mm b env)
    rw [ih, Int.toNat_add h0 h1, Int.pow_add]
    generalize v ^ x.toNat = p; generalize v ^ y.toNat = q; generalize mm a env = r; generalize mm b env = s
    rw [Int.mul_assoc, Int.mul_assoc, ← Int.mul_assoc q r s, Int.mul_comm q r, Int.mul_assoc r q s]
theorem mulL_value (env : List Int) (a : Mon) (h4 : a.1.length = 4) (ha : ∀ x ∈ a.1, 0 ≤ x) : ∀ q : List Mon, (∀ m ∈ q, m.1.length = 4 ∧ ∀ x ∈ m.1, 0 ≤ x) → Like (VV env (mulL a q)) (a.2 * mm a.1 env * VV env q)
  | [], _ => by show Like 0 (_ * 0); rw [Int.mul_zero]; exact Like.refl _
  | m :: q, h => by
    have ih := mulL_value env a h4 ha q (fun x hx => h x (List.mem_cons_of_mem _ hx))
    obtain ⟨k4, k0⟩ := h m (List.mem_cons_self ..)
    have e : mulL a (m :: q) = (addE a.1 m.1, wrap64 (a.2 * m.2)) :: mulL a q := rfl
    rw [e, VV_cons, VV_cons, Int.mul_add]
    refine Like.add ?_ ih
    show Like (wrap64 (a.2 * m.2) * mm (addE a.1 m.1) env) _
    rw [mm_add _ _ env (by omega) ha k0]
    refine (Like.mul (like_wrap _) (Like.refl _)).trans ?_
    have : a.2 * m.2 * (mm a.1 env * mm m.1 env) = a.2 * mm a.1 env * (m.2 * mm m.1 env) := by
      generalize a.2 = p; generalize m.2 = q; generalize mm a.1 env = r; generalize mm m.1 env = s
      rw [Int.mul_assoc, Int.mul_assoc, ← Int.mul_assoc q r s, Int.mul_comm q r, Int.mul_assoc r q s]
    rw [this]
    exact Like.refl _
theorem allL_value (env : List Int) (q : List Mon) (hq : ∀ m ∈ q, m.1.length = 4 ∧ ∀ x ∈ m.1, 0 ≤ x) : ∀ p : List Mon, (∀ m ∈ p, m.1.length = 4 ∧ ∀ x ∈ m.1, 0 ≤ x) → Like (VV env (allL p q)) (VV env p * VV env q)
  | [], _ => by show Like 0 (0 * _); rw [Int.zero_mul]; exact Like.refl _
  | a :: p, h => by
    have ih := allL_value env q hq p (fun x hx => h x (List.mem_cons_of_mem _ hx))
    obtain ⟨k4, k0⟩ := h a (List.mem_cons_self ..)
    unfold allL at ih ⊢
    rw [List.flatMap_cons, VV_append, VV_cons, Int.add_mul]
    exact Like.add (mulL_value env a k4 k0 q hq) ih
theorem mul_value (env : List Int) {p q : List Mon} (hp : ∀ m ∈ p, m.1.length = 4 ∧ ∀ x ∈ m.1, 0 ≤ x) (hq : ∀ m ∈ q, m.1.length = 4 ∧ ∀ x ∈ m.1, 0 ≤ x) : Like (VV env (mulP p q)) (VV env p * VV env q) := by
  refine Like.trans (VV_like env fun e => ?_) (allL_value env q hq p hp)
  rw [all_coef]
  exact (mulP_ok (fun m hm => (hp m hm).1) (fun m hm => (hq m hm).1)).2.2 e
theorem add_comm' {p q : List Mon} (hp : ∀ m ∈ p, m.1.length = 4 ∧ InI m.2) (hq : ∀ m ∈ q, m.1.length = 4 ∧ InI m.2) : addP p q = addP q p := by
  obtain ⟨a1, _, a3⟩ := addP_ok hp hq
  obtain ⟨b1, _, b3⟩ := addP_ok hq hp
  exact sum_unique a1 b1 fun e => (a3 e).trans (by rw [Int.add_comm]; exact (b3 e).symm)
theorem pow_nonneg {p : List Mon} (h : polyB p = true) : ∀ m ∈ p, m.1.length = 4 ∧ ∀ x ∈ m.1, 0 ≤ x := fun m hm => by
  have h1 := (polyB_all h m hm).1
  refine ⟨pow_len h1, fun x hx => ?_⟩
  unfold powB allB at h1
  rw [Bool.and_eq_true, List.all_eq_true] at h1
  have := h1.2 x hx
  rw [Bool.and_eq_true] at this
  exact of_decide_eq_true this.1
end Go.Proofs.YtpjgjpjfchfmlaaGreatDoor
namespace Go.Proofs.YtpjgjpjfchfmlaaGreatDoor
open Go.RowKit
set_option linter.unusedVariables false

theorem four_list {env : List Int} (h : env.length = 4) : ∃ a b c d, env = [a, b, c, d] := by
  match env, h with
  | [a, b, c, d], _ => exact ⟨a, b, c, d, rfl⟩
theorem mm_zero {env : List Int} (h : env.length = 4) : mm zero4 env = 1 := by
  obtain ⟨a, b, c, d, rfl⟩ := four_list h
  simp [mm, zero4]
theorem pow_1 (a : Int) : a ^ 1 = a := by rw [Int.pow_succ, Int.pow_zero, Int.one_mul]
theorem mm_unit {env : List Int} (h : env.length = 4) (v : Nat) (hv : v < 4) : mm (unit4 v) env = env.getD v 0 := by
  obtain ⟨a, b, c, d, rfl⟩ := four_list h
  match v, hv with
  | 0, _ => simp [mm, unit4, zero4, pow_1]
  | 1, _ => simp [mm, unit4, zero4, pow_1]
  | 2, _ => simp [mm, unit4, zero4, pow_1]
  | 3, _ => simp [mm, unit4, zero4, pow_1]
theorem VV_num {env : List Int} (h : env.length = 4) (n : Int) : VV env (numP n) = n := by
  rw [numP_is]
  by_cases e : n = 0
  · rw [if_pos e, VV_nil, e]
  · rw [if_neg e, VV_cons, VV_nil, Int.add_zero, mm_zero h, Int.mul_one]
theorem VV_var {env : List Int} (h : env.length = 4) (v : Nat) (hv : v < 4) : VV env (varP v) = env.getD v 0 := by
  rw [varP_is, VV_cons, VV_nil, Int.add_zero, mm_unit h v hv, Int.one_mul]
theorem num_pow (n : Int) : ∀ m ∈ numP n, m.1.length = 4 ∧ ∀ x ∈ m.1, 0 ≤ x := pow_nonneg (num_good n)
theorem VV_times {env : List Int} (h : env.length = 4) {p : List Mon} (hp : polyB p = true) (n : Int) : Like (VV env (mulP p (numP n))) (VV env p * n) := by
  have := mul_value env (pow_nonneg hp) (num_pow n)
  rwa [VV_num h] at this
theorem Like.sub {x y u v : Int} (h : Like x y) (h' : Like u v) : Like (x - u) (y - v) := by unfold Like at *; omega
theorem list_one {R : List Nat} (h : R.length = 1) : R = [R.getD 0 0] := by
  match R, h with
  | [a], _ => rfl
theorem list_two {R : List Nat} (h : R.length = 2) : R = [R.getD 0 0, R.getD 1 0] := by
  match R, h with
  | [a, b], _ => rfl
theorem seq_one {g : Nat → Option Int} {r : Nat} {x : Int} (h : g r = some x) : seqO g [r] = some [x] := by simp [seqO, h]
theorem seq_two {g : Nat → Option Int} {r s : Nat} {x y : Int} (h : g r = some x) (h' : g s = some y) : seqO g [r, s] = some [x, y] := by simp [seqO, h, h']

theorem ring_value {l : List (Int × Int)} {q : Int} (h : pile l 0 = some q) (hr : ringB l = true) (hI : ∀ k, InI (l.getD k (0, 0)).2) {env : List Int} (he : env.length = 4) (hE : ∀ y ∈ env, InI y) : ∀ (f k : Nat) (s : List Mon), k < l.length → k < f → ofF l f k = some s → ∃ x, evalF l env f k = some x ∧ InI x ∧ Like x (VV env s)
  | 0, k, s, _, hf, _ => by omega
  | f + 1, k, s, hk, hf, hs => by
    have good := fun k p => ofF_good (fun k _ => hI k) (vars4 h) f k p
    have hro := ring_ops hr hk
    obtain ⟨h1, h2⟩ := cnt_step h k hk
    obtain ⟨a1, a2, a3, _⟩ := fits_iff _ _ _ _ h1
    have hop7 := (good_ops h k hk)
    by_cases h01 : (l.getD k (0, 0)).1 = 1
    · have e : ofF l (f + 1) k = some (numP (l.getD k (0, 0)).2) := by unfold ofF; rw [if_pos h01]
      have e2 : evalF l env (f + 1) k = some (l.getD k (0, 0)).2 := by unfold evalF; rw [if_pos h01]
      rw [e] at hs
      cases hs
      exact ⟨_, e2, hI k, by rw [VV_num he]; exact Like.refl _⟩
    · by_cases h02 : (l.getD k (0, 0)).1 = 2
      · obtain ⟨n0, n4⟩ := a3 h02
        have e : ofF l (f + 1) k = some (varP (l.getD k (0, 0)).2.toNat) := by unfold ofF; rw [if_neg h01, if_pos h02]
        have e2 : evalF l env (f + 1) k = some (env.getD (l.getD k (0, 0)).2.toNat 0) := by unfold evalF; rw [if_neg h01, if_pos h02]
        rw [e] at hs
        cases hs
        have hv4 : (l.getD k (0, 0)).2.toNat < 4 := by omega
        refine ⟨_, e2, ?_, by rw [VV_var he _ hv4]; exact Like.refl _⟩
        have e3 : env.getD (l.getD k (0, 0)).2.toNat 0 = env[(l.getD k (0, 0)).2.toNat] := by rw [List.getD_eq_getElem?_getD, List.getElem?_eq_getElem (by omega)]; rfl
        rw [e3]
        exact hE _ (List.getElem_mem _)
      · obtain ⟨m, hm⟩ : ∃ m : Nat, ar (l.getD k (0, 0)).1 = m := ⟨(ar (l.getD k (0, 0)).1).toNat, by omega⟩
        have h37 : 3 ≤ (l.getD k (0, 0)).1 ∧ (l.getD k (0, 0)).1 ≤ 7 := by omega
        have hm1 : ((l.getD k (0, 0)).1 = 3 → m = 1) ∧ ((l.getD k (0, 0)).1 ≠ 3 → m = 2) := by
          have : (l.getD k (0, 0)).1 = 3 ∨ (l.getD k (0, 0)).1 = 4 ∨ (l.getD k (0, 0)).1 = 5 ∨ (l.getD k (0, 0)).1 = 6 ∨ (l.getD k (0, 0)).1 = 7 := by omega
          rcases this with e | e | e | e | e <;> rw [e] at hm
          · have e0 : ar 3 = 1 := rfl; omega
          · have e0 : ar 4 = 2 := rfl; omega
          · have e0 : ar 5 = 2 := rfl; omega
          · have e0 : ar 6 = 2 := rfl; omega
          · have e0 : ar 7 = 2 := rfl; omega
        have hml := roots_len l m k
        have hrt : ∀ i, i < m → (roots l m k).getD i 0 < k := fun i hi => getD_lt (roots l m k) k i (roots_lt h m k (by omega) (by omega)) (by rw [roots_len]; exact hi)
        have e2 : evalF l env (f + 1) k = allO (l.getD k (0, 0)).1 (seqO (evalF l env f) (roots l m k)) := by
          show (if _ then _ else _) = _
          rw [if_neg h01, if_neg h02, if_neg (by omega), hm, Int.toNat_natCast]
        have e : ofF l (f + 1) k = match ofF l f ((roots l m k).getD 0 0) with
            | none => none
            | some p =>
              if (l.getD k (0, 0)).1 = 3 then okP (mulP p (numP (-1)))
              else if (l.getD k (0, 0)).1 = 7 then okP (mulP p (numP (shlN (l.getD (k - 1) (0, 0)).2)))
              else match ofF l f ((roots l m k).getD 1 0) with
                | none => none
                | some q => okP (twoP (l.getD k (0, 0)).1 p q) := by
          show (if _ then _ else _) = _
          rw [if_neg h01, if_neg h02, hm, Int.toNat_natCast]
          cases ofF l f ((roots l m k).getD 0 0) with
          | none => rfl
          | some p =>
            cases ofF l f ((roots l m k).getD 1 0) with
            | none => rfl
            | some q => rfl
        rw [e] at hs
        rw [e2]
        have hr0 := hrt 0 (by by_cases e3 : (l.getD k (0, 0)).1 = 3; have := hm1.1 e3; omega; have := hm1.2 e3; omega)
        cases hq0 : ofF l f ((roots l m k).getD 0 0) with
        | none => rw [hq0] at hs; cases hs
        | some p =>
          rw [hq0] at hs
          simp only at hs
          have gp := good _ _ hq0
          obtain ⟨x, hx1, hx2, hx3⟩ := ring_value h hr hI he hE f _ p (by omega) (by omega) hq0
          by_cases e3 : (l.getD k (0, 0)).1 = 3
          · rw [if_pos e3] at hs
            obtain ⟨rfl, _⟩ := okP_some hs
            obtain rfl := hm1.1 e3
            rw [list_one hml, seq_one hx1, e3]
            refine ⟨wrap64 (-x), rfl, wrap_in _, (like_wrap _).trans ?_⟩
            refine Like.trans ?_ (VV_times he gp.1 (-1)).symm
            have : Like (x * -1) (VV env p * -1) := Like.mul hx3 (Like.refl _)
            rwa [Int.mul_neg, Int.mul_one] at this
          · rw [if_neg e3] at hs
            obtain rfl := hm1.2 e3
            have hr1 := hrt 1 (by omega)
            by_cases e7 : (l.getD k (0, 0)).1 = 7
            · rw [if_pos e7] at hs
              obtain ⟨rfl, _⟩ := okP_some hs
              have hk1 := hop7.2.2 e7
              have er : (roots l 2 k).getD 1 0 = k - 1 := by
                show ((roots l 0 _ ++ [_]) ++ [k - 1]).getD 1 0 = k - 1
                rfl
              have hn1 : (l.getD (k - 1) (0, 0)).1 = 1 := by
                rcases hro with h6 | h7'
                · omega
                · exact h7'.2
              have hy : evalF l env f ((roots l 2 k).getD 1 0) = some (l.getD (k - 1) (0, 0)).2 := by
                rw [er]
                match f, hf with
                | f + 1, _ => unfold evalF; rw [if_pos hn1]
              rw [list_two hml, seq_two hx1 hy, e7]
              refine ⟨wrap64 (x * 2 ^ ((l.getD (k - 1) (0, 0)).2 % 64).toNat), rfl, wrap_in _, (like_wrap _).trans ?_⟩
              refine Like.trans ?_ (VV_times he gp.1 _).symm
              exact Like.mul hx3 (like_wrap _).symm
            · rw [if_neg e7] at hs
              cases hq1 : ofF l f ((roots l 2 k).getD 1 0) with
              | none => rw [hq1] at hs; cases hs
              | some qq =>
                rw [hq1] at hs
                simp only at hs
                have gq := good _ _ hq1
                obtain ⟨y, hy1, hy2, hy3⟩ := ring_value h hr hI he hE f _ qq (by omega) (by omega) hq1
                obtain ⟨rfl, _⟩ := okP_some hs
                rw [list_two hml, seq_two hx1 hy1]
                have h456 : (l.getD k (0, 0)).1 = 4 ∨ (l.getD k (0, 0)).1 = 5 ∨ (l.getD k (0, 0)).1 = 6 := by omega
                rcases h456 with e4 | e4 | e4 <;> rw [e4]
                · have hT : twoP 4 p qq = addP p qq := by unfold twoP; rw [if_pos rfl]
                  rw [hT]
                  exact ⟨wrap64 (x + y), rfl, wrap_in _, (like_wrap _).trans ((Like.add hx3 hy3).trans (add_value env gp.fine gq.fine).symm)⟩
                · have hT : twoP 5 p qq = addP p (mulP qq (numP (-1))) := by unfold twoP; rw [if_neg (by decide), if_pos rfl]
                  rw [hT]
                  have hMs := (mulP_ok gq.len (num_GoodS (show InI (-1) by unfold InI; omega)).len).1
                  refine ⟨wrap64 (x - y), rfl, wrap_in _, (like_wrap _).trans ?_⟩
                  refine Like.trans ?_ (add_value env gp.fine (fun m hm => ⟨(hMs.2 m hm).1, (hMs.2 m hm).2.1⟩)).symm
                  rw [Int.sub_eq_add_neg]
                  refine Like.add hx3 (Like.trans ?_ (VV_times he gq.1 (-1)).symm)
                  have : Like (y * -1) (VV env qq * -1) := Like.mul hy3 (Like.refl _)
                  rwa [Int.mul_neg, Int.mul_one] at this
                · have hT : twoP 6 p qq = mulP p qq := by unfold twoP; rw [if_neg (by decide), if_neg (by decide)]
                  rw [hT]
                  exact ⟨wrap64 (x * y), rfl, wrap_in _, (like_wrap _).trans ((Like.mul hx3 hy3).trans (mul_value env (pow_nonneg gp.1) (pow_nonneg gq.1)).symm)⟩
end Go.Proofs.YtpjgjpjfchfmlaaGreatDoor
