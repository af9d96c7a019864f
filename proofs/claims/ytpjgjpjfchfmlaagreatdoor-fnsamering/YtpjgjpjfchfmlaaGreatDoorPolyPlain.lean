/-
  PROVED HERE: plain facts on sums of products: that one of falling powers without noughts is told by its numbers, and what it is to add a product. No condition.
-/
import Derived.Test.YtpjgjpjfchfmlaaGreatDoorBase
namespace Go.Proofs.YtpjgjpjfchfmlaaGreatDoor
open Go.RowKit
set_option linter.unusedVariables false

/-- A product: its powers, its number. -/
abbrev Mon := List Int × Int
/-- Which powers come first. -/
def cmpL : List Int → List Int → Int
  | a :: r, b :: s => if a < b then -1 else if b < a then 1 else cmpL r s
  | _, _ => 0
theorem cmp_self : ∀ a, cmpL a a = 0
  | [] => rfl
  | a :: r => by rw [cmpL, if_neg (by omega), if_neg (by omega)]; exact cmp_self r
theorem cmp_range : ∀ a b, cmpL a b = -1 ∨ cmpL a b = 0 ∨ cmpL a b = 1
  | [], _ => .inr (.inl (by cases ‹List Int› <;> rfl))
  | _ :: _, [] => .inr (.inl rfl)
  | a :: r, b :: s => by
    rw [cmpL]
    split
    · exact .inl rfl
    · split
      · exact .inr (.inr rfl)
      · exact cmp_range r s
theorem cmp_eq : ∀ {a b : List Int}, a.length = b.length → cmpL a b = 0 → a = b
  | [], [], _, _ => rfl
  | [], _ :: _, h, _ => by simp at h
  | _ :: _, [], h, _ => by simp at h
  | a :: r, b :: s, h, h0 => by
    rw [cmpL] at h0
    split at h0
    · omega
    · split at h0
      · omega
      · rw [cmp_eq (by simpa using h) h0, show a = b from by omega]
theorem cmp_swap : ∀ a b, cmpL a b = - cmpL b a
  | [], b => by cases b <;> rfl
  | _ :: _, [] => rfl
  | a :: r, b :: s => by
    rw [cmpL, cmpL]
    by_cases h1 : a < b
    · rw [if_pos h1, if_neg (by omega), if_pos h1]
    · rw [if_neg h1]
      by_cases h2 : b < a
      · rw [if_pos h2, if_pos h2]; rfl
      · rw [if_neg h2, if_neg h2, if_neg h1]; exact cmp_swap r s
theorem cmp_trans : ∀ {a b c : List Int}, a.length = b.length → b.length = c.length → cmpL a b = 1 → cmpL b c = 1 → cmpL a c = 1
  | [], b, c, _, _, h, _ => by cases b <;> simp [cmpL] at h
  | a :: r, [], c, h, _, _, _ => by simp at h
  | a :: r, b :: s, [], _, h, _, _ => by simp at h
  | a :: r, b :: s, c :: t, h1, h2, h3, h4 => by
    rw [cmpL] at h3 h4 ⊢
    by_cases e1 : a < b
    · rw [if_pos e1] at h3; omega
    rw [if_neg e1] at h3
    by_cases e2 : b < c
    · rw [if_pos e2] at h4; omega
    rw [if_neg e2] at h4
    by_cases e3 : b < a
    · rw [if_neg (by omega), if_pos (by omega)]
    · rw [if_neg e3] at h3
      by_cases e4 : c < b
      · rw [if_neg (by omega), if_pos (by omega)]
      · rw [if_neg e4] at h4
        rw [if_neg (by omega), if_neg (by omega)]
        exact cmp_trans (by simpa using h1) (by simpa using h2) h3 h4
/-- Falling powers, one behind the other. -/
def Falls (p : List Mon) : Prop := p.Pairwise fun x y => cmpL x.1 y.1 = 1
/-- All have that many powers, and a number of 64 bits that is not 0. -/
def Fine (n : Nat) (p : List Mon) : Prop := ∀ x ∈ p, x.1.length = n ∧ InI x.2 ∧ x.2 ≠ 0
/-- The number of some powers. -/
def coef (p : List Mon) (e : List Int) : Int := (p.map fun m => if m.1 = e then m.2 else 0).sum
theorem coef_nil (e : List Int) : coef [] e = 0 := rfl
theorem coef_cons (m : Mon) (p : List Mon) (e : List Int) : coef (m :: p) e = (if m.1 = e then m.2 else 0) + coef p e := by simp [coef]
theorem coef_append (p q : List Mon) (e : List Int) : coef (p ++ q) e = coef p e + coef q e := by simp [coef]
theorem coef_none {p : List Mon} {e : List Int} (h : ∀ x ∈ p, x.1 ≠ e) : coef p e = 0 := by
  induction p with
  | nil => rfl
  | cons m p ih =>
    rw [coef_cons, if_neg (h m (List.mem_cons_self ..)), ih (fun x hx => h x (List.mem_cons_of_mem _ hx))]; rfl
/-- Alike to 64 bits. -/
def Like (x y : Int) : Prop := (x - y) % 18446744073709551616 = 0
theorem Like.refl (x : Int) : Like x x := by unfold Like; omega
theorem Like.symm {x y : Int} (h : Like x y) : Like y x := by unfold Like at *; omega
theorem Like.trans {x y z : Int} (h : Like x y) (h' : Like y z) : Like x z := by unfold Like at *; omega
theorem Like.add {x y u v : Int} (h : Like x y) (h' : Like u v) : Like (x + u) (y + v) := by unfold Like at *; omega
theorem Like.neg {x y : Int} (h : Like x y) : Like (-x) (-y) := by unfold Like at *; omega
theorem like_wrap (x : Int) : Like (wrap64 x) x := by unfold Like wrap64; omega
theorem Like.eq {x y : Int} (hx : InI x) (hy : InI y) (h : Like x y) : x = y := by unfold Like at h; unfold InI at *; omega
theorem Like.wrap {x y : Int} (h : Like x y) : wrap64 x = wrap64 y := Like.eq (wrap_in x) (wrap_in y) (((like_wrap x).trans h).trans (like_wrap y).symm)
theorem Like.mul {x y u v : Int} (h : Like x y) (h' : Like u v) : Like (x * u) (y * v) := by
  unfold Like at *
  obtain ⟨a, ha⟩ := Int.dvd_of_emod_eq_zero h
  obtain ⟨b, hb⟩ := Int.dvd_of_emod_eq_zero h'
  have hx : x = y + 18446744073709551616 * a := by omega
  have hu : u = v + 18446744073709551616 * b := by omega
  have e : x * u - y * v = 18446744073709551616 * (a * v + (y + 18446744073709551616 * a) * b) := by
    rw [hx, hu]
    simp only [Int.mul_add, Int.add_mul, Int.mul_assoc, Int.mul_left_comm]
    omega
  rw [e]
  exact Int.mul_emod_right _ _
theorem falls_none {n : Nat} {m : Mon} {p : List Mon} (hf : Falls (m :: p)) (hn : Fine n (m :: p)) : ∀ x ∈ p, x.1 ≠ m.1 := by
  intro x hx e
  have := (List.pairwise_cons.1 hf).1 x hx
  rw [e, cmp_self] at this
  omega
theorem coef_head {n : Nat} {m : Mon} {p : List Mon} (hf : Falls (m :: p)) (hn : Fine n (m :: p)) : coef (m :: p) m.1 = m.2 := by
  rw [coef_cons, if_pos rfl, coef_none (falls_none hf hn)]; omega
/-- A sum of falling powers is told by its numbers. -/
theorem poly_unique {n : Nat} : ∀ (p q : List Mon), Falls p → Falls q → Fine n p → Fine n q → (∀ e, Like (coef p e) (coef q e)) → p = q
  | [], [], _, _, _, _, _ => rfl
  | [], m :: q, _, hq, _, nq, h => by
    exfalso
    have := h m.1
    rw [coef_head hq nq, coef_nil] at this
    obtain ⟨_, h1, h2⟩ := nq m (List.mem_cons_self ..)
    exact h2 (Like.eq h1 ⟨by omega, by omega⟩ this.symm)
  | m :: p, [], hp, _, np, _, h => by
    exfalso
    have := h m.1
    rw [coef_head hp np, coef_nil] at this
    obtain ⟨_, h1, h2⟩ := np m (List.mem_cons_self ..)
    exact h2 (Like.eq h1 ⟨by omega, by omega⟩ this)
  | m :: p, k :: q, hp, hq, np, nq, h => by
    obtain ⟨m1, m2, m3⟩ := np m (List.mem_cons_self ..)
    obtain ⟨k1, k2, k3⟩ := nq k (List.mem_cons_self ..)
    have above : ∀ {a b : Mon} {r : List Mon}, Falls (b :: r) → Fine n (b :: r) → a.1.length = n → cmpL a.1 b.1 = 1 → coef (b :: r) a.1 = 0 := by
      intro a b r hf hn ha hc
      refine coef_none fun x hx e => ?_
      rcases List.mem_cons.1 hx with rfl | hx'
      · rw [e, cmp_self] at hc; omega
      · have c2 := (List.pairwise_cons.1 hf).1 x hx'
        have := cmp_trans (by rw [ha, (hn b (List.mem_cons_self ..)).1]) (by rw [(hn b (List.mem_cons_self ..)).1, (hn x hx).1]) hc c2
        rw [e, cmp_self] at this
        omega
    rcases cmp_range m.1 k.1 with hc | hc | hc
    · exfalso
      have hc' : cmpL k.1 m.1 = 1 := by rw [cmp_swap, hc]; rfl
      have := h k.1
      rw [above hp np k1 hc', coef_head hq nq] at this
      exact k3 (Like.eq k2 ⟨by omega, by omega⟩ this.symm)
    · have e := cmp_eq (by rw [m1, k1]) hc
      have hN : m.2 = k.2 := by
        have := h m.1
        rw [coef_head hp np, e, coef_head hq nq] at this
        exact Like.eq m2 k2 this
      have hmk : m = k := Prod.ext e hN
      subst hmk
      congr 1
      refine poly_unique p q (List.pairwise_cons.1 hp).2 (List.pairwise_cons.1 hq).2 (fun x hx => np x (List.mem_cons_of_mem _ hx)) (fun x hx => nq x (List.mem_cons_of_mem _ hx)) fun e => ?_
      have := h e
      rw [coef_cons, coef_cons] at this
      unfold Like at *
      omega
    · exfalso
      have := h m.1
      rw [above hq nq m1 hc, coef_head hp np] at this
      exact m3 (Like.eq m2 ⟨by omega, by omega⟩ this)
/-- The model's adding of a product, its first walk. -/
def putO (e : List Int) : List Mon → Bool → Int → List Mon
  | [], put, n => if put = true then [] else [(e, n)]
  | m :: r, put, n =>
    if cmpL e m.1 = 0 then (e, wrap64 (n + m.2)) :: putO e r true (wrap64 (n + m.2))
    else if 0 < cmpL e m.1 ∧ put = false then (e, n) :: m :: putO e r true n
    else m :: putO e r put n
/-- The model's adding of a product. -/
def putP (p : List Mon) (e : List Int) (n : Int) : List Mon := (putO e p false n).filter fun m => m.2 != 0
theorem putO_true {e : List Int} : ∀ {r : List Mon} {n : Int}, (∀ x ∈ r, cmpL e x.1 = 1) → putO e r true n = r
  | [], _, _ => rfl
  | m :: r, n, h => by
    have hm := h m (List.mem_cons_self ..)
    rw [putO, if_neg (by omega), if_neg (by simp), putO_true (fun x hx => h x (List.mem_cons_of_mem _ hx))]
/-- What the first walk leaves of a falling sum. -/
theorem putO_falls {k : Nat} {e : List Int} (he : e.length = k) : ∀ {p : List Mon} {n : Int}, InI n → Falls p → (∀ x ∈ p, x.1.length = k ∧ InI x.2) →
    Falls (putO e p false n) ∧ (∀ x ∈ putO e p false n, x.1.length = k ∧ InI x.2) ∧ (∀ x ∈ putO e p false n, x.1 = e ∨ ∃ y ∈ p, x.1 = y.1) ∧ ∀ e', Like (coef (putO e p false n) e') (coef p e' + if e = e' then n else 0)
  | [], n, hn, _, _ => by
    refine ⟨List.pairwise_singleton _ _, ?_, ?_, fun e' => ?_⟩
    · intro x hx; rw [List.mem_singleton.1 hx]; exact ⟨he, hn⟩
    · intro x hx; rw [List.mem_singleton.1 hx]; exact .inl rfl
    · show Like (coef [(e, n)] e') _
      rw [coef_cons, coef_nil]
      exact (show (if e = e' then n else 0) + 0 = 0 + (if e = e' then n else 0) by omega) ▸ Like.refl _
  | m :: r, n, hn, hf, hp => by
    obtain ⟨f1, f2⟩ := List.pairwise_cons.1 hf
    obtain ⟨m1, m2⟩ := hp m (List.mem_cons_self ..)
    have hr : ∀ x ∈ r, x.1.length = k ∧ InI x.2 := fun x hx => hp x (List.mem_cons_of_mem _ hx)
    rcases cmp_range e m.1 with hc | hc | hc
    · have ih := putO_falls he hn f2 hr
      obtain ⟨i1, i2, i3, i4⟩ := ih
      have eq : putO e (m :: r) false n = m :: putO e r false n := by rw [putO, if_neg (by omega), if_neg (by omega)]
      rw [eq]
      have hmc : cmpL m.1 e = 1 := by rw [cmp_swap, hc]; rfl
      refine ⟨List.pairwise_cons.2 ⟨fun x hx => ?_, i1⟩, ?_, ?_, fun e' => ?_⟩
      · rcases i3 x hx with h | ⟨y, hy, h⟩
        · rw [h]; exact hmc
        · rw [h]; exact f1 y hy
      · intro x hx
        rcases List.mem_cons.1 hx with rfl | hx
        · exact ⟨m1, m2⟩
        · exact i2 x hx
      · intro x hx
        rcases List.mem_cons.1 hx with rfl | hx
        · exact .inr ⟨x, List.mem_cons_self .., rfl⟩
        · rcases i3 x hx with h | ⟨y, hy, h⟩
          · exact .inl h
          · exact .inr ⟨y, List.mem_cons_of_mem _ hy, h⟩
      · rw [coef_cons, coef_cons]
        have := i4 e'
        unfold Like at *
        omega
    · have hem := cmp_eq (by rw [he, m1]) hc
      have hall : ∀ x ∈ r, cmpL e x.1 = 1 := fun x hx => by rw [hem]; exact f1 x hx
      have eq : putO e (m :: r) false n = (e, wrap64 (n + m.2)) :: r := by rw [putO, if_pos hc, putO_true hall]
      rw [eq]
      refine ⟨List.pairwise_cons.2 ⟨fun x hx => hall x hx, f2⟩, ?_, ?_, fun e' => ?_⟩
      · intro x hx
        rcases List.mem_cons.1 hx with rfl | hx
        · exact ⟨he, wrap_in _⟩
        · exact hr x hx
      · intro x hx
        rcases List.mem_cons.1 hx with rfl | hx
        · exact .inl rfl
        · exact .inr ⟨x, List.mem_cons_of_mem _ hx, rfl⟩
      · rw [coef_cons, coef_cons, ← hem]
        have := like_wrap (n + m.2)
        unfold Like at *
        simp only
        by_cases h : e = e'
        · rw [if_pos h, if_pos h, if_pos h]; omega
        · rw [if_neg h, if_neg h, if_neg h]; omega
    · have hall : ∀ x ∈ r, cmpL e x.1 = 1 := fun x hx => cmp_trans (by rw [he, m1]) (by rw [m1, (hr x hx).1]) hc (f1 x hx)
      have eq : putO e (m :: r) false n = (e, n) :: m :: r := by rw [putO, if_neg (by omega), if_pos ⟨by omega, rfl⟩, putO_true hall]
      rw [eq]
      refine ⟨List.pairwise_cons.2 ⟨fun x hx => ?_, hf⟩, ?_, ?_, fun e' => ?_⟩
      · rcases List.mem_cons.1 hx with rfl | hx
        · exact hc
        · exact hall x hx
      · intro x hx
        rcases List.mem_cons.1 hx with rfl | hx
        · exact ⟨he, hn⟩
        · exact hp x hx
      · intro x hx
        rcases List.mem_cons.1 hx with rfl | hx
        · exact .inl rfl
        · exact .inr ⟨x, hx, rfl⟩
      · rw [coef_cons]
        show Like ((if e = e' then n else 0) + coef (m :: r) e') _
        unfold Like
        omega
theorem coef_filter (p : List Mon) (e : List Int) : coef (p.filter fun m => m.2 != 0) e = coef p e := by
  induction p with
  | nil => rfl
  | cons m p ih =>
    rw [List.filter_cons]
    by_cases h : m.2 = 0
    · rw [if_neg (by simp [h]), ih, coef_cons, h]; split <;> omega
    · rw [if_pos (by simpa using h), coef_cons, coef_cons, ih]
/-- What adding a product does. -/
theorem putP_ok {k : Nat} {p : List Mon} {e : List Int} {n : Int} (he : e.length = k) (hn : InI n) (hf : Falls p) (hp : ∀ x ∈ p, x.1.length = k ∧ InI x.2) :
    Falls (putP p e n) ∧ Fine k (putP p e n) ∧ ∀ e', Like (coef (putP p e n) e') (coef p e' + if e = e' then n else 0) := by
  obtain ⟨h1, h2, _, h4⟩ := putO_falls he hn hf hp
  refine ⟨h1.filter _, fun x hx => ?_, fun e' => ?_⟩
  · obtain ⟨x1, x2⟩ := List.mem_filter.1 hx
    exact ⟨(h2 x x1).1, (h2 x x1).2, by simpa using x2⟩
  · unfold putP; rw [coef_filter]; exact h4 e'
end Go.Proofs.YtpjgjpjfchfmlaaGreatDoor
