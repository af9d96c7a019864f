/-
  PROVED HERE: what the program's AddPoly answers. No other condition.
-/
import Derived.Test.YtpjgjpjfchfmlaaPolyAddM
import Derived.Test.YtpjgjpjfchfmlaaMapPuts
import Derived.Test.YtpjgjpjfchfmlaaOrder
import Derived.Carry
namespace Go.Proofs.Ytpjgjpjfchfmlaa
open Go.ChangeShapes Go.WideShapes Go.ChangeAt Go.RowKit
open Go.MapKept Go.ChangeMaps
set_option linter.unusedVariables false

theorem pmap_new (w : World) : PMap (w.alloc (.map #[] 0)) w.heap.size [] := ⟨#[], 0, heap_alloc_new _ _, stamped_empty _, rfl, fun m hm => by cases hm⟩
theorem key4_of {p : List Mon} (h : polyB p = true) : ∀ m ∈ p, Key4 m.1 := fun m hm => by
  have : ∀ (prev : Option (List Int)) (q : List Mon), gpF prev q = true → ∀ x ∈ q, powB x.1 = true := by
    intro prev q
    induction q generalizing prev with
    | nil => intro _ x hx; cases hx
    | cons m r ih =>
      intro hq x hx
      rw [gpF, Bool.and_eq_true] at hq
      rcases List.mem_cons.1 hx with rfl | hx
      · have h1 := hq.1; unfold fitM at h1; rw [Bool.and_eq_true, Bool.and_eq_true] at h1; exact h1.1.1
      · exact ih _ hq.2 x hx
  unfold polyB at h
  rw [Bool.and_eq_true] at h
  have hp := this _ p h.1 m hm
  refine ⟨pow_len hp, fun x hx => ?_⟩
  unfold powB allB at hp
  rw [Bool.and_eq_true, List.all_eq_true] at hp
  have := hp.2 x hx
  rw [Bool.and_eq_true] at this
  have t1 := of_decide_eq_true this.1
  have t2 := of_decide_eq_true this.2
  unfold InI
  omega
theorem OwnV.nil (w : World) (lo : Nat) : OwnV w lo (.slice none 0 0) [] := .inl ⟨rfl, _, _, rfl⟩
theorem OwnV.lower {w : World} {lo lo' : Nat} {v : Value} {q : List Mon} (h : OwnV w lo v q) (hl : lo' ≤ lo) : OwnV w lo' v q := by
  rcases h with h | ⟨g, cap, h1, h2, h3, h4⟩
  · exact .inl h
  · exact .inr ⟨g, cap, h1, h2, h3, h4.map hl (Nat.le_refl _) (Nat.le_refl _) (fun _ _ _ => rfl)⟩
set_option maxHeartbeats 1600000 in
theorem implAdd_any (a : Option Addr) (la ca : Nat) (p : List Mon) (b : Option Addr) (lb cb : Nat) (q : List Mon) (w : World) (ha : PSl w a la p) (hb : PSl w b lb q) (hla : la ≤ 9223372036854775807) (hlb : lb ≤ 9223372036854775807) (hp : ∀ x ∈ p, InI x.2) (hq : ∀ x ∈ q, InI x.2) :
    Calls Try.prog 6 #[.slice a la ca, .slice b lb cb] w fun r w' => ∃ v, r = .returned (.tuple #[v, .bool (addOk p q)]) ∧ OwnV w' w.heap.size v (addR p q) ∧ Below w.heap.size w w' := by
  have HG := (show Hid _ from implPoly_any a la ca p w ha hla)
  have HH : Hid (∀ W, Below w.heap.size w W → Calls Try.prog 11 #[.slice b lb cb] W fun e w' => e = .returned (.bool (polyB q)) ∧ Below W.heap.size W w') := fun W hW => implPoly_any b lb cb q W (hb.keep hW) hlb
  cases h1 : polyB p with
  | false =>
    have e1 : addOk p q = false := by unfold addOk; rw [h1]; rfl
    have e2 : addR p q = [] := by unfold addR; rw [e1]; rfl
    rw [e1, e2]
    rw [h1] at HG
    clear h1 e1 e2 ha hb
    go_enter Try.func6, Try.ntmps6
    go_wp2_with fail
    refine Calls.mono HG.out ?_
    rintro r w1 ⟨rfl, hb1⟩
    clear HG
    go_wp2
    go_ret2
    exact ⟨_, rfl, OwnV.nil _ _, hb1⟩
  | true =>
    rw [h1] at HG
    cases h2 : polyB q with
    | false =>
      have e1 : addOk p q = false := by unfold addOk; rw [h1, h2]; rfl
      have e2 : addR p q = [] := by unfold addR; rw [e1]; rfl
      rw [e1, e2]
      rw [h2] at HH
      clear h1 h2 e1 e2 ha hb
      go_enter Try.func6, Try.ntmps6
      go_wp2_with fail
      refine Calls.mono HG.out ?_
      rintro r w1 ⟨rfl, hb1⟩
      clear HG
      go_wp2_with fail
      refine Calls.mono (HH.out _ hb1) ?_
      rintro r w2 ⟨rfl, hb2⟩
      have hB := hb1.trans (hb2.mono hb1.size)
      clear HH hb1 hb2
      go_wp2
      go_ret2
      exact ⟨_, rfl, OwnV.nil _ _, hB⟩
    | true =>
      rw [h2] at HH
      have fp := fine_of h1 hp
      have fq := fine_of h2 hq
      have lp := poly_len h1
      have lq := poly_len h2
      have kp := key4_of h1
      have kq := key4_of h2
      have e1 : addOk p q = polyB (addP p q) := by unfold addOk; rw [h1, h2]; rfl
      have e2 : addR p q = if polyB (addP p q) = true then addP p q else [] := by unfold addR; rw [e1]
      rw [e1, e2]
      have hal := ha.1
      have hbl := hb.1
      have hmm := @run_makeMap Try.prog
      have HT1 : Hid (∀ W, Below w.heap.size w W → Calls Try.prog 16 #[.map (some W.heap.size), .slice a la ca, .int .i64 1] (W.alloc (.map #[] 0)) fun r w' => r = .returned (.tuple #[]) ∧ Below w.heap.size w w' ∧ ∃ M', PMap w' W.heap.size M' ∧ SumM M' ∧ M'.length ≤ la ∧ ∀ e', Like (coef M' e') (0 + 1 * coef p e')) := fun W hW => (times_any W.heap.size [] (fun _ => 0) a la ca p 1 w (W.alloc (.map #[] 0)) ha (hW.alloc hW.size _) hW.size (by omega) kp (pmap_new W) (fun m hm => by cases hm) (fun e' => Like.refl _)).mono fun r w' ⟨t1, t2, M', t3, t4, t5, t6⟩ => ⟨t1, t2, M', t3, t4, by simp at t5; omega, t6⟩
      have HT2 : Hid (∀ W B M1, Below w.heap.size w W → w.heap.size ≤ B → PMap W B M1 → SumM M1 → M1.length ≤ la → (∀ e', Like (coef M1 e') (0 + 1 * coef p e')) → Calls Try.prog 16 #[.map (some B), .slice b lb cb, .int .i64 1] W fun r w' => r = .returned (.tuple #[]) ∧ Below w.heap.size w w' ∧ ∃ M', PMap w' B M' ∧ SumM M' ∧ M'.length ≤ la + lb ∧ ∀ e', Like (coef M' e') (0 + 1 * coef p e' + 1 * coef q e')) := fun W B M1 hW hB hP hS hL hd => (times_any B M1 _ b lb cb q 1 w W hb hW hB (by omega) kq hP hS hd).mono fun r w' ⟨t1, t2, M', t3, t4, t5, t6⟩ => ⟨t1, t2, M', t3, t4, by omega, t6⟩
      have hadd := addP_ok fp fq
      have HOr : Hid (∀ W B M1, Below w.heap.size w W → PMap W B M1 → SumM M1 → M1.length ≤ la + lb → (∀ e', Like (coef M1 e') (0 + 1 * coef p e' + 1 * coef q e')) → Calls Try.prog 17 #[.map (some B)] W fun r w' => ∃ v, r = .returned (.tuple #[v, .bool (polyB (addP p q))]) ∧ OwnV w' w.heap.size v (if polyB (addP p q) = true then addP p q else []) ∧ Below w.heap.size w w') := fun W B M1 hW hP hS hL hd => (order_any B M1 W hP hS (by omega)).mono fun r w' ⟨v, s, t1, t2, t3, t4, t5, t6⟩ => by
        have : s = addP p q := sum_unique ⟨t3, t4⟩ hadd.1 (fun e => by
          rw [t5 e]
          refine (hd e).trans ?_
          have := (hadd.2.2 e).symm
          rwa [show (0 : Int) + 1 * coef p e + 1 * coef q e = coef p e + coef q e from by omega])
        subst this
        exact ⟨v, t1, t6.lower hW.size, hW.trans (t2.mono hW.size)⟩
      clear h1 h2 e1 e2 fp fq kp kq hadd hp hq ha hb
      generalize (if polyB (addP p q) = true then addP p q else []) = R at HOr ⊢
      generalize polyB (addP p q) = G at HOr ⊢
      go_enter Try.func6, Try.ntmps6
      go_wp2_with fail
      refine Calls.mono HG.out ?_
      rintro r w1 ⟨rfl, hb1⟩
      clear HG
      go_wp2_with fail
      refine Calls.mono (HH.out _ hb1) ?_
      rintro r w2 ⟨rfl, hb2⟩
      have hB2 := hb1.trans (hb2.mono hb1.size)
      clear HH hb1 hb2
      go_wp2_with fail
      refine Calls.mono (HT1.out _ hB2) ?_
      rintro r w3 ⟨rfl, hB3, M3, p3, s3, l3, c3⟩
      have hsB := hB2.size
      clear HT1 hB2
      go_wp2_with fail
      refine Calls.mono (HT2.out _ _ _ hB3 hsB p3 s3 l3 c3) ?_
      rintro r w4 ⟨rfl, hB4, M4, p4, s4, l4, c4⟩
      clear HT2 hB3 p3 s3 c3
      go_wp2_with fail
      refine Calls.mono (HOr.out _ _ _ hB4 p4 s4 l4 c4) ?_
      rintro r w5 ⟨v5, rfl, o5, hB5⟩
      clear HOr hB4 p4 s4 c4
      go_wp2
      go_ret2
      exact ⟨_, rfl, o5, hB5⟩
end Go.Proofs.Ytpjgjpjfchfmlaa
