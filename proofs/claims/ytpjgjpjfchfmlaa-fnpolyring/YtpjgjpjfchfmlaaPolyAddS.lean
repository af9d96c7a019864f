/-
  PROVED HERE: what the model's adding of two sums of products leaves. No other condition.
-/
import Derived.Test.YtpjgjpjfchfmlaaPolyAddM
namespace Go.Proofs.Ytpjgjpjfchfmlaa
open Go.ChangeShapes Go.WideShapes Go.ChangeAt Go.RowKit
set_option linter.unusedVariables false

theorem l4Made_any (v : Value) (q : List Mon) (w : World) (h : SpecV w v q) (hl : q.length ≤ 100000) :
    Calls Try.prog 18 #[v] w fun r w' => ∃ v', r = .returned (.tuple #[v', .bool (polyB q)]) ∧ SpecV w' v' (if polyB q = true then q else []) ∧ Below w.heap.size w w' := by
  obtain ⟨a, cap, rfl, hP⟩ := h
  have HG := (show Hid _ from specPoly_any a q.length cap q w hP (by omega))
  cases hq : polyB q with
  | true =>
    rw [hq] at HG
    go_enter Try.func18, Try.ntmps18
    go_wp2_with fail
    refine Calls.mono HG.out ?_
    rintro r w1 ⟨rfl, hb1⟩
    have hP1 := hP.keep hb1
    clear HG hP
    go_wp2
    go_ret2
    exact ⟨_, rfl, ⟨_, _, rfl, hP1⟩, hb1⟩
  | false =>
    rw [hq] at HG
    go_enter Try.func18, Try.ntmps18
    go_wp2_with fail
    refine Calls.mono HG.out ?_
    rintro r w1 ⟨rfl, hb1⟩
    clear HG hP
    go_wp2
    go_ret2
    exact ⟨_, rfl, SpecV.nil _, hb1⟩
set_option maxHeartbeats 1600000 in
theorem specAdd_any (a : Option Addr) (la ca : Nat) (p : List Mon) (b : Option Addr) (lb cb : Nat) (q : List Mon) (w : World) (ha : PSl w a la p) (hb : PSl w b lb q) (hla : la ≤ 9223372036854775807) (hlb : lb ≤ 9223372036854775807) (hp : ∀ x ∈ p, InI x.2) (hq : ∀ x ∈ q, InI x.2) :
    Calls Try.prog 7 #[.slice a la ca, .slice b lb cb] w fun r w' => ∃ v, r = .returned (.tuple #[v, .bool (addOk p q)]) ∧ SpecV w' v (addR p q) ∧ Below w.heap.size w w' := by
  have HG := (show Hid _ from specPoly_any a la ca p w ha hla)
  have HH : Hid (∀ W, Below w.heap.size w W → Calls Try.prog 12 #[.slice b lb cb] W fun e w' => e = .returned (.bool (polyB q)) ∧ Below W.heap.size W w') := fun W hW => specPoly_any b lb cb q W (hb.keep hW) hlb
  cases h1 : polyB p with
  | false =>
    have e1 : addOk p q = false := by unfold addOk; rw [h1]; rfl
    have e2 : addR p q = [] := by unfold addR; rw [e1]; rfl
    rw [e1, e2]
    rw [h1] at HG
    clear h1 e1 e2 ha hb
    go_enter Try.func7, Try.ntmps7
    go_wp2_with fail
    refine Calls.mono HG.out ?_
    rintro r w1 ⟨rfl, hb1⟩
    clear HG
    go_wp2
    go_ret2
    exact ⟨_, rfl, SpecV.nil _, hb1⟩
  | true =>
    rw [h1] at HG
    cases h2 : polyB q with
    | false =>
      have e1 : addOk p q = false := by unfold addOk; rw [h1, h2]; rfl
      have e2 : addR p q = [] := by unfold addR; rw [e1]; rfl
      rw [e1, e2]
      rw [h2] at HH
      clear h1 h2 e1 e2 ha hb
      go_enter Try.func7, Try.ntmps7
      go_wp2_with fail
      refine Calls.mono HG.out ?_
      rintro r w1 ⟨rfl, hb1⟩
      clear HG
      go_wp2_with fail
      refine Calls.mono (HH.out _ hb1) ?_
      rintro r w2 ⟨rfl, hb2⟩
      have hB := hb1.trans (hb2.mono hb1.size)
      clear HH hb1 hb2
      go_wp2
      go_ret2
      exact ⟨_, rfl, SpecV.nil _, hB⟩
    | true =>
      rw [h2] at HH
      have fp := fine_of h1 hp
      have fq := fine_of h2 hq
      have lp := poly_len h1
      have lq := poly_len h2
      have e1 : addOk p q = polyB (addP p q) := by unfold addOk; rw [h1, h2]; rfl
      have e2 : addR p q = if polyB (addP p q) = true then addP p q else [] := by unfold addR; rw [e1]
      rw [e1, e2]
      have hal := ha.1
      have hbl := hb.1
      have HAd : Hid (∀ W, Below w.heap.size w W → Calls Try.prog 19 #[.slice a la ca, .slice b lb cb] W fun r w' => ∃ v, r = .returned v ∧ SpecV w' v (addP p q) ∧ Below W.heap.size W w') := fun W hW => l4Add_any a la ca p b lb cb q W (ha.keep hW) (hb.keep hW) (by omega) (by omega) fp fq
      have hln := (addP_ok fp fq).2.1
      have HMd : Hid (∀ v W, SpecV W v (addP p q) → Calls Try.prog 18 #[v] W fun r w' => ∃ v', r = .returned (.tuple #[v', .bool (polyB (addP p q))]) ∧ SpecV w' v' (if polyB (addP p q) = true then addP p q else []) ∧ Below W.heap.size W w') := fun v W hW => l4Made_any v _ W hW (by omega)
      clear h1 h2 e1 e2 ha hb fp fq hp hq
      generalize (if polyB (addP p q) = true then addP p q else []) = R at HMd ⊢
      generalize polyB (addP p q) = G at HMd ⊢
      generalize addP p q = S at HAd HMd
      go_enter Try.func7, Try.ntmps7
      go_wp2_with fail
      refine Calls.mono HG.out ?_
      rintro r w1 ⟨rfl, hb1⟩
      clear HG
      go_wp2_with fail
      refine Calls.mono (HH.out _ hb1) ?_
      rintro r w2 ⟨rfl, hb2⟩
      have hB2 := hb1.trans (hb2.mono hb1.size)
      clear HH hb1 hb2
      go_wp2_with fail
      refine Calls.mono (HAd.out _ hB2) ?_
      rintro r w3 ⟨v3, rfl, s3, hb3⟩
      have hB3 := hB2.trans (hb3.mono hB2.size)
      clear HAd hb3 hB2
      go_wp2_with fail
      refine Calls.mono (HMd.out _ _ s3) ?_
      rintro r w4 ⟨v4, rfl, s4, hb4⟩
      have hB4 := hB3.trans (hb4.mono hB3.size)
      clear HMd hb4 hB3 s3
      go_wp2
      go_ret2
      exact ⟨_, rfl, s4, hB4⟩
end Go.Proofs.Ytpjgjpjfchfmlaa
