/-
  PROVED HERE: what the model's and the program's HoldsAt answer, at every two lists of nodes and every list of values, in a world whose table of arities is laid. No other condition.
-/
import Derived.Test.YtbchehpggoampaaDoorR8Good
import Derived.Test.YtbchehpggoampaaDoorEvalTerm
import Derived.Test.YtbchehpggoampaaDoorIEvalGood
namespace Go.Proofs.YtbchehpggoampaaDoor
open Go.ChangeShapes Go.WideShapes Go.ChangeAt Go.RowKit
set_option linter.unusedVariables false

def holdsOk (p q : List (Int × Int)) (env : List Int) : Bool := ruleB p q && decide (env.length = 4)
def holdsB (p q : List (Int × Int)) (env : List Int) : Bool := if holdsOk p q env = true then (trapO (evalT p env) == trapO (evalT q env)) && (valO (evalT p env) == valO (evalT q env)) else false
theorem patB_good {p : List (Int × Int)} (h : patB p = true) : goodB p = true ∧ p.length ≤ 7 := by
  unfold patB at h
  simp only [Bool.and_eq_true, decide_eq_true_eq] at h
  exact h
theorem ruleB_good {p q : List (Int × Int)} (h : ruleB p q = true) : (goodB p = true ∧ p.length ≤ 7) ∧ goodB q = true ∧ q.length ≤ 7 := by
  unfold ruleB at h
  simp only [Bool.and_eq_true] at h
  exact ⟨patB_good h.1, patB_good h.2⟩
set_option maxHeartbeats 1600000 in
theorem specHolds_any (a b v : Option Addr) (len cap lb cb lv cv : Nat) (p q : List (Int × Int)) (env : List Int) (w : World) (h : NSl w a len p) (hl : NSl w b lb q) (he : Sl w v lv env) (hm : len ≤ 9223372036854775807) (hm2 : lb ≤ 9223372036854775807) (hm3 : lv ≤ 9223372036854775807) :
    Calls Tryd.prog 27 #[.agg #[.slice a len cap, .slice b lb cb], .slice v lv cv] w fun e w' => e = .returned (.tuple #[.bool (holdsB p q env), .bool (holdsOk p q env)]) ∧ Below w.heap.size w w' := by
  have hll := h.1
  have hl1 := hl.1
  have hel := he.1
  obtain ⟨W1, hW1⟩ : ∃ W1, w.alloc (.cells #[.slice a len cap, .slice b lb cb] 29) = W1 := ⟨_, rfl⟩
  have hb1 : Below w.heap.size w W1 := by rw [← hW1]; exact (Below.refl _ _).alloc (Nat.le_refl _) _
  have n0 : W1.cell? ⟨w.heap.size, 0, none⟩ = some (.slice a len cap) := by rw [← hW1]; simp [go_sem]
  have n1 : W1.cell? ⟨w.heap.size, 1, none⟩ = some (.slice b lb cb) := by rw [← hW1]; simp [go_sem]
  have hs1 : w.heap.size < W1.heap.size := by rw [← hW1]; simp
  have HB : Hid (∀ W, Below W1.heap.size W1 W → Below w.heap.size w W) := fun W hW => hb1.trans (hW.mono hb1.size)
  have HG := (show Hid _ from specRule_any a b len cap lb cb p q W1 (h.keep hb1) (hl.keep hb1) hm hm2)
  cases hr : ruleB p q with
  | false =>
    rw [hr] at HG
    have e1 : holdsOk p q env = false := by unfold holdsOk; rw [hr]; rfl
    have e2 : holdsB p q env = false := by unfold holdsB; rw [e1]; rfl
    rw [e1, e2]
    clear h hl he hb1 hr e1 e2
    go_enter Tryd.func27, Tryd.ntmps27
    go_wp2_with fail
    (try rw [hW1])
    refine Calls.mono HG.out ?_
    rintro e w2 ⟨rfl, hb2⟩
    have HB2 := (show Hid _ from HB.out _ hb2)
    clear HG hW1
    go_wp2
    go_ret2
    exact ⟨rfl, HB2.out⟩
  | true =>
    rw [hr] at HG
    by_cases h4 : lv = 4
    · have e1 : holdsOk p q env = true := by unfold holdsOk; rw [hr, hel, h4]; rfl
      have e2 : holdsB p q env = ((trapO (evalT p env) == trapO (evalT q env)) && (valO (evalT p env) == valO (evalT q env))) := by unfold holdsB; rw [if_pos e1]
      rw [e1, e2]
      obtain ⟨⟨gp, gp7⟩, gq, gq7⟩ := ruleB_good hr
      subst h4
      have hEv : ∀ (g : Option Addr) (n c : Nat) (r : List (Int × Int)), goodB r = true → NSl w g n r → r.length ≤ 7 → n = r.length → Hid (∀ W, Below W1.heap.size W1 W → Calls Tryd.prog 50 #[.slice g n c, .int .i64 ((n : Int) - 1), .slice v 4 cv] W fun e w' => e = .returned (.tuple #[.int .i64 (valO (evalT r env)), .bool (trapO (evalT r env))]) ∧ Below W.heap.size W w') := fun g n c r gr hr h7 hn W hW => by
        obtain ⟨hp, g1, g2⟩ := good_pile gr
        have E := eval_any hp env g n c v cv (by omega) hn.symm n (n - 1) (by omega) (by omega)
        unfold EvalAt at E
        rw [show ((n - 1 : Nat) : Int) = (n : Int) - 1 from by omega] at E
        rw [show evalT r env = evalF r env n (n - 1) from by unfold evalT; rw [← hn]]
        exact E W ((hr.keep hb1).keep hW) ((he.keep hb1).keep hW)
      have HE1 := hEv a len cap p gp h gp7 hll.symm
      have HE2 := hEv b lb cb q gq hl gq7 hl1.symm
      clear hEv
      have i0 := good_pile gp
      have i1 := good_pile gq
      have j1 : (1 : Int) ≤ len := by omega
      have j2 : (len : Int) ≤ 40 := by omega
      have j3 : (1 : Int) ≤ lb := by omega
      have j4 : (lb : Int) ≤ 40 := by omega
      clear i0 i1
      generalize valO (evalT p env) = V1 at HE1 ⊢
      generalize trapO (evalT p env) = T1 at HE1 ⊢
      generalize valO (evalT q env) = V2 at HE2 ⊢
      generalize trapO (evalT q env) = T2 at HE2 ⊢
      clear h hl he hb1 hr e1 e2 gp gq
      by_cases hV : V1 = V2
      · have hv1 : (V1 == V2) = true := by simpa using hV
        rw [hv1]
        subst hV
        cases T1 <;> cases T2
        all_goals
          go_enter Tryd.func27, Tryd.ntmps27
          go_wp2_with fail
          (try rw [hW1])
          refine Calls.mono HG.out ?_
          rintro e w2 ⟨rfl, hb2⟩
          have q0 := (hb2.cell (p := ⟨w.heap.size, 0, none⟩) hs1).trans n0
          have HB2 := (show Hid _ from hb2)
          clear HG hW1 hb2
          go_wp2_with fail
          refine Calls.mono (HE1.out _ HB2.out) ?_
          rintro e w3 ⟨rfl, hb3⟩
          have hB3 := HB2.out.trans (hb3.mono HB2.out.size)
          have q1 := (hB3.cell (p := ⟨w.heap.size, 1, none⟩) hs1).trans n1
          have HB3 := (show Hid _ from hB3)
          clear hb3 hB3 q0
          go_wp2_with fail
          refine Calls.mono (HE2.out _ HB3.out) ?_
          rintro e w4 ⟨rfl, hb4⟩
          have HB4 := (show Hid _ from HB.out _ (HB3.out.trans (hb4.mono HB3.out.size)))
          clear hb4
          go_wp2
          go_ret2
          exact ⟨by first | rfl | simp, HB4.out⟩
      · have hv1 : (V1 == V2) = false := by simpa using hV
        rw [hv1]
        cases T1 <;> cases T2
        all_goals
          go_enter Tryd.func27, Tryd.ntmps27
          go_wp2_with fail
          (try rw [hW1])
          refine Calls.mono HG.out ?_
          rintro e w2 ⟨rfl, hb2⟩
          have q0 := (hb2.cell (p := ⟨w.heap.size, 0, none⟩) hs1).trans n0
          have HB2 := (show Hid _ from hb2)
          clear HG hW1 hb2
          go_wp2_with fail
          refine Calls.mono (HE1.out _ HB2.out) ?_
          rintro e w3 ⟨rfl, hb3⟩
          have hB3 := HB2.out.trans (hb3.mono HB2.out.size)
          have q1 := (hB3.cell (p := ⟨w.heap.size, 1, none⟩) hs1).trans n1
          have HB3 := (show Hid _ from hB3)
          clear hb3 hB3 q0
          go_wp2_with fail
          refine Calls.mono (HE2.out _ HB3.out) ?_
          rintro e w4 ⟨rfl, hb4⟩
          have HB4 := (show Hid _ from HB.out _ (HB3.out.trans (hb4.mono HB3.out.size)))
          clear hb4
          go_wp2
          go_ret2
          exact ⟨by first | rfl | simp, HB4.out⟩
    · have e1 : holdsOk p q env = false := by unfold holdsOk; rw [hel, decide_eq_false h4, Bool.and_false]
      have e2 : holdsB p q env = false := by unfold holdsB; rw [e1]; rfl
      rw [e1, e2]
      have i4 : ((lv : Int) != 4) = true := by rw [bne_iff_ne]; omega
      clear h hl he hb1 hr e1 e2
      go_enter Tryd.func27, Tryd.ntmps27
      go_wp2_with fail
      (try rw [hW1])
      refine Calls.mono HG.out ?_
      rintro e w2 ⟨rfl, hb2⟩
      have HB2 := (show Hid _ from HB.out _ hb2)
      clear HG hW1
      go_wp2
      go_ret2
      exact ⟨rfl, HB2.out⟩
set_option maxHeartbeats 1600000 in
theorem implHolds_any (a b v : Option Addr) (len cap lb cb lv cv : Nat) (p q : List (Int × Int)) (env : List Int) (w : World) (ht : Tab w) (h : NSl w a len p) (hl : NSl w b lb q) (he : Sl w v lv env) (hm : len ≤ 9223372036854775807) (hm2 : lb ≤ 9223372036854775807) (hm3 : lv ≤ 9223372036854775807) :
    Calls Tryd.prog 29 #[.agg #[.slice a len cap, .slice b lb cb], .slice v lv cv] w fun e w' => e = .returned (.tuple #[.bool (holdsB p q env), .bool (holdsOk p q env)]) ∧ Below w.heap.size w w' := by
  have hll := h.1
  have hl1 := hl.1
  have hel := he.1
  obtain ⟨W1, hW1⟩ : ∃ W1, w.alloc (.cells #[.slice a len cap, .slice b lb cb] 29) = W1 := ⟨_, rfl⟩
  have hb1 : Below w.heap.size w W1 := by rw [← hW1]; exact (Below.refl _ _).alloc (Nat.le_refl _) _
  have n0 : W1.cell? ⟨w.heap.size, 0, none⟩ = some (.slice a len cap) := by rw [← hW1]; simp [go_sem]
  have n1 : W1.cell? ⟨w.heap.size, 1, none⟩ = some (.slice b lb cb) := by rw [← hW1]; simp [go_sem]
  have hs1 : w.heap.size < W1.heap.size := by rw [← hW1]; simp
  have HB : Hid (∀ W, Below W1.heap.size W1 W → Below w.heap.size w W) := fun W hW => hb1.trans (hW.mono hb1.size)
  have HG := (show Hid _ from implRule_any a b len cap lb cb p q W1 (ht.keeps hb1) (h.keep hb1) (hl.keep hb1) hm hm2)
  cases hr : ruleB p q with
  | false =>
    rw [hr] at HG
    have e1 : holdsOk p q env = false := by unfold holdsOk; rw [hr]; rfl
    have e2 : holdsB p q env = false := by unfold holdsB; rw [e1]; rfl
    rw [e1, e2]
    clear h hl he hb1 hr e1 e2 ht
    go_enter Tryd.func29, Tryd.ntmps29
    go_wp2_with fail
    (try rw [hW1])
    refine Calls.mono HG.out ?_
    rintro e w2 ⟨rfl, hb2⟩
    have HB2 := (show Hid _ from HB.out _ hb2)
    clear HG hW1
    go_wp2
    go_ret2
    exact ⟨rfl, HB2.out⟩
  | true =>
    rw [hr] at HG
    by_cases h4 : lv = 4
    · have e1 : holdsOk p q env = true := by unfold holdsOk; rw [hr, hel, h4]; rfl
      have e2 : holdsB p q env = ((trapO (evalT p env) == trapO (evalT q env)) && (valO (evalT p env) == valO (evalT q env))) := by unfold holdsB; rw [if_pos e1]
      rw [e1, e2]
      obtain ⟨⟨gp, gp7⟩, gq, gq7⟩ := ruleB_good hr
      subst h4
      have hEv : ∀ (g : Option Addr) (n c : Nat) (r : List (Int × Int)), goodB r = true → NSl w g n r → n ≤ 9223372036854775807 → Hid (∀ W, Below W1.heap.size W1 W → Calls Tryd.prog 51 #[.slice g n c, .slice v 4 cv] W fun e w' => e = .returned (.tuple #[.int .i64 (valO (evalT r env)), .bool (trapO (evalT r env)), .bool true]) ∧ Below W.heap.size W w') := fun g n c r gr hr hn W hW => by
        have ok : evalOk r env = true := by unfold evalOk; rw [gr, hel]; rfl
        have E := implEval_any g n c r v 4 cv env W ((ht.keeps hb1).keeps hW) ((hr.keep hb1).keep hW) ((he.keep hb1).keep hW) hn (by omega)
        unfold evalV evalTr at E
        rw [ok, if_pos rfl, if_pos rfl] at E
        exact E
      have HE1 := hEv a len cap p gp h hm
      have HE2 := hEv b lb cb q gq hl hm2
      clear hEv
      generalize valO (evalT p env) = V1 at HE1 ⊢
      generalize trapO (evalT p env) = T1 at HE1 ⊢
      generalize valO (evalT q env) = V2 at HE2 ⊢
      generalize trapO (evalT q env) = T2 at HE2 ⊢
      clear h hl he hb1 hr e1 e2 gp gq ht
      by_cases hV : V1 = V2
      · have hv1 : (V1 == V2) = true := by simpa using hV
        rw [hv1]
        subst hV
        cases T1 <;> cases T2
        all_goals
          go_enter Tryd.func29, Tryd.ntmps29
          go_wp2_with fail
          (try rw [hW1])
          refine Calls.mono HG.out ?_
          rintro e w2 ⟨rfl, hb2⟩
          have q0 := (hb2.cell (p := ⟨w.heap.size, 0, none⟩) hs1).trans n0
          have HB2 := (show Hid _ from hb2)
          clear HG hW1 hb2
          go_wp2_with fail
          refine Calls.mono (HE1.out _ HB2.out) ?_
          rintro e w3 ⟨rfl, hb3⟩
          have hB3 := HB2.out.trans (hb3.mono HB2.out.size)
          have q1 := (hB3.cell (p := ⟨w.heap.size, 1, none⟩) hs1).trans n1
          have HB3 := (show Hid _ from hB3)
          clear hb3 hB3 q0
          go_wp2_with fail
          refine Calls.mono (HE2.out _ HB3.out) ?_
          rintro e w4 ⟨rfl, hb4⟩
          have HB4 := (show Hid _ from HB.out _ (HB3.out.trans (hb4.mono HB3.out.size)))
          clear hb4
          go_wp2
          go_ret2
          exact ⟨by first | rfl | simp, HB4.out⟩
      · have hv1 : (V1 == V2) = false := by simpa using hV
        rw [hv1]
        cases T1 <;> cases T2
        all_goals
          go_enter Tryd.func29, Tryd.ntmps29
          go_wp2_with fail
          (try rw [hW1])
          refine Calls.mono HG.out ?_
          rintro e w2 ⟨rfl, hb2⟩
          have q0 := (hb2.cell (p := ⟨w.heap.size, 0, none⟩) hs1).trans n0
          have HB2 := (show Hid _ from hb2)
          clear HG hW1 hb2
          go_wp2_with fail
          refine Calls.mono (HE1.out _ HB2.out) ?_
          rintro e w3 ⟨rfl, hb3⟩
          have hB3 := HB2.out.trans (hb3.mono HB2.out.size)
          have q1 := (hB3.cell (p := ⟨w.heap.size, 1, none⟩) hs1).trans n1
          have HB3 := (show Hid _ from hB3)
          clear hb3 hB3 q0
          go_wp2_with fail
          refine Calls.mono (HE2.out _ HB3.out) ?_
          rintro e w4 ⟨rfl, hb4⟩
          have HB4 := (show Hid _ from HB.out _ (HB3.out.trans (hb4.mono HB3.out.size)))
          clear hb4
          go_wp2
          go_ret2
          exact ⟨by first | rfl | simp, HB4.out⟩
    · have e1 : holdsOk p q env = false := by unfold holdsOk; rw [hel, decide_eq_false h4, Bool.and_false]
      have e2 : holdsB p q env = false := by unfold holdsB; rw [e1]; rfl
      rw [e1, e2]
      have i4 : ((lv : Int) != 4) = true := by rw [bne_iff_ne]; omega
      clear h hl he hb1 hr e1 e2 ht
      go_enter Tryd.func29, Tryd.ntmps29
      go_wp2_with fail
      (try rw [hW1])
      refine Calls.mono HG.out ?_
      rintro e w2 ⟨rfl, hb2⟩
      have HB2 := (show Hid _ from HB.out _ hb2)
      clear HG hW1
      go_wp2
      go_ret2
      exact ⟨rfl, HB2.out⟩
end Go.Proofs.YtbchehpggoampaaDoor
