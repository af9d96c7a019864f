/-
  PROVED HERE: what the model says of the value of a term, at every list of nodes and every list of values. No other condition.
-/
import Derived.Test.YtoppbchacdpenaaDoorEvalDo
namespace Go.Proofs.YtoppbchacdpenaaDoor
open Go.ChangeShapes Go.WideShapes Go.ChangeAt Go.RowKit
set_option linter.unusedVariables false

/-- What a good term comes to at four values. -/
def evalT (l : List (Int × Int)) (env : List Int) : Option Int := evalF l env l.length (l.length - 1)
/-- Whether there is an answer. -/
def evalOk (l : List (Int × Int)) (env : List Int) : Bool := goodB l && decide (env.length = 4)
def evalV (l : List (Int × Int)) (env : List Int) : Int := if evalOk l env = true then valO (evalT l env) else 0
def evalTr (l : List (Int × Int)) (env : List Int) : Bool := if evalOk l env = true then trapO (evalT l env) else false

theorem specEval_any (a : Option Addr) (len cap : Nat) (l : List (Int × Int)) (v : Option Addr) (lv cap' : Nat) (env : List Int) (w : World) (h : NSl w a len l) (he : Sl w v lv env) (hm : len ≤ 9223372036854775807) (hm' : lv ≤ 9223372036854775807) :
    Calls Tryd.prog 14 #[.slice a len cap, .slice v lv cap'] w fun e w' => e = .returned (.tuple #[.int .i64 (evalV l env), .bool (evalTr l env), .bool (evalOk l env)]) ∧ Below w.heap.size w w' := by
  have HG := specGood_any a len cap l w h hm
  have hll := h.1
  have hel := he.1
  by_cases hg : goodB l = true
  · by_cases h4 : lv = 4
    · have hok : evalOk l env = true := by unfold evalOk; rw [hg, hel, h4]; rfl
      have e1 : evalV l env = valO (evalT l env) := by unfold evalV; rw [if_pos hok]
      have e2 : evalTr l env = trapO (evalT l env) := by unfold evalTr; rw [if_pos hok]
      rw [e1, e2, hok]
      obtain ⟨hp, g1, g2⟩ := good_pile hg
      subst h4
      have E := eval_any hp env a len cap v cap' (by omega) hll len (len - 1) (by omega) (by omega)
      unfold EvalAt at E
      rw [show ((len - 1 : Nat) : Int) = (len : Int) - 1 from by omega] at E
      rw [show evalT l env = evalF l env len (len - 1) from by unfold evalT; rw [hll]]
      generalize valO (evalF l env len (len - 1)) = V at E ⊢
      generalize trapO (evalF l env len (len - 1)) = T at E ⊢
      rw [hg] at HG
      clear e1 e2 hok hg
      have HG' := (show Hid _ from HG)
      have E' := (show Hid _ from E)
      clear HG E
      have i1 : (1 : Int) ≤ len := by omega
      have i2 : (len : Int) ≤ 40 := by omega
      go_enter Tryd.func14, Tryd.ntmps14
      go_wp2_with fail
      refine Calls.mono HG'.out ?_
      rintro e w1 ⟨rfl, hb1⟩
      go_wp2_with fail
      refine (E'.out _ (h.keep hb1) (he.keep hb1)).mono ?_
      rintro e w2 ⟨rfl, hb2⟩
      have hB := hb1.trans (hb2.mono hb1.size)
      go_wp2
      go_ret3
      exact ⟨rfl, hB⟩
    · have hok : evalOk l env = false := by unfold evalOk; rw [hel, decide_eq_false h4, Bool.and_false]
      have e1 : evalV l env = 0 := by unfold evalV; rw [if_neg (by rw [hok]; decide)]
      have e2 : evalTr l env = false := by unfold evalTr; rw [if_neg (by rw [hok]; decide)]
      rw [e1, e2, hok]
      rw [hg] at HG
      have i4 : ((lv : Int) != 4) = true := by rw [bne_iff_ne]; omega
      have HG' := (show Hid _ from HG)
      clear HG hg e1 e2 hok
      go_enter Tryd.func14, Tryd.ntmps14
      go_wp2_with fail
      refine Calls.mono HG'.out ?_
      rintro e w1 ⟨rfl, hb1⟩
      go_wp2
      go_ret3
      exact ⟨rfl, hb1⟩
  · have hg' : goodB l = false := by simpa using hg
    have hok : evalOk l env = false := by unfold evalOk; rw [hg', Bool.false_and]
    have e1 : evalV l env = 0 := by unfold evalV; rw [if_neg (by rw [hok]; decide)]
    have e2 : evalTr l env = false := by unfold evalTr; rw [if_neg (by rw [hok]; decide)]
    rw [e1, e2, hok]
    rw [hg'] at HG
    have HG' := (show Hid _ from HG)
    clear HG hg hg' e1 e2 hok
    go_enter Tryd.func14, Tryd.ntmps14
    go_wp2_with fail
    refine Calls.mono HG'.out ?_
    rintro e w1 ⟨rfl, hb1⟩
    go_wp2
    go_ret3
    exact ⟨rfl, hb1⟩
end Go.Proofs.YtoppbchacdpenaaDoor
