/-
  PROVED HERE: what the model's l6Own answers, at every graph of at most a thousand nodes and numbers. No other condition.
-/
import Derived.Test.YtajcddnclahhhaaDoorA6Put
import Derived.Test.YtajcddnclahhhaaDoorP5Union
import Derived.Test.YtajcddnclahhhaaDoorSteps
import Derived.Deep.RegionHeld3
import Derived.Laws.AppendOwnNone
namespace Go.Proofs.YtajcddnclahhhaaDoor
open Go.ChangeShapes Go.WideShapes Go.ChangeAt Go.RowKit
set_option linter.unusedVariables false

theorem ownZ_any (a : Option Addr) (cap : Nat) (w : World) :
    Calls Tryd.prog 66 #[.slice a 0 cap] w fun e w' => ∃ v : Value, e = .returned v ∧ w'.ownsRow w.heap.size 3 1 v 0 (vals []) ∧ Below w.heap.size w w' := by
  obtain ⟨i0, hi, hz0, hz1, hz2⟩ := info_parts infoInt
  have hb0 : Below w.heap.size w (w.alloc (.cells #[] 3)) := (Below.refl _ _).alloc (Nat.le_refl _) _
  have hcs : (empty5 w) = (empty5 w) := rfl
  cases a with
  | none =>
    go_enter Tryd.func66, Tryd.ntmps66
    go_wp2
    go_ret
    exact ⟨_, rfl, empty5 w, hb0⟩
  | some x =>
    go_enter Tryd.func66, Tryd.ntmps66
    go_wp2_with (at_builtin; refine wpList_append_own _ rfl _ _ 23 rfl w.heap.size 3 i0 (.int .i64 0) 1 8 Tryd.underlying23 hi hz0 hz1 hz2 rfl (by decide) _ _ _ rfl (empty5 w) x 0 cap (vals []) rfl rfl (fun j u hj => by simp [vals] at hj) (fun u hu => by simp [vals] at hu) (by unfold maxLen; omega) (by omega) (by simp) ?_; intro v' w4 hown4 hg4 _)
    go_ret
    rw [Nat.zero_add, List.nil_append] at hown4
    exact ⟨_, rfl, hown4, hb0.grown hg4 (by simp) (fun r hr => by cases hr; exact Nat.le_refl _)⟩
theorem ownI_any (a : Option Addr) (len cap : Nat) (l : List Int) (w : World) (h : Sl w a len l) (hn : len ≤ 1048576) :
    Calls Tryd.prog 66 #[.slice a len cap] w fun e w' => ∃ v : Value, e = .returned v ∧ w'.ownsRow w.heap.size 3 1 v len (vals l) ∧ Below w.heap.size w w' := by
  by_cases h0 : len = 0
  · subst h0
    have : l = [] := List.length_eq_zero_iff.1 h.1
    subst this
    exact ownZ_any a cap w
  · exact own5_any a len cap l w h (by omega) hn
/-- A row of its own as kids. -/
theorem kid_of {w : World} {lo : Nat} {v : Value} {l : List Int} (h : w.ownsRow lo 3 1 v l.length (vals l)) (hl : l.length ≤ 9223372036854775807) : KidAt w false (fun b => lo ≤ b) v l := by
  obtain ⟨a, c, rfl, hs⟩ := Sl.vals h
  obtain ⟨a', c', e, hc⟩ := row_slice h
  cases e
  exact ⟨_, _, rfl, hc, hl, hs, fun x hx => h.lt x hx, fun e => by cases e⟩
theorem take_snoc (p : List EN) {k : Nat} (h : k < p.length) : p.take (k + 1) = p.take k ++ [p.getD k e0] := by
  rw [List.take_succ_eq_append_getElem h, getDE_lt h]
end Go.Proofs.YtajcddnclahhhaaDoor
