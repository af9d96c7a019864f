/-
  PROVED HERE: FnExactOddInverse: at every number the program's OddInverse answers as its model does. No condition.
-/
import Derived.Test.YtapbneeggdknkaaRows
import Derived.Test.YtapbneeggdknkaaMath
import Derived.WalkKit
import Derived.ProofKit
import Derived.OpenShut
import Derived.Handy
namespace Go.Proofs.Ytapbneeggdknkaa.fnExactOddInverse
open Go.ChangeShapes Go.WideShapes Go.ChangeAt Go.RowKit
open Odd
set_option linter.unusedVariables false
theorem own : ownKnob Try.prog.godebug = none := by kernel_rfl
theorem impl_even (a : Int) (w : World) (h : a % 2 = 0) :
    Calls Try.prog 8 #[.int .i64 a] w fun e w' => e = .returned (.tuple #[.int .i64 0, .bool false]) ∧ w' = w := by
  have hb : (bits BinOp.and IntKind.i64 a 1 == 0) = true := by rw [and1, h]; rfl
  go_enter Try.func8, Try.ntmps8
  go_wp2
  go_ret2
  exact ⟨rfl, rfl⟩
theorem spec_even (a : Int) (w : World) (h : a % 2 = 0) :
    Calls Try.prog 7 #[.int .i64 a] w fun e w' => e = .returned (.tuple #[.int .i64 0, .bool false]) ∧ w' = w := by
  have hb : (bits BinOp.and IntKind.i64 a 1 == 0) = true := by rw [and1, h]; rfl
  go_enter Try.func7, Try.ntmps7
  go_wp2
  go_ret2
  exact ⟨rfl, rfl⟩
/-- Newton's steps, so many. -/
def steps (a : Int) : Nat → Int
  | 0 => a
  | n + 1 => newton a (steps a n)
theorem impl_odd (a : Int) (w : World) (h : a % 2 = 1) :
    Calls Try.prog 8 #[.int .i64 a] w fun e w' => e = .returned (.tuple #[.int .i64 (inv5 a), .bool true]) ∧ w' = w := by
  have hb : (bits BinOp.and IntKind.i64 a 1 == 0) = false := by rw [and1, h]; rfl
  go_enter Try.func8, Try.ntmps8
  go_wp2
  go_loop [4, 9] (fun x i => ∃ k : Nat, k ≤ 5 ∧ i = .int .i64 k ∧ x = .int .i64 (steps a k)) (fun _ i => 5 - (intOf i).toNat)
  case atStart => exact ⟨0, Nat.zero_le _, rfl, rfl⟩
  case round =>
    obtain ⟨k, hk, rfl, rfl⟩ := hrel
    by_cases hlt : k < 5
    · go_wp2
      go_round
      case rel => exact ⟨k + 1, by omega, by go_num, rfl⟩
      case measure => simp [intOf]; omega
    · go_wp2
      obtain rfl : k = 5 := by omega
      go_ret2
      exact ⟨rfl, rfl⟩
theorem off_zero (a out : Int) (h : (bits BinOp.and IntKind.i64 (wrap64 (a * out)) 1 != 1) = true) : off a out 0 := by
  rw [and1] at h; unfold off; simpa using h
theorem on_zero (a out : Int) (h : (bits BinOp.and IntKind.i64 (wrap64 (a * out)) 1 != 1) = false) : ¬ off a out 0 := by
  rw [and1] at h; unfold off; simpa using h
theorem off_more (a out : Int) (k : Nat) (h0 : k ≠ 0) (h : (bits BinOp.and IntKind.i64 (wrap64 (a * out) / 2 ^ k) 1 != 0) = true) : off a out k := by
  rw [and1] at h; unfold off; rw [if_neg h0]; simpa using h
theorem on_more (a out : Int) (k : Nat) (h0 : k ≠ 0) (h : (bits BinOp.and IntKind.i64 (wrap64 (a * out) / 2 ^ k) 1 != 0) = false) : ¬ off a out k := by
  rw [and1] at h; unfold off; rw [if_neg h0]; simpa using h
theorem spec_odd (a : Int) (w : World) (h : a % 2 = 1) :
    Calls Try.prog 7 #[.int .i64 a] w fun e w' => e = .returned (.tuple #[.int .i64 (inv5 a), .bool true]) ∧ w' = w := by
  have hb : (bits BinOp.and IntKind.i64 a 1 == 0) = false := by rw [and1, h]; rfl
  go_enter Try.func7, Try.ntmps7
  go_wp2
  go_loop [4, 5] (fun x i => ∃ (k : Nat) (out : Int), k ≤ 64 ∧ i = .int .i64 k ∧ x = .int .i64 out ∧ (-9223372036854775808 ≤ out ∧ out ≤ 9223372036854775807) ∧ Hid ((2 : Int) ^ k ∣ a * out - 1)) (fun _ i => 64 - (intOf i).toNat)
  case atStart => exact ⟨0, 1, Nat.zero_le _, rfl, rfl, by omega, ⟨a * 1 - 1, by simp⟩⟩
  case round =>
    obtain ⟨k, out, hk, rfl, rfl, hr, hd⟩ := hrel
    by_cases hlt : k < 64
    · have hs := off_step a out k hlt h hd.out
      have hs' : Hid ((off a out k → (2 : Int) ^ (k + 1) ∣ a * wrap64 (out + wrap64 (2 ^ k)) - 1) ∧ (¬ off a out k → (2 : Int) ^ (k + 1) ∣ a * out - 1)) := hs
      clear hs
      by_cases h0 : k = 0
      · subst h0
        go_wp2
        · refine ⟨⟨1, wrap64 (out + 1), by omega, rfl, rfl, wrap64_range _, ?_⟩, by simp [intOf]⟩
          have hq := hs'.out.1 (off_zero a out ‹_›)
          rw [show wrap64 (2 ^ 0) = 1 from by rw [Int.pow_zero]; unfold wrap64; omega] at hq
          exact hq
        · refine ⟨⟨1, out, by omega, rfl, rfl, hr, ?_⟩, by simp [intOf]⟩
          exact hs'.out.2 (on_zero a out ‹_›)
      · have h1 : (((k : Nat) : Int) == 0) = false := by simp; omega
        go_wp2
        · refine ⟨⟨k + 1, _, by omega, by go_num, rfl, wrap64_range _, ?_⟩, by simp [intOf]; omega⟩
          exact hs'.out.1 (off_more a out k h0 ‹_›)
        · refine ⟨⟨k + 1, _, by omega, by go_num, rfl, hr, ?_⟩, by simp [intOf]; omega⟩
          exact hs'.out.2 (on_more a out k h0 ‹_›)
    · go_wp2
      obtain rfl : k = 64 := by omega
      have hu : out = inv5 a := uniq a out (inv5 a) hd.out (inv5_dvd a h) hr (wrap64_range _)
      go_ret2
      exact ⟨by rw [hu]; rfl, rfl⟩

theorem walk (a0 : Int) (w0 : (Lit.int .i64 a0).wf = true) (w : World) :
    Calls Try.prog 4 #[.int .i64 a0] w fun e w' => e = .returned (.bool true) ∧ Grown w w' := by
  rcases Int.emod_two_eq a0 with h | h
  · go_enter Try.func4, Try.ntmps4
    go_wp2_with (first | (go_at_call 7; refine (spec_even _ _ h).mono ?_; rintro e w' ⟨rfl, rfl⟩) | (go_at_call 8; refine (impl_even _ _ h).mono ?_; rintro e w' ⟨rfl, rfl⟩))
    go_ret
    exact ⟨rfl, Grown.refl _⟩
  · go_enter Try.func4, Try.ntmps4
    go_wp2_with (first | (go_at_call 7; refine (spec_odd _ _ h).mono ?_; rintro e w' ⟨rfl, rfl⟩) | (go_at_call 8; refine (impl_odd _ _ h).mono ?_; rintro e w' ⟨rfl, rfl⟩))
    go_ret
    exact ⟨rfl, Grown.refl _⟩

/-! ### THE ROW's STEP: WRITTEN OUT: LEAVE IT -/
set_option maxRecDepth 100000 in
theorem lifted (os : Os) (started : os.Started) (H : Type) (enc : TypeId × Value → H) :
    ReturnsInHanded {} Try.checked os 4 .any (Rows.fnExactOddInverseSpec.pre6 enc Try.prog Try.f4 Rows.fnExactOddInverseRow.domain false) (Rows.fnExactOddInverseSpec.post enc Try.prog Try.f4 false true false false) := by
  refine returnsInHanded_of_change (C := Try.checked) own started (by kernel_rfl) Try.func4
    (ChangeSpec.witness6 (enc := enc) (C := Try.checked) false ⟨#[], #[.int .i64 0], []⟩ 8 (by kernel_rfl) (by kernel_rfl) (by kernel_rfl) (by kernel_rfl)) ?_
  intro W base args ds gs before hval0 hW hcnd _
  have hval : ∀ (j : Nat) t v, Try.f4.params[j]? = some t → args[j]? = some v → Value.okWide Try.prog W .any base t v := hval0
  have hW' := hW
  obtain ⟨p, q, hA0, hV, rfl, hfz, hnd⟩ := hW
  have hA : DataW.TrodAll enc Try.prog W 0 (fun _ => true) true Try.f4.params.toList args.toList ds p := hA0
  rw [Try.params4] at hA hval
  obtain ⟨v0, vs0, d0, ds0, p0, q0, hargs, rfl, rfl, h0, r0⟩ := trodAll_cons hA
  obtain ⟨rfl, rfl, rfl⟩ := trodAll_nil r0
  obtain rfl : args = #[v0] := by cases args; simp_all
  obtain ⟨rfl, rfl⟩ := trodVars_none hV
  obtain ⟨a0, rfl, rfl, rfl, w0⟩ := open_int Try.underlying2 (hval 0 2 v0 rfl rfl) h0
  clear hA0 hval0
  simp only [List.append_nil] at hW'
  refine (walk a0 w0 W).mono fun e W' ⟨he, hg⟩ => ?_
  subst he
  exact ⟨_, rfl, post_of_same (pa := []) (pv := []) hW' (fun _ _ _ => (trodAll_cons_mk (shut_bool Try.underlying4 _) trodAll_mk0)) (fun sp _ => (trodAll_cons_mk (shut_int Try.underlying2 w0) trodAll_mk0)) (fun _ _ => rfl) rfl
    (hg.frame _) hg.2.1 (ok_one (by kernel_rfl) rfl (okWide_bool_mk Try.underlying4 _))⟩

theorem over : Rows.fnExactOddInverseRow.holds Try.pinned (OpenSpec.ofChange Rows.fnExactOddInverseSpec) :=
  OpenClaim.holds_of_wide 4 Try.f4 rfl rfl rfl rfl rfl rfl rfl ⟨rfl, rfl, rfl, rfl, rfl⟩ rfl rfl rfl rfl rfl (by kernel_rfl) Try.func4 (by kernel_rfl)
    (of_decide_eq_true (by kernel_rfl)) (by unfold Func.isWrapper; first | (rw [if_pos (by decide +kernel)]; kernel_rfl) | (rw [if_neg (by decide +kernel)]; exact ⟨rfl, rfl⟩))
    (fun os started H enc _ => lifted os started H enc)

/-- ████ THE STATEMENT ████ -/
theorem proved : Rows.FnExactOddInverseSaid :=
  over
end Go.Proofs.Ytapbneeggdknkaa.fnExactOddInverse
namespace Go.Proofs.Ytapbneeggdknkaa
theorem odd_holds : Rows.FnExactOddInverseSaid := fnExactOddInverse.proved
#print axioms odd_holds
end Go.Proofs.Ytapbneeggdknkaa
