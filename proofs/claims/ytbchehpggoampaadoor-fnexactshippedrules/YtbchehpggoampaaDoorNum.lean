/-
  PROVED HERE: what NumText answers, the program's and the model's: a number's decimal text. The table of powers of ten is laid. No other condition.
-/
import Derived.Test.YtbchehpggoampaaDoorLong
import Derived.Test.YtbchehpggoampaaDoorBase
import Derived.Test.YtbchehpggoampaaDoorLay
import Derived.Lib.SmallJoins
import Derived.Lib.AppendIntMem
namespace Go.Proofs.YtbchehpggoampaaDoor
open Go.ChangeShapes Go.WideShapes Go.ChangeAt Go.RowKit
set_option linter.unusedVariables false

/-- The table of powers of ten lies as it is laid. -/
def Pow (w : World) : Prop := Lib.TabIs Tryd.prog w "internal/strconv.uint64pow10" .u64 Lib.pow10Tab

theorem minus_app (L : List UInt8) : ((⟨#[45]⟩ : ByteArray) ++ ⟨L.toArray⟩ : ByteArray) = ⟨(45 :: L).toArray⟩ := by
  simp [ByteArray.mk_append_mk]
theorem spec_pos (u : Nat) (w : World) (h : u ≤ 9223372036854775807) :
    Calls Tryd.prog 56 #[.int .i64 u] w fun e w' => e = .returned (.string ⟨(Lib.decDigits u).toArray⟩) ∧ Below w.heap.size w w' := by
  have H : Hid (∀ w, Calls Tryd.prog 69 #[.int .u64 u] w fun e w' => e = .returned (.string ⟨(Lib.decDigits u).toArray⟩) ∧ Below w.heap.size w w') := fun w => long_any u w (by omega)
  generalize Lib.decDigits u = L at H ⊢
  go_enter Tryd.func56, Tryd.ntmps56
  go_wp2_with fail
  refine (H.out _).mono ?_
  rintro e w1 ⟨rfl, hb⟩
  go_wp2
  go_ret
  exact ⟨rfl, hb⟩
theorem spec_neg (u : Nat) (w : World) (h0 : 1 ≤ u) (h : u ≤ 9223372036854775808) :
    Calls Tryd.prog 56 #[.int .i64 (-u)] w fun e w' => e = .returned (.string ⟨(45 :: Lib.decDigits u).toArray⟩) ∧ Below w.heap.size w w' := by
  have H : Hid (∀ w, Calls Tryd.prog 69 #[.int .u64 u] w fun e w' => e = .returned (.string ⟨(Lib.decDigits u).toArray⟩) ∧ Below w.heap.size w w') := fun w => long_any u w (by omega)
  have hn : ¬ (0 : Int) ≤ -u := by omega
  have hl : (Lib.decDigits u).length ≤ 20 := dec_len 20 u (by decide) (by omega)
  generalize Lib.decDigits u = L at H hl ⊢
  go_enter Tryd.func56, Tryd.ntmps56
  go_wp2_with fail
  rw [show -(-(u : Int) + 1) + 1 = u from by omega]
  refine (H.out _).mono ?_
  rintro e w1 ⟨rfl, hb⟩
  have hl' : (L.length : Int) ≤ 20 := by omega
  go_wp2
  go_ret
  exact ⟨congrArg (fun b => Ending.returned (Value.string b)) (minus_app L), hb⟩
theorem spec_any (n : Int) (w : World) (h : InI n) :
    Calls Tryd.prog 56 #[.int .i64 n] w fun e w' => e = .returned (.string ⟨(Lib.itoa n).toArray⟩) ∧ Below w.heap.size w w' := by
  obtain ⟨h0, h1⟩ := h
  by_cases hn : n < 0
  · obtain ⟨u, hu⟩ : ∃ u : Nat, n = -(u : Int) := ⟨n.natAbs, by omega⟩
    subst hu
    have e : Lib.itoa (-(u : Int)) = 45 :: Lib.decDigits u := by
      unfold Lib.itoa; rw [if_pos hn]; congr 2; omega
    rw [e]
    exact spec_neg u w (by omega) (by omega)
  · obtain ⟨u, rfl⟩ := Int.eq_ofNat_of_zero_le (show 0 ≤ n by omega)
    have e : Lib.itoa (u : Int) = Lib.decDigits u := by
      unfold Lib.itoa; rw [if_neg hn]; rfl
    rw [e]
    exact spec_pos u w (by omega)
theorem gPow : Tryd.prog.globalNamed "internal/strconv.uint64pow10" = some 3 := by kernel_rfl
theorem Pow.keep {w w' : World} (h : Pow w) (hb : Below w.heap.size w w') : Pow w' := Joins.var_stays gPow h hb (Nat.le_refl _)
theorem impl_any (n : Int) (w : World) (h : InI n) (hp : Pow w) :
    Calls Tryd.prog 71 #[.int .i64 n] w fun e w' => e = .returned (.string ⟨(Lib.itoa n).toArray⟩) ∧ Below w.heap.size w w' := by
  have H := format_any n h.1 h.2 w hp
  generalize Lib.itoa n = L at H ⊢
  go_enter Tryd.func71, Tryd.ntmps71
  go_wp2_with fail
  refine H.mono ?_
  rintro e w1 ⟨rfl, k, os, rfl⟩
  have hb : Below w.heap.size w (Sort.grow (w.drewN k) os) := Lib.below_grow _ w (Nat.le_refl _) k os
  generalize Sort.grow (w.drewN k) os = w1 at hb
  go_wp2
  go_ret
  exact ⟨rfl, hb⟩
end Go.Proofs.YtbchehpggoampaaDoor
