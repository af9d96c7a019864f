/-
  PROVED HERE: what NumText answers, the program's and the model's: a number's decimal text. The table of powers of ten is laid. No other condition. what ReadNum answers, the program's and the model's, at every text. The library's tables and sentinels are laid. No other condition. how the model's reader lies in memory; what its taking of a byte does. No other condition. the text of a term that the model tells, at every list of nodes whose numbers lie within 64 bits. No other condition.
-/
import Derived.Test.YtkadanagmahhgaaGreatDoorRun5
import Derived.Test.YtkadanagmahhgaaGreatDoorRun0
import Derived.Lib.SmallJoins
import Derived.Lib.AppendIntMem
import Derived.Test.YtkadanagmahhgaaGreatDoorRun1
import Derived.Test.YtkadanagmahhgaaGreatDoorRun2
import Derived.Deep.RegionHeld3
namespace Go.Proofs.YtkadanagmahhgaaGreatDoor
open Go.ChangeShapes Go.WideShapes Go.ChangeAt Go.RowKit
set_option linter.unusedVariables false

/-- The table of powers of ten lies as it is laid. -/
def Pow (w : World) : Prop := Lib.TabIs Tryz.prog w "internal/strconv.uint64pow10" .u64 Lib.pow10Tab

theorem minus_app (L : List UInt8) : ((⟨#[45]⟩ : ByteArray) ++ ⟨L.toArray⟩ : ByteArray) = ⟨(45 :: L).toArray⟩ := by
  simp [ByteArray.mk_append_mk]
theorem spec_pos (u : Nat) (w : World) (h : u ≤ 9223372036854775807) :
    Calls Tryz.prog 47 #[.int .i64 u] w fun e w' => e = .returned (.string ⟨(Lib.decDigits u).toArray⟩) ∧ Below w.heap.size w w' := by
  have H : Hid (∀ w, Calls Tryz.prog 88 #[.int .u64 u] w fun e w' => e = .returned (.string ⟨(Lib.decDigits u).toArray⟩) ∧ Below w.heap.size w w') := fun w => long_any u w (by omega)
  generalize Lib.decDigits u = L at H ⊢
  go_enter Tryz.func47, Tryz.ntmps47
  go_wp2_with fail
  refine (H.out _).mono ?_
  rintro e w1 ⟨rfl, hb⟩
  go_wp2
  go_ret
  exact ⟨rfl, hb⟩
theorem spec_neg (u : Nat) (w : World) (h0 : 1 ≤ u) (h : u ≤ 9223372036854775808) :
    Calls Tryz.prog 47 #[.int .i64 (-u)] w fun e w' => e = .returned (.string ⟨(45 :: Lib.decDigits u).toArray⟩) ∧ Below w.heap.size w w' := by
  have H : Hid (∀ w, Calls Tryz.prog 88 #[.int .u64 u] w fun e w' => e = .returned (.string ⟨(Lib.decDigits u).toArray⟩) ∧ Below w.heap.size w w') := fun w => long_any u w (by omega)
  have hn : ¬ (0 : Int) ≤ -u := by omega
  have hl : (Lib.decDigits u).length ≤ 20 := dec_len 20 u (by decide) (by omega)
  generalize Lib.decDigits u = L at H hl ⊢
  go_enter Tryz.func47, Tryz.ntmps47
  go_wp2_with fail
  rw [show -(-(u : Int) + 1) + 1 = u from by omega]
  refine (H.out _).mono ?_
  rintro e w1 ⟨rfl, hb⟩
  have hl' : (L.length : Int) ≤ 20 := by omega
  go_wp2
  go_ret
  exact ⟨congrArg (fun b => Ending.returned (Value.string b)) (minus_app L), hb⟩
theorem spec_any (n : Int) (w : World) (h : InI n) :
    Calls Tryz.prog 47 #[.int .i64 n] w fun e w' => e = .returned (.string ⟨(Lib.itoa n).toArray⟩) ∧ Below w.heap.size w w' := by
  obtain ⟨h0, h1⟩ := h
  by_cases hn : n < 0
  · obtain ⟨u, hu⟩ : ∃ u : Nat, n = -(u : Int) := ⟨n.natAbs, by omega⟩
    subst hu
    have e : Lib.itoa (-(u : Int)) = 45 :: Lib.decDigits u := by
      unfold Lib.itoa; rw [if_pos hn]; congr 2; omega
    rw [e]
    exact spec_neg u w (by omega) (by omega)
  · obtain ⟨u, rfl⟩ := Int.eq_ofNat_of_zero_le (show 0 ≤ n by omega)
    have e : Lib.itoa (u : Int) = Lib.decDigits u := by
      unfold Lib.itoa; rw [if_neg hn]; rfl
    rw [e]
    exact spec_pos u w (by omega)
theorem gPow : Tryz.prog.globalNamed "internal/strconv.uint64pow10" = some 3 := by kernel_rfl
theorem Pow.keep {w w' : World} (h : Pow w) (hb : Below w.heap.size w w') : Pow w' := Joins.var_stays gPow h hb (Nat.le_refl _)
theorem impl_any (n : Int) (w : World) (h : InI n) (hp : Pow w) :
    Calls Tryz.prog 83 #[.int .i64 n] w fun e w' => e = .returned (.string ⟨(Lib.itoa n).toArray⟩) ∧ Below w.heap.size w w' := by
  have H := format_any n h.1 h.2 w hp
  generalize Lib.itoa n = L at H ⊢
  go_enter Tryz.func83, Tryz.ntmps83
  go_wp2_with fail
  refine H.mono ?_
  rintro e w1 ⟨rfl, k, os, rfl⟩
  have hb : Below w.heap.size w (Sort.grow (w.drewN k) os) := Lib.below_grow _ w (Nat.le_refl _) k os
  generalize Sort.grow (w.drewN k) os = w1 at hb
  go_wp2
  go_ret
  exact ⟨rfl, hb⟩
end Go.Proofs.YtkadanagmahhgaaGreatDoor
namespace Go.Proofs.YtkadanagmahhgaaGreatDoor
open Go.ChangeShapes Go.WideShapes Go.ChangeAt Go.RowKit
set_option linter.unusedVariables false


theorem btl (s : ByteArray) : s.toList = s.data.toList := ByteArray.toList_eq s
theorem nin_yes (n : Int) (w : World) (h1 : 1 ≤ n) (h2 : n ≤ 20) : Calls Tryz.prog 116 #[.int .i64 n, .int .i64 1, .int .i64 20] w fun e w' => e = .returned (.bool true) ∧ w' = w := by
  go_enter Tryz.func116, Tryz.ntmps116
  go_wp2
  go_ret
  exact ⟨rfl, rfl⟩
theorem specRead_none (s : ByteArray) (w : World) (hs : s.size ≤ 9223372036854775807) (hno : ∀ n, InI n → Lib.itoa n ≠ s.data.toList) :
    Calls Tryz.prog 153 #[.string s] w fun e w' => e = .returned (.tuple #[.int .i64 0, .bool false]) ∧ Below w.heap.size w w' := by
  by_cases h1 : 1 ≤ s.size ∧ s.size ≤ 20
  · obtain ⟨h1, h2⟩ := h1
    have HN : Hid (∀ n, InI n → Lib.itoa n ≠ s.data.toList) := hno
    clear hno
    have i1 : (1 : Int) ≤ s.size := by omega
    have i2 : (s.size : Int) ≤ 20 := by omega
    go_enter Tryz.func153, Tryz.ntmps153
    go_wp2_with (go_at_call 116; refine (nin_yes _ _ i1 i2).mono ?_; rintro e w' ⟨rfl, rfl⟩)
    go_loopw [4, 5] (fun n i wr => ∃ (k : Nat) (y : Int), k ≤ s.size ∧ i = .int .i64 k ∧ n = .int .i64 y ∧ InI y ∧ wr = w') (fun _ i _ => s.size - (intOf i).toNat)
    case atStart => exact ⟨0, 0, Nat.zero_le _, rfl, rfl, (by unfold InI; decide), rfl⟩
    case round =>
      obtain ⟨k, y, hk, rfl, rfl, hy, rfl⟩ := hrel
      by_cases hlt : k < s.size
      · go_wp2
        all_goals first
          | (go_ret2; exact ⟨rfl, Below.refl _ _⟩)
          | (go_roundw
             case rel => exact ⟨k + 1, _, by omega, by go_num, rfl, (by first | exact hy | exact wrap_in _), (by first | trivial | rfl)⟩
             case measure => simp [intOf]; omega)
      · go_wp2_with fail
        · have hw := wrap_in (-y)
          have hne := HN.out _ hw
          have H := spec_any _ wr hw
          generalize Lib.itoa (wrap64 (-y)) = L at hne H
          refine H.mono ?_
          rintro e w1 ⟨rfl, hb⟩
          have hne' : (L == s.toList) = false := by rw [beq_eq_false_iff_ne, btl]; exact hne
          clear H
          go_wp2
          go_ret2
          exact ⟨rfl, hb⟩
        · have hne := HN.out _ hy
          have H := spec_any _ wr hy
          generalize Lib.itoa y = L at hne H
          refine H.mono ?_
          rintro e w1 ⟨rfl, hb⟩
          have hne' : (L == s.toList) = false := by rw [beq_eq_false_iff_ne, btl]; exact hne
          clear H
          go_wp2
          go_ret2
          exact ⟨rfl, hb⟩
  · by_cases h2 : 1 ≤ s.size
    · have i1 : (1 : Int) ≤ s.size := by omega
      have i2 : ¬ (s.size : Int) ≤ 20 := by omega
      go_enter Tryz.func153, Tryz.ntmps153
      go_wp2
      go_ret2
      exact ⟨rfl, Below.refl _ _⟩
    · have i1 : ¬ (1 : Int) ≤ s.size := by omega
      go_enter Tryz.func153, Tryz.ntmps153
      go_wp2
      go_ret2
      exact ⟨rfl, Below.refl _ _⟩

theorem byte_at (s : ByteArray) (l : List UInt8) (h : s.data.toList = l) (k : Nat) (hk : k < s.size) (hk' : k < l.length) : s[k] = l[k] := by
  subst h; rfl

theorem step_val (y : Int) (p c u : Nat) (hy : y = -(p : Int)) (hc : 48 ≤ c) (hu : 10 * p + (c - 48) ≤ u) (hU : u ≤ 9223372036854775808) : wrap64 (wrap64 (10 * y) - ((c : Int) - 48)) = -((10 * p + (c - 48) : Nat) : Int) := by
  subst hy; unfold wrap64; omega

theorem specRead_pos (u : Nat) (s : ByteArray) (w : World) (hu : u ≤ 9223372036854775807) (hl : s.data.toList = Lib.decDigits u) :
    Calls Tryz.prog 153 #[.string s] w fun e w' => e = .returned (.tuple #[.int .i64 u, .bool true]) ∧ Below w.heap.size w w' := by
  have hsz : s.size = (Lib.decDigits u).length := by rw [← hl]; cases s; rfl
  have hlen : (Lib.decDigits u).length ≤ 19 := dec_len 19 u (by decide) (by omega)
  have hpos : 1 ≤ (Lib.decDigits u).length := by
    have := dec_ne u
    cases h : Lib.decDigits u with
    | nil => exact absurd h this
    | cons a b => simp
  have i1 : (1 : Int) ≤ s.size := by omega
  have i2 : (s.size : Int) ≤ 20 := by omega
  have HD : Hid (∀ k, (hk : k < s.size) → (48 ≤ (s[k].toNat : Int) ∧ (s[k].toNat : Int) ≤ 57) ∧ dval ((Lib.decDigits u).take (k + 1)) = 10 * dval ((Lib.decDigits u).take k) + (s[k].toNat - 48) ∧ dval ((Lib.decDigits u).take (k + 1)) ≤ u) := by
    intro k hk
    have hk' : k < (Lib.decDigits u).length := by omega
    have hb := byte_at s _ hl k hk hk'
    have hd := dec_dig u _ (List.getElem_mem hk')
    rw [hb]
    refine ⟨by unfold IsDig at hd; omega, ?_, dec_take u (k + 1) (by omega)⟩
    rw [take_step _ k hk', dval_snoc]
  have HE : Hid (dval ((Lib.decDigits u).take s.size) = u) := by
    show dval ((Lib.decDigits u).take s.size) = u
    rw [hsz, List.take_length, dec_val]
  have HS : Hid (Lib.itoa (u : Int) = s.toList) := by
    show Lib.itoa (u : Int) = s.toList
    rw [btl, hl]; rfl
  have s1 : 1 ≤ s.size := by omega
  have s2 : s.size ≤ 20 := by omega
  clear hl hsz hlen hpos
  go_enter Tryz.func153, Tryz.ntmps153
  go_wp2_with (go_at_call 116; refine (nin_yes _ _ i1 i2).mono ?_; rintro e w' ⟨rfl, rfl⟩)
  go_loopw [4, 5] (fun n i wr => ∃ (k : Nat) (y : Int), k ≤ s.size ∧ i = .int .i64 k ∧ n = .int .i64 y ∧ Hid (y = -(dval ((Lib.decDigits u).take k) : Int)) ∧ wr = w') (fun _ i _ => s.size - (intOf i).toNat)
  case atStart => exact ⟨0, 0, Nat.zero_le _, rfl, rfl, rfl, rfl⟩
  case round =>
    obtain ⟨k, y, hk, rfl, rfl, hy, rfl⟩ := hrel
    by_cases hlt : k < s.size
    · obtain ⟨⟨d1, d2⟩, d3, d4⟩ := HD.out k hlt
      have hv := step_val y (dval ((Lib.decDigits u).take k)) s[k].toNat u hy.out (by omega) (by omega) (by omega)
      rw [← d3] at hv
      have HV : Hid (wrap64 (wrap64 (10 * y) - ((s[k].toNat : Int) - 48)) = -(dval ((Lib.decDigits u).take (k + 1)) : Int)) := hv
      have D : Hid (48 ≤ (s[k].toNat : Int) ∧ (s[k].toNat : Int) ≤ 57) := ⟨d1, d2⟩
      clear hv d1 d2 d3 d4
      go_wp2
      all_goals first
        | (have hD := D.out; exfalso; omega)
        | (go_roundw
           case rel => exact ⟨k + 1, _, by omega, by go_num, rfl, HV, (by first | trivial | rfl)⟩
           case measure => simp [intOf]; omega)
    · obtain rfl : k = s.size := by omega
      have h0 := (HD.out 0 (by omega)).1
      have hyv : wrap64 (-y) = (u : Int) := by
        have e1 := hy.out
        have e2 := HE.out
        rw [e2] at e1
        subst e1
        unfold wrap64; omega
      have D : Hid (48 ≤ (s[0].toNat : Int)) := h0.1
      have H := spec_any (u : Int) wr (by unfold InI; omega)
      have HS' := HS.out
      clear h0
      go_wp2_with fail
      all_goals first
        | (have hD := D.out; have hx : ((s[0].toNat : Int) != 45) = false := by assumption
           exfalso; simp at hx; omega)
        | skip
      rw [hyv]
      rw [HS'] at H
      refine H.mono ?_
      rintro e w1 ⟨rfl, hb⟩
      have hne : (s.toList == s.toList) = true := by simp
      clear H HS'
      go_wp2
      go_ret2
      exact ⟨rfl, hb⟩

theorem specRead_neg (u : Nat) (s : ByteArray) (w : World) (hu0 : 1 ≤ u) (hu : u ≤ 9223372036854775808) (hl : s.data.toList = 45 :: Lib.decDigits u) :
    Calls Tryz.prog 153 #[.string s] w fun e w' => e = .returned (.tuple #[.int .i64 (-u), .bool true]) ∧ Below w.heap.size w w' := by
  have hsz : s.size = (Lib.decDigits u).length + 1 := by
    have : s.size = s.data.toList.length := by cases s; rfl
    rw [this, hl]; rfl
  have hlen : (Lib.decDigits u).length ≤ 19 := dec_len 19 u (by decide) (by omega)
  have i1 : (1 : Int) ≤ s.size := by omega
  have i2 : (s.size : Int) ≤ 20 := by omega
  have H0 : Hid ((h : 0 < s.size) → (s[0].toNat : Int) = 45) := by
    intro h
    rw [byte_at s _ hl 0 h (by simp)]
    rfl
  have HD : Hid (∀ k, (hk : k + 1 < s.size) → (48 ≤ (s[k + 1].toNat : Int) ∧ (s[k + 1].toNat : Int) ≤ 57) ∧ dval ((Lib.decDigits u).take (k + 1)) = 10 * dval ((Lib.decDigits u).take k) + (s[k + 1].toNat - 48) ∧ dval ((Lib.decDigits u).take (k + 1)) ≤ u) := by
    intro k hk
    have hk' : k < (Lib.decDigits u).length := by omega
    have hb := byte_at s _ hl (k + 1) hk (by simp; omega)
    have hd := dec_dig u _ (List.getElem_mem hk')
    rw [hb]
    refine ⟨by unfold IsDig at hd; simp only [List.getElem_cons_succ]; omega, ?_, dec_take u (k + 1) (by omega)⟩
    rw [take_step _ k hk', dval_snoc]
    rfl
  have HE : Hid (dval ((Lib.decDigits u).take (s.size - 1)) = u) := by
    show dval ((Lib.decDigits u).take (s.size - 1)) = u
    rw [hsz, Nat.add_sub_cancel, List.take_length, dec_val]
  have HS : Hid (Lib.itoa (-(u : Int)) = s.toList) := by
    show Lib.itoa (-(u : Int)) = s.toList
    rw [btl, hl]
    unfold Lib.itoa; rw [if_pos (by omega)]; congr 2; omega
  have s1 : 1 ≤ s.size := by omega
  have s2 : s.size ≤ 20 := by omega
  clear hl hsz hlen
  go_enter Tryz.func153, Tryz.ntmps153
  go_wp2_with (go_at_call 116; refine (nin_yes _ _ i1 i2).mono ?_; rintro e w' ⟨rfl, rfl⟩)
  go_loopw [4, 5] (fun n i wr => ∃ (k : Nat) (y : Int), k ≤ s.size ∧ i = .int .i64 k ∧ n = .int .i64 y ∧ Hid (y = -(dval ((Lib.decDigits u).take (k - 1)) : Int)) ∧ wr = w') (fun _ i _ => s.size - (intOf i).toNat)
  case atStart => exact ⟨0, 0, Nat.zero_le _, rfl, rfl, rfl, rfl⟩
  case round =>
    obtain ⟨k, y, hk, rfl, rfl, hy, rfl⟩ := hrel
    by_cases hlt : k < s.size
    · rcases k with _ | k
      · have D := H0.out hlt
        have D' : Hid ((s[0].toNat : Int) = 45) := D
        clear D
        go_wp2
        all_goals first
          | (have hD := D'.out; exfalso; omega)
          | (go_roundw
             case rel => exact ⟨0 + 1, _, by omega, by go_num, rfl, hy, (by first | trivial | rfl)⟩
             case measure => simp [intOf]; omega)
      · obtain ⟨⟨d1, d2⟩, d3, d4⟩ := HD.out k hlt
        have hy1 : y = -(dval ((Lib.decDigits u).take k) : Int) := hy.out
        have hv := step_val y (dval ((Lib.decDigits u).take k)) s[k + 1].toNat u hy1 (by omega) (by omega) (by omega)
        rw [← d3] at hv
        have HV : Hid (wrap64 (wrap64 (10 * y) - ((s[k + 1].toNat : Int) - 48)) = -(dval ((Lib.decDigits u).take (k + 1)) : Int)) := hv
        have D : Hid (48 ≤ (s[k + 1].toNat : Int) ∧ (s[k + 1].toNat : Int) ≤ 57) := ⟨d1, d2⟩
        clear hv d1 d2 d3 d4 hy1
        go_wp2
        all_goals first
          | (have hD := D.out; exfalso; omega)
          | (go_roundw
             case rel => exact ⟨k + 1 + 1, _, by omega, by go_num, rfl, HV, (by first | trivial | rfl)⟩
             case measure => simp [intOf]; omega)
    · obtain rfl : k = s.size := by omega
      have hyv : y = -(u : Int) := by
        have e1 := hy.out
        have e2 := HE.out
        rw [e2] at e1
        exact e1
      have D : Hid ((s[0].toNat : Int) = 45) := H0.out (by omega)
      have H := spec_any (-(u : Int)) wr (by unfold InI; omega)
      have HS' := HS.out
      subst hyv
      go_wp2_with fail
      all_goals first
        | (have hD := D.out; have hx : ((s[0].toNat : Int) != 45) = true := by assumption
           exfalso; rw [hD] at hx; simp at hx)
        | skip
      rw [HS'] at H
      refine H.mono ?_
      rintro e w1 ⟨rfl, hb⟩
      have hne : (s.toList == s.toList) = true := by simp
      clear H HS'
      go_wp2
      go_ret2
      exact ⟨rfl, hb⟩

theorem specRead_some (n : Int) (s : ByteArray) (w : World) (h : InI n) (hl : Lib.itoa n = s.data.toList) :
    Calls Tryz.prog 153 #[.string s] w fun e w' => e = .returned (.tuple #[.int .i64 n, .bool true]) ∧ Below w.heap.size w w' := by
  obtain ⟨h0, h1⟩ := h
  by_cases hn : n < 0
  · obtain ⟨u, hu⟩ : ∃ u : Nat, n = -(u : Int) := ⟨n.natAbs, by omega⟩
    subst hu
    have e : Lib.itoa (-(u : Int)) = 45 :: Lib.decDigits u := by
      unfold Lib.itoa; rw [if_pos hn]; congr 2; omega
    rw [e] at hl
    exact specRead_neg u s w (by omega) (by omega) hl.symm
  · obtain ⟨u, rfl⟩ := Int.eq_ofNat_of_zero_le (show 0 ≤ n by omega)
    have e : Lib.itoa (u : Int) = Lib.decDigits u := by
      unfold Lib.itoa; rw [if_neg hn]; rfl
    rw [e] at hl
    exact specRead_pos u s w (by omega) hl.symm

theorem gES : Tryz.prog.globalNamed "strconv.ErrSyntax" = some 6 := by kernel_rfl
theorem gER : Tryz.prog.globalNamed "strconv.ErrRange" = some 7 := by kernel_rfl
theorem Errs.keep {w w' : World} (h : Errs w) (hb : Below w.heap.size w w') : Errs w' := by
  obtain ⟨⟨t1, p1, h1⟩, t2, p2, h2⟩ := h
  exact ⟨⟨t1, p1, Joins.var_stays gES h1 hb (Nat.le_refl _)⟩, t2, p2, Joins.var_stays gER h2 hb (Nat.le_refl _)⟩

theorem parsed_in {l : List UInt8} {v : Int} (h : Lib.parseIntB 64 l = .ok v) : InI v := by
  have := Lib.parseIntB_bounds h
  have p63 : 2 ^ (64 - 1) = 9223372036854775808 := by decide
  rw [p63] at this
  unfold InI; omega

theorem implRead_some (n : Int) (s : ByteArray) (w : World) (h : InI n) (hl : Lib.itoa n = s.data.toList) (hp : Pow w) :
    Calls Tryz.prog 150 #[.string s] w fun e w' => e = .returned (.tuple #[.int .i64 n, .bool true]) ∧ Below w.heap.size w w' := by
  have hsz : s.size ≤ 20 := by
    have e0 : s.size = s.data.toList.length := by cases s; rfl
    rw [e0, ← hl]
    obtain ⟨h0, h1⟩ := h
    unfold Lib.itoa
    split
    · have := dec_len 19 n.natAbs (by decide) (by omega)
      simp; omega
    · have := dec_len 19 n.toNat (by decide) (by omega)
      omega
  have hpar := parse_ok s (by omega) n (by rw [← hl]; exact parse_itoa n h.1 h.2) w
  have H : Hid (∀ w, Pow w → Calls Tryz.prog 83 #[.int .i64 n] w fun e w' => e = .returned (.string ⟨(Lib.itoa n).toArray⟩) ∧ Below w.heap.size w w') := fun w => impl_any n w h
  rw [hl] at H
  rw [← btl] at H
  have i2 : ¬ (20 : Int) < s.size := by omega
  have hne : (s.toList == s.toList) = true := by simp
  clear hl h
  go_enter Tryz.func150, Tryz.ntmps150
  go_wp2_with fail
  refine hpar.mono ?_
  rintro e w1 ⟨rfl, hb1⟩
  have hp1 := hp.keep hb1
  clear hpar
  go_wp2_with fail
  refine (H.out _ hp1).mono ?_
  rintro e w2 ⟨rfl, hb2⟩
  have hb := hb1.trans (hb2.mono hb1.size)
  clear H hp1 hp
  go_wp2
  go_ret2
  exact ⟨rfl, hb⟩

theorem implRead_none (s : ByteArray) (w : World) (hs : s.size ≤ 9223372036854775807) (hno : ∀ n, InI n → Lib.itoa n ≠ s.data.toList) (hp : Pow w) (he : Errs w) :
    Calls Tryz.prog 150 #[.string s] w fun e w' => e = .returned (.tuple #[.int .i64 0, .bool false]) ∧ Below w.heap.size w w' := by
  by_cases hsz : s.size ≤ 20
  · have i2 : ¬ (20 : Int) < s.size := by omega
    by_cases hok : ∃ v, Lib.parseIntB 64 s.data.toList = .ok v
    · obtain ⟨v, hv⟩ := hok
      have hin := parsed_in hv
      have hpar := parse_ok s (by omega) v hv w
      have H : Hid (∀ w, Pow w → Calls Tryz.prog 83 #[.int .i64 v] w fun e w' => e = .returned (.string ⟨(Lib.itoa v).toArray⟩) ∧ Below w.heap.size w w') := fun w => impl_any v w hin
      have hne0 := hno v hin
      generalize Lib.itoa v = L at H hne0
      have hne : (L == s.toList) = false := by rw [beq_eq_false_iff_ne, btl]; exact hne0
      clear hno hv hin hne0 he
      go_enter Tryz.func150, Tryz.ntmps150
      go_wp2_with fail
      refine hpar.mono ?_
      rintro e w1 ⟨rfl, hb1⟩
      have hp1 := hp.keep hb1
      clear hpar
      go_wp2_with fail
      refine (H.out _ hp1).mono ?_
      rintro e w2 ⟨rfl, hb2⟩
      have hb := hb1.trans (hb2.mono hb1.size)
      clear H hp1 hp
      go_wp2
      go_ret2
      exact ⟨rfl, hb⟩
    · have hpar := parse_bad s (by omega) (fun v hv => hok ⟨v, hv⟩) w he
      clear hno hok he hp
      go_enter Tryz.func150, Tryz.ntmps150
      go_wp2_with fail
      refine hpar.mono ?_
      rintro e w1 ⟨x, T, N, rfl, hb1⟩
      clear hpar
      go_wp2
      go_ret2
      exact ⟨rfl, hb1⟩
  · have i2 : (20 : Int) < s.size := by omega
    go_enter Tryz.func150, Tryz.ntmps150
    go_wp2
    go_ret2
    exact ⟨rfl, Below.refl _ _⟩

/-- What ReadNum is to answer. -/
theorem read_any (s : ByteArray) (hs : s.size ≤ 9223372036854775807) : ∃ (v : Int) (k : Bool),
    (∀ w, Calls Tryz.prog 153 #[.string s] w fun e w' => e = .returned (.tuple #[.int .i64 v, .bool k]) ∧ Below w.heap.size w w') ∧
    (∀ w, Pow w → Errs w → Calls Tryz.prog 150 #[.string s] w fun e w' => e = .returned (.tuple #[.int .i64 v, .bool k]) ∧ Below w.heap.size w w') ∧
    (k = true → InI v ∧ Lib.itoa v = s.data.toList) ∧ (k = false → v = 0 ∧ ∀ n, InI n → Lib.itoa n ≠ s.data.toList) := by
  by_cases h : ∃ n, InI n ∧ Lib.itoa n = s.data.toList
  · obtain ⟨n, hn, hl⟩ := h
    exact ⟨n, true, fun w => specRead_some n s w hn hl, fun w hp _ => implRead_some n s w hn hl hp, fun _ => ⟨hn, hl⟩, fun h => by cases h⟩
  · have hno : ∀ n, InI n → Lib.itoa n ≠ s.data.toList := fun n hn hl => h ⟨n, hn, hl⟩
    exact ⟨0, false, fun w => specRead_none s w hs hno, fun w hp he => implRead_none s w hs hno hp he, (fun h => by cases h), fun _ => ⟨rfl, hno⟩⟩

end Go.Proofs.YtkadanagmahhgaaGreatDoor
namespace Go.Proofs.YtkadanagmahhgaaGreatDoor
open Go.ChangeShapes Go.WideShapes Go.ChangeAt Go.RowKit
set_option linter.unusedVariables false

/-- The reader in block g: its text, its place, what it has read so far (in a row of its own, behind it). -/
structure Rdr (w : World) (g : Nat) (s : ByteArray) (a : Nat) (out : List (Int × Int)) : Prop where
  lt : g < w.heap.size
  c0 : w.cell? ⟨g, 0, none⟩ = some (.string s)
  c1 : w.cell? ⟨g, 1, none⟩ = some (.int .i64 (a : Int))
  row : ∃ v, w.cell? ⟨g, 2, none⟩ = some v ∧ w.ownsRow (g + 1) 66 2 v out.length (flat out)
  f1 : w.frozen? ⟨g, 1, none⟩ = false
  f2 : w.frozen? ⟨g, 2, none⟩ = false
theorem below_drewN {w : World} (k : Nat) (n : Nat) : Below k w (w.drewN n) := by
  refine ⟨?_, ?_, ?_, ?_, ?_⟩ <;> first | rfl | exact Nat.le_refl _ | (intro j hj; rfl)
theorem Rdr.drewN {w : World} {g : Nat} {s : ByteArray} {a : Nat} {out : List (Int × Int)} (h : Rdr w g s a out) (n : Nat) : Rdr (w.drewN n) g s a out := by
  obtain ⟨lt, c0, c1, ⟨v, c2, hown⟩, f1, f2⟩ := h
  exact ⟨lt, c0, c1, ⟨v, c2, hown⟩, f1, f2⟩
theorem below_set {w : World} {g o : Nat} (u : Value) : Below g w (w.setCell ⟨g, o, none⟩ u) := by
  refine ⟨rfl, rfl, rfl, by simp, fun j hj => Below.heap_setCell _ _ _ _ (by simp; omega)⟩
theorem Rdr.move {w : World} {g : Nat} {s : ByteArray} {a : Nat} {out : List (Int × Int)} (h : Rdr w g s a out) (b : Nat) : Rdr (w.setCell ⟨g, 1, none⟩ (.int .i64 (b : Int))) g s b out := by
  obtain ⟨lt, c0, c1, ⟨v, c2, hown⟩, f1, f2⟩ := h
  refine ⟨by simpa using lt, by simp [go_sem, c0], by simp [go_sem, c1], ⟨v, by simp [go_sem, c2], ownsRow_setCell_below hown (by simp) _⟩, by simp [go_sem, f1], by simp [go_sem, f2]⟩
theorem at_list (s : ByteArray) (a : Nat) (h : a < s.size) : s.data.toList.getD a 0 = s[a] := by
  rw [List.getD_eq_getElem?_getD, List.getElem?_eq_getElem (by simpa using h)]
  rfl
theorem size_list (s : ByteArray) : s.data.toList.length = s.size := rfl
theorem byte_yes (w : World) (g : Nat) (s : ByteArray) (a : Nat) (out : List (Int × Int)) (b : UInt8) (h : Rdr w g s a out) (hs : s.size ≤ 1048576) (ha : a < s.size) (hb : s[a] = b) :
    Calls Tryz.prog 133 #[.pointer (some ⟨g, 0, none⟩), .int .u8 (b.toNat : Int)] w fun e w' => e = .returned (.bool true) ∧ Rdr w' g s (a + 1) out ∧ Below g w w' := by
  have c0 := h.c0
  have c1 := h.c1
  have f1 := h.f1
  have hlt := h.lt
  have i1 : (a : Int) < s.size := by omega
  have i2 : (s.size : Int) ≤ 1048576 := by omega
  subst hb
  go_enter Tryz.func133, Tryz.ntmps133
  go_wp2
  go_quiet (fail)
  go_wp2
  go_ret
  exact ⟨rfl, (h.drewN _).move (a + 1), (below_drewN g _).trans (below_set _)⟩
theorem byte_end (w : World) (g : Nat) (s : ByteArray) (a : Nat) (out : List (Int × Int)) (b : UInt8) (h : Rdr w g s a out) (hs : s.size ≤ 1048576) (ha : s.size ≤ a) :
    Calls Tryz.prog 133 #[.pointer (some ⟨g, 0, none⟩), .int .u8 (b.toNat : Int)] w fun e w' => e = .returned (.bool false) ∧ Rdr w' g s a out ∧ Below g w w' := by
  have c0 := h.c0
  have c1 := h.c1
  have i1 : ¬ (a : Int) < s.size := by omega
  have i3 : ¬ a < s.size := by omega
  have i2 : (s.size : Int) ≤ 1048576 := by omega
  go_enter Tryz.func133, Tryz.ntmps133
  go_wp2
  go_quiet (fail)
  go_wp2
  go_ret
  exact ⟨rfl, h.drewN _, below_drewN g _⟩
theorem byte_no (w : World) (g : Nat) (s : ByteArray) (a : Nat) (out : List (Int × Int)) (b : UInt8) (h : Rdr w g s a out) (hs : s.size ≤ 1048576) (ha : a < s.size) (hb : s[a] ≠ b) :
    Calls Tryz.prog 133 #[.pointer (some ⟨g, 0, none⟩), .int .u8 (b.toNat : Int)] w fun e w' => e = .returned (.bool false) ∧ Rdr w' g s a out ∧ Below g w w' := by
  have c0 := h.c0
  have c1 := h.c1
  have i1 : (a : Int) < s.size := by omega
  have i2 : (s.size : Int) ≤ 1048576 := by omega
  have i3 : ¬ s[a].toNat = b.toNat := fun e => hb (UInt8.toNat_inj.1 e)
  have i4 : ¬ (s[a].toNat : Int) = b.toNat := by omega
  go_enter Tryz.func133, Tryz.ntmps133
  go_wp2
  go_quiet (fail)
  go_wp2
  go_ret
  exact ⟨rfl, h.drewN _, below_drewN g _⟩
theorem byte_any (w : World) (g : Nat) (s : ByteArray) (a : Nat) (out : List (Int × Int)) (b : UInt8) (h : Rdr w g s a out) (hs : s.size ≤ 1048576) :
    Calls Tryz.prog 133 #[.pointer (some ⟨g, 0, none⟩), .int .u8 (b.toNat : Int)] w fun e w' => e = .returned (.bool (byteIs s.data.toList a b)) ∧ Rdr w' g s (if byteIs s.data.toList a b = true then a + 1 else a) out ∧ Below g w w' := by
  unfold byteIs
  rw [size_list]
  by_cases ha : a < s.size
  · rw [decide_eq_true ha, Bool.true_and, at_list s a ha]
    by_cases hb : s[a] = b
    · rw [beq_iff_eq.2 hb, if_pos rfl]; exact byte_yes w g s a out b h hs ha hb
    · rw [beq_eq_false_iff_ne.2 hb]; exact byte_no w g s a out b h hs ha hb
  · rw [decide_eq_false ha, Bool.false_and]; exact byte_end w g s a out b h hs (by omega)
end Go.Proofs.YtkadanagmahhgaaGreatDoor
namespace Go.Proofs.YtkadanagmahhgaaGreatDoor
open Go.ChangeShapes Go.WideShapes Go.ChangeAt Go.RowKit
set_option linter.unusedVariables false
attribute [local go_sem] conv1 isByte_some byteIn_some

theorem specSign_any (op : Int) (w : World) : Calls Tryz.prog 49 #[.int .i64 op] w fun e w' => e = .returned (.string ⟨(signB op).toArray⟩) ∧ w' = w := by
  by_cases h4 : op = 4
  · subst h4; go_enter Tryz.func49, Tryz.ntmps49; go_wp2; go_ret; exact ⟨rfl, rfl⟩
  by_cases h5 : op = 5
  · subst h5; go_enter Tryz.func49, Tryz.ntmps49; go_wp2; go_ret; exact ⟨rfl, rfl⟩
  by_cases h6 : op = 6
  · subst h6; go_enter Tryz.func49, Tryz.ntmps49; go_wp2; go_ret; exact ⟨rfl, rfl⟩
  by_cases h7 : op = 7
  · subst h7; go_enter Tryz.func49, Tryz.ntmps49; go_wp2; go_ret; exact ⟨rfl, rfl⟩
  by_cases h8 : op = 8
  · subst h8; go_enter Tryz.func49, Tryz.ntmps49; go_wp2; go_ret; exact ⟨rfl, rfl⟩
  by_cases h9 : op = 9
  · subst h9; go_enter Tryz.func49, Tryz.ntmps49; go_wp2; go_ret; exact ⟨rfl, rfl⟩
  by_cases h10 : op = 10
  · subst h10; go_enter Tryz.func49, Tryz.ntmps49; go_wp2; go_ret; exact ⟨rfl, rfl⟩
  have hs : signB op = [] := by unfold signB; simp [h4, h5, h6, h7, h8, h9, h10]
  rw [hs]
  go_enter Tryz.func49, Tryz.ntmps49
  go_wp2
  go_ret
  exact ⟨rfl, rfl⟩

theorem below_step {w w1 w2 : World} (h : Below w.heap.size w w1) (o : Obj) (h2 : Below (w1.alloc o).heap.size (w1.alloc o) w2) : Below w.heap.size w w2 :=
  (h.alloc h.size o).trans (h2.mono (by have := h.size; simp; omega))
theorem held_b {A B C : Prop} {w2 wp : World} (h : A ∧ B ∧ C ∧ Below w2.heap.size w2 wp) : Below w2.heap.size w2 wp := h.2.2.2
theorem held_step {A B C : Prop} {w2 wp w4 : World} (h : A ∧ B ∧ C ∧ Below w2.heap.size w2 wp) (hb : Below wp.heap.size wp w4) : Below w2.heap.size w2 w4 := h.2.2.2.trans (hb.mono h.2.2.2.size)
def TextAt (l : List (Int × Int)) (t : Option Addr) (len cap f k : Nat) : Prop :=
  ∀ W, NSl W t len l → Calls Tryz.prog 22 #[.slice t len cap, .int .i64 k] W fun e w' => e = .returned (.string ⟨(textG l f k).toArray⟩) ∧ Below W.heap.size W w'

theorem text_num {l : List (Int × Int)} (t : Option Addr) (len cap f k : Nat) (hk : k < len) (hn : InN l) (hop : (l.getD k (0, 0)).1 = 1) : TextAt l t len cap (f + 1) k := by
  intro w hs
  have hlen := hs.1
  have H : Hid (∀ w, Calls Tryz.prog 47 #[.int .i64 (l.getD k (0, 0)).2] w fun e w' => e = .returned (.string ⟨(Lib.itoa (l.getD k (0, 0)).2).toArray⟩) ∧ Below w.heap.size w w') := fun w => spec_any _ w (hn k)
  obtain ⟨b, off, rfl, hbl, hc⟩ := hs.at (by omega)
  have c1 := (hc k hk).1
  have c2 := (hc k hk).2
  have hv : textG l (f + 1) k = Lib.itoa (l.getD k (0, 0)).2 := by show nodeT _ _ = _; unfold nodeT; rw [if_pos hop]
  rw [hv]
  rw [hop] at c1
  clear hc hv hop
  generalize (l.getD k (0, 0)).2 = y at c2 H ⊢
  generalize Lib.itoa y = L at H ⊢
  go_enter Tryz.func22, Tryz.ntmps22
  go_wp2_with fail
  refine (H.out _).mono ?_
  rintro e w1 ⟨rfl, hb1⟩
  have hb := below_step (Below.refl w.heap.size w) _ hb1
  clear hb1
  go_wp2
  go_ret
  exact ⟨rfl, hb⟩
set_option maxRecDepth 20000 in
theorem text_var {l : List (Int × Int)} (t : Option Addr) (len cap f k : Nat) (hk : k < len) (hop : (l.getD k (0, 0)).1 = 2) (hv4 : 0 ≤ (l.getD k (0, 0)).2 ∧ (l.getD k (0, 0)).2 < 4) : TextAt l t len cap (f + 1) k := by
  intro w hs
  have hlen := hs.1
  obtain ⟨b, off, rfl, hbl, hc⟩ := hs.at (by omega)
  have c1 := (hc k hk).1
  have c2 := (hc k hk).2
  have hv : textG l (f + 1) k = [UInt8.ofNat (97 + (l.getD k (0, 0)).2.toNat)] := by
    show nodeT _ _ = _; unfold nodeT; rw [if_neg (by omega), if_pos hop]
  rw [hv]
  rw [hop] at c1
  clear hc hv hop
  generalize (l.getD k (0, 0)).2 = y at c2 hv4 ⊢
  obtain ⟨v, rfl⟩ := Int.eq_ofNat_of_zero_le hv4.1
  have hv : v < 4 := by omega
  go_enter Tryz.func22, Tryz.ntmps22
  go_wp2
  go_ret
  exact ⟨congrArg (fun b => Ending.returned (Value.string ⟨#[UInt8.ofNat b]⟩)) (by omega), (((Below.refl _ _).alloc (Nat.le_refl _) _).alloc (by simp) _)⟩

theorem text_neg {l : List (Int × Int)} {q : Int} (h : pile l 0 = some q) (t : Option Addr) (len cap f k : Nat) (hl : len ≤ 1048576) (hk : k < len) (hop : (l.getD k (0, 0)).1 = 3) (HB : ∀ r, r < k → (textG l f r).length ≤ 40000000)
    (IH : ∀ r, r < k → TextAt l t len cap f r) : TextAt l t len cap (f + 1) k := by
  intro w hs
  have hlen := hs.1
  obtain ⟨h1, h2⟩ := cnt_step h k (by omega)
  obtain ⟨_, a2, _, _⟩ := fits_iff _ _ _ _ h1
  rw [hop, show ar 3 = ((1 : Nat) : Int) from rfl] at a2
  have hrl := roots_lt h 1 k (by omega) a2
  have hRl : (roots l 1 k).length = 1 := roots_len _ _ _
  have HP : Hid (∀ W, NSl W t len l → Calls Tryz.prog 48 #[.slice t len cap, .int .i64 k] W fun e w' => ∃ v : Value, e = .returned v ∧ w'.ownsRow W.heap.size 3 1 v 1 (ints (roots l 1 k)) ∧ Below W.heap.size W w') := by
    intro W hW
    have := parts_any h t len cap W hW hl k hk
    rw [hop] at this
    exact this
  have hv : textG l (f + 1) k = 126 :: textG l f ((roots l 1 k).getD 0 0) := by
    show nodeT _ _ = _
    unfold nodeT
    rw [hop, if_neg (by decide), if_neg (by decide), if_pos rfl, show (ar 3).toNat = 1 from rfl]
    match roots l 1 k, hRl with
    | [r], _ => rfl
  rw [hv]
  have hr0 : (roots l 1 k).getD 0 0 < k := getD_lt _ k 0 hrl (by omega)
  have T0 := IH _ hr0
  have B0 : ((textG l f ((roots l 1 k).getD 0 0)).length : Int) ≤ 40000000 := by have := HB _ hr0; omega
  obtain ⟨R, hR⟩ : ∃ R, roots l 1 k = R := ⟨_, rfl⟩
  rw [hR] at T0 B0 HP ⊢
  obtain ⟨b, off, rfl, hbl, hc⟩ := hs.at (by omega)
  have c1 := (hc k hk).1
  have c2 := (hc k hk).2
  rw [hop] at c1
  have HS : Hid (NSl w (some ⟨b, off, none⟩) len l) := hs
  have SA : Hid (∀ W, NSl W (some ⟨b, off, none⟩) len l → Calls Tryz.prog 22 #[.slice (some ⟨b, off, none⟩) len cap, .int .i64 ((R.getD 0 0 : Nat) : Int)] W fun e w' => e = .returned (.string ⟨(textG l f (R.getD 0 0)).toArray⟩) ∧ Below W.heap.size W w') := T0
  clear hc h1 h2 a2 hop IH hs hrl hv hR HB T0 hr0 hRl
  generalize (l.getD k (0, 0)).2 = y at c2
  generalize textG l f (R.getD 0 0) = L at SA B0 ⊢
  go_enter Tryz.func22, Tryz.ntmps22
  go_wp2_with fail
  have hb1 := (Below.refl w.heap.size w).alloc (Nat.le_refl _) (.cells #[.int .i64 3, .int .i64 y] 66)
  refine (HP.out _ (HS.out.keep hb1)).mono ?_
  rintro e w2 ⟨v2, rfl, hown, hb2⟩
  obtain ⟨g, cp, rfl, hg, hcell⟩ := own_row hown (by omega)
  have c0 := hcell 0 (by omega)
  have hbw := below_step (Below.refl w.heap.size w) _ hb2
  have n0 := (hb2.cell (p := ⟨w.heap.size, 0, none⟩) (by simp)).trans (show (w.alloc (.cells #[.int .i64 3, .int .i64 y] 66)).cell? ⟨w.heap.size, 0, none⟩ = some (.int .i64 3) by simp [go_sem])
  have hsz : w.heap.size < w2.heap.size := by have := hb2.size; simp at this; omega
  clear hown hcell HP hb2 hb1
  go_wp2_with fail
  refine (SA.out _ (HS.out.keep hbw)).mono ?_
  rintro e w3 ⟨rfl, hb3⟩
  have hb := hbw.trans (hb3.mono hbw.size)
  clear SA n0 c0
  go_wp2
  go_ret
  exact ⟨congrArg (fun b => Ending.returned (Value.string b)) (by simp [ByteArray.mk_append_mk]), hb⟩

set_option maxHeartbeats 1600000 in
set_option maxRecDepth 20000 in
theorem text_two {l : List (Int × Int)} {q : Int} (h : pile l 0 = some q) (t : Option Addr) (len cap f k : Nat) (hl : len ≤ 1048576) (hk : k < len) (hop : 4 ≤ (l.getD k (0, 0)).1 ∧ (l.getD k (0, 0)).1 ≤ 10) (HB : ∀ r, r < k → (textG l f r).length ≤ 40000000)
    (IH : ∀ r, r < k → TextAt l t len cap f r) : TextAt l t len cap (f + 1) k := by
  intro w hs
  have hlen := hs.1
  obtain ⟨h1, h2⟩ := cnt_step h k (by omega)
  obtain ⟨_, a2, _, _⟩ := fits_iff _ _ _ _ h1
  have har : ar (l.getD k (0, 0)).1 = ((2 : Nat) : Int) := by
    generalize (l.getD k (0, 0)).1 = x at hop
    rcases (show x = 4 ∨ x = 5 ∨ x = 6 ∨ x = 7 ∨ x = 8 ∨ x = 9 ∨ x = 10 by omega) with rfl | rfl | rfl | rfl | rfl | rfl | rfl <;> rfl
  rw [har] at a2
  have hrl := roots_lt h 2 k (by omega) a2
  have hRl : (roots l 2 k).length = 2 := roots_len _ _ _
  have HP : Hid (∀ W, NSl W t len l → Calls Tryz.prog 48 #[.slice t len cap, .int .i64 k] W fun e w' => ∃ v : Value, e = .returned v ∧ w'.ownsRow W.heap.size 3 1 v 2 (ints (roots l 2 k)) ∧ Below W.heap.size W w') := by
    intro W hW
    have := parts_any h t len cap W hW hl k hk
    rw [har] at this
    exact this
  have hv : textG l (f + 1) k = 40 :: textG l f ((roots l 2 k).getD 0 0) ++ signB (l.getD k (0, 0)).1 ++ textG l f ((roots l 2 k).getD 1 0) ++ [41] := by
    show nodeT _ _ = _
    unfold nodeT
    rw [if_neg (by omega), if_neg (by omega), if_neg (by omega), if_neg (by omega), har, Int.toNat_natCast]
    match roots l 2 k, hRl with
    | [r, s], _ => rfl
  rw [hv]
  have hr0 : (roots l 2 k).getD 0 0 < k := getD_lt _ k 0 hrl (by omega)
  have hr1 : (roots l 2 k).getD 1 0 < k := getD_lt _ k 1 hrl (by omega)
  have T0 := IH _ hr0
  have T1 := IH _ hr1
  have B0 : ((textG l f ((roots l 2 k).getD 0 0)).length : Int) ≤ 40000000 := by have := HB _ hr0; omega
  have B1 : ((textG l f ((roots l 2 k).getD 1 0)).length : Int) ≤ 40000000 := by have := HB _ hr1; omega
  have BS : ((signB (l.getD k (0, 0)).1).length : Int) ≤ 2 := by
    unfold signB
    repeat' split
    all_goals simp
  obtain ⟨R, hR⟩ : ∃ R, roots l 2 k = R := ⟨_, rfl⟩
  rw [hR] at T0 B0 T1 B1 HP ⊢
  obtain ⟨b, off, rfl, hbl, hc⟩ := hs.at (by omega)
  have c1 := (hc k hk).1
  have c2 := (hc k hk).2
  have HS : Hid (NSl w (some ⟨b, off, none⟩) len l) := hs
  have SA : Hid (∀ W, NSl W (some ⟨b, off, none⟩) len l → Calls Tryz.prog 22 #[.slice (some ⟨b, off, none⟩) len cap, .int .i64 ((R.getD 0 0 : Nat) : Int)] W fun e w' => e = .returned (.string ⟨(textG l f (R.getD 0 0)).toArray⟩) ∧ Below W.heap.size W w') := T0
  have SB : Hid (∀ W, NSl W (some ⟨b, off, none⟩) len l → Calls Tryz.prog 22 #[.slice (some ⟨b, off, none⟩) len cap, .int .i64 ((R.getD 1 0 : Nat) : Int)] W fun e w' => e = .returned (.string ⟨(textG l f (R.getD 1 0)).toArray⟩) ∧ Below W.heap.size W w') := T1
  have SS : Hid (∀ W, Calls Tryz.prog 49 #[.int .i64 (l.getD k (0, 0)).1] W fun e w' => e = .returned (.string ⟨(signB (l.getD k (0, 0)).1).toArray⟩) ∧ w' = W) := fun W => specSign_any _ W
  clear hc h1 h2 a2 IH hs hrl hv hR HB T0 T1 hr0 hr1 hRl har
  generalize signB (l.getD k (0, 0)).1 = S at SS BS ⊢
  generalize (l.getD k (0, 0)).1 = x at c1 SS hop
  generalize (l.getD k (0, 0)).2 = y at c2
  generalize textG l f (R.getD 0 0) = L at SA B0 ⊢
  generalize textG l f (R.getD 1 0) = M at SB B1 ⊢
  have x1 : (x == 1) = false := by simp; omega
  have x2 : (x == 2) = false := by simp; omega
  have x3 : (x == 3) = false := by simp; omega
  have x11 : (x == 11) = false := by simp; omega
  have g1 : ¬ 9223372036854775807 < 1 + L.length := by omega
  have g2 : ¬ 9223372036854775807 < 1 + L.length + S.length := by omega
  have g3 : ¬ 9223372036854775807 < 1 + L.length + S.length + M.length := by omega
  have g4 : ¬ 9223372036854775807 < 1 + L.length + S.length + M.length + 1 := by omega
  clear hop
  go_enter Tryz.func22, Tryz.ntmps22
  go_wp2_with fail
  have hb1 := (Below.refl w.heap.size w).alloc (Nat.le_refl _) (.cells #[.int .i64 x, .int .i64 y] 66)
  refine (HP.out _ (HS.out.keep hb1)).mono ?_
  rintro e w2 ⟨v2, rfl, hown, hb2⟩
  obtain ⟨g, cp, rfl, hg, hcell⟩ := own_row hown (by omega)
  have c0 := hcell 0 (by omega)
  have c3 := hcell 1 (by omega)
  have hbw := below_step (Below.refl w.heap.size w) _ hb2
  have n0 := (hb2.cell (p := ⟨w.heap.size, 0, none⟩) (by simp)).trans (show (w.alloc (.cells #[.int .i64 x, .int .i64 y] 66)).cell? ⟨w.heap.size, 0, none⟩ = some (.int .i64 x) by simp [go_sem])
  have hsz : w.heap.size < w2.heap.size := by have := hb2.size; simp at this; omega
  have hW2 := HS.out.keep hbw
  have HB2 : Hid (∀ w', Below w2.heap.size w2 w' → Below w.heap.size w w') := fun w' h' => hbw.trans (h'.mono hbw.size)
  have HW2 : Hid (∀ w', Below w2.heap.size w2 w' → NSl w' (some ⟨b, off, none⟩) len l) := fun w' h' => hW2.keep h'
  clear hown hcell HP hb2 hb1 hbw hW2 HS
  generalize R.getD 0 0 = r0 at SA c0
  generalize R.getD 1 0 = r1 at SB c3
  have KS : Hid (∀ w', Below w2.heap.size w2 w' → w'.cell? ⟨g, 0, none⟩ = some (.int .i64 (r0 : Int)) ∧ w'.cell? ⟨g, 1, none⟩ = some (.int .i64 (r1 : Int)) ∧ w'.cell? ⟨w.heap.size, 0, none⟩ = some (.int .i64 x) ∧ Below w2.heap.size w2 w') := fun w' h' =>
    ⟨(h'.cell (p := ⟨g, 0, none⟩) hg).trans c0, (h'.cell (p := ⟨g, 1, none⟩) hg).trans c3, (h'.cell (p := ⟨w.heap.size, 0, none⟩) hsz).trans n0, h'⟩
  go_wp2_with fail
  go_region_held3 (fun w' => w'.cell? ⟨g, 0, none⟩ = some (.int .i64 (r0 : Int)) ∧ w'.cell? ⟨g, 1, none⟩ = some (.int .i64 (r1 : Int)) ∧ w'.cell? ⟨w.heap.size, 0, none⟩ = some (.int .i64 x) ∧ Below w2.heap.size w2 w')
    ((refine KS.out _ ?_; first | assumption | exact held_b (by assumption) | exact (Below.refl _ _).drew))
    (first
      | (go_at_call_of 22 r0; refine (SA.out _ (HW2.out _ (held_b (by assumption)))).mono ?_; rintro e w4 ⟨rfl, hb4⟩; have hk4 := held_step (by assumption) hb4; clear hb4)
      | (go_at_call_of 22 r1; refine (SB.out _ (HW2.out _ (held_b (by assumption)))).mono ?_; rintro e w5 ⟨rfl, hb5⟩; have hk5 := held_step (by assumption) hb5; clear hb5)
      | (go_at_call 49; refine (SS.out _).mono ?_; rintro e w6 ⟨rfl, rfl⟩))
  all_goals
    go_wp2
    go_ret
    refine ⟨congrArg (fun b => Ending.returned (Value.string b)) (by simp [ByteArray.mk_append_mk]), HB2.out _ ?_⟩
    first | assumption | exact held_b (by assumption)
set_option maxHeartbeats 1600000 in
set_option maxRecDepth 20000 in
theorem text_if {l : List (Int × Int)} {q : Int} (h : pile l 0 = some q) (t : Option Addr) (len cap f k : Nat) (hl : len ≤ 1048576) (hk : k < len) (hop : (l.getD k (0, 0)).1 = 11) (HB : ∀ r, r < k → (textG l f r).length ≤ 40000000)
    (IH : ∀ r, r < k → TextAt l t len cap f r) : TextAt l t len cap (f + 1) k := by
  intro w hs
  have hlen := hs.1
  obtain ⟨h1, h2⟩ := cnt_step h k (by omega)
  obtain ⟨_, a2, _, _⟩ := fits_iff _ _ _ _ h1
  have har : ar (l.getD k (0, 0)).1 = ((3 : Nat) : Int) := by rw [hop]; rfl
  rw [har] at a2
  have hrl := roots_lt h 3 k (by omega) a2
  have hRl : (roots l 3 k).length = 3 := roots_len _ _ _
  have HP : Hid (∀ W, NSl W t len l → Calls Tryz.prog 48 #[.slice t len cap, .int .i64 k] W fun e w' => ∃ v : Value, e = .returned v ∧ w'.ownsRow W.heap.size 3 1 v 3 (ints (roots l 3 k)) ∧ Below W.heap.size W w') := by
    intro W hW
    have := parts_any h t len cap W hW hl k hk
    rw [har] at this
    exact this
  have hv : textG l (f + 1) k = 40 :: textG l f ((roots l 3 k).getD 0 0) ++ (63 :: textG l f ((roots l 3 k).getD 1 0)) ++ (58 :: textG l f ((roots l 3 k).getD 2 0)) ++ [41] := by
    show nodeT _ _ = _
    unfold nodeT
    rw [if_neg (by omega), if_neg (by omega), if_neg (by omega), if_pos hop, har, Int.toNat_natCast]
    match roots l 3 k, hRl with
    | [r, s, u], _ => rfl
  rw [hv]
  have hr0 : (roots l 3 k).getD 0 0 < k := getD_lt _ k 0 hrl (by omega)
  have hr1 : (roots l 3 k).getD 1 0 < k := getD_lt _ k 1 hrl (by omega)
  have hr2 : (roots l 3 k).getD 2 0 < k := getD_lt _ k 2 hrl (by omega)
  have T0 := IH _ hr0
  have T1 := IH _ hr1
  have T2 := IH _ hr2
  have B0 : ((textG l f ((roots l 3 k).getD 0 0)).length : Int) ≤ 40000000 := by have := HB _ hr0; omega
  have B1 : ((textG l f ((roots l 3 k).getD 1 0)).length : Int) ≤ 40000000 := by have := HB _ hr1; omega
  have B2 : ((textG l f ((roots l 3 k).getD 2 0)).length : Int) ≤ 40000000 := by have := HB _ hr2; omega
  obtain ⟨R, hR⟩ : ∃ R, roots l 3 k = R := ⟨_, rfl⟩
  rw [hR] at T0 B0 T1 B1 T2 B2 HP ⊢
  obtain ⟨b, off, rfl, hbl, hc⟩ := hs.at (by omega)
  have c1 := (hc k hk).1
  have c2 := (hc k hk).2
  have HS : Hid (NSl w (some ⟨b, off, none⟩) len l) := hs
  have SA : Hid (∀ W, NSl W (some ⟨b, off, none⟩) len l → Calls Tryz.prog 22 #[.slice (some ⟨b, off, none⟩) len cap, .int .i64 ((R.getD 0 0 : Nat) : Int)] W fun e w' => e = .returned (.string ⟨(textG l f (R.getD 0 0)).toArray⟩) ∧ Below W.heap.size W w') := T0
  have SB : Hid (∀ W, NSl W (some ⟨b, off, none⟩) len l → Calls Tryz.prog 22 #[.slice (some ⟨b, off, none⟩) len cap, .int .i64 ((R.getD 1 0 : Nat) : Int)] W fun e w' => e = .returned (.string ⟨(textG l f (R.getD 1 0)).toArray⟩) ∧ Below W.heap.size W w') := T1
  have SC : Hid (∀ W, NSl W (some ⟨b, off, none⟩) len l → Calls Tryz.prog 22 #[.slice (some ⟨b, off, none⟩) len cap, .int .i64 ((R.getD 2 0 : Nat) : Int)] W fun e w' => e = .returned (.string ⟨(textG l f (R.getD 2 0)).toArray⟩) ∧ Below W.heap.size W w') := T2
  clear hc h1 h2 a2 IH hs hrl hv hR HB T0 T1 T2 hr0 hr1 hr2 hRl har
  rw [hop] at c1
  generalize (l.getD k (0, 0)).2 = y at c2
  generalize textG l f (R.getD 0 0) = L at SA B0 ⊢
  generalize textG l f (R.getD 1 0) = M at SB B1 ⊢
  generalize textG l f (R.getD 2 0) = O at SC B2 ⊢
  have g1 : ¬ 9223372036854775807 < 1 + L.length := by omega
  have g2 : ¬ 9223372036854775807 < 1 + L.length + 1 := by omega
  have g3 : ¬ 9223372036854775807 < 1 + L.length + 1 + M.length := by omega
  have g4 : ¬ 9223372036854775807 < 1 + L.length + 1 + M.length + 1 := by omega
  have g5 : ¬ 9223372036854775807 < 1 + L.length + 1 + M.length + 1 + O.length := by omega
  have g6 : ¬ 9223372036854775807 < 1 + L.length + 1 + M.length + 1 + O.length + 1 := by omega
  clear hop
  go_enter Tryz.func22, Tryz.ntmps22
  go_wp2_with fail
  have hb1 := (Below.refl w.heap.size w).alloc (Nat.le_refl _) (.cells #[.int .i64 11, .int .i64 y] 66)
  refine (HP.out _ (HS.out.keep hb1)).mono ?_
  rintro e w2 ⟨v2, rfl, hown, hb2⟩
  obtain ⟨g, cp, rfl, hg, hcell⟩ := own_row hown (by omega)
  have c0 := hcell 0 (by omega)
  have c3 := hcell 1 (by omega)
  have c4 := hcell 2 (by omega)
  have hbw := below_step (Below.refl w.heap.size w) _ hb2
  have n0 := (hb2.cell (p := ⟨w.heap.size, 0, none⟩) (by simp)).trans (show (w.alloc (.cells #[.int .i64 11, .int .i64 y] 66)).cell? ⟨w.heap.size, 0, none⟩ = some (.int .i64 11) by simp [go_sem])
  have hsz : w.heap.size < w2.heap.size := by have := hb2.size; simp at this; omega
  have hW2 := HS.out.keep hbw
  have HB2 : Hid (∀ w', Below w2.heap.size w2 w' → Below w.heap.size w w') := fun w' h' => hbw.trans (h'.mono hbw.size)
  have HW2 : Hid (∀ w', Below w2.heap.size w2 w' → NSl w' (some ⟨b, off, none⟩) len l) := fun w' h' => hW2.keep h'
  clear hown hcell HP hb2 hb1 hbw hW2 HS
  generalize R.getD 0 0 = r0 at SA c0
  generalize R.getD 1 0 = r1 at SB c3
  generalize R.getD 2 0 = r2 at SC c4
  have KS : Hid (∀ w', Below w2.heap.size w2 w' → w'.cell? ⟨g, 0, none⟩ = some (.int .i64 (r0 : Int)) ∧ w'.cell? ⟨g, 1, none⟩ = some (.int .i64 (r1 : Int)) ∧ w'.cell? ⟨g, 2, none⟩ = some (.int .i64 (r2 : Int)) ∧ Below w2.heap.size w2 w') := fun w' h' =>
    ⟨(h'.cell (p := ⟨g, 0, none⟩) hg).trans c0, (h'.cell (p := ⟨g, 1, none⟩) hg).trans c3, (h'.cell (p := ⟨g, 2, none⟩) hg).trans c4, h'⟩
  go_wp2_with fail
  go_region_held3 (fun w' => w'.cell? ⟨g, 0, none⟩ = some (.int .i64 (r0 : Int)) ∧ w'.cell? ⟨g, 1, none⟩ = some (.int .i64 (r1 : Int)) ∧ w'.cell? ⟨g, 2, none⟩ = some (.int .i64 (r2 : Int)) ∧ Below w2.heap.size w2 w')
    ((refine KS.out _ ?_; first | assumption | exact held_b (by assumption) | exact (Below.refl _ _).drew))
    (first
      | (go_at_call_of 22 r0; refine (SA.out _ (HW2.out _ (held_b (by assumption)))).mono ?_; rintro e w4 ⟨rfl, hb4⟩; have hk4 := held_step (by assumption) hb4; clear hb4)
      | (go_at_call_of 22 r1; refine (SB.out _ (HW2.out _ (held_b (by assumption)))).mono ?_; rintro e w5 ⟨rfl, hb5⟩; have hk5 := held_step (by assumption) hb5; clear hb5)
      | (go_at_call_of 22 r2; refine (SC.out _ (HW2.out _ (held_b (by assumption)))).mono ?_; rintro e w6 ⟨rfl, hb6⟩; have hk6 := held_step (by assumption) hb6; clear hb6))
  all_goals
    go_wp2
    go_ret
    refine ⟨congrArg (fun b => Ending.returned (Value.string b)) (by simp [ByteArray.mk_append_mk]), HB2.out _ ?_⟩
    first | assumption | exact held_b (by assumption)

theorem itoa_len (n : Int) (h : InI n) : (Lib.itoa n).length ≤ 20 := by
  obtain ⟨h0, h1⟩ := h
  unfold Lib.itoa
  split
  · have := dec_len 19 n.natAbs (by decide) (by omega)
    simp only [List.length_cons]; omega
  · exact dec_len 20 n.toNat (by decide) (by omega)
theorem text_any {l : List (Int × Int)} {q : Int} (h : pile l 0 = some q) (hn : InN l) (t : Option Addr) (len cap : Nat) (hl : len ≤ 1048576) (hll : l.length = len) : ∀ (f k : Nat), k < f → k < len → TextAt l t len cap f k := by
  intro f
  induction f with
  | zero => intro k hk; omega
  | succ f ih =>
    intro k hk hkl
    obtain ⟨h1, _⟩ := cnt_step h k (by omega)
    obtain ⟨a1, a2, a3, _⟩ := fits_iff _ _ _ _ h1
    have IH : ∀ r, r < k → TextAt l t len cap f r := fun r hr => ih r (by omega) (by omega)
    have HB : ∀ r, r < k → (textG l f r).length ≤ 40000000 := fun r hr => by
      have := textG_len h (fun j hj => itoa_len _ (hn j)) (r + 1) r (by omega) (by omega) f (by omega)
      omega
    rcases ops (l.getD k (0, 0)).1 with h0 | h0 | h0 | h0 | h0 | h0 | h0 | h0 | h0 | h0 | h0 | h0
    · exfalso; have := ar_out (l.getD k (0, 0)).1 h0; omega
    · exact text_num t len cap f k hkl hn h0
    · exact text_var t len cap f k hkl h0 (a3 h0)
    · exact text_neg h t len cap f k hl hkl h0 HB IH
    · exact text_two h t len cap f k hl hkl (by omega) HB IH
    · exact text_two h t len cap f k hl hkl (by omega) HB IH
    · exact text_two h t len cap f k hl hkl (by omega) HB IH
    · exact text_two h t len cap f k hl hkl (by omega) HB IH
    · exact text_two h t len cap f k hl hkl (by omega) HB IH
    · exact text_two h t len cap f k hl hkl (by omega) HB IH
    · exact text_two h t len cap f k hl hkl (by omega) HB IH
    · exact text_if h t len cap f k hl hkl h0 HB IH
/-- What is told of a term: its text, or none. -/
def termT (l : List (Int × Int)) : List UInt8 := if goodB l = true then textT l else []
theorem specText_any (a : Option Addr) (len cap : Nat) (l : List (Int × Int)) (w : World) (h : NSl w a len l) (hm : len ≤ 9223372036854775807) (hn : InN l) :
    Calls Tryz.prog 58 #[.slice a len cap] w fun e w' => e = .returned (.tuple #[.string ⟨(termT l).toArray⟩, .bool (goodB l)]) ∧ Below w.heap.size w w' := by
  have HG : Hid _ := specGood_any a len cap l w h hm
  have hll := h.1
  by_cases hg : goodB l = true
  · obtain ⟨hp, g1, g2⟩ := good_pile hg
    have hT := text_any hp hn a len cap (by omega) hll len (len - 1) (by omega) (by omega)
    unfold termT textT
    rw [if_pos hg, hg, hll]
    rw [hg] at HG
    have i1 : (1 : Int) ≤ len := by omega
    have i2 : (len : Int) ≤ 40 := by omega
    have e1 : ((len - 1 : Nat) : Int) = (len : Int) - 1 := by omega
    have HT : Hid (∀ W, NSl W a len l → Calls Tryz.prog 22 #[.slice a len cap, .int .i64 ((len : Int) - 1)] W fun e w' => e = .returned (.string ⟨(textG l len (len - 1)).toArray⟩) ∧ Below W.heap.size W w') := by
      intro W hW
      have := hT W hW
      rw [e1] at this
      exact this
    generalize textG l len (len - 1) = L at HT ⊢
    clear hT hg hp e1 hn
    go_enter Tryz.func58, Tryz.ntmps58
    go_wp2_with fail
    refine Calls.mono HG.out ?_
    rintro e w1 ⟨rfl, hb1⟩
    go_wp2_with fail
    refine (HT.out _ (h.keep hb1)).mono ?_
    rintro e w2 ⟨rfl, hb2⟩
    have hB := hb1.trans (hb2.mono hb1.size)
    go_wp2
    go_ret2
    exact ⟨rfl, hB⟩
  · unfold termT
    rw [if_neg hg]
    have hg' : goodB l = false := by simpa using hg
    rw [hg'] at HG ⊢
    clear hg hg' hn
    go_enter Tryz.func58, Tryz.ntmps58
    go_wp2_with fail
    refine Calls.mono HG.out ?_
    rintro e w1 ⟨rfl, hb1⟩
    go_wp2
    go_ret2
    exact ⟨rfl, hb1⟩
end Go.Proofs.YtkadanagmahhgaaGreatDoor
