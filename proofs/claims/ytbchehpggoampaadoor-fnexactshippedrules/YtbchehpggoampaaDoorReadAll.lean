/-
  PROVED HERE: what ReadNum answers, the program's and the model's, at every text. The library's tables and sentinels are laid. No other condition.
-/
import Derived.Test.YtbchehpggoampaaDoorNum
import Derived.Test.YtbchehpggoampaaDoorDigits
namespace Go.Proofs.YtbchehpggoampaaDoor
open Go.ChangeShapes Go.WideShapes Go.ChangeAt Go.RowKit
set_option linter.unusedVariables false


theorem btl (s : ByteArray) : s.toList = s.data.toList := ByteArray.toList_eq s
theorem nin_yes (n : Int) (w : World) (h1 : 1 ≤ n) (h2 : n ≤ 20) : Calls Tryd.prog 36 #[.int .i64 n, .int .i64 1, .int .i64 20] w fun e w' => e = .returned (.bool true) ∧ w' = w := by
  go_enter Tryd.func36, Tryd.ntmps36
  go_wp2
  go_ret
  exact ⟨rfl, rfl⟩
theorem specRead_none (s : ByteArray) (w : World) (hs : s.size ≤ 9223372036854775807) (hno : ∀ n, InI n → Lib.itoa n ≠ s.data.toList) :
    Calls Tryd.prog 101 #[.string s] w fun e w' => e = .returned (.tuple #[.int .i64 0, .bool false]) ∧ Below w.heap.size w w' := by
  by_cases h1 : 1 ≤ s.size ∧ s.size ≤ 20
  · obtain ⟨h1, h2⟩ := h1
    have HN : Hid (∀ n, InI n → Lib.itoa n ≠ s.data.toList) := hno
    clear hno
    have i1 : (1 : Int) ≤ s.size := by omega
    have i2 : (s.size : Int) ≤ 20 := by omega
    go_enter Tryd.func101, Tryd.ntmps101
    go_wp2_with (go_at_call 36; refine (nin_yes _ _ i1 i2).mono ?_; rintro e w' ⟨rfl, rfl⟩)
    go_loopw [4, 5] (fun n i wr => ∃ (k : Nat) (y : Int), k ≤ s.size ∧ i = .int .i64 k ∧ n = .int .i64 y ∧ InI y ∧ wr = w') (fun _ i _ => s.size - (intOf i).toNat)
    case atStart => exact ⟨0, 0, Nat.zero_le _, rfl, rfl, (by unfold InI; decide), rfl⟩
    case round =>
      obtain ⟨k, y, hk, rfl, rfl, hy, rfl⟩ := hrel
      by_cases hlt : k < s.size
      · go_wp2
        all_goals first
          | (go_ret2; exact ⟨rfl, Below.refl _ _⟩)
          | (go_roundw
             case rel => exact ⟨k + 1, _, by omega, by go_num, rfl, (by first | exact hy | exact wrap_in _), (by first | trivial | rfl)⟩
             case measure => simp [intOf]; omega)
      · go_wp2_with fail
        · have hw := wrap_in (-y)
          have hne := HN.out _ hw
          have H := spec_any _ wr hw
          generalize Lib.itoa (wrap64 (-y)) = L at hne H
          refine H.mono ?_
          rintro e w1 ⟨rfl, hb⟩
          have hne' : (L == s.toList) = false := by rw [beq_eq_false_iff_ne, btl]; exact hne
          clear H
          go_wp2
          go_ret2
          exact ⟨rfl, hb⟩
        · have hne := HN.out _ hy
          have H := spec_any _ wr hy
          generalize Lib.itoa y = L at hne H
          refine H.mono ?_
          rintro e w1 ⟨rfl, hb⟩
          have hne' : (L == s.toList) = false := by rw [beq_eq_false_iff_ne, btl]; exact hne
          clear H
          go_wp2
          go_ret2
          exact ⟨rfl, hb⟩
  · by_cases h2 : 1 ≤ s.size
    · have i1 : (1 : Int) ≤ s.size := by omega
      have i2 : ¬ (s.size : Int) ≤ 20 := by omega
      go_enter Tryd.func101, Tryd.ntmps101
      go_wp2
      go_ret2
      exact ⟨rfl, Below.refl _ _⟩
    · have i1 : ¬ (1 : Int) ≤ s.size := by omega
      go_enter Tryd.func101, Tryd.ntmps101
      go_wp2
      go_ret2
      exact ⟨rfl, Below.refl _ _⟩

theorem byte_at (s : ByteArray) (l : List UInt8) (h : s.data.toList = l) (k : Nat) (hk : k < s.size) (hk' : k < l.length) : s[k] = l[k] := by
  subst h; rfl

theorem step_val (y : Int) (p c u : Nat) (hy : y = -(p : Int)) (hc : 48 ≤ c) (hu : 10 * p + (c - 48) ≤ u) (hU : u ≤ 9223372036854775808) : wrap64 (wrap64 (10 * y) - ((c : Int) - 48)) = -((10 * p + (c - 48) : Nat) : Int) := by
  subst hy; unfold wrap64; omega

theorem specRead_pos (u : Nat) (s : ByteArray) (w : World) (hu : u ≤ 9223372036854775807) (hl : s.data.toList = Lib.decDigits u) :
    Calls Tryd.prog 101 #[.string s] w fun e w' => e = .returned (.tuple #[.int .i64 u, .bool true]) ∧ Below w.heap.size w w' := by
  have hsz : s.size = (Lib.decDigits u).length := by rw [← hl]; cases s; rfl
  have hlen : (Lib.decDigits u).length ≤ 19 := dec_len 19 u (by decide) (by omega)
  have hpos : 1 ≤ (Lib.decDigits u).length := by
    have := dec_ne u
    cases h : Lib.decDigits u with
    | nil => exact absurd h this
    | cons a b => simp
  have i1 : (1 : Int) ≤ s.size := by omega
  have i2 : (s.size : Int) ≤ 20 := by omega
  have HD : Hid (∀ k, (hk : k < s.size) → (48 ≤ (s[k].toNat : Int) ∧ (s[k].toNat : Int) ≤ 57) ∧ dval ((Lib.decDigits u).take (k + 1)) = 10 * dval ((Lib.decDigits u).take k) + (s[k].toNat - 48) ∧ dval ((Lib.decDigits u).take (k + 1)) ≤ u) := by
    intro k hk
    have hk' : k < (Lib.decDigits u).length := by omega
    have hb := byte_at s _ hl k hk hk'
    have hd := dec_dig u _ (List.getElem_mem hk')
    rw [hb]
    refine ⟨by unfold IsDig at hd; omega, ?_, dec_take u (k + 1) (by omega)⟩
    rw [take_step _ k hk', dval_snoc]
  have HE : Hid (dval ((Lib.decDigits u).take s.size) = u) := by
    show dval ((Lib.decDigits u).take s.size) = u
    rw [hsz, List.take_length, dec_val]
  have HS : Hid (Lib.itoa (u : Int) = s.toList) := by
    show Lib.itoa (u : Int) = s.toList
    rw [btl, hl]; rfl
  have s1 : 1 ≤ s.size := by omega
  have s2 : s.size ≤ 20 := by omega
  clear hl hsz hlen hpos
  go_enter Tryd.func101, Tryd.ntmps101
  go_wp2_with (go_at_call 36; refine (nin_yes _ _ i1 i2).mono ?_; rintro e w' ⟨rfl, rfl⟩)
  go_loopw [4, 5] (fun n i wr => ∃ (k : Nat) (y : Int), k ≤ s.size ∧ i = .int .i64 k ∧ n = .int .i64 y ∧ Hid (y = -(dval ((Lib.decDigits u).take k) : Int)) ∧ wr = w') (fun _ i _ => s.size - (intOf i).toNat)
  case atStart => exact ⟨0, 0, Nat.zero_le _, rfl, rfl, rfl, rfl⟩
  case round =>
    obtain ⟨k, y, hk, rfl, rfl, hy, rfl⟩ := hrel
    by_cases hlt : k < s.size
    · obtain ⟨⟨d1, d2⟩, d3, d4⟩ := HD.out k hlt
      have hv := step_val y (dval ((Lib.decDigits u).take k)) s[k].toNat u hy.out (by omega) (by omega) (by omega)
      rw [← d3] at hv
      have HV : Hid (wrap64 (wrap64 (10 * y) - ((s[k].toNat : Int) - 48)) = -(dval ((Lib.decDigits u).take (k + 1)) : Int)) := hv
      have D : Hid (48 ≤ (s[k].toNat : Int) ∧ (s[k].toNat : Int) ≤ 57) := ⟨d1, d2⟩
      clear hv d1 d2 d3 d4
      go_wp2
      all_goals first
        | (have hD := D.out; exfalso; omega)
        | (go_roundw
           case rel => exact ⟨k + 1, _, by omega, by go_num, rfl, HV, (by first | trivial | rfl)⟩
           case measure => simp [intOf]; omega)
    · obtain rfl : k = s.size := by omega
      have h0 := (HD.out 0 (by omega)).1
      have hyv : wrap64 (-y) = (u : Int) := by
        have e1 := hy.out
        have e2 := HE.out
        rw [e2] at e1
        subst e1
        unfold wrap64; omega
      have D : Hid (48 ≤ (s[0].toNat : Int)) := h0.1
      have H := spec_any (u : Int) wr (by unfold InI; omega)
      have HS' := HS.out
      clear h0
      go_wp2_with fail
      all_goals first
        | (have hD := D.out; have hx : ((s[0].toNat : Int) != 45) = false := by assumption
           exfalso; simp at hx; omega)
        | skip
      rw [hyv]
      rw [HS'] at H
      refine H.mono ?_
      rintro e w1 ⟨rfl, hb⟩
      have hne : (s.toList == s.toList) = true := by simp
      clear H HS'
      go_wp2
      go_ret2
      exact ⟨rfl, hb⟩

theorem specRead_neg (u : Nat) (s : ByteArray) (w : World) (hu0 : 1 ≤ u) (hu : u ≤ 9223372036854775808) (hl : s.data.toList = 45 :: Lib.decDigits u) :
    Calls Tryd.prog 101 #[.string s] w fun e w' => e = .returned (.tuple #[.int .i64 (-u), .bool true]) ∧ Below w.heap.size w w' := by
  have hsz : s.size = (Lib.decDigits u).length + 1 := by
    have : s.size = s.data.toList.length := by cases s; rfl
    rw [this, hl]; rfl
  have hlen : (Lib.decDigits u).length ≤ 19 := dec_len 19 u (by decide) (by omega)
  have i1 : (1 : Int) ≤ s.size := by omega
  have i2 : (s.size : Int) ≤ 20 := by omega
  have H0 : Hid ((h : 0 < s.size) → (s[0].toNat : Int) = 45) := by
    intro h
    rw [byte_at s _ hl 0 h (by simp)]
    rfl
  have HD : Hid (∀ k, (hk : k + 1 < s.size) → (48 ≤ (s[k + 1].toNat : Int) ∧ (s[k + 1].toNat : Int) ≤ 57) ∧ dval ((Lib.decDigits u).take (k + 1)) = 10 * dval ((Lib.decDigits u).take k) + (s[k + 1].toNat - 48) ∧ dval ((Lib.decDigits u).take (k + 1)) ≤ u) := by
    intro k hk
    have hk' : k < (Lib.decDigits u).length := by omega
    have hb := byte_at s _ hl (k + 1) hk (by simp; omega)
    have hd := dec_dig u _ (List.getElem_mem hk')
    rw [hb]
    refine ⟨by unfold IsDig at hd; simp only [List.getElem_cons_succ]; omega, ?_, dec_take u (k + 1) (by omega)⟩
    rw [take_step _ k hk', dval_snoc]
    rfl
  have HE : Hid (dval ((Lib.decDigits u).take (s.size - 1)) = u) := by
    show dval ((Lib.decDigits u).take (s.size - 1)) = u
    rw [hsz, Nat.add_sub_cancel, List.take_length, dec_val]
  have HS : Hid (Lib.itoa (-(u : Int)) = s.toList) := by
    show Lib.itoa (-(u : Int)) = s.toList
    rw [btl, hl]
    unfold Lib.itoa; rw [if_pos (by omega)]; congr 2; omega
  have s1 : 1 ≤ s.size := by omega
  have s2 : s.size ≤ 20 := by omega
  clear hl hsz hlen
  go_enter Tryd.func101, Tryd.ntmps101
  go_wp2_with (go_at_call 36; refine (nin_yes _ _ i1 i2).mono ?_; rintro e w' ⟨rfl, rfl⟩)
  go_loopw [4, 5] (fun n i wr => ∃ (k : Nat) (y : Int), k ≤ s.size ∧ i = .int .i64 k ∧ n = .int .i64 y ∧ Hid (y = -(dval ((Lib.decDigits u).take (k - 1)) : Int)) ∧ wr = w') (fun _ i _ => s.size - (intOf i).toNat)
  case atStart => exact ⟨0, 0, Nat.zero_le _, rfl, rfl, rfl, rfl⟩
  case round =>
    obtain ⟨k, y, hk, rfl, rfl, hy, rfl⟩ := hrel
    by_cases hlt : k < s.size
    · rcases k with _ | k
      · have D := H0.out hlt
        have D' : Hid ((s[0].toNat : Int) = 45) := D
        clear D
        go_wp2
        all_goals first
          | (have hD := D'.out; exfalso; omega)
          | (go_roundw
             case rel => exact ⟨0 + 1, _, by omega, by go_num, rfl, hy, (by first | trivial | rfl)⟩
             case measure => simp [intOf]; omega)
      · obtain ⟨⟨d1, d2⟩, d3, d4⟩ := HD.out k hlt
        have hy1 : y = -(dval ((Lib.decDigits u).take k) : Int) := hy.out
        have hv := step_val y (dval ((Lib.decDigits u).take k)) s[k + 1].toNat u hy1 (by omega) (by omega) (by omega)
        rw [← d3] at hv
        have HV : Hid (wrap64 (wrap64 (10 * y) - ((s[k + 1].toNat : Int) - 48)) = -(dval ((Lib.decDigits u).take (k + 1)) : Int)) := hv
        have D : Hid (48 ≤ (s[k + 1].toNat : Int) ∧ (s[k + 1].toNat : Int) ≤ 57) := ⟨d1, d2⟩
        clear hv d1 d2 d3 d4 hy1
        go_wp2
        all_goals first
          | (have hD := D.out; exfalso; omega)
          | (go_roundw
             case rel => exact ⟨k + 1 + 1, _, by omega, by go_num, rfl, HV, (by first | trivial | rfl)⟩
             case measure => simp [intOf]; omega)
    · obtain rfl : k = s.size := by omega
      have hyv : y = -(u : Int) := by
        have e1 := hy.out
        have e2 := HE.out
        rw [e2] at e1
        exact e1
      have D : Hid ((s[0].toNat : Int) = 45) := H0.out (by omega)
      have H := spec_any (-(u : Int)) wr (by unfold InI; omega)
      have HS' := HS.out
      subst hyv
      go_wp2_with fail
      all_goals first
        | (have hD := D.out; have hx : ((s[0].toNat : Int) != 45) = true := by assumption
           exfalso; rw [hD] at hx; simp at hx)
        | skip
      rw [HS'] at H
      refine H.mono ?_
      rintro e w1 ⟨rfl, hb⟩
      have hne : (s.toList == s.toList) = true := by simp
      clear H HS'
      go_wp2
      go_ret2
      exact ⟨rfl, hb⟩

theorem specRead_some (n : Int) (s : ByteArray) (w : World) (h : InI n) (hl : Lib.itoa n = s.data.toList) :
    Calls Tryd.prog 101 #[.string s] w fun e w' => e = .returned (.tuple #[.int .i64 n, .bool true]) ∧ Below w.heap.size w w' := by
  obtain ⟨h0, h1⟩ := h
  by_cases hn : n < 0
  · obtain ⟨u, hu⟩ : ∃ u : Nat, n = -(u : Int) := ⟨n.natAbs, by omega⟩
    subst hu
    have e : Lib.itoa (-(u : Int)) = 45 :: Lib.decDigits u := by
      unfold Lib.itoa; rw [if_pos hn]; congr 2; omega
    rw [e] at hl
    exact specRead_neg u s w (by omega) (by omega) hl.symm
  · obtain ⟨u, rfl⟩ := Int.eq_ofNat_of_zero_le (show 0 ≤ n by omega)
    have e : Lib.itoa (u : Int) = Lib.decDigits u := by
      unfold Lib.itoa; rw [if_neg hn]; rfl
    rw [e] at hl
    exact specRead_pos u s w (by omega) hl.symm

theorem gES : Tryd.prog.globalNamed "strconv.ErrSyntax" = some 6 := by kernel_rfl
theorem gER : Tryd.prog.globalNamed "strconv.ErrRange" = some 7 := by kernel_rfl
theorem Errs.keep {w w' : World} (h : Errs w) (hb : Below w.heap.size w w') : Errs w' := by
  obtain ⟨⟨t1, p1, h1⟩, t2, p2, h2⟩ := h
  exact ⟨⟨t1, p1, Joins.var_stays gES h1 hb (Nat.le_refl _)⟩, t2, p2, Joins.var_stays gER h2 hb (Nat.le_refl _)⟩

theorem parsed_in {l : List UInt8} {v : Int} (h : Lib.parseIntB 64 l = .ok v) : InI v := by
  have := Lib.parseIntB_bounds h
  have p63 : 2 ^ (64 - 1) = 9223372036854775808 := by decide
  rw [p63] at this
  unfold InI; omega

theorem implRead_some (n : Int) (s : ByteArray) (w : World) (h : InI n) (hl : Lib.itoa n = s.data.toList) (hp : Pow w) :
    Calls Tryd.prog 109 #[.string s] w fun e w' => e = .returned (.tuple #[.int .i64 n, .bool true]) ∧ Below w.heap.size w w' := by
  have hsz : s.size ≤ 20 := by
    have e0 : s.size = s.data.toList.length := by cases s; rfl
    rw [e0, ← hl]
    obtain ⟨h0, h1⟩ := h
    unfold Lib.itoa
    split
    · have := dec_len 19 n.natAbs (by decide) (by omega)
      simp; omega
    · have := dec_len 19 n.toNat (by decide) (by omega)
      omega
  have hpar := parse_ok s (by omega) n (by rw [← hl]; exact parse_itoa n h.1 h.2) w
  have H : Hid (∀ w, Pow w → Calls Tryd.prog 71 #[.int .i64 n] w fun e w' => e = .returned (.string ⟨(Lib.itoa n).toArray⟩) ∧ Below w.heap.size w w') := fun w => impl_any n w h
  rw [hl] at H
  rw [← btl] at H
  have i2 : ¬ (20 : Int) < s.size := by omega
  have hne : (s.toList == s.toList) = true := by simp
  clear hl h
  go_enter Tryd.func109, Tryd.ntmps109
  go_wp2_with fail
  refine hpar.mono ?_
  rintro e w1 ⟨rfl, hb1⟩
  have hp1 := hp.keep hb1
  clear hpar
  go_wp2_with fail
  refine (H.out _ hp1).mono ?_
  rintro e w2 ⟨rfl, hb2⟩
  have hb := hb1.trans (hb2.mono hb1.size)
  clear H hp1 hp
  go_wp2
  go_ret2
  exact ⟨rfl, hb⟩

theorem implRead_none (s : ByteArray) (w : World) (hs : s.size ≤ 9223372036854775807) (hno : ∀ n, InI n → Lib.itoa n ≠ s.data.toList) (hp : Pow w) (he : Errs w) :
    Calls Tryd.prog 109 #[.string s] w fun e w' => e = .returned (.tuple #[.int .i64 0, .bool false]) ∧ Below w.heap.size w w' := by
  by_cases hsz : s.size ≤ 20
  · have i2 : ¬ (20 : Int) < s.size := by omega
    by_cases hok : ∃ v, Lib.parseIntB 64 s.data.toList = .ok v
    · obtain ⟨v, hv⟩ := hok
      have hin := parsed_in hv
      have hpar := parse_ok s (by omega) v hv w
      have H : Hid (∀ w, Pow w → Calls Tryd.prog 71 #[.int .i64 v] w fun e w' => e = .returned (.string ⟨(Lib.itoa v).toArray⟩) ∧ Below w.heap.size w w') := fun w => impl_any v w hin
      have hne0 := hno v hin
      generalize Lib.itoa v = L at H hne0
      have hne : (L == s.toList) = false := by rw [beq_eq_false_iff_ne, btl]; exact hne0
      clear hno hv hin hne0 he
      go_enter Tryd.func109, Tryd.ntmps109
      go_wp2_with fail
      refine hpar.mono ?_
      rintro e w1 ⟨rfl, hb1⟩
      have hp1 := hp.keep hb1
      clear hpar
      go_wp2_with fail
      refine (H.out _ hp1).mono ?_
      rintro e w2 ⟨rfl, hb2⟩
      have hb := hb1.trans (hb2.mono hb1.size)
      clear H hp1 hp
      go_wp2
      go_ret2
      exact ⟨rfl, hb⟩
    · have hpar := parse_bad s (by omega) (fun v hv => hok ⟨v, hv⟩) w he
      clear hno hok he hp
      go_enter Tryd.func109, Tryd.ntmps109
      go_wp2_with fail
      refine hpar.mono ?_
      rintro e w1 ⟨x, T, N, rfl, hb1⟩
      clear hpar
      go_wp2
      go_ret2
      exact ⟨rfl, hb1⟩
  · have i2 : (20 : Int) < s.size := by omega
    go_enter Tryd.func109, Tryd.ntmps109
    go_wp2
    go_ret2
    exact ⟨rfl, Below.refl _ _⟩

/-- What ReadNum is to answer. -/
theorem read_any (s : ByteArray) (hs : s.size ≤ 9223372036854775807) : ∃ (v : Int) (k : Bool),
    (∀ w, Calls Tryd.prog 101 #[.string s] w fun e w' => e = .returned (.tuple #[.int .i64 v, .bool k]) ∧ Below w.heap.size w w') ∧
    (∀ w, Pow w → Errs w → Calls Tryd.prog 109 #[.string s] w fun e w' => e = .returned (.tuple #[.int .i64 v, .bool k]) ∧ Below w.heap.size w w') ∧
    (k = true → InI v ∧ Lib.itoa v = s.data.toList) ∧ (k = false → v = 0 ∧ ∀ n, InI n → Lib.itoa n ≠ s.data.toList) := by
  by_cases h : ∃ n, InI n ∧ Lib.itoa n = s.data.toList
  · obtain ⟨n, hn, hl⟩ := h
    exact ⟨n, true, fun w => specRead_some n s w hn hl, fun w hp _ => implRead_some n s w hn hl hp, fun _ => ⟨hn, hl⟩, fun h => by cases h⟩
  · have hno : ∀ n, InI n → Lib.itoa n ≠ s.data.toList := fun n hn hl => h ⟨n, hn, hl⟩
    exact ⟨0, false, fun w => specRead_none s w hs hno, fun w hp he => implRead_none s w hs hno hp he, (fun h => by cases h), fun _ => ⟨rfl, hno⟩⟩

end Go.Proofs.YtbchehpggoampaaDoor
