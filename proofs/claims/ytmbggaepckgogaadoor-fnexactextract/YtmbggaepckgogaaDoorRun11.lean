/-
  PROVED HERE: what the model's comparing of nodes answers, at every two nodes. No other condition. which lists are good parents and good parts, to the model and to the program, at every list. No other condition.
-/
import Derived.Test.YtmbggaepckgogaaDoorRun10
import Derived.Test.YtmbggaepckgogaaDoorRun4
namespace Go.Proofs.YtmbggaepckgogaaDoor
open Go.ChangeShapes Go.WideShapes Go.ChangeAt Go.RowKit
set_option linter.unusedVariables false

theorem spSame_any (a b : Option Addr) (len cap len' cap' : Nat) (l m : List Int) (w : World) (h : Sl w a len l) (h' : Sl w b len' m) (hm : len ≤ 9223372036854775807) :
    Calls Tryd.prog 69 #[.slice a len cap, .slice b len' cap'] w fun e w' => e = .returned (.bool (decide (l = m))) ∧ ∃ n, w' = w.drewN n := by
  have hll := h.1
  have hml := h'.1
  by_cases hlen : len = len'
  · subst hlen
    have hne : ((len : Int) != len) = false := by simp
    go_enter Tryd.func69, Tryd.ntmps69
    go_wp2_with fail
    go_loopw [13] (fun i wr => ∃ k : Nat, k ≤ len ∧ i = .int .i64 k ∧ (∃ n, wr = w.drewN n) ∧ Hid (∀ j, j < k → l.getD j 0 = m.getD j 0)) (fun i _ => len - (intOf i).toNat)
    case atStart => exact ⟨0, Nat.zero_le _, rfl, ⟨0, rfl⟩, fun j hj => absurd hj (Nat.not_lt_zero _)⟩
    case round =>
      obtain ⟨k, hk, rfl, hdr, hT⟩ := hrel
      have hbr : Below w.heap.size w wr := by obtain ⟨n, rfl⟩ := hdr; exact Go.below_drewN (Below.refl _ _) n
      have HD := (show Hid _ from hdr)
      clear hdr
      by_cases hlt : k < len
      · obtain ⟨b1, off, rfl, hc⟩ := cells_of (h.keep hbr) (by omega)
        obtain ⟨b2, off', rfl, hc'⟩ := cells_of (h'.keep hbr) (by omega)
        have ck := hc k hlt
        have ck' := hc' k hlt
        have hlt' : (k : Int) < len := by omega
        have HE : Hid (l.getD k 0 ≠ m.getD k 0 → decide (l = m) = false) := fun hne => decide_eq_false (fun e => hne (by rw [e]))
        have HS : Hid (l.getD k 0 = m.getD k 0 → ∀ j, j < k + 1 → l.getD j 0 = m.getD j 0) := fun e j hj => by
          by_cases e1 : j = k
          · rw [e1]; exact e
          · exact hT.out j (by omega)
        clear hc hc' hT h h'
        generalize l.getD k 0 = x at ck HE HS
        generalize m.getD k 0 = y at ck' HE HS
        by_cases e : x = y
        · subst e
          have HR := (show Hid _ from HS.out rfl)
          have hxx : (x != x) = false := by simp
          clear HE HS
          go_wp2_with fail
          go_quiet (fail)
          go_wp2
          go_roundw
          case rel => exact ⟨k + 1, by omega, by go_num, by obtain ⟨n, rfl⟩ := HD.out; exact ⟨_, World.drewN_drewN ..⟩, HR⟩
          case measure => simp [intOf]; omega
        · have HV : Hid (decide (l = m) = false) := HE.out e
          have hxy : (x != y) = true := by simpa using e
          clear HE HS
          go_wp2_with fail
          go_quiet (fail)
          go_wp2
          go_ret
          exact ⟨by rw [HV.out] <;> rfl, by obtain ⟨n, rfl⟩ := HD.out; exact ⟨_, World.drewN_drewN ..⟩⟩
      · obtain rfl : k = len := by omega
        have HV : Hid (decide (l = m) = true) := decide_eq_true (list_ext (by omega) fun j hj => hT.out j (by omega))
        clear hT
        go_wp2
        go_ret
        exact ⟨by rw [HV.out] <;> rfl, HD.out⟩
  · have hne : ((len : Int) != len') = true := by simp; omega
    rw [decide_eq_false (fun e => hlen (by rw [← hll, ← hml, e]))]
    go_enter Tryd.func69, Tryd.ntmps69
    go_wp2
    go_ret
    exact ⟨rfl, ⟨0, rfl⟩⟩
set_option maxHeartbeats 800000 in
theorem alike_any (x y : EN) (a b : Option Addr) (len cap len' cap' : Nat) (w : World) (h : Sl w a len x.2.2) (h' : Sl w b len' y.2.2) (hm : len ≤ 9223372036854775807) :
    Calls Tryd.prog 48 #[.agg #[.int .i64 x.1, .int .i64 x.2.1, .slice a len cap], .agg #[.int .i64 y.1, .int .i64 y.2.1, .slice b len' cap']] w fun e w' => e = .returned (.bool (decide (x = y))) ∧ Below w.heap.size w w' := by
  obtain ⟨xo, xn, xk⟩ := x
  obtain ⟨yo, yn, yk⟩ := y
  simp only at h h' ⊢
  obtain ⟨W1, hW1⟩ : ∃ W1, (w.alloc (.cells #[.int .i64 xo, .int .i64 xn, .slice a len cap] 74)).alloc (.cells #[.int .i64 yo, .int .i64 yn, .slice b len' cap'] 74) = W1 := ⟨_, rfl⟩
  have hb1 : Below w.heap.size w W1 := by rw [← hW1]; exact ((Below.refl _ _).alloc (Nat.le_refl _) _).alloc (by simp) _
  have n0 : W1.cell? ⟨w.heap.size, 0, none⟩ = some (.int .i64 xo) := by rw [← hW1]; simp [go_sem]
  have n1 : W1.cell? ⟨w.heap.size, 1, none⟩ = some (.int .i64 xn) := by rw [← hW1]; simp [go_sem]
  have n2 : W1.cell? ⟨w.heap.size, 2, none⟩ = some (.slice a len cap) := by rw [← hW1]; simp [go_sem]
  have m0 : W1.cell? ⟨w.heap.size + 1, 0, none⟩ = some (.int .i64 yo) := by rw [← hW1]; simp [go_sem]
  have m1 : W1.cell? ⟨w.heap.size + 1, 1, none⟩ = some (.int .i64 yn) := by rw [← hW1]; simp [go_sem]
  have m2 : W1.cell? ⟨w.heap.size + 1, 2, none⟩ = some (.slice b len' cap') := by rw [← hW1]; simp [go_sem]
  have HS := (show Hid _ from spSame_any a b len cap len' cap' xk yk W1 (h.keep hb1) (h'.keep hb1) hm)
  have HB := (show Hid _ from hb1)
  clear h h' hb1
  by_cases e1 : xo = yo
  · by_cases e2 : xn = yn
    · have ev : decide ((xo, xn, xk) = (yo, yn, yk)) = decide (xk = yk) := by simp [e1, e2]
      rw [ev]
      subst e1 e2
      generalize decide (xk = yk) = B at HS
      have q1 : (xo == xo) = true := by simp
      have q2 : (xn == xn) = true := by simp
      clear ev
      go_enter Tryd.func48, Tryd.ntmps48
      go_wp2_with fail
      (try rw [hW1])
      refine Calls.mono HS.out ?_
      rintro e w2 ⟨rfl, n, rfl⟩
      clear hW1 HS
      go_wp2
      go_ret
      exact ⟨rfl, below_drewN HB.out _⟩
    · have ev : decide ((xo, xn, xk) = (yo, yn, yk)) = false := by simp [e2]
      rw [ev]
      have q1 : (xo == yo) = true := by simpa using e1
      have q2 : (xn == yn) = false := by simpa using e2
      clear ev HS e1 e2
      go_enter Tryd.func48, Tryd.ntmps48
      go_wp2
      (try rw [hW1])
      go_ret
      exact ⟨rfl, HB.out⟩
  · have ev : decide ((xo, xn, xk) = (yo, yn, yk)) = false := by simp [e1]
    rw [ev]
    have q1 : (xo == yo) = false := by simpa using e1
    clear ev HS e1
    go_enter Tryd.func48, Tryd.ntmps48
    go_wp2
    (try rw [hW1])
    go_ret
    exact ⟨rfl, HB.out⟩
end Go.Proofs.YtmbggaepckgogaaDoor
namespace Go.Proofs.YtmbggaepckgogaaDoor
open Go.ChangeShapes Go.WideShapes Go.ChangeAt Go.RowKit
set_option linter.unusedVariables false

theorem par_no {l : List Int} {k : Nat} (hk : k < l.length) (h : l.getD k 0 < 0 ∨ (k : Int) < l.getD k 0) : ¬ Par l := fun hp => by
  have := hp k hk
  omega
theorem implIsGood_any (a : Option Addr) (len cap : Nat) (l : List Int) (w : World) (h : Sl w a len l) (hm : len ≤ 9223372036854775807) :
    Calls Tryd.prog 82 #[.slice a len cap] w fun e w' => e = .returned (.bool (decide (Par l))) ∧ w' = w := by
  have hll := h.1
  obtain ⟨B, hB⟩ : ∃ B, decide (Par l) = B := ⟨_, rfl⟩
  rw [hB]
  have HB := (show Hid _ from hB)
  have HS := (show Hid _ from h)
  clear hB h
  go_enter Tryd.func82, Tryd.ntmps82
  go_wp2_with fail
  go_loopw [7] (fun i wr => ∃ (k : Nat), k ≤ len ∧ i = .int .i64 k ∧ Hid (∀ j, j < k → 0 ≤ l.getD j 0 ∧ l.getD j 0 ≤ (j : Int)) ∧ wr = w) (fun i _ => len - (intOf i).toNat)
  case atStart => exact ⟨0, Nat.zero_le _, rfl, fun j hj => absurd hj (Nat.not_lt_zero _), rfl⟩
  case round =>
    obtain ⟨k, hk, rfl, hd, rfl⟩ := hrel
    by_cases hlt : k < len
    · obtain ⟨b, off, rfl, hc⟩ := cells_of HS.out (by omega)
      have c1 := hc k hlt
      clear hc
      by_cases hy : 0 ≤ l.getD k 0
      · by_cases hz : l.getD k 0 ≤ (k : Int)
        · have HD : Hid (∀ j, j < k + 1 → 0 ≤ l.getD j 0 ∧ l.getD j 0 ≤ (j : Int)) := fun j hj => by
            by_cases e : j = k
            · subst e; exact ⟨hy, hz⟩
            · exact hd.out j (by omega)
          have hy' : ¬ l.getD k 0 < 0 := by omega
          have hz' : ¬ (k : Int) < l.getD k 0 := by omega
          clear hd
          generalize l.getD k 0 = z at c1 hy hy' hz hz'
          go_wp2
          go_roundw
          case rel => exact ⟨k + 1, by omega, by go_num, HD, (by first | trivial | rfl)⟩
          case measure => simp [intOf]; omega
        · have e : B = false := by
            rw [← HB.out]
            exact decide_eq_false (par_no (k := k) (by omega) (by omega))
          subst e
          have hy' : ¬ l.getD k 0 < 0 := by omega
          have hz' : (k : Int) < l.getD k 0 := by omega
          clear hd
          generalize l.getD k 0 = z at c1 hy hy' hz hz'
          go_wp2
          go_ret
          exact ⟨rfl, rfl⟩
      · have e : B = false := by
          rw [← HB.out]
          exact decide_eq_false (par_no (k := k) (by omega) (by omega))
        subst e
        have hy' : l.getD k 0 < 0 := by omega
        clear hd
        generalize l.getD k 0 = z at c1 hy hy'
        go_wp2
        go_ret
        exact ⟨rfl, rfl⟩
    · obtain rfl : k = len := by omega
      have e : B = true := by
        rw [← HB.out]
        exact decide_eq_true (fun j hj => hd.out j (by omega))
      subst e
      clear hd HB
      go_wp2
      go_ret
      exact ⟨rfl, rfl⟩

theorem implParents_any (a : Option Addr) (len cap : Nat) (l : List Int) (w : World) (h : Sl w a len l) (hm : len ≤ 9223372036854775807) :
    Calls Tryd.prog 78 #[.slice a len cap] w fun e w' => e = .returned (.bool (parB l)) ∧ w' = w := by
  have hll := h.1
  by_cases h2 : len ≤ 200
  · have HG := (show Hid _ from implIsGood_any a len cap l w h hm)
    have e : parB l = decide (Par l) := by unfold parB; rw [decide_eq_true (by omega), Bool.true_and]
    rw [e]
    generalize decide (Par l) = B at HG
    have h2' : (len : Int) ≤ 200 := by omega
    clear h e hll
    go_enter Tryd.func78, Tryd.ntmps78
    go_wp2_with fail
    refine Calls.mono HG.out ?_
    rintro e w2 ⟨rfl, rfl⟩
    go_wp2
    go_ret
    exact ⟨rfl, rfl⟩
  · have e : parB l = false := by unfold parB; rw [decide_eq_false (by omega), Bool.false_and]
    rw [e]
    have h2' : ¬ (len : Int) ≤ 200 := by omega
    clear h e hll
    go_enter Tryd.func78, Tryd.ntmps78
    go_wp2
    go_ret
    exact ⟨rfl, rfl⟩

theorem specParts_any (a : Option Addr) (len cap : Nat) (l : List Int) (w : World) (h : Sl w a len l) (hm : len ≤ 9223372036854775807) :
    Calls Tryd.prog 47 #[.slice a len cap] w fun e w' => e = .returned (.bool (partB l)) ∧ w' = w := by
  have hll := h.1
  obtain ⟨B, hB⟩ : ∃ B, partB l = B := ⟨_, rfl⟩
  rw [hB]
  have HB := (show Hid _ from hB)
  have HS := (show Hid _ from h)
  clear hB h
  by_cases h2 : len ≤ 200
  · have h2' : ¬ (200 : Int) < len := by omega
    go_enter Tryd.func47, Tryd.ntmps47
    go_wp2_with fail
    go_loopw [10] (fun i wr => ∃ (k : Nat), k ≤ len ∧ i = .int .i64 k ∧ Hid (∀ j, j < k → (0 ≤ l.getD j 0 ∧ l.getD j 0 ≤ (j : Int)) ∧ l.getD (l.getD j 0).toNat 0 = l.getD j 0) ∧ wr = w) (fun i _ => len - (intOf i).toNat)
    case atStart => exact ⟨0, Nat.zero_le _, rfl, fun j hj => absurd hj (Nat.not_lt_zero _), rfl⟩
    case round =>
      obtain ⟨k, hk, rfl, hd, rfl⟩ := hrel
      by_cases hlt : k < len
      · obtain ⟨b, off, rfl, hc⟩ := cells_of HS.out (by omega)
        have c1 := hc k hlt
        by_cases hy : 0 ≤ l.getD k 0 ∧ l.getD k 0 ≤ (k : Int)
        · have HI := (show Hid _ from in_yes (l.getD k 0) 0 k wr hy.1 hy.2)
          have c2 := hc (l.getD k 0).toNat (by omega)
          have HD : Hid (l.getD (l.getD k 0).toNat 0 = l.getD k 0 → ∀ j, j < k + 1 → (0 ≤ l.getD j 0 ∧ l.getD j 0 ≤ (j : Int)) ∧ l.getD (l.getD j 0).toNat 0 = l.getD j 0) := fun hh j hj => by
            by_cases e : j = k
            · subst e; exact ⟨hy, hh⟩
            · exact hd.out j (by omega)
          have HN : Hid (l.getD (l.getD k 0).toNat 0 ≠ l.getD k 0 → B = false) := fun hh => by
            rw [← HB.out]
            refine Bool.eq_false_iff.2 fun ht => hh ?_
            exact ((partB_iff l).1 ht).2.2 k (by omega)
          obtain ⟨z, hz⟩ : ∃ z : Nat, l.getD k 0 = z := ⟨_, (Int.toNat_of_nonneg hy.1).symm⟩
          rw [hz] at c1 HI c2 HD HN hy
          rw [Int.toNat_natCast] at c2 HD HN
          have hz1 : z < len := by omega
          clear hd hc hz
          generalize l.getD z 0 = y at c2 HD HN
          by_cases e : y = z
          · have HD' := (show Hid _ from HD.out e)
            clear HD HN hy
            subst e
            go_wp2_with fail
            refine Calls.mono HI.out ?_
            rintro e w2 ⟨rfl, rfl⟩
            go_wp2
            go_roundw
            case rel => exact ⟨k + 1, by omega, by go_num, HD', (by first | trivial | rfl)⟩
            case measure => simp [intOf]; omega
          · have eb := HN.out e
            subst eb
            have e' : (y != (z : Int)) = true := by simpa using e
            clear HD HN hy e
            go_wp2_with fail
            refine Calls.mono HI.out ?_
            rintro e w2 ⟨rfl, rfl⟩
            go_wp2
            go_ret
            exact ⟨rfl, rfl⟩
        · have HI := (show Hid _ from in_no (l.getD k 0) 0 k wr (by omega))
          have e : B = false := by
            rw [← HB.out]
            refine Bool.eq_false_iff.2 fun ht => hy ?_
            exact ((partB_iff l).1 ht).2.1 k (by omega)
          subst e
          clear hy hd hc
          generalize l.getD k 0 = z at c1 HI
          go_wp2_with fail
          refine Calls.mono HI.out ?_
          rintro e w2 ⟨rfl, rfl⟩
          go_wp2
          go_ret
          exact ⟨rfl, rfl⟩
      · obtain rfl : k = len := by omega
        have e : B = true := by
          rw [← HB.out, partB_iff]
          exact ⟨by omega, fun j hj => (hd.out j (by omega)).1, fun j hj => (hd.out j (by omega)).2⟩
        subst e
        clear hd HB
        go_wp2
        go_ret
        exact ⟨rfl, rfl⟩
  · have h2' : (200 : Int) < len := by omega
    have e : B = false := by
      rw [← HB.out]
      exact Bool.eq_false_iff.2 fun ht => by have := ((partB_iff l).1 ht).1; omega
    subst e
    go_enter Tryd.func47, Tryd.ntmps47
    go_wp2
    go_ret
    exact ⟨rfl, rfl⟩

theorem implIsFlat_any (a : Option Addr) (len cap : Nat) (l : List Int) (w : World) (h : Sl w a len l) (hp : Par l) (hm : len ≤ 200) :
    Calls Tryd.prog 79 #[.slice a len cap] w fun e w' => e = .returned (.bool (decide (Flat l))) ∧ w' = w := by
  have hll := h.1
  obtain ⟨B, hB⟩ : ∃ B, decide (Flat l) = B := ⟨_, rfl⟩
  rw [hB]
  have HB := (show Hid _ from hB)
  have HS := (show Hid _ from h)
  have HP := (show Hid _ from hp)
  clear hB h hp
  go_enter Tryd.func79, Tryd.ntmps79
  go_wp2_with fail
  go_loopw [7] (fun i wr => ∃ (k : Nat), k ≤ len ∧ i = .int .i64 k ∧ Hid (∀ j, j < k → l.getD (l.getD j 0).toNat 0 = l.getD j 0) ∧ wr = w) (fun i _ => len - (intOf i).toNat)
  case atStart => exact ⟨0, Nat.zero_le _, rfl, fun j hj => absurd hj (Nat.not_lt_zero _), rfl⟩
  case round =>
    obtain ⟨k, hk, rfl, hd, rfl⟩ := hrel
    by_cases hlt : k < len
    · obtain ⟨b, off, rfl, hc⟩ := cells_of HS.out (by omega)
      have c1 := hc k hlt
      have hy := HP.out k (by omega)
      have c2 := hc (l.getD k 0).toNat (by omega)
      have HD : Hid (l.getD (l.getD k 0).toNat 0 = l.getD k 0 → ∀ j, j < k + 1 → l.getD (l.getD j 0).toNat 0 = l.getD j 0) := fun hh j hj => by
        by_cases e : j = k
        · subst e; exact hh
        · exact hd.out j (by omega)
      have HN : Hid (l.getD (l.getD k 0).toNat 0 ≠ l.getD k 0 → B = false) := fun hh => by
        rw [← HB.out]
        exact decide_eq_false fun ht => hh (ht k (by omega))
      obtain ⟨z, hz⟩ : ∃ z : Nat, l.getD k 0 = z := ⟨_, (Int.toNat_of_nonneg hy.1).symm⟩
      rw [hz] at c1 c2 HD HN hy
      rw [Int.toNat_natCast] at c2 HD HN
      have hz1 : z < len := by omega
      clear hd hc hz
      generalize l.getD z 0 = y at c2 HD HN
      by_cases e : y = z
      · have HD' := (show Hid _ from HD.out e)
        clear HD HN hy
        subst e
        go_wp2
        go_roundw
        case rel => exact ⟨k + 1, by omega, by go_num, HD', (by first | trivial | rfl)⟩
        case measure => simp [intOf]; omega
      · have eb := HN.out e
        subst eb
        have e' : (y != (z : Int)) = true := by simpa using e
        clear HD HN hy e
        go_wp2
        go_ret
        exact ⟨rfl, rfl⟩
    · obtain rfl : k = len := by omega
      have e : B = true := by
        rw [← HB.out]
        exact decide_eq_true (fun j hj => hd.out j (by omega))
      subst e
      clear hd HB
      go_wp2
      go_ret
      exact ⟨rfl, rfl⟩

theorem implParts_any (a : Option Addr) (len cap : Nat) (l : List Int) (w : World) (h : Sl w a len l) (hm : len ≤ 9223372036854775807) :
    Calls Tryd.prog 70 #[.slice a len cap] w fun e w' => e = .returned (.bool (partB l)) ∧ w' = w := by
  have hll := h.1
  have HG := (show Hid _ from implParents_any a len cap l w h hm)
  by_cases hp : parB l = true
  · obtain ⟨h2, hP⟩ := (parB_iff l).1 hp
    have HF := (show Hid _ from implIsFlat_any a len cap l w h hP (by omega))
    have e : partB l = decide (Flat l) := by unfold partB; rw [hp, Bool.true_and]
    rw [e]
    rw [hp] at HG
    generalize decide (Flat l) = B at HF
    clear h e hll hp hP
    go_enter Tryd.func70, Tryd.ntmps70
    go_wp2_with fail
    refine Calls.mono HG.out ?_
    rintro e w2 ⟨rfl, rfl⟩
    go_wp2_with fail
    refine Calls.mono HF.out ?_
    rintro e w2 ⟨rfl, rfl⟩
    go_wp2
    go_ret
    exact ⟨rfl, rfl⟩
  · have hp' : parB l = false := by simpa using hp
    have e : partB l = false := by unfold partB; rw [hp', Bool.false_and]
    rw [e]
    rw [hp'] at HG
    clear h e hll hp hp'
    go_enter Tryd.func70, Tryd.ntmps70
    go_wp2_with fail
    refine Calls.mono HG.out ?_
    rintro e w2 ⟨rfl, rfl⟩
    go_wp2
    go_ret
    exact ⟨rfl, rfl⟩
end Go.Proofs.YtmbggaepckgogaaDoor
