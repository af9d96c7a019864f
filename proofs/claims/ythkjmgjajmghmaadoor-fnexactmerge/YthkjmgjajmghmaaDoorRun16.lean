/-
  PROVED HERE: what the model's looks at nodes of graphs answer, at every node and every list. No other condition. what the model's comparing of nodes answers, at every two nodes. No other condition.
-/
import Derived.Test.YthkjmgjajmghmaaDoorRun4
import Derived.Test.YthkjmgjajmghmaaDoorRun15
namespace Go.Proofs.YthkjmgjajmghmaaDoor
open Go.ChangeShapes Go.WideShapes Go.ChangeAt Go.RowKit
set_option linter.unusedVariables false

theorem kidsAll_any (a : Option Addr) (len cap : Nat) (l : List Int) (lo hi : Int) (w : World) (h : Sl w a len l) (hm : len ≤ 9223372036854775807) :
    Calls Tryd.prog 48 #[.slice a len cap, .int .i64 lo, .int .i64 hi] w fun e w' => e = .returned (.bool (kidsB l lo hi)) ∧ w' = w := by
  have hll := h.1
  go_enter Tryd.func48, Tryd.ntmps48
  go_wp2_with fail
  go_loopw [11] (fun i wr => ∃ k : Nat, k ≤ len ∧ i = .int .i64 k ∧ wr = w ∧ Hid (kidsB (l.drop k) lo hi = kidsB l lo hi)) (fun i _ => len - (intOf i).toNat)
  case atStart => exact ⟨0, Nat.zero_le _, rfl, rfl, rfl⟩
  case round =>
    obtain ⟨k, hk, rfl, rfl, hT⟩ := hrel
    by_cases hlt : k < len
    · obtain ⟨b, off, rfl, hc⟩ := cells_of h (by omega)
      have ck := hc k hlt
      have hst := kidsB_drop l k lo hi (by omega)
      rw [hT.out] at hst
      clear hT hc h
      generalize l.getD k 0 = x at ck hst
      by_cases e : lo ≤ x ∧ x ≤ hi
      · have HI := (show Hid _ from in_yes x lo hi wr e.1 e.2)
        rw [decide_eq_true e, Bool.true_and] at hst
        have HN : Hid (kidsB (l.drop (k + 1)) lo hi = kidsB l lo hi) := hst.symm
        clear hst e
        go_wp2_with fail
        refine Calls.mono HI.out ?_
        rintro e w2 ⟨rfl, rfl⟩
        go_wp2
        go_roundw
        case rel => exact ⟨k + 1, by omega, by go_num, by first | trivial | rfl, HN⟩
        case measure => simp [intOf]; omega
      · have HI := (show Hid _ from in_no x lo hi wr (by omega))
        rw [decide_eq_false e, Bool.false_and] at hst
        have HV : Hid (kidsB l lo hi = false) := hst
        clear hst e
        go_wp2_with fail
        refine Calls.mono HI.out ?_
        rintro e w2 ⟨rfl, rfl⟩
        go_wp2
        go_ret
        exact ⟨by rw [HV.out] <;> rfl, rfl⟩
    · obtain rfl : k = len := by omega
      have HV : Hid (kidsB l lo hi = true) := by show _ = _; rw [← hT.out, ← hll, List.drop_of_length_le (Nat.le_refl _)]; rfl
      clear hT
      go_wp2
      go_ret
      exact ⟨by rw [HV.out] <;> rfl, rfl⟩

theorem node_any (op n : Int) (a : Option Addr) (len cap : Nat) (w : World) :
    Calls Tryd.prog 47 #[.agg #[.int .i64 op, .int .i64 n, .slice a len cap]] w fun e w' => e = .returned (.bool (nodeOk op n len)) ∧ Below w.heap.size w w' := by
  have HA : Hid (∀ W, Calls Tryd.prog 62 #[.int .i64 op] W fun e w' => e = .returned (.int .i64 (ar op)) ∧ w' = W) := fun W => l1Arity_any op W
  have hbx : Below w.heap.size w (w.alloc (.cells #[.int .i64 op, .int .i64 n, .slice a len cap] 57)) := (Below.refl _ _).alloc (Nat.le_refl _) _
  have HB := (show Hid _ from hbx)
  unfold nodeOk
  clear hbx
  by_cases h0 : 0 ≤ ar op
  · rw [decide_eq_true h0, Bool.true_and]
    have hn0 : ¬ ar op < 0 := by omega
    by_cases hl : (len : Int) = ar op
    · rw [decide_eq_true hl, Bool.true_and]
      rw [← hl] at HA
      have hne : ((len : Int) != (len : Int)) = false := by simp
      clear hl h0 hn0
      by_cases h1 : op = 1
      · subst h1
        go_enter Tryd.func47, Tryd.ntmps47
        go_wp2_with fail
        refine Calls.mono (HA.out _) ?_
        rintro e w2 ⟨rfl, rfl⟩
        go_wp2
        go_ret
        exact ⟨rfl, HB.out⟩
      · have i1 : (op == 1) = false := by simpa using h1
        by_cases h2 : op = 2
        · subst h2
          have e : numFits 2 n = decide (0 ≤ n ∧ n < 4) := rfl
          rw [e]
          by_cases h3 : 0 ≤ n
          · by_cases h4 : n < 4
            · rw [decide_eq_true ⟨h3, h4⟩]
              go_enter Tryd.func47, Tryd.ntmps47
              go_wp2_with fail
              refine Calls.mono (HA.out _) ?_
              rintro e w2 ⟨rfl, rfl⟩
              go_wp2
              go_ret
              exact ⟨by simp <;> omega, HB.out⟩
            · rw [decide_eq_false (by omega)]
              go_enter Tryd.func47, Tryd.ntmps47
              go_wp2_with fail
              refine Calls.mono (HA.out _) ?_
              rintro e w2 ⟨rfl, rfl⟩
              go_wp2
              go_ret
              exact ⟨by simp <;> omega, HB.out⟩
          · rw [decide_eq_false (by omega)]
            go_enter Tryd.func47, Tryd.ntmps47
            go_wp2_with fail
            refine Calls.mono (HA.out _) ?_
            rintro e w2 ⟨rfl, rfl⟩
            go_wp2
            go_ret
            exact ⟨rfl, HB.out⟩
        · have i2 : (op == 2) = false := by simpa using h2
          have e : numFits op n = (n == 0) := by unfold numFits; rw [if_neg h1, if_neg h2]
          rw [e]
          go_enter Tryd.func47, Tryd.ntmps47
          go_wp2_with fail
          refine Calls.mono (HA.out _) ?_
          rintro e w2 ⟨rfl, rfl⟩
          go_wp2
          go_ret
          exact ⟨rfl, HB.out⟩
    · rw [decide_eq_false hl, Bool.false_and]
      have hne : ((len : Int) != ar op) = true := by simpa using hl
      clear hl
      generalize ar op = m at HA h0 hn0 hne
      go_enter Tryd.func47, Tryd.ntmps47
      go_wp2_with fail
      refine Calls.mono (HA.out _) ?_
      rintro e w2 ⟨rfl, rfl⟩
      go_wp2
      go_ret
      exact ⟨rfl, HB.out⟩
  · rw [decide_eq_false h0, Bool.false_and, Bool.false_and]
    have hn0 : ar op < 0 := by omega
    generalize ar op = m at HA h0 hn0
    go_enter Tryd.func47, Tryd.ntmps47
    go_wp2_with fail
    refine Calls.mono (HA.out _) ?_
    rintro e w2 ⟨rfl, rfl⟩
    go_wp2
    go_ret
    exact ⟨rfl, HB.out⟩

set_option maxHeartbeats 800000 in
theorem specNodes_any (a : Option Addr) (len cap : Nat) (p : List EN) (w : World) (h : ESl w a len p) (hm : len ≤ 9223372036854775807) :
    Calls Tryd.prog 31 #[.slice a len cap] w fun e w' => e = .returned (.bool (nodesB p)) ∧ Below w.heap.size w w' := by
  have hll := h.1
  unfold nodesB
  by_cases h120 : len ≤ 120
  · rw [decide_eq_true (by omega), Bool.true_and]
    have i1 : ¬ (120 : Int) < len := by omega
    go_enter Tryd.func31, Tryd.ntmps31
    go_wp2_with fail
    go_loopw [10] (fun i wr => ∃ k : Nat, k ≤ len ∧ i = .int .i64 k ∧ Below w.heap.size w wr ∧ Hid (eachB k (p.drop k) = eachB 0 p)) (fun i _ => len - (intOf i).toNat)
    case atStart => exact ⟨0, Nat.zero_le _, rfl, Below.refl _ _, rfl⟩
    case round =>
      obtain ⟨k, hk, rfl, hbr, hT⟩ := hrel
      by_cases hlt : k < len
      · obtain ⟨b, off, rfl, hbl, hc⟩ := (h.keep hbr).at (by omega)
        obtain ⟨ai, li, ci, c1, c2, c3, hli, hci, hS⟩ := hc k hlt
        have hst := eachB_drop p k (by omega)
        rw [hT.out] at hst
        unfold fitE at hst
        have hS1 := hS.1
        have hsz : ¬ b = wr.heap.size := by omega
        have hkl : (k : Int) < len := by omega
        generalize (p.getD k e0).1 = x at c1 hst
        generalize (p.getD k e0).2.1 = y at c2 hst
        generalize (p.getD k e0).2.2 = z at hS hst hS1
        rw [hS1] at hst
        obtain ⟨W1, hW1⟩ : ∃ W1, wr.alloc (.cells #[.int .i64 x, .int .i64 y, .slice ai li ci] 57) = W1 := ⟨_, rfl⟩
        have hb1 : Below wr.heap.size wr W1 := by rw [← hW1]; exact (Below.refl _ _).alloc (Nat.le_refl _) _
        have n0 : W1.cell? ⟨wr.heap.size, 0, none⟩ = some (.int .i64 x) := by rw [← hW1]; simp [go_sem]
        have n1 : W1.cell? ⟨wr.heap.size, 1, none⟩ = some (.int .i64 y) := by rw [← hW1]; simp [go_sem]
        have n2 : W1.cell? ⟨wr.heap.size, 2, none⟩ = some (.slice ai li ci) := by rw [← hW1]; simp [go_sem]
        have hs1 : wr.heap.size < W1.heap.size := by rw [← hW1]; simp
        have HN := (show Hid _ from node_any x y ai li ci W1)
        have HK : Hid (∀ W, Below W1.heap.size W1 W → Calls Tryd.prog 48 #[.slice ai li ci, .int .i64 0, .int .i64 ((k : Int) - 1)] W fun e w' => e = .returned (.bool (kidsB z 0 ((k : Int) - 1))) ∧ w' = W) := fun W hW => kidsAll_any ai li ci z 0 _ W (hS.keep (hb1.trans (hW.mono hb1.size))) hli
        have HF : Hid (∀ W, Below W1.heap.size W1 W → Below w.heap.size w W) := fun W hW => hbr.trans ((hb1.trans (hW.mono hb1.size)).mono hbr.size)
        clear hT hc hS
        cases e1 : nodeOk x y li with
        | false =>
          rw [e1] at HN hst
          have HV : Hid (eachB 0 p = false) := hst
          clear hst e1 HK
          go_wp2_with fail
          (try rw [hW1])
          refine Calls.mono HN.out ?_
          rintro e w2 ⟨rfl, hb2⟩
          go_wp2
          go_ret
          exact ⟨by rw [HV.out] <;> rfl, HF.out _ hb2⟩
        | true =>
          rw [e1] at HN hst
          rw [Bool.true_and] at hst
          clear e1
          cases e2 : kidsB z 0 ((k : Int) - 1) with
          | false =>
            rw [e2] at HK hst
            have HV : Hid (eachB 0 p = false) := hst
            clear hst e2
            go_wp2_with fail
            (try rw [hW1])
            refine Calls.mono HN.out ?_
            rintro e w2 ⟨rfl, hb2⟩
            have q2 := (hb2.cell (p := ⟨wr.heap.size, 2, none⟩) hs1).trans n2
            have HK2 := (show Hid _ from HK.out w2 hb2)
            clear HK
            go_wp2_with fail
            refine Calls.mono HK2.out ?_
            rintro e w3 ⟨rfl, rfl⟩
            go_wp2
            go_ret
            exact ⟨by rw [HV.out] <;> rfl, HF.out _ hb2⟩
          | true =>
            rw [e2] at HK hst
            have HR : Hid (eachB (k + 1) (p.drop (k + 1)) = eachB 0 p) := hst.symm
            clear hst e2
            go_wp2_with fail
            (try rw [hW1])
            refine Calls.mono HN.out ?_
            rintro e w2 ⟨rfl, hb2⟩
            have q2 := (hb2.cell (p := ⟨wr.heap.size, 2, none⟩) hs1).trans n2
            have HK2 := (show Hid _ from HK.out w2 hb2)
            clear HK
            go_wp2_with fail
            refine Calls.mono HK2.out ?_
            rintro e w3 ⟨rfl, rfl⟩
            go_wp2
            go_roundw
            case rel => exact ⟨k + 1, by omega, by go_num, HF.out _ hb2, HR⟩
            case measure => simp [intOf]; omega
      · obtain rfl : k = len := by omega
        have HV : Hid (eachB 0 p = true) := by show _ = _; rw [← hT.out, ← hll, List.drop_of_length_le (Nat.le_refl _)]; rfl
        clear hT
        go_wp2
        go_ret
        exact ⟨by rw [HV.out] <;> rfl, hbr⟩
  · rw [decide_eq_false (by omega), Bool.false_and]
    have i1 : (120 : Int) < len := by omega
    go_enter Tryd.func31, Tryd.ntmps31
    go_wp2
    go_ret
    exact ⟨rfl, Below.refl _ _⟩
end Go.Proofs.YthkjmgjajmghmaaDoor
namespace Go.Proofs.YthkjmgjajmghmaaDoor
open Go.ChangeShapes Go.WideShapes Go.ChangeAt Go.RowKit
set_option linter.unusedVariables false

theorem spSame_any (a b : Option Addr) (len cap len' cap' : Nat) (l m : List Int) (w : World) (h : Sl w a len l) (h' : Sl w b len' m) (hm : len ≤ 9223372036854775807) :
    Calls Tryd.prog 50 #[.slice a len cap, .slice b len' cap'] w fun e w' => e = .returned (.bool (decide (l = m))) ∧ ∃ n, w' = w.drewN n := by
  have hll := h.1
  have hml := h'.1
  by_cases hlen : len = len'
  · subst hlen
    have hne : ((len : Int) != len) = false := by simp
    go_enter Tryd.func50, Tryd.ntmps50
    go_wp2_with fail
    go_loopw [13] (fun i wr => ∃ k : Nat, k ≤ len ∧ i = .int .i64 k ∧ (∃ n, wr = w.drewN n) ∧ Hid (∀ j, j < k → l.getD j 0 = m.getD j 0)) (fun i _ => len - (intOf i).toNat)
    case atStart => exact ⟨0, Nat.zero_le _, rfl, ⟨0, rfl⟩, fun j hj => absurd hj (Nat.not_lt_zero _)⟩
    case round =>
      obtain ⟨k, hk, rfl, hdr, hT⟩ := hrel
      have hbr : Below w.heap.size w wr := by obtain ⟨n, rfl⟩ := hdr; exact Go.below_drewN (Below.refl _ _) n
      have HD := (show Hid _ from hdr)
      clear hdr
      by_cases hlt : k < len
      · obtain ⟨b1, off, rfl, hc⟩ := cells_of (h.keep hbr) (by omega)
        obtain ⟨b2, off', rfl, hc'⟩ := cells_of (h'.keep hbr) (by omega)
        have ck := hc k hlt
        have ck' := hc' k hlt
        have hlt' : (k : Int) < len := by omega
        have HE : Hid (l.getD k 0 ≠ m.getD k 0 → decide (l = m) = false) := fun hne => decide_eq_false (fun e => hne (by rw [e]))
        have HS : Hid (l.getD k 0 = m.getD k 0 → ∀ j, j < k + 1 → l.getD j 0 = m.getD j 0) := fun e j hj => by
          by_cases e1 : j = k
          · rw [e1]; exact e
          · exact hT.out j (by omega)
        clear hc hc' hT h h'
        generalize l.getD k 0 = x at ck HE HS
        generalize m.getD k 0 = y at ck' HE HS
        by_cases e : x = y
        · subst e
          have HR := (show Hid _ from HS.out rfl)
          have hxx : (x != x) = false := by simp
          clear HE HS
          go_wp2_with fail
          go_quiet (fail)
          go_wp2
          go_roundw
          case rel => exact ⟨k + 1, by omega, by go_num, by obtain ⟨n, rfl⟩ := HD.out; exact ⟨_, World.drewN_drewN ..⟩, HR⟩
          case measure => simp [intOf]; omega
        · have HV : Hid (decide (l = m) = false) := HE.out e
          have hxy : (x != y) = true := by simpa using e
          clear HE HS
          go_wp2_with fail
          go_quiet (fail)
          go_wp2
          go_ret
          exact ⟨by rw [HV.out] <;> rfl, by obtain ⟨n, rfl⟩ := HD.out; exact ⟨_, World.drewN_drewN ..⟩⟩
      · obtain rfl : k = len := by omega
        have HV : Hid (decide (l = m) = true) := decide_eq_true (list_ext (by omega) fun j hj => hT.out j (by omega))
        clear hT
        go_wp2
        go_ret
        exact ⟨by rw [HV.out] <;> rfl, HD.out⟩
  · have hne : ((len : Int) != len') = true := by simp; omega
    rw [decide_eq_false (fun e => hlen (by rw [← hll, ← hml, e]))]
    go_enter Tryd.func50, Tryd.ntmps50
    go_wp2
    go_ret
    exact ⟨rfl, ⟨0, rfl⟩⟩
set_option maxHeartbeats 800000 in
theorem alike_any (x y : EN) (a b : Option Addr) (len cap len' cap' : Nat) (w : World) (h : Sl w a len x.2.2) (h' : Sl w b len' y.2.2) (hm : len ≤ 9223372036854775807) :
    Calls Tryd.prog 38 #[.agg #[.int .i64 x.1, .int .i64 x.2.1, .slice a len cap], .agg #[.int .i64 y.1, .int .i64 y.2.1, .slice b len' cap']] w fun e w' => e = .returned (.bool (decide (x = y))) ∧ Below w.heap.size w w' := by
  obtain ⟨xo, xn, xk⟩ := x
  obtain ⟨yo, yn, yk⟩ := y
  simp only at h h' ⊢
  obtain ⟨W1, hW1⟩ : ∃ W1, (w.alloc (.cells #[.int .i64 xo, .int .i64 xn, .slice a len cap] 57)).alloc (.cells #[.int .i64 yo, .int .i64 yn, .slice b len' cap'] 57) = W1 := ⟨_, rfl⟩
  have hb1 : Below w.heap.size w W1 := by rw [← hW1]; exact ((Below.refl _ _).alloc (Nat.le_refl _) _).alloc (by simp) _
  have n0 : W1.cell? ⟨w.heap.size, 0, none⟩ = some (.int .i64 xo) := by rw [← hW1]; simp [go_sem]
  have n1 : W1.cell? ⟨w.heap.size, 1, none⟩ = some (.int .i64 xn) := by rw [← hW1]; simp [go_sem]
  have n2 : W1.cell? ⟨w.heap.size, 2, none⟩ = some (.slice a len cap) := by rw [← hW1]; simp [go_sem]
  have m0 : W1.cell? ⟨w.heap.size + 1, 0, none⟩ = some (.int .i64 yo) := by rw [← hW1]; simp [go_sem]
  have m1 : W1.cell? ⟨w.heap.size + 1, 1, none⟩ = some (.int .i64 yn) := by rw [← hW1]; simp [go_sem]
  have m2 : W1.cell? ⟨w.heap.size + 1, 2, none⟩ = some (.slice b len' cap') := by rw [← hW1]; simp [go_sem]
  have HS := (show Hid _ from spSame_any a b len cap len' cap' xk yk W1 (h.keep hb1) (h'.keep hb1) hm)
  have HB := (show Hid _ from hb1)
  clear h h' hb1
  by_cases e1 : xo = yo
  · by_cases e2 : xn = yn
    · have ev : decide ((xo, xn, xk) = (yo, yn, yk)) = decide (xk = yk) := by simp [e1, e2]
      rw [ev]
      subst e1 e2
      generalize decide (xk = yk) = B at HS
      have q1 : (xo == xo) = true := by simp
      have q2 : (xn == xn) = true := by simp
      clear ev
      go_enter Tryd.func38, Tryd.ntmps38
      go_wp2_with fail
      (try rw [hW1])
      refine Calls.mono HS.out ?_
      rintro e w2 ⟨rfl, n, rfl⟩
      clear hW1 HS
      go_wp2
      go_ret
      exact ⟨rfl, below_drewN HB.out _⟩
    · have ev : decide ((xo, xn, xk) = (yo, yn, yk)) = false := by simp [e2]
      rw [ev]
      have q1 : (xo == yo) = true := by simpa using e1
      have q2 : (xn == yn) = false := by simpa using e2
      clear ev HS e1 e2
      go_enter Tryd.func38, Tryd.ntmps38
      go_wp2
      (try rw [hW1])
      go_ret
      exact ⟨rfl, HB.out⟩
  · have ev : decide ((xo, xn, xk) = (yo, yn, yk)) = false := by simp [e1]
    rw [ev]
    have q1 : (xo == yo) = false := by simpa using e1
    clear ev HS e1
    go_enter Tryd.func38, Tryd.ntmps38
    go_wp2
    (try rw [hW1])
    go_ret
    exact ⟨rfl, HB.out⟩
end Go.Proofs.YthkjmgjajmghmaaDoor
