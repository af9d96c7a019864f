/-
  PROVED HERE: what the model's l1In answers, at every three numbers. No condition. what the model's looks at nodes of graphs answer, at every node and every list. No other condition.
-/
import Derived.Test.YtmbggaepckgogaaDoorRun3
import Derived.Test.YtmbggaepckgogaaDoorRun4
namespace Go.Proofs.YtmbggaepckgogaaDoor
open Go.ChangeShapes Go.WideShapes Go.ChangeAt Go.RowKit
set_option linter.unusedVariables false

theorem in_yes (n lo hi : Int) (w : World) (h1 : lo ≤ n) (h2 : n ≤ hi) : Calls Tryd.prog 57 #[.int .i64 n, .int .i64 lo, .int .i64 hi] w fun e w' => e = .returned (.bool true) ∧ w' = w := by
  go_enter Tryd.func57, Tryd.ntmps57
  go_wp2
  go_ret
  exact ⟨rfl, rfl⟩
theorem in_no (n lo hi : Int) (w : World) (h : n < lo ∨ hi < n) : Calls Tryd.prog 57 #[.int .i64 n, .int .i64 lo, .int .i64 hi] w fun e w' => e = .returned (.bool false) ∧ w' = w := by
  by_cases h1 : lo ≤ n
  · have h2 : ¬ n ≤ hi := by omega
    clear h
    go_enter Tryd.func57, Tryd.ntmps57
    go_wp2
    go_ret
    exact ⟨by simp, rfl⟩
  · clear h
    go_enter Tryd.func57, Tryd.ntmps57
    go_wp2
    go_ret
    exact ⟨rfl, rfl⟩
end Go.Proofs.YtmbggaepckgogaaDoor
namespace Go.Proofs.YtmbggaepckgogaaDoor
open Go.ChangeShapes Go.WideShapes Go.ChangeAt Go.RowKit
set_option linter.unusedVariables false

theorem kidsAll_any (a : Option Addr) (len cap : Nat) (l : List Int) (lo hi : Int) (w : World) (h : Sl w a len l) (hm : len ≤ 9223372036854775807) :
    Calls Tryd.prog 68 #[.slice a len cap, .int .i64 lo, .int .i64 hi] w fun e w' => e = .returned (.bool (kidsB l lo hi)) ∧ w' = w := by
  have hll := h.1
  go_enter Tryd.func68, Tryd.ntmps68
  go_wp2_with fail
  go_loopw [11] (fun i wr => ∃ k : Nat, k ≤ len ∧ i = .int .i64 k ∧ wr = w ∧ Hid (kidsB (l.drop k) lo hi = kidsB l lo hi)) (fun i _ => len - (intOf i).toNat)
  case atStart => exact ⟨0, Nat.zero_le _, rfl, rfl, rfl⟩
  case round =>
    obtain ⟨k, hk, rfl, rfl, hT⟩ := hrel
    by_cases hlt : k < len
    · obtain ⟨b, off, rfl, hc⟩ := cells_of h (by omega)
      have ck := hc k hlt
      have hst := kidsB_drop l k lo hi (by omega)
      rw [hT.out] at hst
      clear hT hc h
      generalize l.getD k 0 = x at ck hst
      by_cases e : lo ≤ x ∧ x ≤ hi
      · have HI := (show Hid _ from in_yes x lo hi wr e.1 e.2)
        rw [decide_eq_true e, Bool.true_and] at hst
        have HN : Hid (kidsB (l.drop (k + 1)) lo hi = kidsB l lo hi) := hst.symm
        clear hst e
        go_wp2_with fail
        refine Calls.mono HI.out ?_
        rintro e w2 ⟨rfl, rfl⟩
        go_wp2
        go_roundw
        case rel => exact ⟨k + 1, by omega, by go_num, by first | trivial | rfl, HN⟩
        case measure => simp [intOf]; omega
      · have HI := (show Hid _ from in_no x lo hi wr (by omega))
        rw [decide_eq_false e, Bool.false_and] at hst
        have HV : Hid (kidsB l lo hi = false) := hst
        clear hst e
        go_wp2_with fail
        refine Calls.mono HI.out ?_
        rintro e w2 ⟨rfl, rfl⟩
        go_wp2
        go_ret
        exact ⟨by rw [HV.out] <;> rfl, rfl⟩
    · obtain rfl : k = len := by omega
      have HV : Hid (kidsB l lo hi = true) := by show _ = _; rw [← hT.out, ← hll, List.drop_of_length_le (Nat.le_refl _)]; rfl
      clear hT
      go_wp2
      go_ret
      exact ⟨by rw [HV.out] <;> rfl, rfl⟩

theorem node_any (op n : Int) (a : Option Addr) (len cap : Nat) (w : World) :
    Calls Tryd.prog 67 #[.agg #[.int .i64 op, .int .i64 n, .slice a len cap]] w fun e w' => e = .returned (.bool (nodeOk op n len)) ∧ Below w.heap.size w w' := by
  have HA : Hid (∀ W, Calls Tryd.prog 64 #[.int .i64 op] W fun e w' => e = .returned (.int .i64 (ar op)) ∧ w' = W) := fun W => l1Arity_any op W
  have hbx : Below w.heap.size w (w.alloc (.cells #[.int .i64 op, .int .i64 n, .slice a len cap] 74)) := (Below.refl _ _).alloc (Nat.le_refl _) _
  have HB := (show Hid _ from hbx)
  unfold nodeOk
  clear hbx
  by_cases h0 : 0 ≤ ar op
  · rw [decide_eq_true h0, Bool.true_and]
    have hn0 : ¬ ar op < 0 := by omega
    by_cases hl : (len : Int) = ar op
    · rw [decide_eq_true hl, Bool.true_and]
      rw [← hl] at HA
      have hne : ((len : Int) != (len : Int)) = false := by simp
      clear hl h0 hn0
      by_cases h1 : op = 1
      · subst h1
        go_enter Tryd.func67, Tryd.ntmps67
        go_wp2_with fail
        refine Calls.mono (HA.out _) ?_
        rintro e w2 ⟨rfl, rfl⟩
        go_wp2
        go_ret
        exact ⟨rfl, HB.out⟩
      · have i1 : (op == 1) = false := by simpa using h1
        by_cases h2 : op = 2
        · subst h2
          have e : numFits 2 n = decide (0 ≤ n ∧ n < 4) := rfl
          rw [e]
          by_cases h3 : 0 ≤ n
          · by_cases h4 : n < 4
            · rw [decide_eq_true ⟨h3, h4⟩]
              go_enter Tryd.func67, Tryd.ntmps67
              go_wp2_with fail
              refine Calls.mono (HA.out _) ?_
              rintro e w2 ⟨rfl, rfl⟩
              go_wp2
              go_ret
              exact ⟨by simp <;> omega, HB.out⟩
            · rw [decide_eq_false (by omega)]
              go_enter Tryd.func67, Tryd.ntmps67
              go_wp2_with fail
              refine Calls.mono (HA.out _) ?_
              rintro e w2 ⟨rfl, rfl⟩
              go_wp2
              go_ret
              exact ⟨by simp <;> omega, HB.out⟩
          · rw [decide_eq_false (by omega)]
            go_enter Tryd.func67, Tryd.ntmps67
            go_wp2_with fail
            refine Calls.mono (HA.out _) ?_
            rintro e w2 ⟨rfl, rfl⟩
            go_wp2
            go_ret
            exact ⟨rfl, HB.out⟩
        · have i2 : (op == 2) = false := by simpa using h2
          have e : numFits op n = (n == 0) := by unfold numFits; rw [if_neg h1, if_neg h2]
          rw [e]
          go_enter Tryd.func67, Tryd.ntmps67
          go_wp2_with fail
          refine Calls.mono (HA.out _) ?_
          rintro e w2 ⟨rfl, rfl⟩
          go_wp2
          go_ret
          exact ⟨rfl, HB.out⟩
    · rw [decide_eq_false hl, Bool.false_and]
      have hne : ((len : Int) != ar op) = true := by simpa using hl
      clear hl
      generalize ar op = m at HA h0 hn0 hne
      go_enter Tryd.func67, Tryd.ntmps67
      go_wp2_with fail
      refine Calls.mono (HA.out _) ?_
      rintro e w2 ⟨rfl, rfl⟩
      go_wp2
      go_ret
      exact ⟨rfl, HB.out⟩
  · rw [decide_eq_false h0, Bool.false_and, Bool.false_and]
    have hn0 : ar op < 0 := by omega
    generalize ar op = m at HA h0 hn0
    go_enter Tryd.func67, Tryd.ntmps67
    go_wp2_with fail
    refine Calls.mono (HA.out _) ?_
    rintro e w2 ⟨rfl, rfl⟩
    go_wp2
    go_ret
    exact ⟨rfl, HB.out⟩

set_option maxHeartbeats 800000 in
theorem specNodes_any (a : Option Addr) (len cap : Nat) (p : List EN) (w : World) (h : ESl w a len p) (hm : len ≤ 9223372036854775807) :
    Calls Tryd.prog 46 #[.slice a len cap] w fun e w' => e = .returned (.bool (nodesB p)) ∧ Below w.heap.size w w' := by
  have hll := h.1
  unfold nodesB
  by_cases h120 : len ≤ 120
  · rw [decide_eq_true (by omega), Bool.true_and]
    have i1 : ¬ (120 : Int) < len := by omega
    go_enter Tryd.func46, Tryd.ntmps46
    go_wp2_with fail
    go_loopw [10] (fun i wr => ∃ k : Nat, k ≤ len ∧ i = .int .i64 k ∧ Below w.heap.size w wr ∧ Hid (eachB k (p.drop k) = eachB 0 p)) (fun i _ => len - (intOf i).toNat)
    case atStart => exact ⟨0, Nat.zero_le _, rfl, Below.refl _ _, rfl⟩
    case round =>
      obtain ⟨k, hk, rfl, hbr, hT⟩ := hrel
      by_cases hlt : k < len
      · obtain ⟨b, off, rfl, hbl, hc⟩ := (h.keep hbr).at (by omega)
        obtain ⟨ai, li, ci, c1, c2, c3, hli, hci, hS⟩ := hc k hlt
        have hst := eachB_drop p k (by omega)
        rw [hT.out] at hst
        unfold fitE at hst
        have hS1 := hS.1
        have hsz : ¬ b = wr.heap.size := by omega
        have hkl : (k : Int) < len := by omega
        generalize (p.getD k e0).1 = x at c1 hst
        generalize (p.getD k e0).2.1 = y at c2 hst
        generalize (p.getD k e0).2.2 = z at hS hst hS1
        rw [hS1] at hst
        obtain ⟨W1, hW1⟩ : ∃ W1, wr.alloc (.cells #[.int .i64 x, .int .i64 y, .slice ai li ci] 74) = W1 := ⟨_, rfl⟩
        have hb1 : Below wr.heap.size wr W1 := by rw [← hW1]; exact (Below.refl _ _).alloc (Nat.le_refl _) _
        have n0 : W1.cell? ⟨wr.heap.size, 0, none⟩ = some (.int .i64 x) := by rw [← hW1]; simp [go_sem]
        have n1 : W1.cell? ⟨wr.heap.size, 1, none⟩ = some (.int .i64 y) := by rw [← hW1]; simp [go_sem]
        have n2 : W1.cell? ⟨wr.heap.size, 2, none⟩ = some (.slice ai li ci) := by rw [← hW1]; simp [go_sem]
        have hs1 : wr.heap.size < W1.heap.size := by rw [← hW1]; simp
        have HN := (show Hid _ from node_any x y ai li ci W1)
        have HK : Hid (∀ W, Below W1.heap.size W1 W → Calls Tryd.prog 68 #[.slice ai li ci, .int .i64 0, .int .i64 ((k : Int) - 1)] W fun e w' => e = .returned (.bool (kidsB z 0 ((k : Int) - 1))) ∧ w' = W) := fun W hW => kidsAll_any ai li ci z 0 _ W (hS.keep (hb1.trans (hW.mono hb1.size))) hli
        have HF : Hid (∀ W, Below W1.heap.size W1 W → Below w.heap.size w W) := fun W hW => hbr.trans ((hb1.trans (hW.mono hb1.size)).mono hbr.size)
        clear hT hc hS
        cases e1 : nodeOk x y li with
        | false =>
          rw [e1] at HN hst
          have HV : Hid (eachB 0 p = false) := hst
          clear hst e1 HK
          go_wp2_with fail
          (try rw [hW1])
          refine Calls.mono HN.out ?_
          rintro e w2 ⟨rfl, hb2⟩
          go_wp2
          go_ret
          exact ⟨by rw [HV.out] <;> rfl, HF.out _ hb2⟩
        | true =>
          rw [e1] at HN hst
          rw [Bool.true_and] at hst
          clear e1
          cases e2 : kidsB z 0 ((k : Int) - 1) with
          | false =>
            rw [e2] at HK hst
            have HV : Hid (eachB 0 p = false) := hst
            clear hst e2
            go_wp2_with fail
            (try rw [hW1])
            refine Calls.mono HN.out ?_
            rintro e w2 ⟨rfl, hb2⟩
            have q2 := (hb2.cell (p := ⟨wr.heap.size, 2, none⟩) hs1).trans n2
            have HK2 := (show Hid _ from HK.out w2 hb2)
            clear HK
            go_wp2_with fail
            refine Calls.mono HK2.out ?_
            rintro e w3 ⟨rfl, rfl⟩
            go_wp2
            go_ret
            exact ⟨by rw [HV.out] <;> rfl, HF.out _ hb2⟩
          | true =>
            rw [e2] at HK hst
            have HR : Hid (eachB (k + 1) (p.drop (k + 1)) = eachB 0 p) := hst.symm
            clear hst e2
            go_wp2_with fail
            (try rw [hW1])
            refine Calls.mono HN.out ?_
            rintro e w2 ⟨rfl, hb2⟩
            have q2 := (hb2.cell (p := ⟨wr.heap.size, 2, none⟩) hs1).trans n2
            have HK2 := (show Hid _ from HK.out w2 hb2)
            clear HK
            go_wp2_with fail
            refine Calls.mono HK2.out ?_
            rintro e w3 ⟨rfl, rfl⟩
            go_wp2
            go_roundw
            case rel => exact ⟨k + 1, by omega, by go_num, HF.out _ hb2, HR⟩
            case measure => simp [intOf]; omega
      · obtain rfl : k = len := by omega
        have HV : Hid (eachB 0 p = true) := by show _ = _; rw [← hT.out, ← hll, List.drop_of_length_le (Nat.le_refl _)]; rfl
        clear hT
        go_wp2
        go_ret
        exact ⟨by rw [HV.out] <;> rfl, hbr⟩
  · rw [decide_eq_false (by omega), Bool.false_and]
    have i1 : (120 : Int) < len := by omega
    go_enter Tryd.func46, Tryd.ntmps46
    go_wp2
    go_ret
    exact ⟨rfl, Below.refl _ _⟩
end Go.Proofs.YtmbggaepckgogaaDoor
