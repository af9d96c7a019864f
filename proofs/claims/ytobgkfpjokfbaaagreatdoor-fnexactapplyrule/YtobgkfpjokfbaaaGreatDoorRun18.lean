/-
  PROVED HERE: what the program's looks at nodes of graphs answer, at every list, in a world whose table of arities is laid. No other condition. what the program's GoodGraph answers, at every graph, in a world whose table of arities is laid. No other condition. what the program's shelfOf answers, at every good graph. No other condition.
-/
import Derived.Test.YtobgkfpjokfbaaaGreatDoorRun3
import Derived.Test.YtobgkfpjokfbaaaGreatDoorRun14
import Derived.Test.YtobgkfpjokfbaaaGreatDoorRun4
import Derived.Test.YtobgkfpjokfbaaaGreatDoorRun17
namespace Go.Proofs.YtobgkfpjokfbaaaGreatDoor
open Go.ChangeShapes Go.WideShapes Go.ChangeAt Go.RowKit
set_option linter.unusedVariables false

/-- The program's look at a node that has the number k. -/
def fitI (k : Int) (x : EN) : Bool := nodeOk x.1 x.2.1 x.2.2.length && kidsB x.2.2 0 (k - 1)
set_option maxHeartbeats 1600000 in
theorem implNode_any (op n : Int) (a : Option Addr) (len cap : Nat) (l : List Int) (k : Int) (w : World) (ht : Tab w) (h : Sl w a len l) (hm : len ≤ 9223372036854775807) :
    Calls Tryz.prog 101 #[.agg #[.int .i64 op, .int .i64 n, .slice a len cap], .int .i64 k] w fun e w' => e = .returned (.bool (fitI k (op, n, l))) ∧ Below w.heap.size w w' := by
  have hll := h.1
  obtain ⟨W1, hW1⟩ : ∃ W1, w.alloc (.cells #[.int .i64 op, .int .i64 n, .slice a len cap] 80) = W1 := ⟨_, rfl⟩
  have hb1 : Below w.heap.size w W1 := by rw [← hW1]; exact (Below.refl _ _).alloc (Nat.le_refl _) _
  have n0 : W1.cell? ⟨w.heap.size, 0, none⟩ = some (.int .i64 op) := by rw [← hW1]; simp [go_sem]
  have n1 : W1.cell? ⟨w.heap.size, 1, none⟩ = some (.int .i64 n) := by rw [← hW1]; simp [go_sem]
  have n2 : W1.cell? ⟨w.heap.size, 2, none⟩ = some (.slice a len cap) := by rw [← hW1]; simp [go_sem]
  have hs1 : w.heap.size < W1.heap.size := by rw [← hW1]; simp
  have HA := (show Hid _ from implArity_any op W1 (ht.keeps hb1))
  have HF := (show Hid _ from implFits_any op n W1)
  have HB := (show Hid _ from hb1)
  have HS : Hid (∀ W, Below W1.heap.size W1 W → Sl W a len l) := fun W hW => h.keep (hb1.trans (hW.mono hb1.size))
  unfold fitI nodeOk
  simp only
  rw [hll]
  clear h hb1 ht
  by_cases h0 : 0 ≤ ar op
  · have ea : arN op = ar op := by unfold arN; rw [if_pos h0]
    rw [ea, decide_eq_true h0] at HA
    rw [decide_eq_true h0, Bool.true_and]
    by_cases hl : (len : Int) = ar op
    · rw [decide_eq_true hl, Bool.true_and]
      rw [← hl] at HA
      have hne : ((len : Int) != (len : Int)) = false := by simp
      clear hl h0 ea
      cases hf : numFits op n with
      | false =>
        rw [hf] at HF
        rw [Bool.false_and]
        clear hf
        go_enter Tryz.func101, Tryz.ntmps101
        go_wp2_with fail
        (try rw [hW1])
        refine Calls.mono HA.out ?_
        rintro e w2 ⟨rfl, rfl⟩
        clear HA hW1
        go_wp2_with fail
        refine Calls.mono HF.out ?_
        rintro e w2 ⟨rfl, hb2⟩
        have HB2 : Hid (Below w.heap.size w w2) := HB.out.trans (hb2.mono HB.out.size)
        clear HF
        go_wp2
        go_ret
        exact ⟨rfl, HB2.out⟩
      | true =>
        rw [hf] at HF
        rw [Bool.true_and]
        clear hf
        go_enter Tryz.func101, Tryz.ntmps101
        go_wp2_with fail
        (try rw [hW1])
        refine Calls.mono HA.out ?_
        rintro e w2 ⟨rfl, rfl⟩
        clear HA hW1
        go_wp2_with fail
        refine Calls.mono HF.out ?_
        rintro e w2 ⟨rfl, hb2⟩
        have HB2 : Hid (Below w.heap.size w w2) := HB.out.trans (hb2.mono HB.out.size)
        have HS2 := (show Hid _ from HS.out w2 hb2)
        have q2 := (hb2.cell (p := ⟨w.heap.size, 2, none⟩) hs1).trans n2
        clear HF HS n0 n1 n2 hb2
        go_wp2_with fail
        go_loopw [36] (fun i wr => ∃ j : Nat, j ≤ len ∧ i = .int .i64 j ∧ wr = w2 ∧ Hid (kidsB (l.drop j) 0 (k - 1) = kidsB l 0 (k - 1))) (fun i _ => len - (intOf i).toNat)
        case atStart => exact ⟨0, Nat.zero_le _, rfl, rfl, rfl⟩
        case round =>
          obtain ⟨j, hj, rfl, rfl, hT⟩ := hrel
          by_cases hlt : j < len
          · obtain ⟨b, off, rfl, hc⟩ := cells_of HS2.out (by omega)
            have ck := hc j hlt
            have hst := kidsB_drop l j 0 (k - 1) (by omega)
            rw [hT.out] at hst
            clear hT hc
            generalize l.getD j 0 = x at ck hst
            by_cases e1 : x < 0
            · rw [decide_eq_false (by omega), Bool.false_and] at hst
              have HV : Hid (kidsB l 0 (k - 1) = false) := hst
              clear hst
              go_wp2
              go_ret
              exact ⟨by rw [HV.out] <;> rfl, HB2.out⟩
            · by_cases e2 : k ≤ x
              · rw [decide_eq_false (by omega), Bool.false_and] at hst
                have HV : Hid (kidsB l 0 (k - 1) = false) := hst
                clear hst
                go_wp2
                go_ret
                exact ⟨by rw [HV.out] <;> rfl, HB2.out⟩
              · rw [decide_eq_true (by omega), Bool.true_and] at hst
                have HR : Hid (kidsB (l.drop (j + 1)) 0 (k - 1) = kidsB l 0 (k - 1)) := hst.symm
                clear hst
                go_wp2
                go_roundw
                case rel => exact ⟨j + 1, by omega, by go_num, by first | trivial | rfl, HR⟩
                case measure => simp [intOf]; omega
          · obtain rfl : j = len := by omega
            have HV : Hid (kidsB l 0 (k - 1) = true) := by show _ = _; rw [← hT.out, ← hll, List.drop_of_length_le (Nat.le_refl _)]; rfl
            clear hT
            go_wp2
            go_ret
            exact ⟨by rw [HV.out] <;> rfl, HB2.out⟩
    · rw [decide_eq_false hl, Bool.false_and, Bool.false_and]
      have hne : ((len : Int) != ar op) = true := by simpa using hl
      clear hl ea HF
      generalize ar op = m at HA h0 hne
      go_enter Tryz.func101, Tryz.ntmps101
      go_wp2_with fail
      (try rw [hW1])
      refine Calls.mono HA.out ?_
      rintro e w2 ⟨rfl, rfl⟩
      clear HA hW1
      go_wp2
      go_ret
      exact ⟨rfl, HB.out⟩
  · rw [decide_eq_false h0] at HA
    rw [decide_eq_false h0, Bool.false_and, Bool.false_and, Bool.false_and]
    clear h0 HF
    generalize arN op = m at HA
    go_enter Tryz.func101, Tryz.ntmps101
    go_wp2_with fail
    (try rw [hW1])
    refine Calls.mono HA.out ?_
    rintro e w2 ⟨rfl, rfl⟩
    clear HA hW1
    go_wp2
    go_ret
    exact ⟨rfl, HB.out⟩

set_option maxHeartbeats 1600000 in
theorem implNodes_in (a b : Option Addr) (len cap cb : Nat) (p : List EN) (l : List Int) (w : World) (ht : Tab w) (h : ESl w a len p) (hl : Sl w b len l) (h120 : len ≤ 120) (hP : partB l = true) :
    Calls Tryz.prog 77 #[.slice a len cap, .slice b len cb] w fun e w' => e = .returned (.bool (eachB 0 p)) ∧ Below w.heap.size w w' := by
  have hll := h.1
  have i1 : ¬ (120 : Int) < len := by omega
  have hne : ((len : Int) != len) = false := by simp
  have HP := (show Hid _ from implParts_any b len cb l w hl (by omega))
  rw [hP] at HP
  have HT : Hid (Tab w) := ht
  clear hl hP ht
  go_enter Tryz.func77, Tryz.ntmps77
  go_wp2_with fail
  refine Calls.mono HP.out ?_
  rintro e w2 ⟨rfl, rfl⟩
  clear HP
  go_wp2_with fail
  go_loopw [24] (fun i wr => ∃ k : Nat, k ≤ len ∧ i = .int .i64 k ∧ Below w2.heap.size w2 wr ∧ Hid (eachB k (p.drop k) = eachB 0 p)) (fun i _ => len - (intOf i).toNat)
  case atStart => exact ⟨0, Nat.zero_le _, rfl, Below.refl _ _, rfl⟩
  case round =>
    obtain ⟨k, hk, rfl, hbr, hT⟩ := hrel
    by_cases hlt : k < len
    · obtain ⟨bn, on, rfl, hbl, hc⟩ := (h.keep hbr).at (by omega)
      obtain ⟨ai, li, ci, c1, c2, c3, hli, hci, hS⟩ := hc k hlt
      have hst := eachB_drop p k (by omega)
      rw [hT.out] at hst
      have hfi : fitE k (p.getD k e0) = fitI k (p.getD k e0) := rfl
      rw [hfi] at hst
      have hsz : ¬ bn = wr.heap.size := by omega
      have hkl : (k : Int) < len := by omega
      obtain ⟨x, hx⟩ : ∃ x, p.getD k e0 = x := ⟨_, rfl⟩
      obtain ⟨xo, xn, xk⟩ := x
      rw [hx] at c1 c2 hS hst
      simp only at c1 c2 hS
      obtain ⟨W1, hW1⟩ : ∃ W1, wr.alloc (.cells #[.int .i64 xo, .int .i64 xn, .slice ai li ci] 80) = W1 := ⟨_, rfl⟩
      have hb1 : Below wr.heap.size wr W1 := by rw [← hW1]; exact (Below.refl _ _).alloc (Nat.le_refl _) _
      have n0 : W1.cell? ⟨wr.heap.size, 0, none⟩ = some (.int .i64 xo) := by rw [← hW1]; simp [go_sem]
      have n1 : W1.cell? ⟨wr.heap.size, 1, none⟩ = some (.int .i64 xn) := by rw [← hW1]; simp [go_sem]
      have n2 : W1.cell? ⟨wr.heap.size, 2, none⟩ = some (.slice ai li ci) := by rw [← hW1]; simp [go_sem]
      have HN := (show Hid _ from implNode_any xo xn ai li ci xk k W1 ((HT.out.keeps hbr).keeps hb1) (hS.keep hb1) hli)
      have HF : Hid (∀ W, Below W1.heap.size W1 W → Below w2.heap.size w2 W) := fun W hW => hbr.trans ((hb1.trans (hW.mono hb1.size)).mono hbr.size)
      clear hT hc hS hx hfi hb1
      cases e1 : fitI k (xo, xn, xk) with
      | false =>
        rw [e1] at HN hst
        have HV : Hid (eachB 0 p = false) := hst
        clear hst e1
        go_wp2_with fail
        (try rw [hW1])
        refine Calls.mono HN.out ?_
        rintro e w3 ⟨rfl, hb2⟩
        clear HN hW1
        go_wp2
        go_ret
        exact ⟨by rw [HV.out] <;> rfl, HF.out _ hb2⟩
      | true =>
        rw [e1] at HN hst
        have HR : Hid (eachB (k + 1) (p.drop (k + 1)) = eachB 0 p) := hst.symm
        clear hst e1
        go_wp2_with fail
        (try rw [hW1])
        refine Calls.mono HN.out ?_
        rintro e w3 ⟨rfl, hb2⟩
        clear HN hW1
        go_wp2
        go_roundw
        case rel => exact ⟨k + 1, by omega, by go_num, HF.out _ hb2, HR⟩
        case measure => simp [intOf]; omega
    · obtain rfl : k = len := by omega
      have HV : Hid (eachB 0 p = true) := by show _ = _; rw [← hT.out, ← hll, List.drop_of_length_le (Nat.le_refl _)]; rfl
      clear hT
      go_wp2
      go_ret
      exact ⟨by rw [HV.out] <;> rfl, hbr⟩
theorem implNodes_any (a b : Option Addr) (len cap lb cb : Nat) (p : List EN) (l : List Int) (w : World) (ht : Tab w) (h : ESl w a len p) (hl : Sl w b lb l) (hm : lb ≤ 9223372036854775807) :
    Calls Tryz.prog 77 #[.slice a len cap, .slice b lb cb] w fun e w' => e = .returned (.bool (headB p l)) ∧ Below w.heap.size w w' := by
  have hll := h.1
  have hbl := hl.1
  unfold headB nodesB
  by_cases h120 : len ≤ 120
  · rw [decide_eq_true (show p.length ≤ 120 by omega), Bool.true_and]
    by_cases hlen : lb = len
    · subst hlen
      rw [decide_eq_true (show l.length = p.length by omega), Bool.and_true]
      cases hP : partB l with
      | true => rw [Bool.and_true]; exact implNodes_in a b lb cap cb p l w ht h hl h120 hP
      | false =>
        rw [Bool.and_false]
        have HP := (show Hid _ from implParts_any b lb cb l w hl (by omega))
        rw [hP] at HP
        have i1 : ¬ (120 : Int) < lb := by omega
        have hne : ((lb : Int) != lb) = false := by simp
        clear h hl hP ht
        go_enter Tryz.func77, Tryz.ntmps77
        go_wp2_with fail
        refine Calls.mono HP.out ?_
        rintro e w2 ⟨rfl, rfl⟩
        clear HP
        go_wp2
        go_ret
        exact ⟨rfl, Below.refl _ _⟩
    · rw [decide_eq_false (show ¬ l.length = p.length by omega), Bool.and_false, Bool.false_and]
      have i1 : ¬ (120 : Int) < len := by omega
      have hne : ((lb : Int) != len) = true := by simp; omega
      clear h hl ht
      go_enter Tryz.func77, Tryz.ntmps77
      go_wp2
      go_ret
      exact ⟨rfl, Below.refl _ _⟩
  · rw [decide_eq_false (show ¬ p.length ≤ 120 by omega), Bool.false_and, Bool.false_and, Bool.false_and]
    have i1 : (120 : Int) < len := by omega
    clear h hl ht
    go_enter Tryz.func77, Tryz.ntmps77
    go_wp2
    go_ret
    exact ⟨rfl, Below.refl _ _⟩
end Go.Proofs.YtobgkfpjokfbaaaGreatDoor
namespace Go.Proofs.YtobgkfpjokfbaaaGreatDoor
open Go.ChangeShapes Go.WideShapes Go.ChangeAt Go.RowKit
open Go.MapKept Go.ChangeMaps
set_option linter.unusedVariables false

theorem setB_get {w : World} {b : Nat} {o : Obj} (h : b < w.heap.size) : (setBlock w b o).heap[b]? = some o := by
  unfold setBlock
  simp [h]
theorem setB_ne {w : World} {b : Nat} {o : Obj} (x : Nat) (h : x ≠ b) : (setBlock w b o).heap[x]? = w.heap[x]? := by
  unfold setBlock
  simp [Ne.symm h]
theorem setB_size {w : World} {b : Nat} {o : Obj} : (setBlock w b o).heap.size = w.heap.size := by unfold setBlock; simp
theorem below_setB {n : Nat} {w w' : World} {b : Nat} {o : Obj} (h : Below n w w') (hb : n ≤ b) : Below n w (setBlock w' b o) :=
  ⟨h.os, h.tape, h.output, by rw [setB_size]; exact h.size, fun k hk => (setB_ne k (by omega)).trans (h.block k hk)⟩
set_option maxHeartbeats 3200000 in
set_option maxRecDepth 20000 in
theorem implOne_any (a b : Option Addr) (len cap cb : Nat) (p : List EN) (l : List Int) (w : World) (h : ESl w a len p) (hl : Sl w b len l) (hN : nodesB p = true) (hP : partB l = true) (hC : AllCl p l) (hI : InE p) :
    Calls Tryz.prog 79 #[.agg #[.slice a len cap, .slice b len cb]] w fun e w' => e = .returned (.bool (decide (AllOne p l))) ∧ Below w.heap.size w w' := by
  have hll := h.1
  have hl1 := hl.1
  have h120 := ((nodesB_iff p).1 hN).1
  have hfit := ((nodesB_iff p).1 hN).2
  obtain ⟨W1, hW1⟩ : ∃ W1, w.alloc (.cells #[.slice a len cap, .slice b len cb] 36) = W1 := ⟨_, rfl⟩
  have hb1 : Below w.heap.size w W1 := by rw [← hW1]; exact (Below.refl _ _).alloc (Nat.le_refl _) _
  have n0 : W1.cell? ⟨w.heap.size, 0, none⟩ = some (.slice a len cap) := by rw [← hW1]; simp [go_sem]
  have n1 : W1.cell? ⟨w.heap.size, 1, none⟩ = some (.slice b len cb) := by rw [← hW1]; simp [go_sem]
  have hs1 : w.heap.size < W1.heap.size := by rw [← hW1]; simp
  have HE : Hid (ESl W1 a len p ∧ Sl W1 b len l ∧ Below w.heap.size w W1) := ⟨h.keep hb1, hl.keep hb1, hb1⟩
  have HNn : Hid (nodesB p = true ∧ partB l = true ∧ AllCl p l ∧ InE p ∧ ∀ i, i < p.length → fitE i (p.getD i e0) = true) := ⟨hN, hP, hC, hI, hfit⟩
  have hmm := @run_makeMap Tryz.prog
  clear h hl hb1 hN hP hC hI hfit
  go_enter Tryz.func79, Tryz.ntmps79
  go_wp2_with fail
  (try rw [hW1])
  go_loopw [13] (fun i wr => ∃ (k : Nat) (f : Sh → Option Int), k ≤ len ∧ i = .int .i64 k ∧ Below W1.heap.size W1 wr ∧ Hid (SMap wr W1.heap.size f ∧ Held p l k f ∧ ∀ j, j < k → OneCl p l j)) (fun i _ => len - (intOf i).toNat)
  case atStart => exact ⟨0, fun _ => none, Nat.zero_le _, rfl, (Below.refl _ _).alloc (Nat.le_refl _) _, smap_empty (clock := 0) (by first | exact heap_alloc_new _ _ | exact heap_alloc_new .. | simp), ⟨fun i hi => absurd hi (Nat.not_lt_zero _), fun e v h => by cases h⟩, fun j hj => absurd hj (Nat.not_lt_zero _)⟩
  case round =>
    obtain ⟨k, f, hk, rfl, hbr, hT⟩ := hrel
    obtain ⟨wo, rfl⟩ : ∃ x, x = wr := ⟨_, rfl⟩
    clear hmm
    by_cases hlt : k < len
    · obtain ⟨bn, on, rfl, hbl, hc⟩ := (HE.out.1.keep hbr).at (by omega)
      obtain ⟨ai, li, ci, c1, c2, c3, hli, hci, hS⟩ := hc k hlt
      obtain ⟨bp, op, rfl, hpl, hcp⟩ : ∃ b' off, b = some ⟨b', off, none⟩ ∧ b' < wo.heap.size ∧ ∀ i, i < len → wo.cell? ⟨b', off + i, none⟩ = some (.int .i64 (l.getD i 0)) := by
        rcases (HE.out.2.1.keep hbr).2 with h0 | h0
        · omega
        · exact h0
      obtain ⟨x, hx⟩ : ∃ x, p.getD k e0 = x := ⟨_, rfl⟩
      obtain ⟨xo, xn, xk⟩ := x
      have hfk := HNn.out.2.2.2.2 k (by omega)
      have hIk := HNn.out.2.2.2.1 k (by omega)
      rw [hx] at c1 c2 hS hfk hIk
      simp only at c1 c2 hS
      have HX := (show Hid _ from hx)
      have hS1 := hS.1
      have hkl : (k : Int) < len := by omega
      have hsz : ¬ bn = wo.heap.size := by omega
      have q1 := (hbr.cell (p := ⟨w.heap.size, 1, none⟩) hs1).trans n1
      have hsw : w.heap.size < wo.heap.size := Nat.lt_of_lt_of_le hs1 hbr.size
      obtain ⟨W2, hW2⟩ : ∃ W2, wo.alloc (.cells #[.int .i64 xo, .int .i64 xn, .slice ai li ci] 80) = W2 := ⟨_, rfl⟩
      have hb2 : Below wo.heap.size wo W2 := by rw [← hW2]; exact (Below.refl _ _).alloc (Nat.le_refl _) _
      have m0 : W2.cell? ⟨wo.heap.size, 0, none⟩ = some (.int .i64 xo) := by rw [← hW2]; simp [go_sem]
      have m1 : W2.cell? ⟨wo.heap.size, 1, none⟩ = some (.int .i64 xn) := by rw [← hW2]; simp [go_sem]
      have m2 : W2.cell? ⟨wo.heap.size, 2, none⟩ = some (.slice ai li ci) := by rw [← hW2]; simp [go_sem]
      have p1 := (hb2.cell (p := ⟨w.heap.size, 1, none⟩) hsw).trans q1
      have M1 : w.heap.size < W2.heap.size := Nat.lt_of_lt_of_le hsw hb2.size
      have Mp : bp < W2.heap.size := Nat.lt_of_lt_of_le hpl hb2.size
      have ck : W2.cell? ⟨bp, op + k, none⟩ = some (.int .i64 (l.getD k 0)) := (hb2.cell (p := ⟨bp, op + k, none⟩) hpl).trans (hcp k hlt)
      have hfew := fit_few hfk
      simp only at hfew
      have HSh : Hid (Calls Tryz.prog 84 #[.agg #[.int .i64 xo, .int .i64 xn, .slice ai li ci], .slice (some ⟨bp, op, none⟩) len cb] W2 fun e w' => e = .returned (shV (shO l (xo, xn, xk))) ∧ Below W2.heap.size W2 w') := shape_any xo xn ai (some ⟨bp, op, none⟩) li ci len cb xk l W2 (hS.keep hb2) ((HE.out.2.1.keep hbr).keep hb2) (by omega) (fun j hj => by
        obtain ⟨y, h1, h2⟩ := kid_natI (j := j) HNn.out.1 (show k < p.length by omega) (by rw [hx]; simp only; omega)
        rw [hx] at h1
        exact ⟨y, h1, by omega⟩)
      have hsi := sh_in HNn.out.2.1 hfk hIk
      have hsh : shO l (p.getD k e0) = shO l (xo, xn, xk) := by rw [hx]
      have hK1 := @held_none p l k f hT.out.2.1
      have hK2 := @held_some p l k f hT.out.2.1
      have hK3 := @held_bad p l k f HNn.out.1 HNn.out.2.2.1 (by omega) hT.out.2.1
      rw [hsh] at hK1 hK2 hK3
      generalize shO l (xo, xn, xk) = e at HSh hsi hK1 hK2 hK3
      obtain ⟨so, sn, sa, sb, sc⟩ := e
      have HQ : Hid (∀ W, Below W2.heap.size W2 W → (Instr.lookup 110 (.map (some W1.heap.size)) (.agg #[.int .i64 so, .int .i64 sn, .int .i64 sa, .int .i64 sb, .int .i64 sc]) true).run Tryz.prog W = .ok (told (f (so, sn, sa, sb, sc))) W ∧ (∃ W5, (Instr.mapUpdate 110 (.map (some W1.heap.size)) (.agg #[.int .i64 so, .int .i64 sn, .int .i64 sa, .int .i64 sb, .int .i64 sc]) (.int .i64 (l.getD k 0))).run Tryz.prog W.drew = .ok () W5 ∧ Below W1.heap.size W1 W5 ∧ SMap W5 W1.heap.size (setS f (so, sn, sa, sb, sc) (some (l.getD k 0)))) ∧ Hid (Below w.heap.size w W)) := fun W hW => by
        have hWo : Below wo.heap.size wo W := hb2.trans (hW.mono hb2.size)
        have hM : SMap W W1.heap.size f := hT.out.1.keep hWo
        have hMd : SMap W.drew W1.heap.size f := hM.block rfl
        have hW1 : Below W1.heap.size W1 W := hbr.trans (hWo.mono hbr.size)
        obtain ⟨o, ho, hw⟩ := hMd.store (e := (so, sn, sa, sb, sc)) hsi (l.getD k 0)
        exact ⟨hM.lookup (e := (so, sn, sa, sb, sc)) hsi, ⟨_, ho, below_setB hW1.drew (Nat.le_refl _), hw _ (setB_get hMd.lt)⟩, HE.out.2.2.trans (hW1.mono HE.out.2.2.size)⟩
      have HO : Hid (∀ j, j < k → OneCl p l j) := hT.out.2.2
      unfold shV at HSh
      simp only at HSh
      clear hT hc hcp hS hb2 hbr q1 hx hfk hIk hsh hsi
      cases hfe : f (so, sn, sa, sb, sc) with
      | none =>
        obtain ⟨k1, k2⟩ := hK1 hfe
        rw [hfe] at HQ
        have HR := (show Hid (Held p l (k + 1) (setS f (so, sn, sa, sb, sc) (some (l.getD k 0))) ∧ ∀ j, j < k + 1 → OneCl p l j) from ⟨k2, fun j hj => by
          by_cases e1 : j = k
          · rw [e1]; exact k1
          · exact HO.out j (by omega)⟩)
        clear hK1 hK2 hK3 k1 k2 HO hfe
        go_wp2_with fail
        (try rw [hW2])
        refine Calls.mono HSh.out ?_
        rintro r w3 ⟨rfl, hb3⟩
        obtain ⟨W4, hW4⟩ : ∃ W4, w3.alloc (.cells #[.int .i64 so, .int .i64 sn, .int .i64 sa, .int .i64 sb, .int .i64 sc] 115) = W4 := ⟨_, rfl⟩
        have hb4 : Below w3.heap.size w3 W4 := by rw [← hW4]; exact (Below.refl _ _).alloc (Nat.le_refl _) _
        have t0 : W4.cell? ⟨w3.heap.size, 0, none⟩ = some (.int .i64 so) := by rw [← hW4]; simp [go_sem]
        have t1 : W4.cell? ⟨w3.heap.size, 1, none⟩ = some (.int .i64 sn) := by rw [← hW4]; simp [go_sem]
        have t2 : W4.cell? ⟨w3.heap.size, 2, none⟩ = some (.int .i64 sa) := by rw [← hW4]; simp [go_sem]
        have t3 : W4.cell? ⟨w3.heap.size, 3, none⟩ = some (.int .i64 sb) := by rw [← hW4]; simp [go_sem]
        have t4 : W4.cell? ⟨w3.heap.size, 4, none⟩ = some (.int .i64 sc) := by rw [← hW4]; simp [go_sem]
        have hB24 : Below W2.heap.size W2 W4 := hb3.trans (hb4.mono hb3.size)
        have r1 := (hB24.cell (p := ⟨w.heap.size, 1, none⟩) M1).trans p1
        have r2 := (hB24.cell (p := ⟨bp, op + k, none⟩) Mp).trans ck
        obtain ⟨hL, hM4, HB4⟩ := HQ.out W4 hB24
        have HM4 := (show Hid _ from hM4)
        clear hM4 HQ HSh hb3 hb4 hB24 hW2 m0 m1 m2 p1 ck
        obtain ⟨W5, hS5, hB5, hM5⟩ := HM4.out
        have HR5 : Hid (Below W1.heap.size W1 W5 ∧ SMap W5 W1.heap.size (setS f (so, sn, sa, sb, sc) (some (l.getD k 0)))) := ⟨hB5, hM5⟩
        clear HM4 hB5 hM5
        generalize setS f (so, sn, sa, sb, sc) (some (l.getD k 0)) = F at HR HR5
        obtain ⟨z, hz⟩ : ∃ z, l.getD k 0 = z := ⟨_, rfl⟩
        rw [hz] at r2 hS5
        clear hz
        unfold told at hL
        simp only at hL
        go_wp2_with fail
        (try rw [hW4])
        go_wp2_with fail
        go_region
        all_goals
          go_wp2
          exact ⟨⟨k + 1, F, by omega, by go_num, HR5.out.1, HR5.out.2, HR.out⟩, by simp [intOf]; omega⟩
      | some v =>
        rw [hfe] at HQ
        by_cases hv : v = l.getD k 0
        · obtain ⟨k1, k2⟩ := hK2 (by rw [hfe, hv])
          have HR := (show Hid (Held p l (k + 1) (setS f (so, sn, sa, sb, sc) (some (l.getD k 0))) ∧ ∀ j, j < k + 1 → OneCl p l j) from ⟨k2, fun j hj => by
            by_cases e1 : j = k
            · rw [e1]; exact k1
            · exact HO.out j (by omega)⟩)
          clear hK1 hK2 hK3 k1 k2 HO hfe
          go_wp2_with fail
          (try rw [hW2])
          refine Calls.mono HSh.out ?_
          rintro r w3 ⟨rfl, hb3⟩
          obtain ⟨W4, hW4⟩ : ∃ W4, w3.alloc (.cells #[.int .i64 so, .int .i64 sn, .int .i64 sa, .int .i64 sb, .int .i64 sc] 115) = W4 := ⟨_, rfl⟩
          have hb4 : Below w3.heap.size w3 W4 := by rw [← hW4]; exact (Below.refl _ _).alloc (Nat.le_refl _) _
          have t0 : W4.cell? ⟨w3.heap.size, 0, none⟩ = some (.int .i64 so) := by rw [← hW4]; simp [go_sem]
          have t1 : W4.cell? ⟨w3.heap.size, 1, none⟩ = some (.int .i64 sn) := by rw [← hW4]; simp [go_sem]
          have t2 : W4.cell? ⟨w3.heap.size, 2, none⟩ = some (.int .i64 sa) := by rw [← hW4]; simp [go_sem]
          have t3 : W4.cell? ⟨w3.heap.size, 3, none⟩ = some (.int .i64 sb) := by rw [← hW4]; simp [go_sem]
          have t4 : W4.cell? ⟨w3.heap.size, 4, none⟩ = some (.int .i64 sc) := by rw [← hW4]; simp [go_sem]
          have hB24 : Below W2.heap.size W2 W4 := hb3.trans (hb4.mono hb3.size)
          have r1 := (hB24.cell (p := ⟨w.heap.size, 1, none⟩) M1).trans p1
          have r2 := (hB24.cell (p := ⟨bp, op + k, none⟩) Mp).trans ck
          obtain ⟨hL, hM4, HB4⟩ := HQ.out W4 hB24
          have HM4 := (show Hid _ from hM4)
          clear hM4 HQ HSh hb3 hb4 hB24 hW2 m0 m1 m2 p1 ck
          obtain ⟨W5, hS5, hB5, hM5⟩ := HM4.out
          have HR5 : Hid (Below W1.heap.size W1 W5 ∧ SMap W5 W1.heap.size (setS f (so, sn, sa, sb, sc) (some (l.getD k 0)))) := ⟨hB5, hM5⟩
          clear HM4 hB5 hM5
          generalize setS f (so, sn, sa, sb, sc) (some (l.getD k 0)) = F at HR HR5
          obtain ⟨z, hz⟩ : ∃ z, l.getD k 0 = z := ⟨_, rfl⟩
          rw [hz] at r2 hS5 hv
          subst hv
          clear hz
          have hvv : (v != v) = false := by simp
          unfold told at hL
          simp only at hL
          go_wp2_with fail
          (try rw [hW4])
          go_wp2_with fail
          go_region
          all_goals
            go_wp2
            exact ⟨⟨k + 1, F, by omega, by go_num, HR5.out.1, HR5.out.2, HR.out⟩, by simp [intOf]; omega⟩
        · have HV : Hid (decide (AllOne p l) = false) := decide_eq_false (hK3 hfe hv)
          have hvv : (v != l.getD k 0) = true := by simpa using hv
          clear hK1 hK2 hK3 HO hfe hv
          go_wp2_with fail
          (try rw [hW2])
          refine Calls.mono HSh.out ?_
          rintro r w3 ⟨rfl, hb3⟩
          obtain ⟨W4, hW4⟩ : ∃ W4, w3.alloc (.cells #[.int .i64 so, .int .i64 sn, .int .i64 sa, .int .i64 sb, .int .i64 sc] 115) = W4 := ⟨_, rfl⟩
          have hb4 : Below w3.heap.size w3 W4 := by rw [← hW4]; exact (Below.refl _ _).alloc (Nat.le_refl _) _
          have t0 : W4.cell? ⟨w3.heap.size, 0, none⟩ = some (.int .i64 so) := by rw [← hW4]; simp [go_sem]
          have t1 : W4.cell? ⟨w3.heap.size, 1, none⟩ = some (.int .i64 sn) := by rw [← hW4]; simp [go_sem]
          have t2 : W4.cell? ⟨w3.heap.size, 2, none⟩ = some (.int .i64 sa) := by rw [← hW4]; simp [go_sem]
          have t3 : W4.cell? ⟨w3.heap.size, 3, none⟩ = some (.int .i64 sb) := by rw [← hW4]; simp [go_sem]
          have t4 : W4.cell? ⟨w3.heap.size, 4, none⟩ = some (.int .i64 sc) := by rw [← hW4]; simp [go_sem]
          have hB24 : Below W2.heap.size W2 W4 := hb3.trans (hb4.mono hb3.size)
          have r1 := (hB24.cell (p := ⟨w.heap.size, 1, none⟩) M1).trans p1
          have r2 := (hB24.cell (p := ⟨bp, op + k, none⟩) Mp).trans ck
          obtain ⟨hL, hM4, HB4⟩ := HQ.out W4 hB24
          have HM4 := (show Hid _ from hM4)
          clear hM4 HQ HSh hb3 hb4 hB24 hW2 m0 m1 m2 p1 ck
          clear HM4
          obtain ⟨z, hz⟩ : ∃ z, l.getD k 0 = z := ⟨_, rfl⟩
          rw [hz] at r2 hvv
          clear hz
          unfold told at hL
          simp only at hL
          go_wp2_with fail
          (try rw [hW4])
          go_wp2
          go_ret
          exact ⟨by rw [HV.out] <;> rfl, HB4.out⟩
    · obtain rfl : k = len := by omega
      have HV : Hid (decide (AllOne p l) = true) := decide_eq_true (fun j hj => hT.out.2.2 j (by omega))
      have HB : Hid (Below w.heap.size w wo) := HE.out.2.2.trans (hbr.mono HE.out.2.2.size)
      clear hT
      go_wp2
      go_ret
      exact ⟨by rw [HV.out] <;> rfl, HB.out⟩
set_option maxHeartbeats 1600000 in
theorem implGraph_any (a b : Option Addr) (len cap lb cb : Nat) (p : List EN) (l : List Int) (w : World) (ht : Tab w) (h : ESl w a len p) (hl : Sl w b lb l) (hm2 : lb ≤ 9223372036854775807) (hI : InE p) :
    Calls Tryz.prog 51 #[.agg #[.slice a len cap, .slice b lb cb]] w fun e w' => e = .returned (.bool (graphB p l)) ∧ Below w.heap.size w w' := by
  have hll := h.1
  have hl1 := hl.1
  obtain ⟨W1, hW1⟩ : ∃ W1, w.alloc (.cells #[.slice a len cap, .slice b lb cb] 36) = W1 := ⟨_, rfl⟩
  have hb1 : Below w.heap.size w W1 := by rw [← hW1]; exact (Below.refl _ _).alloc (Nat.le_refl _) _
  have n0 : W1.cell? ⟨w.heap.size, 0, none⟩ = some (.slice a len cap) := by rw [← hW1]; simp [go_sem]
  have n1 : W1.cell? ⟨w.heap.size, 1, none⟩ = some (.slice b lb cb) := by rw [← hW1]; simp [go_sem]
  have hs1 : w.heap.size < W1.heap.size := by rw [← hW1]; simp
  have HN := (show Hid _ from implNodes_any a b len cap lb cb p l W1 (ht.keeps hb1) (h.keep hb1) (hl.keep hb1) hm2)
  have HF : Hid (∀ W, Below W1.heap.size W1 W → Below w.heap.size w W) := fun W hW => hb1.trans (hW.mono hb1.size)
  unfold graphB
  cases hH : headB p l with
  | false =>
    rw [Bool.false_and]
    rw [hH] at HN
    clear h hl hb1 hH ht
    go_enter Tryz.func51, Tryz.ntmps51
    go_wp2_with fail
    (try rw [hW1])
    refine Calls.mono HN.out ?_
    rintro e w2 ⟨rfl, hb2⟩
    clear HN hW1
    go_wp2
    go_ret
    exact ⟨rfl, HF.out _ hb2⟩
  | true =>
    rw [Bool.true_and]
    rw [hH] at HN
    obtain ⟨hN, hlen, hP⟩ := (headB_iff p l).1 hH
    obtain rfl : lb = len := by omega
    have HK : Hid (∀ W, Below W1.heap.size W1 W → Calls Tryz.prog 78 #[.agg #[.slice a lb cap, .slice b lb cb]] W fun e w' => e = .returned (.bool (decide (AllCl p l))) ∧ Below W.heap.size W w') := fun W hW => implKids_any a b lb cap cb p l W ((h.keep hb1).keep hW) ((hl.keep hb1).keep hW) hN
    have HO : Hid (∀ W, AllCl p l → Below W1.heap.size W1 W → Calls Tryz.prog 79 #[.agg #[.slice a lb cap, .slice b lb cb]] W fun e w' => e = .returned (.bool (decide (AllOne p l))) ∧ Below W.heap.size W w') := fun W hC hW => implOne_any a b lb cap cb p l W ((h.keep hb1).keep hW) ((hl.keep hb1).keep hW) hN hP hC hI
    by_cases hC : AllCl p l
    · have ev : decide (Rest p l) = decide (AllOne p l) := by
        by_cases h1 : AllOne p l
        · rw [decide_eq_true h1, decide_eq_true ((rest_two p l).2 ⟨hC, h1⟩)]
        · rw [decide_eq_false h1, decide_eq_false (fun h2 => h1 ((rest_two p l).1 h2).2)]
      rw [ev]
      rw [decide_eq_true hC] at HK
      have HO' := (show Hid _ from fun W => HO.out W hC)
      generalize decide (AllOne p l) = B at HO' ⊢
      clear h hl hb1 hH ht HO hC ev hN hP
      go_enter Tryz.func51, Tryz.ntmps51
      go_wp2_with fail
      (try rw [hW1])
      refine Calls.mono HN.out ?_
      rintro e w2 ⟨rfl, hb2⟩
      have q0 := (hb2.cell (p := ⟨w.heap.size, 0, none⟩) hs1).trans n0
      have q1 := (hb2.cell (p := ⟨w.heap.size, 1, none⟩) hs1).trans n1
      have HK2 := (show Hid _ from HK.out w2 hb2)
      have HB2 := (show Hid _ from hb2)
      clear HN hW1 HK hb2
      go_wp2_with fail
      refine Calls.mono HK2.out ?_
      rintro e w3 ⟨rfl, hb3⟩
      have HB3 : Hid (Below W1.heap.size W1 w3) := HB2.out.trans (hb3.mono HB2.out.size)
      have o0 := (HB3.out.cell (p := ⟨w.heap.size, 0, none⟩) hs1).trans n0
      have o1 := (HB3.out.cell (p := ⟨w.heap.size, 1, none⟩) hs1).trans n1
      have HO3 := (show Hid _ from HO'.out w3 HB3.out)
      clear HK2 hb3 q0 q1 HO'
      go_wp2_with fail
      refine Calls.mono HO3.out ?_
      rintro e w4 ⟨rfl, hb4⟩
      have HB4 : Hid (Below w.heap.size w w4) := HF.out _ (HB3.out.trans (hb4.mono HB3.out.size))
      clear HO3 o0 o1 hb4
      go_wp2
      go_ret
      exact ⟨rfl, HB4.out⟩
    · have ev : decide (Rest p l) = false := decide_eq_false (fun h2 => hC ((rest_two p l).1 h2).1)
      rw [ev]
      rw [decide_eq_false hC] at HK
      clear h hl hb1 hH ht HO hC ev hN hP
      go_enter Tryz.func51, Tryz.ntmps51
      go_wp2_with fail
      (try rw [hW1])
      refine Calls.mono HN.out ?_
      rintro e w2 ⟨rfl, hb2⟩
      have q0 := (hb2.cell (p := ⟨w.heap.size, 0, none⟩) hs1).trans n0
      have q1 := (hb2.cell (p := ⟨w.heap.size, 1, none⟩) hs1).trans n1
      have HK2 := (show Hid _ from HK.out w2 hb2)
      have HB2 := (show Hid _ from hb2)
      clear HN hW1 HK hb2
      go_wp2_with fail
      refine Calls.mono HK2.out ?_
      rintro e w3 ⟨rfl, hb3⟩
      have HB3 : Hid (Below w.heap.size w w3) := HF.out _ (HB2.out.trans (hb3.mono HB2.out.size))
      clear HK2 hb3 q0 q1
      go_wp2
      go_ret
      exact ⟨rfl, HB3.out⟩
end Go.Proofs.YtobgkfpjokfbaaaGreatDoor
namespace Go.Proofs.YtobgkfpjokfbaaaGreatDoor
open Go.ChangeShapes Go.WideShapes Go.ChangeAt Go.RowKit
open Go.MapKept Go.ChangeMaps
set_option linter.unusedVariables false

theorem kidsL_same {l kids : List Int} (h : KidsCl l kids) : kidsL l kids = kids := by
  refine list_ext (kidsL_len l kids) fun k hk => ?_
  rw [kidsL_len] at hk
  rw [kidsL_get l kids hk, kidsCl_atI h k hk]
theorem ext_en {p q : List EN} (h : p.length = q.length) (he : ∀ k, k < p.length → p.getD k e0 = q.getD k e0) : p = q := by
  refine List.ext_getElem h fun k h1 h2 => ?_
  have := he k h1
  rwa [getDE_lt h1, getDE_lt h2] at this
theorem withL_same {p : List EN} {l : List Int} (h : ∀ k, k < p.length → KidsCl l (p.getD k e0).2.2) : withL l p = p := by
  refine ext_en (withL_len l p) fun k hk => ?_
  rw [withL_len] at hk
  rw [withL_get l p hk, kidsL_same (h k hk)]
theorem good_kids {g : GS} (hg : GoodG g) {i : Nat} (hi : i < g.1.length) : (g.1.getD i e0).2.2.length ≤ 3 ∧ ∀ j, j < (g.1.getD i e0).2.2.length → ∃ y : Nat, (g.1.getD i e0).2.2.getD j 0 = y ∧ y < g.2.length := by
  have hf := hg.1 i hi
  refine ⟨fit_few hf, fun j hj => ?_⟩
  have := (fit_node hf).2.2.2 _ (show (g.1.getD i e0).2.2.getD j 0 ∈ (g.1.getD i e0).2.2 by rw [getI_lt hj]; exact List.getElem_mem _)
  exact ⟨((g.1.getD i e0).2.2.getD j 0).toNat, by omega, by have := hg.2.1; omega⟩
/-- Shapes within 64 bits. -/
theorem part_inG {l : List Int} (hl : l.length ≤ 1000) (hp : Par l) (kids : List Int) (i : Nat) : InI (partOf l kids i) := by
  unfold partOf InI
  split
  · generalize (kids.getD i 0).toNat = k
    by_cases hk : k < l.length
    · have := hp k hk; omega
    · rw [List.getD_eq_getElem?_getD, List.getElem?_eq_none (by omega)]; simp
  · omega
theorem sh_inG {l : List Int} (hl : l.length ≤ 1000) (hp : Par l) {op n : Int} {kids : List Int} (ho : 0 ≤ ar op) (hn : InI n) : ShIn (shO l (op, n, kids)) := by
  refine ⟨?_, hn, part_inG hl hp _ _, part_inG hl hp _ _, part_inG hl hp _ _⟩
  show InI op
  unfold InI
  rcases ops op with h | h
  · have := ar_out op h; omega
  · omega
theorem held_step {p : List EN} {l : List Int} {k : Nat} {f : Sh → Option Int} (h : Held p l k f) (hone : ∀ i, i < k → shO l (p.getD i e0) = shO l (p.getD k e0) → l.getD i 0 = l.getD k 0) : Held p l (k + 1) (setS f (shO l (p.getD k e0)) (some (l.getD k 0))) := by
  refine ⟨fun i hi => ?_, fun e' v he' => ?_⟩
  · unfold setS
    by_cases hik : i = k
    · rw [hik, if_pos rfl]
    · by_cases e1 : shO l (p.getD i e0) = shO l (p.getD k e0)
      · rw [if_pos e1, hone i (by omega) e1]
      · rw [if_neg e1]; exact h.1 i (by omega)
  · unfold setS at he'
    by_cases e1 : e' = shO l (p.getD k e0)
    · rw [if_pos e1] at he'; cases he'; exact ⟨k, by omega, e1.symm, rfl⟩
    · rw [if_neg e1] at he'
      obtain ⟨i, h1, h2⟩ := h.2 e' v he'
      exact ⟨i, by omega, h2⟩
theorem good_one {g : GS} (hg : GoodG g) {i k : Nat} (hi : i < k) (hk : k < g.1.length) (e : shO g.2 (g.1.getD i e0) = shO g.2 (g.1.getD k e0)) : g.2.getD i 0 = g.2.getD k 0 := by
  have := sh_same (hg.1 i (by omega)) (hg.1 k hk) (hg.2.2.2.2 i (by omega)).1 (hg.2.2.2.2 k hk).1 e
  exact (hg.2.2.2.2 k hk).2 i hi this.symm
/-- A shelf: the graph's own memory, a map of the shapes of its first k nodes. -/
def ShelfK (w : World) (S : Nat → Prop) (s m : Nat) (g : GS) (k : Nat) : Prop :=
  ∃ va vb f, w.cell? ⟨s, 0, none⟩ = some va ∧ w.cell? ⟨s, 1, none⟩ = some vb ∧ w.cell? ⟨s, 2, none⟩ = some (.map (some m)) ∧ w.frozen? ⟨s, 0, none⟩ = false ∧ w.frozen? ⟨s, 1, none⟩ = false ∧ SMap w m f ∧ Held g.1 g.2 k f ∧ GOwn w true (fun b => S b ∧ b ≠ s ∧ b ≠ m) va vb g ∧ s ≠ m ∧ S s ∧ S m ∧ s < w.heap.size ∧ m < w.heap.size
abbrev Shelf (w : World) (S : Nat → Prop) (s m : Nat) (g : GS) : Prop := ShelfK w S s m g g.1.length
theorem ShelfK.map {w w' : World} {S S' : Nat → Prop} {s m k : Nat} {g : GS} (h : ShelfK w S s m g k) (hs : w.heap.size ≤ w'.heap.size) (hk : ∀ b, S b → b < w.heap.size → w'.heap[b]? = w.heap[b]?) (hS : ∀ b, b < w.heap.size → S b → S' b) : ShelfK w' S' s m g k := by
  obtain ⟨va, vb, f, h1, h2, h3, h4, h5, h6, h7, h8, h9, h10, h11, h12, h13⟩ := h
  have e := hk s h10 h12
  exact ⟨va, vb, f, (World.cell?_of_block (a := ⟨s, 0, none⟩) e).trans h1, (World.cell?_of_block (a := ⟨s, 1, none⟩) e).trans h2, (World.cell?_of_block (a := ⟨s, 2, none⟩) e).trans h3, (World.frozen?_of_block (a := ⟨s, 0, none⟩) e).trans h4, (World.frozen?_of_block (a := ⟨s, 1, none⟩) e).trans h5, h6.block (hk m h11 h13), h7, h8.map hs (fun b hb hl => hk b hb.1 hl) (fun b hl hb => ⟨hS b hl hb.1, hb.2⟩), h9, hS s h12 h10, hS m h13 h11, by omega, by omega⟩
theorem ShelfK.keep {w w' : World} {S : Nat → Prop} {s m k : Nat} {g : GS} (h : ShelfK w S s m g k) (hb : Below w.heap.size w w') : ShelfK w' S s m g k := h.map hb.size (fun b _ hl => hb.block b hl) (fun _ _ h => h)
theorem ShelfK.sets {w : World} {S S' : Nat → Prop} {s m k : Nat} {g : GS} (h : ShelfK w S s m g k) (hS : ∀ b, b < w.heap.size → S b → S' b) : ShelfK w S' s m g k := h.map (Nat.le_refl _) (fun _ _ _ => rfl) hS
/-- The next node's shape laid into the map. -/
theorem ShelfK.store {w : World} {S : Nat → Prop} {s m k : Nat} {g : GS} (h : ShelfK w S s m g k) (hg : GoodG g) (hk : k < g.1.length) (hsi : ShIn (shO g.2 (g.1.getD k e0))) :
    ∃ W5, (Instr.mapUpdate 110 (.map (some m)) (shV (shO g.2 (g.1.getD k e0))) (.int .i64 (g.2.getD k 0))).run Tryz.prog w = .ok () W5 ∧ ShelfK W5 S s m g (k + 1) ∧ (∀ b, b ≠ m → W5.heap[b]? = w.heap[b]?) ∧ KB S w W5 := by
  obtain ⟨va, vb, f, h1, h2, h3, h4, h5, h6, h7, h8, h9, h10, h11, h12, h13⟩ := h
  obtain ⟨o, ho, hw⟩ := h6.store hsi (g.2.getD k 0)
  have hne : ∀ b, b ≠ m → (setBlock w m o).heap[b]? = w.heap[b]? := fun b hb => setB_ne b hb
  have e := hne s h9
  refine ⟨_, ho, ⟨va, vb, _, (World.cell?_of_block (a := ⟨s, 0, none⟩) e).trans h1, (World.cell?_of_block (a := ⟨s, 1, none⟩) e).trans h2, (World.cell?_of_block (a := ⟨s, 2, none⟩) e).trans h3, (World.frozen?_of_block (a := ⟨s, 0, none⟩) e).trans h4, (World.frozen?_of_block (a := ⟨s, 1, none⟩) e).trans h5, hw _ (setB_get h13), held_step h7 (fun i hi e => good_one hg hi hk e), h8.map (by rw [setB_size]; exact Nat.le_refl _) (fun b hb _ => hne b hb.2.2) (fun _ _ h => h), h9, h10, h11, by rw [setB_size]; exact h12, by rw [setB_size]; exact h13⟩, hne, ⟨rfl, rfl, rfl, by rw [setB_size]; exact Nat.le_refl _, fun b hb hn => hne b (fun e => hn (by rw [e]; exact h11))⟩⟩
set_option maxHeartbeats 3200000 in
set_option maxRecDepth 20000 in
theorem shelfOf_any (a b : Option Addr) (len cap cb : Nat) (p : List EN) (l : List Int) (w : World) (h : ESl w a len p) (hl : Sl w b len l) (hg : GoodG (p, l)) (h120 : len ≤ 120) (hI : InE p) :
    Calls Tryz.prog 57 #[.agg #[.slice a len cap, .slice b len cb]] w fun e w' => ∃ s m, e = .returned (.pointer (some ⟨s, 0, none⟩)) ∧ Shelf w' (fun b => w.heap.size ≤ b) s m (p, l) ∧ Below w.heap.size w w' := by
  have hll := h.1
  have hl1 := hl.1
  have hsame : withL l p = p := withL_same (fun k hk => (hg.2.2.2.2 k hk).1)
  obtain ⟨W1, hW1⟩ : ∃ W1, w.alloc (.cells #[.slice a len cap, .slice b len cb] 36) = W1 := ⟨_, rfl⟩
  have hb1 : Below w.heap.size w W1 := by rw [← hW1]; exact (Below.refl _ _).alloc (Nat.le_refl _) _
  have hs1 : W1.heap.size = w.heap.size + 1 := by rw [← hW1]; simp
  have n0 : W1.cell? ⟨w.heap.size, 0, none⟩ = some (.slice a len cap) := by rw [← hW1]; simp [go_sem]
  have n1 : W1.cell? ⟨w.heap.size, 1, none⟩ = some (.slice b len cb) := by rw [← hW1]; simp [go_sem]
  have HC := (show Hid _ from copyG_own a b len cap len cb p l W1 (h.keep hb1) (hl.keep hb1) h120 (by omega) (fun i hi => by
    have := good_kids hg (i := i) (by simp only; omega)
    simp only at this
    rw [hl1] at this; exact this))
  rw [hsame] at HC
  have HE : Hid (ESl W1 a len p ∧ Sl W1 b len l ∧ Below w.heap.size w W1 ∧ p.length = len ∧ l.length = len ∧ GoodG (p, l) ∧ InE p ∧ W1.heap.size = w.heap.size + 1) := ⟨h.keep hb1, hl.keep hb1, hb1, hll, hl1, hg, hI, hs1⟩
  have L0 : w.heap.size < W1.heap.size := by omega
  have hmm := @run_makeMap Tryz.prog
  clear h hl hb1 hll hl1 hg hI hs1 hsame
  go_enter Tryz.func57, Tryz.ntmps57
  go_wp2_with fail
  (try rw [hW1])
  refine Calls.mono HC.out ?_
  rintro e w2 ⟨va, vb, rfl, hG, hb2⟩
  obtain ⟨ga, ca, gb, cb2, rfl, rfl, _, _⟩ := hG.reads
  simp only at hG
  have q0 := (hb2.cell (p := ⟨w.heap.size, 0, none⟩) L0).trans n0
  have hs2 := hb2.size
  have HG := (show Hid _ from And.intro hG hb2)
  clear HC hW1 hG
  have q0' : ∀ o o', ((w2.alloc o).alloc o').cell? ⟨w.heap.size, 0, none⟩ = some (.slice a len cap) := fun o o' => (((hb2.alloc hb2.size o).alloc (by simp; omega) o').cell (p := ⟨w.heap.size, 0, none⟩) L0).trans n0
  have HM : Hid (∃ W3, (w2.alloc (.map #[] 0)).alloc (.cells #[.slice ga p.length ca, .slice gb l.length cb2, .map (some w2.heap.size)] 112) = W3 ∧ ShelfK W3 (fun b => W1.heap.size ≤ b) (w2.heap.size + 1) w2.heap.size (p, l) 0 ∧ Below W1.heap.size W1 W3) := by
    have hbb : Below w2.heap.size w2 ((w2.alloc (.map #[] 0)).alloc (.cells #[.slice ga p.length ca, .slice gb l.length cb2, .map (some w2.heap.size)] 112)) := ((Below.refl _ _).alloc (Nat.le_refl _) _).alloc (by simp) _
    refine ⟨_, rfl, ⟨.slice ga p.length ca, .slice gb l.length cb2, fun _ => none, by simp [go_sem], by simp [go_sem], by simp [go_sem], by simp [go_sem], by simp [go_sem], smap_empty (clock := 0) ?_, ⟨fun i hi => absurd hi (Nat.not_lt_zero _), fun e v h => by cases h⟩, ?_, by omega, by show W1.heap.size ≤ w2.heap.size + 1; omega, hs2, by simp, by simp; omega⟩, hb2.trans (hbb.mono hb2.size)⟩
    · exact ((World.grownBy_alloc (w2.alloc (.map #[] 0)) _ none).block w2.heap.size (by simp) (by simp)).trans (by first | exact heap_alloc_new _ _ | exact heap_alloc_new .. | simp)
    · exact (HG.out.1.sets (S' := fun b => W1.heap.size ≤ b ∧ b ≠ w2.heap.size + 1 ∧ b ≠ w2.heap.size) (fun b hl hb => ⟨by omega, by omega, by omega⟩)).keep hbb
  clear hmm q0 hs2
  have hmm := @run_makeMap Tryz.prog
  go_wp2_with fail
  obtain ⟨W3, hW3, hS3, hB3⟩ := HM.out
  (try rw [hW3])
  obtain ⟨M, hM⟩ : ∃ M, w2.heap.size = M := ⟨_, rfl⟩
  rw [hM] at hS3
  (try rw [hM])
  have HS3 := (show Hid _ from And.intro hS3 hB3)
  clear hmm HM hW3 hM hS3 hB3 HG hb2 q0'
  go_loopw [13] (fun i wr => ∃ (k : Nat), k ≤ len ∧ i = .int .i64 k ∧ Hid (ShelfK wr (fun b => W1.heap.size ≤ b) (M + 1) M (p, l) k) ∧ Below W1.heap.size W1 wr) (fun i _ => len - (intOf i).toNat)
  case atStart => exact ⟨0, Nat.zero_le _, rfl, HS3.out.1, HS3.out.2⟩
  case round =>
    obtain ⟨k, hk, rfl, hT, hbr⟩ := hrel
    obtain ⟨wo, rfl⟩ : ∃ x, x = wr := ⟨_, rfl⟩
    clear HS3
    by_cases hlt : k < len
    · obtain ⟨bn, on, rfl, hbl, hc⟩ := HE.out.1.at (by omega)
      obtain ⟨ai, li, ci, c1', c2', c3', hli, hci, hS⟩ := hc k hlt
      obtain ⟨bp, op, rfl, hpl, hcp⟩ : ∃ b' off, b = some ⟨b', off, none⟩ ∧ b' < W1.heap.size ∧ ∀ i, i < len → W1.cell? ⟨b', off + i, none⟩ = some (.int .i64 (l.getD i 0)) := by
        rcases HE.out.2.1.2 with h0 | h0
        · omega
        · exact h0
      have c1 := (hbr.cell (p := ⟨bn, on + k * 3, none⟩) hbl).trans c1'
      have c2 := (hbr.cell (p := ⟨bn, on + k * 3 + 1, none⟩) hbl).trans c2'
      have c3 := (hbr.cell (p := ⟨bn, on + k * 3 + 2, none⟩) hbl).trans c3'
      have hgood := HE.out.2.2.2.2.2.1
      have hpl2 := HE.out.2.2.2.1
      have hll2 := HE.out.2.2.2.2.1
      have hfk := hgood.1 k (by simp only; omega)
      have hIk := HE.out.2.2.2.2.2.2.1 k (by omega)
      have hkid := good_kids hgood (i := k) (by simp only; omega)
      have hsi : ShIn (shO l (p.getD k e0)) := sh_inG (l := l) (op := (p.getD k e0).1) (n := (p.getD k e0).2.1) (kids := (p.getD k e0).2.2) (by omega) hgood.2.2.1 (fit_node hfk).1 hIk
      simp only at hfk hkid
      obtain ⟨y, hy⟩ : ∃ y, p.getD k e0 = y := ⟨_, rfl⟩
      have hS1 := hS.1
      have HYk := (show Hid _ from hy)
      rw [hy] at c1 c2 hS hS1 hfk hkid hsi
      obtain ⟨yo, yn, yk⟩ := y
      simp only at c1 c2 hS hS1 hkid
      have hsz : ¬ bn = wo.heap.size := by have := hbr.size; omega
      have hkl : (k : Int) < len := by omega
      obtain ⟨W2, hW2⟩ : ∃ W2, wo.alloc (.cells #[.int .i64 yo, .int .i64 yn, .slice ai li ci] 80) = W2 := ⟨_, rfl⟩
      have hbx : Below wo.heap.size wo W2 := by rw [← hW2]; exact (Below.refl _ _).alloc (Nat.le_refl _) _
      have hs2 : W2.heap.size = wo.heap.size + 1 := by rw [← hW2]; simp
      have o0 : W2.cell? ⟨wo.heap.size, 0, none⟩ = some (.int .i64 yo) := by rw [← hW2]; simp [go_sem]
      have o1 : W2.cell? ⟨wo.heap.size, 1, none⟩ = some (.int .i64 yn) := by rw [← hW2]; simp [go_sem]
      have o2 : W2.cell? ⟨wo.heap.size, 2, none⟩ = some (.slice ai li ci) := by rw [← hW2]; simp [go_sem]
      have hB2 : Below W1.heap.size W1 W2 := hbr.trans (hbx.mono hbr.size)
      obtain ⟨B5, hB5⟩ : ∃ B5, wo.heap.size = B5 := ⟨_, rfl⟩
      rw [hB5] at o0 o1 o2 hs2
      have hSK : ShelfK W2 (fun b => W1.heap.size ≤ b) (M + 1) M (p, l) k := hT.out.keep hbx
      have hM5 : M < B5 ∧ M + 1 < B5 := by
        obtain ⟨_, _, _, _, _, _, _, _, _, _, _, _, _, _, z1, z2⟩ := hT.out
        omega
      have hMW : W1.heap.size ≤ M := by
        obtain ⟨_, _, _, _, _, _, _, _, _, _, _, _, _, z0, _, _⟩ := hT.out
        exact z0
      have CELLS : Hid (∀ W, KB (fun b => b = M) W2 W → W.cell? ⟨M + 1, 2, none⟩ = some (.map (some M)) ∧ W.cell? ⟨B5, 0, none⟩ = some (.int .i64 yo) ∧ W.cell? ⟨B5, 1, none⟩ = some (.int .i64 yn) ∧ W.cell? ⟨B5, 2, none⟩ = some (.slice ai li ci) ∧ W.cell? ⟨w.heap.size, 1, none⟩ = some (.slice (some ⟨bp, op, none⟩) len cb) ∧ W.cell? ⟨bp, op + k, none⟩ = some (.int .i64 (l.getD k 0))) := fun W hW => by
        have x3 : W2.cell? ⟨M + 1, 2, none⟩ = some (.map (some M)) := by
          obtain ⟨_, _, _, _, _, z, _⟩ := hSK
          exact z
        refine ⟨(hW.cell (p := ⟨M + 1, 2, none⟩) (by show M + 1 < _; omega) (by show ¬ M + 1 = M; omega)).trans x3, (hW.cell (p := ⟨B5, 0, none⟩) (by show B5 < _; omega) (by show ¬ B5 = M; omega)).trans o0, (hW.cell (p := ⟨B5, 1, none⟩) (by show B5 < _; omega) (by show ¬ B5 = M; omega)).trans o1, (hW.cell (p := ⟨B5, 2, none⟩) (by show B5 < _; omega) (by show ¬ B5 = M; omega)).trans o2, ?_, ?_⟩
        · exact (hW.cell (p := ⟨w.heap.size, 1, none⟩) (by show w.heap.size < _; have := hB2.size; omega) (by show ¬ w.heap.size = M; omega)).trans ((hB2.cell (p := ⟨w.heap.size, 1, none⟩) L0).trans n1)
        · exact (hW.cell (p := ⟨bp, op + k, none⟩) (by show bp < _; have := hB2.size; omega) (by show ¬ bp = M; omega)).trans ((hB2.cell (p := ⟨bp, op + k, none⟩) hpl).trans (hcp k hlt))
      have HSh : Hid (Calls Tryz.prog 84 #[.agg #[.int .i64 yo, .int .i64 yn, .slice ai li ci], .slice (some ⟨bp, op, none⟩) len cb] W2.drew fun e w' => e = .returned (shV (shO l (yo, yn, yk))) ∧ Below W2.heap.size W2 w') := by
        have hD : Below W2.heap.size W2 W2.drew := Go.below_drewN (Below.refl _ _) 1
        have hX := hB2.trans (hD.mono hB2.size)
        refine (shape_any yo yn ai (some ⟨bp, op, none⟩) li ci len cb yk l W2.drew (hS.keep hX) (HE.out.2.1.keep hX) (by omega) (fun j hj => by
          obtain ⟨y, h1, h2⟩ := hkid.2 j (by omega)
          exact ⟨y, h1, by omega⟩)).mono ?_
        rintro r w' ⟨t1, t2⟩
        exact ⟨t1, hD.trans t2⟩
      have HQ : Hid (∀ W, Below W2.heap.size W2 W → ∃ W5, (Instr.mapUpdate 110 (.map (some M)) (shV (shO l (yo, yn, yk))) (.int .i64 (l.getD k 0))).run Tryz.prog W = .ok () W5 ∧ KB (fun b => b = M) W2 W5 ∧ Hid (ShelfK W5 (fun b => W1.heap.size ≤ b) (M + 1) M (p, l) (k + 1) ∧ Below W1.heap.size W1 W5)) := fun W hW => by
        have hst := (hSK.keep hW).store hgood (by simp only; omega) (by simp only; rw [HYk.out]; exact hsi)
        simp only at hst
        rw [HYk.out] at hst
        obtain ⟨W5, h1, h2, h3, h4⟩ := hst
        have hBW : Below W1.heap.size W1 W := hB2.trans (hW.mono hB2.size)
        refine ⟨W5, h1, (KB.of hW).trans (T := fun b => b = M) ⟨h4.os, h4.tape, h4.output, h4.size, fun b _ hn => h3 b hn⟩ (fun _ _ h => h), h2, hBW.trans (h4.below (fun _ _ h => h) hBW.size)⟩
      have hzk : ∃ z, l.getD k 0 = z := ⟨_, rfl⟩
      obtain ⟨z, hz⟩ := hzk
      rw [hz] at CELLS HQ
      unfold shV at HSh HQ
      generalize shO l (yo, yn, yk) = e at HSh HQ
      obtain ⟨so, sn, sa, sb, sc⟩ := e
      simp only at HSh HQ
      have zD := CELLS.out W2.drew (KB.of (Go.below_drewN (Below.refl _ _) 1))
      clear hT hc hcp hS c1' c2' c3' hy hz hkid hfk hIk hsi hgood hSK o0 o1 o2 hpl2 hll2 hS1 HYk
      go_wp2_with fail
      (try rw [hW2])
      (try rw [hB5])
      clear hW2 c1 c2 c3 hbx hM5 hMW hs2 hB2
      go_region_held3 (fun w' => w'.cell? ⟨M + 1, 2, none⟩ = some (.map (some M)) ∧ w'.cell? ⟨B5, 0, none⟩ = some (.int .i64 yo) ∧ w'.cell? ⟨B5, 1, none⟩ = some (.int .i64 yn) ∧ w'.cell? ⟨B5, 2, none⟩ = some (.slice ai li ci) ∧ w'.cell? ⟨w.heap.size, 1, none⟩ = some (.slice (some ⟨bp, op, none⟩) len cb) ∧ w'.cell? ⟨bp, op + k, none⟩ = some (.int .i64 z))
        (assumption)
        (first
        | (go_at_call 84; refine Calls.mono HSh.out ?_; rintro r w4 ⟨rfl, hb4⟩; have z4 := CELLS.out w4 (KB.of hb4); obtain ⟨W5, hS5, hk5, HN5⟩ := HQ.out w4 hb4; have z5 := CELLS.out W5 hk5; clear hk5))
      all_goals
        clear HSh HQ CELLS z4 z5 zD
        go_wp2
        go_roundw
        case rel => exact ⟨k + 1, by omega, by go_num, HN5.out.1, HN5.out.2⟩
        case measure => simp [intOf]; omega
    · obtain rfl : k = len := by omega
      have HF : Hid (Shelf wo (fun b => w.heap.size ≤ b) (M + 1) M (p, l) ∧ Below w.heap.size w wo) := by
        have hb0 := HE.out.2.2.1
        have hs0 := hb0.size
        refine ⟨?_, hb0.trans (hbr.mono hs0)⟩
        have := hT.out.sets (S' := fun b => w.heap.size ≤ b) (fun b _ h => by omega)
        rw [← HE.out.2.2.2.1] at this
        exact this
      clear hT hbr
      go_wp2
      go_ret
      exact ⟨M + 1, M, rfl, HF.out.1, HF.out.2⟩
end Go.Proofs.YtobgkfpjokfbaaaGreatDoor
