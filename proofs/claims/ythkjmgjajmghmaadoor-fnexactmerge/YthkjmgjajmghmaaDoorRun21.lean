/-
  PROVED HERE: what the program's copyOfGraph answers, at every graph of at most 120 nodes whose kids are numbers of the parts. No other condition. what the program's looks at nodes of graphs answer, at every list, in a world whose table of arities is laid. No other condition.
-/
import Derived.Test.YthkjmgjajmghmaaDoorRun17
import Derived.Test.YthkjmgjajmghmaaDoorRun18
import Derived.Test.YthkjmgjajmghmaaDoorRun19
import Derived.Test.YthkjmgjajmghmaaDoorRun20
import Derived.Deep.RegionHeld3
import Derived.Test.YthkjmgjajmghmaaDoorRun4
namespace Go.Proofs.YthkjmgjajmghmaaDoor
open Go.ChangeShapes Go.WideShapes Go.ChangeAt Go.RowKit
set_option linter.unusedVariables false

/-- Nodes that were made and parts apart from them are a graph of its own. -/
theorem gown_copy {w w1 w2 : World} {p : List EN} {l : List Int} {xs : List Value} {vb : Value} {len lo : Nat} (hlo : lo ≤ w.heap.size) (hp : p.length = len) (h3 : ∀ i, i < len → (p.getD i e0).2.2.length ≤ 3) (hr : w1.ownsRow w.heap.size 57 3 (.slice (some ⟨w.heap.size, 0, none⟩) len len) len xs) (hc : ECopy w w1 p len xs) (hb : Below w1.heap.size w1 w2) (hv : w2.ownsRow lo 3 1 vb l.length (vals l)) (hx : ∀ x, vb.ownBlock = some x → x < w.heap.size ∨ w1.heap.size ≤ x) :
    GOwn w2 true (fun b => lo ≤ b) (.slice (some ⟨w.heap.size, 0, none⟩) len len) vb (p, l) := by
  obtain ⟨bs, hbs⟩ := hc
  have hlt := owns_lt hr
  subst hp
  refine ⟨xs, fun i => .slice (some ⟨bs i, 0, none⟩) (p.getD i e0).2.2.length (p.getD i e0).2.2.length, own_base (row_keep hr hb) (Nat.zero_le _), own_base hv (Nat.zero_le _), fun x e => ?_, fun x e => (hv.lt x e).1, fun i hi => ?_⟩
  · have e' : w.heap.size = x := by injection e
    refine ⟨by omega, fun e2 => ?_⟩
    have := hx x e2
    omega
  · obtain ⟨h1, h2, h3', h4, h5, h6, h7⟩ := hbs i hi
    have hk3 := h3 i hi
    refine ⟨h4, h5, h6, some ⟨bs i, 0, none⟩, _, rfl, Nat.le_refl _, by show (p.getD i e0).2.2.length ≤ _; omega, ⟨rfl, .inr ⟨bs i, 0, rfl, Nat.lt_of_lt_of_le h2 hb.size, fun j hj => ?_⟩⟩, fun x e => ?_, fun _ => ⟨bs i, rfl, fun j hj => (hb.frozen (p := ⟨bs i, j, none⟩) h2).trans (h7 j hj).2⟩⟩
    · rw [Nat.zero_add]; exact (hb.cell (p := ⟨bs i, j, none⟩) h2).trans (h7 j hj).1
    · have e' : bs i = x := by injection e
      subst e'
      refine ⟨⟨by omega, fun e2 => ?_, fun e2 => ?_, fun j hj e2 => ?_⟩, Nat.lt_of_lt_of_le h2 hb.size⟩
      · have : w.heap.size = bs i := by injection e2
        omega
      · have := hx _ e2; omega
      · have : bs j = bs i := by injection e2
        exact h3' j hj this
theorem cloneI_any (a : Option Addr) (len cap : Nat) (l : List Int) (w : World) (h : Sl w a len l) (hn : len ≤ 1048576) :
    Calls Tryd.prog 53 #[.slice a len cap] w fun e w' => ∃ v : Value, e = .returned v ∧ w'.ownsRow w.heap.size 3 1 v len (vals l) ∧ Below w.heap.size w w' := by
  have q : ∀ (w : World) (a : Option Addr) (n c n' c' : Nat), (binOp .eql 23 (.slice a n c) (.slice none n' c')).run Tryd.prog w = .ok (.bool a.isNone) w := fun w a n c n' c' => Lib.run_eql_slice_nil w _ _ a n c n' c' Tryd.underlying23
  have hll := h.1
  cases a with
  | none =>
    have h0 : len = 0 := by
      rcases h.2 with h0 | ⟨b, off, e, _⟩
      · exact h0
      · cases e
    subst h0
    have : l = [] := List.length_eq_zero_iff.1 hll
    subst this
    clear h hll
    go_enter Tryd.func53, Tryd.ntmps53
    go_wp2
    go_ret
    exact ⟨_, rfl, World.ownsRow_nil _ _ _ _, Below.refl _ _⟩
  | some x =>
    obtain ⟨i0, hi, hz0, hz1, hz2⟩ := info_parts infoInt
    have hb0 : Below w.heap.size w (w.alloc (.cells #[] 3)) := (Below.refl _ _).alloc (Nat.le_refl _) _
    have HC : Hid (∀ j u, (vals l)[j]? = some u → (w.alloc (.cells #[] 3)).cell? (x.add j) = some u) := by
      by_cases h0 : len = 0
      · subst h0
        have : l = [] := List.length_eq_zero_iff.1 hll
        subst this
        intro j u hj
        simp [vals] at hj
      · obtain ⟨b, off, e, _⟩ := cells_of h (by omega)
        cases e
        have hcs := sl_cells (h.keep hb0) 0 len (by omega)
        rw [List.drop_zero, List.take_of_length_le (by omega), Nat.add_zero] at hcs
        exact hcs
    have H1 : Hid (∀ u ∈ vals l, u.oneCell' = true) := vals_one l
    have hvl : (vals l).length = len * 1 := by rw [vals_len]; omega
    clear h
    go_enter Tryd.func53, Tryd.ntmps53
    go_wp2_with (at_builtin; refine wpList_append_own _ rfl _ _ 23 rfl w.heap.size 3 i0 (.int .i64 0) 1 8 Tryd.underlying23 hi hz0 hz1 hz2 rfl (by decide) _ _ _ rfl (empty5 w) x len cap (vals l) rfl hvl HC.out H1.out (by unfold maxLen; omega) (by omega) (by simp) ?_; intro v' w4 hown4 hg4 _)
    go_ret
    rw [Nat.zero_add, List.nil_append] at hown4
    exact ⟨_, rfl, hown4, hb0.grown hg4 (by simp) (fun r hr => by cases hr; exact Nat.le_refl _)⟩
end Go.Proofs.YthkjmgjajmghmaaDoor
namespace Go.Proofs.YthkjmgjajmghmaaDoor
open Go.ChangeShapes Go.WideShapes Go.ChangeAt Go.RowKit
set_option linter.unusedVariables false

/-- The program's look at a node that has the number k. -/
def fitI (k : Int) (x : EN) : Bool := nodeOk x.1 x.2.1 x.2.2.length && kidsB x.2.2 0 (k - 1)
set_option maxHeartbeats 1600000 in
theorem implNode_any (op n : Int) (a : Option Addr) (len cap : Nat) (l : List Int) (k : Int) (w : World) (ht : Tab w) (h : Sl w a len l) (hm : len ≤ 9223372036854775807) :
    Calls Tryd.prog 52 #[.agg #[.int .i64 op, .int .i64 n, .slice a len cap], .int .i64 k] w fun e w' => e = .returned (.bool (fitI k (op, n, l))) ∧ Below w.heap.size w w' := by
  have hll := h.1
  obtain ⟨W1, hW1⟩ : ∃ W1, w.alloc (.cells #[.int .i64 op, .int .i64 n, .slice a len cap] 57) = W1 := ⟨_, rfl⟩
  have hb1 : Below w.heap.size w W1 := by rw [← hW1]; exact (Below.refl _ _).alloc (Nat.le_refl _) _
  have n0 : W1.cell? ⟨w.heap.size, 0, none⟩ = some (.int .i64 op) := by rw [← hW1]; simp [go_sem]
  have n1 : W1.cell? ⟨w.heap.size, 1, none⟩ = some (.int .i64 n) := by rw [← hW1]; simp [go_sem]
  have n2 : W1.cell? ⟨w.heap.size, 2, none⟩ = some (.slice a len cap) := by rw [← hW1]; simp [go_sem]
  have hs1 : w.heap.size < W1.heap.size := by rw [← hW1]; simp
  have HA := (show Hid _ from implArity_any op W1 (ht.keeps hb1))
  have HF := (show Hid _ from implFits_any op n W1)
  have HB := (show Hid _ from hb1)
  have HS : Hid (∀ W, Below W1.heap.size W1 W → Sl W a len l) := fun W hW => h.keep (hb1.trans (hW.mono hb1.size))
  unfold fitI nodeOk
  simp only
  rw [hll]
  clear h hb1 ht
  by_cases h0 : 0 ≤ ar op
  · have ea : arN op = ar op := by unfold arN; rw [if_pos h0]
    rw [ea, decide_eq_true h0] at HA
    rw [decide_eq_true h0, Bool.true_and]
    by_cases hl : (len : Int) = ar op
    · rw [decide_eq_true hl, Bool.true_and]
      rw [← hl] at HA
      have hne : ((len : Int) != (len : Int)) = false := by simp
      clear hl h0 ea
      cases hf : numFits op n with
      | false =>
        rw [hf] at HF
        rw [Bool.false_and]
        clear hf
        go_enter Tryd.func52, Tryd.ntmps52
        go_wp2_with fail
        (try rw [hW1])
        refine Calls.mono HA.out ?_
        rintro e w2 ⟨rfl, rfl⟩
        clear HA hW1
        go_wp2_with fail
        refine Calls.mono HF.out ?_
        rintro e w2 ⟨rfl, hb2⟩
        have HB2 : Hid (Below w.heap.size w w2) := HB.out.trans (hb2.mono HB.out.size)
        clear HF
        go_wp2
        go_ret
        exact ⟨rfl, HB2.out⟩
      | true =>
        rw [hf] at HF
        rw [Bool.true_and]
        clear hf
        go_enter Tryd.func52, Tryd.ntmps52
        go_wp2_with fail
        (try rw [hW1])
        refine Calls.mono HA.out ?_
        rintro e w2 ⟨rfl, rfl⟩
        clear HA hW1
        go_wp2_with fail
        refine Calls.mono HF.out ?_
        rintro e w2 ⟨rfl, hb2⟩
        have HB2 : Hid (Below w.heap.size w w2) := HB.out.trans (hb2.mono HB.out.size)
        have HS2 := (show Hid _ from HS.out w2 hb2)
        have q2 := (hb2.cell (p := ⟨w.heap.size, 2, none⟩) hs1).trans n2
        clear HF HS n0 n1 n2 hb2
        go_wp2_with fail
        go_loopw [36] (fun i wr => ∃ j : Nat, j ≤ len ∧ i = .int .i64 j ∧ wr = w2 ∧ Hid (kidsB (l.drop j) 0 (k - 1) = kidsB l 0 (k - 1))) (fun i _ => len - (intOf i).toNat)
        case atStart => exact ⟨0, Nat.zero_le _, rfl, rfl, rfl⟩
        case round =>
          obtain ⟨j, hj, rfl, rfl, hT⟩ := hrel
          by_cases hlt : j < len
          · obtain ⟨b, off, rfl, hc⟩ := cells_of HS2.out (by omega)
            have ck := hc j hlt
            have hst := kidsB_drop l j 0 (k - 1) (by omega)
            rw [hT.out] at hst
            clear hT hc
            generalize l.getD j 0 = x at ck hst
            by_cases e1 : x < 0
            · rw [decide_eq_false (by omega), Bool.false_and] at hst
              have HV : Hid (kidsB l 0 (k - 1) = false) := hst
              clear hst
              go_wp2
              go_ret
              exact ⟨by rw [HV.out] <;> rfl, HB2.out⟩
            · by_cases e2 : k ≤ x
              · rw [decide_eq_false (by omega), Bool.false_and] at hst
                have HV : Hid (kidsB l 0 (k - 1) = false) := hst
                clear hst
                go_wp2
                go_ret
                exact ⟨by rw [HV.out] <;> rfl, HB2.out⟩
              · rw [decide_eq_true (by omega), Bool.true_and] at hst
                have HR : Hid (kidsB (l.drop (j + 1)) 0 (k - 1) = kidsB l 0 (k - 1)) := hst.symm
                clear hst
                go_wp2
                go_roundw
                case rel => exact ⟨j + 1, by omega, by go_num, by first | trivial | rfl, HR⟩
                case measure => simp [intOf]; omega
          · obtain rfl : j = len := by omega
            have HV : Hid (kidsB l 0 (k - 1) = true) := by show _ = _; rw [← hT.out, ← hll, List.drop_of_length_le (Nat.le_refl _)]; rfl
            clear hT
            go_wp2
            go_ret
            exact ⟨by rw [HV.out] <;> rfl, HB2.out⟩
    · rw [decide_eq_false hl, Bool.false_and, Bool.false_and]
      have hne : ((len : Int) != ar op) = true := by simpa using hl
      clear hl ea HF
      generalize ar op = m at HA h0 hne
      go_enter Tryd.func52, Tryd.ntmps52
      go_wp2_with fail
      (try rw [hW1])
      refine Calls.mono HA.out ?_
      rintro e w2 ⟨rfl, rfl⟩
      clear HA hW1
      go_wp2
      go_ret
      exact ⟨rfl, HB.out⟩
  · rw [decide_eq_false h0] at HA
    rw [decide_eq_false h0, Bool.false_and, Bool.false_and, Bool.false_and]
    clear h0 HF
    generalize arN op = m at HA
    go_enter Tryd.func52, Tryd.ntmps52
    go_wp2_with fail
    (try rw [hW1])
    refine Calls.mono HA.out ?_
    rintro e w2 ⟨rfl, rfl⟩
    clear HA hW1
    go_wp2
    go_ret
    exact ⟨rfl, HB.out⟩

set_option maxHeartbeats 1600000 in
theorem implNodes_in (a b : Option Addr) (len cap cb : Nat) (p : List EN) (l : List Int) (w : World) (ht : Tab w) (h : ESl w a len p) (hl : Sl w b len l) (h120 : len ≤ 120) (hP : partB l = true) :
    Calls Tryd.prog 35 #[.slice a len cap, .slice b len cb] w fun e w' => e = .returned (.bool (eachB 0 p)) ∧ Below w.heap.size w w' := by
  have hll := h.1
  have i1 : ¬ (120 : Int) < len := by omega
  have hne : ((len : Int) != len) = false := by simp
  have HP := (show Hid _ from implParts_any b len cb l w hl (by omega))
  rw [hP] at HP
  have HT : Hid (Tab w) := ht
  clear hl hP ht
  go_enter Tryd.func35, Tryd.ntmps35
  go_wp2_with fail
  refine Calls.mono HP.out ?_
  rintro e w2 ⟨rfl, rfl⟩
  clear HP
  go_wp2_with fail
  go_loopw [24] (fun i wr => ∃ k : Nat, k ≤ len ∧ i = .int .i64 k ∧ Below w2.heap.size w2 wr ∧ Hid (eachB k (p.drop k) = eachB 0 p)) (fun i _ => len - (intOf i).toNat)
  case atStart => exact ⟨0, Nat.zero_le _, rfl, Below.refl _ _, rfl⟩
  case round =>
    obtain ⟨k, hk, rfl, hbr, hT⟩ := hrel
    by_cases hlt : k < len
    · obtain ⟨bn, on, rfl, hbl, hc⟩ := (h.keep hbr).at (by omega)
      obtain ⟨ai, li, ci, c1, c2, c3, hli, hci, hS⟩ := hc k hlt
      have hst := eachB_drop p k (by omega)
      rw [hT.out] at hst
      have hfi : fitE k (p.getD k e0) = fitI k (p.getD k e0) := rfl
      rw [hfi] at hst
      have hsz : ¬ bn = wr.heap.size := by omega
      have hkl : (k : Int) < len := by omega
      obtain ⟨x, hx⟩ : ∃ x, p.getD k e0 = x := ⟨_, rfl⟩
      obtain ⟨xo, xn, xk⟩ := x
      rw [hx] at c1 c2 hS hst
      simp only at c1 c2 hS
      obtain ⟨W1, hW1⟩ : ∃ W1, wr.alloc (.cells #[.int .i64 xo, .int .i64 xn, .slice ai li ci] 57) = W1 := ⟨_, rfl⟩
      have hb1 : Below wr.heap.size wr W1 := by rw [← hW1]; exact (Below.refl _ _).alloc (Nat.le_refl _) _
      have n0 : W1.cell? ⟨wr.heap.size, 0, none⟩ = some (.int .i64 xo) := by rw [← hW1]; simp [go_sem]
      have n1 : W1.cell? ⟨wr.heap.size, 1, none⟩ = some (.int .i64 xn) := by rw [← hW1]; simp [go_sem]
      have n2 : W1.cell? ⟨wr.heap.size, 2, none⟩ = some (.slice ai li ci) := by rw [← hW1]; simp [go_sem]
      have HN := (show Hid _ from implNode_any xo xn ai li ci xk k W1 ((HT.out.keeps hbr).keeps hb1) (hS.keep hb1) hli)
      have HF : Hid (∀ W, Below W1.heap.size W1 W → Below w2.heap.size w2 W) := fun W hW => hbr.trans ((hb1.trans (hW.mono hb1.size)).mono hbr.size)
      clear hT hc hS hx hfi hb1
      cases e1 : fitI k (xo, xn, xk) with
      | false =>
        rw [e1] at HN hst
        have HV : Hid (eachB 0 p = false) := hst
        clear hst e1
        go_wp2_with fail
        (try rw [hW1])
        refine Calls.mono HN.out ?_
        rintro e w3 ⟨rfl, hb2⟩
        clear HN hW1
        go_wp2
        go_ret
        exact ⟨by rw [HV.out] <;> rfl, HF.out _ hb2⟩
      | true =>
        rw [e1] at HN hst
        have HR : Hid (eachB (k + 1) (p.drop (k + 1)) = eachB 0 p) := hst.symm
        clear hst e1
        go_wp2_with fail
        (try rw [hW1])
        refine Calls.mono HN.out ?_
        rintro e w3 ⟨rfl, hb2⟩
        clear HN hW1
        go_wp2
        go_roundw
        case rel => exact ⟨k + 1, by omega, by go_num, HF.out _ hb2, HR⟩
        case measure => simp [intOf]; omega
    · obtain rfl : k = len := by omega
      have HV : Hid (eachB 0 p = true) := by show _ = _; rw [← hT.out, ← hll, List.drop_of_length_le (Nat.le_refl _)]; rfl
      clear hT
      go_wp2
      go_ret
      exact ⟨by rw [HV.out] <;> rfl, hbr⟩
theorem implNodes_any (a b : Option Addr) (len cap lb cb : Nat) (p : List EN) (l : List Int) (w : World) (ht : Tab w) (h : ESl w a len p) (hl : Sl w b lb l) (hm : lb ≤ 9223372036854775807) :
    Calls Tryd.prog 35 #[.slice a len cap, .slice b lb cb] w fun e w' => e = .returned (.bool (headB p l)) ∧ Below w.heap.size w w' := by
  have hll := h.1
  have hbl := hl.1
  unfold headB nodesB
  by_cases h120 : len ≤ 120
  · rw [decide_eq_true (show p.length ≤ 120 by omega), Bool.true_and]
    by_cases hlen : lb = len
    · subst hlen
      rw [decide_eq_true (show l.length = p.length by omega), Bool.and_true]
      cases hP : partB l with
      | true => rw [Bool.and_true]; exact implNodes_in a b lb cap cb p l w ht h hl h120 hP
      | false =>
        rw [Bool.and_false]
        have HP := (show Hid _ from implParts_any b lb cb l w hl (by omega))
        rw [hP] at HP
        have i1 : ¬ (120 : Int) < lb := by omega
        have hne : ((lb : Int) != lb) = false := by simp
        clear h hl hP ht
        go_enter Tryd.func35, Tryd.ntmps35
        go_wp2_with fail
        refine Calls.mono HP.out ?_
        rintro e w2 ⟨rfl, rfl⟩
        clear HP
        go_wp2
        go_ret
        exact ⟨rfl, Below.refl _ _⟩
    · rw [decide_eq_false (show ¬ l.length = p.length by omega), Bool.and_false, Bool.false_and]
      have i1 : ¬ (120 : Int) < len := by omega
      have hne : ((lb : Int) != len) = true := by simp; omega
      clear h hl ht
      go_enter Tryd.func35, Tryd.ntmps35
      go_wp2
      go_ret
      exact ⟨rfl, Below.refl _ _⟩
  · rw [decide_eq_false (show ¬ p.length ≤ 120 by omega), Bool.false_and, Bool.false_and, Bool.false_and]
    have i1 : (120 : Int) < len := by omega
    clear h hl ht
    go_enter Tryd.func35, Tryd.ntmps35
    go_wp2
    go_ret
    exact ⟨rfl, Below.refl _ _⟩
end Go.Proofs.YthkjmgjajmghmaaDoor
