/-
  PROVED HERE: whether a term is of a class, the program's answer and the model's, at every graph, class and list of nodes. No other condition. that the laws' own comparing finds the same lists of ints to be the same, at every list of at most a million. No other condition.
-/
import Derived.Test.YtemlghfcfploaaaDoorRun27
import Derived.Test.YtemlghfcfploaaaDoorRun3
namespace Go.Proofs.YtemlghfcfploaaaDoor
open Go.ChangeShapes Go.WideShapes Go.ChangeAt Go.RowKit
set_option linter.unusedVariables false

def holdsOk (p : List EN) (l : List Int) (c : Int) (t : List (Int × Int)) : Bool := graphB p l && clB l c && goodB t
def holdsR (p : List EN) (l : List Int) (c : Int) (t : List (Int × Int)) : Bool := holdsOk p l c t && decide (findT p l t = some c)
set_option maxHeartbeats 3200000 in
set_option maxRecDepth 20000 in
theorem specHolds_any (a b : Option Addr) (len cap lb cb : Nat) (p : List EN) (l : List Int) (c : Int) (ta : Option Addr) (tl tc : Nat) (t : List (Int × Int)) (w : World) (h : ESl w a len p) (hl : Sl w b lb l) (ht : NSl w ta tl t) (hm : len ≤ 9223372036854775807) (hm2 : lb ≤ 9223372036854775807) (hm3 : tl ≤ 9223372036854775807) :
    Calls Tryd.prog 14 #[.agg #[.slice a len cap, .slice b lb cb], .int .i64 c, .slice ta tl tc] w fun e w' => e = .returned (.tuple #[.bool (holdsR p l c t), .bool (holdsOk p l c t)]) ∧ Below w.heap.size w w' := by
  have hll := h.1
  have hl1 := hl.1
  have htl := ht.1
  obtain ⟨W1, hW1⟩ : ∃ W1, w.alloc (.cells #[.slice a len cap, .slice b lb cb] 41) = W1 := ⟨_, rfl⟩
  have hb1 : Below w.heap.size w W1 := by rw [← hW1]; exact (Below.refl _ _).alloc (Nat.le_refl _) _
  have hs1 : w.heap.size < W1.heap.size := by rw [← hW1]; simp
  have n0 : W1.cell? ⟨w.heap.size, 0, none⟩ = some (.slice a len cap) := by rw [← hW1]; simp [go_sem]
  have n1 : W1.cell? ⟨w.heap.size, 1, none⟩ = some (.slice b lb cb) := by rw [← hW1]; simp [go_sem]
  have HG := (show Hid _ from specGraph_any a b len cap lb cb p l W1 (h.keep hb1) (hl.keep hb1) hm hm2)
  have HGt : Hid (∀ W, Below W1.heap.size W1 W → Calls Tryd.prog 21 #[.slice ta tl tc] W fun e w' => e = .returned (.bool (goodB t)) ∧ Below W.heap.size W w') := fun W hW => specGood_any ta tl tc t W ((ht.keep hb1).keep hW) hm3
  have HF : Hid (∀ W, Below W1.heap.size W1 W → Below w.heap.size w W ∧ W.cell? ⟨w.heap.size, 0, none⟩ = some (.slice a len cap) ∧ W.cell? ⟨w.heap.size, 1, none⟩ = some (.slice b lb cb)) := fun W hW => ⟨hb1.trans (hW.mono hb1.size), (hW.cell (p := ⟨w.heap.size, 0, none⟩) hs1).trans n0, (hW.cell (p := ⟨w.heap.size, 1, none⟩) hs1).trans n1⟩
  cases hgb : graphB p l with
  | false =>
    have hno : holdsOk p l c t = false := by unfold holdsOk; rw [hgb]; rfl
    have hni : holdsR p l c t = false := by unfold holdsR; rw [hno]; rfl
    rw [hno, hni]
    rw [hgb] at HG
    clear h hl ht hb1 HGt hno hni
    go_enter Tryd.func14, Tryd.ntmps14
    go_wp2_with fail
    (try rw [hW1])
    refine Calls.mono HG.out ?_
    rintro e w2 ⟨rfl, hb2⟩
    have HB := (show Hid _ from (HF.out w2 hb2).1)
    clear HG hW1 HF hb2
    go_wp2
    go_ret2
    exact ⟨rfl, HB.out⟩
  | true =>
    rw [hgb] at HG
    obtain ⟨h120, hgood⟩ := (graphB_good p l).1 hgb
    have hlp := hgood.2.1
    simp only at hlp
    obtain rfl : lb = len := by omega
    have HK : Hid (∀ W, Below W1.heap.size W1 W → Calls Tryd.prog 29 #[.agg #[.slice a lb cap, .slice b lb cb], .int .i64 c] W fun e w' => e = .returned (.bool (clB l c)) ∧ Below W.heap.size W w') := fun W hW => specClass_any a b lb cap cb l c W ((hl.keep hb1).keep hW) (by omega)
    cases hkb : clB l c with
    | false =>
      have hno : holdsOk p l c t = false := by unfold holdsOk; rw [hgb, hkb]; rfl
      have hni : holdsR p l c t = false := by unfold holdsR; rw [hno]; rfl
      rw [hno, hni]
      rw [hkb] at HK
      clear h hl ht hb1 HGt hno hni hgood hgb hlp hl1
      go_enter Tryd.func14, Tryd.ntmps14
      go_wp2_with fail
      (try rw [hW1])
      refine Calls.mono HG.out ?_
      rintro e w2 ⟨rfl, hb2⟩
      obtain ⟨-, g0, g1⟩ := HF.out w2 hb2
      have HK2 := (show Hid _ from HK.out w2 hb2)
      have HB2 := (show Hid _ from hb2)
      clear HG hW1 HK hb2
      go_wp2_with fail
      refine Calls.mono HK2.out ?_
      rintro e w3 ⟨rfl, hb3⟩
      have HB := (show Hid _ from (HF.out w3 (HB2.out.trans (hb3.mono HB2.out.size))).1)
      clear HK2 HF hb3 HB2 g0 g1
      go_wp2
      go_ret2
      exact ⟨rfl, HB.out⟩
    | true =>
      rw [hkb] at HK
      cases hgt : goodB t with
      | false =>
        have hno : holdsOk p l c t = false := by unfold holdsOk; rw [hgb, hkb, hgt]; rfl
        have hni : holdsR p l c t = false := by unfold holdsR; rw [hno]; rfl
        rw [hno, hni]
        rw [hgt] at HGt
        clear h hl ht hb1 hno hni hgood hgb hgt hkb hlp hl1
        go_enter Tryd.func14, Tryd.ntmps14
        go_wp2_with fail
        (try rw [hW1])
        refine Calls.mono HG.out ?_
        rintro e w2 ⟨rfl, hb2⟩
        obtain ⟨-, g0, g1⟩ := HF.out w2 hb2
        have HK2 := (show Hid _ from HK.out w2 hb2)
        have HB2 := (show Hid _ from hb2)
        clear HG hW1 HK hb2
        go_wp2_with fail
        refine Calls.mono HK2.out ?_
        rintro e w3 ⟨rfl, hb3⟩
        have hB3 := HB2.out.trans (hb3.mono HB2.out.size)
        have HT3 := (show Hid _ from HGt.out w3 hB3)
        have HB3 := (show Hid _ from hB3)
        clear HK2 hb3 HB2 HGt hB3 g0 g1
        go_wp2_with fail
        refine Calls.mono HT3.out ?_
        rintro e w4 ⟨rfl, hb4⟩
        have HB := (show Hid _ from (HF.out w4 (HB3.out.trans (hb4.mono HB3.out.size))).1)
        clear HT3 HF hb4 HB3
        go_wp2
        go_ret2
        exact ⟨rfl, HB.out⟩
      | true =>
        rw [hgt] at HGt
        have hyes : holdsOk p l c t = true := by unfold holdsOk; rw [hgb, hkb, hgt]; rfl
        have hism : holdsR p l c t = decide (findT p l t = some c) := by unfold holdsR; rw [hyes, Bool.true_and]
        rw [hism, hyes]
        have HT : Hid (∀ W, Below W1.heap.size W1 W → Calls Tryd.prog 30 #[.agg #[.slice a lb cap, .slice b lb cb], .slice ta tl tc] W fun e w' => e = .returned (.tuple #[.int .i64 ((findT p l t).getD 0), .bool (findT p l t).isSome]) ∧ Below W.heap.size W w') := fun W hW => specFindTerm_any a b lb cap lb cb p l ta tl tc t W ((h.keep hb1).keep hW) ((hl.keep hb1).keep hW) ((ht.keep hb1).keep hW) (by omega) (by omega) hm3
        clear h hl ht hb1 hgood hgb hgt hkb hlp hl1 h120 hism hyes
        generalize findT p l t = O at HT ⊢
        cases O with
        | none =>
          rw [show decide ((none : Option Int) = some c) = false from rfl]
          have HT' : Hid (∀ W, Below W1.heap.size W1 W → Calls Tryd.prog 30 #[.agg #[.slice a lb cap, .slice b lb cb], .slice ta tl tc] W fun e w' => e = .returned (.tuple #[.int .i64 0, .bool false]) ∧ Below W.heap.size W w') := HT.out
          clear HT
          go_enter Tryd.func14, Tryd.ntmps14
          go_wp2_with fail
          (try rw [hW1])
          refine Calls.mono HG.out ?_
          rintro e w2 ⟨rfl, hb2⟩
          obtain ⟨-, g0, g1⟩ := HF.out w2 hb2
          have HK2 := (show Hid _ from HK.out w2 hb2)
          have HB2 := (show Hid _ from hb2)
          clear HG hW1 HK hb2
          go_wp2_with fail
          refine Calls.mono HK2.out ?_
          rintro e w3 ⟨rfl, hb3⟩
          have hB3 := HB2.out.trans (hb3.mono HB2.out.size)
          have HT3 := (show Hid _ from HGt.out w3 hB3)
          have HB3 := (show Hid _ from hB3)
          clear HK2 hb3 HB2 HGt hB3 g0 g1
          go_wp2_with fail
          refine Calls.mono HT3.out ?_
          rintro e w4 ⟨rfl, hb4⟩
          have hB4 := HB3.out.trans (hb4.mono HB3.out.size)
          obtain ⟨-, g0, g1⟩ := HF.out w4 hB4
          have HK4 := (show Hid _ from HT'.out w4 hB4)
          have HB4 := (show Hid _ from hB4)
          clear HT3 hb4 HB3 HT' hB4
          go_wp2_with fail
          refine Calls.mono HK4.out ?_
          rintro e w5 ⟨rfl, hb5⟩
          have HB := (show Hid _ from (HF.out w5 (HB4.out.trans (hb5.mono HB4.out.size))).1)
          clear HK4 HF hb5 HB4 g0 g1
          go_wp2
          go_ret2
          exact ⟨rfl, HB.out⟩
        | some v =>
          have HT' : Hid (∀ W, Below W1.heap.size W1 W → Calls Tryd.prog 30 #[.agg #[.slice a lb cap, .slice b lb cb], .slice ta tl tc] W fun e w' => e = .returned (.tuple #[.int .i64 v, .bool true]) ∧ Below W.heap.size W w') := HT.out
          have hvc : decide (some v = some c) = (v == c) := by
            by_cases e : v = c
            · subst e; simp
            · simp [e]
          rw [hvc]
          clear HT hvc
          go_enter Tryd.func14, Tryd.ntmps14
          go_wp2_with fail
          (try rw [hW1])
          refine Calls.mono HG.out ?_
          rintro e w2 ⟨rfl, hb2⟩
          obtain ⟨-, g0, g1⟩ := HF.out w2 hb2
          have HK2 := (show Hid _ from HK.out w2 hb2)
          have HB2 := (show Hid _ from hb2)
          clear HG hW1 HK hb2
          go_wp2_with fail
          refine Calls.mono HK2.out ?_
          rintro e w3 ⟨rfl, hb3⟩
          have hB3 := HB2.out.trans (hb3.mono HB2.out.size)
          have HT3 := (show Hid _ from HGt.out w3 hB3)
          have HB3 := (show Hid _ from hB3)
          clear HK2 hb3 HB2 HGt hB3 g0 g1
          go_wp2_with fail
          refine Calls.mono HT3.out ?_
          rintro e w4 ⟨rfl, hb4⟩
          have hB4 := HB3.out.trans (hb4.mono HB3.out.size)
          obtain ⟨-, g0, g1⟩ := HF.out w4 hB4
          have HK4 := (show Hid _ from HT'.out w4 hB4)
          have HB4 := (show Hid _ from hB4)
          clear HT3 hb4 HB3 HT' hB4
          go_wp2_with fail
          refine Calls.mono HK4.out ?_
          rintro e w5 ⟨rfl, hb5⟩
          have HB := (show Hid _ from (HF.out w5 (HB4.out.trans (hb5.mono HB4.out.size))).1)
          clear HK4 HF hb5 HB4 g0 g1
          go_wp2
          go_ret2
          exact ⟨rfl, HB.out⟩
set_option maxHeartbeats 3200000 in
set_option maxRecDepth 20000 in
theorem implHolds_any (a b : Option Addr) (len cap lb cb : Nat) (p : List EN) (l : List Int) (c : Int) (ta : Option Addr) (tl tc : Nat) (t : List (Int × Int)) (w : World) (hT : Tab w) (h : ESl w a len p) (hl : Sl w b lb l) (ht : NSl w ta tl t) (hI : InE p) (hIt : ∀ k, k < t.length → InI (t.getD k (0, 0)).2) (hm : len ≤ 9223372036854775807) (hm2 : lb ≤ 9223372036854775807) (hm3 : tl ≤ 9223372036854775807) :
    Calls Tryd.prog 16 #[.agg #[.slice a len cap, .slice b lb cb], .int .i64 c, .slice ta tl tc] w fun e w' => e = .returned (.tuple #[.bool (holdsR p l c t), .bool (holdsOk p l c t)]) ∧ Below w.heap.size w w' := by
  have hll := h.1
  have hl1 := hl.1
  have htl := ht.1
  obtain ⟨W1, hW1⟩ : ∃ W1, w.alloc (.cells #[.slice a len cap, .slice b lb cb] 41) = W1 := ⟨_, rfl⟩
  have hb1 : Below w.heap.size w W1 := by rw [← hW1]; exact (Below.refl _ _).alloc (Nat.le_refl _) _
  have hs1 : w.heap.size < W1.heap.size := by rw [← hW1]; simp
  have n0 : W1.cell? ⟨w.heap.size, 0, none⟩ = some (.slice a len cap) := by rw [← hW1]; simp [go_sem]
  have n1 : W1.cell? ⟨w.heap.size, 1, none⟩ = some (.slice b lb cb) := by rw [← hW1]; simp [go_sem]
  have HG := (show Hid _ from implGraph_any a b len cap lb cb p l W1 (hT.keeps hb1) (h.keep hb1) (hl.keep hb1) hm2 hI)
  have HGt : Hid (∀ W, Below W1.heap.size W1 W → Calls Tryd.prog 24 #[.slice ta tl tc] W fun e w' => e = .returned (.bool (goodB t)) ∧ Below W.heap.size W w') := fun W hW => implGood_any ta tl tc t W ((hT.keeps hb1).keeps hW) ((ht.keep hb1).keep hW) hm3
  have HF : Hid (∀ W, Below W1.heap.size W1 W → Below w.heap.size w W ∧ W.cell? ⟨w.heap.size, 0, none⟩ = some (.slice a len cap) ∧ W.cell? ⟨w.heap.size, 1, none⟩ = some (.slice b lb cb)) := fun W hW => ⟨hb1.trans (hW.mono hb1.size), (hW.cell (p := ⟨w.heap.size, 0, none⟩) hs1).trans n0, (hW.cell (p := ⟨w.heap.size, 1, none⟩) hs1).trans n1⟩
  cases hgb : graphB p l with
  | false =>
    have hno : holdsOk p l c t = false := by unfold holdsOk; rw [hgb]; rfl
    have hni : holdsR p l c t = false := by unfold holdsR; rw [hno]; rfl
    rw [hno, hni]
    rw [hgb] at HG
    clear h hl ht hb1 HGt hno hni hT
    go_enter Tryd.func16, Tryd.ntmps16
    go_wp2_with fail
    (try rw [hW1])
    refine Calls.mono HG.out ?_
    rintro e w2 ⟨rfl, hb2⟩
    have HB := (show Hid _ from (HF.out w2 hb2).1)
    clear HG hW1 HF hb2
    go_wp2
    go_ret2
    exact ⟨rfl, HB.out⟩
  | true =>
    rw [hgb] at HG
    obtain ⟨h120, hgood⟩ := (graphB_good p l).1 hgb
    have hlp := hgood.2.1
    simp only at hlp
    obtain rfl : lb = len := by omega
    have HK : Hid (∀ W, Below W1.heap.size W1 W → Calls Tryd.prog 34 #[.agg #[.slice a lb cap, .slice b lb cb], .int .i64 c] W fun e w' => e = .returned (.bool (clB l c)) ∧ Below W.heap.size W w') := fun W hW => implClass_any a b lb cap cb l c W ((hl.keep hb1).keep hW) (by omega)
    cases hkb : clB l c with
    | false =>
      have hno : holdsOk p l c t = false := by unfold holdsOk; rw [hgb, hkb]; rfl
      have hni : holdsR p l c t = false := by unfold holdsR; rw [hno]; rfl
      rw [hno, hni]
      rw [hkb] at HK
      clear h hl ht hb1 HGt hno hni hgood hgb hlp hl1 hT hI hIt
      go_enter Tryd.func16, Tryd.ntmps16
      go_wp2_with fail
      (try rw [hW1])
      refine Calls.mono HG.out ?_
      rintro e w2 ⟨rfl, hb2⟩
      obtain ⟨-, g0, g1⟩ := HF.out w2 hb2
      have HK2 := (show Hid _ from HK.out w2 hb2)
      have HB2 := (show Hid _ from hb2)
      clear HG hW1 HK hb2
      go_wp2_with fail
      refine Calls.mono HK2.out ?_
      rintro e w3 ⟨rfl, hb3⟩
      have HB := (show Hid _ from (HF.out w3 (HB2.out.trans (hb3.mono HB2.out.size))).1)
      clear HK2 HF hb3 HB2 g0 g1
      go_wp2
      go_ret2
      exact ⟨rfl, HB.out⟩
    | true =>
      rw [hkb] at HK
      cases hgt : goodB t with
      | false =>
        have hno : holdsOk p l c t = false := by unfold holdsOk; rw [hgb, hkb, hgt]; rfl
        have hni : holdsR p l c t = false := by unfold holdsR; rw [hno]; rfl
        rw [hno, hni]
        rw [hgt] at HGt
        clear h hl ht hb1 hno hni hgood hgb hgt hkb hlp hl1 hT hI hIt
        go_enter Tryd.func16, Tryd.ntmps16
        go_wp2_with fail
        (try rw [hW1])
        refine Calls.mono HG.out ?_
        rintro e w2 ⟨rfl, hb2⟩
        obtain ⟨-, g0, g1⟩ := HF.out w2 hb2
        have HK2 := (show Hid _ from HK.out w2 hb2)
        have HB2 := (show Hid _ from hb2)
        clear HG hW1 HK hb2
        go_wp2_with fail
        refine Calls.mono HK2.out ?_
        rintro e w3 ⟨rfl, hb3⟩
        have hB3 := HB2.out.trans (hb3.mono HB2.out.size)
        have HT3 := (show Hid _ from HGt.out w3 hB3)
        have HB3 := (show Hid _ from hB3)
        clear HK2 hb3 HB2 HGt hB3 g0 g1
        go_wp2_with fail
        refine Calls.mono HT3.out ?_
        rintro e w4 ⟨rfl, hb4⟩
        have HB := (show Hid _ from (HF.out w4 (HB3.out.trans (hb4.mono HB3.out.size))).1)
        clear HT3 HF hb4 HB3
        go_wp2
        go_ret2
        exact ⟨rfl, HB.out⟩
      | true =>
        rw [hgt] at HGt
        have hyes : holdsOk p l c t = true := by unfold holdsOk; rw [hgb, hkb, hgt]; rfl
        have hism : holdsR p l c t = decide (findT p l t = some c) := by unfold holdsR; rw [hyes, Bool.true_and]
        rw [hism, hyes]
        have HT : Hid (∀ W, Below W1.heap.size W1 W → Calls Tryd.prog 35 #[.agg #[.slice a lb cap, .slice b lb cb], .slice ta tl tc] W fun e w' => e = .returned (.tuple #[.int .i64 ((findT p l t).getD 0), .bool (findT p l t).isSome]) ∧ Below W.heap.size W w') := fun W hW => implFindTerm_any a b lb cap lb cb p l ta tl tc t W ((hT.keeps hb1).keeps hW) ((h.keep hb1).keep hW) ((hl.keep hb1).keep hW) ((ht.keep hb1).keep hW) hI hIt (by omega) hm3
        clear h hl ht hb1 hgood hgb hgt hkb hlp hl1 h120 hism hyes hT hI hIt
        generalize findT p l t = O at HT ⊢
        cases O with
        | none =>
          rw [show decide ((none : Option Int) = some c) = false from rfl]
          have HT' : Hid (∀ W, Below W1.heap.size W1 W → Calls Tryd.prog 35 #[.agg #[.slice a lb cap, .slice b lb cb], .slice ta tl tc] W fun e w' => e = .returned (.tuple #[.int .i64 0, .bool false]) ∧ Below W.heap.size W w') := HT.out
          clear HT
          go_enter Tryd.func16, Tryd.ntmps16
          go_wp2_with fail
          (try rw [hW1])
          refine Calls.mono HG.out ?_
          rintro e w2 ⟨rfl, hb2⟩
          obtain ⟨-, g0, g1⟩ := HF.out w2 hb2
          have HK2 := (show Hid _ from HK.out w2 hb2)
          have HB2 := (show Hid _ from hb2)
          clear HG hW1 HK hb2
          go_wp2_with fail
          refine Calls.mono HK2.out ?_
          rintro e w3 ⟨rfl, hb3⟩
          have hB3 := HB2.out.trans (hb3.mono HB2.out.size)
          have HT3 := (show Hid _ from HGt.out w3 hB3)
          have HB3 := (show Hid _ from hB3)
          clear HK2 hb3 HB2 HGt hB3 g0 g1
          go_wp2_with fail
          refine Calls.mono HT3.out ?_
          rintro e w4 ⟨rfl, hb4⟩
          have hB4 := HB3.out.trans (hb4.mono HB3.out.size)
          obtain ⟨-, g0, g1⟩ := HF.out w4 hB4
          have HK4 := (show Hid _ from HT'.out w4 hB4)
          have HB4 := (show Hid _ from hB4)
          clear HT3 hb4 HB3 HT' hB4
          go_wp2_with fail
          refine Calls.mono HK4.out ?_
          rintro e w5 ⟨rfl, hb5⟩
          have HB := (show Hid _ from (HF.out w5 (HB4.out.trans (hb5.mono HB4.out.size))).1)
          clear HK4 HF hb5 HB4 g0 g1
          go_wp2
          go_ret2
          exact ⟨rfl, HB.out⟩
        | some v =>
          have HT' : Hid (∀ W, Below W1.heap.size W1 W → Calls Tryd.prog 35 #[.agg #[.slice a lb cap, .slice b lb cb], .slice ta tl tc] W fun e w' => e = .returned (.tuple #[.int .i64 v, .bool true]) ∧ Below W.heap.size W w') := HT.out
          have hvc : decide (some v = some c) = (v == c) := by
            by_cases e : v = c
            · subst e; simp
            · simp [e]
          rw [hvc]
          clear HT hvc
          go_enter Tryd.func16, Tryd.ntmps16
          go_wp2_with fail
          (try rw [hW1])
          refine Calls.mono HG.out ?_
          rintro e w2 ⟨rfl, hb2⟩
          obtain ⟨-, g0, g1⟩ := HF.out w2 hb2
          have HK2 := (show Hid _ from HK.out w2 hb2)
          have HB2 := (show Hid _ from hb2)
          clear HG hW1 HK hb2
          go_wp2_with fail
          refine Calls.mono HK2.out ?_
          rintro e w3 ⟨rfl, hb3⟩
          have hB3 := HB2.out.trans (hb3.mono HB2.out.size)
          have HT3 := (show Hid _ from HGt.out w3 hB3)
          have HB3 := (show Hid _ from hB3)
          clear HK2 hb3 HB2 HGt hB3 g0 g1
          go_wp2_with fail
          refine Calls.mono HT3.out ?_
          rintro e w4 ⟨rfl, hb4⟩
          have hB4 := HB3.out.trans (hb4.mono HB3.out.size)
          obtain ⟨-, g0, g1⟩ := HF.out w4 hB4
          have HK4 := (show Hid _ from HT'.out w4 hB4)
          have HB4 := (show Hid _ from hB4)
          clear HT3 hb4 HB3 HT' hB4
          go_wp2_with fail
          refine Calls.mono HK4.out ?_
          rintro e w5 ⟨rfl, hb5⟩
          have HB := (show Hid _ from (HF.out w5 (HB4.out.trans (hb5.mono HB4.out.size))).1)
          clear HK4 HF hb5 HB4 g0 g1
          go_wp2
          go_ret2
          exact ⟨rfl, HB.out⟩
end Go.Proofs.YtemlghfcfploaaaDoor
namespace Go.Proofs.YtemlghfcfploaaaDoor
open Go.ChangeShapes Go.WideShapes Go.ChangeAt Go.RowKit
set_option linter.unusedVariables false

theorem eqI_same (a b : Option Addr) (len cap cap' : Nat) (l : List Int) (w : World) (h : Sl w a len l) (h' : Sl w b len l) (hn : len ≤ 1048576) :
    Calls Tryd.prog 37 #[.slice a len cap, .slice b len cap'] w fun e w' => e = .returned (.bool true) ∧ Below w.heap.size w w' := by
  obtain ⟨hlen, hsl⟩ := h
  obtain ⟨_, hsl'⟩ := h'
  have hne : ((len : Int) != len) = false := by simp
  go_enter Tryd.func37, Tryd.ntmps37
  go_wp2
  go_loopw [5] (fun i wr => ∃ (k : Nat), k ≤ len ∧ i = .int .i64 k ∧ Below w.heap.size w wr) (fun i _ => len - (intOf i).toNat)
  case atStart => exact ⟨0, Nat.zero_le _, rfl, Below.refl _ _⟩
  case round =>
    obtain ⟨k, hk, rfl, hbr⟩ := hrel
    by_cases hlt : k < len
    · obtain ⟨b1, off, rfl, hbl, hc⟩ : ∃ b off, a = some ⟨b, off, none⟩ ∧ b < w.heap.size ∧ ∀ i, i < len → w.cell? ⟨b, off + i, none⟩ = some (.int .i64 (l.getD i 0)) := by
        rcases hsl with h0 | h0
        · omega
        · exact h0
      obtain ⟨b2, off', rfl, hbl', hc'⟩ : ∃ b' off, b = some ⟨b', off, none⟩ ∧ b' < w.heap.size ∧ ∀ i, i < len → w.cell? ⟨b', off + i, none⟩ = some (.int .i64 (l.getD i 0)) := by
        rcases hsl' with h0 | h0
        · omega
        · exact h0
      have hck : wr.cell? ⟨b1, off + k, none⟩ = some (.int .i64 (l.getD k 0)) := (hbr.cell (p := ⟨b1, off + k, none⟩) hbl).trans (hc k hlt)
      have hck' : wr.cell? ⟨b2, off' + k, none⟩ = some (.int .i64 (l.getD k 0)) := (hbr.cell (p := ⟨b2, off' + k, none⟩) hbl').trans (hc' k hlt)
      clear hc hc' hsl hsl'
      generalize l.getD k 0 = z at hck hck'
      have hlt' : (k : Int) < len := by omega
      go_wp2
      go_quiet (fail)
      go_wp2
      go_roundw
      case rel => exact ⟨k + 1, by omega, by go_num, Go.below_drewN hbr _⟩
      case measure => simp [intOf]; omega
    · go_wp2
      go_ret
      exact ⟨rfl, hbr⟩
end Go.Proofs.YtemlghfcfploaaaDoor
