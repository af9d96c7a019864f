/-
  PROVED HERE: what the program's AddNode answers, at every graph and every node, in a world whose table of arities is laid. No other condition.
-/
import Derived.Test.YtbmgflapagbkcaaDoorA6NodeP
import Derived.Test.YtbmgflapagbkcaaDoorGraphI
namespace Go.Proofs.YtbmgflapagbkcaaDoor
open Go.ChangeShapes Go.WideShapes Go.ChangeAt Go.RowKit
set_option linter.unusedVariables false

set_option maxHeartbeats 3200000 in
set_option maxRecDepth 20000 in
theorem implAddNode_any (a b : Option Addr) (len cap lb cb : Nat) (p : List EN) (l : List Int) (op n : Int) (ka : Option Addr) (kl kc : Nat) (kids : List Int) (w : World) (hT : Tab w) (h : ESl w a len p) (hl : Sl w b lb l) (hk : Sl w ka kl kids) (hka : ∀ x, (Value.slice ka kl kl).ownBlock = some x → x < w.heap.size) (hI : InE p) (hn : InI n) (hm2 : lb ≤ 9223372036854775807) (hm3 : kl ≤ 9223372036854775807) :
    Calls Tryd.prog 11 #[.agg #[.slice a len cap, .slice b lb cb], .agg #[.int .i64 op, .int .i64 n, .slice ka kl kc]] w fun e w' => ∃ va vb, e = .returned (.tuple #[.agg #[va, vb], .int .i64 (ansC (addN p l op n kids)), .bool (addN p l op n kids).isSome]) ∧ AnsI w' (fun x => w.heap.size ≤ x) va vb (ansG (addN p l op n kids)) ∧ Below w.heap.size w w' := by
  have hll := h.1
  have hkl := hk.1
  obtain ⟨W1, hW1⟩ : ∃ W1, ((w.alloc (.cells #[.slice a len cap, .slice b lb cb] 32)).alloc (.cells #[.int .i64 op, .int .i64 n, .slice ka kl kc] 36)).alloc (.cells #[.slice none 0 0, .slice none 0 0] 32) = W1 := ⟨_, rfl⟩
  have hb1 : Below w.heap.size w W1 := by rw [← hW1]; exact (((Below.refl _ _).alloc (Nat.le_refl _) _).alloc (by simp) _).alloc (by simp; omega) _
  have hs1 : W1.heap.size = w.heap.size + 3 := by rw [← hW1]; simp
  have n0 : W1.cell? ⟨w.heap.size, 0, none⟩ = some (.slice a len cap) := by rw [← hW1]; simp [go_sem]
  have n1 : W1.cell? ⟨w.heap.size, 1, none⟩ = some (.slice b lb cb) := by rw [← hW1]; simp [go_sem]
  have m0 : W1.cell? ⟨w.heap.size + 1, 0, none⟩ = some (.int .i64 op) := by rw [← hW1]; simp [go_sem]
  have m1 : W1.cell? ⟨w.heap.size + 1, 1, none⟩ = some (.int .i64 n) := by rw [← hW1]; simp [go_sem]
  have m2 : W1.cell? ⟨w.heap.size + 1, 2, none⟩ = some (.slice ka kl kc) := by rw [← hW1]; simp [go_sem]
  have r0 : W1.cell? ⟨w.heap.size + 1 + 1, 0, none⟩ = some (.slice none 0 0) := by rw [← hW1]; simp [go_sem]
  have r1 : W1.cell? ⟨w.heap.size + 1 + 1, 1, none⟩ = some (.slice none 0 0) := by rw [← hW1]; simp [go_sem]
  have f0 : W1.frozen? ⟨w.heap.size + 1 + 1, 0, none⟩ = false := by rw [← hW1]; simp [go_sem]
  have f1 : W1.frozen? ⟨w.heap.size + 1 + 1, 1, none⟩ = false := by rw [← hW1]; simp [go_sem]
  have HG := (show Hid _ from implGraph_any a b len cap lb cb p l W1 (hT.keeps hb1) (h.keep hb1) (hl.keep hb1) hm2 hI)
  have HNo : Hid (∀ W, Below W1.heap.size W1 W → Calls Tryd.prog 37 #[.agg #[.int .i64 op, .int .i64 n, .slice ka kl kc], .int .i64 (len : Int)] W fun e w' => e = .returned (.bool (nodeOk op n kids.length && kidsB kids 0 ((p.length : Int) - 1))) ∧ Below W.heap.size W w') := fun W hW => by
    have := implNode_any op n ka kl kc kids (len : Int) W ((hT.keeps hb1).keeps hW) ((hk.keep hb1).keep hW) hm3
    rw [hll]
    exact this
  have HC : Hid (∀ W, Below W1.heap.size W1 W → (W.cell? ⟨w.heap.size, 0, none⟩ = some (.slice a len cap) ∧ W.cell? ⟨w.heap.size, 1, none⟩ = some (.slice b lb cb) ∧ W.cell? ⟨w.heap.size + 1, 0, none⟩ = some (.int .i64 op) ∧ W.cell? ⟨w.heap.size + 1, 1, none⟩ = some (.int .i64 n) ∧ W.cell? ⟨w.heap.size + 1, 2, none⟩ = some (.slice ka kl kc)) ∧ (W.cell? ⟨w.heap.size + 1 + 1, 0, none⟩ = some (.slice none 0 0) ∧ W.cell? ⟨w.heap.size + 1 + 1, 1, none⟩ = some (.slice none 0 0) ∧ W.frozen? ⟨w.heap.size + 1 + 1, 0, none⟩ = false ∧ W.frozen? ⟨w.heap.size + 1 + 1, 1, none⟩ = false) ∧ ∀ v0 v1, Below w.heap.size w ((W.setCell ⟨w.heap.size + 1 + 1, 0, none⟩ v0).setCell ⟨w.heap.size + 1 + 1, 1, none⟩ v1)) := fun W hW => by
    have hX := hb1.trans (hW.mono hb1.size)
    exact ⟨⟨(hW.cell (p := ⟨w.heap.size, 0, none⟩) (by show w.heap.size < _; omega)).trans n0, (hW.cell (p := ⟨w.heap.size, 1, none⟩) (by show w.heap.size < _; omega)).trans n1, (hW.cell (p := ⟨w.heap.size + 1, 0, none⟩) (by show w.heap.size + 1 < _; omega)).trans m0, (hW.cell (p := ⟨w.heap.size + 1, 1, none⟩) (by show w.heap.size + 1 < _; omega)).trans m1, (hW.cell (p := ⟨w.heap.size + 1, 2, none⟩) (by show w.heap.size + 1 < _; omega)).trans m2⟩, ⟨(hW.cell (p := ⟨w.heap.size + 1 + 1, 0, none⟩) (by show w.heap.size + 1 + 1 < _; omega)).trans r0, (hW.cell (p := ⟨w.heap.size + 1 + 1, 1, none⟩) (by show w.heap.size + 1 + 1 < _; omega)).trans r1, (hW.frozen (p := ⟨w.heap.size + 1 + 1, 0, none⟩) (by show w.heap.size + 1 + 1 < _; omega)).trans f0, (hW.frozen (p := ⟨w.heap.size + 1 + 1, 1, none⟩) (by show w.heap.size + 1 + 1 < _; omega)).trans f1⟩, fun v0 v1 => (hX.setCell (by show w.heap.size ≤ w.heap.size + 1 + 1; omega) _).setCell (by show w.heap.size ≤ w.heap.size + 1 + 1; omega) _⟩
  cases hgb : graphB p l with
  | false =>
    have hno : addN p l op n kids = none := by unfold addN; rw [hgb]; rfl
    rw [hno]
    rw [hgb] at HG
    clear h hl hk hb1 hT HNo hs1 r0 r1 f0 f1 m0 m1 m2
    go_enter Tryd.func11, Tryd.ntmps11
    go_wp2_with fail
    (try rw [hW1])
    refine Calls.mono HG.out ?_
    rintro e w2 ⟨rfl, hb2⟩
    obtain ⟨-, ⟨y0, y1, y2, y3⟩, hfin⟩ := HC.out w2 hb2
    have HF := (show Hid _ from hfin)
    clear HG hW1 HC hb2 hfin
    go_wp2
    refine bodyPost_ret (v := .tuple #[.agg #[.slice none 0 0, .slice none 0 0], .int .i64 0, .bool false]) ?_ ?_ ?_
    · simp [results, Tryd.results11, go_sem, *]
    · rfl
    · exact ⟨_, _, rfl, .inl ⟨rfl, rfl, rfl⟩, HF.out _ _⟩
  | true =>
    rw [hgb] at HG
    cases hgt : (nodeOk op n kids.length && kidsB kids 0 ((p.length : Int) - 1)) with
    | false =>
      have hno : addN p l op n kids = none := by unfold addN; rw [hgb, hgt]; rfl
      rw [hno]
      rw [hgt] at HNo
      clear h hl hk hb1 hT hs1 r0 r1 f0 f1
      go_enter Tryd.func11, Tryd.ntmps11
      go_wp2_with fail
      (try rw [hW1])
      refine Calls.mono HG.out ?_
      rintro e w2 ⟨rfl, hb2⟩
      obtain ⟨⟨c0, c1, c2, c3, c4⟩, -, -⟩ := HC.out w2 hb2
      have HT2 := (show Hid _ from HNo.out w2 hb2)
      have HB2 := (show Hid _ from hb2)
      clear HG hW1 HNo hb2
      go_wp2_with fail
      refine Calls.mono HT2.out ?_
      rintro e w3 ⟨rfl, hb3⟩
      obtain ⟨-, ⟨y0, y1, y2, y3⟩, hfin⟩ := HC.out w3 (HB2.out.trans (hb3.mono HB2.out.size))
      have HF := (show Hid _ from hfin)
      clear HT2 HC hb3 hfin c0 c1 c2 c3 c4
      go_wp2
      refine bodyPost_ret (v := .tuple #[.agg #[.slice none 0 0, .slice none 0 0], .int .i64 0, .bool false]) ?_ ?_ ?_
      · simp [results, Tryd.results11, go_sem, *]
      · rfl
      · exact ⟨_, _, rfl, .inl ⟨rfl, rfl, rfl⟩, HF.out _ _⟩
    | true =>
      rw [hgt] at HNo
      have hgt2 := hgt
      rw [Bool.and_eq_true] at hgt2
      obtain ⟨hok, hkb⟩ := hgt2
      obtain ⟨h120, hgood⟩ := (graphB_good p l).1 hgb
      have hlp := hgood.2.1
      simp only at hlp
      have hl1 := hl.1
      obtain rfl : lb = len := by omega
      have hfit := addN_fits (l := l) hok hkb hn
      have hgd := fun r => @addN_good p l op n kids r hn
      rw [addN_cls hgb hok hkb] at hgd ⊢
      have HS : Hid (∀ W, Below W1.heap.size W1 W → Calls Tryd.prog 38 #[.agg #[.slice a lb cap, .slice b lb cb]] W fun e w' => ∃ s m, e = .returned (.pointer (some ⟨s, 0, none⟩)) ∧ Shelf w' (fun b => W.heap.size ≤ b) s m (p, l) ∧ Below W.heap.size W w') := fun W hW => shelfOf_any a b lb cap cb p l W ((h.keep hb1).keep hW) ((hl.keep hb1).keep hW) hgood (by omega) hI
      have HPu : Hid (∀ (W3 W : World) (s m : Nat), Below W1.heap.size W1 W3 → Below W3.heap.size W3 W → Shelf W (fun b => W3.heap.size ≤ b) s m (p, l) → Calls Tryd.prog 39 #[.pointer (some ⟨s, 0, none⟩), .agg #[.int .i64 op, .int .i64 n, .slice ka kl kc]] W fun e w' => e = .returned (.tuple #[.int .i64 (((clsP (p, l) (op, n, kidsL l kids)).map (fun r => r.2)).getD 0), .bool (clsP (p, l) (op, n, kidsL l kids)).isSome]) ∧ Below W3.heap.size W3 w' ∧ ∀ r, clsP (p, l) (op, n, kidsL l kids) = some r → Shelf w' (fun b => W3.heap.size ≤ b) s m r.1) := fun W3 W s m h13 h3W hSh => by
        have hB := h13.trans (h3W.mono h13.size)
        refine (putI_any s m (fun b => W3.heap.size ≤ b) (p, l) op n ka kl kc kids W hSh hgood h120 ((hk.keep hb1).keep hB) (fun x hx h => by have := hka x hx; have := h13.size; omega) hfit).mono ?_
        rintro e w' ⟨h1, h2, h3⟩
        refine ⟨h1, h3W.trans (h2.below (fun x _ h => h) h3W.size), fun r hr => (h3 r hr).sets (fun b _ hb => ?_)⟩
        rcases hb with hb | hb
        · exact hb
        · have := h3W.size; omega
      have HW1 : Hid (W1.heap.size = w.heap.size + 3) := hs1
      clear h hl hk hb1 hT hgood hgb hgt hI hlp hl1 hs1 r0 r1 f0 f1 h120 hfit hok hkb hka
      cases hO : clsP (p, l) (op, n, kidsL l kids) with
      | none =>
        rw [hO] at HPu
        simp only [Option.map_none, Option.getD_none, Option.isSome_none] at HPu
        have HTo : Hid (∀ W v, Calls Tryd.prog 40 #[v, .int .i64 0, .bool false] W fun e w' => e = .returned (.tuple #[.agg #[.slice none 0 0, .slice none 0 0], .int .i64 0, .bool false]) ∧ Below W.heap.size W w') := fun W v => told_no v 0 W
        clear hgd hO
        go_enter Tryd.func11, Tryd.ntmps11
        go_wp2_with fail
        (try rw [hW1])
        refine Calls.mono HG.out ?_
        rintro e w2 ⟨rfl, hb2⟩
        obtain ⟨⟨c0, c1, c2, c3, c4⟩, -, -⟩ := HC.out w2 hb2
        have HT2 := (show Hid _ from HNo.out w2 hb2)
        have HB2 := (show Hid _ from hb2)
        clear HG hW1 HNo hb2
        go_wp2_with fail
        refine Calls.mono HT2.out ?_
        rintro e w3 ⟨rfl, hb3⟩
        have hB3 := HB2.out.trans (hb3.mono HB2.out.size)
        obtain ⟨⟨g0, g1, -⟩, -, -⟩ := HC.out w3 hB3
        have HS3 := (show Hid _ from HS.out w3 hB3)
        have HB3 := (show Hid _ from hB3)
        clear HT2 hb3 HB2 HS hB3 c0 c1 c2 c3 c4
        go_wp2_with fail
        refine Calls.mono HS3.out ?_
        rintro e w4 ⟨s, m, rfl, hSh, hb4⟩
        have HC4 := (show Hid _ from HPu.out w3 w4 s m HB3.out hb4 hSh)
        obtain ⟨⟨-, -, d2, d3, d4⟩, -, -⟩ := HC.out w4 (HB3.out.trans (hb4.mono HB3.out.size))
        clear HS3 HPu hSh hb4 g0 g1
        go_wp2_with fail
        refine Calls.mono HC4.out ?_
        rintro e w5 ⟨rfl, hb5, -⟩
        have HB5 := (show Hid _ from HB3.out.trans (hb5.mono HB3.out.size))
        clear HC4 hb5 HB3 d2 d3 d4
        go_wp2_with fail
        refine Calls.mono (HTo.out _ _) ?_
        rintro e w6 ⟨rfl, hb6⟩
        obtain ⟨-, ⟨y0, y1, y2, y3⟩, hfin⟩ := HC.out w6 (HB5.out.trans (hb6.mono HB5.out.size))
        have HF := (show Hid _ from hfin)
        clear HTo HC hb6 hfin HB5
        go_wp2
        refine bodyPost_ret (v := .tuple #[.agg #[.slice none 0 0, .slice none 0 0], .int .i64 0, .bool false]) ?_ ?_ ?_
        · simp [results, Tryd.results11, go_sem, *]
        · rfl
        · exact ⟨_, _, rfl, .inl ⟨rfl, rfl, rfl⟩, HF.out _ _⟩
      | some r =>
        rw [hO] at HPu hgd
        simp only [Option.map_some, Option.getD_some, Option.isSome_some] at HPu
        have HD : Hid (GoodG r.1 ∧ 0 < r.1.1.length ∧ r.1.1.length ≤ 120) := hgd r rfl
        have e1 : ansC (some r) = r.2 := rfl
        have e2 : ansG (some r) = r.1 := rfl
        have e3 : (some r).isSome = true := rfl
        rw [e1, e2, e3]
        obtain ⟨rg, C⟩ := r
        simp only at HD HPu ⊢
        clear hgd hO e1 e2 e3
        go_enter Tryd.func11, Tryd.ntmps11
        go_wp2_with fail
        (try rw [hW1])
        refine Calls.mono HG.out ?_
        rintro e w2 ⟨rfl, hb2⟩
        obtain ⟨⟨c0, c1, c2, c3, c4⟩, -, -⟩ := HC.out w2 hb2
        have HT2 := (show Hid _ from HNo.out w2 hb2)
        have HB2 := (show Hid _ from hb2)
        clear HG hW1 HNo hb2
        go_wp2_with fail
        refine Calls.mono HT2.out ?_
        rintro e w3 ⟨rfl, hb3⟩
        have hB3 := HB2.out.trans (hb3.mono HB2.out.size)
        obtain ⟨⟨g0, g1, -⟩, -, -⟩ := HC.out w3 hB3
        have HS3 := (show Hid _ from HS.out w3 hB3)
        have HB3 := (show Hid _ from hB3)
        clear HT2 hb3 HB2 HS hB3 c0 c1 c2 c3 c4
        go_wp2_with fail
        refine Calls.mono HS3.out ?_
        rintro e w4 ⟨s, m, rfl, hSh, hb4⟩
        have HC4 := (show Hid _ from HPu.out w3 w4 s m HB3.out hb4 hSh)
        obtain ⟨⟨-, -, d2, d3, d4⟩, -, -⟩ := HC.out w4 (HB3.out.trans (hb4.mono HB3.out.size))
        clear HS3 HPu hSh hb4 g0 g1
        go_wp2_with fail
        refine Calls.mono HC4.out ?_
        rintro e w5 ⟨rfl, hb5, hall⟩
        have hSh5 := hall (rg, C) rfl
        simp only at hSh5
        obtain ⟨va, vb, f, k1, k2, k3, k4, k5, k6, k7, k8, k9, k10, k11, k12, k13⟩ := hSh5
        obtain ⟨a6, ca6, b6, cb6, rfl, rfl, _, _⟩ := k8.reads
        have HTo := (show Hid _ from told_yes s C a6 b6 rg.1.length ca6 rg.2.length cb6 w5 k1 k2 k12)
        have HB5 := (show Hid _ from HB3.out.trans (hb5.mono HB3.out.size))
        have hs3 := HB3.out.size
        have HFN : Hid (∀ W, Below w5.heap.size w5 W → (W.cell? ⟨w.heap.size + 1 + 1, 0, none⟩ = some (.slice none 0 0) ∧ W.cell? ⟨w.heap.size + 1 + 1, 1, none⟩ = some (.slice none 0 0) ∧ W.frozen? ⟨w.heap.size + 1 + 1, 0, none⟩ = false ∧ W.frozen? ⟨w.heap.size + 1 + 1, 1, none⟩ = false) ∧ ∀ v0 v1, AnsI ((W.setCell ⟨w.heap.size + 1 + 1, 0, none⟩ v0).setCell ⟨w.heap.size + 1 + 1, 1, none⟩ v1) (fun x => w.heap.size ≤ x) (.slice a6 rg.1.length ca6) (.slice b6 rg.2.length cb6) rg ∧ Below w.heap.size w ((W.setCell ⟨w.heap.size + 1 + 1, 0, none⟩ v0).setCell ⟨w.heap.size + 1 + 1, 1, none⟩ v1)) := fun W hW => by
          obtain ⟨-, y, z⟩ := HC.out W (HB5.out.trans (hW.mono HB5.out.size))
          refine ⟨y, fun v0 v1 => ⟨.inr ⟨(k8.keep hW).map (by rw [setCell_size, setCell_size]; exact Nat.le_refl _) (fun b' hb' hl => ?_) (fun b' hl hb' => ?_), HD.out.2.1, HD.out.2.2, HD.out.1.2.1, good_few HD.out.1⟩, z v0 v1⟩⟩
          · have hne : w.heap.size + 1 + 1 ≠ b' := by have := hb'.1; have := HW1.out; omega
            rw [setCell_block _ _ _ hne, setCell_block _ _ _ hne]
          · have := hb'.1; have := HW1.out; omega
        clear HC4 hb5 HB3 hall k1 k2 k3 k4 k5 k6 k7 k8 k9 k10 k11 k12 k13 HC HB5 hs3 d2 d3 d4
        go_wp2_with fail
        refine Calls.mono HTo.out ?_
        rintro e w6 ⟨rfl, hb6⟩
        obtain ⟨⟨y0, y1, y2, y3⟩, hfin⟩ := HFN.out w6 hb6
        have HF := (show Hid _ from hfin)
        clear HTo hb6 hfin HFN
        go_wp2
        refine bodyPost_ret (v := .tuple #[.agg #[.slice a6 rg.1.length ca6, .slice b6 rg.2.length cb6], .int .i64 C, .bool true]) ?_ ?_ ?_
        · simp [results, Tryd.results11, go_sem, *]
        · rfl
        · exact ⟨_, _, rfl, (HF.out _ _).1, (HF.out _ _).2⟩
end Go.Proofs.YtbmgflapagbkcaaDoor
