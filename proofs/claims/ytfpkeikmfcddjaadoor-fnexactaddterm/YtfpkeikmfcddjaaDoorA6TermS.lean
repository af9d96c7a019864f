/-
  PROVED HERE: what the model's AddTerm and FindTerm answer, at every graph and every list of nodes. No other condition.
-/
import Derived.Test.YtfpkeikmfcddjaaDoorA6AddS
import Derived.Test.YtfpkeikmfcddjaaDoorE6Graph
import Derived.Test.YtfpkeikmfcddjaaDoorGood
namespace Go.Proofs.YtfpkeikmfcddjaaDoor
open Go.ChangeShapes Go.WideShapes Go.ChangeAt Go.RowKit
set_option linter.unusedVariables false

/-- What comes of a graph that was put into, where it has room. -/
def roomA (r : GS × List Int) : Option (GS × Int) := if r.1.1.length ≤ 120 then some (r.1, r.2.getD 0 0) else none
def addT (p : List EN) (l : List Int) (t : List (Int × Int)) : Option (GS × Int) := if graphB p l && goodB t then roomA (runA none t ((p, l), [])) else none
def ansG (o : Option (GS × Int)) : GS := (o.map (fun r => r.1)).getD ([], [])
def ansC (o : Option (GS × Int)) : Int := (o.map (fun r => r.2)).getD 0
theorem gown_nil (w : World) (s : Bool) (S : Nat → Prop) : GOwn w s S (.slice none 0 0) (.slice none 0 0) ([], []) :=
  ⟨[], fun _ => undef, World.ownsRow_nil _ _ _ _, World.ownsRow_nil _ _ _ _, (fun x hx => by cases hx), (fun x hx => by cases hx), fun i hi => absurd hi (Nat.not_lt_zero _)⟩
theorem good_few {g : GS} (hg : GoodG g) : ∀ i, i < g.1.length → (g.1.getD i e0).2.2.length ≤ 3 := fun i hi => fit_few (hg.1 i hi)
theorem bok_none (g : GS) (t : List (Int × Int)) : BOk none g t := fun bs h => by cases h
set_option maxHeartbeats 3200000 in
set_option maxRecDepth 20000 in
theorem specAddTerm_any (a b : Option Addr) (len cap lb cb : Nat) (p : List EN) (l : List Int) (ta : Option Addr) (tl tc : Nat) (t : List (Int × Int)) (w : World) (h : ESl w a len p) (hl : Sl w b lb l) (ht : NSl w ta tl t) (hm : len ≤ 9223372036854775807) (hm2 : lb ≤ 9223372036854775807) (hm3 : tl ≤ 9223372036854775807) :
    Calls Tryd.prog 21 #[.agg #[.slice a len cap, .slice b lb cb], .slice ta tl tc] w fun e w' => ∃ va vb, e = .returned (.tuple #[.agg #[va, vb], .int .i64 (ansC (addT p l t)), .bool (addT p l t).isSome]) ∧ GOwn w' false (fun x => w.heap.size ≤ x) va vb (ansG (addT p l t)) ∧ Below w.heap.size w w' := by
  have hll := h.1
  have hl1 := hl.1
  have htl := ht.1
  obtain ⟨W1, hW1⟩ : ∃ W1, (w.alloc (.cells #[.slice a len cap, .slice b lb cb] 32)).alloc (.cells #[.slice none 0 0, .slice none 0 0] 32) = W1 := ⟨_, rfl⟩
  have hb1 : Below w.heap.size w W1 := by rw [← hW1]; exact ((Below.refl _ _).alloc (Nat.le_refl _) _).alloc (by simp) _
  have hs1 : W1.heap.size = w.heap.size + 2 := by rw [← hW1]; simp
  have n0 : W1.cell? ⟨w.heap.size, 0, none⟩ = some (.slice a len cap) := by rw [← hW1]; simp [go_sem]
  have n1 : W1.cell? ⟨w.heap.size, 1, none⟩ = some (.slice b lb cb) := by rw [← hW1]; simp [go_sem]
  have r0 : W1.cell? ⟨w.heap.size + 1, 0, none⟩ = some (.slice none 0 0) := by rw [← hW1]; simp [go_sem]
  have r1 : W1.cell? ⟨w.heap.size + 1, 1, none⟩ = some (.slice none 0 0) := by rw [← hW1]; simp [go_sem]
  have f0 : W1.frozen? ⟨w.heap.size + 1, 0, none⟩ = false := by rw [← hW1]; simp [go_sem]
  have f1 : W1.frozen? ⟨w.heap.size + 1, 1, none⟩ = false := by rw [← hW1]; simp [go_sem]
  have HG := (show Hid _ from specGraph_any a b len cap lb cb p l W1 (h.keep hb1) (hl.keep hb1) hm hm2)
  have HT : Hid (∀ W, Below W1.heap.size W1 W → Calls Tryd.prog 55 #[.slice ta tl tc] W fun e w' => e = .returned (.bool (goodB t)) ∧ Below W.heap.size W w') := fun W hW => specGood_any ta tl tc t W ((ht.keep hb1).keep hW) hm3
  have HC : Hid (∀ W, Below W1.heap.size W1 W → (W.cell? ⟨w.heap.size, 0, none⟩ = some (.slice a len cap) ∧ W.cell? ⟨w.heap.size, 1, none⟩ = some (.slice b lb cb)) ∧ (W.cell? ⟨w.heap.size + 1, 0, none⟩ = some (.slice none 0 0) ∧ W.cell? ⟨w.heap.size + 1, 1, none⟩ = some (.slice none 0 0) ∧ W.frozen? ⟨w.heap.size + 1, 0, none⟩ = false ∧ W.frozen? ⟨w.heap.size + 1, 1, none⟩ = false) ∧ ∀ v0 v1, Below w.heap.size w ((W.setCell ⟨w.heap.size + 1, 0, none⟩ v0).setCell ⟨w.heap.size + 1, 1, none⟩ v1)) := fun W hW => by
    have hX := hb1.trans (hW.mono hb1.size)
    exact ⟨⟨(hW.cell (p := ⟨w.heap.size, 0, none⟩) (by show w.heap.size < _; omega)).trans n0, (hW.cell (p := ⟨w.heap.size, 1, none⟩) (by show w.heap.size < _; omega)).trans n1⟩, ⟨(hW.cell (p := ⟨w.heap.size + 1, 0, none⟩) (by show w.heap.size + 1 < _; omega)).trans r0, (hW.cell (p := ⟨w.heap.size + 1, 1, none⟩) (by show w.heap.size + 1 < _; omega)).trans r1, (hW.frozen (p := ⟨w.heap.size + 1, 0, none⟩) (by show w.heap.size + 1 < _; omega)).trans f0, (hW.frozen (p := ⟨w.heap.size + 1, 1, none⟩) (by show w.heap.size + 1 < _; omega)).trans f1⟩, fun v0 v1 => (hX.setCell (by show w.heap.size ≤ w.heap.size + 1; omega) _).setCell (by show w.heap.size ≤ w.heap.size + 1; omega) _⟩
  unfold addT
  cases hgb : graphB p l with
  | false =>
    rw [hgb] at HG
    rw [Bool.false_and, if_neg (by decide)]
    clear h hl ht hb1 hs1 r0 r1 f0 f1 HT
    go_enter Tryd.func21, Tryd.ntmps21
    go_wp2_with fail
    (try rw [hW1])
    refine Calls.mono HG.out ?_
    rintro e w2 ⟨rfl, hb2⟩
    obtain ⟨-, ⟨y0, y1, y2, y3⟩, hfin⟩ := HC.out w2 hb2
    have HF := (show Hid _ from hfin)
    clear HG hW1 HC hb2 hfin
    go_wp2
    refine bodyPost_ret (v := .tuple #[.agg #[.slice none 0 0, .slice none 0 0], .int .i64 0, .bool false]) ?_ ?_ ?_
    · simp [results, Tryd.results21, go_sem, *]
    · rfl
    · exact ⟨_, _, rfl, gown_nil _ _ _, HF.out _ _⟩
  | true =>
    rw [hgb] at HG
    rw [Bool.true_and]
    cases hgt : goodB t with
    | false =>
      rw [hgt] at HT
      rw [if_neg (by decide)]
      clear h hl ht hb1 hs1 r0 r1 f0 f1
      go_enter Tryd.func21, Tryd.ntmps21
      go_wp2_with fail
      (try rw [hW1])
      refine Calls.mono HG.out ?_
      rintro e w2 ⟨rfl, hb2⟩
      have HT2 := (show Hid _ from HT.out w2 hb2)
      have HB2 := (show Hid _ from hb2)
      clear HG hW1 HT hb2
      go_wp2_with fail
      refine Calls.mono HT2.out ?_
      rintro e w3 ⟨rfl, hb3⟩
      obtain ⟨-, ⟨y0, y1, y2, y3⟩, hfin⟩ := HC.out w3 (HB2.out.trans (hb3.mono HB2.out.size))
      have HF := (show Hid _ from hfin)
      clear HT2 HC hb3 hfin
      go_wp2
      refine bodyPost_ret (v := .tuple #[.agg #[.slice none 0 0, .slice none 0 0], .int .i64 0, .bool false]) ?_ ?_ ?_
      · simp [results, Tryd.results21, go_sem, *]
      · rfl
      · exact ⟨_, _, rfl, gown_nil _ _ _, HF.out _ _⟩
    | true =>
      rw [hgt] at HT
      rw [if_pos rfl]
      obtain ⟨h120, hgood⟩ := (graphB_good p l).1 hgb
      obtain ⟨hp, ht1, ht40⟩ := good_pile hgt
      have hlp := hgood.2.1
      simp only at hlp
      obtain ⟨tb, to, rfl, htb, _⟩ := ht.at (by omega)
      have hroot := treeA_root hgt none (p, l)
      have hst := start_root hp ht1
      have hr := runA_good (b := none) t (p, l) [] 1 hp hgood (fun c hc => by cases hc) (bok_none _ _)
      have hrl := runA_len none t ((p, l), [])
      obtain ⟨R, hR⟩ : ∃ R, runA none t ((p, l), []) = R := ⟨_, rfl⟩
      rw [hR] at hroot hr hrl ⊢
      have hgr := graphB_of hr.1
      simp only at hrl
      have HO : Hid (∀ W, Below W1.heap.size W1 W → Calls Tryd.prog 47 #[.agg #[.slice a len cap, .slice b lb cb]] W fun e w' => ∃ va vb, e = .returned (.agg #[va, vb]) ∧ GOwn w' false (fun x => W.heap.size ≤ x) va vb (p, l) ∧ Below W.heap.size W w') := fun W hW => l6Own_any a b len cap lb cb p l W ((h.keep hb1).keep hW) ((hl.keep hb1).keep hW) (by omega) (by omega) (fun i hi => good_few hgood i (by simp only; omega))
      have HA : Hid (∀ (W3 W : World) (va vb : Value), Below W1.heap.size W1 W3 → Below W3.heap.size W3 W → GOwn W false (fun x => W3.heap.size ≤ x) va vb (p, l) → Calls Tryd.prog 56 #[.agg #[va, vb], .slice (some ⟨tb, to, none⟩) tl tc, .int .i64 ((tl - 1 : Nat) : Int), .slice none 0 0] W (AddR W (fun x => W3.heap.size ≤ x) R)) := fun W3 W va vb h13 h3W hG => by
        have hB := h13.trans (h3W.mono h13.size)
        have := l6Add_any hp none tb to tl tc none 0 0 (by omega) (tl - 1) (by omega) W (fun x => W3.heap.size ≤ x) va vb (p, l) ((ht.keep hb1).keep hB) hG hgood (bok_none _ _) (.inl ⟨rfl, rfl⟩) (by rw [← htl, hst]; simp only; omega) (by have := h13.size; omega) (fun x hx => by cases hx) (fun x hx => by cases hx)
        rw [← htl, hroot] at this
        rw [← htl]
        exact this
      have HG2 : Hid (∀ (W : World) (a6 b6 : Option Addr) (ca6 cb6 : Nat), ESl W a6 R.1.1.length R.1.1 → Sl W b6 R.1.2.length R.1.2 → Calls Tryd.prog 43 #[.agg #[.slice a6 R.1.1.length ca6, .slice b6 R.1.2.length cb6]] W fun e w' => e = .returned (.bool (decide (R.1.1.length ≤ 120))) ∧ Below W.heap.size W w') := fun W a6 b6 ca6 cb6 e1 e2 => by
        have := specGraph_any a6 b6 R.1.1.length ca6 R.1.2.length cb6 R.1.1 R.1.2 W e1 e2 (by omega) (by have := hr.1.2.1; omega)
        rw [hgr] at this
        exact this
      have hk1 : (tl : Int) - 1 = ((tl - 1 : Nat) : Int) := by omega
      have HZ : Hid (w.heap.size + 2 = W1.heap.size) := hs1.symm
      obtain ⟨K, hK⟩ : ∃ K, tl - 1 = K := ⟨_, rfl⟩
      rw [hK] at HA hk1
      clear h hl ht hb1 hs1 r0 r1 f0 f1 hroot hst hr hgr hR hgood hp hlp hgb hgt hK hrl htb
      unfold roomA
      by_cases h00 : R.1.1.length ≤ 120
      · rw [if_pos h00]
        rw [decide_eq_true h00] at HG2
        go_enter Tryd.func21, Tryd.ntmps21
        go_wp2_with fail
        (try rw [hW1])
        refine Calls.mono HG.out ?_
        rintro e w2 ⟨rfl, hb2⟩
        have HT2 := (show Hid _ from HT.out w2 hb2)
        have HB2 := (show Hid _ from hb2)
        clear HG hW1 HT hb2
        go_wp2_with fail
        refine Calls.mono HT2.out ?_
        rintro e w3 ⟨rfl, hb3⟩
        have hB3 := HB2.out.trans (hb3.mono HB2.out.size)
        obtain ⟨⟨g0, g1⟩, -, -⟩ := HC.out w3 hB3
        have HO3 := (show Hid _ from HO.out w3 hB3)
        have HB3 := (show Hid _ from hB3)
        clear HT2 hb3 HB2 HO hB3
        go_wp2_with fail
        refine Calls.mono HO3.out ?_
        rintro e w4 ⟨va, vb, rfl, hG4, hb4⟩
        have HA4 := (show Hid _ from HA.out w3 w4 va vb HB3.out hb4 hG4)
        have HB4 := (show Hid _ from hb4)
        clear HO3 HA hG4 hb4 g0 g1
        go_wp2_with fail
        refine Calls.mono HA4.out ?_
        rintro e w5 ⟨va5, vb5, c5, rfl, hc5, hG5, hk5⟩
        obtain ⟨a6, ca6, b6, cb6, rfl, rfl, hE6, hL6⟩ := hG5.reads
        have hs34 := HB4.out.size
        have hb35 : Below w3.heap.size w3 w5 := HB4.out.trans (hk5.below (fun x _ h => h) hs34)
        have hb36 : Below w3.heap.size w3 (w5.alloc (.cells #[.slice a6 R.1.1.length ca6, .slice b6 R.1.2.length cb6] 32)) := hb35.alloc hb35.size _
        have hbal : Below w5.heap.size w5 (w5.alloc (.cells #[.slice a6 R.1.1.length ca6, .slice b6 R.1.2.length cb6] 32)) := (Below.refl _ _).alloc (Nat.le_refl _) _
        obtain ⟨w6, hw6⟩ : ∃ w6, w5.alloc (.cells #[.slice a6 R.1.1.length ca6, .slice b6 R.1.2.length cb6] 32) = w6 := ⟨_, rfl⟩
        have x0 : w6.cell? ⟨w5.heap.size, 0, none⟩ = some (.slice a6 R.1.1.length ca6) := by rw [← hw6]; simp [go_sem]
        have x1 : w6.cell? ⟨w5.heap.size, 1, none⟩ = some (.slice b6 R.1.2.length cb6) := by rw [← hw6]; simp [go_sem]
        have hs6 : w5.heap.size < w6.heap.size := by rw [← hw6]; simp
        rw [hw6] at hb36 hbal
        have HG6 := (show Hid _ from HG2.out w6 a6 b6 ca6 cb6 (hE6.keep hbal) (hL6.keep hbal))
        have HFN : Hid (∀ W, Below w6.heap.size w6 W → (W.cell? ⟨w.heap.size + 1, 0, none⟩ = some (.slice none 0 0) ∧ W.cell? ⟨w.heap.size + 1, 1, none⟩ = some (.slice none 0 0) ∧ W.frozen? ⟨w.heap.size + 1, 0, none⟩ = false ∧ W.frozen? ⟨w.heap.size + 1, 1, none⟩ = false) ∧ W.cell? ⟨w5.heap.size, 0, none⟩ = some (.slice a6 R.1.1.length ca6) ∧ W.cell? ⟨w5.heap.size, 1, none⟩ = some (.slice b6 R.1.2.length cb6) ∧ ∀ v0 v1, GOwn ((W.setCell ⟨w.heap.size + 1, 0, none⟩ v0).setCell ⟨w.heap.size + 1, 1, none⟩ v1) false (fun x => w.heap.size ≤ x) (.slice a6 R.1.1.length ca6) (.slice b6 R.1.2.length cb6) R.1 ∧ Below w.heap.size w ((W.setCell ⟨w.heap.size + 1, 0, none⟩ v0).setCell ⟨w.heap.size + 1, 1, none⟩ v1)) := fun W hW => by
          have hX : Below w3.heap.size w3 W := hb36.trans (hW.mono hb36.size)
          obtain ⟨-, y, z⟩ := HC.out W (HB3.out.trans (hX.mono HB3.out.size))
          have hs3 := HB3.out.size
          have hz := HZ.out
          refine ⟨y, (hW.cell (p := ⟨w5.heap.size, 0, none⟩) hs6).trans x0, (hW.cell (p := ⟨w5.heap.size, 1, none⟩) hs6).trans x1, fun v0 v1 => ⟨?_, z v0 v1⟩⟩
          refine ((hG5.keep hbal).keep hW).map (by rw [setCell_size, setCell_size]; exact Nat.le_refl _) (fun b' hb' hl => ?_) (fun b' hl hb' => ?_)
          · have hne : w.heap.size + 1 ≠ b' := by
              rcases hb' with h | h
              · omega
              · omega
            rw [setCell_block _ _ _ hne, setCell_block _ _ _ hne]
          · rcases hb' with h | h
            · omega
            · omega
        have HC5 : Hid (R.2.getD 0 0 = c5) := by show _ = _; rw [hc5]; rfl
        clear HA4 hG5 hk5 hE6 hL6 hb35 hb36 hbal HG2 HB3 HB4 hc5 hs34 HC
        go_wp2_with fail
        (try rw [hw6])
        refine Calls.mono HG6.out ?_
        rintro e w7 ⟨rfl, hb7⟩
        obtain ⟨⟨y0, y1, y2, y3⟩, y4, y5, hfin⟩ := HFN.out w7 hb7
        have HF := (show Hid _ from hfin)
        clear HG6 HFN hb7 hfin hw6
        go_wp2
        refine bodyPost_ret (v := .tuple #[.agg #[.slice a6 R.1.1.length ca6, .slice b6 R.1.2.length cb6], .int .i64 c5, .bool true]) ?_ ?_ ?_
        · simp [results, Tryd.results21, go_sem, *]
        · rfl
        · refine ⟨_, _, ?_, (HF.out _ _).1, (HF.out _ _).2⟩
          show Ending.returned _ = Ending.returned (.tuple #[_, .int .i64 (R.2.getD 0 0), .bool true])
          rw [HC5.out]
      · rw [if_neg h00]
        rw [decide_eq_false h00] at HG2
        go_enter Tryd.func21, Tryd.ntmps21
        go_wp2_with fail
        (try rw [hW1])
        refine Calls.mono HG.out ?_
        rintro e w2 ⟨rfl, hb2⟩
        have HT2 := (show Hid _ from HT.out w2 hb2)
        have HB2 := (show Hid _ from hb2)
        clear HG hW1 HT hb2
        go_wp2_with fail
        refine Calls.mono HT2.out ?_
        rintro e w3 ⟨rfl, hb3⟩
        have hB3 := HB2.out.trans (hb3.mono HB2.out.size)
        obtain ⟨⟨g0, g1⟩, -, -⟩ := HC.out w3 hB3
        have HO3 := (show Hid _ from HO.out w3 hB3)
        have HB3 := (show Hid _ from hB3)
        clear HT2 hb3 HB2 HO hB3
        go_wp2_with fail
        refine Calls.mono HO3.out ?_
        rintro e w4 ⟨va, vb, rfl, hG4, hb4⟩
        have HA4 := (show Hid _ from HA.out w3 w4 va vb HB3.out hb4 hG4)
        have HB4 := (show Hid _ from hb4)
        clear HO3 HA hG4 hb4 g0 g1
        go_wp2_with fail
        refine Calls.mono HA4.out ?_
        rintro e w5 ⟨va5, vb5, c5, rfl, hc5, hG5, hk5⟩
        obtain ⟨a6, ca6, b6, cb6, rfl, rfl, hE6, hL6⟩ := hG5.reads
        have hs34 := HB4.out.size
        have hb35 : Below w3.heap.size w3 w5 := HB4.out.trans (hk5.below (fun x _ h => h) hs34)
        have hb36 : Below w3.heap.size w3 (w5.alloc (.cells #[.slice a6 R.1.1.length ca6, .slice b6 R.1.2.length cb6] 32)) := hb35.alloc hb35.size _
        have hbal : Below w5.heap.size w5 (w5.alloc (.cells #[.slice a6 R.1.1.length ca6, .slice b6 R.1.2.length cb6] 32)) := (Below.refl _ _).alloc (Nat.le_refl _) _
        obtain ⟨w6, hw6⟩ : ∃ w6, w5.alloc (.cells #[.slice a6 R.1.1.length ca6, .slice b6 R.1.2.length cb6] 32) = w6 := ⟨_, rfl⟩
        have x0 : w6.cell? ⟨w5.heap.size, 0, none⟩ = some (.slice a6 R.1.1.length ca6) := by rw [← hw6]; simp [go_sem]
        have x1 : w6.cell? ⟨w5.heap.size, 1, none⟩ = some (.slice b6 R.1.2.length cb6) := by rw [← hw6]; simp [go_sem]
        have hs6 : w5.heap.size < w6.heap.size := by rw [← hw6]; simp
        rw [hw6] at hb36 hbal
        have HG6 := (show Hid _ from HG2.out w6 a6 b6 ca6 cb6 (hE6.keep hbal) (hL6.keep hbal))
        have HFN : Hid (∀ W, Below w6.heap.size w6 W → (W.cell? ⟨w.heap.size + 1, 0, none⟩ = some (.slice none 0 0) ∧ W.cell? ⟨w.heap.size + 1, 1, none⟩ = some (.slice none 0 0) ∧ W.frozen? ⟨w.heap.size + 1, 0, none⟩ = false ∧ W.frozen? ⟨w.heap.size + 1, 1, none⟩ = false) ∧ W.cell? ⟨w5.heap.size, 0, none⟩ = some (.slice a6 R.1.1.length ca6) ∧ W.cell? ⟨w5.heap.size, 1, none⟩ = some (.slice b6 R.1.2.length cb6) ∧ ∀ v0 v1, GOwn ((W.setCell ⟨w.heap.size + 1, 0, none⟩ v0).setCell ⟨w.heap.size + 1, 1, none⟩ v1) false (fun x => w.heap.size ≤ x) (.slice a6 R.1.1.length ca6) (.slice b6 R.1.2.length cb6) R.1 ∧ Below w.heap.size w ((W.setCell ⟨w.heap.size + 1, 0, none⟩ v0).setCell ⟨w.heap.size + 1, 1, none⟩ v1)) := fun W hW => by
          have hX : Below w3.heap.size w3 W := hb36.trans (hW.mono hb36.size)
          obtain ⟨-, y, z⟩ := HC.out W (HB3.out.trans (hX.mono HB3.out.size))
          have hs3 := HB3.out.size
          have hz := HZ.out
          refine ⟨y, (hW.cell (p := ⟨w5.heap.size, 0, none⟩) hs6).trans x0, (hW.cell (p := ⟨w5.heap.size, 1, none⟩) hs6).trans x1, fun v0 v1 => ⟨?_, z v0 v1⟩⟩
          refine ((hG5.keep hbal).keep hW).map (by rw [setCell_size, setCell_size]; exact Nat.le_refl _) (fun b' hb' hl => ?_) (fun b' hl hb' => ?_)
          · have hne : w.heap.size + 1 ≠ b' := by
              rcases hb' with h | h
              · omega
              · omega
            rw [setCell_block _ _ _ hne, setCell_block _ _ _ hne]
          · rcases hb' with h | h
            · omega
            · omega
        have HC5 : Hid (R.2.getD 0 0 = c5) := by show _ = _; rw [hc5]; rfl
        clear HA4 hG5 hk5 hE6 hL6 hb35 hb36 hbal HG2 HB3 HB4 hc5 hs34 HC
        go_wp2_with fail
        (try rw [hw6])
        refine Calls.mono HG6.out ?_
        rintro e w7 ⟨rfl, hb7⟩
        obtain ⟨⟨y0, y1, y2, y3⟩, y4, y5, hfin⟩ := HFN.out w7 hb7
        have HF := (show Hid _ from hfin)
        clear HG6 HFN hb7 hfin hw6
        go_wp2
        refine bodyPost_ret (v := .tuple #[.agg #[.slice none 0 0, .slice none 0 0], .int .i64 0, .bool false]) ?_ ?_ ?_
        · simp [results, Tryd.results21, go_sem, *]
        · rfl
        · exact ⟨_, _, rfl, gown_nil _ _ _, (HF.out _ _).2⟩
/-- What FindTerm tells. -/
def findT (p : List EN) (l : List Int) (t : List (Int × Int)) : Option Int := match addT p l t with
  | some r => if p.length < r.1.1.length then none else some r.2
  | none => none
set_option maxHeartbeats 1600000 in
theorem specFindTerm_any (a b : Option Addr) (len cap lb cb : Nat) (p : List EN) (l : List Int) (ta : Option Addr) (tl tc : Nat) (t : List (Int × Int)) (w : World) (h : ESl w a len p) (hl : Sl w b lb l) (ht : NSl w ta tl t) (hm : len ≤ 9223372036854775807) (hm2 : lb ≤ 9223372036854775807) (hm3 : tl ≤ 9223372036854775807) :
    Calls Tryd.prog 26 #[.agg #[.slice a len cap, .slice b lb cb], .slice ta tl tc] w fun e w' => e = .returned (.tuple #[.int .i64 ((findT p l t).getD 0), .bool (findT p l t).isSome]) ∧ Below w.heap.size w w' := by
  have hll := h.1
  obtain ⟨W1, hW1⟩ : ∃ W1, w.alloc (.cells #[.slice a len cap, .slice b lb cb] 32) = W1 := ⟨_, rfl⟩
  have hb1 : Below w.heap.size w W1 := by rw [← hW1]; exact (Below.refl _ _).alloc (Nat.le_refl _) _
  have hs1 : w.heap.size < W1.heap.size := by rw [← hW1]; simp
  have n0 : W1.cell? ⟨w.heap.size, 0, none⟩ = some (.slice a len cap) := by rw [← hW1]; simp [go_sem]
  have n1 : W1.cell? ⟨w.heap.size, 1, none⟩ = some (.slice b lb cb) := by rw [← hW1]; simp [go_sem]
  have HA := (show Hid _ from specAddTerm_any a b len cap lb cb p l ta tl tc t W1 (h.keep hb1) (hl.keep hb1) (ht.keep hb1) hm hm2 hm3)
  have HF : Hid (∀ W, Below W1.heap.size W1 W → Below w.heap.size w W ∧ W.cell? ⟨w.heap.size, 0, none⟩ = some (.slice a len cap)) := fun W hW => ⟨hb1.trans (hW.mono hb1.size), (hW.cell (p := ⟨w.heap.size, 0, none⟩) hs1).trans n0⟩
  unfold findT
  clear h hl ht hb1
  cases ho : addT p l t with
  | none =>
    rw [ho] at HA
    simp only [Option.getD_none, Option.isSome_none] at HA ⊢
    have e1 : ansC none = 0 := rfl
    rw [e1] at HA
    clear ho
    go_enter Tryd.func26, Tryd.ntmps26
    go_wp2_with fail
    (try rw [hW1])
    refine Calls.mono HA.out ?_
    rintro e w2 ⟨va, vb, rfl, hG, hb2⟩
    obtain ⟨a6, ca6, b6, cb6, rfl, rfl, _, _⟩ := hG.reads
    have HB : Hid (∀ o, Below w.heap.size w (w2.alloc o)) := fun o => (HF.out _ (hb2.alloc hb2.size o)).1
    clear HA hW1 hG hb2 HF
    go_wp2
    go_ret2
    exact ⟨rfl, HB.out _⟩
  | some r =>
    rw [ho] at HA
    simp only [Option.isSome_some] at HA
    have e1 : ansC (some r) = r.2 := rfl
    have e2 : ansG (some r) = r.1 := rfl
    rw [e1, e2] at HA
    clear ho e1 e2
    obtain ⟨⟨rp, rl⟩, rc⟩ := r
    simp only at HA ⊢
    obtain ⟨R, hR⟩ : ∃ R, rp.length = R := ⟨_, rfl⟩
    rw [hR]
    rw [hll]
    by_cases hlt : len < R
    · rw [if_pos hlt]
      simp only [Option.getD_none, Option.isSome_none]
      have hg : (len : Int) < R := by omega
      go_enter Tryd.func26, Tryd.ntmps26
      go_wp2_with fail
      (try rw [hW1])
      refine Calls.mono HA.out ?_
      rintro e w2 ⟨va, vb, rfl, hG, hb2⟩
      obtain ⟨a6, ca6, b6, cb6, rfl, rfl, _, _⟩ := hG.reads
      simp only [hR]
      have HB : Hid (∀ o, Below w.heap.size w (w2.alloc o)) := fun o => (HF.out _ (hb2.alloc hb2.size o)).1
      have c0 : ∀ o, (w2.alloc o).cell? ⟨w.heap.size, 0, none⟩ = some (.slice a len cap) := fun o => (HF.out _ (hb2.alloc hb2.size o)).2
      clear HA hW1 hG hb2 HF hR hll
      go_wp2
      go_ret2
      exact ⟨rfl, HB.out _⟩
    · rw [if_neg hlt]
      simp only [Option.getD_some, Option.isSome_some]
      have hg : ¬ (len : Int) < R := by omega
      go_enter Tryd.func26, Tryd.ntmps26
      go_wp2_with fail
      (try rw [hW1])
      refine Calls.mono HA.out ?_
      rintro e w2 ⟨va, vb, rfl, hG, hb2⟩
      obtain ⟨a6, ca6, b6, cb6, rfl, rfl, _, _⟩ := hG.reads
      simp only [hR]
      have HB : Hid (∀ o, Below w.heap.size w (w2.alloc o)) := fun o => (HF.out _ (hb2.alloc hb2.size o)).1
      have c0 : ∀ o, (w2.alloc o).cell? ⟨w.heap.size, 0, none⟩ = some (.slice a len cap) := fun o => (HF.out _ (hb2.alloc hb2.size o)).2
      clear HA hW1 hG hb2 HF hR hll
      go_wp2
      go_ret2
      exact ⟨rfl, HB.out _⟩
end Go.Proofs.YtfpkeikmfcddjaaDoor
