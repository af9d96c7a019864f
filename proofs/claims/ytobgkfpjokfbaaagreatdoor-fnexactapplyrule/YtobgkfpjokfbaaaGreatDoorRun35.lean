/-
  PROVED HERE: what the model's and the program's Closed answer, at all nodes and parts; the table of arities is laid. No other condition. what the program's mergedGraph answers at a good graph: the nodes by the parts that are closed, in memory of its own. No other condition. what the program's Merge answers, at every graph and every two numbers; the table of arities is laid. No other condition.
-/
import Derived.Test.YtobgkfpjokfbaaaGreatDoorC6Impl
import Derived.Test.YtobgkfpjokfbaaaGreatDoorC6Fun
import Derived.Test.YtobgkfpjokfbaaaGreatDoorRun19
import Derived.Test.YtobgkfpjokfbaaaGreatDoorRun18
import Derived.Test.YtobgkfpjokfbaaaGreatDoorRun29
import Derived.Test.YtobgkfpjokfbaaaGreatDoorRun17
import Derived.Deep.RegionHeld3
import Derived.Test.YtobgkfpjokfbaaaGreatDoorRun23
namespace Go.Proofs.YtobgkfpjokfbaaaGreatDoor
open Go.ChangeShapes Go.WideShapes Go.ChangeAt Go.RowKit
set_option linter.unusedVariables false

/-- What Closed tells. -/
def closedR (p : List EN) (l : List Int) : List Int := if headB p l = true then closeL p l else []
theorem closeL_len {p : List EN} {l : List Int} (hN : nodesB p = true) (hP : PartsN p.length l) : (closeL p l).length = p.length := (close_parts hN hP).1.1
theorem closedR_len (p : List EN) (l : List Int) : (closedR p l).length ≤ 120 := by
  unfold closedR
  split
  · rename_i h
    obtain ⟨h1, h2, h3⟩ := (headB_iff p l).1 h
    rw [closeL_len h1 ⟨h2, ((partB_iff l).1 h3).2⟩]
    exact ((nodesB_iff p).1 h1).1
  · simp
theorem headB_no (p : List EN) (l : List Int) (h : nodesB p = false ∨ l.length ≠ p.length ∨ partB l = false) : headB p l = false := by
  rw [Bool.eq_false_iff]
  intro e
  obtain ⟨h1, h2, h3⟩ := (headB_iff p l).1 e
  rcases h with h | h | h
  · rw [h] at h1; cases h1
  · exact h h2
  · rw [h] at h3; cases h3
end Go.Proofs.YtobgkfpjokfbaaaGreatDoor
namespace Go.Proofs.YtobgkfpjokfbaaaGreatDoor
open Go.ChangeShapes Go.WideShapes Go.ChangeAt Go.RowKit
set_option linter.unusedVariables false

/-- A graph with two classes made one. -/
def mergeG (p : List EN) (l : List Int) (x y : Nat) : GS := (withL (closeL p (joinPL l x y)) p, closeL p (joinPL l x y))
theorem mergeG_len {p : List EN} {l : List Int} (hN : nodesB p = true) (hP : PartsN p.length l) {x y : Nat} (hx : x < p.length) (hy : y < p.length) : (mergeG p l x y).1.length = p.length ∧ (mergeG p l x y).2.length = p.length := by
  have hJ := joinPL_parts hP hx hy
  exact ⟨by unfold mergeG; rw [withL_len], closeL_len hN hJ⟩
set_option maxHeartbeats 3200000 in
set_option maxRecDepth 20000 in
theorem implMerged_any {p : List EN} {l : List Int} (hN : nodesB p = true) (hP : PartsN p.length l) (hI : InE p) (a b : Option Addr) (len cap cb : Nat) {x y : Nat} (hx : x < p.length) (hy : y < p.length) (w : World) (h : ESl w a len p) (hl : Sl w b len l) :
    Calls Tryz.prog 62 #[.agg #[.slice a len cap, .slice b len cb], .int .i64 x, .int .i64 y] w fun e w' => ∃ va vb, e = .returned (.agg #[va, vb]) ∧ GOwn w' true (fun b => w.heap.size ≤ b) va vb (mergeG p l x y) ∧ Below w.heap.size w w' := by
  have hpl : p.length = len := h.1
  have hll : l.length = len := hl.1
  have hn120 : len ≤ 120 := by have := ((nodesB_iff p).1 hN).1; omega
  have hJ := joinPL_parts hP hx hy
  have hcp := close_parts hN hJ
  have hfewK : ∀ i, i < len → (p.getD i e0).2.2.length ≤ 3 ∧ ∀ j, j < (p.getD i e0).2.2.length → ∃ z : Nat, (p.getD i e0).2.2.getD j 0 = z ∧ z < len := fun i hi => ⟨fit_few (((nodesB_iff p).1 hN).2 i (by omega)), fun j hj => by
    obtain ⟨z, h1, h2⟩ := kid_natI (k := i) (j := j) hN (by omega) hj
    exact ⟨z, h1, by omega⟩⟩
  have hjf := join_flat hP.2.1 hP.2.2 (show x < l.length by omega) (show y < l.length by omega)
  have hup := union_par hP.2.1 (show x < l.length by omega) (show y < l.length by omega)
  obtain ⟨W1, hW1⟩ : ∃ W1, (w.alloc (.cells #[.slice a len cap, .slice b len cb] 36)).alloc (.cells #[.slice none 0 0, .slice none 0 0] 36) = W1 := ⟨_, rfl⟩
  have hb1 : Below w.heap.size w W1 := by rw [← hW1]; exact ((Below.refl _ _).alloc (Nat.le_refl _) _).alloc (by simp) _
  have hs1 : W1.heap.size = w.heap.size + 2 := by rw [← hW1]; simp
  have n0 : W1.cell? ⟨w.heap.size, 0, none⟩ = some (.slice a len cap) := by rw [← hW1]; simp [go_sem]
  have n1 : W1.cell? ⟨w.heap.size, 1, none⟩ = some (.slice b len cb) := by rw [← hW1]; simp [go_sem]
  have r0 : W1.cell? ⟨w.heap.size + 1, 0, none⟩ = some (.slice none 0 0) := by rw [← hW1]; simp [go_sem]
  have r1 : W1.cell? ⟨w.heap.size + 1, 1, none⟩ = some (.slice none 0 0) := by rw [← hW1]; simp [go_sem]
  have f0 : W1.frozen? ⟨w.heap.size + 1, 0, none⟩ = false := by rw [← hW1]; simp [go_sem]
  have f1 : W1.frozen? ⟨w.heap.size + 1, 1, none⟩ = false := by rw [← hW1]; simp [go_sem]
  have HX : Hid (∀ W, Below W1.heap.size W1 W → (W.cell? ⟨w.heap.size, 0, none⟩ = some (.slice a len cap) ∧ W.cell? ⟨w.heap.size, 1, none⟩ = some (.slice b len cb)) ∧ (W.cell? ⟨w.heap.size + 1, 0, none⟩ = some (.slice none 0 0) ∧ W.cell? ⟨w.heap.size + 1, 1, none⟩ = some (.slice none 0 0) ∧ W.frozen? ⟨w.heap.size + 1, 0, none⟩ = false ∧ W.frozen? ⟨w.heap.size + 1, 1, none⟩ = false) ∧ ESl W a len p ∧ Sl W b len l ∧ Below w.heap.size w W) := fun W hW => ⟨⟨(hW.cell (p := ⟨w.heap.size, 0, none⟩) (by show w.heap.size < _; omega)).trans n0, (hW.cell (p := ⟨w.heap.size, 1, none⟩) (by show w.heap.size < _; omega)).trans n1⟩, ⟨(hW.cell (p := ⟨w.heap.size + 1, 0, none⟩) (by show w.heap.size + 1 < _; omega)).trans r0, (hW.cell (p := ⟨w.heap.size + 1, 1, none⟩) (by show w.heap.size + 1 < _; omega)).trans r1, (hW.frozen (p := ⟨w.heap.size + 1, 0, none⟩) (by show w.heap.size + 1 < _; omega)).trans f0, (hW.frozen (p := ⟨w.heap.size + 1, 1, none⟩) (by show w.heap.size + 1 < _; omega)).trans f1⟩, (h.keep hb1).keep hW, (hl.keep hb1).keep hW, hb1.trans (hW.mono hb1.size)⟩
  have HJo := fun (W : World) (hW : Below W1.heap.size W1 W) => joined_any b len cb l x y W (HX.out W hW).2.2.2.1 hP.2.1 (by omega) (by omega) (by omega)
  have HFl := fun (W : World) (a' : Option Addr) (c' : Nat) (hs : Sl W a' len (unionL l x y)) => flat_any a' len c' (unionL l x y) W hs hup (by omega) (fun e => by
    subst e
    rcases hs.2 with h0 | ⟨_, _, h0, _⟩
    · exact h0
    · cases h0)
  rw [hjf] at HFl
  have HCl := fun (W : World) (hW : Below W1.heap.size W1 W) (a' : Option Addr) (c' : Nat) (hs : Sl W a' len (joinPL l x y)) => (show Calls _ _ _ _ (fun e w' => ∃ v : Value, e = .returned v ∧ w'.ownsRow W.heap.size 3 1 v len (vals (closeL p (joinPL l x y))) ∧ Below W.heap.size W w') from implClose6_any hN hJ hI a a' len cap c' W (HX.out W hW).2.2.1 hs)
  have HWi := fun (W : World) (hW : Below W1.heap.size W1 W) (a' : Option Addr) (c' : Nat) (hs : Sl W a' len (closeL p (joinPL l x y))) => withAll_own a a' len cap len c' p (closeL p (joinPL l x y)) W (HX.out W hW).2.2.1 hs hn120 hfewK
  have hmL := mergeG_len hN hP hx hy
  have HG : Hid (∀ (w5 w6 : World) (vb : Value) (xs : List Value), W1.heap.size ≤ w5.heap.size → w5.ownsRow W1.heap.size 3 1 vb len (vals (closeL p (joinPL l x y))) → Below w5.heap.size w5 w6 → w6.ownsRow w5.heap.size 80 3 (.slice (some ⟨w5.heap.size, 0, none⟩) len len) len xs → ECopy w5 w6 (withL (closeL p (joinPL l x y)) p) len xs → GOwn w6 true (fun b => W1.heap.size ≤ b) (.slice (some ⟨w5.heap.size, 0, none⟩) len len) vb (mergeG p l x y)) := fun w5 w6 vb xs hw1 hvb hb hxs hec => by
    have hcl : (closeL p (joinPL l x y)).length = len := by rw [closeL_len hN hJ]; exact hpl
    refine gown_copy (w := w5) (w1 := w6) (w2 := w6) hw1 (by rw [withL_len]; exact hpl) (fun i hi => by rw [withL_get _ p (by omega)]; simp only; rw [kidsL_len]; exact (hfewK i hi).1) hxs hec (Below.refl _ _) ?_ (fun x hx => .inl (hvb.lt x hx).2)
    rw [hcl]
    exact row_keep hvb hb
  have hBd : Below W1.heap.size W1 W1.drew := (Below.refl _ _).drew
  have zD := (HX.out W1.drew hBd).1
  have hm1 := hmL.1
  have hm2 := hmL.2
  have HS1 : Hid (W1.heap.size = w.heap.size + 2) := hs1
  generalize mergeG p l x y = M at HG hm1 hm2 ⊢
  generalize closeL p (joinPL l x y) = L at HCl HWi HG
  generalize withL L p = P at HWi HG
  generalize joinPL l x y = J at HFl HCl
  generalize unionL l x y = Un at HJo HFl
  clear h hl hb1 hs1 n0 n1 r0 r1 f0 f1 hJ hcp hfewK hjf hup hmL hN hP hI
  go_enter Tryz.func62, Tryz.ntmps62
  go_wp2_with fail
  (try rw [hW1])
  clear hW1
  go_region_held3 (fun w' => w'.cell? ⟨w.heap.size, 0, none⟩ = some (.slice a len cap) ∧ w'.cell? ⟨w.heap.size, 1, none⟩ = some (.slice b len cb))
    (first | with_reducible assumption | assumption)
    (first
    | (go_at_call 87; refine Calls.mono (HJo W1.drew hBd) ?_; rintro e v3 ⟨vj, rfl, hrj, hb3⟩; obtain ⟨aj, cj, rfl, hsj⟩ := Sl.vals hrj; have hB3 : Below W1.heap.size W1 v3 := hBd.trans (hb3.mono hBd.size); have z3 := (HX.out v3 hB3).1; clear hrj hb3)
    | (go_at_call 88; refine Calls.mono (HFl v3 aj cj hsj) ?_; rintro e v4 ⟨vf, rfl, hrf, hb4⟩; obtain ⟨af, cf, rfl, hsf⟩ := Sl.vals hrf; have hB4 : Below W1.heap.size W1 v4 := hB3.trans (hb4.mono hB3.size); have z4 := (HX.out v4 hB4).1; clear hrf hb4)
    | (go_at_call 86; refine Calls.mono (HCl v4 hB4 af cf hsf) ?_; rintro e v5 ⟨vc, rfl, hrc0, hb5⟩; have hrc := row_base6 hrc0 hB4.size; obtain ⟨ac, cc, rfl, hsc⟩ := Sl.vals hrc; have hB5 : Below W1.heap.size W1 v5 := hB4.trans (hb5.mono hB4.size); have z5 := (HX.out v5 hB5).1; clear hrc0 hb5))
  obtain ⟨z50, z51⟩ := z5
  have HW5 := (show Hid _ from HWi v5 hB5 ac cc hsc)
  have HC5 := (show Hid _ from hrc)
  have HB5 := (show Hid _ from hB5)
  clear HJo HFl HCl HWi zD z3 z4 hB3 hB4 hsj hsf hsc hrc hB5 hBd
  go_wp2_with fail
  refine Calls.mono HW5.out ?_
  rintro e v6 ⟨rfl, hb6, xs, hxs, hec⟩
  have hB6 : Below W1.heap.size W1 v6 := HB5.out.trans (hb6.mono HB5.out.size)
  obtain ⟨-, ⟨r0, r1, f0, f1⟩, -, -, hw6⟩ := HX.out v6 hB6
  have hG6 := HG.out v5 v6 _ xs HB5.out.size HC5.out hb6 hxs hec
  have HF : Hid (∀ v0 v1, GOwn ((v6.setCell ⟨w.heap.size + 1, 0, none⟩ v0).setCell ⟨w.heap.size + 1, 1, none⟩ v1) true (fun x => w.heap.size ≤ x) (.slice (some ⟨v5.heap.size, 0, none⟩) len len) (.slice ac len cc) M ∧ Below w.heap.size w ((v6.setCell ⟨w.heap.size + 1, 0, none⟩ v0).setCell ⟨w.heap.size + 1, 1, none⟩ v1)) := fun v0 v1 => by
    have h0 := HS1.out
    refine ⟨hG6.map (by rw [setCell_size, setCell_size]; exact Nat.le_refl _) (fun b hb hl => ?_) (fun b _ hb => by omega), (hw6.setCell (by show w.heap.size ≤ w.heap.size + 1; omega) _).setCell (by show w.heap.size ≤ w.heap.size + 1; omega) _⟩
    rw [setCell_block _ _ _ (show w.heap.size + 1 ≠ b by omega), setCell_block _ _ _ (show w.heap.size + 1 ≠ b by omega)]
  clear HW5 HC5 HB5 hb6 hxs hec hB6 hw6 hG6 HG HX z50 z51
  go_wp2
  refine bodyPost_ret (v := .agg #[.slice (some ⟨v5.heap.size, 0, none⟩) len len, .slice ac len cc]) ?_ ?_ ?_
  · simp [results, Tryz.results62, go_sem, *]
  · rfl
  · exact ⟨_, _, rfl, (HF.out _ _).1, (HF.out _ _).2⟩
end Go.Proofs.YtobgkfpjokfbaaaGreatDoor
namespace Go.Proofs.YtobgkfpjokfbaaaGreatDoor
open Go.ChangeShapes Go.WideShapes Go.ChangeAt Go.RowKit
set_option linter.unusedVariables false

def mergeOk (p : List EN) (l : List Int) (x y : Int) : Bool := graphB p l && hasB l x && hasB l y
def mergeR (p : List EN) (l : List Int) (x y : Int) : GS := if mergeOk p l x y = true then mergeG p l x.toNat y.toNat else ([], [])
set_option maxHeartbeats 3200000 in
set_option maxRecDepth 20000 in
theorem implMerge_any (a b : Option Addr) (len cap lb cb : Nat) (p : List EN) (l : List Int) (x y : Int) (w : World) (ht : Tab w) (h : ESl w a len p) (hl : Sl w b lb l) (hI : InE p) (hm : len ≤ 9223372036854775807) (hm2 : lb ≤ 9223372036854775807) :
    Calls Tryz.prog 31 #[.agg #[.slice a len cap, .slice b lb cb], .int .i64 x, .int .i64 y] w fun e w' => ∃ va vb, e = .returned (.tuple #[.agg #[va, vb], .bool (mergeOk p l x y)]) ∧ AnsI w' (fun b => w.heap.size ≤ b) va vb (mergeR p l x y) ∧ Below w.heap.size w w' := by
  have hll := h.1
  have hl1 := hl.1
  obtain ⟨W1, hW1⟩ : ∃ W1, (w.alloc (.cells #[.slice a len cap, .slice b lb cb] 36)).alloc (.cells #[.slice none 0 0, .slice none 0 0] 36) = W1 := ⟨_, rfl⟩
  have hb1 : Below w.heap.size w W1 := by rw [← hW1]; exact ((Below.refl _ _).alloc (Nat.le_refl _) _).alloc (by simp) _
  have hs1 : W1.heap.size = w.heap.size + 2 := by rw [← hW1]; simp
  have n0 : W1.cell? ⟨w.heap.size, 0, none⟩ = some (.slice a len cap) := by rw [← hW1]; simp [go_sem]
  have n1 : W1.cell? ⟨w.heap.size, 1, none⟩ = some (.slice b lb cb) := by rw [← hW1]; simp [go_sem]
  have r0 : W1.cell? ⟨w.heap.size + 1, 0, none⟩ = some (.slice none 0 0) := by rw [← hW1]; simp [go_sem]
  have r1 : W1.cell? ⟨w.heap.size + 1, 1, none⟩ = some (.slice none 0 0) := by rw [← hW1]; simp [go_sem]
  have f0 : W1.frozen? ⟨w.heap.size + 1, 0, none⟩ = false := by rw [← hW1]; simp [go_sem]
  have f1 : W1.frozen? ⟨w.heap.size + 1, 1, none⟩ = false := by rw [← hW1]; simp [go_sem]
  have HX : Hid (∀ W, Below W1.heap.size W1 W → (W.cell? ⟨w.heap.size, 0, none⟩ = some (.slice a len cap) ∧ W.cell? ⟨w.heap.size, 1, none⟩ = some (.slice b lb cb)) ∧ (W.cell? ⟨w.heap.size + 1, 0, none⟩ = some (.slice none 0 0) ∧ W.cell? ⟨w.heap.size + 1, 1, none⟩ = some (.slice none 0 0) ∧ W.frozen? ⟨w.heap.size + 1, 0, none⟩ = false ∧ W.frozen? ⟨w.heap.size + 1, 1, none⟩ = false) ∧ ESl W a len p ∧ Sl W b lb l ∧ Below w.heap.size w W) := fun W hW => ⟨⟨(hW.cell (p := ⟨w.heap.size, 0, none⟩) (by show w.heap.size < _; omega)).trans n0, (hW.cell (p := ⟨w.heap.size, 1, none⟩) (by show w.heap.size < _; omega)).trans n1⟩, ⟨(hW.cell (p := ⟨w.heap.size + 1, 0, none⟩) (by show w.heap.size + 1 < _; omega)).trans r0, (hW.cell (p := ⟨w.heap.size + 1, 1, none⟩) (by show w.heap.size + 1 < _; omega)).trans r1, (hW.frozen (p := ⟨w.heap.size + 1, 0, none⟩) (by show w.heap.size + 1 < _; omega)).trans f0, (hW.frozen (p := ⟨w.heap.size + 1, 1, none⟩) (by show w.heap.size + 1 < _; omega)).trans f1⟩, (h.keep hb1).keep hW, (hl.keep hb1).keep hW, hb1.trans (hW.mono hb1.size)⟩
  have HS : Hid (∀ W, Below w.heap.size w W → ∀ v0 v1, Below w.heap.size w ((W.setCell ⟨w.heap.size + 1, 0, none⟩ v0).setCell ⟨w.heap.size + 1, 1, none⟩ v1)) := fun W hW v0 v1 => (hW.setCell (by show w.heap.size ≤ w.heap.size + 1; omega) _).setCell (by show w.heap.size ≤ w.heap.size + 1; omega) _
  have HG := (show Hid _ from implGraph_any a b len cap lb cb p l W1 (ht.keeps hb1) (h.keep hb1) (hl.keep hb1) hm2 hI)
  cases hgb : graphB p l with
  | false =>
    have hno : mergeOk p l x y = false := by unfold mergeOk; rw [hgb]; rfl
    have hnr : mergeR p l x y = ([], []) := by unfold mergeR; rw [hno]; rfl
    rw [hno, hnr]
    rw [hgb] at HG
    clear h hl hb1 hno hnr hs1 ht hI
    go_enter Tryz.func31, Tryz.ntmps31
    go_wp2_with fail
    (try rw [hW1])
    refine Calls.mono HG.out ?_
    rintro e w2 ⟨rfl, hb2⟩
    obtain ⟨⟨q0, q1⟩, ⟨u0, u1, g0, g1⟩, -, -, hw2⟩ := HX.out w2 hb2
    have HB := (show Hid _ from HS.out w2 hw2)
    clear HG hW1 HX HS hb2 hw2 n0 n1 r0 r1 f0 f1
    go_wp2
    refine bodyPost_ret (v := .tuple #[.agg #[.slice none 0 0, .slice none 0 0], .bool false]) ?_ ?_ ?_
    · simp [results, Tryz.results31, go_sem, *]
    · rfl
    · exact ⟨_, _, rfl, .inl ⟨rfl, rfl, rfl⟩, HB.out _ _⟩
  | true =>
    rw [hgb] at HG
    obtain ⟨h120, hgood⟩ := (graphB_good p l).1 hgb
    have hgh := (headB_iff p l).1 ((graphB_iff p l).1 hgb).1
    have hgN := hgh.1
    have hgP : PartsN p.length l := ⟨hgh.2.1, ((partB_iff l).1 hgh.2.2).2⟩
    obtain rfl : lb = len := by have := hgh.2.1; omega
    have HA : Hid (∀ W, Calls Tryz.prog 61 #[.slice b lb cb, .int .i64 x] W fun e w' => e = .returned (.bool (hasB l x)) ∧ w' = W) := fun W => implHas_any b lb cb l hl1 x W
    have HBy : Hid (∀ W, Calls Tryz.prog 61 #[.slice b lb cb, .int .i64 y] W fun e w' => e = .returned (.bool (hasB l y)) ∧ w' = W) := fun W => implHas_any b lb cb l hl1 y W
    cases hax : hasB l x with
    | false =>
      have hno : mergeOk p l x y = false := by unfold mergeOk; rw [hgb, hax]; rfl
      have hnr : mergeR p l x y = ([], []) := by unfold mergeR; rw [hno]; rfl
      rw [hno, hnr]
      rw [hax] at HA
      clear h hl hb1 hno hnr hs1 hgood hgh hgN hgP hgb HBy ht hI
      go_enter Tryz.func31, Tryz.ntmps31
      go_wp2_with fail
      (try rw [hW1])
      refine Calls.mono HG.out ?_
      rintro e w2 ⟨rfl, hb2⟩
      obtain ⟨⟨q0, q1⟩, ⟨u0, u1, g0, g1⟩, -, -, hw2⟩ := HX.out w2 hb2
      have HB := (show Hid _ from HS.out w2 hw2)
      clear HG hW1 HX HS hb2 hw2 n0 n1 r0 r1 f0 f1
      go_wp2_with fail
      refine Calls.mono (HA.out _) ?_
      rintro e w3 ⟨rfl, rfl⟩
      clear HA
      go_wp2
      refine bodyPost_ret (v := .tuple #[.agg #[.slice none 0 0, .slice none 0 0], .bool false]) ?_ ?_ ?_
      · simp [results, Tryz.results31, go_sem, *]
      · rfl
      · exact ⟨_, _, rfl, .inl ⟨rfl, rfl, rfl⟩, HB.out _ _⟩
    | true =>
      rw [hax] at HA
      cases hay : hasB l y with
      | false =>
        have hno : mergeOk p l x y = false := by unfold mergeOk; rw [hgb, hax, hay]; rfl
        have hnr : mergeR p l x y = ([], []) := by unfold mergeR; rw [hno]; rfl
        rw [hno, hnr]
        rw [hay] at HBy
        clear h hl hb1 hno hnr hs1 hgood hgh hgN hgP hgb ht hI
        go_enter Tryz.func31, Tryz.ntmps31
        go_wp2_with fail
        (try rw [hW1])
        refine Calls.mono HG.out ?_
        rintro e w2 ⟨rfl, hb2⟩
        obtain ⟨⟨q0, q1⟩, ⟨u0, u1, g0, g1⟩, -, -, hw2⟩ := HX.out w2 hb2
        have HB := (show Hid _ from HS.out w2 hw2)
        clear HG hW1 HX HS hb2 hw2 n0 n1 r0 r1 f0 f1
        go_wp2_with fail
        refine Calls.mono (HA.out _) ?_
        rintro e w3 ⟨rfl, rfl⟩
        clear HA
        go_wp2_with fail
        refine Calls.mono (HBy.out _) ?_
        rintro e w3 ⟨rfl, rfl⟩
        clear HBy
        go_wp2
        refine bodyPost_ret (v := .tuple #[.agg #[.slice none 0 0, .slice none 0 0], .bool false]) ?_ ?_ ?_
        · simp [results, Tryz.results31, go_sem, *]
        · rfl
        · exact ⟨_, _, rfl, .inl ⟨rfl, rfl, rfl⟩, HB.out _ _⟩
      | true =>
        rw [hay] at HBy
        have hyes : mergeOk p l x y = true := by unfold mergeOk; rw [hgb, hax, hay]; rfl
        have hyr : mergeR p l x y = mergeG p l x.toNat y.toNat := by unfold mergeR; rw [hyes]; rfl
        obtain ⟨X, rfl, hX⟩ := has_iff hax
        obtain ⟨Y, rfl, hY⟩ := has_iff hay
        rw [hyr, hyes, Int.toNat_natCast, Int.toNat_natCast]
        have HM : Hid (∀ W, Below W1.heap.size W1 W → Calls Tryz.prog 62 #[.agg #[.slice a lb cap, .slice b lb cb], .int .i64 X, .int .i64 Y] W fun e w' => ∃ va vb, e = .returned (.agg #[va, vb]) ∧ GOwn w' true (fun b => W.heap.size ≤ b) va vb (mergeG p l X Y) ∧ Below W.heap.size W w') := fun W hW => implMerged_any hgN hgP hI a b lb cap cb (by omega) (by omega) W (HX.out W hW).2.2.1 (HX.out W hW).2.2.2.1
        have hmL := mergeG_len hgN hgP (show X < p.length by omega) (show Y < p.length by omega)
        have hmK : ∀ i, i < p.length → ((mergeG p l X Y).1.getD i e0).2.2.length ≤ 3 := fun i hi => by
          unfold mergeG
          rw [withL_get _ p hi]
          simp only
          rw [kidsL_len]
          exact fit_few (((nodesB_iff p).1 hgN).2 i hi)
        have HL : Hid ((mergeG p l X Y).1.length = lb ∧ (mergeG p l X Y).2.length = lb ∧ 0 < lb ∧ lb ≤ 120 ∧ W1.heap.size = w.heap.size + 2 ∧ ∀ i, i < lb → ((mergeG p l X Y).1.getD i e0).2.2.length ≤ 3) := ⟨by rw [hmL.1]; exact hll, by rw [hmL.2]; exact hll, by omega, by first | omega | (simp only at h120; omega), hs1, fun i hi => hmK i (by omega)⟩
        generalize mergeG p l X Y = M at HM HL ⊢
        clear h hl hb1 hyes hyr hs1 hgood hgh hgN hgP hgb hmL hmK hax hay h120 ht hI
        go_enter Tryz.func31, Tryz.ntmps31
        go_wp2_with fail
        (try rw [hW1])
        refine Calls.mono HG.out ?_
        rintro e w2 ⟨rfl, hb2⟩
        obtain ⟨⟨q0, q1⟩, ⟨u0, u1, g0, g1⟩, -, -, hw2⟩ := HX.out w2 hb2
        have HM2 := (show Hid _ from HM.out w2 hb2)
        have HB2 := (show Hid _ from hb2)
        clear HG hW1 hb2 hw2 n0 n1 r0 r1 f0 f1 HM
        go_wp2_with fail
        refine Calls.mono (HA.out _) ?_
        rintro e w3 ⟨rfl, rfl⟩
        clear HA
        go_wp2_with fail
        refine Calls.mono (HBy.out _) ?_
        rintro e w3 ⟨rfl, rfl⟩
        clear HBy
        go_wp2_with fail
        refine Calls.mono HM2.out ?_
        rintro e w4 ⟨va, vb, rfl, hG4, hb4⟩
        have hB4 : Below W1.heap.size W1 w4 := HB2.out.trans (hb4.mono HB2.out.size)
        have hs2 : W1.heap.size ≤ w3.heap.size := HB2.out.size
        obtain ⟨⟨q0', q1'⟩, ⟨u0', u1', g0', g1'⟩, -, -, hw4⟩ := HX.out w4 hB4
        obtain ⟨k1, k2, k3, k4, k5, k6⟩ := HL.out
        have HF : Hid (∀ v0 v1, AnsI ((w4.setCell ⟨w.heap.size + 1, 0, none⟩ v0).setCell ⟨w.heap.size + 1, 1, none⟩ v1) (fun b => w.heap.size ≤ b) va vb M ∧ Below w.heap.size w ((w4.setCell ⟨w.heap.size + 1, 0, none⟩ v0).setCell ⟨w.heap.size + 1, 1, none⟩ v1)) := fun v0 v1 => by
          refine ⟨.inr ⟨hG4.map (by rw [setCell_size, setCell_size]; exact Nat.le_refl _) (fun b hb hl => ?_) (fun b _ hb => by omega), by omega, by omega, by omega, fun i hi => k6 i (by omega)⟩, HS.out w4 hw4 v0 v1⟩
          rw [setCell_block _ _ _ (show w.heap.size + 1 ≠ b by omega), setCell_block _ _ _ (show w.heap.size + 1 ≠ b by omega)]
        obtain ⟨ga, ca, gb, cb2, rfl, rfl, _, _⟩ := hG4.reads
        clear HM2 HB2 hB4 hb4 hw4 hG4 HX HS HL k1 k2 k3 k4 k5 k6 q0 q1 u0 u1 g0 g1 hs2
        go_wp2
        refine bodyPost_ret (v := .tuple #[.agg #[.slice ga M.1.length ca, .slice gb M.2.length cb2], .bool true]) ?_ ?_ ?_
        · simp [results, Tryz.results31, go_sem, *]
        · rfl
        · exact ⟨_, _, rfl, (HF.out _ _).1, (HF.out _ _).2⟩
end Go.Proofs.YtobgkfpjokfbaaaGreatDoor
