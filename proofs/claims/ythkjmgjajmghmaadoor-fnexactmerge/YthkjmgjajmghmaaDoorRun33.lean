/-
  PROVED HERE: what the program's mergedGraph answers at a good graph: the nodes by the parts that are closed, in memory of its own. No other condition. plain facts on terms that are gone through by a part of a function of classes. No condition.
-/
import Derived.Test.YthkjmgjajmghmaaDoorRun32
import Derived.Test.YthkjmgjajmghmaaDoorRun25
import Derived.Test.YthkjmgjajmghmaaDoorRun18
import Derived.Test.YthkjmgjajmghmaaDoorRun21
import Derived.Deep.RegionHeld3
import Derived.Test.YthkjmgjajmghmaaDoorRun12
import Derived.Test.YthkjmgjajmghmaaDoorRun15
namespace Go.Proofs.YthkjmgjajmghmaaDoor
open Go.ChangeShapes Go.WideShapes Go.ChangeAt Go.RowKit
set_option linter.unusedVariables false

/-- A graph with two classes made one. -/
def mergeG (p : List EN) (l : List Int) (x y : Nat) : GS := (withL (closeL p (joinPL l x y)) p, closeL p (joinPL l x y))
theorem mergeG_len {p : List EN} {l : List Int} (hN : nodesB p = true) (hP : PartsN p.length l) {x y : Nat} (hx : x < p.length) (hy : y < p.length) : (mergeG p l x y).1.length = p.length ∧ (mergeG p l x y).2.length = p.length := by
  have hJ := joinPL_parts hP hx hy
  exact ⟨by unfold mergeG; rw [withL_len], closeL_len hN hJ⟩
set_option maxHeartbeats 3200000 in
set_option maxRecDepth 20000 in
theorem implMerged_any {p : List EN} {l : List Int} (hN : nodesB p = true) (hP : PartsN p.length l) (hI : InE p) (a b : Option Addr) (len cap cb : Nat) {x y : Nat} (hx : x < p.length) (hy : y < p.length) (w : World) (h : ESl w a len p) (hl : Sl w b len l) :
    Calls Tryd.prog 28 #[.agg #[.slice a len cap, .slice b len cb], .int .i64 x, .int .i64 y] w fun e w' => ∃ va vb, e = .returned (.agg #[va, vb]) ∧ GOwn w' true (fun b => w.heap.size ≤ b) va vb (mergeG p l x y) ∧ Below w.heap.size w w' := by
  have hpl : p.length = len := h.1
  have hll : l.length = len := hl.1
  have hn120 : len ≤ 120 := by have := ((nodesB_iff p).1 hN).1; omega
  have hJ := joinPL_parts hP hx hy
  have hcp := close_parts hN hJ
  have hfewK : ∀ i, i < len → (p.getD i e0).2.2.length ≤ 3 ∧ ∀ j, j < (p.getD i e0).2.2.length → ∃ z : Nat, (p.getD i e0).2.2.getD j 0 = z ∧ z < len := fun i hi => ⟨fit_few (((nodesB_iff p).1 hN).2 i (by omega)), fun j hj => by
    obtain ⟨z, h1, h2⟩ := kid_natI (k := i) (j := j) hN (by omega) hj
    exact ⟨z, h1, by omega⟩⟩
  have hjf := join_flat hP.2.1 hP.2.2 (show x < l.length by omega) (show y < l.length by omega)
  have hup := union_par hP.2.1 (show x < l.length by omega) (show y < l.length by omega)
  obtain ⟨W1, hW1⟩ : ∃ W1, (w.alloc (.cells #[.slice a len cap, .slice b len cb] 29)).alloc (.cells #[.slice none 0 0, .slice none 0 0] 29) = W1 := ⟨_, rfl⟩
  have hb1 : Below w.heap.size w W1 := by rw [← hW1]; exact ((Below.refl _ _).alloc (Nat.le_refl _) _).alloc (by simp) _
  have hs1 : W1.heap.size = w.heap.size + 2 := by rw [← hW1]; simp
  have n0 : W1.cell? ⟨w.heap.size, 0, none⟩ = some (.slice a len cap) := by rw [← hW1]; simp [go_sem]
  have n1 : W1.cell? ⟨w.heap.size, 1, none⟩ = some (.slice b len cb) := by rw [← hW1]; simp [go_sem]
  have r0 : W1.cell? ⟨w.heap.size + 1, 0, none⟩ = some (.slice none 0 0) := by rw [← hW1]; simp [go_sem]
  have r1 : W1.cell? ⟨w.heap.size + 1, 1, none⟩ = some (.slice none 0 0) := by rw [← hW1]; simp [go_sem]
  have f0 : W1.frozen? ⟨w.heap.size + 1, 0, none⟩ = false := by rw [← hW1]; simp [go_sem]
  have f1 : W1.frozen? ⟨w.heap.size + 1, 1, none⟩ = false := by rw [← hW1]; simp [go_sem]
  have HX : Hid (∀ W, Below W1.heap.size W1 W → (W.cell? ⟨w.heap.size, 0, none⟩ = some (.slice a len cap) ∧ W.cell? ⟨w.heap.size, 1, none⟩ = some (.slice b len cb)) ∧ (W.cell? ⟨w.heap.size + 1, 0, none⟩ = some (.slice none 0 0) ∧ W.cell? ⟨w.heap.size + 1, 1, none⟩ = some (.slice none 0 0) ∧ W.frozen? ⟨w.heap.size + 1, 0, none⟩ = false ∧ W.frozen? ⟨w.heap.size + 1, 1, none⟩ = false) ∧ ESl W a len p ∧ Sl W b len l ∧ Below w.heap.size w W) := fun W hW => ⟨⟨(hW.cell (p := ⟨w.heap.size, 0, none⟩) (by show w.heap.size < _; omega)).trans n0, (hW.cell (p := ⟨w.heap.size, 1, none⟩) (by show w.heap.size < _; omega)).trans n1⟩, ⟨(hW.cell (p := ⟨w.heap.size + 1, 0, none⟩) (by show w.heap.size + 1 < _; omega)).trans r0, (hW.cell (p := ⟨w.heap.size + 1, 1, none⟩) (by show w.heap.size + 1 < _; omega)).trans r1, (hW.frozen (p := ⟨w.heap.size + 1, 0, none⟩) (by show w.heap.size + 1 < _; omega)).trans f0, (hW.frozen (p := ⟨w.heap.size + 1, 1, none⟩) (by show w.heap.size + 1 < _; omega)).trans f1⟩, (h.keep hb1).keep hW, (hl.keep hb1).keep hW, hb1.trans (hW.mono hb1.size)⟩
  have HJo := fun (W : World) (hW : Below W1.heap.size W1 W) => joined_any b len cb l x y W (HX.out W hW).2.2.2.1 hP.2.1 (by omega) (by omega) (by omega)
  have HFl := fun (W : World) (a' : Option Addr) (c' : Nat) (hs : Sl W a' len (unionL l x y)) => flat_any a' len c' (unionL l x y) W hs hup (by omega) (fun e => by
    subst e
    rcases hs.2 with h0 | ⟨_, _, h0, _⟩
    · exact h0
    · cases h0)
  rw [hjf] at HFl
  have HCl := fun (W : World) (hW : Below W1.heap.size W1 W) (a' : Option Addr) (c' : Nat) (hs : Sl W a' len (joinPL l x y)) => (show Calls _ _ _ _ (fun e w' => ∃ v : Value, e = .returned v ∧ w'.ownsRow W.heap.size 3 1 v len (vals (closeL p (joinPL l x y))) ∧ Below W.heap.size W w') from implClose6_any hN hJ hI a a' len cap c' W (HX.out W hW).2.2.1 hs)
  have HWi := fun (W : World) (hW : Below W1.heap.size W1 W) (a' : Option Addr) (c' : Nat) (hs : Sl W a' len (closeL p (joinPL l x y))) => withAll_own a a' len cap len c' p (closeL p (joinPL l x y)) W (HX.out W hW).2.2.1 hs hn120 hfewK
  have hmL := mergeG_len hN hP hx hy
  have HG : Hid (∀ (w5 w6 : World) (vb : Value) (xs : List Value), W1.heap.size ≤ w5.heap.size → w5.ownsRow W1.heap.size 3 1 vb len (vals (closeL p (joinPL l x y))) → Below w5.heap.size w5 w6 → w6.ownsRow w5.heap.size 57 3 (.slice (some ⟨w5.heap.size, 0, none⟩) len len) len xs → ECopy w5 w6 (withL (closeL p (joinPL l x y)) p) len xs → GOwn w6 true (fun b => W1.heap.size ≤ b) (.slice (some ⟨w5.heap.size, 0, none⟩) len len) vb (mergeG p l x y)) := fun w5 w6 vb xs hw1 hvb hb hxs hec => by
    have hcl : (closeL p (joinPL l x y)).length = len := by rw [closeL_len hN hJ]; exact hpl
    refine gown_copy (w := w5) (w1 := w6) (w2 := w6) hw1 (by rw [withL_len]; exact hpl) (fun i hi => by rw [withL_get _ p (by omega)]; simp only; rw [kidsL_len]; exact (hfewK i hi).1) hxs hec (Below.refl _ _) ?_ (fun x hx => .inl (hvb.lt x hx).2)
    rw [hcl]
    exact row_keep hvb hb
  have hBd : Below W1.heap.size W1 W1.drew := (Below.refl _ _).drew
  have zD := (HX.out W1.drew hBd).1
  have hm1 := hmL.1
  have hm2 := hmL.2
  have HS1 : Hid (W1.heap.size = w.heap.size + 2) := hs1
  generalize mergeG p l x y = M at HG hm1 hm2 ⊢
  generalize closeL p (joinPL l x y) = L at HCl HWi HG
  generalize withL L p = P at HWi HG
  generalize joinPL l x y = J at HFl HCl
  generalize unionL l x y = Un at HJo HFl
  clear h hl hb1 hs1 n0 n1 r0 r1 f0 f1 hJ hcp hfewK hjf hup hmL hN hP hI
  go_enter Tryd.func28, Tryd.ntmps28
  go_wp2_with fail
  (try rw [hW1])
  clear hW1
  go_region_held3 (fun w' => w'.cell? ⟨w.heap.size, 0, none⟩ = some (.slice a len cap) ∧ w'.cell? ⟨w.heap.size, 1, none⟩ = some (.slice b len cb))
    (first | with_reducible assumption | assumption)
    (first
    | (go_at_call 44; refine Calls.mono (HJo W1.drew hBd) ?_; rintro e v3 ⟨vj, rfl, hrj, hb3⟩; obtain ⟨aj, cj, rfl, hsj⟩ := Sl.vals hrj; have hB3 : Below W1.heap.size W1 v3 := hBd.trans (hb3.mono hBd.size); have z3 := (HX.out v3 hB3).1; clear hrj hb3)
    | (go_at_call 45; refine Calls.mono (HFl v3 aj cj hsj) ?_; rintro e v4 ⟨vf, rfl, hrf, hb4⟩; obtain ⟨af, cf, rfl, hsf⟩ := Sl.vals hrf; have hB4 : Below W1.heap.size W1 v4 := hB3.trans (hb4.mono hB3.size); have z4 := (HX.out v4 hB4).1; clear hrf hb4)
    | (go_at_call 36; refine Calls.mono (HCl v4 hB4 af cf hsf) ?_; rintro e v5 ⟨vc, rfl, hrc0, hb5⟩; have hrc := row_base6 hrc0 hB4.size; obtain ⟨ac, cc, rfl, hsc⟩ := Sl.vals hrc; have hB5 : Below W1.heap.size W1 v5 := hB4.trans (hb5.mono hB4.size); have z5 := (HX.out v5 hB5).1; clear hrc0 hb5))
  obtain ⟨z50, z51⟩ := z5
  have HW5 := (show Hid _ from HWi v5 hB5 ac cc hsc)
  have HC5 := (show Hid _ from hrc)
  have HB5 := (show Hid _ from hB5)
  clear HJo HFl HCl HWi zD z3 z4 hB3 hB4 hsj hsf hsc hrc hB5 hBd
  go_wp2_with fail
  refine Calls.mono HW5.out ?_
  rintro e v6 ⟨rfl, hb6, xs, hxs, hec⟩
  have hB6 : Below W1.heap.size W1 v6 := HB5.out.trans (hb6.mono HB5.out.size)
  obtain ⟨-, ⟨r0, r1, f0, f1⟩, -, -, hw6⟩ := HX.out v6 hB6
  have hG6 := HG.out v5 v6 _ xs HB5.out.size HC5.out hb6 hxs hec
  have HF : Hid (∀ v0 v1, GOwn ((v6.setCell ⟨w.heap.size + 1, 0, none⟩ v0).setCell ⟨w.heap.size + 1, 1, none⟩ v1) true (fun x => w.heap.size ≤ x) (.slice (some ⟨v5.heap.size, 0, none⟩) len len) (.slice ac len cc) M ∧ Below w.heap.size w ((v6.setCell ⟨w.heap.size + 1, 0, none⟩ v0).setCell ⟨w.heap.size + 1, 1, none⟩ v1)) := fun v0 v1 => by
    have h0 := HS1.out
    refine ⟨hG6.map (by rw [setCell_size, setCell_size]; exact Nat.le_refl _) (fun b hb hl => ?_) (fun b _ hb => by omega), (hw6.setCell (by show w.heap.size ≤ w.heap.size + 1; omega) _).setCell (by show w.heap.size ≤ w.heap.size + 1; omega) _⟩
    rw [setCell_block _ _ _ (show w.heap.size + 1 ≠ b by omega), setCell_block _ _ _ (show w.heap.size + 1 ≠ b by omega)]
  clear HW5 HC5 HB5 hb6 hxs hec hB6 hw6 hG6 HG HX z50 z51
  go_wp2
  refine bodyPost_ret (v := .agg #[.slice (some ⟨v5.heap.size, 0, none⟩) len len, .slice ac len cc]) ?_ ?_ ?_
  · simp [results, Tryd.results28, go_sem, *]
  · rfl
  · exact ⟨_, _, rfl, (HF.out _ _).1, (HF.out _ _).2⟩
end Go.Proofs.YthkjmgjajmghmaaDoor
namespace Go.Proofs.YthkjmgjajmghmaaDoor
set_option linter.unusedVariables false

/-- What a node comes to: none where it comes to nothing. -/
abbrev Cls := GS → Int × Int → List Int → Option (GS × Int)
def stepO (cls : Cls) (s : GS × List Int) (n : Int × Int) : Option (GS × List Int) := (cls s.1 n (s.2.drop (s.2.length - (ar n.1).toNat))).map fun r => (r.1, s.2.take (s.2.length - (ar n.1).toNat) ++ [r.2])
def runO (cls : Cls) : List (Int × Int) → GS × List Int → Option (GS × List Int)
  | [], s => some s
  | n :: t, s => (stepO cls s n).bind (runO cls t)
theorem runO_drop (cls : Cls) (t : List (Int × Int)) (k : Nat) (s : GS × List Int) (h : k < t.length) : runO cls (t.drop k) s = (stepO cls s (t.getD k (0, 0))).bind (runO cls (t.drop (k + 1))) := by
  have e : t.getD k (0, 0) = t[k] := by rw [List.getD_eq_getElem?_getD, List.getElem?_eq_getElem h]; rfl
  rw [List.drop_eq_getElem_cons h, e]; rfl
/-- What holds of the graph that comes out. -/
def AllR (o : Option (GS × List Int)) (P : GS → Prop) : Prop := ∀ r, o = some r → P r.1
/-- A node fits a graph and its kids are classes. -/
structure NFits (g : GS) (n : Int × Int) (kids : List Int) : Prop where
  ok : nodeOk n.1 n.2 kids.length = true
  num : InI n.2
  cl : ∀ c ∈ kids, IsCl g c
/-- A part of a function that keeps graphs good. -/
structure Keeps (cls : Cls) : Prop where
  good : ∀ g n kids r, GoodG g → g.1.length ≤ 120 → NFits g n kids → cls g n kids = some r → GoodG r.1 ∧ IsCl r.1 r.2 ∧ (∀ c, IsCl g c → IsCl r.1 c) ∧ r.1.1.length ≤ 120
theorem stepO_none {cls : Cls} {g : GS} {Q : List Int} {n : Int × Int} (h : cls g n (Q.drop (Q.length - (ar n.1).toNat)) = none) : stepO cls (g, Q) n = none := by unfold stepO; simp only; rw [h]; rfl
theorem stepO_some {cls : Cls} {g : GS} {Q : List Int} {n : Int × Int} {r : GS × Int} (h : cls g n (Q.drop (Q.length - (ar n.1).toNat)) = some r) : stepO cls (g, Q) n = some (r.1, Q.take (Q.length - (ar n.1).toNat) ++ [r.2]) := by unfold stepO; simp only; rw [h]; rfl
theorem vals_take (l : List Int) (n : Nat) : vals (l.take n) = (vals l).take n := by simp [vals, List.map_take]
theorem own_cut {w : World} {base e g n n' cap : Nat} {xs : List Value} (h : w.ownsRow base e 1 (.slice (some ⟨g, 0, none⟩) n cap) n xs) (hn : n' ≤ n) : w.ownsRow base e 1 (.slice (some ⟨g, 0, none⟩) n' cap) n' (xs.take n') := by
  have hl := h.1
  refine ⟨by rw [List.length_take]; omega, ?_⟩
  rcases h.2 with ⟨e', _⟩ | ⟨g', cap', cur, e', hb, hg, hc, hm, hs, ht⟩
  · cases e'
  · cases e'
    refine .inr ⟨g, cap, cur, rfl, hb, hg, by omega, hm, hs, ?_⟩
    rw [← ht, List.take_take]
    congr 1
    omega
/-- The last of a pile as a slice of its own. -/
theorem sl_last {w : World} {g n cp L m : Nat} {Q : List Int} (h : w.ownsRow 0 3 1 (.slice (some ⟨g, 0, none⟩) n cp) n (vals Q)) (hL : n = L + m) : Sl w (if cp = L then some ⟨g, 0, none⟩ else some ⟨g, L, none⟩) m (Q.drop L) := by
  have hl := h.1
  rw [vals_len] at hl
  refine ⟨by rw [List.length_drop]; omega, ?_⟩
  by_cases hm : m = 0
  · exact .inl hm
  · have hc : n ≤ cp := by
      rcases h.2 with ⟨e', _⟩ | ⟨g', cap', cur, e', hb, hg, hc, _⟩
      · cases e'
      · cases e'; exact hc
    rw [if_neg (by omega)]
    refine .inr ⟨g, L, rfl, (h.lt g rfl).2, fun i hi => ?_⟩
    rw [h.cellAt (L + i) (by omega)]
    simp [vals, List.getD_eq_getElem?_getD, List.getElem?_drop, show L + i < Q.length by omega]
end Go.Proofs.YthkjmgjajmghmaaDoor
