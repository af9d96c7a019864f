/-
  PROVED HERE: what the model's l6Merge answers at a good graph. No other condition. what the program's Merge answers, at every graph and every two numbers; the table of arities is laid. No other condition.
-/
import Derived.Test.YthkjmgjajmghmaaDoorRun33
import Derived.Test.YthkjmgjajmghmaaDoorA6AddLaw
import Derived.Test.YthkjmgjajmghmaaDoorRun34
import Derived.Test.YthkjmgjajmghmaaDoorC6ClosedF
import Derived.Test.YthkjmgjajmghmaaDoorRun9
import Derived.Test.YthkjmgjajmghmaaDoorRun22
import Derived.Test.YthkjmgjajmghmaaDoorRun40
namespace Go.Proofs.YthkjmgjajmghmaaDoor
open Go.ChangeShapes Go.WideShapes Go.ChangeAt Go.RowKit
set_option linter.unusedVariables false

/-- The model's copy on its way: the kids of the first k nodes are by their classes. -/
structure MidM (B : Nat) (W : World) (g len cg : Nat) (ap : Option Addr) (cp : Nat) (p : List EN) (L : List Int) (k : Nat) (xs : List Value) : Prop where
  row : W.ownsRow 0 57 3 (.slice (some ⟨g, 0, none⟩) len cg) len xs
  parts : Sl W ap len L
  pb : ∀ x, (Value.slice ap len cp).ownBlock = some x → x ≠ g ∧ B ≤ x
  nodes : ∀ i, i < len → xs[i * 3]? = some (.int .i64 (p.getD i e0).1) ∧ xs[i * 3 + 1]? = some (.int .i64 (p.getD i e0).2.1) ∧ ∃ a c, xs[i * 3 + 2]? = some (.slice a (p.getD i e0).2.2.length c) ∧ (p.getD i e0).2.2.length ≤ c ∧ Sl W a (p.getD i e0).2.2.length (if i < k then kidsL L (p.getD i e0).2.2 else (p.getD i e0).2.2) ∧ ∀ x, (Value.slice a (p.getD i e0).2.2.length c).ownBlock = some x → x ≠ g ∧ B ≤ x
theorem MidM.keep {B : Nat} {W W' : World} {g len cg : Nat} {ap : Option Addr} {cp : Nat} {p : List EN} {L : List Int} {k : Nat} {xs : List Value} (h : MidM B W g len cg ap cp p L k xs) (hb : Below W.heap.size W W') : MidM B W' g len cg ap cp p L k xs :=
  ⟨row_keep h.row hb, h.parts.keep hb, h.pb, fun i hi => by
    obtain ⟨k1, k2, a, c, k3, k4, k5, k6⟩ := h.nodes i hi
    exact ⟨k1, k2, a, c, k3, k4, k5.keep hb, k6⟩⟩
theorem sl_set {W : World} {a : Option Addr} {n c : Nat} {l : List Int} (h : Sl W a n l) {g : Nat} (hn : ∀ x, (Value.slice a n c).ownBlock = some x → x ≠ g) (o : Nat) (v : Value) : Sl (W.setCell ⟨g, o, none⟩ v) a n l :=
  sl_block h (fun x hx hl => heap_setCell_other W ⟨g, o, none⟩ x v (by
    have := hn x (by rw [own_slice a n c n n]; exact hx)
    exact this)) (by simp)
theorem MidM.step {B : Nat} {W : World} {g len cg : Nat} {ap : Option Addr} {cp : Nat} {p : List EN} {L : List Int} {k : Nat} {xs : List Value} (h : MidM B W g len cg ap cp p L k xs) (hk : k < len) {a : Option Addr} {c : Nat} (hs : Sl W a (p.getD k e0).2.2.length (kidsL L (p.getD k e0).2.2)) (hc : (p.getD k e0).2.2.length ≤ c) (hn : ∀ x, (Value.slice a (p.getD k e0).2.2.length c).ownBlock = some x → x ≠ g ∧ B ≤ x) :
    MidM B (W.setCell ⟨g, k * 3 + 2, none⟩ (.slice a (p.getD k e0).2.2.length c)) g len cg ap cp p L (k + 1) (xs.set (k * 3 + 2) (.slice a (p.getD k e0).2.2.length c)) := by
  have hxl : xs.length = len * 3 := h.row.1
  refine ⟨(h.row.stored (k * 3 + 2) _).1, sl_set h.parts (fun x hx => (h.pb x hx).1) _ _, h.pb, fun i hi => ?_⟩
  obtain ⟨k1, k2, a', c', k3, k4, k5, k6⟩ := h.nodes i hi
  refine ⟨by rw [List.getElem?_set_ne (by omega)]; exact k1, by rw [List.getElem?_set_ne (by omega)]; exact k2, ?_⟩
  by_cases e : i = k
  · subst e
    refine ⟨a, c, by rw [List.getElem?_set_self (by omega)], hc, ?_, hn⟩
    rw [if_pos (by omega)]
    exact sl_set hs (fun x hx => (hn x hx).1) _ _
  · refine ⟨a', c', by rw [List.getElem?_set_ne (by omega)]; exact k3, k4, ?_, k6⟩
    have : (if i < k + 1 then kidsL L (p.getD i e0).2.2 else (p.getD i e0).2.2) = (if i < k then kidsL L (p.getD i e0).2.2 else (p.getD i e0).2.2) := by
      by_cases e1 : i < k
      · rw [if_pos e1, if_pos (by omega)]
      · rw [if_neg e1, if_neg (by omega)]
    rw [this]
    exact sl_set k5 (fun x hx => (k6 x hx).1) _ _
theorem MidM.done {B : Nat} {W : World} {g len cg : Nat} {ap : Option Addr} {cp : Nat} {p : List EN} {L : List Int} {xs : List Value} (h : MidM B W g len cg ap cp p L len xs) (hp : p.length = len) (h3 : ∀ i, i < len → (p.getD i e0).2.2.length ≤ 3) (hg : g < W.heap.size) : ESl W (some ⟨g, 0, none⟩) len (withL L p) := by
  refine ⟨by rw [withL_len]; exact hp, .inr ⟨g, 0, rfl, hg, fun i hi => ?_⟩⟩
  obtain ⟨k1, k2, a, c, k3, k4, k5, k6⟩ := h.nodes i hi
  rw [if_pos hi] at k5
  have := h3 i hi
  refine ⟨a, (p.getD i e0).2.2.length, c, ?_, ?_, ?_, by omega, k4, ?_⟩
  · rw [Nat.zero_add, withL_get L p (by omega), h.row.cellAt (i * 3) (by omega)]; exact k1
  · rw [Nat.zero_add, withL_get L p (by omega), h.row.cellAt (i * 3 + 1) (by omega)]; exact k2
  · rw [Nat.zero_add, h.row.cellAt (i * 3 + 2) (by omega)]; exact k3
  · rw [withL_get L p (by omega)]; exact k5
theorem MidM.out {B : Nat} {W : World} {g len cg : Nat} {ap : Option Addr} {cp : Nat} {p : List EN} {L : List Int} {k : Nat} {xs : List Value} (h : MidM B W g len cg ap cp p L k xs) {q : Nat} (hq : q < B) (hg : B ≤ g) (o : Nat) (v : Value) : MidM B (W.setCell ⟨q, o, none⟩ v) g len cg ap cp p L k xs :=
  ⟨ownsRow_setCell_other h.row (by simp [Value.ownBlock]; omega) v, sl_set h.parts (fun x hx => by have := (h.pb x hx).2; omega) _ _, h.pb, fun i hi => by
    obtain ⟨k1, k2, a, c, k3, k4, k5, k6⟩ := h.nodes i hi
    exact ⟨k1, k2, a, c, k3, k4, sl_set k5 (fun x hx => by have := (k6 x hx).2; omega) _ _, k6⟩⟩
theorem MidM.map {B : Nat} {W W' : World} {g len cg : Nat} {ap : Option Addr} {cp : Nat} {p : List EN} {L : List Int} {k : Nat} {xs : List Value} (h : MidM B W g len cg ap cp p L k xs) (hg : B ≤ g) (hs : W.heap.size ≤ W'.heap.size) (hk : ∀ b, B ≤ b → b < W.heap.size → W'.heap[b]? = W.heap[b]?) : MidM B W' g len cg ap cp p L k xs :=
  ⟨row_map h.row (fun x hx hl => hk x (by have e : some g = some x := hx; injection e with e; omega) hl), sl_block h.parts (fun x hx hl => hk x (h.pb x (by rw [own_slice ap len cp len len]; exact hx)).2 hl) hs, h.pb, fun i hi => by
    obtain ⟨k1, k2, a, c, k3, k4, k5, k6⟩ := h.nodes i hi
    exact ⟨k1, k2, a, c, k3, k4, sl_block k5 (fun x hx hl => hk x (k6 x (by rw [own_slice a _ c _ (p.getD i e0).2.2.length]; exact hx)).2 hl) hs, k6⟩⟩
/-- An answer that is read wherever the blocks of S stay. -/
def SafeM (w : World) (S : Nat → Prop) (va vb : Value) (g : GS) : Prop := ∀ w', w.heap.size ≤ w'.heap.size → (∀ b, S b → b < w.heap.size → w'.heap[b]? = w.heap[b]?) → ReadG w' va vb g
theorem MidM.start {B : Nat} {W : World} {va vb : Value} {p : List EN} {l : List Int} {S : Nat → Prop} {len : Nat} (hSB : ∀ x, S x → B ≤ x) (h : GOwn W false S va vb (p, l)) (hp : p.length = len) (h0 : 0 < len) {ap : Option Addr} {cp : Nat} {L : List Int} (hL : Sl W ap len L) : ∃ g cg xs, va = .slice (some ⟨g, 0, none⟩) len cg ∧ S g ∧ g < W.heap.size ∧ ((∀ x, (Value.slice ap len cp).ownBlock = some x → x ≠ g ∧ B ≤ x) → MidM B W g len cg ap cp p L 0 xs) := by
  obtain ⟨xs, kv, h1, h2, h3, h4, h5⟩ := h
  subst hp
  obtain ⟨g, cg, rfl, hg⟩ : ∃ g cg, va = .slice (some ⟨g, 0, none⟩) p.length cg ∧ g < W.heap.size := by
    rcases h1.2 with ⟨_, h0'⟩ | ⟨g, cap, cur, e, _, hg, _⟩
    · simp only at h0'; omega
    · exact ⟨g, cap, e, (Array.getElem?_eq_some_iff.1 hg).1⟩
  refine ⟨g, cg, xs, rfl, (h3 g rfl).1, hg, fun hpb => ⟨h1, hL, hpb, fun i hi => ?_⟩⟩
  obtain ⟨k1, k2, k3, a, c, e, q1, q2, q3, q4, _⟩ := h5 i hi
  simp only at k1 k2 k3 q1 q2 q3 q4 e
  rw [e] at k3 q4
  refine ⟨k1, k2, a, c, k3, q1, ?_, fun x hx => ?_⟩
  · rw [if_neg (Nat.not_lt_zero _)]; exact q3
  · have := (q4 x hx).1.2.1
    refine ⟨fun e2 => ?_, hSB x (q4 x hx).1.1⟩
    subst e2
    exact this rfl
set_option maxHeartbeats 6400000 in
set_option maxRecDepth 20000 in
theorem specMerged_any {p : List EN} {l : List Int} (hN : nodesB p = true) (hP : PartsN p.length l) (a b : Option Addr) (len cap cb : Nat) {x y : Nat} (hx : x < p.length) (hy : y < p.length) (w : World) (h : ESl w a len p) (hl : Sl w b len l) :
    Calls Tryd.prog 25 #[.agg #[.slice a len cap, .slice b len cb], .int .i64 x, .int .i64 y] w fun e w' => ∃ va vb, e = .returned (.agg #[va, vb]) ∧ SafeM w' (fun b => w.heap.size ≤ b) va vb (mergeG p l x y) ∧ Below w.heap.size w w' := by
  have hpl : p.length = len := h.1
  have hll : l.length = len := hl.1
  have hn120 : len ≤ 120 := by have := ((nodesB_iff p).1 hN).1; omega
  have hJ := joinPL_parts hP hx hy
  have hlen0 : 0 < len := by omega
  have hfew : ∀ i, i < len → (p.getD i e0).2.2.length ≤ 3 := fun i hi => fit_few (((nodesB_iff p).1 hN).2 i (by omega))
  have hkid : ∀ i, i < len → ∀ j, j < (p.getD i e0).2.2.length → ∃ z : Nat, (p.getD i e0).2.2.getD j 0 = z ∧ z < len := fun i hi j hj => by
    obtain ⟨z, h1, h2⟩ := kid_natI (k := i) (j := j) hN (by omega) hj
    exact ⟨z, h1, by omega⟩
  obtain ⟨W1, hW1⟩ : ∃ W1, (w.alloc (.cells #[.slice a len cap, .slice b len cb] 29)).alloc (.cells #[.slice none 0 0, .slice none 0 0] 29) = W1 := ⟨_, rfl⟩
  have hb1 : Below w.heap.size w W1 := by rw [← hW1]; exact ((Below.refl _ _).alloc (Nat.le_refl _) _).alloc (by simp) _
  have hs1 : W1.heap.size = w.heap.size + 2 := by rw [← hW1]; simp
  have n0 : W1.cell? ⟨w.heap.size, 0, none⟩ = some (.slice a len cap) := by rw [← hW1]; simp [go_sem]
  have n1 : W1.cell? ⟨w.heap.size, 1, none⟩ = some (.slice b len cb) := by rw [← hW1]; simp [go_sem]
  have r0 : W1.cell? ⟨w.heap.size + 1, 0, none⟩ = some (.slice none 0 0) := by rw [← hW1]; simp [go_sem]
  have r1 : W1.cell? ⟨w.heap.size + 1, 1, none⟩ = some (.slice none 0 0) := by rw [← hW1]; simp [go_sem]
  have f0 : W1.frozen? ⟨w.heap.size + 1, 0, none⟩ = false := by rw [← hW1]; simp [go_sem]
  have f1 : W1.frozen? ⟨w.heap.size + 1, 1, none⟩ = false := by rw [← hW1]; simp [go_sem]
  have HX : Hid (∀ W, Below W1.heap.size W1 W → (W.cell? ⟨w.heap.size, 0, none⟩ = some (.slice a len cap) ∧ W.cell? ⟨w.heap.size, 1, none⟩ = some (.slice b len cb)) ∧ (W.cell? ⟨w.heap.size + 1, 0, none⟩ = some (.slice none 0 0) ∧ W.cell? ⟨w.heap.size + 1, 1, none⟩ = some (.slice none 0 0) ∧ W.frozen? ⟨w.heap.size + 1, 0, none⟩ = false ∧ W.frozen? ⟨w.heap.size + 1, 1, none⟩ = false) ∧ ESl W a len p ∧ Sl W b len l ∧ Below w.heap.size w W) := fun W hW => ⟨⟨(hW.cell (p := ⟨w.heap.size, 0, none⟩) (by show w.heap.size < _; omega)).trans n0, (hW.cell (p := ⟨w.heap.size, 1, none⟩) (by show w.heap.size < _; omega)).trans n1⟩, ⟨(hW.cell (p := ⟨w.heap.size + 1, 0, none⟩) (by show w.heap.size + 1 < _; omega)).trans r0, (hW.cell (p := ⟨w.heap.size + 1, 1, none⟩) (by show w.heap.size + 1 < _; omega)).trans r1, (hW.frozen (p := ⟨w.heap.size + 1, 0, none⟩) (by show w.heap.size + 1 < _; omega)).trans f0, (hW.frozen (p := ⟨w.heap.size + 1, 1, none⟩) (by show w.heap.size + 1 < _; omega)).trans f1⟩, (h.keep hb1).keep hW, (hl.keep hb1).keep hW, hb1.trans (hW.mono hb1.size)⟩
  have HO := (show Hid _ from l6Own_any a b len cap len cb p l W1 (h.keep hb1) (hl.keep hb1) (by omega) (by omega) hfew)
  have HJo := fun (W : World) (hW : Below W1.heap.size W1 W) => l5Join_any b len cb l x y W (HX.out W hW).2.2.2.1 (par_nonneg hP) (by omega) (by omega) (by omega)
  have HCl := fun (W : World) (hW : Below W1.heap.size W1 W) (a' : Option Addr) (c' : Nat) (hs : Sl W a' len (joinPL l x y)) => specCloseF_any hN hJ a a' len cap c' W (HX.out W hW).2.2.1 hs
  have hLl := closeL_len hN hJ
  have HH : Hid (p.length = len ∧ (closeL p (joinPL l x y)).length = len ∧ W1.heap.size = w.heap.size + 2 ∧ mergeG p l x y = (withL (closeL p (joinPL l x y)) p, closeL p (joinPL l x y)) ∧ (∀ i, i < len → (p.getD i e0).2.2.length ≤ 3) ∧ ∀ i, i < len → ∀ j, j < (p.getD i e0).2.2.length → ∃ z : Nat, (p.getD i e0).2.2.getD j 0 = z ∧ z < len) := ⟨hpl, by rw [hLl]; exact hpl, hs1, rfl, hfew, hkid⟩
  generalize mergeG p l x y = M at HH ⊢
  generalize closeL p (joinPL l x y) = L at HCl HH
  generalize joinPL l x y = J at HJo HCl
  clear h hl hb1 hs1 r0 r1 f0 f1 hJ hLl hfew hkid hN hP hpl hll
  go_enter Tryd.func25, Tryd.ntmps25
  go_wp2_with fail
  (try rw [hW1])
  refine Calls.mono HO.out ?_
  rintro e w2 ⟨va, vb, rfl, hG2, hb2⟩
  obtain ⟨ga, ca, gb, cb2, rfl, rfl, _, _⟩ := hG2.reads
  clear HO hW1 n0 n1
  obtain ⟨W3, hW3⟩ : ∃ W3, w2.alloc (.cells #[.slice ga p.length ca, .slice gb l.length cb2] 29) = W3 := ⟨_, rfl⟩
  have hb3 : Below w2.heap.size w2 W3 := by rw [← hW3]; exact (Below.refl _ _).alloc (Nat.le_refl _) _
  have o0 : W3.cell? ⟨w2.heap.size, 0, none⟩ = some (.slice ga p.length ca) := by rw [← hW3]; simp [go_sem]
  have o1 : W3.cell? ⟨w2.heap.size, 1, none⟩ = some (.slice gb l.length cb2) := by rw [← hW3]; simp [go_sem]
  have of0 : W3.frozen? ⟨w2.heap.size, 1, none⟩ = false := by rw [← hW3]; simp [go_sem]
  have hs3 : w2.heap.size < W3.heap.size := by rw [← hW3]; simp
  have hB3 : Below W1.heap.size W1 W3 := hb2.trans (hb3.mono hb2.size)
  have HG3 := (show Hid _ from (hG2.sets (S' := fun x => W1.heap.size ≤ x ∧ x < w2.heap.size) (fun b hb h => ⟨h, hb⟩)).keep hb3)
  have HB23 := (show Hid _ from hs3)
  have hs2 := hb2.size
  have HB3 : Hid (Below W1.heap.size W1 W3) := hB3
  have hBd : Below W1.heap.size W1 W3.drew := hB3.drew
  have HO3 : Hid (∀ W, Below W3.heap.size W3 W → W.cell? ⟨w2.heap.size, 0, none⟩ = some (.slice ga p.length ca) ∧ W.cell? ⟨w2.heap.size, 1, none⟩ = some (.slice gb l.length cb2) ∧ W.frozen? ⟨w2.heap.size, 1, none⟩ = false) := fun W hW => ⟨(hW.cell (p := ⟨w2.heap.size, 0, none⟩) hs3).trans o0, (hW.cell (p := ⟨w2.heap.size, 1, none⟩) hs3).trans o1, (hW.frozen (p := ⟨w2.heap.size, 1, none⟩) hs3).trans of0⟩
  have hDd : Below W3.heap.size W3 W3.drew := (Below.refl _ _).drew
  have HXc := fun (W : World) (hW : Below W1.heap.size W1 W) => (HX.out W hW).1
  have zD := HXc W3.drew hBd
  obtain ⟨t0, t1⟩ := HXc W3 hB3
  have hne : ∀ o o' : Nat, (⟨w2.heap.size, o, none⟩ : Addr) ≠ ⟨w.heap.size, o', none⟩ := fun o o' e => by injection e; have := HH.out.2.2.1; omega
  have HSet : Hid (∀ (W : World) (v : Value), W.cell? ⟨w.heap.size, 0, none⟩ = some (.slice a len cap) ∧ W.cell? ⟨w.heap.size, 1, none⟩ = some (.slice b len cb) → (W.setCell ⟨w2.heap.size, 1, none⟩ v).cell? ⟨w.heap.size, 0, none⟩ = some (.slice a len cap) ∧ (W.setCell ⟨w2.heap.size, 1, none⟩ v).cell? ⟨w.heap.size, 1, none⟩ = some (.slice b len cb)) := fun W v hW => ⟨(World.cell?_setCell_other _ _ _ _ (hne 1 0)).trans hW.1, (World.cell?_setCell_other _ _ _ _ (hne 1 1)).trans hW.2⟩
  clear hb2 hB3 o0 o1 of0 hs3 hb3 hG2
  go_wp2_with fail
  (try rw [hW3])
  clear hW3
  go_region_held3 (fun w' => w'.cell? ⟨w.heap.size, 0, none⟩ = some (.slice a len cap) ∧ w'.cell? ⟨w.heap.size, 1, none⟩ = some (.slice b len cb))
    (first | with_reducible assumption | assumption | exact sS _)
    (first
    | (go_at_call 40; refine Calls.mono (HJo W3.drew hBd) ?_; rintro e v4 ⟨vj, rfl, hrj, hb4⟩; obtain ⟨aj, cj, rfl, hsj⟩ := Sl.vals hrj; have hB4 : Below W1.heap.size W1 v4 := hBd.trans (hb4.mono hBd.size); have hD4 : Below W3.heap.size W3 v4 := hDd.trans (hb4.mono hDd.size); have z4 := HXc v4 hB4; clear hrj hb4)
    | (go_at_call 33; refine Calls.mono (HCl v4 hB4 aj cj hsj) ?_; rintro e v5 ⟨ap, cp, rfl, hsp, hb5, hfr⟩; have hB5 : Below W1.heap.size W1 v5 := hB4.trans (hb5.mono hB4.size); have hD5 : Below W3.heap.size W3 v5 := hD4.trans (hb5.mono hD4.size); have z5 := HXc v5 hB5; have sS := fun v : Value => HSet.out v5 v z5; obtain ⟨y0, y1, y2⟩ := HO3.out v5 hD5; clear hb5))
  obtain ⟨hpl, hLl, hs1, hM, hfew, hkid⟩ := HH.out
  have hG3 : GOwn W3 false (fun x => W1.heap.size ≤ x ∧ x < w2.heap.size) (.slice ga p.length ca) (.slice gb l.length cb2) (p, l) := HG3.out
  have hG5 := GOwn.keep hG3 hD5
  have hB2lt : w2.heap.size < v4.heap.size := Nat.lt_of_lt_of_le HB23.out hD4.size
  obtain ⟨W6, hW6⟩ : ∃ W6, v5.setCell ⟨w2.heap.size, 1, none⟩ (.slice ap len cp) = W6 := ⟨_, rfl⟩
  have hB6 : Below W1.heap.size W1 W6 := by rw [← hW6]; exact hB5.setCell (by show W1.heap.size ≤ w2.heap.size; omega) _
  have hz6 : W6.heap.size = v5.heap.size := by rw [← hW6, setCell_size]
  have hG6 : GOwn W6 false (fun x => W1.heap.size ≤ x ∧ x < w2.heap.size) (.slice ga p.length ca) (.slice gb l.length cb2) (p, l) := hG5.map (by omega) (fun b hb hl => by rw [← hW6]; exact setCell_block _ _ _ (show w2.heap.size ≠ b by omega)) (fun _ _ h => h)
  have hS6 : Sl W6 ap len L := by rw [← hW6]; exact sl_set hsp (fun x hx e => by have := hfr x hx; omega) _ _
  obtain ⟨g, cg, xs0, hga, hgS, hgl, hMid⟩ := MidM.start (B := W1.heap.size) (fun x hx => hx.1) hG6 hpl hlen0 hS6 (cp := cp)
  have hM0 := hMid (fun x hx => by have := hfr x hx; omega)
  injection hga with hga1 hga2 hga3
  subst hga1
  subst hga3
  have b0 : W6.cell? ⟨w2.heap.size, 0, none⟩ = some (.slice (some ⟨g, 0, none⟩) len ca) := by rw [← hW6, World.cell?_setCell_other _ _ _ _ (fun e => by injection e; omega), y0, hpl]
  have b1 : W6.cell? ⟨w2.heap.size, 1, none⟩ = some (.slice ap len cp) := by rw [← hW6]; simp [go_sem, y1]
  have HR6 := (show Hid _ from hM0)
  have hgB : g < w2.heap.size := hgS.2
  have hB2l : w2.heap.size < W6.heap.size := by have := Nat.lt_of_lt_of_le HB23.out hD5.size; omega
  rw [hpl]
  rw [hW6]
  clear hG3 hG5 hG6 hS6 hMid HG3 HB23 HJo HCl HSet HO3 hW6 y0 y1 y2 sS z4 z5 zD t0 t1 HB3 hBd hDd hD4 hD5 hsj hsp hfr hB4 hne hpl hLl hM hfew hkid
  go_wp2_with fail
  generalize w2.heap.size = B2 at *
  go_loopw [24] (fun i wr => ∃ (k : Nat), k ≤ len ∧ i = .int .i64 k ∧ wr.cell? ⟨B2, 0, none⟩ = some (.slice (some ⟨g, 0, none⟩) len ca) ∧ wr.cell? ⟨B2, 1, none⟩ = some (.slice ap len cp) ∧ Hid (∃ xs, MidM W1.heap.size wr g len ca ap cp p L k xs) ∧ B2 < wr.heap.size ∧ Below W1.heap.size W1 wr) (fun i _ => len - (intOf i).toNat)
  case atStart => exact ⟨0, Nat.zero_le _, rfl, b0, b1, ⟨_, HR6.out⟩, hB2l, hB6⟩
  case round =>
    obtain ⟨k, hk, rfl, s0, s1, hT, hwl, hbr⟩ := hrel
    obtain ⟨wo, rfl⟩ : ∃ x, x = wr := ⟨_, rfl⟩
    clear b0 b1 HR6 hB6 hB2l hz6
    by_cases hlt : k < len
    · obtain ⟨xs, hM⟩ := hT.out
      obtain ⟨k1, k2, ai, ci, k3, k4, k5, k6⟩ := hM.nodes k hlt
      rw [if_neg (Nat.lt_irrefl _)] at k5
      have hxl : xs.length = len * 3 := hM.row.1
      have c1 := (hM.row.cellAt (k * 3) (by omega)).trans k1
      have c2 := (hM.row.cellAt (k * 3 + 1) (by omega)).trans k2
      have c3 := (hM.row.cellAt (k * 3 + 2) (by omega)).trans k3
      have hstep := fun (W : World) (h : MidM W1.heap.size W g len ca ap cp p L k xs) (a : Option Addr) (c : Nat) => h.step hlt (a := a) (c := c)
      have hkk := HH.out.2.2.2.2.2 k hlt
      have hk3 := HH.out.2.2.2.2.1 k hlt
      obtain ⟨y, hy⟩ : ∃ y, p.getD k e0 = y := ⟨_, rfl⟩
      rw [hy] at c1 c2 c3 k5 hkk hk3 hstep
      obtain ⟨yo, yn, yk⟩ := y
      simp only at c1 c2 c3 k5 hkk hk3 hstep
      have hkl : (k : Int) < len := by omega
      obtain ⟨B5, hB5⟩ : ∃ B5, wo.heap.size = B5 := ⟨_, rfl⟩
      obtain ⟨W2, hW2⟩ : ∃ W2, wo.alloc (.cells #[.int .i64 yo, .int .i64 yn, .slice ai yk.length ci] 57) = W2 := ⟨_, rfl⟩
      have hb2 : Below wo.heap.size wo W2 := by rw [← hW2]; exact (Below.refl _ _).alloc (Nat.le_refl _) _
      have hs2 : W2.heap.size = wo.heap.size + 1 := by rw [← hW2]; simp
      have o2 : W2.cell? ⟨wo.heap.size, 2, none⟩ = some (.slice ai yk.length ci) := by rw [← hW2]; simp [go_sem]
      rw [hB5] at o2
      have hglt : g < wo.heap.size := by omega
      have hne5 : ¬ B2 = B5 := by omega
      have hg5 : ¬ g = B5 := by omega
      have hgB2 : ¬ g = B2 := by omega
      have hBW : Below W1.heap.size W1 W2 := hbr.trans (hb2.mono hbr.size)
      have HC : Hid (∀ W, Below W2.heap.size W2 W → (W.cell? ⟨B2, 0, none⟩ = some (.slice (some ⟨g, 0, none⟩) len ca) ∧ W.cell? ⟨B2, 1, none⟩ = some (.slice ap len cp)) ∧ W.cell? ⟨B5, 2, none⟩ = some (.slice ai yk.length ci)) := fun W hW => by
        have hX := hb2.trans (hW.mono hb2.size)
        exact ⟨⟨(hX.cell (p := ⟨B2, 0, none⟩) hwl).trans s0, (hX.cell (p := ⟨B2, 1, none⟩) hwl).trans s1⟩, (hW.cell (p := ⟨B5, 2, none⟩) (by show B5 < _; omega)).trans o2⟩
      have HO : Hid (∀ W, Below W2.heap.size W2 W → Calls Tryd.prog 41 #[.slice ap len cp, .slice ai yk.length ci] W fun e w' => ∃ v : Value, e = .returned v ∧ w'.ownsRow W.heap.size 3 1 v yk.length (vals (kidsL L yk)) ∧ Below W.heap.size W w') := fun W hW => by
        have hX := hb2.trans (hW.mono hb2.size)
        exact spKids_any ap ai len cp yk.length ci L yk W (hM.parts.keep hX) (k5.keep hX) (by omega) hkk
      have HR : Hid (∀ (W : World) (ka : Option Addr) (kc : Nat), Below W2.heap.size W2 W → W.ownsRow W2.heap.size 3 1 (.slice ka yk.length kc) yk.length (vals (kidsL L yk)) →
          ((W.cell? ⟨g, k * 3 + 2, none⟩ = some (.slice ai yk.length ci) ∧ W.frozen? ⟨g, k * 3 + 2, none⟩ = false) ∧
          (∀ v, ((W.setCell ⟨g, k * 3 + 2, none⟩ v).cell? ⟨B2, 0, none⟩ = some (.slice (some ⟨g, 0, none⟩) len ca) ∧ (W.setCell ⟨g, k * 3 + 2, none⟩ v).cell? ⟨B2, 1, none⟩ = some (.slice ap len cp)) ∧ (W.setCell ⟨g, k * 3 + 2, none⟩ v).cell? ⟨B5, 2, none⟩ = some (.slice ai yk.length ci)) ∧
          Hid (∃ xs', MidM W1.heap.size (W.setCell ⟨g, k * 3 + 2, none⟩ (.slice ka yk.length kc)) g len ca ap cp p L (k + 1) xs' ∧ B2 < (W.setCell ⟨g, k * 3 + 2, none⟩ (.slice ka yk.length kc)).heap.size ∧ Below W1.heap.size W1 (W.setCell ⟨g, k * 3 + 2, none⟩ (.slice ka yk.length kc))))) := fun W ka kc hW hkv => by
        have hX := hb2.trans (hW.mono hb2.size)
        have hMW := hM.keep hX
        obtain ⟨⟨x0, x1⟩, x2⟩ := HC.out W hW
        obtain ⟨ka', kc', e', hsl⟩ := Sl.vals hkv
        injection e' with e1 e2 e3
        subst e1
        subst e3
        have hkc : yk.length ≤ kc := by
          rcases hkv.2 with ⟨h0, h1⟩ | ⟨g', cap', cur, h0, h1⟩
          · omega
          · injection h0 with h2 h3 h4
            have := h1.2
            obtain ⟨_, h5, _⟩ := this
            omega
        have nq : ∀ b o, b ≠ g → (⟨g, k * 3 + 2, none⟩ : Addr) ≠ ⟨b, o, none⟩ := fun b o h e => by injection e; omega
        have hws := hX.size
        refine ⟨⟨by rw [hMW.row.cellAt (k * 3 + 2) (by omega)]; have := k3; rw [hy] at this; exact this, hMW.row.frozenAt (k * 3 + 2)⟩, fun v => ⟨⟨?_, ?_⟩, ?_⟩, _, hstep W hMW ka kc hsl hkc (fun x hx => by have h8 := hkv.lt x hx; have h9 := hBW.size; omega), by rw [setCell_size]; omega, (hbr.trans (hX.mono hbr.size)).setCell (by show W1.heap.size ≤ g; exact hgS.1) _⟩
        · rw [World.cell?_setCell_other _ _ _ _ (nq _ _ (by omega))]; exact x0
        · rw [World.cell?_setCell_other _ _ _ _ (nq _ _ (by omega))]; exact x1
        · rw [World.cell?_setCell_other _ _ _ _ (nq _ _ (by omega))]; exact x2
      have zW := HC.out W2 (Below.refl _ _)
      have zD := HC.out W2.drew (Go.below_drewN (Below.refl _ _) 1)
      clear hT hM k1 k2 k3 k4 k5 k6 hxl hstep hkk hk3 hy o2 hs2 hglt
      go_wp2_with fail
      (try rw [hW2])
      (try rw [hB5])
      clear hW2
      go_region_held3 (fun w' => (w'.cell? ⟨B2, 0, none⟩ = some (.slice (some ⟨g, 0, none⟩) len ca) ∧ w'.cell? ⟨B2, 1, none⟩ = some (.slice ap len cp)) ∧ w'.cell? ⟨B5, 2, none⟩ = some (.slice ai yk.length ci))
        (first | with_reducible assumption | assumption | exact sS _)
        (first | (go_at_call 41; refine Calls.mono (HO.out W2.drew (Go.below_drewN (Below.refl _ _) 1)) ?_; rintro e w4 ⟨v, rfl, hkv, hb4⟩; obtain ⟨ka, kc, rfl, _⟩ := row_slice hkv; have hB4 : Below W2.heap.size W2 w4 := (Go.below_drewN (Below.refl _ _) 1).trans hb4; have z4 := HC.out w4 hB4; obtain ⟨⟨t2, tf⟩, sS, HN⟩ := HR.out w4 ka kc hB4 hkv; obtain ⟨⟨q0, q1⟩, -⟩ := sS (.slice ka yk.length kc); clear hkv hb4 hB4))
      clear HO HR HC sS z4 zW zD t2 tf
      go_wp2
      go_roundw
      case rel =>
        obtain ⟨xs', h1, h2, h3⟩ := HN.out
        exact ⟨k + 1, by omega, by go_num, q0, q1, ⟨xs', h1⟩, h2, h3⟩
      case measure => simp [intOf]; omega
    · obtain rfl : k = len := by omega
      obtain ⟨xs, hM⟩ := hT.out
      obtain ⟨hpl, hLl, hs1, hMe, hfew, hkid⟩ := HH.out
      have hX1 := HX.out wo hbr
      have HXe : Hid (∀ v0 v1, SafeM ((wo.setCell ⟨w.heap.size + 1, 0, none⟩ v0).setCell ⟨w.heap.size + 1, 1, none⟩ v1) (fun b => w.heap.size ≤ b) (.slice (some ⟨g, 0, none⟩) k ca) (.slice ap k cp) M ∧ Below w.heap.size w ((wo.setCell ⟨w.heap.size + 1, 0, none⟩ v0).setCell ⟨w.heap.size + 1, 1, none⟩ v1)) := fun v0 v1 => by
        have h0 := hX1.2.2.2.2
        refine ⟨fun w' hs' hk' => ?_, (h0.setCell (by show w.heap.size ≤ w.heap.size + 1; omega) _).setCell (by show w.heap.size ≤ w.heap.size + 1; omega) _⟩
        have hM2 := (hM.out (show w.heap.size + 1 < W1.heap.size by omega) hgS.1 0 v0).out (show w.heap.size + 1 < W1.heap.size by omega) hgS.1 1 v1
        have hM3 := hM2.map hgS.1 hs' (fun b hb hl => hk' b (by omega) hl)
        rw [setCell_size, setCell_size] at hs'
        rw [hMe]
        refine ⟨some ⟨g, 0, none⟩, ca, ap, cp, ?_, ?_, ?_, ?_⟩
        · show _ = Value.slice _ (withL L p).length _
          rw [withL_len, hpl]
        · show _ = Value.slice _ L.length _
          rw [hLl]
        · show ESl _ _ (withL L p).length (withL L p)
          rw [withL_len, hpl]
          exact hM3.done hpl hfew (by omega)
        · show Sl _ _ L.length L
          rw [hLl]
          exact hM3.parts
      obtain ⟨-, ⟨t0, t1, u0, u1⟩, -⟩ := hX1
      clear hT hM hpl hLl hs1 hMe hfew hkid HX
      go_wp2
      refine bodyPost_ret (v := .agg #[.slice (some ⟨g, 0, none⟩) k ca, .slice ap k cp]) ?_ ?_ ?_
      · simp [results, Tryd.results25, go_sem, *]
      · rfl
      · exact ⟨_, _, rfl, (HXe.out _ _).1, (HXe.out _ _).2⟩
end Go.Proofs.YthkjmgjajmghmaaDoor
namespace Go.Proofs.YthkjmgjajmghmaaDoor
open Go.ChangeShapes Go.WideShapes Go.ChangeAt Go.RowKit
set_option linter.unusedVariables false

def mergeOk (p : List EN) (l : List Int) (x y : Int) : Bool := graphB p l && hasB l x && hasB l y
def mergeR (p : List EN) (l : List Int) (x y : Int) : GS := if mergeOk p l x y = true then mergeG p l x.toNat y.toNat else ([], [])
set_option maxHeartbeats 3200000 in
set_option maxRecDepth 20000 in
theorem implMerge_any (a b : Option Addr) (len cap lb cb : Nat) (p : List EN) (l : List Int) (x y : Int) (w : World) (ht : Tab w) (h : ESl w a len p) (hl : Sl w b lb l) (hI : InE p) (hm : len ≤ 9223372036854775807) (hm2 : lb ≤ 9223372036854775807) :
    Calls Tryd.prog 8 #[.agg #[.slice a len cap, .slice b lb cb], .int .i64 x, .int .i64 y] w fun e w' => ∃ va vb, e = .returned (.tuple #[.agg #[va, vb], .bool (mergeOk p l x y)]) ∧ AnsI w' (fun b => w.heap.size ≤ b) va vb (mergeR p l x y) ∧ Below w.heap.size w w' := by
  have hll := h.1
  have hl1 := hl.1
  obtain ⟨W1, hW1⟩ : ∃ W1, (w.alloc (.cells #[.slice a len cap, .slice b lb cb] 29)).alloc (.cells #[.slice none 0 0, .slice none 0 0] 29) = W1 := ⟨_, rfl⟩
  have hb1 : Below w.heap.size w W1 := by rw [← hW1]; exact ((Below.refl _ _).alloc (Nat.le_refl _) _).alloc (by simp) _
  have hs1 : W1.heap.size = w.heap.size + 2 := by rw [← hW1]; simp
  have n0 : W1.cell? ⟨w.heap.size, 0, none⟩ = some (.slice a len cap) := by rw [← hW1]; simp [go_sem]
  have n1 : W1.cell? ⟨w.heap.size, 1, none⟩ = some (.slice b lb cb) := by rw [← hW1]; simp [go_sem]
  have r0 : W1.cell? ⟨w.heap.size + 1, 0, none⟩ = some (.slice none 0 0) := by rw [← hW1]; simp [go_sem]
  have r1 : W1.cell? ⟨w.heap.size + 1, 1, none⟩ = some (.slice none 0 0) := by rw [← hW1]; simp [go_sem]
  have f0 : W1.frozen? ⟨w.heap.size + 1, 0, none⟩ = false := by rw [← hW1]; simp [go_sem]
  have f1 : W1.frozen? ⟨w.heap.size + 1, 1, none⟩ = false := by rw [← hW1]; simp [go_sem]
  have HX : Hid (∀ W, Below W1.heap.size W1 W → (W.cell? ⟨w.heap.size, 0, none⟩ = some (.slice a len cap) ∧ W.cell? ⟨w.heap.size, 1, none⟩ = some (.slice b lb cb)) ∧ (W.cell? ⟨w.heap.size + 1, 0, none⟩ = some (.slice none 0 0) ∧ W.cell? ⟨w.heap.size + 1, 1, none⟩ = some (.slice none 0 0) ∧ W.frozen? ⟨w.heap.size + 1, 0, none⟩ = false ∧ W.frozen? ⟨w.heap.size + 1, 1, none⟩ = false) ∧ ESl W a len p ∧ Sl W b lb l ∧ Below w.heap.size w W) := fun W hW => ⟨⟨(hW.cell (p := ⟨w.heap.size, 0, none⟩) (by show w.heap.size < _; omega)).trans n0, (hW.cell (p := ⟨w.heap.size, 1, none⟩) (by show w.heap.size < _; omega)).trans n1⟩, ⟨(hW.cell (p := ⟨w.heap.size + 1, 0, none⟩) (by show w.heap.size + 1 < _; omega)).trans r0, (hW.cell (p := ⟨w.heap.size + 1, 1, none⟩) (by show w.heap.size + 1 < _; omega)).trans r1, (hW.frozen (p := ⟨w.heap.size + 1, 0, none⟩) (by show w.heap.size + 1 < _; omega)).trans f0, (hW.frozen (p := ⟨w.heap.size + 1, 1, none⟩) (by show w.heap.size + 1 < _; omega)).trans f1⟩, (h.keep hb1).keep hW, (hl.keep hb1).keep hW, hb1.trans (hW.mono hb1.size)⟩
  have HS : Hid (∀ W, Below w.heap.size w W → ∀ v0 v1, Below w.heap.size w ((W.setCell ⟨w.heap.size + 1, 0, none⟩ v0).setCell ⟨w.heap.size + 1, 1, none⟩ v1)) := fun W hW v0 v1 => (hW.setCell (by show w.heap.size ≤ w.heap.size + 1; omega) _).setCell (by show w.heap.size ≤ w.heap.size + 1; omega) _
  have HG := (show Hid _ from implGraph_any a b len cap lb cb p l W1 (ht.keeps hb1) (h.keep hb1) (hl.keep hb1) hm2 hI)
  cases hgb : graphB p l with
  | false =>
    have hno : mergeOk p l x y = false := by unfold mergeOk; rw [hgb]; rfl
    have hnr : mergeR p l x y = ([], []) := by unfold mergeR; rw [hno]; rfl
    rw [hno, hnr]
    rw [hgb] at HG
    clear h hl hb1 hno hnr hs1 ht hI
    go_enter Tryd.func8, Tryd.ntmps8
    go_wp2_with fail
    (try rw [hW1])
    refine Calls.mono HG.out ?_
    rintro e w2 ⟨rfl, hb2⟩
    obtain ⟨⟨q0, q1⟩, ⟨u0, u1, g0, g1⟩, -, -, hw2⟩ := HX.out w2 hb2
    have HB := (show Hid _ from HS.out w2 hw2)
    clear HG hW1 HX HS hb2 hw2 n0 n1 r0 r1 f0 f1
    go_wp2
    refine bodyPost_ret (v := .tuple #[.agg #[.slice none 0 0, .slice none 0 0], .bool false]) ?_ ?_ ?_
    · simp [results, Tryd.results8, go_sem, *]
    · rfl
    · exact ⟨_, _, rfl, .inl ⟨rfl, rfl, rfl⟩, HB.out _ _⟩
  | true =>
    rw [hgb] at HG
    obtain ⟨h120, hgood⟩ := (graphB_good p l).1 hgb
    have hgh := (headB_iff p l).1 ((graphB_iff p l).1 hgb).1
    have hgN := hgh.1
    have hgP : PartsN p.length l := ⟨hgh.2.1, ((partB_iff l).1 hgh.2.2).2⟩
    obtain rfl : lb = len := by have := hgh.2.1; omega
    have HA : Hid (∀ W, Calls Tryd.prog 27 #[.slice b lb cb, .int .i64 x] W fun e w' => e = .returned (.bool (hasB l x)) ∧ w' = W) := fun W => implHas_any b lb cb l hl1 x W
    have HBy : Hid (∀ W, Calls Tryd.prog 27 #[.slice b lb cb, .int .i64 y] W fun e w' => e = .returned (.bool (hasB l y)) ∧ w' = W) := fun W => implHas_any b lb cb l hl1 y W
    cases hax : hasB l x with
    | false =>
      have hno : mergeOk p l x y = false := by unfold mergeOk; rw [hgb, hax]; rfl
      have hnr : mergeR p l x y = ([], []) := by unfold mergeR; rw [hno]; rfl
      rw [hno, hnr]
      rw [hax] at HA
      clear h hl hb1 hno hnr hs1 hgood hgh hgN hgP hgb HBy ht hI
      go_enter Tryd.func8, Tryd.ntmps8
      go_wp2_with fail
      (try rw [hW1])
      refine Calls.mono HG.out ?_
      rintro e w2 ⟨rfl, hb2⟩
      obtain ⟨⟨q0, q1⟩, ⟨u0, u1, g0, g1⟩, -, -, hw2⟩ := HX.out w2 hb2
      have HB := (show Hid _ from HS.out w2 hw2)
      clear HG hW1 HX HS hb2 hw2 n0 n1 r0 r1 f0 f1
      go_wp2_with fail
      refine Calls.mono (HA.out _) ?_
      rintro e w3 ⟨rfl, rfl⟩
      clear HA
      go_wp2
      refine bodyPost_ret (v := .tuple #[.agg #[.slice none 0 0, .slice none 0 0], .bool false]) ?_ ?_ ?_
      · simp [results, Tryd.results8, go_sem, *]
      · rfl
      · exact ⟨_, _, rfl, .inl ⟨rfl, rfl, rfl⟩, HB.out _ _⟩
    | true =>
      rw [hax] at HA
      cases hay : hasB l y with
      | false =>
        have hno : mergeOk p l x y = false := by unfold mergeOk; rw [hgb, hax, hay]; rfl
        have hnr : mergeR p l x y = ([], []) := by unfold mergeR; rw [hno]; rfl
        rw [hno, hnr]
        rw [hay] at HBy
        clear h hl hb1 hno hnr hs1 hgood hgh hgN hgP hgb ht hI
        go_enter Tryd.func8, Tryd.ntmps8
        go_wp2_with fail
        (try rw [hW1])
        refine Calls.mono HG.out ?_
        rintro e w2 ⟨rfl, hb2⟩
        obtain ⟨⟨q0, q1⟩, ⟨u0, u1, g0, g1⟩, -, -, hw2⟩ := HX.out w2 hb2
        have HB := (show Hid _ from HS.out w2 hw2)
        clear HG hW1 HX HS hb2 hw2 n0 n1 r0 r1 f0 f1
        go_wp2_with fail
        refine Calls.mono (HA.out _) ?_
        rintro e w3 ⟨rfl, rfl⟩
        clear HA
        go_wp2_with fail
        refine Calls.mono (HBy.out _) ?_
        rintro e w3 ⟨rfl, rfl⟩
        clear HBy
        go_wp2
        refine bodyPost_ret (v := .tuple #[.agg #[.slice none 0 0, .slice none 0 0], .bool false]) ?_ ?_ ?_
        · simp [results, Tryd.results8, go_sem, *]
        · rfl
        · exact ⟨_, _, rfl, .inl ⟨rfl, rfl, rfl⟩, HB.out _ _⟩
      | true =>
        rw [hay] at HBy
        have hyes : mergeOk p l x y = true := by unfold mergeOk; rw [hgb, hax, hay]; rfl
        have hyr : mergeR p l x y = mergeG p l x.toNat y.toNat := by unfold mergeR; rw [hyes]; rfl
        obtain ⟨X, rfl, hX⟩ := has_iff hax
        obtain ⟨Y, rfl, hY⟩ := has_iff hay
        rw [hyr, hyes, Int.toNat_natCast, Int.toNat_natCast]
        have HM : Hid (∀ W, Below W1.heap.size W1 W → Calls Tryd.prog 28 #[.agg #[.slice a lb cap, .slice b lb cb], .int .i64 X, .int .i64 Y] W fun e w' => ∃ va vb, e = .returned (.agg #[va, vb]) ∧ GOwn w' true (fun b => W.heap.size ≤ b) va vb (mergeG p l X Y) ∧ Below W.heap.size W w') := fun W hW => implMerged_any hgN hgP hI a b lb cap cb (by omega) (by omega) W (HX.out W hW).2.2.1 (HX.out W hW).2.2.2.1
        have hmL := mergeG_len hgN hgP (show X < p.length by omega) (show Y < p.length by omega)
        have hmK : ∀ i, i < p.length → ((mergeG p l X Y).1.getD i e0).2.2.length ≤ 3 := fun i hi => by
          unfold mergeG
          rw [withL_get _ p hi]
          simp only
          rw [kidsL_len]
          exact fit_few (((nodesB_iff p).1 hgN).2 i hi)
        have HL : Hid ((mergeG p l X Y).1.length = lb ∧ (mergeG p l X Y).2.length = lb ∧ 0 < lb ∧ lb ≤ 120 ∧ W1.heap.size = w.heap.size + 2 ∧ ∀ i, i < lb → ((mergeG p l X Y).1.getD i e0).2.2.length ≤ 3) := ⟨by rw [hmL.1]; exact hll, by rw [hmL.2]; exact hll, by omega, by first | omega | (simp only at h120; omega), hs1, fun i hi => hmK i (by omega)⟩
        generalize mergeG p l X Y = M at HM HL ⊢
        clear h hl hb1 hyes hyr hs1 hgood hgh hgN hgP hgb hmL hmK hax hay h120 ht hI
        go_enter Tryd.func8, Tryd.ntmps8
        go_wp2_with fail
        (try rw [hW1])
        refine Calls.mono HG.out ?_
        rintro e w2 ⟨rfl, hb2⟩
        obtain ⟨⟨q0, q1⟩, ⟨u0, u1, g0, g1⟩, -, -, hw2⟩ := HX.out w2 hb2
        have HM2 := (show Hid _ from HM.out w2 hb2)
        have HB2 := (show Hid _ from hb2)
        clear HG hW1 hb2 hw2 n0 n1 r0 r1 f0 f1 HM
        go_wp2_with fail
        refine Calls.mono (HA.out _) ?_
        rintro e w3 ⟨rfl, rfl⟩
        clear HA
        go_wp2_with fail
        refine Calls.mono (HBy.out _) ?_
        rintro e w3 ⟨rfl, rfl⟩
        clear HBy
        go_wp2_with fail
        refine Calls.mono HM2.out ?_
        rintro e w4 ⟨va, vb, rfl, hG4, hb4⟩
        have hB4 : Below W1.heap.size W1 w4 := HB2.out.trans (hb4.mono HB2.out.size)
        have hs2 : W1.heap.size ≤ w3.heap.size := HB2.out.size
        obtain ⟨⟨q0', q1'⟩, ⟨u0', u1', g0', g1'⟩, -, -, hw4⟩ := HX.out w4 hB4
        obtain ⟨k1, k2, k3, k4, k5, k6⟩ := HL.out
        have HF : Hid (∀ v0 v1, AnsI ((w4.setCell ⟨w.heap.size + 1, 0, none⟩ v0).setCell ⟨w.heap.size + 1, 1, none⟩ v1) (fun b => w.heap.size ≤ b) va vb M ∧ Below w.heap.size w ((w4.setCell ⟨w.heap.size + 1, 0, none⟩ v0).setCell ⟨w.heap.size + 1, 1, none⟩ v1)) := fun v0 v1 => by
          refine ⟨.inr ⟨hG4.map (by rw [setCell_size, setCell_size]; exact Nat.le_refl _) (fun b hb hl => ?_) (fun b _ hb => by omega), by omega, by omega, by omega, fun i hi => k6 i (by omega)⟩, HS.out w4 hw4 v0 v1⟩
          rw [setCell_block _ _ _ (show w.heap.size + 1 ≠ b by omega), setCell_block _ _ _ (show w.heap.size + 1 ≠ b by omega)]
        obtain ⟨ga, ca, gb, cb2, rfl, rfl, _, _⟩ := hG4.reads
        clear HM2 HB2 hB4 hb4 hw4 hG4 HX HS HL k1 k2 k3 k4 k5 k6 q0 q1 u0 u1 g0 g1 hs2
        go_wp2
        refine bodyPost_ret (v := .tuple #[.agg #[.slice ga M.1.length ca, .slice gb M.2.length cb2], .bool true]) ?_ ?_ ?_
        · simp [results, Tryd.results8, go_sem, *]
        · rfl
        · exact ⟨_, _, rfl, (HF.out _ _).1, (HF.out _ _).2⟩
end Go.Proofs.YthkjmgjajmghmaaDoor
