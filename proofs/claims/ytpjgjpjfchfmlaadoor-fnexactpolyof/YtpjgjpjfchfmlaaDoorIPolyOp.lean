/-
  PROVED HERE: which sum of products the program makes of an operation over trees whose sums are known, in a world whose table of arities is laid. No other condition.
-/
import Derived.Test.YtpjgjpjfchfmlaaDoorIPolyOf
import Derived.Test.YtpjgjpjfchfmlaaDoorPolyOfGood
namespace Go.Proofs.YtpjgjpjfchfmlaaDoor
open Go.ChangeShapes Go.WideShapes Go.ChangeAt Go.RowKit
set_option linter.unusedVariables false
attribute [local go_sem] as_nn as_nv as_no as_vn as_vv as_vo as_on as_ov as_oo

/-- The tree v has the sum o, in every later world. -/
def HasSum (W : World) (v : Value) (o : Option (List Mon)) : Prop := ∀ W', Below W.heap.size W W' → Calls Tryd.prog 21 #[v] W' fun r w' => IOf W' o r w'
set_option maxRecDepth 20000 in
theorem opNone (op : Int) (m g cap : Nat) (W : World) (t0 : TypeId) (x0 : Value) (hm : 1 ≤ m) (c0 : W.cell? ⟨g, 0, none⟩ = some (.iface t0 x0)) (h0 : HasSum W (.iface t0 x0) none) :
    Calls Tryd.prog 41 #[.agg #[.int .i64 op, .slice (some ⟨g, 0, none⟩) m cap]] W fun r w' => IOf W none r w' := by
  obtain ⟨W1, hW1⟩ : ∃ W1, W.alloc (.cells #[.int .i64 op, .slice (some ⟨g, 0, none⟩) m cap] 75) = W1 := ⟨_, rfl⟩
  have hb0 : Below W.heap.size W W1 := by rw [← hW1]; exact (Below.refl _ _).alloc (Nat.le_refl _) _
  have hs1 : W.heap.size < W1.heap.size := by rw [← hW1]; simp
  have n0 : W1.cell? ⟨W.heap.size, 0, none⟩ = some (.int .i64 op) := by rw [← hW1]; simp [go_sem]
  have n1 : W1.cell? ⟨W.heap.size, 1, none⟩ = some (.slice (some ⟨g, 0, none⟩) m cap) := by rw [← hW1]; simp [go_sem]
  have hgl : g < W.heap.size := World.block_lt_of_cell? W _ c0
  have d0 := (hb0.cell (p := ⟨g, 0, none⟩) hgl).trans c0
  have i0 : (0 : Int) < m := by omega
  have HC := (show Hid _ from h0 W1 hb0)
  clear h0 c0
  go_enter Tryd.func41, Tryd.ntmps41
  go_wp2_with fail
  (try rw [hW1])
  refine Calls.mono HC.out ?_
  rintro r w1 ⟨v, rfl, o, hb1⟩
  have hB1 := hb0.trans (hb1.mono hb0.size)
  clear HC
  go_wp2
  go_ret2
  exact ⟨_, rfl, OwnV.nil _ _, hB1⟩
set_option maxRecDepth 20000 in
theorem opNeg (g cap : Nat) (W : World) (t0 : TypeId) (x0 : Value) (p : List Mon) (c0 : W.cell? ⟨g, 0, none⟩ = some (.iface t0 x0)) (h0 : HasSum W (.iface t0 x0) (some p)) (hp : GoodS p) :
    Calls Tryd.prog 41 #[.agg #[.int .i64 3, .slice (some ⟨g, 0, none⟩) 1 cap]] W fun r w' => IOf W (okP (mulP p (numP (-1)))) r w' := by
  obtain ⟨W1, hW1⟩ : ∃ W1, W.alloc (.cells #[.int .i64 3, .slice (some ⟨g, 0, none⟩) 1 cap] 75) = W1 := ⟨_, rfl⟩
  have hb0 : Below W.heap.size W W1 := by rw [← hW1]; exact (Below.refl _ _).alloc (Nat.le_refl _) _
  have hs1 : W.heap.size < W1.heap.size := by rw [← hW1]; simp
  have n0 : W1.cell? ⟨W.heap.size, 0, none⟩ = some (.int .i64 3) := by rw [← hW1]; simp [go_sem]
  have n1 : W1.cell? ⟨W.heap.size, 1, none⟩ = some (.slice (some ⟨g, 0, none⟩) 1 cap) := by rw [← hW1]; simp [go_sem]
  have hgl : g < W.heap.size := World.block_lt_of_cell? W _ c0
  have d0 := (hb0.cell (p := ⟨g, 0, none⟩) hgl).trans c0
  have HC := (show Hid _ from h0 W1 hb0)
  clear h0 c0
  go_enter Tryd.func41, Tryd.ntmps41
  go_wp2_with fail
  (try rw [hW1])
  refine Calls.mono HC.out ?_
  rintro r w1 ⟨v, rfl, o, hb1⟩
  have hB1 := hb0.trans (hb1.mono hb0.size)
  have k0 := (hb1.cell (p := ⟨W.heap.size, 0, none⟩) hs1).trans n0
  obtain ⟨a, c, rfl, hP⟩ := OwnV.psl o hp.len
  have HT := (show Hid _ from (polyTimes_any a p.length c p (-1) (by unfold InI; omega) w1 hP hp.1).mono fun r w' h => IOf.up hB1 h.iof)
  clear HC o hP n0 n1 d0
  go_wp2_with fail
  refine Calls.mono HT.out ?_
  rintro r w5 ⟨v5, rfl, o5, hB5⟩
  clear HT
  go_wp2
  go_ret2
  exact ⟨_, rfl, o5, hB5⟩
set_option maxRecDepth 20000 in
theorem opShl (g cap : Nat) (W : World) (hT : Tab W) (t0 : TypeId) (x0 : Value) (n : Int) (p : List Mon) (c0 : W.cell? ⟨g, 0, none⟩ = some (.iface t0 x0)) (c1 : W.cell? ⟨g, 1, none⟩ = some (.iface 64 (.agg #[.int .i64 n]))) (h0 : HasSum W (.iface t0 x0) (some p)) (hp : GoodS p) :
    Calls Tryd.prog 41 #[.agg #[.int .i64 7, .slice (some ⟨g, 0, none⟩) 2 cap]] W fun r w' => IOf W (okP (mulP p (numP (shlN n)))) r w' := by
  obtain ⟨O, hO⟩ : ∃ O, okP (mulP p (numP (shlN n))) = O := ⟨_, rfl⟩
  rw [hO]
  obtain ⟨W1, hW1⟩ : ∃ W1, W.alloc (.cells #[.int .i64 7, .slice (some ⟨g, 0, none⟩) 2 cap] 75) = W1 := ⟨_, rfl⟩
  have hb0 : Below W.heap.size W W1 := by rw [← hW1]; exact (Below.refl _ _).alloc (Nat.le_refl _) _
  have hs1 : W.heap.size < W1.heap.size := by rw [← hW1]; simp
  have n0 : W1.cell? ⟨W.heap.size, 0, none⟩ = some (.int .i64 7) := by rw [← hW1]; simp [go_sem]
  have n1 : W1.cell? ⟨W.heap.size, 1, none⟩ = some (.slice (some ⟨g, 0, none⟩) 2 cap) := by rw [← hW1]; simp [go_sem]
  have hgl : g < W.heap.size := World.block_lt_of_cell? W _ c0
  have d0 := (hb0.cell (p := ⟨g, 0, none⟩) hgl).trans c0
  have d1 := (hb0.cell (p := ⟨g, 1, none⟩) hgl).trans c1
  have HC := (show Hid _ from h0 W1 hb0)
  clear h0 c0 c1
  go_enter Tryd.func41, Tryd.ntmps41
  go_wp2_with fail
  (try rw [hW1])
  refine Calls.mono HC.out ?_
  rintro r w1 ⟨v, rfl, o, hb1⟩
  have hB1 := hb0.trans (hb1.mono hb0.size)
  have k0 := (hb1.cell (p := ⟨W.heap.size, 0, none⟩) hs1).trans n0
  have k1 := (hb1.cell (p := ⟨W.heap.size, 1, none⟩) hs1).trans n1
  have k2 := (hb1.cell (p := ⟨g, 1, none⟩) (by show g < W1.heap.size; omega)).trans d1
  obtain ⟨a, c, rfl, hP⟩ := OwnV.psl o hp.len
  have HS := (show Hid _ from shift_any n w1 (hT.keeps hB1))
  have HT : Hid (∀ W', Below w1.heap.size w1 W' → Calls Tryd.prog 59 #[.slice a p.length c, .int .i64 (shlN n)] W' fun r w' => IOf W O r w') := fun W' hW => by rw [← hO]; exact (polyTimes_any a p.length c p (shlN n) (wrap_in _) W' (hP.keep hW) hp.1).mono fun r w' h => IOf.up (hB1.trans (hW.mono hB1.size)) h.iof
  clear HC o hP n0 n1 d0 d1 hT hO
  generalize shlN n = N at HS HT
  go_wp2_with fail
  refine Calls.mono HS.out ?_
  rintro r w3 ⟨rfl, hb3⟩
  clear HS
  go_wp2_with fail
  refine Calls.mono (HT.out _ hb3) ?_
  rintro r w5 ⟨v5, rfl, o5, hB5⟩
  clear HT
  go_wp2
  go_ret2
  exact ⟨_, rfl, o5, hB5⟩
set_option maxRecDepth 20000 in
theorem opPairNone (op : Int) (hop : op = 4 ∨ op = 5 ∨ op = 6) (g cap : Nat) (W : World) (t0 t1 : TypeId) (x0 x1 : Value) (p : List Mon) (c0 : W.cell? ⟨g, 0, none⟩ = some (.iface t0 x0)) (c1 : W.cell? ⟨g, 1, none⟩ = some (.iface t1 x1)) (h0 : HasSum W (.iface t0 x0) (some p)) (h1 : HasSum W (.iface t1 x1) none) :
    Calls Tryd.prog 41 #[.agg #[.int .i64 op, .slice (some ⟨g, 0, none⟩) 2 cap]] W fun r w' => IOf W none r w' := by
  obtain ⟨W1, hW1⟩ : ∃ W1, W.alloc (.cells #[.int .i64 op, .slice (some ⟨g, 0, none⟩) 2 cap] 75) = W1 := ⟨_, rfl⟩
  have hb0 : Below W.heap.size W W1 := by rw [← hW1]; exact (Below.refl _ _).alloc (Nat.le_refl _) _
  have hs1 : W.heap.size < W1.heap.size := by rw [← hW1]; simp
  have n0 : W1.cell? ⟨W.heap.size, 0, none⟩ = some (.int .i64 op) := by rw [← hW1]; simp [go_sem]
  have n1 : W1.cell? ⟨W.heap.size, 1, none⟩ = some (.slice (some ⟨g, 0, none⟩) 2 cap) := by rw [← hW1]; simp [go_sem]
  have hgl : g < W.heap.size := World.block_lt_of_cell? W _ c0
  have d0 := (hb0.cell (p := ⟨g, 0, none⟩) hgl).trans c0
  have i3 : (op == 3) = false := by rcases hop with rfl | rfl | rfl <;> rfl
  have i7 : (op == 7) = false := by rcases hop with rfl | rfl | rfl <;> rfl
  have d1 := (hb0.cell (p := ⟨g, 1, none⟩) hgl).trans c1
  have HC := (show Hid _ from h0 W1 hb0)
  have H1 := (show Hid (HasSum W (.iface t1 x1) none) from h1)
  clear h0 c0 c1 h1 hop
  go_enter Tryd.func41, Tryd.ntmps41
  go_wp2_with fail
  (try rw [hW1])
  refine Calls.mono HC.out ?_
  rintro r w1 ⟨v, rfl, o, hb1⟩
  have hB1 := hb0.trans (hb1.mono hb0.size)
  have k0 := (hb1.cell (p := ⟨W.heap.size, 0, none⟩) hs1).trans n0
  have k1 := (hb1.cell (p := ⟨W.heap.size, 1, none⟩) hs1).trans n1
  have k2 := (hb1.cell (p := ⟨g, 1, none⟩) (by show g < W1.heap.size; omega)).trans d1
  clear HC o n0 n1 d0 d1
  go_wp2_with fail
  refine Calls.mono (H1.out _ hB1) ?_
  rintro r w3 ⟨v3, rfl, o3, hb3⟩
  clear H1
  go_wp2
  go_ret2
  exact ⟨_, rfl, OwnV.nil _ _, hB1.trans (hb3.mono hB1.size)⟩
set_option maxRecDepth 20000 in
theorem opPair (op : Int) (hop : op = 4 ∨ op = 5 ∨ op = 6) (g cap : Nat) (W : World) (t0 t1 : TypeId) (x0 x1 : Value) (p q : List Mon) (c0 : W.cell? ⟨g, 0, none⟩ = some (.iface t0 x0)) (c1 : W.cell? ⟨g, 1, none⟩ = some (.iface t1 x1)) (h0 : HasSum W (.iface t0 x0) (some p)) (h1 : HasSum W (.iface t1 x1) (some q)) (hp : GoodS p) (hq : GoodS q) :
    Calls Tryd.prog 41 #[.agg #[.int .i64 op, .slice (some ⟨g, 0, none⟩) 2 cap]] W fun r w' => IOf W (okP (twoP op p q)) r w' := by
  obtain ⟨O, hO⟩ : ∃ O, okP (twoP op p q) = O := ⟨_, rfl⟩
  rw [hO]
  obtain ⟨W1, hW1⟩ : ∃ W1, W.alloc (.cells #[.int .i64 op, .slice (some ⟨g, 0, none⟩) 2 cap] 75) = W1 := ⟨_, rfl⟩
  have hb0 : Below W.heap.size W W1 := by rw [← hW1]; exact (Below.refl _ _).alloc (Nat.le_refl _) _
  have hs1 : W.heap.size < W1.heap.size := by rw [← hW1]; simp
  have n0 : W1.cell? ⟨W.heap.size, 0, none⟩ = some (.int .i64 op) := by rw [← hW1]; simp [go_sem]
  have n1 : W1.cell? ⟨W.heap.size, 1, none⟩ = some (.slice (some ⟨g, 0, none⟩) 2 cap) := by rw [← hW1]; simp [go_sem]
  have hgl : g < W.heap.size := World.block_lt_of_cell? W _ c0
  have d0 := (hb0.cell (p := ⟨g, 0, none⟩) hgl).trans c0
  have i3 : (op == 3) = false := by rcases hop with rfl | rfl | rfl <;> rfl
  have i7 : (op == 7) = false := by rcases hop with rfl | rfl | rfl <;> rfl
  have d1 := (hb0.cell (p := ⟨g, 1, none⟩) hgl).trans c1
  have HC := (show Hid _ from h0 W1 hb0)
  have H1 := (show Hid (HasSum W (.iface t1 x1) (some q)) from h1)
  have HOp := (show Hid _ from hop)
  clear h0 c0 c1 h1 hop
  go_enter Tryd.func41, Tryd.ntmps41
  go_wp2_with fail
  (try rw [hW1])
  refine Calls.mono HC.out ?_
  rintro r w1 ⟨v, rfl, o, hb1⟩
  have hB1 := hb0.trans (hb1.mono hb0.size)
  have k0 := (hb1.cell (p := ⟨W.heap.size, 0, none⟩) hs1).trans n0
  have k1 := (hb1.cell (p := ⟨W.heap.size, 1, none⟩) hs1).trans n1
  have k2 := (hb1.cell (p := ⟨g, 1, none⟩) (by show g < W1.heap.size; omega)).trans d1
  obtain ⟨a, c, rfl, hP⟩ := OwnV.psl o hp.len
  have HT : Hid (∀ w3 b c', Below w1.heap.size w1 w3 → PSl w3 b q.length q → Calls Tryd.prog 61 #[.int .i64 op, .slice a p.length c, .slice b q.length c'] w3 fun r w' => IOf W O r w') := fun w3 b c' hW hQ => by rw [← hO]; exact (polyPair_any op a p.length c p b q.length c' q w3 (hP.keep hW) hQ hp.1 hq.1 hp.2 hq.2 HOp.out).mono fun r w' h => IOf.up (hB1.trans (hW.mono hB1.size)) h.iof
  clear HC o hP n0 n1 d0 d1 HOp hO
  go_wp2_with fail
  refine Calls.mono (H1.out _ hB1) ?_
  rintro r w3 ⟨v3, rfl, o3, hb3⟩
  have k3 := (hb3.cell (p := ⟨W.heap.size, 0, none⟩) (by show W.heap.size < w1.heap.size; have := hb1.size; omega)).trans k0
  obtain ⟨b, c', rfl, hQ⟩ := OwnV.psl o3 hq.len
  have HU := (show Hid _ from HT.out w3 b c' hb3 hQ)
  clear H1 HT o3 hQ k0 k1 k2
  go_wp2_with fail
  refine Calls.mono HU.out ?_
  rintro r w5 ⟨v5, rfl, o5, hB5⟩
  clear HU
  go_wp2
  go_ret2
  exact ⟨_, rfl, o5, hB5⟩
end Go.Proofs.YtpjgjpjfchfmlaaDoor
