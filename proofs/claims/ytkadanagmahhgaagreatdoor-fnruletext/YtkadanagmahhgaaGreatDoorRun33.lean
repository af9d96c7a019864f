/-
  PROVED HERE: what a type assertion of one of the four kinds of trees gives. No condition. which sum of products the program makes of a tree of ring operations, in a world whose table of arities is laid. No other condition. which sum of products the program makes of an operation over trees whose sums are known, in a world whose table of arities is laid. No other condition. which sum of products the program makes of a variable. No other condition.
-/
import Derived.Test.YtkadanagmahhgaaGreatDoorRun7
import Derived.Test.YtkadanagmahhgaaGreatDoorRun31
import Derived.Test.YtkadanagmahhgaaGreatDoorRun32
import Derived.Test.YtkadanagmahhgaaGreatDoorRun26
namespace Go.Proofs.YtkadanagmahhgaaGreatDoor
set_option linter.unusedVariables false

theorem as_nn (v : Value) (w : World) : (Instr.typeAssert (.iface 108 v) 74 108 true).run Tryz.prog w = .ok (.tuple #[v, .bool true]) w := by kernel_rfl
theorem as_nv (v : Value) (w : World) : (Instr.typeAssert (.iface 108 v) 74 110 true).run Tryz.prog w = .ok (.tuple #[.agg #[.int .i64 0], .bool false]) w := by kernel_rfl
theorem as_nc (v : Value) (w : World) : (Instr.typeAssert (.iface 108 v) 74 112 true).run Tryz.prog w = .ok (.tuple #[.agg #[.nilIface, .nilIface, .nilIface], .bool false]) w := by kernel_rfl
theorem as_no (v : Value) (w : World) : (Instr.typeAssert (.iface 108 v) 74 115 true).run Tryz.prog w = .ok (.tuple #[.agg #[.int .i64 0, .slice none 0 0], .bool false]) w := by kernel_rfl
theorem as_vn (v : Value) (w : World) : (Instr.typeAssert (.iface 110 v) 74 108 true).run Tryz.prog w = .ok (.tuple #[.agg #[.int .i64 0], .bool false]) w := by kernel_rfl
theorem as_vv (v : Value) (w : World) : (Instr.typeAssert (.iface 110 v) 74 110 true).run Tryz.prog w = .ok (.tuple #[v, .bool true]) w := by kernel_rfl
theorem as_vc (v : Value) (w : World) : (Instr.typeAssert (.iface 110 v) 74 112 true).run Tryz.prog w = .ok (.tuple #[.agg #[.nilIface, .nilIface, .nilIface], .bool false]) w := by kernel_rfl
theorem as_vo (v : Value) (w : World) : (Instr.typeAssert (.iface 110 v) 74 115 true).run Tryz.prog w = .ok (.tuple #[.agg #[.int .i64 0, .slice none 0 0], .bool false]) w := by kernel_rfl
theorem as_cn (v : Value) (w : World) : (Instr.typeAssert (.iface 112 v) 74 108 true).run Tryz.prog w = .ok (.tuple #[.agg #[.int .i64 0], .bool false]) w := by kernel_rfl
theorem as_cv (v : Value) (w : World) : (Instr.typeAssert (.iface 112 v) 74 110 true).run Tryz.prog w = .ok (.tuple #[.agg #[.int .i64 0], .bool false]) w := by kernel_rfl
theorem as_cc (v : Value) (w : World) : (Instr.typeAssert (.iface 112 v) 74 112 true).run Tryz.prog w = .ok (.tuple #[v, .bool true]) w := by kernel_rfl
theorem as_co (v : Value) (w : World) : (Instr.typeAssert (.iface 112 v) 74 115 true).run Tryz.prog w = .ok (.tuple #[.agg #[.int .i64 0, .slice none 0 0], .bool false]) w := by kernel_rfl
theorem as_on (v : Value) (w : World) : (Instr.typeAssert (.iface 115 v) 74 108 true).run Tryz.prog w = .ok (.tuple #[.agg #[.int .i64 0], .bool false]) w := by kernel_rfl
theorem as_ov (v : Value) (w : World) : (Instr.typeAssert (.iface 115 v) 74 110 true).run Tryz.prog w = .ok (.tuple #[.agg #[.int .i64 0], .bool false]) w := by kernel_rfl
theorem as_oc (v : Value) (w : World) : (Instr.typeAssert (.iface 115 v) 74 112 true).run Tryz.prog w = .ok (.tuple #[.agg #[.nilIface, .nilIface, .nilIface], .bool false]) w := by kernel_rfl
theorem as_oo (v : Value) (w : World) : (Instr.typeAssert (.iface 115 v) 74 115 true).run Tryz.prog w = .ok (.tuple #[v, .bool true]) w := by kernel_rfl
end Go.Proofs.YtkadanagmahhgaaGreatDoor
namespace Go.Proofs.YtkadanagmahhgaaGreatDoor
open Go.ChangeShapes Go.WideShapes Go.ChangeAt Go.RowKit
open Go.MapKept Go.ChangeMaps
set_option linter.unusedVariables false
attribute [local go_sem] as_nn as_nv as_no as_vn as_vv as_vo as_on as_ov as_oo

/-- How the program answers with the sum of a tree, or with none. -/
def IOf (W : World) (o : Option (List Mon)) (r : Ending) (w' : World) : Prop := ∃ v, r = .returned (.tuple #[v, .bool o.isSome]) ∧ OwnV w' W.heap.size v (o.getD []) ∧ Below W.heap.size W w'
theorem IAns.iof {W : World} {s : List Mon} {r : Ending} {w' : World} (h : IAns W s r w') : IOf W (okP s) r w' := by
  obtain ⟨v, h1, h2, h3⟩ := h
  unfold okP
  cases hb : polyB s with
  | true => rw [hb] at h1 h2; exact ⟨v, h1, by simpa using h2, h3⟩
  | false => rw [hb] at h1 h2; exact ⟨v, h1, by simpa using h2, h3⟩
theorem IOf.up {W W1 : World} {o : Option (List Mon)} {r : Ending} {w' : World} (hb : Below W.heap.size W W1) (h : IOf W1 o r w') : IOf W o r w' := by
  obtain ⟨v, h1, h2, h3⟩ := h
  exact ⟨v, h1, h2.lower hb.size, hb.trans (h3.mono hb.size)⟩
theorem OwnV.psl {w : World} {lo : Nat} {v : Value} {q : List Mon} (h : OwnV w lo v q) (hf : ∀ m ∈ q, m.1.length = 4) : SpecV w v q := by
  rcases h with ⟨rfl, a, cap, rfl⟩ | ⟨g, cap, rfl, h2, h3, h4⟩
  · exact ⟨a, cap, rfl, rfl, .inl rfl⟩
  · exact ⟨_, cap, rfl, h4.psl fun i hi => by
      have : q.getD i ([], 0) ∈ q := by rw [List.getD_eq_getElem?_getD, List.getElem?_eq_getElem hi]; exact List.getElem_mem _
      rw [hf _ this]; omega⟩
theorem dv_shl (n : Int) : dv 7 1 n 0 = shlN n := by
  unfold dv shlN
  rw [if_neg (by decide), if_neg (by decide), if_neg (by decide), if_neg (by decide), if_pos rfl, Int.one_mul]
theorem dt_shl (n : Int) : dt 7 n = false := by
  unfold dt
  rw [show ((7 : Int) == 8) = false from by decide, Bool.false_and]
set_option maxRecDepth 20000 in
theorem shift_any (n : Int) (W : World) (hT : Tab W) : Calls Tryz.prog 162 #[.iface 108 (.agg #[.int .i64 n])] W fun r w' => r = .returned (.int .i64 (shlN n)) ∧ Below W.heap.size W w' := by
  have HD : Hid (∀ W' a c, Tab W' → Sl W' a 2 [1, n] → Calls Tryz.prog 174 #[.int .i64 7, .slice a 2 c] W' fun e w' => e = .returned (.tuple #[.int .i64 (shlN n), .bool false, .bool true]) ∧ Below W'.heap.size W' w') := fun W' a c ht hs => by
    have := implDo_good 7 a 2 c [1, n] W' ht (by omega) hs rfl
    simp only [List.getD_cons_zero, List.getD_cons_succ, List.getD_nil] at this
    rw [dv_shl, dt_shl] at this
    exact this
  obtain ⟨W1, hW1⟩ : ∃ W1, W.alloc (.cells #[.int .i64 n] 108) = W1 := ⟨_, rfl⟩
  have hb1 : Below W.heap.size W W1 := by rw [← hW1]; exact (Below.refl _ _).alloc (Nat.le_refl _) _
  have n0 : W1.cell? ⟨W.heap.size, 0, none⟩ = some (.int .i64 n) := by rw [← hW1]; simp [go_sem]
  obtain ⟨W2, hW2⟩ : ∃ W2, W1.alloc (.cells #[.int .i64 1, .int .i64 n] 2) = W2 := ⟨_, rfl⟩
  have hb2 : Below W1.heap.size W1 W2 := by rw [← hW2]; exact (Below.refl _ _).alloc (Nat.le_refl _) _
  have hB2 := hb1.trans (hb2.mono hb1.size)
  have hsl : Sl W2 (some ⟨W1.heap.size, 0, none⟩) 2 [1, n] := by
    refine ⟨rfl, .inr ⟨W1.heap.size, 0, rfl, by rw [← hW2]; simp, fun i hi => ?_⟩⟩
    rw [← hW2]
    match i, hi with
    | 0, _ => simp [go_sem]
    | 1, _ => simp [go_sem]
  have HC := (show Hid _ from HD.out W2 _ 2 (hT.keeps hB2) hsl)
  clear HD hsl hT
  go_enter Tryz.func162, Tryz.ntmps162
  go_wp2_with fail
  (try rw [hW1])
  (try rw [hW2])
  refine Calls.mono HC.out ?_
  rintro r w3 ⟨rfl, hb3⟩
  clear HC
  go_wp2
  go_ret
  exact ⟨rfl, hB2.trans (hb3.mono hB2.size)⟩
set_option maxRecDepth 20000 in
theorem ofNum (n : Int) (hn : InI n) (W : World) : Calls Tryz.prog 113 #[.iface 108 (.agg #[.int .i64 n])] W fun r w' => IOf W (some (numP n)) r w' := by
  have hb0 : Below W.heap.size W (W.alloc (.cells #[.int .i64 n] 108)) := (Below.refl _ _).alloc (Nat.le_refl _) _
  have HC := (show Hid _ from (polyNum_any n hn (W.alloc (.cells #[.int .i64 n] 108))).mono fun r w' h => IOf.up hb0 h.iof)
  have e : okP (numP n) = some (numP n) := by unfold okP; rw [num_good]; rfl
  rw [e] at HC
  clear hb0 e
  go_enter Tryz.func113, Tryz.ntmps113
  go_wp2_with fail
  refine Calls.mono HC.out ?_
  rintro r w5 ⟨v5, rfl, o5, hB5⟩
  clear HC
  go_wp2
  go_ret2
  exact ⟨_, rfl, o5, hB5⟩
set_option maxRecDepth 20000 in
theorem ofOp (o : Option (List Mon)) (op : Int) (a : Option Addr) (m c : Nat) (W : World) (C : ∀ W', Below W.heap.size W W' → Calls Tryz.prog 142 #[.agg #[.int .i64 op, .slice a m c]] W' fun r w' => IOf W' o r w') :
    Calls Tryz.prog 113 #[.iface 115 (.agg #[.int .i64 op, .slice a m c])] W fun r w' => IOf W o r w' := by
  have hb0 : Below W.heap.size W (W.alloc (.cells #[.int .i64 op, .slice a m c] 115)) := (Below.refl _ _).alloc (Nat.le_refl _) _
  have HC := (show Hid _ from (C _ hb0).mono fun r w' h => IOf.up hb0 h)
  clear hb0 C
  go_enter Tryz.func113, Tryz.ntmps113
  go_wp2_with fail
  refine Calls.mono HC.out ?_
  rintro r w5 ⟨v5, rfl, o5, hB5⟩
  clear HC
  go_wp2
  go_ret2
  exact ⟨_, rfl, o5, hB5⟩
end Go.Proofs.YtkadanagmahhgaaGreatDoor
namespace Go.Proofs.YtkadanagmahhgaaGreatDoor
open Go.ChangeShapes Go.WideShapes Go.ChangeAt Go.RowKit
set_option linter.unusedVariables false
attribute [local go_sem] as_nn as_nv as_no as_vn as_vv as_vo as_on as_ov as_oo

/-- The tree v has the sum o, in every later world. -/
def HasSum (W : World) (v : Value) (o : Option (List Mon)) : Prop := ∀ W', Below W.heap.size W W' → Calls Tryz.prog 113 #[v] W' fun r w' => IOf W' o r w'
set_option maxRecDepth 20000 in
theorem opNone (op : Int) (m g cap : Nat) (W : World) (t0 : TypeId) (x0 : Value) (hm : 1 ≤ m) (c0 : W.cell? ⟨g, 0, none⟩ = some (.iface t0 x0)) (h0 : HasSum W (.iface t0 x0) none) :
    Calls Tryz.prog 142 #[.agg #[.int .i64 op, .slice (some ⟨g, 0, none⟩) m cap]] W fun r w' => IOf W none r w' := by
  obtain ⟨W1, hW1⟩ : ∃ W1, W.alloc (.cells #[.int .i64 op, .slice (some ⟨g, 0, none⟩) m cap] 115) = W1 := ⟨_, rfl⟩
  have hb0 : Below W.heap.size W W1 := by rw [← hW1]; exact (Below.refl _ _).alloc (Nat.le_refl _) _
  have hs1 : W.heap.size < W1.heap.size := by rw [← hW1]; simp
  have n0 : W1.cell? ⟨W.heap.size, 0, none⟩ = some (.int .i64 op) := by rw [← hW1]; simp [go_sem]
  have n1 : W1.cell? ⟨W.heap.size, 1, none⟩ = some (.slice (some ⟨g, 0, none⟩) m cap) := by rw [← hW1]; simp [go_sem]
  have hgl : g < W.heap.size := World.block_lt_of_cell? W _ c0
  have d0 := (hb0.cell (p := ⟨g, 0, none⟩) hgl).trans c0
  have i0 : (0 : Int) < m := by omega
  have HC := (show Hid _ from h0 W1 hb0)
  clear h0 c0
  go_enter Tryz.func142, Tryz.ntmps142
  go_wp2_with fail
  (try rw [hW1])
  refine Calls.mono HC.out ?_
  rintro r w1 ⟨v, rfl, o, hb1⟩
  have hB1 := hb0.trans (hb1.mono hb0.size)
  clear HC
  go_wp2
  go_ret2
  exact ⟨_, rfl, OwnV.nil _ _, hB1⟩
set_option maxRecDepth 20000 in
theorem opNeg (g cap : Nat) (W : World) (t0 : TypeId) (x0 : Value) (p : List Mon) (c0 : W.cell? ⟨g, 0, none⟩ = some (.iface t0 x0)) (h0 : HasSum W (.iface t0 x0) (some p)) (hp : GoodS p) :
    Calls Tryz.prog 142 #[.agg #[.int .i64 3, .slice (some ⟨g, 0, none⟩) 1 cap]] W fun r w' => IOf W (okP (mulP p (numP (-1)))) r w' := by
  obtain ⟨W1, hW1⟩ : ∃ W1, W.alloc (.cells #[.int .i64 3, .slice (some ⟨g, 0, none⟩) 1 cap] 115) = W1 := ⟨_, rfl⟩
  have hb0 : Below W.heap.size W W1 := by rw [← hW1]; exact (Below.refl _ _).alloc (Nat.le_refl _) _
  have hs1 : W.heap.size < W1.heap.size := by rw [← hW1]; simp
  have n0 : W1.cell? ⟨W.heap.size, 0, none⟩ = some (.int .i64 3) := by rw [← hW1]; simp [go_sem]
  have n1 : W1.cell? ⟨W.heap.size, 1, none⟩ = some (.slice (some ⟨g, 0, none⟩) 1 cap) := by rw [← hW1]; simp [go_sem]
  have hgl : g < W.heap.size := World.block_lt_of_cell? W _ c0
  have d0 := (hb0.cell (p := ⟨g, 0, none⟩) hgl).trans c0
  have HC := (show Hid _ from h0 W1 hb0)
  clear h0 c0
  go_enter Tryz.func142, Tryz.ntmps142
  go_wp2_with fail
  (try rw [hW1])
  refine Calls.mono HC.out ?_
  rintro r w1 ⟨v, rfl, o, hb1⟩
  have hB1 := hb0.trans (hb1.mono hb0.size)
  have k0 := (hb1.cell (p := ⟨W.heap.size, 0, none⟩) hs1).trans n0
  obtain ⟨a, c, rfl, hP⟩ := OwnV.psl o hp.len
  have HT := (show Hid _ from (polyTimes_any a p.length c p (-1) (by unfold InI; omega) w1 hP hp.1).mono fun r w' h => IOf.up hB1 h.iof)
  clear HC o hP n0 n1 d0
  go_wp2_with fail
  refine Calls.mono HT.out ?_
  rintro r w5 ⟨v5, rfl, o5, hB5⟩
  clear HT
  go_wp2
  go_ret2
  exact ⟨_, rfl, o5, hB5⟩
set_option maxRecDepth 20000 in
theorem opShl (g cap : Nat) (W : World) (hT : Tab W) (t0 : TypeId) (x0 : Value) (n : Int) (p : List Mon) (c0 : W.cell? ⟨g, 0, none⟩ = some (.iface t0 x0)) (c1 : W.cell? ⟨g, 1, none⟩ = some (.iface 108 (.agg #[.int .i64 n]))) (h0 : HasSum W (.iface t0 x0) (some p)) (hp : GoodS p) :
    Calls Tryz.prog 142 #[.agg #[.int .i64 7, .slice (some ⟨g, 0, none⟩) 2 cap]] W fun r w' => IOf W (okP (mulP p (numP (shlN n)))) r w' := by
  obtain ⟨O, hO⟩ : ∃ O, okP (mulP p (numP (shlN n))) = O := ⟨_, rfl⟩
  rw [hO]
  obtain ⟨W1, hW1⟩ : ∃ W1, W.alloc (.cells #[.int .i64 7, .slice (some ⟨g, 0, none⟩) 2 cap] 115) = W1 := ⟨_, rfl⟩
  have hb0 : Below W.heap.size W W1 := by rw [← hW1]; exact (Below.refl _ _).alloc (Nat.le_refl _) _
  have hs1 : W.heap.size < W1.heap.size := by rw [← hW1]; simp
  have n0 : W1.cell? ⟨W.heap.size, 0, none⟩ = some (.int .i64 7) := by rw [← hW1]; simp [go_sem]
  have n1 : W1.cell? ⟨W.heap.size, 1, none⟩ = some (.slice (some ⟨g, 0, none⟩) 2 cap) := by rw [← hW1]; simp [go_sem]
  have hgl : g < W.heap.size := World.block_lt_of_cell? W _ c0
  have d0 := (hb0.cell (p := ⟨g, 0, none⟩) hgl).trans c0
  have d1 := (hb0.cell (p := ⟨g, 1, none⟩) hgl).trans c1
  have HC := (show Hid _ from h0 W1 hb0)
  clear h0 c0 c1
  go_enter Tryz.func142, Tryz.ntmps142
  go_wp2_with fail
  (try rw [hW1])
  refine Calls.mono HC.out ?_
  rintro r w1 ⟨v, rfl, o, hb1⟩
  have hB1 := hb0.trans (hb1.mono hb0.size)
  have k0 := (hb1.cell (p := ⟨W.heap.size, 0, none⟩) hs1).trans n0
  have k1 := (hb1.cell (p := ⟨W.heap.size, 1, none⟩) hs1).trans n1
  have k2 := (hb1.cell (p := ⟨g, 1, none⟩) (by show g < W1.heap.size; omega)).trans d1
  obtain ⟨a, c, rfl, hP⟩ := OwnV.psl o hp.len
  have HS := (show Hid _ from shift_any n w1 (hT.keeps hB1))
  have HT : Hid (∀ W', Below w1.heap.size w1 W' → Calls Tryz.prog 161 #[.slice a p.length c, .int .i64 (shlN n)] W' fun r w' => IOf W O r w') := fun W' hW => by rw [← hO]; exact (polyTimes_any a p.length c p (shlN n) (wrap_in _) W' (hP.keep hW) hp.1).mono fun r w' h => IOf.up (hB1.trans (hW.mono hB1.size)) h.iof
  clear HC o hP n0 n1 d0 d1 hT hO
  generalize shlN n = N at HS HT
  go_wp2_with fail
  refine Calls.mono HS.out ?_
  rintro r w3 ⟨rfl, hb3⟩
  clear HS
  go_wp2_with fail
  refine Calls.mono (HT.out _ hb3) ?_
  rintro r w5 ⟨v5, rfl, o5, hB5⟩
  clear HT
  go_wp2
  go_ret2
  exact ⟨_, rfl, o5, hB5⟩
set_option maxRecDepth 20000 in
theorem opPairNone (op : Int) (hop : op = 4 ∨ op = 5 ∨ op = 6) (g cap : Nat) (W : World) (t0 t1 : TypeId) (x0 x1 : Value) (p : List Mon) (c0 : W.cell? ⟨g, 0, none⟩ = some (.iface t0 x0)) (c1 : W.cell? ⟨g, 1, none⟩ = some (.iface t1 x1)) (h0 : HasSum W (.iface t0 x0) (some p)) (h1 : HasSum W (.iface t1 x1) none) :
    Calls Tryz.prog 142 #[.agg #[.int .i64 op, .slice (some ⟨g, 0, none⟩) 2 cap]] W fun r w' => IOf W none r w' := by
  obtain ⟨W1, hW1⟩ : ∃ W1, W.alloc (.cells #[.int .i64 op, .slice (some ⟨g, 0, none⟩) 2 cap] 115) = W1 := ⟨_, rfl⟩
  have hb0 : Below W.heap.size W W1 := by rw [← hW1]; exact (Below.refl _ _).alloc (Nat.le_refl _) _
  have hs1 : W.heap.size < W1.heap.size := by rw [← hW1]; simp
  have n0 : W1.cell? ⟨W.heap.size, 0, none⟩ = some (.int .i64 op) := by rw [← hW1]; simp [go_sem]
  have n1 : W1.cell? ⟨W.heap.size, 1, none⟩ = some (.slice (some ⟨g, 0, none⟩) 2 cap) := by rw [← hW1]; simp [go_sem]
  have hgl : g < W.heap.size := World.block_lt_of_cell? W _ c0
  have d0 := (hb0.cell (p := ⟨g, 0, none⟩) hgl).trans c0
  have i3 : (op == 3) = false := by rcases hop with rfl | rfl | rfl <;> rfl
  have i7 : (op == 7) = false := by rcases hop with rfl | rfl | rfl <;> rfl
  have d1 := (hb0.cell (p := ⟨g, 1, none⟩) hgl).trans c1
  have HC := (show Hid _ from h0 W1 hb0)
  have H1 := (show Hid (HasSum W (.iface t1 x1) none) from h1)
  clear h0 c0 c1 h1 hop
  go_enter Tryz.func142, Tryz.ntmps142
  go_wp2_with fail
  (try rw [hW1])
  refine Calls.mono HC.out ?_
  rintro r w1 ⟨v, rfl, o, hb1⟩
  have hB1 := hb0.trans (hb1.mono hb0.size)
  have k0 := (hb1.cell (p := ⟨W.heap.size, 0, none⟩) hs1).trans n0
  have k1 := (hb1.cell (p := ⟨W.heap.size, 1, none⟩) hs1).trans n1
  have k2 := (hb1.cell (p := ⟨g, 1, none⟩) (by show g < W1.heap.size; omega)).trans d1
  clear HC o n0 n1 d0 d1
  go_wp2_with fail
  refine Calls.mono (H1.out _ hB1) ?_
  rintro r w3 ⟨v3, rfl, o3, hb3⟩
  clear H1
  go_wp2
  go_ret2
  exact ⟨_, rfl, OwnV.nil _ _, hB1.trans (hb3.mono hB1.size)⟩
set_option maxRecDepth 20000 in
theorem opPair (op : Int) (hop : op = 4 ∨ op = 5 ∨ op = 6) (g cap : Nat) (W : World) (t0 t1 : TypeId) (x0 x1 : Value) (p q : List Mon) (c0 : W.cell? ⟨g, 0, none⟩ = some (.iface t0 x0)) (c1 : W.cell? ⟨g, 1, none⟩ = some (.iface t1 x1)) (h0 : HasSum W (.iface t0 x0) (some p)) (h1 : HasSum W (.iface t1 x1) (some q)) (hp : GoodS p) (hq : GoodS q) :
    Calls Tryz.prog 142 #[.agg #[.int .i64 op, .slice (some ⟨g, 0, none⟩) 2 cap]] W fun r w' => IOf W (okP (twoP op p q)) r w' := by
  obtain ⟨O, hO⟩ : ∃ O, okP (twoP op p q) = O := ⟨_, rfl⟩
  rw [hO]
  obtain ⟨W1, hW1⟩ : ∃ W1, W.alloc (.cells #[.int .i64 op, .slice (some ⟨g, 0, none⟩) 2 cap] 115) = W1 := ⟨_, rfl⟩
  have hb0 : Below W.heap.size W W1 := by rw [← hW1]; exact (Below.refl _ _).alloc (Nat.le_refl _) _
  have hs1 : W.heap.size < W1.heap.size := by rw [← hW1]; simp
  have n0 : W1.cell? ⟨W.heap.size, 0, none⟩ = some (.int .i64 op) := by rw [← hW1]; simp [go_sem]
  have n1 : W1.cell? ⟨W.heap.size, 1, none⟩ = some (.slice (some ⟨g, 0, none⟩) 2 cap) := by rw [← hW1]; simp [go_sem]
  have hgl : g < W.heap.size := World.block_lt_of_cell? W _ c0
  have d0 := (hb0.cell (p := ⟨g, 0, none⟩) hgl).trans c0
  have i3 : (op == 3) = false := by rcases hop with rfl | rfl | rfl <;> rfl
  have i7 : (op == 7) = false := by rcases hop with rfl | rfl | rfl <;> rfl
  have d1 := (hb0.cell (p := ⟨g, 1, none⟩) hgl).trans c1
  have HC := (show Hid _ from h0 W1 hb0)
  have H1 := (show Hid (HasSum W (.iface t1 x1) (some q)) from h1)
  have HOp := (show Hid _ from hop)
  clear h0 c0 c1 h1 hop
  go_enter Tryz.func142, Tryz.ntmps142
  go_wp2_with fail
  (try rw [hW1])
  refine Calls.mono HC.out ?_
  rintro r w1 ⟨v, rfl, o, hb1⟩
  have hB1 := hb0.trans (hb1.mono hb0.size)
  have k0 := (hb1.cell (p := ⟨W.heap.size, 0, none⟩) hs1).trans n0
  have k1 := (hb1.cell (p := ⟨W.heap.size, 1, none⟩) hs1).trans n1
  have k2 := (hb1.cell (p := ⟨g, 1, none⟩) (by show g < W1.heap.size; omega)).trans d1
  obtain ⟨a, c, rfl, hP⟩ := OwnV.psl o hp.len
  have HT : Hid (∀ w3 b c', Below w1.heap.size w1 w3 → PSl w3 b q.length q → Calls Tryz.prog 163 #[.int .i64 op, .slice a p.length c, .slice b q.length c'] w3 fun r w' => IOf W O r w') := fun w3 b c' hW hQ => by rw [← hO]; exact (polyPair_any op a p.length c p b q.length c' q w3 (hP.keep hW) hQ hp.1 hq.1 hp.2 hq.2 HOp.out).mono fun r w' h => IOf.up (hB1.trans (hW.mono hB1.size)) h.iof
  clear HC o hP n0 n1 d0 d1 HOp hO
  go_wp2_with fail
  refine Calls.mono (H1.out _ hB1) ?_
  rintro r w3 ⟨v3, rfl, o3, hb3⟩
  have k3 := (hb3.cell (p := ⟨W.heap.size, 0, none⟩) (by show W.heap.size < w1.heap.size; have := hb1.size; omega)).trans k0
  obtain ⟨b, c', rfl, hQ⟩ := OwnV.psl o3 hq.len
  have HU := (show Hid _ from HT.out w3 b c' hb3 hQ)
  clear H1 HT o3 hQ k0 k1 k2
  go_wp2_with fail
  refine Calls.mono HU.out ?_
  rintro r w5 ⟨v5, rfl, o5, hB5⟩
  clear HU
  go_wp2
  go_ret2
  exact ⟨_, rfl, o5, hB5⟩
end Go.Proofs.YtkadanagmahhgaaGreatDoor
namespace Go.Proofs.YtkadanagmahhgaaGreatDoor
open Go.ChangeShapes Go.WideShapes Go.ChangeAt Go.RowKit
open Go.MapKept Go.ChangeMaps
set_option linter.unusedVariables false
attribute [local go_sem] as_nn as_nv as_no as_vn as_vv as_vo as_on as_ov as_oo

/-- Putting the first key into a map. -/
theorem insert_new {w : World} {b : Nat} (h : w.heap[b]? = some (.map #[] 0)) {e : List Int} (he : Key4 e) (x : Int) :
    (Instr.mapUpdate 173 (.map (some b)) (keyV e) (.int .i64 x)).run Tryz.prog w = .ok () (setBlock w b (.map (#[].push ⟨keyV e, .int .i64 x, 0⟩) 1)) ∧ ∀ w3 : World, w3.heap[b]? = some (.map (#[].push ⟨keyV e, .int .i64 x, 0⟩) 1) → PMap w3 b [(e, x)] := by
  obtain ⟨l, hl⟩ := key_some he
  have h2 : Stamped #[] 0 := stamped_empty _
  rcases PMap.find (w := w) (es := #[]) (M := []) rfl (fun m hm => by cases hm) he with ⟨r1, r2, r3⟩ | ⟨j, y, m, r1, r2, r3, r4, rfl⟩
  · refine ⟨?_, fun w3 hw3 => ⟨_, _, hw3, stamped_push h2 r2, rfl, fun m hm => by rw [List.mem_singleton.1 hm]; exact he⟩⟩
    simp [Instr.mapUpdate, run_underlying Tryz.underlying173, MapKept.run_getObj_map h, keyLaw.check w false hl, r1, MapKept.run_setObj_map _ h, Result.andThen, setBlock]
  · cases r4
set_option maxRecDepth 20000 in
theorem ofVar0 (W : World) : Calls Tryz.prog 113 #[.iface 110 (.agg #[.int .i64 0])] W fun r w' => IOf W (some (varP 0)) r w' := by
  have hb2 : Below W.heap.size W ((W.alloc (.cells #[.int .i64 0] 110)).alloc (.cells #[.int .i64 1, .int .i64 0, .int .i64 0, .int .i64 0] 171)) := ((Below.refl _ _).alloc (Nat.le_refl _) _).alloc (by simp) _
  have hs2 : ((W.alloc (.cells #[.int .i64 0] 110)).alloc (.cells #[.int .i64 1, .int .i64 0, .int .i64 0, .int .i64 0] 171)).heap.size = W.heap.size + 1 + 1 := by simp
  obtain ⟨W4, hW4⟩ : ∃ W4, ((W.alloc (.cells #[.int .i64 0] 110)).alloc (.cells #[.int .i64 1, .int .i64 0, .int .i64 0, .int .i64 0] 171)).alloc (.map #[] 0) = W4 := ⟨_, rfl⟩
  have hB4 : Below W.heap.size W W4 := by rw [← hW4]; exact hb2.alloc hb2.size _
  have hm4 : W4.heap[W.heap.size + 1 + 1]? = some (.map #[] 0) := by rw [← hW4, ← hs2]; exact heap_alloc_new _ _
  have hs4 : W.heap.size + 1 + 1 < W4.heap.size := by rw [← hW4]; simp
  have hkey : Key4 [1, 0, 0, 0] := ⟨rfl, fun x hx => by simp at hx; unfold InI; omega⟩
  obtain ⟨hins, hP⟩ := insert_new hm4 hkey 1
  obtain ⟨W5, hW5⟩ : ∃ W5, setBlock W4 (W.heap.size + 1 + 1) (.map (#[].push ⟨keyV [1, 0, 0, 0], .int .i64 1, 0⟩) 1) = W5 := ⟨_, rfl⟩
  have hP5 : PMap W5 (W.heap.size + 1 + 1) [([1, 0, 0, 0], 1)] := hP W5 (by rw [← hW5]; exact setBlock_get hs4)
  have hB5 : Below W.heap.size W W5 := by
    have g : W4.grownBy W5 (some (W.heap.size + 1 + 1)) := by rw [← hW5]; exact grown_block ⟨rfl, rfl, rfl, Nat.le_refl _, fun _ _ _ => rfl⟩
    exact hB4.grown g hB4.size (fun r hr => by cases hr; omega)
  rw [hW5, ← hW4] at hins
  have hin : (Instr.mapUpdate 173 (.map (some (W.heap.size + 1 + 1))) (.agg #[.int .i64 1, .int .i64 0, .int .i64 0, .int .i64 0]) (.int .i64 1)).run Tryz.prog (((W.alloc (.cells #[.int .i64 0] 110)).alloc (.cells #[.int .i64 1, .int .i64 0, .int .i64 0, .int .i64 0] 171)).alloc (.map #[] 0)) = .ok () W5 := hins
  have HO : Hid (Calls Tryz.prog 141 #[.map (some (W.heap.size + 1 + 1))] W5 fun r w' => IOf W (some (varP 0)) r w') := by
    have e : okP (varP 0) = some (varP 0) := by unfold okP; rw [var_good 0 (by omega)]; rfl
    rw [← e]
    refine (order_ans (s := varP 0) hB5 hP5 (fun m hm => by rw [List.mem_singleton.1 hm]; exact ⟨by show InI 1; unfold InI; omega, by decide⟩) (by simp) fun q hq hc => ?_).mono fun r w' h => h.iof
    obtain ⟨g1, g2, g3⟩ := putP_ok (k := 4) (p := []) (e := unit4 0) (n := 1) rfl (by unfold InI; omega) List.Pairwise.nil (fun x hx => by cases hx)
    refine sum_unique hq ⟨g1, g2⟩ fun e => ?_
    rw [hc e, coef_cons, coef_nil]
    refine Like.trans ?_ (g3 e).symm
    rw [coef_nil, Int.add_comm]
    exact Like.refl _
  have hmm := @run_makeMap Tryz.prog
  clear hins hP hP5 hB5 hm4 hkey hB4 hb2 hs2 hs4 hW4 hW5
  go_enter Tryz.func113, Tryz.ntmps113
  go_wp2_with fail
  refine Calls.mono HO.out ?_
  rintro r w5 ⟨v5, rfl, o5, hb5⟩
  clear HO
  go_wp2
  go_ret2
  exact ⟨_, rfl, o5, hb5⟩
set_option maxRecDepth 20000 in
theorem ofVar1 (W : World) : Calls Tryz.prog 113 #[.iface 110 (.agg #[.int .i64 1])] W fun r w' => IOf W (some (varP 1)) r w' := by
  have hb2 : Below W.heap.size W ((W.alloc (.cells #[.int .i64 1] 110)).alloc (.cells #[.int .i64 0, .int .i64 1, .int .i64 0, .int .i64 0] 171)) := ((Below.refl _ _).alloc (Nat.le_refl _) _).alloc (by simp) _
  have hs2 : ((W.alloc (.cells #[.int .i64 1] 110)).alloc (.cells #[.int .i64 0, .int .i64 1, .int .i64 0, .int .i64 0] 171)).heap.size = W.heap.size + 1 + 1 := by simp
  obtain ⟨W4, hW4⟩ : ∃ W4, ((W.alloc (.cells #[.int .i64 1] 110)).alloc (.cells #[.int .i64 0, .int .i64 1, .int .i64 0, .int .i64 0] 171)).alloc (.map #[] 0) = W4 := ⟨_, rfl⟩
  have hB4 : Below W.heap.size W W4 := by rw [← hW4]; exact hb2.alloc hb2.size _
  have hm4 : W4.heap[W.heap.size + 1 + 1]? = some (.map #[] 0) := by rw [← hW4, ← hs2]; exact heap_alloc_new _ _
  have hs4 : W.heap.size + 1 + 1 < W4.heap.size := by rw [← hW4]; simp
  have hkey : Key4 [0, 1, 0, 0] := ⟨rfl, fun x hx => by simp at hx; unfold InI; omega⟩
  obtain ⟨hins, hP⟩ := insert_new hm4 hkey 1
  obtain ⟨W5, hW5⟩ : ∃ W5, setBlock W4 (W.heap.size + 1 + 1) (.map (#[].push ⟨keyV [0, 1, 0, 0], .int .i64 1, 0⟩) 1) = W5 := ⟨_, rfl⟩
  have hP5 : PMap W5 (W.heap.size + 1 + 1) [([0, 1, 0, 0], 1)] := hP W5 (by rw [← hW5]; exact setBlock_get hs4)
  have hB5 : Below W.heap.size W W5 := by
    have g : W4.grownBy W5 (some (W.heap.size + 1 + 1)) := by rw [← hW5]; exact grown_block ⟨rfl, rfl, rfl, Nat.le_refl _, fun _ _ _ => rfl⟩
    exact hB4.grown g hB4.size (fun r hr => by cases hr; omega)
  rw [hW5, ← hW4] at hins
  have hin : (Instr.mapUpdate 173 (.map (some (W.heap.size + 1 + 1))) (.agg #[.int .i64 0, .int .i64 1, .int .i64 0, .int .i64 0]) (.int .i64 1)).run Tryz.prog (((W.alloc (.cells #[.int .i64 1] 110)).alloc (.cells #[.int .i64 0, .int .i64 1, .int .i64 0, .int .i64 0] 171)).alloc (.map #[] 0)) = .ok () W5 := hins
  have HO : Hid (Calls Tryz.prog 141 #[.map (some (W.heap.size + 1 + 1))] W5 fun r w' => IOf W (some (varP 1)) r w') := by
    have e : okP (varP 1) = some (varP 1) := by unfold okP; rw [var_good 1 (by omega)]; rfl
    rw [← e]
    refine (order_ans (s := varP 1) hB5 hP5 (fun m hm => by rw [List.mem_singleton.1 hm]; exact ⟨by show InI 1; unfold InI; omega, by decide⟩) (by simp) fun q hq hc => ?_).mono fun r w' h => h.iof
    obtain ⟨g1, g2, g3⟩ := putP_ok (k := 4) (p := []) (e := unit4 1) (n := 1) rfl (by unfold InI; omega) List.Pairwise.nil (fun x hx => by cases hx)
    refine sum_unique hq ⟨g1, g2⟩ fun e => ?_
    rw [hc e, coef_cons, coef_nil]
    refine Like.trans ?_ (g3 e).symm
    rw [coef_nil, Int.add_comm]
    exact Like.refl _
  have hmm := @run_makeMap Tryz.prog
  clear hins hP hP5 hB5 hm4 hkey hB4 hb2 hs2 hs4 hW4 hW5
  go_enter Tryz.func113, Tryz.ntmps113
  go_wp2_with fail
  refine Calls.mono HO.out ?_
  rintro r w5 ⟨v5, rfl, o5, hb5⟩
  clear HO
  go_wp2
  go_ret2
  exact ⟨_, rfl, o5, hb5⟩
set_option maxRecDepth 20000 in
theorem ofVar2 (W : World) : Calls Tryz.prog 113 #[.iface 110 (.agg #[.int .i64 2])] W fun r w' => IOf W (some (varP 2)) r w' := by
  have hb2 : Below W.heap.size W ((W.alloc (.cells #[.int .i64 2] 110)).alloc (.cells #[.int .i64 0, .int .i64 0, .int .i64 1, .int .i64 0] 171)) := ((Below.refl _ _).alloc (Nat.le_refl _) _).alloc (by simp) _
  have hs2 : ((W.alloc (.cells #[.int .i64 2] 110)).alloc (.cells #[.int .i64 0, .int .i64 0, .int .i64 1, .int .i64 0] 171)).heap.size = W.heap.size + 1 + 1 := by simp
  obtain ⟨W4, hW4⟩ : ∃ W4, ((W.alloc (.cells #[.int .i64 2] 110)).alloc (.cells #[.int .i64 0, .int .i64 0, .int .i64 1, .int .i64 0] 171)).alloc (.map #[] 0) = W4 := ⟨_, rfl⟩
  have hB4 : Below W.heap.size W W4 := by rw [← hW4]; exact hb2.alloc hb2.size _
  have hm4 : W4.heap[W.heap.size + 1 + 1]? = some (.map #[] 0) := by rw [← hW4, ← hs2]; exact heap_alloc_new _ _
  have hs4 : W.heap.size + 1 + 1 < W4.heap.size := by rw [← hW4]; simp
  have hkey : Key4 [0, 0, 1, 0] := ⟨rfl, fun x hx => by simp at hx; unfold InI; omega⟩
  obtain ⟨hins, hP⟩ := insert_new hm4 hkey 1
  obtain ⟨W5, hW5⟩ : ∃ W5, setBlock W4 (W.heap.size + 1 + 1) (.map (#[].push ⟨keyV [0, 0, 1, 0], .int .i64 1, 0⟩) 1) = W5 := ⟨_, rfl⟩
  have hP5 : PMap W5 (W.heap.size + 1 + 1) [([0, 0, 1, 0], 1)] := hP W5 (by rw [← hW5]; exact setBlock_get hs4)
  have hB5 : Below W.heap.size W W5 := by
    have g : W4.grownBy W5 (some (W.heap.size + 1 + 1)) := by rw [← hW5]; exact grown_block ⟨rfl, rfl, rfl, Nat.le_refl _, fun _ _ _ => rfl⟩
    exact hB4.grown g hB4.size (fun r hr => by cases hr; omega)
  rw [hW5, ← hW4] at hins
  have hin : (Instr.mapUpdate 173 (.map (some (W.heap.size + 1 + 1))) (.agg #[.int .i64 0, .int .i64 0, .int .i64 1, .int .i64 0]) (.int .i64 1)).run Tryz.prog (((W.alloc (.cells #[.int .i64 2] 110)).alloc (.cells #[.int .i64 0, .int .i64 0, .int .i64 1, .int .i64 0] 171)).alloc (.map #[] 0)) = .ok () W5 := hins
  have HO : Hid (Calls Tryz.prog 141 #[.map (some (W.heap.size + 1 + 1))] W5 fun r w' => IOf W (some (varP 2)) r w') := by
    have e : okP (varP 2) = some (varP 2) := by unfold okP; rw [var_good 2 (by omega)]; rfl
    rw [← e]
    refine (order_ans (s := varP 2) hB5 hP5 (fun m hm => by rw [List.mem_singleton.1 hm]; exact ⟨by show InI 1; unfold InI; omega, by decide⟩) (by simp) fun q hq hc => ?_).mono fun r w' h => h.iof
    obtain ⟨g1, g2, g3⟩ := putP_ok (k := 4) (p := []) (e := unit4 2) (n := 1) rfl (by unfold InI; omega) List.Pairwise.nil (fun x hx => by cases hx)
    refine sum_unique hq ⟨g1, g2⟩ fun e => ?_
    rw [hc e, coef_cons, coef_nil]
    refine Like.trans ?_ (g3 e).symm
    rw [coef_nil, Int.add_comm]
    exact Like.refl _
  have hmm := @run_makeMap Tryz.prog
  clear hins hP hP5 hB5 hm4 hkey hB4 hb2 hs2 hs4 hW4 hW5
  go_enter Tryz.func113, Tryz.ntmps113
  go_wp2_with fail
  refine Calls.mono HO.out ?_
  rintro r w5 ⟨v5, rfl, o5, hb5⟩
  clear HO
  go_wp2
  go_ret2
  exact ⟨_, rfl, o5, hb5⟩
set_option maxRecDepth 20000 in
theorem ofVar3 (W : World) : Calls Tryz.prog 113 #[.iface 110 (.agg #[.int .i64 3])] W fun r w' => IOf W (some (varP 3)) r w' := by
  have hb2 : Below W.heap.size W ((W.alloc (.cells #[.int .i64 3] 110)).alloc (.cells #[.int .i64 0, .int .i64 0, .int .i64 0, .int .i64 1] 171)) := ((Below.refl _ _).alloc (Nat.le_refl _) _).alloc (by simp) _
  have hs2 : ((W.alloc (.cells #[.int .i64 3] 110)).alloc (.cells #[.int .i64 0, .int .i64 0, .int .i64 0, .int .i64 1] 171)).heap.size = W.heap.size + 1 + 1 := by simp
  obtain ⟨W4, hW4⟩ : ∃ W4, ((W.alloc (.cells #[.int .i64 3] 110)).alloc (.cells #[.int .i64 0, .int .i64 0, .int .i64 0, .int .i64 1] 171)).alloc (.map #[] 0) = W4 := ⟨_, rfl⟩
  have hB4 : Below W.heap.size W W4 := by rw [← hW4]; exact hb2.alloc hb2.size _
  have hm4 : W4.heap[W.heap.size + 1 + 1]? = some (.map #[] 0) := by rw [← hW4, ← hs2]; exact heap_alloc_new _ _
  have hs4 : W.heap.size + 1 + 1 < W4.heap.size := by rw [← hW4]; simp
  have hkey : Key4 [0, 0, 0, 1] := ⟨rfl, fun x hx => by simp at hx; unfold InI; omega⟩
  obtain ⟨hins, hP⟩ := insert_new hm4 hkey 1
  obtain ⟨W5, hW5⟩ : ∃ W5, setBlock W4 (W.heap.size + 1 + 1) (.map (#[].push ⟨keyV [0, 0, 0, 1], .int .i64 1, 0⟩) 1) = W5 := ⟨_, rfl⟩
  have hP5 : PMap W5 (W.heap.size + 1 + 1) [([0, 0, 0, 1], 1)] := hP W5 (by rw [← hW5]; exact setBlock_get hs4)
  have hB5 : Below W.heap.size W W5 := by
    have g : W4.grownBy W5 (some (W.heap.size + 1 + 1)) := by rw [← hW5]; exact grown_block ⟨rfl, rfl, rfl, Nat.le_refl _, fun _ _ _ => rfl⟩
    exact hB4.grown g hB4.size (fun r hr => by cases hr; omega)
  rw [hW5, ← hW4] at hins
  have hin : (Instr.mapUpdate 173 (.map (some (W.heap.size + 1 + 1))) (.agg #[.int .i64 0, .int .i64 0, .int .i64 0, .int .i64 1]) (.int .i64 1)).run Tryz.prog (((W.alloc (.cells #[.int .i64 3] 110)).alloc (.cells #[.int .i64 0, .int .i64 0, .int .i64 0, .int .i64 1] 171)).alloc (.map #[] 0)) = .ok () W5 := hins
  have HO : Hid (Calls Tryz.prog 141 #[.map (some (W.heap.size + 1 + 1))] W5 fun r w' => IOf W (some (varP 3)) r w') := by
    have e : okP (varP 3) = some (varP 3) := by unfold okP; rw [var_good 3 (by omega)]; rfl
    rw [← e]
    refine (order_ans (s := varP 3) hB5 hP5 (fun m hm => by rw [List.mem_singleton.1 hm]; exact ⟨by show InI 1; unfold InI; omega, by decide⟩) (by simp) fun q hq hc => ?_).mono fun r w' h => h.iof
    obtain ⟨g1, g2, g3⟩ := putP_ok (k := 4) (p := []) (e := unit4 3) (n := 1) rfl (by unfold InI; omega) List.Pairwise.nil (fun x hx => by cases hx)
    refine sum_unique hq ⟨g1, g2⟩ fun e => ?_
    rw [hc e, coef_cons, coef_nil]
    refine Like.trans ?_ (g3 e).symm
    rw [coef_nil, Int.add_comm]
    exact Like.refl _
  have hmm := @run_makeMap Tryz.prog
  clear hins hP hP5 hB5 hm4 hkey hB4 hb2 hs2 hs4 hW4 hW5
  go_enter Tryz.func113, Tryz.ntmps113
  go_wp2_with fail
  refine Calls.mono HO.out ?_
  rintro r w5 ⟨v5, rfl, o5, hb5⟩
  clear HO
  go_wp2
  go_ret2
  exact ⟨_, rfl, o5, hb5⟩
theorem ofVar (n : Nat) (hn : n < 4) (W : World) : Calls Tryz.prog 113 #[.iface 110 (.agg #[.int .i64 (n : Int)])] W fun r w' => IOf W (some (varP n)) r w' := by
  match n, hn with
  | 0, _ => exact ofVar0 W
  | 1, _ => exact ofVar1 W
  | 2, _ => exact ofVar2 W
  | 3, _ => exact ofVar3 W
end Go.Proofs.YtkadanagmahhgaaGreatDoor
