/-
  PROVED HERE: which sum of products the program makes of a tree of ring operations, in a world whose table of arities is laid. No other condition.
-/
import Derived.Test.YtpjgjpjfchfmlaaDoorIPolyOps
import Derived.Test.YtpjgjpjfchfmlaaDoorITree
import Derived.Test.YtpjgjpjfchfmlaaDoorDoGoodI
import Derived.Test.YtpjgjpjfchfmlaaDoorAsserts
namespace Go.Proofs.YtpjgjpjfchfmlaaDoor
open Go.ChangeShapes Go.WideShapes Go.ChangeAt Go.RowKit
open Go.MapKept Go.ChangeMaps
set_option linter.unusedVariables false
attribute [local go_sem] as_nn as_nv as_no as_vn as_vv as_vo as_on as_ov as_oo

/-- How the program answers with the sum of a tree, or with none. -/
def IOf (W : World) (o : Option (List Mon)) (r : Ending) (w' : World) : Prop := ∃ v, r = .returned (.tuple #[v, .bool o.isSome]) ∧ OwnV w' W.heap.size v (o.getD []) ∧ Below W.heap.size W w'
theorem IAns.iof {W : World} {s : List Mon} {r : Ending} {w' : World} (h : IAns W s r w') : IOf W (okP s) r w' := by
  obtain ⟨v, h1, h2, h3⟩ := h
  unfold okP
  cases hb : polyB s with
  | true => rw [hb] at h1 h2; exact ⟨v, h1, by simpa using h2, h3⟩
  | false => rw [hb] at h1 h2; exact ⟨v, h1, by simpa using h2, h3⟩
theorem IOf.up {W W1 : World} {o : Option (List Mon)} {r : Ending} {w' : World} (hb : Below W.heap.size W W1) (h : IOf W1 o r w') : IOf W o r w' := by
  obtain ⟨v, h1, h2, h3⟩ := h
  exact ⟨v, h1, h2.lower hb.size, hb.trans (h3.mono hb.size)⟩
theorem OwnV.psl {w : World} {lo : Nat} {v : Value} {q : List Mon} (h : OwnV w lo v q) (hf : ∀ m ∈ q, m.1.length = 4) : SpecV w v q := by
  rcases h with ⟨rfl, a, cap, rfl⟩ | ⟨g, cap, rfl, h2, h3, h4⟩
  · exact ⟨a, cap, rfl, rfl, .inl rfl⟩
  · exact ⟨_, cap, rfl, h4.psl fun i hi => by
      have : q.getD i ([], 0) ∈ q := by rw [List.getD_eq_getElem?_getD, List.getElem?_eq_getElem hi]; exact List.getElem_mem _
      rw [hf _ this]; omega⟩
theorem dv_shl (n : Int) : dv 7 1 n 0 = shlN n := by
  unfold dv shlN
  rw [if_neg (by decide), if_neg (by decide), if_neg (by decide), if_neg (by decide), if_pos rfl, Int.one_mul]
theorem dt_shl (n : Int) : dt 7 n = false := by
  unfold dt
  rw [show ((7 : Int) == 8) = false from by decide, Bool.false_and]
set_option maxRecDepth 20000 in
theorem shift_any (n : Int) (W : World) (hT : Tab W) : Calls Tryd.prog 60 #[.iface 64 (.agg #[.int .i64 n])] W fun r w' => r = .returned (.int .i64 (shlN n)) ∧ Below W.heap.size W w' := by
  have HD : Hid (∀ W' a c, Tab W' → Sl W' a 2 [1, n] → Calls Tryd.prog 68 #[.int .i64 7, .slice a 2 c] W' fun e w' => e = .returned (.tuple #[.int .i64 (shlN n), .bool false, .bool true]) ∧ Below W'.heap.size W' w') := fun W' a c ht hs => by
    have := implDo_good 7 a 2 c [1, n] W' ht (by omega) hs rfl
    simp only [List.getD_cons_zero, List.getD_cons_succ, List.getD_nil] at this
    rw [dv_shl, dt_shl] at this
    exact this
  obtain ⟨W1, hW1⟩ : ∃ W1, W.alloc (.cells #[.int .i64 n] 64) = W1 := ⟨_, rfl⟩
  have hb1 : Below W.heap.size W W1 := by rw [← hW1]; exact (Below.refl _ _).alloc (Nat.le_refl _) _
  have n0 : W1.cell? ⟨W.heap.size, 0, none⟩ = some (.int .i64 n) := by rw [← hW1]; simp [go_sem]
  obtain ⟨W2, hW2⟩ : ∃ W2, W1.alloc (.cells #[.int .i64 1, .int .i64 n] 2) = W2 := ⟨_, rfl⟩
  have hb2 : Below W1.heap.size W1 W2 := by rw [← hW2]; exact (Below.refl _ _).alloc (Nat.le_refl _) _
  have hB2 := hb1.trans (hb2.mono hb1.size)
  have hsl : Sl W2 (some ⟨W1.heap.size, 0, none⟩) 2 [1, n] := by
    refine ⟨rfl, .inr ⟨W1.heap.size, 0, rfl, by rw [← hW2]; simp, fun i hi => ?_⟩⟩
    rw [← hW2]
    match i, hi with
    | 0, _ => simp [go_sem]
    | 1, _ => simp [go_sem]
  have HC := (show Hid _ from HD.out W2 _ 2 (hT.keeps hB2) hsl)
  clear HD hsl hT
  go_enter Tryd.func60, Tryd.ntmps60
  go_wp2_with fail
  (try rw [hW1])
  (try rw [hW2])
  refine Calls.mono HC.out ?_
  rintro r w3 ⟨rfl, hb3⟩
  clear HC
  go_wp2
  go_ret
  exact ⟨rfl, hB2.trans (hb3.mono hB2.size)⟩
set_option maxRecDepth 20000 in
theorem ofNum (n : Int) (hn : InI n) (W : World) : Calls Tryd.prog 21 #[.iface 64 (.agg #[.int .i64 n])] W fun r w' => IOf W (some (numP n)) r w' := by
  have hb0 : Below W.heap.size W (W.alloc (.cells #[.int .i64 n] 64)) := (Below.refl _ _).alloc (Nat.le_refl _) _
  have HC := (show Hid _ from (polyNum_any n hn (W.alloc (.cells #[.int .i64 n] 64))).mono fun r w' h => IOf.up hb0 h.iof)
  have e : okP (numP n) = some (numP n) := by unfold okP; rw [num_good]; rfl
  rw [e] at HC
  clear hb0 e
  go_enter Tryd.func21, Tryd.ntmps21
  go_wp2_with fail
  refine Calls.mono HC.out ?_
  rintro r w5 ⟨v5, rfl, o5, hB5⟩
  clear HC
  go_wp2
  go_ret2
  exact ⟨_, rfl, o5, hB5⟩
set_option maxRecDepth 20000 in
theorem ofOp (o : Option (List Mon)) (op : Int) (a : Option Addr) (m c : Nat) (W : World) (C : ∀ W', Below W.heap.size W W' → Calls Tryd.prog 41 #[.agg #[.int .i64 op, .slice a m c]] W' fun r w' => IOf W' o r w') :
    Calls Tryd.prog 21 #[.iface 75 (.agg #[.int .i64 op, .slice a m c])] W fun r w' => IOf W o r w' := by
  have hb0 : Below W.heap.size W (W.alloc (.cells #[.int .i64 op, .slice a m c] 75)) := (Below.refl _ _).alloc (Nat.le_refl _) _
  have HC := (show Hid _ from (C _ hb0).mono fun r w' h => IOf.up hb0 h)
  clear hb0 C
  go_enter Tryd.func21, Tryd.ntmps21
  go_wp2_with fail
  refine Calls.mono HC.out ?_
  rintro r w5 ⟨v5, rfl, o5, hB5⟩
  clear HC
  go_wp2
  go_ret2
  exact ⟨_, rfl, o5, hB5⟩
end Go.Proofs.YtpjgjpjfchfmlaaDoor
