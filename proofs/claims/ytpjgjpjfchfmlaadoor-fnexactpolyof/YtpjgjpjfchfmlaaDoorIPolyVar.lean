/-
  PROVED HERE: which sum of products the program makes of a variable. No other condition.
-/
import Derived.Test.YtpjgjpjfchfmlaaDoorIPolyOp
namespace Go.Proofs.YtpjgjpjfchfmlaaDoor
open Go.ChangeShapes Go.WideShapes Go.ChangeAt Go.RowKit
open Go.MapKept Go.ChangeMaps
set_option linter.unusedVariables false
attribute [local go_sem] as_nn as_nv as_no as_vn as_vv as_vo as_on as_ov as_oo

/-- Putting the first key into a map. -/
theorem insert_new {w : World} {b : Nat} (h : w.heap[b]? = some (.map #[] 0)) {e : List Int} (he : Key4 e) (x : Int) :
    (Instr.mapUpdate 71 (.map (some b)) (keyV e) (.int .i64 x)).run Tryd.prog w = .ok () (setBlock w b (.map (#[].push ⟨keyV e, .int .i64 x, 0⟩) 1)) ∧ ∀ w3 : World, w3.heap[b]? = some (.map (#[].push ⟨keyV e, .int .i64 x, 0⟩) 1) → PMap w3 b [(e, x)] := by
  obtain ⟨l, hl⟩ := key_some he
  have h2 : Stamped #[] 0 := stamped_empty _
  rcases PMap.find (w := w) (es := #[]) (M := []) rfl (fun m hm => by cases hm) he with ⟨r1, r2, r3⟩ | ⟨j, y, m, r1, r2, r3, r4, rfl⟩
  · refine ⟨?_, fun w3 hw3 => ⟨_, _, hw3, stamped_push h2 r2, rfl, fun m hm => by rw [List.mem_singleton.1 hm]; exact he⟩⟩
    simp [Instr.mapUpdate, run_underlying Tryd.underlying71, MapKept.run_getObj_map h, keyLaw.check w false hl, r1, MapKept.run_setObj_map _ h, Result.andThen, setBlock]
  · cases r4
set_option maxRecDepth 20000 in
theorem ofVar0 (W : World) : Calls Tryd.prog 21 #[.iface 67 (.agg #[.int .i64 0])] W fun r w' => IOf W (some (varP 0)) r w' := by
  have hb2 : Below W.heap.size W ((W.alloc (.cells #[.int .i64 0] 67)).alloc (.cells #[.int .i64 1, .int .i64 0, .int .i64 0, .int .i64 0] 69)) := ((Below.refl _ _).alloc (Nat.le_refl _) _).alloc (by simp) _
  have hs2 : ((W.alloc (.cells #[.int .i64 0] 67)).alloc (.cells #[.int .i64 1, .int .i64 0, .int .i64 0, .int .i64 0] 69)).heap.size = W.heap.size + 1 + 1 := by simp
  obtain ⟨W4, hW4⟩ : ∃ W4, ((W.alloc (.cells #[.int .i64 0] 67)).alloc (.cells #[.int .i64 1, .int .i64 0, .int .i64 0, .int .i64 0] 69)).alloc (.map #[] 0) = W4 := ⟨_, rfl⟩
  have hB4 : Below W.heap.size W W4 := by rw [← hW4]; exact hb2.alloc hb2.size _
  have hm4 : W4.heap[W.heap.size + 1 + 1]? = some (.map #[] 0) := by rw [← hW4, ← hs2]; exact heap_alloc_new _ _
  have hs4 : W.heap.size + 1 + 1 < W4.heap.size := by rw [← hW4]; simp
  have hkey : Key4 [1, 0, 0, 0] := ⟨rfl, fun x hx => by simp at hx; unfold InI; omega⟩
  obtain ⟨hins, hP⟩ := insert_new hm4 hkey 1
  obtain ⟨W5, hW5⟩ : ∃ W5, setBlock W4 (W.heap.size + 1 + 1) (.map (#[].push ⟨keyV [1, 0, 0, 0], .int .i64 1, 0⟩) 1) = W5 := ⟨_, rfl⟩
  have hP5 : PMap W5 (W.heap.size + 1 + 1) [([1, 0, 0, 0], 1)] := hP W5 (by rw [← hW5]; exact setBlock_get hs4)
  have hB5 : Below W.heap.size W W5 := by
    have g : W4.grownBy W5 (some (W.heap.size + 1 + 1)) := by rw [← hW5]; exact grown_block ⟨rfl, rfl, rfl, Nat.le_refl _, fun _ _ _ => rfl⟩
    exact hB4.grown g hB4.size (fun r hr => by cases hr; omega)
  rw [hW5, ← hW4] at hins
  have hin : (Instr.mapUpdate 71 (.map (some (W.heap.size + 1 + 1))) (.agg #[.int .i64 1, .int .i64 0, .int .i64 0, .int .i64 0]) (.int .i64 1)).run Tryd.prog (((W.alloc (.cells #[.int .i64 0] 67)).alloc (.cells #[.int .i64 1, .int .i64 0, .int .i64 0, .int .i64 0] 69)).alloc (.map #[] 0)) = .ok () W5 := hins
  have HO : Hid (Calls Tryd.prog 40 #[.map (some (W.heap.size + 1 + 1))] W5 fun r w' => IOf W (some (varP 0)) r w') := by
    have e : okP (varP 0) = some (varP 0) := by unfold okP; rw [var_good 0 (by omega)]; rfl
    rw [← e]
    refine (order_ans (s := varP 0) hB5 hP5 (fun m hm => by rw [List.mem_singleton.1 hm]; exact ⟨by show InI 1; unfold InI; omega, by decide⟩) (by simp) fun q hq hc => ?_).mono fun r w' h => h.iof
    obtain ⟨g1, g2, g3⟩ := putP_ok (k := 4) (p := []) (e := unit4 0) (n := 1) rfl (by unfold InI; omega) List.Pairwise.nil (fun x hx => by cases hx)
    refine sum_unique hq ⟨g1, g2⟩ fun e => ?_
    rw [hc e, coef_cons, coef_nil]
    refine Like.trans ?_ (g3 e).symm
    rw [coef_nil, Int.add_comm]
    exact Like.refl _
  have hmm := @run_makeMap Tryd.prog
  clear hins hP hP5 hB5 hm4 hkey hB4 hb2 hs2 hs4 hW4 hW5
  go_enter Tryd.func21, Tryd.ntmps21
  go_wp2_with fail
  refine Calls.mono HO.out ?_
  rintro r w5 ⟨v5, rfl, o5, hb5⟩
  clear HO
  go_wp2
  go_ret2
  exact ⟨_, rfl, o5, hb5⟩
set_option maxRecDepth 20000 in
theorem ofVar1 (W : World) : Calls Tryd.prog 21 #[.iface 67 (.agg #[.int .i64 1])] W fun r w' => IOf W (some (varP 1)) r w' := by
  have hb2 : Below W.heap.size W ((W.alloc (.cells #[.int .i64 1] 67)).alloc (.cells #[.int .i64 0, .int .i64 1, .int .i64 0, .int .i64 0] 69)) := ((Below.refl _ _).alloc (Nat.le_refl _) _).alloc (by simp) _
  have hs2 : ((W.alloc (.cells #[.int .i64 1] 67)).alloc (.cells #[.int .i64 0, .int .i64 1, .int .i64 0, .int .i64 0] 69)).heap.size = W.heap.size + 1 + 1 := by simp
  obtain ⟨W4, hW4⟩ : ∃ W4, ((W.alloc (.cells #[.int .i64 1] 67)).alloc (.cells #[.int .i64 0, .int .i64 1, .int .i64 0, .int .i64 0] 69)).alloc (.map #[] 0) = W4 := ⟨_, rfl⟩
  have hB4 : Below W.heap.size W W4 := by rw [← hW4]; exact hb2.alloc hb2.size _
  have hm4 : W4.heap[W.heap.size + 1 + 1]? = some (.map #[] 0) := by rw [← hW4, ← hs2]; exact heap_alloc_new _ _
  have hs4 : W.heap.size + 1 + 1 < W4.heap.size := by rw [← hW4]; simp
  have hkey : Key4 [0, 1, 0, 0] := ⟨rfl, fun x hx => by simp at hx; unfold InI; omega⟩
  obtain ⟨hins, hP⟩ := insert_new hm4 hkey 1
  obtain ⟨W5, hW5⟩ : ∃ W5, setBlock W4 (W.heap.size + 1 + 1) (.map (#[].push ⟨keyV [0, 1, 0, 0], .int .i64 1, 0⟩) 1) = W5 := ⟨_, rfl⟩
  have hP5 : PMap W5 (W.heap.size + 1 + 1) [([0, 1, 0, 0], 1)] := hP W5 (by rw [← hW5]; exact setBlock_get hs4)
  have hB5 : Below W.heap.size W W5 := by
    have g : W4.grownBy W5 (some (W.heap.size + 1 + 1)) := by rw [← hW5]; exact grown_block ⟨rfl, rfl, rfl, Nat.le_refl _, fun _ _ _ => rfl⟩
    exact hB4.grown g hB4.size (fun r hr => by cases hr; omega)
  rw [hW5, ← hW4] at hins
  have hin : (Instr.mapUpdate 71 (.map (some (W.heap.size + 1 + 1))) (.agg #[.int .i64 0, .int .i64 1, .int .i64 0, .int .i64 0]) (.int .i64 1)).run Tryd.prog (((W.alloc (.cells #[.int .i64 1] 67)).alloc (.cells #[.int .i64 0, .int .i64 1, .int .i64 0, .int .i64 0] 69)).alloc (.map #[] 0)) = .ok () W5 := hins
  have HO : Hid (Calls Tryd.prog 40 #[.map (some (W.heap.size + 1 + 1))] W5 fun r w' => IOf W (some (varP 1)) r w') := by
    have e : okP (varP 1) = some (varP 1) := by unfold okP; rw [var_good 1 (by omega)]; rfl
    rw [← e]
    refine (order_ans (s := varP 1) hB5 hP5 (fun m hm => by rw [List.mem_singleton.1 hm]; exact ⟨by show InI 1; unfold InI; omega, by decide⟩) (by simp) fun q hq hc => ?_).mono fun r w' h => h.iof
    obtain ⟨g1, g2, g3⟩ := putP_ok (k := 4) (p := []) (e := unit4 1) (n := 1) rfl (by unfold InI; omega) List.Pairwise.nil (fun x hx => by cases hx)
    refine sum_unique hq ⟨g1, g2⟩ fun e => ?_
    rw [hc e, coef_cons, coef_nil]
    refine Like.trans ?_ (g3 e).symm
    rw [coef_nil, Int.add_comm]
    exact Like.refl _
  have hmm := @run_makeMap Tryd.prog
  clear hins hP hP5 hB5 hm4 hkey hB4 hb2 hs2 hs4 hW4 hW5
  go_enter Tryd.func21, Tryd.ntmps21
  go_wp2_with fail
  refine Calls.mono HO.out ?_
  rintro r w5 ⟨v5, rfl, o5, hb5⟩
  clear HO
  go_wp2
  go_ret2
  exact ⟨_, rfl, o5, hb5⟩
set_option maxRecDepth 20000 in
theorem ofVar2 (W : World) : Calls Tryd.prog 21 #[.iface 67 (.agg #[.int .i64 2])] W fun r w' => IOf W (some (varP 2)) r w' := by
  have hb2 : Below W.heap.size W ((W.alloc (.cells #[.int .i64 2] 67)).alloc (.cells #[.int .i64 0, .int .i64 0, .int .i64 1, .int .i64 0] 69)) := ((Below.refl _ _).alloc (Nat.le_refl _) _).alloc (by simp) _
  have hs2 : ((W.alloc (.cells #[.int .i64 2] 67)).alloc (.cells #[.int .i64 0, .int .i64 0, .int .i64 1, .int .i64 0] 69)).heap.size = W.heap.size + 1 + 1 := by simp
  obtain ⟨W4, hW4⟩ : ∃ W4, ((W.alloc (.cells #[.int .i64 2] 67)).alloc (.cells #[.int .i64 0, .int .i64 0, .int .i64 1, .int .i64 0] 69)).alloc (.map #[] 0) = W4 := ⟨_, rfl⟩
  have hB4 : Below W.heap.size W W4 := by rw [← hW4]; exact hb2.alloc hb2.size _
  have hm4 : W4.heap[W.heap.size + 1 + 1]? = some (.map #[] 0) := by rw [← hW4, ← hs2]; exact heap_alloc_new _ _
  have hs4 : W.heap.size + 1 + 1 < W4.heap.size := by rw [← hW4]; simp
  have hkey : Key4 [0, 0, 1, 0] := ⟨rfl, fun x hx => by simp at hx; unfold InI; omega⟩
  obtain ⟨hins, hP⟩ := insert_new hm4 hkey 1
  obtain ⟨W5, hW5⟩ : ∃ W5, setBlock W4 (W.heap.size + 1 + 1) (.map (#[].push ⟨keyV [0, 0, 1, 0], .int .i64 1, 0⟩) 1) = W5 := ⟨_, rfl⟩
  have hP5 : PMap W5 (W.heap.size + 1 + 1) [([0, 0, 1, 0], 1)] := hP W5 (by rw [← hW5]; exact setBlock_get hs4)
  have hB5 : Below W.heap.size W W5 := by
    have g : W4.grownBy W5 (some (W.heap.size + 1 + 1)) := by rw [← hW5]; exact grown_block ⟨rfl, rfl, rfl, Nat.le_refl _, fun _ _ _ => rfl⟩
    exact hB4.grown g hB4.size (fun r hr => by cases hr; omega)
  rw [hW5, ← hW4] at hins
  have hin : (Instr.mapUpdate 71 (.map (some (W.heap.size + 1 + 1))) (.agg #[.int .i64 0, .int .i64 0, .int .i64 1, .int .i64 0]) (.int .i64 1)).run Tryd.prog (((W.alloc (.cells #[.int .i64 2] 67)).alloc (.cells #[.int .i64 0, .int .i64 0, .int .i64 1, .int .i64 0] 69)).alloc (.map #[] 0)) = .ok () W5 := hins
  have HO : Hid (Calls Tryd.prog 40 #[.map (some (W.heap.size + 1 + 1))] W5 fun r w' => IOf W (some (varP 2)) r w') := by
    have e : okP (varP 2) = some (varP 2) := by unfold okP; rw [var_good 2 (by omega)]; rfl
    rw [← e]
    refine (order_ans (s := varP 2) hB5 hP5 (fun m hm => by rw [List.mem_singleton.1 hm]; exact ⟨by show InI 1; unfold InI; omega, by decide⟩) (by simp) fun q hq hc => ?_).mono fun r w' h => h.iof
    obtain ⟨g1, g2, g3⟩ := putP_ok (k := 4) (p := []) (e := unit4 2) (n := 1) rfl (by unfold InI; omega) List.Pairwise.nil (fun x hx => by cases hx)
    refine sum_unique hq ⟨g1, g2⟩ fun e => ?_
    rw [hc e, coef_cons, coef_nil]
    refine Like.trans ?_ (g3 e).symm
    rw [coef_nil, Int.add_comm]
    exact Like.refl _
  have hmm := @run_makeMap Tryd.prog
  clear hins hP hP5 hB5 hm4 hkey hB4 hb2 hs2 hs4 hW4 hW5
  go_enter Tryd.func21, Tryd.ntmps21
  go_wp2_with fail
  refine Calls.mono HO.out ?_
  rintro r w5 ⟨v5, rfl, o5, hb5⟩
  clear HO
  go_wp2
  go_ret2
  exact ⟨_, rfl, o5, hb5⟩
set_option maxRecDepth 20000 in
theorem ofVar3 (W : World) : Calls Tryd.prog 21 #[.iface 67 (.agg #[.int .i64 3])] W fun r w' => IOf W (some (varP 3)) r w' := by
  have hb2 : Below W.heap.size W ((W.alloc (.cells #[.int .i64 3] 67)).alloc (.cells #[.int .i64 0, .int .i64 0, .int .i64 0, .int .i64 1] 69)) := ((Below.refl _ _).alloc (Nat.le_refl _) _).alloc (by simp) _
  have hs2 : ((W.alloc (.cells #[.int .i64 3] 67)).alloc (.cells #[.int .i64 0, .int .i64 0, .int .i64 0, .int .i64 1] 69)).heap.size = W.heap.size + 1 + 1 := by simp
  obtain ⟨W4, hW4⟩ : ∃ W4, ((W.alloc (.cells #[.int .i64 3] 67)).alloc (.cells #[.int .i64 0, .int .i64 0, .int .i64 0, .int .i64 1] 69)).alloc (.map #[] 0) = W4 := ⟨_, rfl⟩
  have hB4 : Below W.heap.size W W4 := by rw [← hW4]; exact hb2.alloc hb2.size _
  have hm4 : W4.heap[W.heap.size + 1 + 1]? = some (.map #[] 0) := by rw [← hW4, ← hs2]; exact heap_alloc_new _ _
  have hs4 : W.heap.size + 1 + 1 < W4.heap.size := by rw [← hW4]; simp
  have hkey : Key4 [0, 0, 0, 1] := ⟨rfl, fun x hx => by simp at hx; unfold InI; omega⟩
  obtain ⟨hins, hP⟩ := insert_new hm4 hkey 1
  obtain ⟨W5, hW5⟩ : ∃ W5, setBlock W4 (W.heap.size + 1 + 1) (.map (#[].push ⟨keyV [0, 0, 0, 1], .int .i64 1, 0⟩) 1) = W5 := ⟨_, rfl⟩
  have hP5 : PMap W5 (W.heap.size + 1 + 1) [([0, 0, 0, 1], 1)] := hP W5 (by rw [← hW5]; exact setBlock_get hs4)
  have hB5 : Below W.heap.size W W5 := by
    have g : W4.grownBy W5 (some (W.heap.size + 1 + 1)) := by rw [← hW5]; exact grown_block ⟨rfl, rfl, rfl, Nat.le_refl _, fun _ _ _ => rfl⟩
    exact hB4.grown g hB4.size (fun r hr => by cases hr; omega)
  rw [hW5, ← hW4] at hins
  have hin : (Instr.mapUpdate 71 (.map (some (W.heap.size + 1 + 1))) (.agg #[.int .i64 0, .int .i64 0, .int .i64 0, .int .i64 1]) (.int .i64 1)).run Tryd.prog (((W.alloc (.cells #[.int .i64 3] 67)).alloc (.cells #[.int .i64 0, .int .i64 0, .int .i64 0, .int .i64 1] 69)).alloc (.map #[] 0)) = .ok () W5 := hins
  have HO : Hid (Calls Tryd.prog 40 #[.map (some (W.heap.size + 1 + 1))] W5 fun r w' => IOf W (some (varP 3)) r w') := by
    have e : okP (varP 3) = some (varP 3) := by unfold okP; rw [var_good 3 (by omega)]; rfl
    rw [← e]
    refine (order_ans (s := varP 3) hB5 hP5 (fun m hm => by rw [List.mem_singleton.1 hm]; exact ⟨by show InI 1; unfold InI; omega, by decide⟩) (by simp) fun q hq hc => ?_).mono fun r w' h => h.iof
    obtain ⟨g1, g2, g3⟩ := putP_ok (k := 4) (p := []) (e := unit4 3) (n := 1) rfl (by unfold InI; omega) List.Pairwise.nil (fun x hx => by cases hx)
    refine sum_unique hq ⟨g1, g2⟩ fun e => ?_
    rw [hc e, coef_cons, coef_nil]
    refine Like.trans ?_ (g3 e).symm
    rw [coef_nil, Int.add_comm]
    exact Like.refl _
  have hmm := @run_makeMap Tryd.prog
  clear hins hP hP5 hB5 hm4 hkey hB4 hb2 hs2 hs4 hW4 hW5
  go_enter Tryd.func21, Tryd.ntmps21
  go_wp2_with fail
  refine Calls.mono HO.out ?_
  rintro r w5 ⟨v5, rfl, o5, hb5⟩
  clear HO
  go_wp2
  go_ret2
  exact ⟨_, rfl, o5, hb5⟩
theorem ofVar (n : Nat) (hn : n < 4) (W : World) : Calls Tryd.prog 21 #[.iface 67 (.agg #[.int .i64 (n : Int)])] W fun r w' => IOf W (some (varP n)) r w' := by
  match n, hn with
  | 0, _ => exact ofVar0 W
  | 1, _ => exact ofVar1 W
  | 2, _ => exact ofVar2 W
  | 3, _ => exact ofVar3 W
end Go.Proofs.YtpjgjpjfchfmlaaDoor
