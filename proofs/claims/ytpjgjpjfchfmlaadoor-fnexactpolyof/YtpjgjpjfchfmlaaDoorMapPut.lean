/-
  PROVED HERE: what the program's putting of a product into a map does. No other condition.
-/
import Derived.Test.YtpjgjpjfchfmlaaDoorPMap
import Derived.Test.YtpjgjpjfchfmlaaDoorLists
import Derived.Deep.RegionWith
namespace Go.Proofs.YtpjgjpjfchfmlaaDoor
open Go.ChangeShapes Go.WideShapes Go.ChangeAt Go.RowKit
open Go.MapKept Go.ChangeMaps
set_option linter.unusedVariables false

theorem wpList_delete_run {P : Program} (w : World) {ops : Array Oper} {rest : List Oper} {o : Oper} {a : Act} {Q : Exit → Act → World → Prop} (hg : o.guard = none) (m x : Operand) (t k : TypeId) (hop : o.op = Op.call { callee := Callee.builtin Builtin.delete, args := #[m, x], argTypes := #[t, k] })
    (vm vx : Value) (hm : a.eval m = vm) (hx : a.eval x = vx) (w' : World) (hrun : (Builtin.delete_ #[t, k] o.type #[vm, vx]).run P w = .ok (.tuple #[]) w') (hK : wpList P ops Q rest (a.put o.dst (.tuple #[])) w') : wpList P ops Q (o :: rest) a w := by
  refine wpList_plain hg fun K' hK' => ?_
  unfold Oper.wp
  simp [execOp, hop, resolve, invoke, builtin, hm, hx, hrun, Result.andThen]
  exact hK' _ _ hK
/-- Only products with numbers of 64 bits that are not 0. -/
def SumM (M : List Mon) : Prop := ∀ m ∈ M, InI m.2 ∧ m.2 ≠ 0
theorem setBlock_get {w : World} {b : Nat} {o : Obj} (h : b < w.heap.size) : (setBlock w b o).heap[b]? = some o := by
  unfold setBlock
  simp [h]
theorem setBlock_ne {w : World} {b : Nat} {o : Obj} (x : Nat) (h : x ≠ b) : (setBlock w b o).heap[x]? = w.heap[x]? := by
  unfold setBlock
  simp [Ne.symm h]
theorem setBlock_size {w : World} {b : Nat} {o : Obj} : (setBlock w b o).heap.size = w.heap.size := by unfold setBlock; simp
theorem grown_block {w w' : World} {b : Nat} {o : Obj} (h : w.grownBy w' (some b)) : w.grownBy (setBlock w' b o) (some b) :=
  ⟨h.os, h.tape, h.output, by rw [setBlock_size]; exact h.size, fun k hk hne => (setBlock_ne k (fun e => hne (by rw [e]))).trans (h.block k hk hne)⟩
theorem grown_drew {w w' : World} {r : Option Nat} (h : w.grownBy w' r) : w.grownBy w'.drew r := ⟨h.os, h.tape, h.output, h.size, h.block⟩
theorem keyV4 (a b c d : Int) : keyV [a, b, c, d] = .agg #[.int .i64 a, .int .i64 b, .int .i64 c, .int .i64 d] := rfl
set_option maxHeartbeats 1600000 in
theorem put_any (b : Nat) (M : List Mon) (a0 a1 a2 a3 n : Int) (w : World) (h : PMap w b M) (hs : SumM M) (he : Key4 [a0, a1, a2, a3]) :
    Calls Tryd.prog 53 #[.map (some b), .agg #[.int .i64 a0, .int .i64 a1, .int .i64 a2, .int .i64 a3], .int .i64 n] w fun r w' => r = .returned (.tuple #[]) ∧ w.grownBy w' (some b) ∧ ∃ M', PMap w' b M' ∧ SumM M' ∧ M'.length ≤ M.length + 1 ∧ ∀ e', coef M' e' = if [a0, a1, a2, a3] = e' then wrap64 (coef M [a0, a1, a2, a3] + n) else coef M e' := by
  obtain ⟨W1, hW1⟩ : ∃ W1, w.alloc (.cells #[.int .i64 a0, .int .i64 a1, .int .i64 a2, .int .i64 a3] 69) = W1 := ⟨_, rfl⟩
  have hb1 : Below w.heap.size w W1 := by rw [← hW1]; exact (Below.refl _ _).alloc (Nat.le_refl _) _
  have hs1 : w.heap.size < W1.heap.size := by rw [← hW1]; simp
  have hlt := h.lt
  have h1 : PMap W1.drew b M := (h.keep hb1).block rfl
  have n0 : W1.cell? ⟨w.heap.size, 0, none⟩ = some (.int .i64 a0) := by rw [← hW1]; simp [go_sem]
  have n1 : W1.cell? ⟨w.heap.size, 1, none⟩ = some (.int .i64 a1) := by rw [← hW1]; simp [go_sem]
  have n2 : W1.cell? ⟨w.heap.size, 2, none⟩ = some (.int .i64 a2) := by rw [← hW1]; simp [go_sem]
  have n3 : W1.cell? ⟨w.heap.size, 3, none⟩ = some (.int .i64 a3) := by rw [← hW1]; simp [go_sem]
  have hL := h1.lookup he
  obtain ⟨v0, st, o1, hE, ⟨M1, hP1, hc1⟩, hSt⟩ := h1.store he
  have hltd : b < W1.drew.heap.size := Nat.lt_of_lt_of_le hlt hb1.size
  have hL2 := (hP1 (setBlock W1.drew b o1) (setBlock_get hltd)).lookup he
  rw [hc1] at hL2
  obtain ⟨o2, M2, hS, hP2, hc2, hm2, hl2⟩ := hSt (setBlock W1.drew b o1) (wrap64 (coef M [a0, a1, a2, a3] + n)) (setBlock_get hltd)
  obtain ⟨W3, hW3⟩ : ∃ W3, setBlock (setBlock W1.drew b o1) b o2 = W3 := ⟨_, rfl⟩
  have h3 : PMap W3 b M2 := by rw [← hW3]; exact hP2 _ (setBlock_get (by rw [setBlock_size]; exact hltd))
  have g3 : w.grownBy W3 (some b) := by
    rw [← hW3]
    have g1 : w.grownBy W1.drew (some b) := grown_drew ⟨hb1.os, hb1.tape, hb1.output, hb1.size, fun k hk _ => hb1.block k hk⟩
    exact grown_block (grown_block g1)
  have hne : w.heap.size ≠ b := by omega
  have hblk : W3.heap[w.heap.size]? = W1.heap[w.heap.size]? := by rw [← hW3, setBlock_ne _ hne, setBlock_ne _ hne]; rfl
  have m0 := (World.cell?_of_block (a := ⟨w.heap.size, 0, none⟩) hblk).trans n0
  have m1 := (World.cell?_of_block (a := ⟨w.heap.size, 1, none⟩) hblk).trans n1
  have m2 := (World.cell?_of_block (a := ⟨w.heap.size, 2, none⟩) hblk).trans n2
  have m3 := (World.cell?_of_block (a := ⟨w.heap.size, 3, none⟩) hblk).trans n3
  have hL3 := h3.lookup he
  have e3 : coef M2 [a0, a1, a2, a3] = wrap64 (coef M [a0, a1, a2, a3] + n) := by rw [hc2, if_pos rfl]
  obtain ⟨o4, M4, hD, hP4, hc4, hm4, hl4⟩ := h3.delete he 0
  have HD : Hid (∀ ty, (Builtin.delete_ #[71, 69] ty #[.map (some b), keyV [a0, a1, a2, a3]]).run Tryd.prog W3 = .ok (.tuple #[]) (setBlock W3 b o4)) := fun ty => hD
  have HF4 : Hid (w.grownBy (setBlock W3 b o4) (some b) ∧ PMap (setBlock W3 b o4) b M4) := ⟨grown_block g3, hP4 _ (setBlock_get h3.lt)⟩
  rw [e3] at hL3
  rw [keyV4] at hL hE hL3 hL2
  obtain ⟨c, hcc⟩ : ∃ c, coef M [a0, a1, a2, a3] = c := ⟨_, rfl⟩
  obtain ⟨x, hx⟩ : ∃ x, wrap64 (c + n) = x := ⟨_, rfl⟩
  rw [hcc] at hL hL2 hL3 hS hc2 e3 ⊢
  rw [hx] at hL3 hS hc2 e3 ⊢
  rw [hW3] at hS
  have hxi : InI x := by rw [← hx]; exact wrap_in _
  have HA : Hid (∀ e', coef M2 e' = if [a0, a1, a2, a3] = e' then x else coef M e') := hc2
  have HB : Hid (∀ m ∈ M2, m ∈ M ∨ m = ([a0, a1, a2, a3], x)) := fun m hm => by have := hm2 m hm; rwa [hcc, hx] at this
  have HC4 := (show Hid _ from hc4)
  have HM4 := (show Hid _ from hm4)
  have HSm := (show Hid _ from hs)
  obtain ⟨W2, hW2⟩ : ∃ W2, setBlock W1.drew b o1 = W2 := ⟨_, rfl⟩
  rw [hW2] at hE hS hL2
  have hE' : (Instr.mapEntry 71 (.map (some b)) (.agg #[.int .i64 a0, .int .i64 a1, .int .i64 a2, .int .i64 a3])).run Tryd.prog W1.drew = .ok (.tuple #[v0, .int .i64 st]) W2 := hE
  have hS' : (Instr.entryStore 71 (.map (some b)) (.int .i64 st) (.int .i64 x)).run Tryd.prog W2 = .ok () W3 := hS
  clear hSt hP2 hc2 hm2 hD hP4 hc4 hm4 hs h1 hE hS
  go_enter Tryd.func53, Tryd.ntmps53
  go_wp2_with fail
  (try rw [hW1])
  go_region
  all_goals
    by_cases hx0 : x = 0
    · have hz : (x == 0) = true := by simp [hx0]
      go_wp2_with (at_delete; refine wpList_delete_run _ rfl _ _ _ _ rfl (.map (some b)) (.agg #[.int .i64 a0, .int .i64 a1, .int .i64 a2, .int .i64 a3]) rfl rfl _ (HD.out _) ?_)
      go_end0
      refine ⟨rfl, HF4.out.1, M4, HF4.out.2, fun m hm => ?_, by omega, fun e' => ?_⟩
      · obtain ⟨k1, k2⟩ := HM4.out m hm
        rcases HB.out m k1 with k3 | k3
        · exact HSm.out m k3
        · exact absurd (by rw [k3]) k2
      · rw [HC4.out, HA.out, hx0]
        by_cases he' : [a0, a1, a2, a3] = e'
        · rw [if_pos he', if_pos he']
        · rw [if_neg he', if_neg he']
    · have hz : (x == 0) = false := by simpa using hx0
      go_wp2
      go_end0
      refine ⟨rfl, g3, M2, h3, fun m hm => ?_, hl2, HA.out⟩
      rcases HB.out m hm with k3 | k3
      · exact HSm.out m k3
      · rw [k3]; exact ⟨hxi, hx0⟩
end Go.Proofs.YtpjgjpjfchfmlaaDoor
