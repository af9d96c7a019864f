/-
  PROVED HERE: nothing of its own; the laws' own draws, with the cursor's numbers. the laws' own drawn terms: some list of nodes, not too long, in new memory, whatever the bytes. No condition. the laws' own drawn terms of sums and products: some list of nodes, not too long, in new memory, whatever the bytes. No condition. the laws' own drawn term: some list of at most forty nodes, in new memory, whatever the bytes. No condition.
-/
import Derived.Test.YtkadanagmahhgaaGreatDoorTail0
import Derived.Test.YtkadanagmahhgaaGreatDoorRun8
import Derived.Test.YtkadanagmahhgaaGreatDoorRun7
import Derived.Test.YtkadanagmahhgaaGreatDoorRun1
import Derived.Test.YtkadanagmahhgaaGreatDoorRun0

namespace Go.Proofs.YtkadanagmahhgaaGreatDoor
open Go.ChangeShapes Go.WideShapes Go.ChangeAt Go.RowKit
set_option linter.unusedVariables false

theorem once_any (w : World) (c n : Nat) (m : Int) (h : Cur w c n) (hn : n < 1048576) (hm : 2 ≤ m) (hm' : m ≤ 200) :
    Calls Tryz.prog 80 #[.pointer (some ⟨c, 0, none⟩), .int .i64 m] w fun e w' => ∃ v : Bool, e = .returned (.bool v) ∧ Cur w' c (n + 1) ∧ w.grownBy w' (some c) := by
  have C := (show Hid _ from pick_any w c n m h hn hm hm')
  clear h
  go_enter Tryz.func80, Tryz.ntmps80
  go_wp2_with fail
  refine Calls.mono C.out ?_
  rintro e w1 ⟨v, rfl, v0, v1, hc, hg⟩
  go_wp2
  go_ret
  exact ⟨_, rfl, hc, hg⟩

/-- All numbers lie within 64 bits. -/
def NumsIn (l : List (Int × Int)) : Prop := ∀ x ∈ l, InI x.2
theorem nums_one (op v : Int) (h : InI v) : NumsIn [(op, v)] := fun x hx => by rw [List.mem_singleton.1 hx]; exact h
theorem nums_app {a b : List (Int × Int)} (ha : NumsIn a) (hb : NumsIn b) : NumsIn (a ++ b) := fun x hx => by
  rcases List.mem_append.1 hx with h | h
  · exact ha x h
  · exact hb x h
theorem node_row (w : World) (x y : Int) : NSl (w.alloc (.cells #[.int .i64 x, .int .i64 y] 66)) (some ⟨w.heap.size, 0, none⟩) 1 [(x, y)] := by
  refine ⟨rfl, .inr ⟨w.heap.size, 0, rfl, by simp, fun i hi => ?_⟩⟩
  obtain rfl : i = 0 := by omega
  constructor <;> simp [go_sem]
theorem in_small {v : Int} (h0 : 0 ≤ v) (h1 : v < 200) : InI v := ⟨by omega, by omega⟩
/-- The ops that are drawn. -/
def allOps : List Int := [4, 4, 5, 6, 6, 3, 7, 8, 9, 10, 11]
def Ops (w : World) (b : Nat) : Prop := b < w.heap.size ∧ ∀ i, i < 11 → w.cell? ⟨b, i, none⟩ = some (.int .i64 (allOps.getD i 0))
theorem Ops.grown {w w' : World} {b : Nat} {r : Option Nat} (h : Ops w b) (hg : w.grownBy w' r) (hr : some b ≠ r) : Ops w' b :=
  ⟨Nat.lt_of_lt_of_le h.1 hg.size, fun i hi => hg.cell (h.2 i hi) hr⟩
theorem all_any (w : World) : Calls Tryz.prog 114 #[] w fun e w' => e = .returned (.slice (some ⟨w.heap.size, 0, none⟩) 11 11) ∧ Ops w' w.heap.size ∧ Below w.heap.size w w' := by
  go_enter Tryz.func114, Tryz.ntmps114
  go_wp2
  go_ret
  refine ⟨rfl, ⟨by simp, fun i hi => ?_⟩, (Below.refl _ _).alloc (Nat.le_refl _) _⟩
  have : i = 0 ∨ i = 1 ∨ i = 2 ∨ i = 3 ∨ i = 4 ∨ i = 5 ∨ i = 6 ∨ i = 7 ∨ i = 8 ∨ i = 9 ∨ i = 10 := by omega
  rcases this with rfl | rfl | rfl | rfl | rfl | rfl | rfl | rfl | rfl | rfl | rfl <;> simp [go_sem, allOps]

/-- How often it draws at most; how many nodes there are at most. -/
def draws : Nat → Nat
  | 0 => 14
  | d + 1 => 16 + 3 * draws d
def most : Nat → Nat
  | 0 => 1
  | d + 1 => 1 + 3 * most d
def TreeAt (d : Nat) : Prop := ∀ (w : World) (c n b cap : Nat), Cur w c n → n + draws d ≤ 500000 → c < b → Ops w b →
  Calls Tryz.prog 54 #[.pointer (some ⟨c, 0, none⟩), .int .i64 d, .slice (some ⟨b, 0, none⟩) 11 cap] w fun e w' => ∃ (v : Value) (l : List (Int × Int)), e = .returned v ∧ w'.ownsRow w.heap.size 66 2 v l.length (flat l) ∧ 1 ≤ l.length ∧ l.length ≤ most d ∧ Hid (NumsIn l) ∧ Drew w w' c n (draws d)

theorem node_own (w : World) (x y : Int) : (w.alloc (.cells #[.int .i64 x, .int .i64 y] 66)).ownsRow w.heap.size 66 2 (.slice (some ⟨w.heap.size, 0, none⟩) 1 1) 1 (flat [(x, y)]) :=
  World.ownsRow_lit w #[.int .i64 x, .int .i64 y] 1 (Nat.le_refl _) (by unfold maxLen; omega) rfl

theorem leaf_drew {w w1 w2 : World} {c n n2 k : Nat} (hg1 : w.grownBy w1 (some c)) (hg2 : w1.grownBy w2 (some c)) (hc : Cur w2 c n2) (hn : n2 ≤ n + k) (x y : Int) :
    ((w2.alloc (.cells #[.int .i64 x, .int .i64 y] 66)).alloc (.cells #[.int .i64 x, .int .i64 y] 66)).ownsRow w.heap.size 66 2 (.slice (some ⟨w2.heap.size + 1, 0, none⟩) 1 1) [(x, y)].length (flat [(x, y)]) ∧ Drew w ((w2.alloc (.cells #[.int .i64 x, .int .i64 y] 66)).alloc (.cells #[.int .i64 x, .int .i64 y] 66)) c n k := by
  have hg := gtrans hg1 hg2
  have ho := node_own (w2.alloc (.cells #[.int .i64 x, .int .i64 y] 66)) x y
  have e : (w2.alloc (.cells #[.int .i64 x, .int .i64 y] 66)).heap.size = w2.heap.size + 1 := by simp
  rw [e] at ho
  refine ⟨own_base ho (by have := hg.size; omega), ⟨n2, hn, (hc.kept (World.grownBy_alloc w2 _ none) (fun r hr => by cases hr)).kept (World.grownBy_alloc _ _ none) (fun r hr => by cases hr)⟩, grown_own (grown_own hg (World.grownBy_alloc w2 _ none) (fun r hr => by cases hr)) (World.grownBy_alloc _ _ none) (fun r hr => by cases hr)⟩

set_option maxHeartbeats 1600000 in
set_option maxRecDepth 20000 in
theorem tree_zero : TreeAt 0 := by
  intro w c n b cap h hn hcb ho
  have hcl := h.lt
  have hn' : n + 14 ≤ 500000 := hn
  clear ho hn
  have C3 := (show Hid _ from once_any w c n 3 h (by omega) (by decide) (by decide))
  clear h
  go_enter Tryz.func54, Tryz.ntmps54
  go_wp2_with fail
  refine Calls.mono C3.out ?_
  rintro e w1 ⟨t, rfl, hc1, hg1⟩
  clear C3
  cases t
  · have CP := (show Hid _ from pick_any w1 c _ 3 hc1 (by omega) (by decide) (by decide))
    clear hc1
    go_wp2_with fail
    refine Calls.mono CP.out ?_
    rintro e w2 ⟨v, rfl, v0, v1, hc2, hg2⟩
    clear CP
    have HNI : Hid (NumsIn [(2, v)]) := nums_one 2 v (in_small v0 (by omega))
    have HL := (show Hid _ from leaf_drew (n := n) (k := 14) hg1 hg2 hc2 (by omega) 2 v)
    clear hg1 hg2 hc2
    go_wp2
    go_ret
    exact ⟨_, [(2, v)], rfl, HL.out.1, Nat.le_refl _, Nat.le_refl _, HNI, HL.out.2⟩
  · have CP := (show Hid _ from num_any w1 c _ hc1 (by omega))
    clear hc1
    go_wp2_with fail
    refine Calls.mono CP.out ?_
    rintro e w2 ⟨v, rfl, hv, ⟨n2, hn2, hc2⟩, hg2⟩
    clear CP
    have HNI : Hid (NumsIn [(1, v)]) := nums_one 1 v hv
    have HL := (show Hid _ from leaf_drew (n := n) (k := 14) hg1 hg2 hc2 (by omega) 1 v)
    clear hg1 hg2 hc2 hv
    go_wp2
    go_ret
    exact ⟨_, [(1, v)], rfl, HL.out.1, Nat.le_refl _, Nat.le_refl _, HNI, HL.out.2⟩

set_option maxHeartbeats 1600000 in
set_option maxRecDepth 20000 in
theorem tree_succ (d : Nat) (hd : d ≤ 4) (IH : TreeAt d) (hmo : most d ≤ 40) : TreeAt (d + 1) := by
  intro w c n b cap h hn hcb ho
  have hcl := h.lt
  have hn' : n + (16 + 3 * draws d) ≤ 500000 := hn
  have HI : Hid (TreeAt d) := IH
  have HO : Hid (Ops w b) := ho
  have C5 := (show Hid _ from once_any w c n 5 h (by omega) (by decide) (by decide))
  have i0 : (((d + 1 : Nat) : Int) == 0) = false := by simp; omega
  have hd1 : ((d + 1 : Nat) : Int) = (d : Int) + 1 := by omega
  clear h ho IH hn
  go_enter Tryz.func54, Tryz.ntmps54
  go_wp2_with fail
  refine Calls.mono C5.out ?_
  rintro e w0 ⟨t5, rfl, hc0, hg0⟩
  clear C5
  cases t5
  · have CA := (show Hid _ from among_any w0 c _ b cap allOps hc0 (by omega) (by decide) (by decide) hcb (HO.out.grown hg0 (by simp; omega)).2)
    rw [show allOps.length = 11 from rfl] at CA
    clear hc0
    go_wp2_with fail
    refine Calls.mono CA.out ?_
    rintro e w1 ⟨i, hi, rfl, hc1, hg1⟩
    clear CA
    generalize allOps.getD i 0 = op
    have CL := (show Hid _ from l1Arity_any op w1)
    have hr := ar_range op
    go_wp2_with fail
    refine Calls.mono CL.out ?_
    rintro e w2 ⟨rfl, rfl⟩
    clear CL
    generalize ar op = m at hr
    obtain ⟨j0, hj, hz0, hz1, hz2⟩ := info_parts infoNode
    have hg01 := gtrans hg0 hg1
    have hdm : ∀ j : Nat, j ≤ 3 → j * draws d ≤ 3 * draws d ∧ j * most d ≤ 3 * most d := fun j hj => ⟨Nat.mul_le_mul_right _ hj, Nat.mul_le_mul_right _ hj⟩
    have HDM := (show Hid _ from hdm)
    clear hg0 hg1 hdm hi
    go_wp2_with fail
    go_loopw [8, 9] (fun o i wr => ∃ (j : Nat) (L : List (Int × Int)) (m' : Int) (n1 : Nat), j ≤ 3 ∧ i = .int .i64 m' ∧ m' + j = m ∧ wr.ownsRow w.heap.size 66 2 o L.length (flat L) ∧ Hid (L.length ≤ j * most d ∧ NumsIn L) ∧ Hid (n1 ≤ n + 2 + j * draws d) ∧ Cur wr c n1 ∧ w.grownBy wr (some c)) (fun _ i _ => (intOf i).toNat)
    case atStart => exact ⟨0, [], m, _, by omega, rfl, by omega, World.ownsRow_nil _ _ _ _, ⟨by show 0 ≤ 0 * most d; omega, fun x hx => by cases hx⟩, by show n + 1 + 1 ≤ n + 2 + 0 * draws d; omega, hc1, hg01⟩
    case round =>
      clear hc1 hg01
      obtain ⟨j, L, m', n1, hj3, rfl, hmj, hown, hLl, hnl, hcr, hgr⟩ := hrel
      have hb3 := HDM.out j hj3
      have hLl' := hLl.out.1
      have HNL : Hid (NumsIn L) := hLl.out.2
      have hnl' := hnl.out
      by_cases hpos : 0 < m'
      · have hb4 := HDM.out (j + 1) (by omega)
        have e1 : (j + 1) * most d = j * most d + most d := Nat.succ_mul _ _
        have e2 : (j + 1) * draws d = j * draws d + draws d := Nat.succ_mul _ _
        have C := (show Hid _ from HI.out wr c n1 b cap hcr (by omega) hcb (HO.out.grown hgr (by simp; omega)))
        clear hcr
        go_wp2_with fail
        refine Calls.mono C.out ?_
        rintro e w3 ⟨v3, l3, rfl, hown3, hl1, hl2, hni3, ⟨n3, hn3, hc3⟩, hg3⟩
        clear C
        have ho3 := own_grown hown hg3 (fun x hx e => by have := own_ge hown x hx; have := Option.some.inj e; omega)
        have hgr3 := gtrans hgr hg3
        obtain ⟨a3, c3, rfl, hs3⟩ := NSl.row hown3
        obtain ⟨b3, off3, rfl, _, _⟩ := hs3.at (by omega)
        have hcs := (show Hid _ from flat_cells hs3)
        have HN : Hid (((L ++ l3).length ≤ (j + 1) * most d ∧ NumsIn (L ++ l3)) ∧ n3 ≤ n + 2 + (j + 1) * draws d) := by
          refine ⟨⟨?_, nums_app HNL.out hni3.out⟩, by omega⟩
          rw [List.length_append]
          omega
        have hLb : L.length + l3.length ≤ 1000 := by omega
        have hl3 : (flat l3).length = l3.length * 2 := flat_len l3
        have hfl : Hid (flat (L ++ l3) = flat L ++ flat l3 ∧ (L ++ l3).length = L.length + l3.length) := ⟨flat_append _ _, List.length_append⟩
        have hsz := hgr3.size
        clear hown hown3 hs3 hg3 hgr hl1 hl2 hLl hLl' hnl hnl' hn3 e1 e2 hb3 hb4
        go_wp2_with (at_builtin; refine wpList_append_own _ rfl _ _ 24 rfl w.heap.size 66 j0 (.agg #[.int .i64 0, .int .i64 0]) 2 16 Tryz.underlying24 hj hz0 hz1 hz2 rfl (by decide) u8 _ _ rfl ho3 ⟨b3, off3, none⟩ l3.length c3 (flat l3) rfl hl3 hcs.out (flat_one l3) (by unfold maxLen; omega) (by omega) hsz ?_; intro v5 w5 hown5 hg5 _)
        have hge := own_ge ho3
        have hgr5 : w.grownBy w5 (some c) := grown_own hgr3 hg5 hge
        have hc5 : Cur w5 c n3 := hc3.kept hg5 (fun r hr => by have := hge r hr; omega)
        clear hgr3 hg5 hc3 ho3 hge hcs
        go_wp2
        go_roundw
        case rel => exact ⟨j + 1, L ++ l3, m' - 1, n3, by omega, rfl, by omega, by rw [hfl.out.1, hfl.out.2]; exact hown5, HN.out.1, HN.out.2, hc5, hgr5⟩
        case measure => simp [intOf]; omega
      · have hnode := node_row wr op 0
        have hrow := hown.alloc (.cells #[.int .i64 op, .int .i64 0] 66)
        have hsz := hgr.size
        have hLb : L.length + 1 ≤ 1000 := by omega
        have HN0 : Hid (NumsIn (L ++ [(op, 0)])) := nums_app HNL.out (nums_one op 0 ⟨by omega, by omega⟩)
        have HN : Hid ((L ++ [(op, 0)]).length ≤ most (d + 1) ∧ n1 ≤ n + draws (d + 1) ∧ 1 ≤ (L ++ [(op, 0)]).length) := by
          rw [List.length_append]
          show L.length + 1 ≤ 1 + 3 * most d ∧ n1 ≤ n + (16 + 3 * draws d) ∧ 1 ≤ L.length + 1
          exact ⟨by omega, by omega, by omega⟩
        have hfl : Hid (flat (L ++ [(op, 0)]) = flat L ++ flat [(op, 0)] ∧ (L ++ [(op, 0)]).length = L.length + 1) := ⟨flat_append _ _, by rw [List.length_append]; rfl⟩
        clear hLl hLl' hnl hnl' hb3
        go_wp2_with (at_builtin; refine wpList_append_own _ rfl _ _ 24 rfl w.heap.size 66 j0 (.agg #[.int .i64 0, .int .i64 0]) 2 16 Tryz.underlying24 hj hz0 hz1 hz2 rfl (by decide) u8 _ _ rfl hrow ⟨wr.heap.size, 0, none⟩ 1 1 (flat [(op, 0)]) rfl rfl (flat_cells hnode) (flat_one _) (by unfold maxLen; omega) (by omega) (by simp; omega) ?_; intro v5 w5 hown5 hg5 _)
        have hge := own_ge hrow
        have hgr5 : w.grownBy w5 (some c) := grown_own (grown_own hgr (World.grownBy_alloc wr _ none) (fun r hr => by cases hr)) hg5 hge
        have hc5 : Cur w5 c n1 := (hcr.kept (World.grownBy_alloc wr _ none) (fun r hr => by cases hr)).kept hg5 (fun r hr => by have := hge r hr; omega)
        go_ret
        exact ⟨_, rfl, L ++ [(op, 0)], by rw [hfl.out.1, hfl.out.2]; exact hown5, HN.out.2.2, HN.out.1, HN0, ⟨n1, HN.out.2.1, hc5⟩, hgr5⟩
  · have C3 := (show Hid _ from once_any w0 c _ 3 hc0 (by omega) (by decide) (by decide))
    have HMo : Hid (1 ≤ most (d + 1)) := by show 1 ≤ 1 + 3 * most d; omega
    clear hc0
    go_wp2_with fail
    refine Calls.mono C3.out ?_
    rintro e w1 ⟨t, rfl, hc1, hg1⟩
    clear C3
    cases t
    · have CP := (show Hid _ from pick_any w1 c _ 3 hc1 (by omega) (by decide) (by decide))
      clear hc1
      go_wp2_with fail
      refine Calls.mono CP.out ?_
      rintro e w2 ⟨v, rfl, v0, v1, hc2, hg2⟩
      clear CP
      have HNI : Hid (NumsIn [(2, v)]) := nums_one 2 v (in_small v0 (by omega))
      have HL := (show Hid _ from leaf_drew (n := n) (k := 16 + 3 * draws d) (gtrans hg0 hg1) hg2 hc2 (by omega) 2 v)
      clear hg0 hg1 hg2 hc2
      go_wp2
      go_ret
      exact ⟨_, [(2, v)], rfl, HL.out.1, Nat.le_refl _, HMo.out, HNI, HL.out.2⟩
    · have CP := (show Hid _ from num_any w1 c _ hc1 (by omega))
      clear hc1
      go_wp2_with fail
      refine Calls.mono CP.out ?_
      rintro e w2 ⟨v, rfl, hv, ⟨n2, hn2, hc2⟩, hg2⟩
      clear CP
      have HNI : Hid (NumsIn [(1, v)]) := nums_one 1 v hv
      have HL := (show Hid _ from leaf_drew (n := n) (k := 16 + 3 * draws d) (gtrans hg0 hg1) hg2 hc2 (by omega) 1 v)
      clear hg0 hg1 hg2 hc2 hv
      go_wp2
      go_ret
      exact ⟨_, [(1, v)], rfl, HL.out.1, Nat.le_refl _, HMo.out, HNI, HL.out.2⟩
theorem tree_any : ∀ d, d ≤ 3 → TreeAt d
  | 0, _ => tree_zero
  | 1, _ => tree_succ 0 (by omega) tree_zero (by decide)
  | 2, _ => tree_succ 1 (by omega) (tree_any 1 (by omega)) (by decide)
  | 3, _ => tree_succ 2 (by omega) (tree_any 2 (by omega)) (by decide)
end Go.Proofs.YtkadanagmahhgaaGreatDoor
namespace Go.Proofs.YtkadanagmahhgaaGreatDoor
open Go.ChangeShapes Go.WideShapes Go.ChangeAt Go.RowKit
set_option linter.unusedVariables false

/-- The ops that are drawn. -/
def ringOps : List Int := [4, 4, 5, 6, 6, 3]
def OpsR (w : World) (b : Nat) : Prop := b < w.heap.size ∧ ∀ i, i < 6 → w.cell? ⟨b, i, none⟩ = some (.int .i64 (ringOps.getD i 0))
theorem OpsR.grown {w w' : World} {b : Nat} {r : Option Nat} (h : OpsR w b) (hg : w.grownBy w' r) (hr : some b ≠ r) : OpsR w' b :=
  ⟨Nat.lt_of_lt_of_le h.1 hg.size, fun i hi => hg.cell (h.2 i hi) hr⟩
theorem ringOps_any (w : World) : Calls Tryz.prog 55 #[] w fun e w' => e = .returned (.slice (some ⟨w.heap.size, 0, none⟩) 6 6) ∧ OpsR w' w.heap.size ∧ Below w.heap.size w w' := by
  go_enter Tryz.func55, Tryz.ntmps55
  go_wp2
  go_ret
  refine ⟨rfl, ⟨by simp, fun i hi => ?_⟩, (Below.refl _ _).alloc (Nat.le_refl _) _⟩
  have : i = 0 ∨ i = 1 ∨ i = 2 ∨ i = 3 ∨ i = 4 ∨ i = 5 := by omega
  rcases this with rfl | rfl | rfl | rfl | rfl | rfl <;> simp [go_sem, ringOps]

def TreeAtR (d : Nat) : Prop := ∀ (w : World) (c n b cap : Nat), Cur w c n → n + draws d ≤ 500000 → c < b → OpsR w b →
  Calls Tryz.prog 54 #[.pointer (some ⟨c, 0, none⟩), .int .i64 d, .slice (some ⟨b, 0, none⟩) 6 cap] w fun e w' => ∃ (v : Value) (l : List (Int × Int)), e = .returned v ∧ w'.ownsRow w.heap.size 66 2 v l.length (flat l) ∧ 1 ≤ l.length ∧ l.length ≤ most d ∧ Hid (NumsIn l) ∧ Drew w w' c n (draws d)

set_option maxHeartbeats 1600000 in
set_option maxRecDepth 20000 in
theorem treeR_zero : TreeAtR 0 := by
  intro w c n b cap h hn hcb ho
  have hcl := h.lt
  have hn' : n + 14 ≤ 500000 := hn
  clear ho hn
  have C3 := (show Hid _ from once_any w c n 3 h (by omega) (by decide) (by decide))
  clear h
  go_enter Tryz.func54, Tryz.ntmps54
  go_wp2_with fail
  refine Calls.mono C3.out ?_
  rintro e w1 ⟨t, rfl, hc1, hg1⟩
  clear C3
  cases t
  · have CP := (show Hid _ from pick_any w1 c _ 3 hc1 (by omega) (by decide) (by decide))
    clear hc1
    go_wp2_with fail
    refine Calls.mono CP.out ?_
    rintro e w2 ⟨v, rfl, v0, v1, hc2, hg2⟩
    clear CP
    have HNI : Hid (NumsIn [(2, v)]) := nums_one 2 v (in_small v0 (by omega))
    have HL := (show Hid _ from leaf_drew (n := n) (k := 14) hg1 hg2 hc2 (by omega) 2 v)
    clear hg1 hg2 hc2
    go_wp2
    go_ret
    exact ⟨_, [(2, v)], rfl, HL.out.1, Nat.le_refl _, Nat.le_refl _, HNI, HL.out.2⟩
  · have CP := (show Hid _ from num_any w1 c _ hc1 (by omega))
    clear hc1
    go_wp2_with fail
    refine Calls.mono CP.out ?_
    rintro e w2 ⟨v, rfl, hv, ⟨n2, hn2, hc2⟩, hg2⟩
    clear CP
    have HNI : Hid (NumsIn [(1, v)]) := nums_one 1 v hv
    have HL := (show Hid _ from leaf_drew (n := n) (k := 14) hg1 hg2 hc2 (by omega) 1 v)
    clear hg1 hg2 hc2 hv
    go_wp2
    go_ret
    exact ⟨_, [(1, v)], rfl, HL.out.1, Nat.le_refl _, Nat.le_refl _, HNI, HL.out.2⟩

set_option maxHeartbeats 1600000 in
set_option maxRecDepth 20000 in
theorem treeR_succ (d : Nat) (hd : d ≤ 4) (IH : TreeAtR d) (hmo : most d ≤ 40) : TreeAtR (d + 1) := by
  intro w c n b cap h hn hcb ho
  have hcl := h.lt
  have hn' : n + (16 + 3 * draws d) ≤ 500000 := hn
  have HI : Hid (TreeAtR d) := IH
  have HO : Hid (OpsR w b) := ho
  have C5 := (show Hid _ from once_any w c n 5 h (by omega) (by decide) (by decide))
  have i0 : (((d + 1 : Nat) : Int) == 0) = false := by simp; omega
  have hd1 : ((d + 1 : Nat) : Int) = (d : Int) + 1 := by omega
  clear h ho IH hn
  go_enter Tryz.func54, Tryz.ntmps54
  go_wp2_with fail
  refine Calls.mono C5.out ?_
  rintro e w0 ⟨t5, rfl, hc0, hg0⟩
  clear C5
  cases t5
  · have CA := (show Hid _ from among_any w0 c _ b cap ringOps hc0 (by omega) (by decide) (by decide) hcb (HO.out.grown hg0 (by simp; omega)).2)
    rw [show ringOps.length = 6 from rfl] at CA
    clear hc0
    go_wp2_with fail
    refine Calls.mono CA.out ?_
    rintro e w1 ⟨i, hi, rfl, hc1, hg1⟩
    clear CA
    generalize ringOps.getD i 0 = op
    have CL := (show Hid _ from l1Arity_any op w1)
    have hr := ar_range op
    go_wp2_with fail
    refine Calls.mono CL.out ?_
    rintro e w2 ⟨rfl, rfl⟩
    clear CL
    generalize ar op = m at hr
    obtain ⟨j0, hj, hz0, hz1, hz2⟩ := info_parts infoNode
    have hg01 := gtrans hg0 hg1
    have hdm : ∀ j : Nat, j ≤ 3 → j * draws d ≤ 3 * draws d ∧ j * most d ≤ 3 * most d := fun j hj => ⟨Nat.mul_le_mul_right _ hj, Nat.mul_le_mul_right _ hj⟩
    have HDM := (show Hid _ from hdm)
    clear hg0 hg1 hdm hi
    go_wp2_with fail
    go_loopw [8, 9] (fun o i wr => ∃ (j : Nat) (L : List (Int × Int)) (m' : Int) (n1 : Nat), j ≤ 3 ∧ i = .int .i64 m' ∧ m' + j = m ∧ wr.ownsRow w.heap.size 66 2 o L.length (flat L) ∧ Hid (L.length ≤ j * most d ∧ NumsIn L) ∧ Hid (n1 ≤ n + 2 + j * draws d) ∧ Cur wr c n1 ∧ w.grownBy wr (some c)) (fun _ i _ => (intOf i).toNat)
    case atStart => exact ⟨0, [], m, _, by omega, rfl, by omega, World.ownsRow_nil _ _ _ _, ⟨by show 0 ≤ 0 * most d; omega, fun x hx => by cases hx⟩, by show n + 1 + 1 ≤ n + 2 + 0 * draws d; omega, hc1, hg01⟩
    case round =>
      clear hc1 hg01
      obtain ⟨j, L, m', n1, hj3, rfl, hmj, hown, hLl, hnl, hcr, hgr⟩ := hrel
      have hb3 := HDM.out j hj3
      have hLl' := hLl.out.1
      have HNL : Hid (NumsIn L) := hLl.out.2
      have hnl' := hnl.out
      by_cases hpos : 0 < m'
      · have hb4 := HDM.out (j + 1) (by omega)
        have e1 : (j + 1) * most d = j * most d + most d := Nat.succ_mul _ _
        have e2 : (j + 1) * draws d = j * draws d + draws d := Nat.succ_mul _ _
        have C := (show Hid _ from HI.out wr c n1 b cap hcr (by omega) hcb (HO.out.grown hgr (by simp; omega)))
        clear hcr
        go_wp2_with fail
        refine Calls.mono C.out ?_
        rintro e w3 ⟨v3, l3, rfl, hown3, hl1, hl2, hni3, ⟨n3, hn3, hc3⟩, hg3⟩
        clear C
        have ho3 := own_grown hown hg3 (fun x hx e => by have := own_ge hown x hx; have := Option.some.inj e; omega)
        have hgr3 := gtrans hgr hg3
        obtain ⟨a3, c3, rfl, hs3⟩ := NSl.row hown3
        obtain ⟨b3, off3, rfl, _, _⟩ := hs3.at (by omega)
        have hcs := (show Hid _ from flat_cells hs3)
        have HN : Hid (((L ++ l3).length ≤ (j + 1) * most d ∧ NumsIn (L ++ l3)) ∧ n3 ≤ n + 2 + (j + 1) * draws d) := by
          refine ⟨⟨?_, nums_app HNL.out hni3.out⟩, by omega⟩
          rw [List.length_append]
          omega
        have hLb : L.length + l3.length ≤ 1000 := by omega
        have hl3 : (flat l3).length = l3.length * 2 := flat_len l3
        have hfl : Hid (flat (L ++ l3) = flat L ++ flat l3 ∧ (L ++ l3).length = L.length + l3.length) := ⟨flat_append _ _, List.length_append⟩
        have hsz := hgr3.size
        clear hown hown3 hs3 hg3 hgr hl1 hl2 hLl hLl' hnl hnl' hn3 e1 e2 hb3 hb4
        go_wp2_with (at_builtin; refine wpList_append_own _ rfl _ _ 24 rfl w.heap.size 66 j0 (.agg #[.int .i64 0, .int .i64 0]) 2 16 Tryz.underlying24 hj hz0 hz1 hz2 rfl (by decide) u8 _ _ rfl ho3 ⟨b3, off3, none⟩ l3.length c3 (flat l3) rfl hl3 hcs.out (flat_one l3) (by unfold maxLen; omega) (by omega) hsz ?_; intro v5 w5 hown5 hg5 _)
        have hge := own_ge ho3
        have hgr5 : w.grownBy w5 (some c) := grown_own hgr3 hg5 hge
        have hc5 : Cur w5 c n3 := hc3.kept hg5 (fun r hr => by have := hge r hr; omega)
        clear hgr3 hg5 hc3 ho3 hge hcs
        go_wp2
        go_roundw
        case rel => exact ⟨j + 1, L ++ l3, m' - 1, n3, by omega, rfl, by omega, by rw [hfl.out.1, hfl.out.2]; exact hown5, HN.out.1, HN.out.2, hc5, hgr5⟩
        case measure => simp [intOf]; omega
      · have hnode := node_row wr op 0
        have hrow := hown.alloc (.cells #[.int .i64 op, .int .i64 0] 66)
        have hsz := hgr.size
        have hLb : L.length + 1 ≤ 1000 := by omega
        have HN0 : Hid (NumsIn (L ++ [(op, 0)])) := nums_app HNL.out (nums_one op 0 ⟨by omega, by omega⟩)
        have HN : Hid ((L ++ [(op, 0)]).length ≤ most (d + 1) ∧ n1 ≤ n + draws (d + 1) ∧ 1 ≤ (L ++ [(op, 0)]).length) := by
          rw [List.length_append]
          show L.length + 1 ≤ 1 + 3 * most d ∧ n1 ≤ n + (16 + 3 * draws d) ∧ 1 ≤ L.length + 1
          exact ⟨by omega, by omega, by omega⟩
        have hfl : Hid (flat (L ++ [(op, 0)]) = flat L ++ flat [(op, 0)] ∧ (L ++ [(op, 0)]).length = L.length + 1) := ⟨flat_append _ _, by rw [List.length_append]; rfl⟩
        clear hLl hLl' hnl hnl' hb3
        go_wp2_with (at_builtin; refine wpList_append_own _ rfl _ _ 24 rfl w.heap.size 66 j0 (.agg #[.int .i64 0, .int .i64 0]) 2 16 Tryz.underlying24 hj hz0 hz1 hz2 rfl (by decide) u8 _ _ rfl hrow ⟨wr.heap.size, 0, none⟩ 1 1 (flat [(op, 0)]) rfl rfl (flat_cells hnode) (flat_one _) (by unfold maxLen; omega) (by omega) (by simp; omega) ?_; intro v5 w5 hown5 hg5 _)
        have hge := own_ge hrow
        have hgr5 : w.grownBy w5 (some c) := grown_own (grown_own hgr (World.grownBy_alloc wr _ none) (fun r hr => by cases hr)) hg5 hge
        have hc5 : Cur w5 c n1 := (hcr.kept (World.grownBy_alloc wr _ none) (fun r hr => by cases hr)).kept hg5 (fun r hr => by have := hge r hr; omega)
        go_ret
        exact ⟨_, rfl, L ++ [(op, 0)], by rw [hfl.out.1, hfl.out.2]; exact hown5, HN.out.2.2, HN.out.1, HN0, ⟨n1, HN.out.2.1, hc5⟩, hgr5⟩
  · have C3 := (show Hid _ from once_any w0 c _ 3 hc0 (by omega) (by decide) (by decide))
    have HMo : Hid (1 ≤ most (d + 1)) := by show 1 ≤ 1 + 3 * most d; omega
    clear hc0
    go_wp2_with fail
    refine Calls.mono C3.out ?_
    rintro e w1 ⟨t, rfl, hc1, hg1⟩
    clear C3
    cases t
    · have CP := (show Hid _ from pick_any w1 c _ 3 hc1 (by omega) (by decide) (by decide))
      clear hc1
      go_wp2_with fail
      refine Calls.mono CP.out ?_
      rintro e w2 ⟨v, rfl, v0, v1, hc2, hg2⟩
      clear CP
      have HNI : Hid (NumsIn [(2, v)]) := nums_one 2 v (in_small v0 (by omega))
      have HL := (show Hid _ from leaf_drew (n := n) (k := 16 + 3 * draws d) (gtrans hg0 hg1) hg2 hc2 (by omega) 2 v)
      clear hg0 hg1 hg2 hc2
      go_wp2
      go_ret
      exact ⟨_, [(2, v)], rfl, HL.out.1, Nat.le_refl _, HMo.out, HNI, HL.out.2⟩
    · have CP := (show Hid _ from num_any w1 c _ hc1 (by omega))
      clear hc1
      go_wp2_with fail
      refine Calls.mono CP.out ?_
      rintro e w2 ⟨v, rfl, hv, ⟨n2, hn2, hc2⟩, hg2⟩
      clear CP
      have HNI : Hid (NumsIn [(1, v)]) := nums_one 1 v hv
      have HL := (show Hid _ from leaf_drew (n := n) (k := 16 + 3 * draws d) (gtrans hg0 hg1) hg2 hc2 (by omega) 1 v)
      clear hg0 hg1 hg2 hc2 hv
      go_wp2
      go_ret
      exact ⟨_, [(1, v)], rfl, HL.out.1, Nat.le_refl _, HMo.out, HNI, HL.out.2⟩
theorem treeR_any : ∀ d, d ≤ 3 → TreeAtR d
  | 0, _ => treeR_zero
  | 1, _ => treeR_succ 0 (by omega) treeR_zero (by decide)
  | 2, _ => treeR_succ 1 (by omega) (treeR_any 1 (by omega)) (by decide)
  | 3, _ => treeR_succ 2 (by omega) (treeR_any 2 (by omega)) (by decide)
end Go.Proofs.YtkadanagmahhgaaGreatDoor
namespace Go.Proofs.YtkadanagmahhgaaGreatDoor
open Go.ChangeShapes Go.WideShapes Go.ChangeAt Go.RowKit
set_option linter.unusedVariables false

/-- A list of nodes in memory that is newer than B. -/
def New (w : World) (B : Nat) (v : Value) (l : List (Int × Int)) : Prop := ∃ a len cap, v = .slice a len cap ∧ NSl w a len l ∧ len ≤ cap ∧ len ≤ 40 ∧ ∀ x, a = some x → B ≤ x.block
theorem New.of {w : World} {B e : Nat} {v : Value} {n : Nat} {l : List (Int × Int)} (h : w.ownsRow B e 2 v n (flat l)) (hn : n ≤ 40) : New w B v l := by
  obtain ⟨a, cap, rfl, hs⟩ := NSl.row h
  refine ⟨a, n, cap, rfl, hs, ?_, hn, fun x hx => own_ge h _ (by rw [hx]; rfl)⟩
  rcases h.2 with ⟨e, rfl⟩ | ⟨g, cap', cur, e, _, _, hc, _⟩
  · omega
  · simp only [Value.slice.injEq, true_and] at e
    omega
theorem New.grown {w w' : World} {B : Nat} {v : Value} {l : List (Int × Int)} {r : Option Nat} (h : New w B v l) (hg : w.grownBy w' r) (hr : ∀ x, r = some x → x < B) : New w' B v l := by
  obtain ⟨a, len, cap, rfl, hs, h1, h2, h3⟩ := h
  exact ⟨a, len, cap, rfl, hs.grown hg (fun x hx e => by have := hr _ e.symm; have := h3 x hx; omega), h1, h2, h3⟩
theorem New.keep {w w' : World} {B : Nat} {v : Value} {l : List (Int × Int)} (h : New w B v l) (hb : Below w.heap.size w w') : New w' B v l := by
  obtain ⟨a, len, cap, rfl, hs, h1, h2, h3⟩ := h
  exact ⟨a, len, cap, rfl, hs.keep hb, h1, h2, h3⟩

theorem flat_set (x : Int) (hx : InI x) : ∀ (l : List (Int × Int)) (j : Nat), ∃ l' : List (Int × Int), (l'.length = l.length ∧ (NumsIn l → NumsIn l')) ∧ (flat l).set j (.int .i64 x) = flat l'
  | [], j => ⟨[], ⟨rfl, id⟩, rfl⟩
  | (a, b) :: l, 0 => ⟨(x, b) :: l, ⟨rfl, fun h y hy => by
      rcases List.mem_cons.1 hy with e | hy
      · rw [e]; exact h (a, b) (List.mem_cons_self ..)
      · exact h y (List.mem_cons_of_mem _ hy)⟩, rfl⟩
  | (a, b) :: l, 1 => ⟨(a, x) :: l, ⟨rfl, fun h y hy => by
      rcases List.mem_cons.1 hy with e | hy
      · rw [e]; exact hx
      · exact h y (List.mem_cons_of_mem _ hy)⟩, rfl⟩
  | (a, b) :: l, j + 2 => by
    obtain ⟨l', ⟨h1, h3⟩, h2⟩ := flat_set x hx l j
    refine ⟨(a, b) :: l', ⟨by simp [h1], fun h y hy => by
      rcases List.mem_cons.1 hy with e | hy
      · rw [e]; exact h (a, b) (List.mem_cons_self ..)
      · exact h3 (fun z hz => h z (List.mem_cons_of_mem _ hz)) y hy⟩, ?_⟩
    show Value.int .i64 a :: Value.int .i64 b :: (flat l).set j (.int .i64 x) = _
    rw [h2]; rfl
theorem New.set {w : World} {B e g n cap : Nat} {l : List (Int × Int)} (h : w.ownsRow B e 2 (.slice (some ⟨g, 0, none⟩) n cap) n (flat l)) (hn : n ≤ 40) (hN : NumsIn l) (j : Nat) (x : Int) (hx : InI x) : ∃ l', NumsIn l' ∧ New (w.setCell ⟨g, j, none⟩ (.int .i64 x)) B (.slice (some ⟨g, 0, none⟩) n cap) l' := by
  obtain ⟨l', ⟨_, h3⟩, e⟩ := flat_set x hx l j
  have hs := (h.stored j (.int .i64 x)).1
  rw [e] at hs
  exact ⟨l', h3 hN, New.of hs hn⟩
theorem New.tail {w : World} {B g n cap : Nat} {l : List (Int × Int)} (h : New w B (.slice (some ⟨g, 0, none⟩) n cap) l) (h1 : 1 ≤ n) (hN : NumsIn l) : ∃ l', NumsIn l' ∧ New w B (.slice (if cap = 1 then some ⟨g, 0, none⟩ else some ⟨g, 2, none⟩) (n - 1) (cap - 1)) l' := by
  obtain ⟨a, len, cap', e, hs, c1, c2, c3⟩ := h
  simp only [Value.slice.injEq] at e
  obtain ⟨rfl, rfl, rfl⟩ := e
  have hB := c3 _ rfl
  by_cases hc : cap = 1
  · rw [if_pos hc]
    exact ⟨[], (fun x hx => by cases hx), _, _, _, rfl, ⟨by simp; omega, .inl (by omega)⟩, by omega, by omega, fun x hx => by cases hx; exact hB⟩
  · rw [if_neg hc]
    have := hs.sub 1 (n - 1) (by omega)
    exact ⟨_, (fun x hx => hN x (List.mem_of_mem_drop (List.mem_of_mem_take hx))), _, _, _, rfl, this, by omega, by omega, fun x hx => by cases hx; exact hB⟩

end Go.Proofs.YtkadanagmahhgaaGreatDoor
