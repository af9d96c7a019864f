/-
  PROVED HERE: the laws' own drawn terms of sums and products: some list of nodes, not too long, in new memory, whatever the bytes. No condition. the laws' own drawn terms, of sums and products mostly: some list of nodes, not too long, in new memory, whatever the bytes. No condition.
-/
import Derived.Test.YtpjgjpjfchfmlaaGreatDoorDrawing
namespace Go.Proofs.YtpjgjpjfchfmlaaGreatDoor
open Go.ChangeShapes Go.WideShapes Go.ChangeAt Go.RowKit
set_option linter.unusedVariables false

/-- The ops that are drawn. -/
def ringOps : List Int := [4, 4, 5, 6, 6, 3]
def OpsR (w : World) (b : Nat) : Prop := b < w.heap.size ∧ ∀ i, i < 6 → w.cell? ⟨b, i, none⟩ = some (.int .i64 (ringOps.getD i 0))
theorem OpsR.grown {w w' : World} {b : Nat} {r : Option Nat} (h : OpsR w b) (hg : w.grownBy w' r) (hr : some b ≠ r) : OpsR w' b :=
  ⟨Nat.lt_of_lt_of_le h.1 hg.size, fun i hi => hg.cell (h.2 i hi) hr⟩
theorem ringOps_any (w : World) : Calls Tryz.prog 79 #[] w fun e w' => e = .returned (.slice (some ⟨w.heap.size, 0, none⟩) 6 6) ∧ OpsR w' w.heap.size ∧ Below w.heap.size w w' := by
  go_enter Tryz.func79, Tryz.ntmps79
  go_wp2
  go_ret
  refine ⟨rfl, ⟨by simp, fun i hi => ?_⟩, (Below.refl _ _).alloc (Nat.le_refl _) _⟩
  have : i = 0 ∨ i = 1 ∨ i = 2 ∨ i = 3 ∨ i = 4 ∨ i = 5 := by omega
  rcases this with rfl | rfl | rfl | rfl | rfl | rfl <;> simp [go_sem, ringOps]

def TreeAtR (d : Nat) : Prop := ∀ (w : World) (c n b cap : Nat), Cur w c n → n + draws d ≤ 500000 → c < b → OpsR w b →
  Calls Tryz.prog 78 #[.pointer (some ⟨c, 0, none⟩), .int .i64 d, .slice (some ⟨b, 0, none⟩) 6 cap] w fun e w' => ∃ (v : Value) (l : List (Int × Int)), e = .returned v ∧ w'.ownsRow w.heap.size 77 2 v l.length (flat l) ∧ 1 ≤ l.length ∧ l.length ≤ most d ∧ Hid (NumsIn l) ∧ Drew w w' c n (draws d)

set_option maxHeartbeats 1600000 in
set_option maxRecDepth 20000 in
theorem treeR_zero : TreeAtR 0 := by
  intro w c n b cap h hn hcb ho
  have hcl := h.lt
  have hn' : n + 14 ≤ 500000 := hn
  clear ho hn
  have C3 := (show Hid _ from once_any w c n 3 h (by omega) (by decide) (by decide))
  clear h
  go_enter Tryz.func78, Tryz.ntmps78
  go_wp2_with fail
  refine Calls.mono C3.out ?_
  rintro e w1 ⟨t, rfl, hc1, hg1⟩
  clear C3
  cases t
  · have CP := (show Hid _ from pick_any w1 c _ 3 hc1 (by omega) (by decide) (by decide))
    clear hc1
    go_wp2_with fail
    refine Calls.mono CP.out ?_
    rintro e w2 ⟨v, rfl, v0, v1, hc2, hg2⟩
    clear CP
    have HNI : Hid (NumsIn [(2, v)]) := nums_one 2 v (in_small v0 (by omega))
    have HL := (show Hid _ from leaf_drew (n := n) (k := 14) hg1 hg2 hc2 (by omega) 2 v)
    clear hg1 hg2 hc2
    go_wp2
    go_ret
    exact ⟨_, [(2, v)], rfl, HL.out.1, Nat.le_refl _, Nat.le_refl _, HNI, HL.out.2⟩
  · have CP := (show Hid _ from num_any w1 c _ hc1 (by omega))
    clear hc1
    go_wp2_with fail
    refine Calls.mono CP.out ?_
    rintro e w2 ⟨v, rfl, hv, ⟨n2, hn2, hc2⟩, hg2⟩
    clear CP
    have HNI : Hid (NumsIn [(1, v)]) := nums_one 1 v hv
    have HL := (show Hid _ from leaf_drew (n := n) (k := 14) hg1 hg2 hc2 (by omega) 1 v)
    clear hg1 hg2 hc2 hv
    go_wp2
    go_ret
    exact ⟨_, [(1, v)], rfl, HL.out.1, Nat.le_refl _, Nat.le_refl _, HNI, HL.out.2⟩

set_option maxHeartbeats 1600000 in
set_option maxRecDepth 20000 in
theorem treeR_succ (d : Nat) (hd : d ≤ 4) (IH : TreeAtR d) (hmo : most d ≤ 40) : TreeAtR (d + 1) := by
  intro w c n b cap h hn hcb ho
  have hcl := h.lt
  have hn' : n + (16 + 3 * draws d) ≤ 500000 := hn
  have HI : Hid (TreeAtR d) := IH
  have HO : Hid (OpsR w b) := ho
  have C5 := (show Hid _ from once_any w c n 5 h (by omega) (by decide) (by decide))
  have i0 : (((d + 1 : Nat) : Int) == 0) = false := by simp; omega
  have hd1 : ((d + 1 : Nat) : Int) = (d : Int) + 1 := by omega
  clear h ho IH hn
  go_enter Tryz.func78, Tryz.ntmps78
  go_wp2_with fail
  refine Calls.mono C5.out ?_
  rintro e w0 ⟨t5, rfl, hc0, hg0⟩
  clear C5
  cases t5
  · have CA := (show Hid _ from among_any w0 c _ b cap ringOps hc0 (by omega) (by decide) (by decide) hcb (HO.out.grown hg0 (by simp; omega)).2)
    rw [show ringOps.length = 6 from rfl] at CA
    clear hc0
    go_wp2_with fail
    refine Calls.mono CA.out ?_
    rintro e w1 ⟨i, hi, rfl, hc1, hg1⟩
    clear CA
    generalize ringOps.getD i 0 = op
    have CL := (show Hid _ from l1Arity_any op w1)
    have hr := ar_range op
    go_wp2_with fail
    refine Calls.mono CL.out ?_
    rintro e w2 ⟨rfl, rfl⟩
    clear CL
    generalize ar op = m at hr
    obtain ⟨j0, hj, hz0, hz1, hz2⟩ := info_parts infoNode
    have hg01 := gtrans hg0 hg1
    have hdm : ∀ j : Nat, j ≤ 3 → j * draws d ≤ 3 * draws d ∧ j * most d ≤ 3 * most d := fun j hj => ⟨Nat.mul_le_mul_right _ hj, Nat.mul_le_mul_right _ hj⟩
    have HDM := (show Hid _ from hdm)
    clear hg0 hg1 hdm hi
    go_wp2_with fail
    go_loopw [8, 9] (fun o i wr => ∃ (j : Nat) (L : List (Int × Int)) (m' : Int) (n1 : Nat), j ≤ 3 ∧ i = .int .i64 m' ∧ m' + j = m ∧ wr.ownsRow w.heap.size 77 2 o L.length (flat L) ∧ Hid (L.length ≤ j * most d ∧ NumsIn L) ∧ Hid (n1 ≤ n + 2 + j * draws d) ∧ Cur wr c n1 ∧ w.grownBy wr (some c)) (fun _ i _ => (intOf i).toNat)
    case atStart => exact ⟨0, [], m, _, by omega, rfl, by omega, World.ownsRow_nil _ _ _ _, ⟨by show 0 ≤ 0 * most d; omega, fun x hx => by cases hx⟩, by show n + 1 + 1 ≤ n + 2 + 0 * draws d; omega, hc1, hg01⟩
    case round =>
      clear hc1 hg01
      obtain ⟨j, L, m', n1, hj3, rfl, hmj, hown, hLl, hnl, hcr, hgr⟩ := hrel
      have hb3 := HDM.out j hj3
      have hLl' := hLl.out.1
      have HNL : Hid (NumsIn L) := hLl.out.2
      have hnl' := hnl.out
      by_cases hpos : 0 < m'
      · have hb4 := HDM.out (j + 1) (by omega)
        have e1 : (j + 1) * most d = j * most d + most d := Nat.succ_mul _ _
        have e2 : (j + 1) * draws d = j * draws d + draws d := Nat.succ_mul _ _
        have C := (show Hid _ from HI.out wr c n1 b cap hcr (by omega) hcb (HO.out.grown hgr (by simp; omega)))
        clear hcr
        go_wp2_with fail
        refine Calls.mono C.out ?_
        rintro e w3 ⟨v3, l3, rfl, hown3, hl1, hl2, hni3, ⟨n3, hn3, hc3⟩, hg3⟩
        clear C
        have ho3 := own_grown hown hg3 (fun x hx e => by have := own_ge hown x hx; have := Option.some.inj e; omega)
        have hgr3 := gtrans hgr hg3
        obtain ⟨a3, c3, rfl, hs3⟩ := NSl.row hown3
        obtain ⟨b3, off3, rfl, _, _⟩ := hs3.at (by omega)
        have hcs := (show Hid _ from flat_cells hs3)
        have HN : Hid (((L ++ l3).length ≤ (j + 1) * most d ∧ NumsIn (L ++ l3)) ∧ n3 ≤ n + 2 + (j + 1) * draws d) := by
          refine ⟨⟨?_, nums_app HNL.out hni3.out⟩, by omega⟩
          rw [List.length_append]
          omega
        have hLb : L.length + l3.length ≤ 1000 := by omega
        have hl3 : (flat l3).length = l3.length * 2 := flat_len l3
        have hfl : Hid (flat (L ++ l3) = flat L ++ flat l3 ∧ (L ++ l3).length = L.length + l3.length) := ⟨flat_append _ _, List.length_append⟩
        have hsz := hgr3.size
        clear hown hown3 hs3 hg3 hgr hl1 hl2 hLl hLl' hnl hnl' hn3 e1 e2 hb3 hb4
        go_wp2_with (at_builtin; refine wpList_append_own _ rfl _ _ 24 rfl w.heap.size 77 j0 (.agg #[.int .i64 0, .int .i64 0]) 2 16 Tryz.underlying24 hj hz0 hz1 hz2 rfl (by decide) u8 _ _ rfl ho3 ⟨b3, off3, none⟩ l3.length c3 (flat l3) rfl hl3 hcs.out (flat_one l3) (by unfold maxLen; omega) (by omega) hsz ?_; intro v5 w5 hown5 hg5 _)
        have hge := own_ge ho3
        have hgr5 : w.grownBy w5 (some c) := grown_own hgr3 hg5 hge
        have hc5 : Cur w5 c n3 := hc3.kept hg5 (fun r hr => by have := hge r hr; omega)
        clear hgr3 hg5 hc3 ho3 hge hcs
        go_wp2
        go_roundw
        case rel => exact ⟨j + 1, L ++ l3, m' - 1, n3, by omega, rfl, by omega, by rw [hfl.out.1, hfl.out.2]; exact hown5, HN.out.1, HN.out.2, hc5, hgr5⟩
        case measure => simp [intOf]; omega
      · have hnode := node_row wr op 0
        have hrow := hown.alloc (.cells #[.int .i64 op, .int .i64 0] 77)
        have hsz := hgr.size
        have hLb : L.length + 1 ≤ 1000 := by omega
        have HN0 : Hid (NumsIn (L ++ [(op, 0)])) := nums_app HNL.out (nums_one op 0 ⟨by omega, by omega⟩)
        have HN : Hid ((L ++ [(op, 0)]).length ≤ most (d + 1) ∧ n1 ≤ n + draws (d + 1) ∧ 1 ≤ (L ++ [(op, 0)]).length) := by
          rw [List.length_append]
          show L.length + 1 ≤ 1 + 3 * most d ∧ n1 ≤ n + (16 + 3 * draws d) ∧ 1 ≤ L.length + 1
          exact ⟨by omega, by omega, by omega⟩
        have hfl : Hid (flat (L ++ [(op, 0)]) = flat L ++ flat [(op, 0)] ∧ (L ++ [(op, 0)]).length = L.length + 1) := ⟨flat_append _ _, by rw [List.length_append]; rfl⟩
        clear hLl hLl' hnl hnl' hb3
        go_wp2_with (at_builtin; refine wpList_append_own _ rfl _ _ 24 rfl w.heap.size 77 j0 (.agg #[.int .i64 0, .int .i64 0]) 2 16 Tryz.underlying24 hj hz0 hz1 hz2 rfl (by decide) u8 _ _ rfl hrow ⟨wr.heap.size, 0, none⟩ 1 1 (flat [(op, 0)]) rfl rfl (flat_cells hnode) (flat_one _) (by unfold maxLen; omega) (by omega) (by simp; omega) ?_; intro v5 w5 hown5 hg5 _)
        have hge := own_ge hrow
        have hgr5 : w.grownBy w5 (some c) := grown_own (grown_own hgr (World.grownBy_alloc wr _ none) (fun r hr => by cases hr)) hg5 hge
        have hc5 : Cur w5 c n1 := (hcr.kept (World.grownBy_alloc wr _ none) (fun r hr => by cases hr)).kept hg5 (fun r hr => by have := hge r hr; omega)
        go_ret
        exact ⟨_, rfl, L ++ [(op, 0)], by rw [hfl.out.1, hfl.out.2]; exact hown5, HN.out.2.2, HN.out.1, HN0, ⟨n1, HN.out.2.1, hc5⟩, hgr5⟩
  · have C3 := (show Hid _ from once_any w0 c _ 3 hc0 (by omega) (by decide) (by decide))
    have HMo : Hid (1 ≤ most (d + 1)) := by show 1 ≤ 1 + 3 * most d; omega
    clear hc0
    go_wp2_with fail
    refine Calls.mono C3.out ?_
    rintro e w1 ⟨t, rfl, hc1, hg1⟩
    clear C3
    cases t
    · have CP := (show Hid _ from pick_any w1 c _ 3 hc1 (by omega) (by decide) (by decide))
      clear hc1
      go_wp2_with fail
      refine Calls.mono CP.out ?_
      rintro e w2 ⟨v, rfl, v0, v1, hc2, hg2⟩
      clear CP
      have HNI : Hid (NumsIn [(2, v)]) := nums_one 2 v (in_small v0 (by omega))
      have HL := (show Hid _ from leaf_drew (n := n) (k := 16 + 3 * draws d) (gtrans hg0 hg1) hg2 hc2 (by omega) 2 v)
      clear hg0 hg1 hg2 hc2
      go_wp2
      go_ret
      exact ⟨_, [(2, v)], rfl, HL.out.1, Nat.le_refl _, HMo.out, HNI, HL.out.2⟩
    · have CP := (show Hid _ from num_any w1 c _ hc1 (by omega))
      clear hc1
      go_wp2_with fail
      refine Calls.mono CP.out ?_
      rintro e w2 ⟨v, rfl, hv, ⟨n2, hn2, hc2⟩, hg2⟩
      clear CP
      have HNI : Hid (NumsIn [(1, v)]) := nums_one 1 v hv
      have HL := (show Hid _ from leaf_drew (n := n) (k := 16 + 3 * draws d) (gtrans hg0 hg1) hg2 hc2 (by omega) 1 v)
      clear hg0 hg1 hg2 hc2 hv
      go_wp2
      go_ret
      exact ⟨_, [(1, v)], rfl, HL.out.1, Nat.le_refl _, HMo.out, HNI, HL.out.2⟩
theorem treeR_any : ∀ d, d ≤ 3 → TreeAtR d
  | 0, _ => treeR_zero
  | 1, _ => treeR_succ 0 (by omega) treeR_zero (by decide)
  | 2, _ => treeR_succ 1 (by omega) (treeR_any 1 (by omega)) (by decide)
  | 3, _ => treeR_succ 2 (by omega) (treeR_any 2 (by omega)) (by decide)
end Go.Proofs.YtpjgjpjfchfmlaaGreatDoor
namespace Go.Proofs.YtpjgjpjfchfmlaaGreatDoor
open Go.ChangeShapes Go.WideShapes Go.ChangeAt Go.RowKit
set_option linter.unusedVariables false

theorem NumsIn.at {l : List (Int × Int)} (h : NumsIn l) (k : Nat) : InI (l.getD k (0, 0)).2 := by
  by_cases hk : k < l.length
  · have e : l.getD k (0, 0) = l[k] := by rw [List.getD_eq_getElem?_getD, List.getElem?_eq_getElem hk]; rfl
    rw [e]
    exact h _ (List.getElem_mem hk)
  · rw [List.getD_eq_getElem?_getD, List.getElem?_eq_none (by omega)]
    unfold InI
    simp
/-- A drawn list of nodes. -/
def NewR (w : World) (B : Nat) (v : Value) (l : List (Int × Int)) : Prop := ∃ a len cap, v = .slice a len cap ∧ NSl w a len l ∧ len ≤ 100 ∧ NumsIn l ∧ ∀ x, a = some x → B ≤ x.block
theorem NewR.of {w : World} {B e : Nat} {v : Value} {l : List (Int × Int)} (h : w.ownsRow B e 2 v l.length (flat l)) (hl : l.length ≤ 100) (hN : NumsIn l) : NewR w B v l := by
  obtain ⟨a, cap, rfl, hs⟩ := NSl.row h
  exact ⟨a, _, cap, rfl, hs, hl, hN, fun x hx => own_ge h _ (by rw [hx]; rfl)⟩
theorem NewR.base {w : World} {B B' : Nat} {v : Value} {l : List (Int × Int)} (h : NewR w B v l) (hb : B' ≤ B) : NewR w B' v l := by
  obtain ⟨a, len, cap, h1, h2, h3, h4, h5⟩ := h
  exact ⟨a, len, cap, h1, h2, h3, h4, fun x hx => Nat.le_trans hb (h5 x hx)⟩

theorem l2Num_any (x : Int) (w : World) : Calls Tryz.prog 51 #[.int .i64 x] w fun e w' => e = .returned (.agg #[.int .i64 1, .int .i64 x]) ∧ Below w.heap.size w w' := by
  go_enter Tryz.func51, Tryz.ntmps51
  go_wp2
  exact bodyPost_ret (v := .agg #[.int .i64 1, .int .i64 x]) (by simp [results, Tryz.results51, go_sem]) rfl ⟨rfl, (Below.refl _ _).alloc (Nat.le_refl _) _⟩
theorem four_new (w : World) (a b x y : Int) (t : TypeId) : ∀ j u, [Value.int .i64 a, .int .i64 b, .int .i64 x, .int .i64 y][j]? = some u → (w.alloc (.cells #[.int .i64 a, .int .i64 b, .int .i64 x, .int .i64 y] t)).cell? ((⟨w.heap.size, 0, none⟩ : Addr).add j) = some u := by
  intro j u hj
  match j, hj with
  | 0, hj => simp at hj; subst hj; simp [Addr.add]
  | 1, hj => simp at hj; subst hj; simp [Addr.add]
  | 2, hj => simp at hj; subst hj; simp [Addr.add]
  | 3, hj => simp at hj; subst hj; simp [Addr.add]
theorem four_one (a b x y : Int) : ∀ u ∈ [Value.int .i64 a, .int .i64 b, .int .i64 x, .int .i64 y], u.oneCell' = true := by
  intro u hu
  simp at hu
  rcases hu with rfl | rfl | rfl | rfl <;> rfl

set_option maxHeartbeats 3200000 in
set_option maxRecDepth 20000 in
theorem ring_any (w : World) (c n : Nat) (h : Cur w c n) (hn : n ≤ 50000) :
    Calls Tryz.prog 43 #[.pointer (some ⟨c, 0, none⟩)] w fun e w' => ∃ (v : Value) (l : List (Int × Int)), e = .returned v ∧ NewR w' w.heap.size v l ∧ Drew w w' c n 3000 := by
  have hcl := h.lt
  obtain ⟨i0, hi, hz0, hz1, hz2⟩ := info_parts infoNode
  have C1 := (show Hid _ from pick_any w c n 3 h (by omega) (by decide) (by decide))
  clear h
  go_enter Tryz.func43, Tryz.ntmps43
  go_wp2_with fail
  refine Calls.mono C1.out ?_
  rintro e w1 ⟨v, rfl, v0, v1, hc1, hg1⟩
  obtain ⟨d, hd⟩ : ∃ d : Nat, 1 + v = d := ⟨(1 + v).toNat, by omega⟩
  have C2 := (show Hid _ from ringOps_any w1)
  clear C1
  go_wp2_with fail
  refine Calls.mono C2.out ?_
  rintro e w2 ⟨rfl, ho2, hb2⟩
  have hc2 := hc1.kept (grown_of hb2) (fun r hr => by cases hr)
  have hG2 := grown_own hg1 (grown_of hb2) (fun r hr => by cases hr)
  have hs1 := hg1.size
  have hdr : draws d ≤ 586 := by
    have : d = 1 ∨ d = 2 ∨ d = 3 := by omega
    rcases this with rfl | rfl | rfl <;> decide
  have hmo : most d ≤ 40 := by
    have : d = 1 ∨ d = 2 ∨ d = 3 := by omega
    rcases this with rfl | rfl | rfl <;> decide
  have C3 := (show Hid _ from treeR_any d (by omega) w2 c (n + 1) w1.heap.size 6 hc2 (by omega) (by omega) ho2)
  clear C2 hc1 hg1 ho2 hb2 hc2
  go_wp2_with fail
  refine Calls.mono C3.out ?_
  rintro e w3 ⟨t, l, rfl, hown, hl1, hl2, hNI, ⟨n3, hn3, hc3⟩, hg3⟩
  have hs2 := hG2.size
  have hG3 := gtrans hG2 hg3
  have hown3 := own_base hown hs2
  have C4 := (show Hid _ from once_any w3 c n3 4 hc3 (by omega) (by decide) (by decide))
  clear C3 hown hc3 hG2 hg3
  go_wp2_with fail
  refine Calls.mono C4.out ?_
  rintro e w4 ⟨b4, rfl, hc4, hg4⟩
  have hG4 := gtrans hG3 hg4
  have hrg := own_ge hown3
  have hown4 := own_grown hown3 hg4 (fun x hx e => by cases e; have := hrg _ hx; omega)
  clear C4 hg4 hG3 hown3 hs2
  have hll : l.length ≤ 40 := by omega
  have hn4 : n3 + 1 ≤ n + 600 := by omega
  clear hn3 hdr hmo hl2
  cases b4
  case' false =>
    obtain ⟨W, rfl⟩ : ∃ W, W = w4 := ⟨_, rfl⟩
    obtain ⟨L, hL, hLl, hLN⟩ : ∃ L, L = l ∧ L.length ≤ 100 ∧ Hid (NumsIn L) := ⟨l, rfl, by omega, hNI⟩
    rw [← hL] at hown4
    obtain ⟨m, hm0⟩ : ∃ m, n3 + 1 = m := ⟨_, rfl⟩
    rw [hm0] at hc4
    have hm : m ≤ n + 610 := by omega
    clear hL hNI hm0
    go_wp2_with fail
  case' true =>
    have C5 := (show Hid _ from pick_any w4 c _ 70 hc4 (by omega) (by decide) (by decide))
    clear hc4
    go_wp2_with fail
    refine Calls.mono C5.out ?_
    rintro e w5 ⟨x, rfl, x0, x1, hc5, hg5⟩
    have hG5 := gtrans hG4 hg5
    have hown5 := own_grown hown4 hg5 (fun y hy e => by cases e; have := hrg _ hy; omega)
    clear C5 hG4 hg5 hown4
    have C6 := (show Hid _ from l2Num_any x w5)
    go_wp2_with fail
    refine Calls.mono C6.out ?_
    rintro e w6 ⟨rfl, hb6⟩
    have hG6 := grown_own hG5 (grown_of hb6) (fun r hr => by cases hr)
    have hown6 := own_keep hown5 hb6
    have hc6 := hc5.kept (grown_of hb6) (fun r hr => by cases hr)
    have hs6 := hG6.size
    clear C6 hG5 hb6 hown5 hc5
    go_wp2_with (at_builtin; refine wpList_append_own _ rfl _ _ 24 rfl w.heap.size 77 i0 (.agg #[.int .i64 0, .int .i64 0]) 2 16 Tryz.underlying24 hi hz0 hz1 hz2 rfl (by decide) _ _ _ rfl (hown6.alloc _) ⟨w6.heap.size, 0, none⟩ 2 2 [.int .i64 1, .int .i64 x, .int .i64 7, .int .i64 0] rfl rfl (four_new w6 1 x 7 0 77) (four_one 1 x 7 0) (by unfold maxLen; omega) (by omega) (by simp; omega) ?_; intro t' W hown7 hg7 _)
    have hown4 : W.ownsRow w.heap.size 77 2 t' (l ++ [(1, x), (7, 0)]).length (flat (l ++ [(1, x), (7, 0)])) := by rw [flat_append, List.length_append]; exact hown7
    have hG4 := grown_own (grown_own hG6 (World.grownBy_alloc _ _ none) (fun r hr => by cases hr)) hg7 hrg
    have hc4 := (hc6.kept (World.grownBy_alloc _ _ none) (fun r hr => by cases hr)).kept hg7 (fun r hr => by have := hrg r hr; omega)
    obtain ⟨L, hL, hLl, hLN⟩ : ∃ L, l ++ [(1, x), (7, 0)] = L ∧ L.length ≤ 100 ∧ Hid (NumsIn L) := ⟨_, rfl, by simp; omega, nums_app hNI.out (fun y hy => by
      simp at hy
      rcases hy with rfl | rfl
      · exact in_small x0 (by omega)
      · exact in_small (by decide) (by decide))⟩
    rw [hL] at hown4
    obtain ⟨m, hm0⟩ : ∃ m, n3 + 1 + 1 = m := ⟨_, rfl⟩
    rw [hm0] at hc4
    have hm : m ≤ n + 610 := by omega
    clear hL hNI hm0 hown7 hg7 hown6 hG6 hc6
  all_goals
    have C7 := (show Hid _ from once_any W c m 12 hc4 (by omega) (by decide) (by decide))
    clear hc4
    refine Calls.mono C7.out ?_
    rintro e w8 ⟨b8, rfl, hc8, hg8⟩
    have hG8 := gtrans hG4 hg8
    have hrg2 := own_ge hown4
    have hown8 := own_grown hown4 hg8 (fun x hx e => by cases e; have := hrg2 _ hx; omega)
    clear C7 hG4 hg8 hown4
    have hs8 := hG8.size
    cases b8
    · go_wp2
      go_ret
      exact ⟨_, L, rfl, NewR.of hown8 hLl hLN.out, ⟨m + 1, by omega, hc8⟩, hG8⟩
    · have C9 := (show Hid _ from term_any w8 c (m + 1) hc8 (by omega))
      clear hc8
      go_wp2_with fail
      refine Calls.mono C9.out ?_
      rintro e w9 ⟨v9, l9, rfl, hN9, hI9, ⟨n9, hn9, hc9⟩, hg9⟩
      have hG9 := gtrans hG8 hg9
      obtain ⟨a9, len9, cap9, rfl, hs9, _, hl9, hge9⟩ := hN9
      have HN9 : Hid (NewR w9 w.heap.size (.slice a9 len9 cap9) l9) := ⟨a9, len9, cap9, rfl, hs9, by omega, hI9, fun x hx => Nat.le_trans hs8 (hge9 x hx)⟩
      clear C9 hs9
      go_wp2
      go_ret
      exact ⟨_, l9, rfl, HN9.out, ⟨n9, by omega, hc9⟩, hG9⟩
end Go.Proofs.YtpjgjpjfchfmlaaGreatDoor
