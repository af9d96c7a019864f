/-
  PROVED HERE: what the model's comparing of nodes answers, at every two nodes. No other condition. what the model's l6Find and l6Put answer, at every graph of at most a thousand nodes. No other condition. what the model's l6Put answers, at every good graph of at most nine hundred nodes in memory of its own. No other condition.
-/
import Derived.Test.YtobgkfpjokfbaaaGreatDoorRun12
import Derived.Test.YtobgkfpjokfbaaaGreatDoorRun11
namespace Go.Proofs.YtobgkfpjokfbaaaGreatDoor
open Go.ChangeShapes Go.WideShapes Go.ChangeAt Go.RowKit
set_option linter.unusedVariables false

theorem spSame_any (a b : Option Addr) (len cap len' cap' : Nat) (l m : List Int) (w : World) (h : Sl w a len l) (h' : Sl w b len' m) (hm : len ≤ 9223372036854775807) :
    Calls Tryz.prog 93 #[.slice a len cap, .slice b len' cap'] w fun e w' => e = .returned (.bool (decide (l = m))) ∧ ∃ n, w' = w.drewN n := by
  have hll := h.1
  have hml := h'.1
  by_cases hlen : len = len'
  · subst hlen
    have hne : ((len : Int) != len) = false := by simp
    go_enter Tryz.func93, Tryz.ntmps93
    go_wp2_with fail
    go_loopw [13] (fun i wr => ∃ k : Nat, k ≤ len ∧ i = .int .i64 k ∧ (∃ n, wr = w.drewN n) ∧ Hid (∀ j, j < k → l.getD j 0 = m.getD j 0)) (fun i _ => len - (intOf i).toNat)
    case atStart => exact ⟨0, Nat.zero_le _, rfl, ⟨0, rfl⟩, fun j hj => absurd hj (Nat.not_lt_zero _)⟩
    case round =>
      obtain ⟨k, hk, rfl, hdr, hT⟩ := hrel
      have hbr : Below w.heap.size w wr := by obtain ⟨n, rfl⟩ := hdr; exact Go.below_drewN (Below.refl _ _) n
      have HD := (show Hid _ from hdr)
      clear hdr
      by_cases hlt : k < len
      · obtain ⟨b1, off, rfl, hc⟩ := cells_of (h.keep hbr) (by omega)
        obtain ⟨b2, off', rfl, hc'⟩ := cells_of (h'.keep hbr) (by omega)
        have ck := hc k hlt
        have ck' := hc' k hlt
        have hlt' : (k : Int) < len := by omega
        have HE : Hid (l.getD k 0 ≠ m.getD k 0 → decide (l = m) = false) := fun hne => decide_eq_false (fun e => hne (by rw [e]))
        have HS : Hid (l.getD k 0 = m.getD k 0 → ∀ j, j < k + 1 → l.getD j 0 = m.getD j 0) := fun e j hj => by
          by_cases e1 : j = k
          · rw [e1]; exact e
          · exact hT.out j (by omega)
        clear hc hc' hT h h'
        generalize l.getD k 0 = x at ck HE HS
        generalize m.getD k 0 = y at ck' HE HS
        by_cases e : x = y
        · subst e
          have HR := (show Hid _ from HS.out rfl)
          have hxx : (x != x) = false := by simp
          clear HE HS
          go_wp2_with fail
          go_quiet (fail)
          go_wp2
          go_roundw
          case rel => exact ⟨k + 1, by omega, by go_num, by obtain ⟨n, rfl⟩ := HD.out; exact ⟨_, World.drewN_drewN ..⟩, HR⟩
          case measure => simp [intOf]; omega
        · have HV : Hid (decide (l = m) = false) := HE.out e
          have hxy : (x != y) = true := by simpa using e
          clear HE HS
          go_wp2_with fail
          go_quiet (fail)
          go_wp2
          go_ret
          exact ⟨by rw [HV.out] <;> rfl, by obtain ⟨n, rfl⟩ := HD.out; exact ⟨_, World.drewN_drewN ..⟩⟩
      · obtain rfl : k = len := by omega
        have HV : Hid (decide (l = m) = true) := decide_eq_true (list_ext (by omega) fun j hj => hT.out j (by omega))
        clear hT
        go_wp2
        go_ret
        exact ⟨by rw [HV.out] <;> rfl, HD.out⟩
  · have hne : ((len : Int) != len') = true := by simp; omega
    rw [decide_eq_false (fun e => hlen (by rw [← hll, ← hml, e]))]
    go_enter Tryz.func93, Tryz.ntmps93
    go_wp2
    go_ret
    exact ⟨rfl, ⟨0, rfl⟩⟩
set_option maxHeartbeats 800000 in
theorem alike_any (x y : EN) (a b : Option Addr) (len cap len' cap' : Nat) (w : World) (h : Sl w a len x.2.2) (h' : Sl w b len' y.2.2) (hm : len ≤ 9223372036854775807) :
    Calls Tryz.prog 68 #[.agg #[.int .i64 x.1, .int .i64 x.2.1, .slice a len cap], .agg #[.int .i64 y.1, .int .i64 y.2.1, .slice b len' cap']] w fun e w' => e = .returned (.bool (decide (x = y))) ∧ Below w.heap.size w w' := by
  obtain ⟨xo, xn, xk⟩ := x
  obtain ⟨yo, yn, yk⟩ := y
  simp only at h h' ⊢
  obtain ⟨W1, hW1⟩ : ∃ W1, (w.alloc (.cells #[.int .i64 xo, .int .i64 xn, .slice a len cap] 80)).alloc (.cells #[.int .i64 yo, .int .i64 yn, .slice b len' cap'] 80) = W1 := ⟨_, rfl⟩
  have hb1 : Below w.heap.size w W1 := by rw [← hW1]; exact ((Below.refl _ _).alloc (Nat.le_refl _) _).alloc (by simp) _
  have n0 : W1.cell? ⟨w.heap.size, 0, none⟩ = some (.int .i64 xo) := by rw [← hW1]; simp [go_sem]
  have n1 : W1.cell? ⟨w.heap.size, 1, none⟩ = some (.int .i64 xn) := by rw [← hW1]; simp [go_sem]
  have n2 : W1.cell? ⟨w.heap.size, 2, none⟩ = some (.slice a len cap) := by rw [← hW1]; simp [go_sem]
  have m0 : W1.cell? ⟨w.heap.size + 1, 0, none⟩ = some (.int .i64 yo) := by rw [← hW1]; simp [go_sem]
  have m1 : W1.cell? ⟨w.heap.size + 1, 1, none⟩ = some (.int .i64 yn) := by rw [← hW1]; simp [go_sem]
  have m2 : W1.cell? ⟨w.heap.size + 1, 2, none⟩ = some (.slice b len' cap') := by rw [← hW1]; simp [go_sem]
  have HS := (show Hid _ from spSame_any a b len cap len' cap' xk yk W1 (h.keep hb1) (h'.keep hb1) hm)
  have HB := (show Hid _ from hb1)
  clear h h' hb1
  by_cases e1 : xo = yo
  · by_cases e2 : xn = yn
    · have ev : decide ((xo, xn, xk) = (yo, yn, yk)) = decide (xk = yk) := by simp [e1, e2]
      rw [ev]
      subst e1 e2
      generalize decide (xk = yk) = B at HS
      have q1 : (xo == xo) = true := by simp
      have q2 : (xn == xn) = true := by simp
      clear ev
      go_enter Tryz.func68, Tryz.ntmps68
      go_wp2_with fail
      (try rw [hW1])
      refine Calls.mono HS.out ?_
      rintro e w2 ⟨rfl, n, rfl⟩
      clear hW1 HS
      go_wp2
      go_ret
      exact ⟨rfl, below_drewN HB.out _⟩
    · have ev : decide ((xo, xn, xk) = (yo, yn, yk)) = false := by simp [e2]
      rw [ev]
      have q1 : (xo == yo) = true := by simpa using e1
      have q2 : (xn == yn) = false := by simpa using e2
      clear ev HS e1 e2
      go_enter Tryz.func68, Tryz.ntmps68
      go_wp2
      (try rw [hW1])
      go_ret
      exact ⟨rfl, HB.out⟩
  · have ev : decide ((xo, xn, xk) = (yo, yn, yk)) = false := by simp [e1]
    rw [ev]
    have q1 : (xo == yo) = false := by simpa using e1
    clear ev HS e1
    go_enter Tryz.func68, Tryz.ntmps68
    go_wp2
    (try rw [hW1])
    go_ret
    exact ⟨rfl, HB.out⟩
end Go.Proofs.YtobgkfpjokfbaaaGreatDoor
namespace Go.Proofs.YtobgkfpjokfbaaaGreatDoor
open Go.ChangeShapes Go.WideShapes Go.ChangeAt Go.RowKit
set_option linter.unusedVariables false

/-- What is found, -1 for nothing. -/
def foundI (o : Option Int) : Int := o.getD (-1)
set_option maxHeartbeats 1600000 in
theorem l6Find_any (a b : Option Addr) (len cap lb cb : Nat) (p : List EN) (l : List Int) (x : EN) (ka : Option Addr) (kc : Nat) (w : World) (h : ESl w a len p) (hl : Sl w b lb l) (hk : Sl w ka x.2.2.length x.2.2) (hm : len ≤ 1000) (hlb : len ≤ lb) :
    Calls Tryz.prog 108 #[.agg #[.slice a len cap, .slice b lb cb], .agg #[.int .i64 x.1, .int .i64 x.2.1, .slice ka x.2.2.length kc]] w fun e w' => e = .returned (.int .i64 (foundI (findL p l x))) ∧ Below w.heap.size w w' := by
  obtain ⟨xo, xn, xk⟩ := x
  simp only at hk ⊢
  have hll := h.1
  have hl1 := hl.1
  obtain ⟨W1, hW1⟩ : ∃ W1, (w.alloc (.cells #[.slice a len cap, .slice b lb cb] 36)).alloc (.cells #[.int .i64 xo, .int .i64 xn, .slice ka xk.length kc] 80) = W1 := ⟨_, rfl⟩
  have hb1 : Below w.heap.size w W1 := by rw [← hW1]; exact ((Below.refl _ _).alloc (Nat.le_refl _) _).alloc (by simp) _
  have n0 : W1.cell? ⟨w.heap.size, 0, none⟩ = some (.slice a len cap) := by rw [← hW1]; simp [go_sem]
  have n1 : W1.cell? ⟨w.heap.size, 1, none⟩ = some (.slice b lb cb) := by rw [← hW1]; simp [go_sem]
  have m0 : W1.cell? ⟨w.heap.size + 1, 0, none⟩ = some (.int .i64 xo) := by rw [← hW1]; simp [go_sem]
  have m1 : W1.cell? ⟨w.heap.size + 1, 1, none⟩ = some (.int .i64 xn) := by rw [← hW1]; simp [go_sem]
  have m2 : W1.cell? ⟨w.heap.size + 1, 2, none⟩ = some (.slice ka xk.length kc) := by rw [← hW1]; simp [go_sem]
  have hs1 : W1.heap.size = w.heap.size + 2 := by rw [← hW1]; simp
  have HE : Hid (ESl W1 a len p ∧ Sl W1 b lb l ∧ Sl W1 ka xk.length xk ∧ Below w.heap.size w W1) := ⟨h.keep hb1, hl.keep hb1, hk.keep hb1, hb1⟩
  have L0 : w.heap.size < W1.heap.size := by omega
  have L1 : w.heap.size + 1 < W1.heap.size := by omega
  clear h hl hk hb1 hs1
  go_enter Tryz.func108, Tryz.ntmps108
  go_wp2_with fail
  (try rw [hW1])
  go_loopw [10] (fun i wr => ∃ k : Nat, k ≤ len ∧ i = .int .i64 k ∧ Below W1.heap.size W1 wr ∧ Hid (∀ j, j < k → p.getD j e0 ≠ (xo, xn, xk))) (fun i _ => len - (intOf i).toNat)
  case atStart => exact ⟨0, Nat.zero_le _, rfl, Below.refl _ _, fun j hj => absurd hj (Nat.not_lt_zero _)⟩
  case round =>
    obtain ⟨k, hk, rfl, hbr, hT⟩ := hrel
    obtain ⟨wo, rfl⟩ : ∃ x, x = wr := ⟨_, rfl⟩
    clear hW1
    by_cases hlt : k < len
    · obtain ⟨bn, on, rfl, hbl, hc⟩ := (HE.out.1.keep hbr).at (by omega)
      obtain ⟨ai, li, ci, c1, c2, c3, hli, hci, hS⟩ := hc k hlt
      obtain ⟨bp, op, rfl, hpl, hcp⟩ : ∃ b' off, b = some ⟨b', off, none⟩ ∧ b' < wo.heap.size ∧ ∀ i, i < lb → wo.cell? ⟨b', off + i, none⟩ = some (.int .i64 (l.getD i 0)) := by
        rcases (HE.out.2.1.keep hbr).2 with h0 | h0
        · omega
        · exact h0
      obtain ⟨y, hy⟩ : ∃ y, p.getD k e0 = y := ⟨_, rfl⟩
      have HY := (show Hid _ from hy)
      obtain ⟨yo, yn, yk⟩ := y
      rw [hy] at c1 c2 hS
      simp only at c1 c2 hS
      have hsz : ¬ bn = wo.heap.size := by omega
      have hkl : (k : Int) < len := by omega
      have hkb : (k : Int) < lb := by omega
      obtain ⟨W2, hW2⟩ : ∃ W2, wo.alloc (.cells #[.int .i64 yo, .int .i64 yn, .slice ai li ci] 80) = W2 := ⟨_, rfl⟩
      have hb2 : Below wo.heap.size wo W2 := by rw [← hW2]; exact (Below.refl _ _).alloc (Nat.le_refl _) _
      have hs2 : wo.heap.size < W2.heap.size := by rw [← hW2]; simp
      have o0 : W2.cell? ⟨wo.heap.size, 0, none⟩ = some (.int .i64 yo) := by rw [← hW2]; simp [go_sem]
      have o1 : W2.cell? ⟨wo.heap.size, 1, none⟩ = some (.int .i64 yn) := by rw [← hW2]; simp [go_sem]
      have o2 : W2.cell? ⟨wo.heap.size, 2, none⟩ = some (.slice ai li ci) := by rw [← hW2]; simp [go_sem]
      have hB2 : Below W1.heap.size W1 W2 := hbr.trans (hb2.mono hbr.size)
      have q0 := (hB2.cell (p := ⟨w.heap.size + 1, 0, none⟩) L1).trans m0
      have q1 := (hB2.cell (p := ⟨w.heap.size + 1, 1, none⟩) L1).trans m1
      have q2 := (hB2.cell (p := ⟨w.heap.size + 1, 2, none⟩) L1).trans m2
      have HA : Hid (Calls Tryz.prog 68 #[.agg #[.int .i64 yo, .int .i64 yn, .slice ai li ci], .agg #[.int .i64 xo, .int .i64 xn, .slice ka xk.length kc]] W2 fun e w' => e = .returned (.bool (decide (p.getD k e0 = (xo, xn, xk)))) ∧ Below W2.heap.size W2 w') := by
        have := alike_any (yo, yn, yk) (xo, xn, xk) ai ka li ci xk.length kc W2 (hS.keep hb2) ((HE.out.2.2.1.keep hbr).keep hb2) (by omega)
        simp only at this
        rw [hy]; exact this
      have HB : Hid (∀ W, Below W2.heap.size W2 W → Below w.heap.size w W ∧ Below W1.heap.size W1 W ∧ W.cell? ⟨w.heap.size, 1, none⟩ = some (.slice (some ⟨bp, op, none⟩) lb cb) ∧ W.cell? ⟨bp, op + k, none⟩ = some (.int .i64 (l.getD k 0))) := fun W hW => by
        have hx : Below W1.heap.size W1 W := hB2.trans (hW.mono hB2.size)
        have hy' : Below wo.heap.size wo W := hb2.trans (hW.mono hb2.size)
        exact ⟨HE.out.2.2.2.trans (hx.mono HE.out.2.2.2.size), hx, (hx.cell (p := ⟨w.heap.size, 1, none⟩) L0).trans n1, (hy'.cell (p := ⟨bp, op + k, none⟩) hpl).trans (hcp k (by omega))⟩
      have HV : Hid (p.getD k e0 = (xo, xn, xk) → foundI (findL p l (xo, xn, xk)) = l.getD k 0) := fun e => by rw [findL_at (by omega) e hT.out]; rfl
      have HR : Hid (p.getD k e0 ≠ (xo, xn, xk) → ∀ j, j < k + 1 → p.getD j e0 ≠ (xo, xn, xk)) := fun e j hj => by
        by_cases e1 : j = k
        · rw [e1]; exact e
        · exact hT.out j (by omega)
      clear hT hc hcp hS hb2 hbr hy hB2
      by_cases e : p.getD k e0 = (xo, xn, xk)
      · rw [decide_eq_true e] at HA
        have hv := HV.out e
        have HV2 := (show Hid _ from hv)
        clear HR HV e hv HY
        obtain ⟨z, hz⟩ : ∃ z, l.getD k 0 = z := ⟨_, rfl⟩
        rw [hz] at HB HV2
        clear hz
        go_wp2_with fail
        (try rw [hW2])
        refine Calls.mono HA.out ?_
        rintro r w3 ⟨rfl, hb3⟩
        obtain ⟨t1, t2, t3, t4⟩ := HB.out w3 hb3
        have HT1 := (show Hid _ from t1)
        clear HA HB hb3 t1 t2 hW2
        go_wp2
        go_ret
        exact ⟨by rw [HV2.out] <;> rfl, HT1.out⟩
      · rw [decide_eq_false e] at HA
        have HR2 := (show Hid _ from HR.out e)
        clear HR HV e HY
        go_wp2_with fail
        (try rw [hW2])
        refine Calls.mono HA.out ?_
        rintro r w3 ⟨rfl, hb3⟩
        obtain ⟨t1, t2, t3, t4⟩ := HB.out w3 hb3
        have HT2 := (show Hid _ from t2)
        clear HA HB hb3 t1 t2 t3 t4 hW2
        go_wp2
        go_roundw
        case rel => exact ⟨k + 1, by omega, by go_num, HT2.out, HR2⟩
        case measure => simp [intOf]; omega
    · obtain rfl : k = len := by omega
      have HV : Hid (foundI (findL p l (xo, xn, xk)) = -1) := by show _ = _; rw [findL_no (fun j hj => hT.out j (by omega))]; rfl
      have HB : Hid (Below w.heap.size w wo) := HE.out.2.2.2.trans (hbr.mono HE.out.2.2.2.size)
      clear hT
      go_wp2
      go_ret
      exact ⟨by rw [HV.out] <;> rfl, HB.out⟩
theorem kid_slice {w : World} {s : Bool} {S : Nat → Prop} {v : Value} {kids : List Int} (h : KidAt w s S v kids) : ∃ a c, v = .slice a kids.length c ∧ Sl w a kids.length kids := by
  obtain ⟨a, c, h1, _, _, h2, _⟩ := h
  exact ⟨a, c, h1, h2⟩
theorem found_no {g : GS} (h : GoodG g) {x : EN} {v : Int} (hf : findL g.1 g.2 x = some v) : 0 ≤ v := by
  obtain ⟨k, h1, _, h3, _⟩ := findL_some hf
  have := h.2.2.1 k (by have := h.2.1; omega)
  omega
theorem cell_new3 (w : World) (x y z : Value) (t : TypeId) : ∀ j u, [x, y, z][j]? = some u → (w.alloc (.cells #[x, y, z] t)).cell? ((⟨w.heap.size, 0, none⟩ : Addr).add j) = some u := by
  intro j u hj
  match j, hj with
  | 0, hj => simp at hj; subst hj; simp [Addr.add]
  | 1, hj => simp at hj; subst hj; simp [Addr.add]
  | 2, hj => simp at hj; subst hj; simp [Addr.add]
theorem one_cell3 (x y : Int) (a : Option Addr) (n c : Nat) : ∀ u ∈ [Value.int .i64 x, .int .i64 y, .slice a n c], u.oneCell' = true := by
  intro u hu
  simp only [List.mem_cons, List.mem_nil_iff, or_false] at hu
  rcases hu with rfl | rfl | rfl <;> rfl
end Go.Proofs.YtobgkfpjokfbaaaGreatDoor
namespace Go.Proofs.YtobgkfpjokfbaaaGreatDoor
open Go.ChangeShapes Go.WideShapes Go.ChangeAt Go.RowKit
set_option linter.unusedVariables false

theorem setCell_size (w : World) (q : Addr) (v : Value) : (w.setCell q v).heap.size = w.heap.size := by simp [World.setCell]
theorem setCell_block (w : World) (q : Addr) (v : Value) {b : Nat} (h : q.block ≠ b) : (w.setCell q v).heap[b]? = w.heap[b]? := by simp [World.setCell, Array.getElem?_modify, h]
/-- A node is laid beside the graph, behind a store elsewhere. -/
theorem put5 {S T : Nat → Prop} {w w4 : World} {va vb v1 : Value} {g : GS} {q : Addr} {o : Obj} (h : GOwn w4 false T va vb g) (hk : KB S w w4) (hq : w.heap.size ≤ q.block) (hT : ¬ T q.block) : GOwn ((w4.setCell q v1).alloc o) false T va vb g ∧ KB S w ((w4.setCell q v1).alloc o) ∧ ((w4.setCell q v1).alloc o).heap.size = w4.heap.size + 1 :=
  ⟨(h.map (by rw [setCell_size]; exact Nat.le_refl _) (fun b hb hl => setCell_block _ _ _ (fun e => hT (by rw [e]; exact hb))) (fun _ _ h => h)).keep ((Below.refl _ _).alloc (Nat.le_refl _) _), (hk.setCell (fun h => absurd h (by omega)) _).trans (T := fun _ => False) (KB.of ((Below.refl _ _).alloc (Nat.le_refl _) _)) (fun _ _ h => h.elim), by simp [World.setCell]⟩
theorem new5 (w : World) (q : Addr) (v x y z : Value) (t : TypeId) : ∀ j u, [x, y, z][j]? = some u → ((w.setCell q v).alloc (.cells #[x, y, z] t)).cell? ((⟨w.heap.size, 0, none⟩ : Addr).add j) = some u := by
  have := cell_new3 (w.setCell q v) x y z t
  rwa [setCell_size] at this
/-- What is old stays so, behind a row that grew. -/
theorem old6 {w4 w6 : World} {q q1 : Addr} {v1 : Value} {o : Obj} {r : Option Nat} (hg : ((w4.setCell q1 v1).alloc o).grownBy w6 r) (hq : q.block < w4.heap.size) (hr : ∀ y, r = some y → y ≠ q.block) : w6.cell? q = (w4.setCell q1 v1).cell? q ∧ w6.frozen? q = (w4.setCell q1 v1).frozen? q := by
  have hbk : w6.heap[q.block]? = (w4.setCell q1 v1).heap[q.block]? := (hg.block q.block (by simp [World.setCell]; omega) (fun e => hr _ e.symm rfl)).trans ((World.grownBy_alloc _ _ none).block q.block (by rw [setCell_size]; exact hq) (by simp))
  exact ⟨World.cell?_of_block hbk, World.frozen?_of_block hbk⟩
set_option maxHeartbeats 3200000 in
set_option maxRecDepth 20000 in
theorem l6Put_any (va vb kn : Value) (g : GS) (x : EN) (S : Nat → Prop) (w : World) (hG : GOwn w false S va vb g) (hg : GoodG g) (hk : KidAt w false (fun b => ¬ S b) kn x.2.2) (hm : g.1.length ≤ 900) :
    Calls Tryz.prog 96 #[.agg #[va, vb], .agg #[.int .i64 x.1, .int .i64 x.2.1, kn]] w fun e w' => ∃ va' vb', e = .returned (.tuple #[.agg #[va', vb'], .int .i64 (putL g x).2]) ∧ GOwn w' false (fun b => S b ∨ w.heap.size ≤ b ∨ kn.ownBlock = some b) va' vb' (putL g x).1 ∧ KB S w w' := by
  obtain ⟨p, l⟩ := g
  obtain ⟨i0, hi, hz0, hz1, hz2⟩ := info_parts infoInt
  obtain ⟨j0, hj, jz0, jz1, jz2⟩ := info_parts infoENode
  obtain ⟨a, ca, b, cb, hva, hvb, hE, hL⟩ := hG.reads
  obtain ⟨⟨xs, hra⟩, hrb, hSa, hSb⟩ := hG.row
  obtain ⟨ka, kc, hkn, hks⟩ := kid_slice hk
  simp only at hva hvb hE hL hra hrb hm
  subst hva
  subst hvb
  subst hkn
  have hlen := hg.2.1
  simp only at hlen
  obtain ⟨W1, hW1⟩ : ∃ W1, ((w.alloc (.cells #[(.slice a p.length ca), (.slice b l.length cb)] 36)).alloc (.cells #[.int .i64 x.1, .int .i64 x.2.1, (.slice ka x.2.2.length kc)] 80)).alloc (.cells #[.slice none 0 0, .slice none 0 0] 36) = W1 := ⟨_, rfl⟩
  have hb1 : Below w.heap.size w W1 := by rw [← hW1]; exact (((Below.refl _ _).alloc (Nat.le_refl _) _).alloc (by simp) _).alloc (by simp; omega) _
  have hs1 : W1.heap.size = w.heap.size + 3 := by rw [← hW1]; simp
  have n0 : W1.cell? ⟨w.heap.size, 0, none⟩ = some (.slice a p.length ca) := by rw [← hW1]; simp [go_sem]
  have n1 : W1.cell? ⟨w.heap.size, 1, none⟩ = some (.slice b l.length cb) := by rw [← hW1]; simp [go_sem]
  have m0 : W1.cell? ⟨w.heap.size + 1, 0, none⟩ = some (.int .i64 x.1) := by rw [← hW1]; simp [go_sem]
  have m1 : W1.cell? ⟨w.heap.size + 1, 1, none⟩ = some (.int .i64 x.2.1) := by rw [← hW1]; simp [go_sem]
  have m2 : W1.cell? ⟨w.heap.size + 1, 2, none⟩ = some (.slice ka x.2.2.length kc) := by rw [← hW1]; simp [go_sem]
  have r0 : W1.cell? ⟨w.heap.size + 1 + 1, 0, none⟩ = some (.slice none 0 0) := by rw [← hW1]; simp [go_sem]
  have r1 : W1.cell? ⟨w.heap.size + 1 + 1, 1, none⟩ = some (.slice none 0 0) := by rw [← hW1]; simp [go_sem]
  have f0 : W1.frozen? ⟨w.heap.size, 0, none⟩ = false := by rw [← hW1]; simp [go_sem]
  have f1 : W1.frozen? ⟨w.heap.size, 1, none⟩ = false := by rw [← hW1]; simp [go_sem]
  have f2 : W1.frozen? ⟨w.heap.size + 1 + 1, 0, none⟩ = false := by rw [← hW1]; simp [go_sem]
  have f3 : W1.frozen? ⟨w.heap.size + 1 + 1, 1, none⟩ = false := by rw [← hW1]; simp [go_sem]
  have HF := (show Hid _ from l6Find_any a b p.length ca l.length cb p l x ka kc W1 (hE.keep hb1) (hL.keep hb1) (hks.keep hb1) (by omega) (by omega))
  have HG1 : Hid (GOwn W1 false S (.slice a p.length ca) (.slice b l.length cb) (p, l) ∧ Below w.heap.size w W1 ∧ KidAt W1 false (fun b => ¬ S b) (.slice ka x.2.2.length kc) x.2.2) := ⟨hG.keep hb1, hb1, hk.map hb1.size (fun y _ hl => hb1.block y hl) (fun _ _ _ hy => hy)⟩
  have HLn : Hid (l.length = p.length ∧ W1.heap.size = w.heap.size + 3) := ⟨hlen, hs1⟩
  have HFr : Hid (∀ W (q : Addr), Below W1.heap.size W1 W → w.heap.size ≤ q.block → q.block < w.heap.size + 3 → W.cell? q = W1.cell? q ∧ W.frozen? q = W1.frozen? q) := fun W q hW h1 h2 => ⟨hW.cell (by omega), hW.frozen (by omega)⟩
  cases hf : findL p l x with
  | some v =>
    have hv : 0 ≤ v := found_no hg hf
    have hput : putL (p, l) x = ((p, l), v) := putL_some hf
    rw [hput]
    rw [hf] at HF
    simp only [foundI, Option.getD_some] at HF
    have HR : Hid (∀ W, Below W1.heap.size W1 W → GOwn ((W.setCell ⟨w.heap.size + 1 + 1, 0, none⟩ (.slice a p.length ca)).setCell ⟨w.heap.size + 1 + 1, 1, none⟩ (.slice b l.length cb)) false (fun b => S b ∨ w.heap.size ≤ b ∨ (Value.slice ka x.2.2.length kc).ownBlock = some b) (.slice a p.length ca) (.slice b l.length cb) (p, l) ∧ KB S w ((W.setCell ⟨w.heap.size + 1 + 1, 0, none⟩ (.slice a p.length ca)).setCell ⟨w.heap.size + 1 + 1, 1, none⟩ (.slice b l.length cb))) := fun W hW => by
      have hB : Below w.heap.size w ((W.setCell ⟨w.heap.size + 1 + 1, 0, none⟩ (.slice a p.length ca)).setCell ⟨w.heap.size + 1 + 1, 1, none⟩ (.slice b l.length cb)) := ((hb1.trans (hW.mono hb1.size)).setCell (by show w.heap.size ≤ w.heap.size + 1 + 1; omega) _).setCell (by show w.heap.size ≤ w.heap.size + 1 + 1; omega) _
      exact ⟨(hG.keep hB).sets (fun b _ h => .inl h), KB.of hB⟩
    have lt0 : w.heap.size < W1.heap.size := by omega
    have lt2 : w.heap.size + 1 + 1 < W1.heap.size := by omega
    clear hG hE hL hra hrb hk hks hb1 hf hg HG1 hput hlen hs1
    go_enter Tryz.func96, Tryz.ntmps96
    go_wp2_with fail
    (try rw [hW1])
    refine Calls.mono HF.out ?_
    rintro e w2 ⟨rfl, hb2⟩
    have q0 := (hb2.cell (p := ⟨w.heap.size, 0, none⟩) lt0).trans n0
    have q1 := (hb2.cell (p := ⟨w.heap.size, 1, none⟩) lt0).trans n1
    have t0 := (hb2.cell (p := ⟨w.heap.size + 1 + 1, 0, none⟩) lt2).trans r0
    have t1 := (hb2.cell (p := ⟨w.heap.size + 1 + 1, 1, none⟩) lt2).trans r1
    have u0 := (hb2.frozen (p := ⟨w.heap.size + 1 + 1, 0, none⟩) lt2).trans f2
    have u1 := (hb2.frozen (p := ⟨w.heap.size + 1 + 1, 1, none⟩) lt2).trans f3
    have HR2 := (show Hid _ from HR.out w2 hb2)
    clear HF hW1 HR hb2 n0 n1 m0 m1 m2 r0 r1 f0 f1 f2 f3 HFr
    go_wp2
    refine bodyPost_ret (v := .tuple #[.agg #[(.slice a p.length ca), (.slice b l.length cb)], .int .i64 v]) ?_ ?_ ?_
    · simp [results, Tryz.results96, go_sem, *]
    · rfl
    · exact ⟨(.slice a p.length ca), (.slice b l.length cb), rfl, HR2.out.1, HR2.out.2⟩
  | none =>
    have hput : putL (p, l) x = ((p ++ [x], l ++ [(p.length : Int)]), (p.length : Int)) := putL_none hf
    rw [hput]
    rw [hf] at HF
    simp only [foundI, Option.getD_none] at HF
    have HLb : Hid (∀ y, (Value.slice b l.length cb).ownBlock = some y → y < w.heap.size) := fun y hy => (hrb.lt y hy).2
    have HLa : Hid (∀ y, (Value.slice a p.length ca).ownBlock = some y → y < w.heap.size) := fun y hy => (hra.lt y hy).2
    have HLk : Hid (∀ y, (Value.slice ka x.2.2.length kc).ownBlock = some y → y < w.heap.size ∧ ¬ S y) := fun y hy => by
      obtain ⟨_, _, _, _, _, _, h3, _⟩ := hk
      exact ⟨(h3 y hy).2, (h3 y hy).1⟩
    have HS := (show Hid _ from And.intro hSa hSb)
    have hlb : l.length ≤ 900 := by omega
    have HG0 : Hid (GOwn w false (fun b => S b ∧ b < w.heap.size) (.slice a p.length ca) (.slice b l.length cb) (p, l) ∧ KidAt w false (fun b => ¬ S b) (.slice ka x.2.2.length kc) x.2.2) := ⟨hG.sets (fun b hb h => ⟨h, hb⟩), hk⟩
    have HB1 := (show Hid _ from hb1)
    clear hG hE hL hra hrb hk hks hb1 hf hg hput hSa hSb HG1 HFr hlen hs1
    go_enter Tryz.func96, Tryz.ntmps96
    go_wp2_with fail
    (try rw [hW1])
    refine Calls.mono HF.out ?_
    rintro e w2 ⟨rfl, hb2⟩
    have hs2 := hb2.size
    have hs1 := HLn.out.2
    have q0 := (hb2.cell (p := ⟨w.heap.size, 0, none⟩) (by show w.heap.size < _; omega)).trans n0
    have q1 := (hb2.cell (p := ⟨w.heap.size, 1, none⟩) (by show w.heap.size < _; omega)).trans n1
    have hB2 : Below w.heap.size w w2 := HB1.out.trans (hb2.mono HB1.out.size)
    have g2 : GOwn (w2.alloc (.cells #[.int .i64 (p.length : Int)] 3)) false (fun b => S b ∧ b < w.heap.size) (.slice a p.length ca) (.slice b l.length cb) (p, l) := (HG0.out.1.keep hB2).keep ((Below.refl _ _).alloc (Nat.le_refl _) _)
    have hrb2 := g2.row.2.1
    have hsz2 : (w2.alloc (.cells #[.int .i64 (p.length : Int)] 3)).heap.size = w2.heap.size + 1 := by simp
    have HG2 := (show Hid _ from And.intro g2 hB2)
    have HFr2 : Hid (∀ w4 (q : Addr), (w2.alloc (.cells #[.int .i64 (p.length : Int)] 3)).grownBy w4 (Value.slice b l.length cb).ownBlock → w.heap.size ≤ q.block → q.block < w.heap.size + 3 → w4.cell? q = W1.cell? q ∧ w4.frozen? q = W1.frozen? q) := fun w4 q hg4 h1 h2 => by
      have hne : some q.block ≠ (Value.slice b l.length cb).ownBlock := fun e => by have := HLb.out q.block e.symm; omega
      have hbk : w4.heap[q.block]? = w2.heap[q.block]? := (hg4.block q.block (by simp; omega) hne).trans ((World.grownBy_alloc w2 _ none).block q.block (by omega) (by simp))
      exact ⟨(World.cell?_of_block hbk).trans (hb2.cell (by omega)), (World.frozen?_of_block hbk).trans (hb2.frozen (by omega))⟩
    have HN := (show Hid _ from And.intro n0 (And.intro n1 (And.intro m0 (And.intro m1 (And.intro m2 (And.intro r0 (And.intro r1 (And.intro f0 (And.intro f1 (And.intro f2 f3))))))))))
    have HSz2 := (show Hid _ from hsz2)
    have HSz : Hid (w.heap.size + 3 ≤ w2.heap.size) := by show _ ≤ _; omega
    clear HF hW1 g2 hB2 hb2 hs2 hs1 hsz2 n0 n1 m0 m1 m2 r0 r1 f0 f1 f2 f3
    go_wp2_with (first
      | (at_builtin
         refine wpList_append_own_at _ rfl _ _ 23 rfl 0 3 i0 (.int .i64 0) 1 8 Tryz.underlying23 hi hz0 hz1 hz2 rfl (by decide) _ _ _ rfl hrb2 ⟨w2.heap.size, 0, none⟩ 1 1 [_] rfl rfl (cell_new1 _ _ _ _) (one_cell1 _ _) (by unfold maxLen; omega) (by omega) (Nat.zero_le _) ?_
         intro vb' w4 hown4 hg4 _ hat4
         obtain ⟨b4, cb4, rfl, _⟩ := row_slice hown4
         have HX4 : Hid (GOwn w4 false (fun b => (S b ∧ b < w.heap.size) ∨ w2.heap.size ≤ b) (.slice a p.length ca) (.slice b4 (l.length + 1) cb4) (p, l ++ [(p.length : Int)]) ∧ KB S w w4 ∧ w2.heap.size ≤ w4.heap.size) := by
           refine ⟨(HG2.out.1.addPart hown4 hg4 hat4).sets (fun b hb h => ?_), ?_, ?_⟩
           · rcases h with h | h
             · exact .inl h
             · right; rw [HSz2.out] at h; omega
           · exact ((KB.of HG2.out.2).trans (T := fun _ => False) (KB.of ((Below.refl _ _).alloc (Nat.le_refl _) _)) (fun _ _ h => h.elim)).grown hg4 (fun y hy _ => HS.out.2 y hy)
           · have := hg4.size; rw [HSz2.out] at this; omega
         obtain ⟨n0, n1, m0, m1, m2, r0, r1, f0, f1, f2, f3⟩ := HN.out
         have e0 := (HFr2.out w4 ⟨w.heap.size, 0, none⟩ hg4 (by show w.heap.size ≤ w.heap.size; omega) (by show w.heap.size < _; omega)).1.trans n0
         have e1 := (HFr2.out w4 ⟨w.heap.size, 1, none⟩ hg4 (by show w.heap.size ≤ w.heap.size; omega) (by show w.heap.size < _; omega)).1.trans n1
         have e2 := (HFr2.out w4 ⟨w.heap.size + 1, 0, none⟩ hg4 (by show w.heap.size ≤ w.heap.size + 1; omega) (by show w.heap.size + 1 < _; omega)).1.trans m0
         have e3 := (HFr2.out w4 ⟨w.heap.size + 1, 1, none⟩ hg4 (by show w.heap.size ≤ w.heap.size + 1; omega) (by show w.heap.size + 1 < _; omega)).1.trans m1
         have e4 := (HFr2.out w4 ⟨w.heap.size + 1, 2, none⟩ hg4 (by show w.heap.size ≤ w.heap.size + 1; omega) (by show w.heap.size + 1 < _; omega)).1.trans m2
         have e5 := (HFr2.out w4 ⟨w.heap.size + 1 + 1, 0, none⟩ hg4 (by show w.heap.size ≤ w.heap.size + 1 + 1; omega) (by show w.heap.size + 1 + 1 < _; omega)).1.trans r0
         have e6 := (HFr2.out w4 ⟨w.heap.size + 1 + 1, 1, none⟩ hg4 (by show w.heap.size ≤ w.heap.size + 1 + 1; omega) (by show w.heap.size + 1 + 1 < _; omega)).1.trans r1
         have h0 := (HFr2.out w4 ⟨w.heap.size, 0, none⟩ hg4 (by show w.heap.size ≤ w.heap.size; omega) (by show w.heap.size < _; omega)).2.trans f0
         have h1 := (HFr2.out w4 ⟨w.heap.size, 1, none⟩ hg4 (by show w.heap.size ≤ w.heap.size; omega) (by show w.heap.size < _; omega)).2.trans f1
         have h2 := (HFr2.out w4 ⟨w.heap.size + 1 + 1, 0, none⟩ hg4 (by show w.heap.size ≤ w.heap.size + 1 + 1; omega) (by show w.heap.size + 1 + 1 < _; omega)).2.trans f2
         have h3 := (HFr2.out w4 ⟨w.heap.size + 1 + 1, 1, none⟩ hg4 (by show w.heap.size ≤ w.heap.size + 1 + 1; omega) (by show w.heap.size + 1 + 1 < _; omega)).2.trans f3
         clear hown4 hg4 hat4 q0 q1 hrb2 HG2 HFr2 HN n0 n1 m0 m1 m2 r0 r1 f0 f1 f2 f3)
      | (at_builtin
         obtain ⟨x5, y5, z5⟩ := put5 (q := ⟨w.heap.size, 1, none⟩) (v1 := .slice b4 (l.length + 1) cb4) (o := .cells #[.int .i64 x.1, .int .i64 x.2.1, .slice ka x.2.2.length kc] 80) HX4.out.1 HX4.out.2.1 (by show w.heap.size ≤ w.heap.size; omega) (by have := HSz.out; show ¬ ((S w.heap.size ∧ w.heap.size < w.heap.size) ∨ w2.heap.size ≤ w.heap.size); omega)
         have HX5 := (show Hid _ from And.intro x5 y5)
         have HX5s := (show Hid _ from z5)
         obtain ⟨⟨xs5, hx5⟩, _, hsa5, _⟩ := x5.row
         simp only at hx5
         clear x5 y5 z5
         refine wpList_append_own_at _ rfl _ _ 34 rfl 0 80 j0 (.agg #[.int .i64 0, .int .i64 0, .slice none 0 0]) 3 40 Tryz.underlying34 hj jz0 jz1 jz2 rfl (by decide) _ _ _ rfl hx5 ⟨w4.heap.size, 0, none⟩ 1 1 [_, _, _] rfl rfl (new5 _ _ _ _ _ _ _) (one_cell3 _ _ _ _ _) (by unfold maxLen; omega) (by omega) (Nat.zero_le _) ?_
         intro va' w6 hown6 hg6 _ hat6
         obtain ⟨a6, ca6, rfl, _⟩ := row_slice hown6
         have HX6 : Hid (GOwn w6 false (fun b' => ((S b' ∧ b' < w.heap.size) ∨ w2.heap.size ≤ b') ∨ (Value.slice ka x.2.2.length kc).ownBlock = some b') (.slice a6 (p.length + 1) ca6) (.slice b4 (l.length + 1) cb4) (p ++ [x], l ++ [(p.length : Int)]) ∧ KB S w w6 ∧ w4.heap.size ≤ w6.heap.size) := by
           have hz := HSz.out
           have h5s := HX5s.out
           have h24 := HX4.out.2.2
           refine ⟨(HX5.out.1.addNode hx5 hown6 hg6 hat6 ?_).sets (fun b' hb' h => ?_), HX5.out.2.grown hg6 (fun y hy hl => ?_), ?_⟩
           · refine HG0.out.2.map (Nat.le_trans HX5.out.2.size (Nat.le_refl _)) (fun y hy hl => HX5.out.2.block y hl (HLk.out y hy).2) (fun y hy hl hn h => ?_)
             rcases h with h | h
             · exact hn h.1
             · omega
           · rcases h with h | h | h
             · exact .inl h
             · left; right; omega
             · exact .inr h
           · exact HS.out.1 y hy
           · have := hg6.size; omega
         have hz3 := HSz.out
         have h24 := HX4.out.2.2
         have HE5 : ∀ (q : Addr), w.heap.size ≤ q.block → q.block < w.heap.size + 3 → w6.cell? q = (w4.setCell ⟨w.heap.size, 1, none⟩ (.slice b4 (l.length + 1) cb4)).cell? q ∧ w6.frozen? q = (w4.setCell ⟨w.heap.size, 1, none⟩ (.slice b4 (l.length + 1) cb4)).frozen? q := fun q h1 h2 => old6 hg6 (by omega) (fun y hy => by have := HLa.out y hy; omega)
         have d0 : w6.cell? ⟨w.heap.size, 0, none⟩ = some (.slice a p.length ca) := (HE5 ⟨w.heap.size, 0, none⟩ (by show w.heap.size ≤ w.heap.size; omega) (by show w.heap.size < _; omega)).1.trans (by simp [go_sem, *])
         have d1 : w6.cell? ⟨w.heap.size, 1, none⟩ = some (.slice b4 (l.length + 1) cb4) := (HE5 ⟨w.heap.size, 1, none⟩ (by show w.heap.size ≤ w.heap.size; omega) (by show w.heap.size < _; omega)).1.trans (by simp [go_sem, *])
         have d2 : w6.cell? ⟨w.heap.size + 1 + 1, 0, none⟩ = some (.slice none 0 0) := (HE5 ⟨w.heap.size + 1 + 1, 0, none⟩ (by show w.heap.size ≤ w.heap.size + 1 + 1; omega) (by show w.heap.size + 1 + 1 < _; omega)).1.trans (by simp [go_sem, *])
         have d3 : w6.cell? ⟨w.heap.size + 1 + 1, 1, none⟩ = some (.slice none 0 0) := (HE5 ⟨w.heap.size + 1 + 1, 1, none⟩ (by show w.heap.size ≤ w.heap.size + 1 + 1; omega) (by show w.heap.size + 1 + 1 < _; omega)).1.trans (by simp [go_sem, *])
         have k0 : w6.frozen? ⟨w.heap.size, 0, none⟩ = false := (HE5 ⟨w.heap.size, 0, none⟩ (by show w.heap.size ≤ w.heap.size; omega) (by show w.heap.size < _; omega)).2.trans (by simp [go_sem, *])
         have k2 : w6.frozen? ⟨w.heap.size + 1 + 1, 0, none⟩ = false := (HE5 ⟨w.heap.size + 1 + 1, 0, none⟩ (by show w.heap.size ≤ w.heap.size + 1 + 1; omega) (by show w.heap.size + 1 + 1 < _; omega)).2.trans (by simp [go_sem, *])
         have k3 : w6.frozen? ⟨w.heap.size + 1 + 1, 1, none⟩ = false := (HE5 ⟨w.heap.size + 1 + 1, 1, none⟩ (by show w.heap.size ≤ w.heap.size + 1 + 1; omega) (by show w.heap.size + 1 + 1 < _; omega)).2.trans (by simp [go_sem, *])
         clear hz3 h24 HE5 hx5 hown6 hg6 hat6 HX5 HX5s hsa5 e0 e1 e2 e3 e4 e5 e6 h0 h1 h2 h3)
      | fail)
    have HR : Hid (∀ (v0 v1 v2 : Value), GOwn (((w6.setCell ⟨w.heap.size, 0, none⟩ v0).setCell ⟨w.heap.size + 1 + 1, 0, none⟩ v1).setCell ⟨w.heap.size + 1 + 1, 1, none⟩ v2) false (fun b' => S b' ∨ w.heap.size ≤ b' ∨ (Value.slice ka x.2.2.length kc).ownBlock = some b') (.slice a6 (p.length + 1) ca6) (.slice b4 (l.length + 1) cb4) (p ++ [x], l ++ [(p.length : Int)]) ∧ KB S w (((w6.setCell ⟨w.heap.size, 0, none⟩ v0).setCell ⟨w.heap.size + 1 + 1, 0, none⟩ v1).setCell ⟨w.heap.size + 1 + 1, 1, none⟩ v2)) := fun v0 v1 v2 => by
      have hz := HSz.out
      refine ⟨HX6.out.1.map (by simp [World.setCell]) (fun b' hb' hl => ?_) (fun b' hl h => ?_), ((HX6.out.2.1.setCell (p := ⟨w.heap.size, 0, none⟩) (fun h => absurd h (Nat.lt_irrefl _)) _).setCell (p := ⟨w.heap.size + 1 + 1, 0, none⟩) (fun h => absurd h (by show ¬ w.heap.size + 1 + 1 < w.heap.size; omega)) _).setCell (p := ⟨w.heap.size + 1 + 1, 1, none⟩) (fun h => absurd h (by show ¬ w.heap.size + 1 + 1 < w.heap.size; omega)) _⟩
      · have n1 : w.heap.size ≠ b' ∧ w.heap.size + 1 + 1 ≠ b' := by
          rcases hb' with (h | h) | h
          · omega
          · omega
          · have := (HLk.out b' h).1; omega
        simp [World.setCell, Array.getElem?_modify, n1.1, n1.2]
      · rcases h with (h | h) | h
        · exact .inl h.1
        · right; left; omega
        · exact .inr (.inr h)
    clear HX4 HX6 HG0 HS HLa HLb HLk HSz HB1
    have hsub : IntKind.i64.wrap (((p.length + 1 : Nat) : Int) - 1) = (p.length : Int) := by rw [IntKind.wrap_i64]; omega
    go_region
    all_goals
      go_wp2
      refine bodyPost_ret (v := .tuple #[.agg #[.slice a6 (p.length + 1) ca6, .slice b4 (l.length + 1) cb4], .int .i64 (p.length : Int)]) ?_ ?_ ?_
      · simp [results, Tryz.results96, go_sem, *]
      · rfl
      · have hR := HR.out (.slice a6 (p.length + 1) ca6) (.slice a6 (p.length + 1) ca6) (.slice b4 (l.length + 1) cb4)
        exact ⟨_, _, rfl, hR.1, ⟨hR.2.os, hR.2.tape, hR.2.output, hR.2.size, hR.2.block⟩⟩
end Go.Proofs.YtobgkfpjokfbaaaGreatDoor
