/-
  PROVED HERE: what the model's comparing of nodes answers, at every two nodes. No other condition. what the model's l6Find and l6Put answer, at every graph of at most a thousand nodes. No other condition.
-/
import Derived.Test.YtemlghfcfploaaaDoorRun16
import Derived.Test.YtemlghfcfploaaaDoorRun15
namespace Go.Proofs.YtemlghfcfploaaaDoor
open Go.ChangeShapes Go.WideShapes Go.ChangeAt Go.RowKit
set_option linter.unusedVariables false

theorem spSame_any (a b : Option Addr) (len cap len' cap' : Nat) (l m : List Int) (w : World) (h : Sl w a len l) (h' : Sl w b len' m) (hm : len ≤ 9223372036854775807) :
    Calls Tryd.prog 56 #[.slice a len cap, .slice b len' cap'] w fun e w' => e = .returned (.bool (decide (l = m))) ∧ ∃ n, w' = w.drewN n := by
  have hll := h.1
  have hml := h'.1
  by_cases hlen : len = len'
  · subst hlen
    have hne : ((len : Int) != len) = false := by simp
    go_enter Tryd.func56, Tryd.ntmps56
    go_wp2_with fail
    go_loopw [13] (fun i wr => ∃ k : Nat, k ≤ len ∧ i = .int .i64 k ∧ (∃ n, wr = w.drewN n) ∧ Hid (∀ j, j < k → l.getD j 0 = m.getD j 0)) (fun i _ => len - (intOf i).toNat)
    case atStart => exact ⟨0, Nat.zero_le _, rfl, ⟨0, rfl⟩, fun j hj => absurd hj (Nat.not_lt_zero _)⟩
    case round =>
      obtain ⟨k, hk, rfl, hdr, hT⟩ := hrel
      have hbr : Below w.heap.size w wr := by obtain ⟨n, rfl⟩ := hdr; exact Go.below_drewN (Below.refl _ _) n
      have HD := (show Hid _ from hdr)
      clear hdr
      by_cases hlt : k < len
      · obtain ⟨b1, off, rfl, hc⟩ := cells_of (h.keep hbr) (by omega)
        obtain ⟨b2, off', rfl, hc'⟩ := cells_of (h'.keep hbr) (by omega)
        have ck := hc k hlt
        have ck' := hc' k hlt
        have hlt' : (k : Int) < len := by omega
        have HE : Hid (l.getD k 0 ≠ m.getD k 0 → decide (l = m) = false) := fun hne => decide_eq_false (fun e => hne (by rw [e]))
        have HS : Hid (l.getD k 0 = m.getD k 0 → ∀ j, j < k + 1 → l.getD j 0 = m.getD j 0) := fun e j hj => by
          by_cases e1 : j = k
          · rw [e1]; exact e
          · exact hT.out j (by omega)
        clear hc hc' hT h h'
        generalize l.getD k 0 = x at ck HE HS
        generalize m.getD k 0 = y at ck' HE HS
        by_cases e : x = y
        · subst e
          have HR := (show Hid _ from HS.out rfl)
          have hxx : (x != x) = false := by simp
          clear HE HS
          go_wp2_with fail
          go_quiet (fail)
          go_wp2
          go_roundw
          case rel => exact ⟨k + 1, by omega, by go_num, by obtain ⟨n, rfl⟩ := HD.out; exact ⟨_, World.drewN_drewN ..⟩, HR⟩
          case measure => simp [intOf]; omega
        · have HV : Hid (decide (l = m) = false) := HE.out e
          have hxy : (x != y) = true := by simpa using e
          clear HE HS
          go_wp2_with fail
          go_quiet (fail)
          go_wp2
          go_ret
          exact ⟨by rw [HV.out] <;> rfl, by obtain ⟨n, rfl⟩ := HD.out; exact ⟨_, World.drewN_drewN ..⟩⟩
      · obtain rfl : k = len := by omega
        have HV : Hid (decide (l = m) = true) := decide_eq_true (list_ext (by omega) fun j hj => hT.out j (by omega))
        clear hT
        go_wp2
        go_ret
        exact ⟨by rw [HV.out] <;> rfl, HD.out⟩
  · have hne : ((len : Int) != len') = true := by simp; omega
    rw [decide_eq_false (fun e => hlen (by rw [← hll, ← hml, e]))]
    go_enter Tryd.func56, Tryd.ntmps56
    go_wp2
    go_ret
    exact ⟨rfl, ⟨0, rfl⟩⟩
set_option maxHeartbeats 800000 in
theorem alike_any (x y : EN) (a b : Option Addr) (len cap len' cap' : Nat) (w : World) (h : Sl w a len x.2.2) (h' : Sl w b len' y.2.2) (hm : len ≤ 9223372036854775807) :
    Calls Tryd.prog 43 #[.agg #[.int .i64 x.1, .int .i64 x.2.1, .slice a len cap], .agg #[.int .i64 y.1, .int .i64 y.2.1, .slice b len' cap']] w fun e w' => e = .returned (.bool (decide (x = y))) ∧ Below w.heap.size w w' := by
  obtain ⟨xo, xn, xk⟩ := x
  obtain ⟨yo, yn, yk⟩ := y
  simp only at h h' ⊢
  obtain ⟨W1, hW1⟩ : ∃ W1, (w.alloc (.cells #[.int .i64 xo, .int .i64 xn, .slice a len cap] 70)).alloc (.cells #[.int .i64 yo, .int .i64 yn, .slice b len' cap'] 70) = W1 := ⟨_, rfl⟩
  have hb1 : Below w.heap.size w W1 := by rw [← hW1]; exact ((Below.refl _ _).alloc (Nat.le_refl _) _).alloc (by simp) _
  have n0 : W1.cell? ⟨w.heap.size, 0, none⟩ = some (.int .i64 xo) := by rw [← hW1]; simp [go_sem]
  have n1 : W1.cell? ⟨w.heap.size, 1, none⟩ = some (.int .i64 xn) := by rw [← hW1]; simp [go_sem]
  have n2 : W1.cell? ⟨w.heap.size, 2, none⟩ = some (.slice a len cap) := by rw [← hW1]; simp [go_sem]
  have m0 : W1.cell? ⟨w.heap.size + 1, 0, none⟩ = some (.int .i64 yo) := by rw [← hW1]; simp [go_sem]
  have m1 : W1.cell? ⟨w.heap.size + 1, 1, none⟩ = some (.int .i64 yn) := by rw [← hW1]; simp [go_sem]
  have m2 : W1.cell? ⟨w.heap.size + 1, 2, none⟩ = some (.slice b len' cap') := by rw [← hW1]; simp [go_sem]
  have HS := (show Hid _ from spSame_any a b len cap len' cap' xk yk W1 (h.keep hb1) (h'.keep hb1) hm)
  have HB := (show Hid _ from hb1)
  clear h h' hb1
  by_cases e1 : xo = yo
  · by_cases e2 : xn = yn
    · have ev : decide ((xo, xn, xk) = (yo, yn, yk)) = decide (xk = yk) := by simp [e1, e2]
      rw [ev]
      subst e1 e2
      generalize decide (xk = yk) = B at HS
      have q1 : (xo == xo) = true := by simp
      have q2 : (xn == xn) = true := by simp
      clear ev
      go_enter Tryd.func43, Tryd.ntmps43
      go_wp2_with fail
      (try rw [hW1])
      refine Calls.mono HS.out ?_
      rintro e w2 ⟨rfl, n, rfl⟩
      clear hW1 HS
      go_wp2
      go_ret
      exact ⟨rfl, below_drewN HB.out _⟩
    · have ev : decide ((xo, xn, xk) = (yo, yn, yk)) = false := by simp [e2]
      rw [ev]
      have q1 : (xo == yo) = true := by simpa using e1
      have q2 : (xn == yn) = false := by simpa using e2
      clear ev HS e1 e2
      go_enter Tryd.func43, Tryd.ntmps43
      go_wp2
      (try rw [hW1])
      go_ret
      exact ⟨rfl, HB.out⟩
  · have ev : decide ((xo, xn, xk) = (yo, yn, yk)) = false := by simp [e1]
    rw [ev]
    have q1 : (xo == yo) = false := by simpa using e1
    clear ev HS e1
    go_enter Tryd.func43, Tryd.ntmps43
    go_wp2
    (try rw [hW1])
    go_ret
    exact ⟨rfl, HB.out⟩
end Go.Proofs.YtemlghfcfploaaaDoor
namespace Go.Proofs.YtemlghfcfploaaaDoor
open Go.ChangeShapes Go.WideShapes Go.ChangeAt Go.RowKit
set_option linter.unusedVariables false

/-- What is found, -1 for nothing. -/
def foundI (o : Option Int) : Int := o.getD (-1)
set_option maxHeartbeats 1600000 in
theorem l6Find_any (a b : Option Addr) (len cap lb cb : Nat) (p : List EN) (l : List Int) (x : EN) (ka : Option Addr) (kc : Nat) (w : World) (h : ESl w a len p) (hl : Sl w b lb l) (hk : Sl w ka x.2.2.length x.2.2) (hm : len ≤ 1000) (hlb : len ≤ lb) :
    Calls Tryd.prog 71 #[.agg #[.slice a len cap, .slice b lb cb], .agg #[.int .i64 x.1, .int .i64 x.2.1, .slice ka x.2.2.length kc]] w fun e w' => e = .returned (.int .i64 (foundI (findL p l x))) ∧ Below w.heap.size w w' := by
  obtain ⟨xo, xn, xk⟩ := x
  simp only at hk ⊢
  have hll := h.1
  have hl1 := hl.1
  obtain ⟨W1, hW1⟩ : ∃ W1, (w.alloc (.cells #[.slice a len cap, .slice b lb cb] 41)).alloc (.cells #[.int .i64 xo, .int .i64 xn, .slice ka xk.length kc] 70) = W1 := ⟨_, rfl⟩
  have hb1 : Below w.heap.size w W1 := by rw [← hW1]; exact ((Below.refl _ _).alloc (Nat.le_refl _) _).alloc (by simp) _
  have n0 : W1.cell? ⟨w.heap.size, 0, none⟩ = some (.slice a len cap) := by rw [← hW1]; simp [go_sem]
  have n1 : W1.cell? ⟨w.heap.size, 1, none⟩ = some (.slice b lb cb) := by rw [← hW1]; simp [go_sem]
  have m0 : W1.cell? ⟨w.heap.size + 1, 0, none⟩ = some (.int .i64 xo) := by rw [← hW1]; simp [go_sem]
  have m1 : W1.cell? ⟨w.heap.size + 1, 1, none⟩ = some (.int .i64 xn) := by rw [← hW1]; simp [go_sem]
  have m2 : W1.cell? ⟨w.heap.size + 1, 2, none⟩ = some (.slice ka xk.length kc) := by rw [← hW1]; simp [go_sem]
  have hs1 : W1.heap.size = w.heap.size + 2 := by rw [← hW1]; simp
  have HE : Hid (ESl W1 a len p ∧ Sl W1 b lb l ∧ Sl W1 ka xk.length xk ∧ Below w.heap.size w W1) := ⟨h.keep hb1, hl.keep hb1, hk.keep hb1, hb1⟩
  have L0 : w.heap.size < W1.heap.size := by omega
  have L1 : w.heap.size + 1 < W1.heap.size := by omega
  clear h hl hk hb1 hs1
  go_enter Tryd.func71, Tryd.ntmps71
  go_wp2_with fail
  (try rw [hW1])
  go_loopw [10] (fun i wr => ∃ k : Nat, k ≤ len ∧ i = .int .i64 k ∧ Below W1.heap.size W1 wr ∧ Hid (∀ j, j < k → p.getD j e0 ≠ (xo, xn, xk))) (fun i _ => len - (intOf i).toNat)
  case atStart => exact ⟨0, Nat.zero_le _, rfl, Below.refl _ _, fun j hj => absurd hj (Nat.not_lt_zero _)⟩
  case round =>
    obtain ⟨k, hk, rfl, hbr, hT⟩ := hrel
    obtain ⟨wo, rfl⟩ : ∃ x, x = wr := ⟨_, rfl⟩
    clear hW1
    by_cases hlt : k < len
    · obtain ⟨bn, on, rfl, hbl, hc⟩ := (HE.out.1.keep hbr).at (by omega)
      obtain ⟨ai, li, ci, c1, c2, c3, hli, hci, hS⟩ := hc k hlt
      obtain ⟨bp, op, rfl, hpl, hcp⟩ : ∃ b' off, b = some ⟨b', off, none⟩ ∧ b' < wo.heap.size ∧ ∀ i, i < lb → wo.cell? ⟨b', off + i, none⟩ = some (.int .i64 (l.getD i 0)) := by
        rcases (HE.out.2.1.keep hbr).2 with h0 | h0
        · omega
        · exact h0
      obtain ⟨y, hy⟩ : ∃ y, p.getD k e0 = y := ⟨_, rfl⟩
      have HY := (show Hid _ from hy)
      obtain ⟨yo, yn, yk⟩ := y
      rw [hy] at c1 c2 hS
      simp only at c1 c2 hS
      have hsz : ¬ bn = wo.heap.size := by omega
      have hkl : (k : Int) < len := by omega
      have hkb : (k : Int) < lb := by omega
      obtain ⟨W2, hW2⟩ : ∃ W2, wo.alloc (.cells #[.int .i64 yo, .int .i64 yn, .slice ai li ci] 70) = W2 := ⟨_, rfl⟩
      have hb2 : Below wo.heap.size wo W2 := by rw [← hW2]; exact (Below.refl _ _).alloc (Nat.le_refl _) _
      have hs2 : wo.heap.size < W2.heap.size := by rw [← hW2]; simp
      have o0 : W2.cell? ⟨wo.heap.size, 0, none⟩ = some (.int .i64 yo) := by rw [← hW2]; simp [go_sem]
      have o1 : W2.cell? ⟨wo.heap.size, 1, none⟩ = some (.int .i64 yn) := by rw [← hW2]; simp [go_sem]
      have o2 : W2.cell? ⟨wo.heap.size, 2, none⟩ = some (.slice ai li ci) := by rw [← hW2]; simp [go_sem]
      have hB2 : Below W1.heap.size W1 W2 := hbr.trans (hb2.mono hbr.size)
      have q0 := (hB2.cell (p := ⟨w.heap.size + 1, 0, none⟩) L1).trans m0
      have q1 := (hB2.cell (p := ⟨w.heap.size + 1, 1, none⟩) L1).trans m1
      have q2 := (hB2.cell (p := ⟨w.heap.size + 1, 2, none⟩) L1).trans m2
      have HA : Hid (Calls Tryd.prog 43 #[.agg #[.int .i64 yo, .int .i64 yn, .slice ai li ci], .agg #[.int .i64 xo, .int .i64 xn, .slice ka xk.length kc]] W2 fun e w' => e = .returned (.bool (decide (p.getD k e0 = (xo, xn, xk)))) ∧ Below W2.heap.size W2 w') := by
        have := alike_any (yo, yn, yk) (xo, xn, xk) ai ka li ci xk.length kc W2 (hS.keep hb2) ((HE.out.2.2.1.keep hbr).keep hb2) (by omega)
        simp only at this
        rw [hy]; exact this
      have HB : Hid (∀ W, Below W2.heap.size W2 W → Below w.heap.size w W ∧ Below W1.heap.size W1 W ∧ W.cell? ⟨w.heap.size, 1, none⟩ = some (.slice (some ⟨bp, op, none⟩) lb cb) ∧ W.cell? ⟨bp, op + k, none⟩ = some (.int .i64 (l.getD k 0))) := fun W hW => by
        have hx : Below W1.heap.size W1 W := hB2.trans (hW.mono hB2.size)
        have hy' : Below wo.heap.size wo W := hb2.trans (hW.mono hb2.size)
        exact ⟨HE.out.2.2.2.trans (hx.mono HE.out.2.2.2.size), hx, (hx.cell (p := ⟨w.heap.size, 1, none⟩) L0).trans n1, (hy'.cell (p := ⟨bp, op + k, none⟩) hpl).trans (hcp k (by omega))⟩
      have HV : Hid (p.getD k e0 = (xo, xn, xk) → foundI (findL p l (xo, xn, xk)) = l.getD k 0) := fun e => by rw [findL_at (by omega) e hT.out]; rfl
      have HR : Hid (p.getD k e0 ≠ (xo, xn, xk) → ∀ j, j < k + 1 → p.getD j e0 ≠ (xo, xn, xk)) := fun e j hj => by
        by_cases e1 : j = k
        · rw [e1]; exact e
        · exact hT.out j (by omega)
      clear hT hc hcp hS hb2 hbr hy hB2
      by_cases e : p.getD k e0 = (xo, xn, xk)
      · rw [decide_eq_true e] at HA
        have hv := HV.out e
        have HV2 := (show Hid _ from hv)
        clear HR HV e hv HY
        obtain ⟨z, hz⟩ : ∃ z, l.getD k 0 = z := ⟨_, rfl⟩
        rw [hz] at HB HV2
        clear hz
        go_wp2_with fail
        (try rw [hW2])
        refine Calls.mono HA.out ?_
        rintro r w3 ⟨rfl, hb3⟩
        obtain ⟨t1, t2, t3, t4⟩ := HB.out w3 hb3
        have HT1 := (show Hid _ from t1)
        clear HA HB hb3 t1 t2 hW2
        go_wp2
        go_ret
        exact ⟨by rw [HV2.out] <;> rfl, HT1.out⟩
      · rw [decide_eq_false e] at HA
        have HR2 := (show Hid _ from HR.out e)
        clear HR HV e HY
        go_wp2_with fail
        (try rw [hW2])
        refine Calls.mono HA.out ?_
        rintro r w3 ⟨rfl, hb3⟩
        obtain ⟨t1, t2, t3, t4⟩ := HB.out w3 hb3
        have HT2 := (show Hid _ from t2)
        clear HA HB hb3 t1 t2 t3 t4 hW2
        go_wp2
        go_roundw
        case rel => exact ⟨k + 1, by omega, by go_num, HT2.out, HR2⟩
        case measure => simp [intOf]; omega
    · obtain rfl : k = len := by omega
      have HV : Hid (foundI (findL p l (xo, xn, xk)) = -1) := by show _ = _; rw [findL_no (fun j hj => hT.out j (by omega))]; rfl
      have HB : Hid (Below w.heap.size w wo) := HE.out.2.2.2.trans (hbr.mono HE.out.2.2.2.size)
      clear hT
      go_wp2
      go_ret
      exact ⟨by rw [HV.out] <;> rfl, HB.out⟩
theorem kid_slice {w : World} {s : Bool} {S : Nat → Prop} {v : Value} {kids : List Int} (h : KidAt w s S v kids) : ∃ a c, v = .slice a kids.length c ∧ Sl w a kids.length kids := by
  obtain ⟨a, c, h1, _, _, h2, _⟩ := h
  exact ⟨a, c, h1, h2⟩
theorem found_no {g : GS} (h : GoodG g) {x : EN} {v : Int} (hf : findL g.1 g.2 x = some v) : 0 ≤ v := by
  obtain ⟨k, h1, _, h3, _⟩ := findL_some hf
  have := h.2.2.1 k (by have := h.2.1; omega)
  omega
theorem cell_new3 (w : World) (x y z : Value) (t : TypeId) : ∀ j u, [x, y, z][j]? = some u → (w.alloc (.cells #[x, y, z] t)).cell? ((⟨w.heap.size, 0, none⟩ : Addr).add j) = some u := by
  intro j u hj
  match j, hj with
  | 0, hj => simp at hj; subst hj; simp [Addr.add]
  | 1, hj => simp at hj; subst hj; simp [Addr.add]
  | 2, hj => simp at hj; subst hj; simp [Addr.add]
theorem one_cell3 (x y : Int) (a : Option Addr) (n c : Nat) : ∀ u ∈ [Value.int .i64 x, .int .i64 y, .slice a n c], u.oneCell' = true := by
  intro u hu
  simp only [List.mem_cons, List.mem_nil_iff, or_false] at hu
  rcases hu with rfl | rfl | rfl <;> rfl
end Go.Proofs.YtemlghfcfploaaaDoor
