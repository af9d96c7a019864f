/-
  PROVED HERE: what the model's l6Closed answers lies in memory of its own. No other condition. what the model's l6Merge answers at a good graph. No other condition. an answer that is a graph, in a box that a drawn statement made. No condition.
-/
import Derived.Test.YtobgkfpjokfbaaaGreatDoorC6Fun
import Derived.Test.YtobgkfpjokfbaaaGreatDoorRun35
import Derived.Test.YtobgkfpjokfbaaaGreatDoorRun24
import Derived.Test.YtobgkfpjokfbaaaGreatDoorA6OwnS
import Derived.Test.YtobgkfpjokfbaaaGreatDoorRun9
namespace Go.Proofs.YtobgkfpjokfbaaaGreatDoor
open Go.ChangeShapes Go.WideShapes Go.ChangeAt Go.RowKit
set_option linter.unusedVariables false

/-- A slice in blocks that w does not have. -/
def FrB (w : World) (a : Option Addr) (n c : Nat) : Prop := ∀ x, (Value.slice a n c).ownBlock = some x → w.heap.size ≤ x
def ClAnsF (w w' : World) (n : Nat) (p : List EN) (l0 : List Int) (e : Ending) : Prop := ∃ (v : Option Addr) (c : Nat) (L : List Int), e = .returned (.slice v n c) ∧ Sl w' v n L ∧ Closure p l0 L ∧ Below w.heap.size w w' ∧ FrB w v n c
set_option maxHeartbeats 6400000 in
set_option maxRecDepth 20000 in
theorem l6ClosedF_any {p : List EN} {l0 : List Int} (hN : nodesB p = true) (hP0 : PartsN p.length l0) (a b : Option Addr) (n cap cb : Nat) (w : World) (hE : ESl w a n p) (hS : Sl w b n l0) :
    Calls Tryz.prog 74 #[.slice a n cap, .slice b n cb] w fun e w' => ClAnsF w w' n p l0 e := by
  have hpl : p.length = n := hE.1
  have hn120 : n ≤ 120 := by have := ((nodesB_iff p).1 hN).1; omega
  have HO := (show Hid _ from own8_any b n cb l0 w hS (by omega))
  have HEw : Hid (∀ W, Below w.heap.size w W → ESl W a n p) := fun W hW => hE.keep hW
  have HT : Hid (Toward p l0 l0) := toward_start hP0
  have HN : Hid (nodesB p = true ∧ PartsN p.length l0 ∧ p.length = n) := ⟨hN, hP0, hpl⟩
  have HJ : Hid (∀ (L : List Int) (i k : Nat), Toward p l0 L → i < n → k < n → shO L (p.getD i e0) = shO L (p.getD k e0) → L.getD i 0 ≠ L.getD k 0 → Toward p l0 (joinPL L i k) ∧ rootsN (joinPL L i k) n < rootsN L n) := fun L i k hT hi hk e hne => by
    refine ⟨toward_join hN (by rw [hP0.1]) hT (by omega) (by omega) e, ?_⟩
    have := meas_roots (n := n) (by rw [← hpl]; exact hT.1) hi hk hne
    omega
  clear hE hS hN hP0 hpl
  go_enter Tryz.func74, Tryz.ntmps74
  go_wp2_with fail
  refine Calls.mono HO.out ?_
  rintro e w1 ⟨v1, rfl, hr1, hb1⟩
  obtain ⟨a1, c1, rfl, hs1⟩ := Sl.vals hr1
  have hq1 : Hid (FrB w a1 n c1) := fun x hx => (hr1.lt x hx).1
  clear HO hr1
  go_wp2_with fail
  go_loopw [5, 6] (fun x y wr => ∃ (L : List Int) (a' : Option Addr) (c' : Nat) (f : Bool), x = .slice a' n c' ∧ y = .bool f ∧ Sl wr a' n L ∧ Hid (Toward p l0 L ∧ (f = false → Cong p L)) ∧ Below w.heap.size w wr ∧ Hid (FrB w a' n c')) (fun x y wr => if n = 0 then flagN y else 2 * rootsN (readL wr x n) n + flagN y)
  case atStart => exact ⟨l0, a1, c1, true, rfl, rfl, hs1, ⟨HT.out, fun h => by cases h⟩, hb1, hq1⟩
  case round =>
    obtain ⟨L0, a2, c2, f, rfl, rfl, hs2, hI2, hb2, hq2⟩ := hrel
    obtain ⟨wo, hwo⟩ : ∃ x, x = wr := ⟨_, rfl⟩
    subst hwo
    cases f with
    | false =>
      go_wp2_with fail
      go_ret
      exact ⟨a2, c2, L0, rfl, hs2, toward_end hI2.out.1 (by first | exact hI2.out.2 rfl | exact hI2.out.2 trivial), hb2, hq2.out⟩
    | true =>
      go_wp2_with fail
      go_loopw [5, 6, 16] (fun x y z wr => ∃ (k : Nat) (L : List Int) (a' : Option Addr) (c' : Nat) (f1 : Bool), k ≤ n ∧ z = .int .i64 k ∧ x = .slice a' n c' ∧ y = .bool f1 ∧ Sl wr a' n L ∧ Hid (Toward p l0 L ∧ (f1 = false → L = L0 ∧ CongK p L k) ∧ (f1 = true → rootsN L n < rootsN L0 n)) ∧ Below w.heap.size w wr ∧ Hid (FrB w a' n c')) (fun x y z wr => n - (intOf z).toNat)
      case atStart => exact ⟨0, L0, a2, c2, false, Nat.zero_le _, rfl, rfl, rfl, hs2, ⟨hI2.out.1, fun _ => ⟨rfl, fun i j _ h => absurd h (Nat.not_lt_zero _)⟩, fun h => by cases h⟩, hb2, hq2⟩
      case round =>
        obtain ⟨k, L1, a3, c3, f1, hk, rfl, rfl, rfl, hs3, hI3, hb3, hq3⟩ := hrel
        obtain ⟨wp, hwp⟩ : ∃ x, x = wr := ⟨_, rfl⟩
        subst hwp
        by_cases hkn : k < n
        · obtain ⟨bn, off, rfl, hbl, hc⟩ := (HEw.out wp hb3).at (by omega)
          obtain ⟨ak, lk, ck, d1, d2, d3, hlk, hck, hSk⟩ := hc k hkn
          obtain ⟨y, hy⟩ : ∃ y, p.getD k e0 = y := ⟨_, rfl⟩
          rw [hy] at d1 d2 hSk
          obtain ⟨yo, yn, yk⟩ := y
          simp only at d1 d2 hSk
          have hkn' : (k : Int) < n := by omega
          obtain ⟨W2, hW2⟩ : ∃ W2, wp.alloc (.cells #[.int .i64 yo, .int .i64 yn, .slice ak lk ck] 80) = W2 := ⟨_, rfl⟩
          have hbW : Below wp.heap.size wp W2 := by rw [← hW2]; exact (Below.refl _ _).alloc (Nat.le_refl _) _
          have m0 : W2.cell? ⟨wp.heap.size, 0, none⟩ = some (.int .i64 yo) := by rw [← hW2]; simp [go_sem]
          have m1 : W2.cell? ⟨wp.heap.size, 1, none⟩ = some (.int .i64 yn) := by rw [← hW2]; simp [go_sem]
          have m2 : W2.cell? ⟨wp.heap.size, 2, none⟩ = some (.slice ak lk ck) := by rw [← hW2]; simp [go_sem]
          have hsW : wp.heap.size < W2.heap.size := by rw [← hW2]; simp
          have HM : Hid (∀ W, Below W2.heap.size W2 W → W.cell? ⟨wp.heap.size, 0, none⟩ = some (.int .i64 yo) ∧ W.cell? ⟨wp.heap.size, 1, none⟩ = some (.int .i64 yn) ∧ W.cell? ⟨wp.heap.size, 2, none⟩ = some (.slice ak lk ck) ∧ Sl W ak lk yk ∧ Below w.heap.size w W) := fun W hW => ⟨(hW.cell (p := ⟨wp.heap.size, 0, none⟩) hsW).trans m0, (hW.cell (p := ⟨wp.heap.size, 1, none⟩) hsW).trans m1, (hW.cell (p := ⟨wp.heap.size, 2, none⟩) hsW).trans m2, (hSk.keep hbW).keep hW, hb3.trans ((hbW.trans (hW.mono hbW.size)).mono hb3.size)⟩
          have hs3' := hs3.keep hbW
          have HY : Hid (p.getD k e0 = (yo, yn, yk)) := hy
          have HI3 : Hid (Toward p l0 L1 ∧ (f1 = false → L1 = L0 ∧ CongK p L1 k) ∧ (f1 = true → rootsN L1 n < rootsN L0 n)) := hI3.out
          clear hc hSk m0 m1 m2 hs3 hy
          go_wp2_with fail
          (try rw [hW2])
          clear hW2
          go_loopw [5, 6, 9] (fun x y z wr => ∃ (i : Nat) (L : List Int) (a' : Option Addr) (c' : Nat) (f2 : Bool), i ≤ k ∧ z = .int .i64 i ∧ x = .slice a' n c' ∧ y = .bool f2 ∧ Sl wr a' n L ∧ Hid (Toward p l0 L ∧ (f2 = false → L = L0 ∧ CongK p L k ∧ ∀ j, j < i → shO L (p.getD j e0) = shO L (p.getD k e0) → L.getD j 0 = L.getD k 0) ∧ (f2 = true → rootsN L n < rootsN L0 n)) ∧ Below W2.heap.size W2 wr ∧ Hid (FrB w a' n c')) (fun x y z wr => k - (intOf z).toNat)
          case atStart => exact ⟨0, L1, a3, c3, f1, Nat.zero_le _, rfl, rfl, rfl, hs3', ⟨HI3.out.1, fun h => ⟨(HI3.out.2.1 h).1, (HI3.out.2.1 h).2, fun j hj => absurd hj (Nat.not_lt_zero _)⟩, HI3.out.2.2⟩, Below.refl _ _, hq3⟩
          case round =>
            obtain ⟨i, L, a4, c4, f2, hi, rfl, rfl, rfl, hs4, hI4, hb4, hq4⟩ := hrel
            obtain ⟨wq, hwq⟩ : ∃ x, x = wr := ⟨_, rfl⟩
            subst hwq
            have hin : (i : Int) < n := by omega
            by_cases hik : i < k
            · have hik' : (i : Int) < k := by omega
              obtain ⟨aj, lj, cj, g1, g2, g3, hlj, hcj, hSj⟩ := (by
                obtain ⟨bn', off', e', hbl', hc'⟩ := (HEw.out wq (HM.out wq hb4).2.2.2.2).at (show 0 < n by omega)
                cases e'
                exact hc' i (by omega) : ∃ ai li ci, wq.cell? ⟨bn, off + i * 3, none⟩ = some (.int .i64 (p.getD i e0).1) ∧ wq.cell? ⟨bn, off + i * 3 + 1, none⟩ = some (.int .i64 (p.getD i e0).2.1) ∧ wq.cell? ⟨bn, off + i * 3 + 2, none⟩ = some (.slice ai li ci) ∧ li ≤ 9223372036854775807 ∧ li ≤ ci ∧ Sl wq ai li (p.getD i e0).2.2)
              obtain ⟨x, hx⟩ : ∃ x, p.getD i e0 = x := ⟨_, rfl⟩
              rw [hx] at g1 g2 hSj
              obtain ⟨xo, xn, xk⟩ := x
              simp only at g1 g2 hSj
              obtain ⟨W4, hW4⟩ : ∃ W4, wq.alloc (.cells #[.int .i64 xo, .int .i64 xn, .slice aj lj cj] 80) = W4 := ⟨_, rfl⟩
              have hbX : Below wq.heap.size wq W4 := by rw [← hW4]; exact (Below.refl _ _).alloc (Nat.le_refl _) _
              have n0 : W4.cell? ⟨wq.heap.size, 0, none⟩ = some (.int .i64 xo) := by rw [← hW4]; simp [go_sem]
              have n1 : W4.cell? ⟨wq.heap.size, 1, none⟩ = some (.int .i64 xn) := by rw [← hW4]; simp [go_sem]
              have n2 : W4.cell? ⟨wq.heap.size, 2, none⟩ = some (.slice aj lj cj) := by rw [← hW4]; simp [go_sem]
              have hsX : wq.heap.size < W4.heap.size := by rw [← hW4]; simp
              obtain ⟨bo, oo, rfl, hbo, hco⟩ : ∃ b off, a4 = some ⟨b, off, none⟩ ∧ b < W4.heap.size ∧ ∀ i, i < n → W4.cell? ⟨b, off + i, none⟩ = some (.int .i64 (L.getD i 0)) := by
                rcases (hs4.keep hbX).2 with h0 | h0
                · omega
                · exact h0
              have hB4 : Below W2.heap.size W2 W4 := hb4.trans (hbX.mono hb4.size)
              have li := hco i (by omega)
              have lk' := hco k (by omega)
              have hX : Hid (p.getD i e0 = (xo, xn, xk)) := hx
              have HZ : Hid (∀ W, Below W4.heap.size W4 W → (W.cell? ⟨wq.heap.size, 0, none⟩ = some (.int .i64 xo) ∧ W.cell? ⟨wq.heap.size, 1, none⟩ = some (.int .i64 xn) ∧ W.cell? ⟨wq.heap.size, 2, none⟩ = some (.slice aj lj cj) ∧ W.cell? ⟨wp.heap.size, 0, none⟩ = some (.int .i64 yo) ∧ W.cell? ⟨wp.heap.size, 1, none⟩ = some (.int .i64 yn) ∧ W.cell? ⟨wp.heap.size, 2, none⟩ = some (.slice ak lk ck) ∧ W.cell? ⟨bo, oo + i, none⟩ = some (.int .i64 (L.getD i 0)) ∧ W.cell? ⟨bo, oo + k, none⟩ = some (.int .i64 (L.getD k 0))) ∧ Sl W ak lk yk ∧ Sl W aj lj xk ∧ Sl W (some ⟨bo, oo, none⟩) n L ∧ Below W2.heap.size W2 W) := fun W hW => by
                have hY := hB4.trans (hW.mono hB4.size)
                obtain ⟨o1, o2, o3, o4, o5⟩ := HM.out W hY
                exact ⟨⟨(hW.cell (p := ⟨wq.heap.size, 0, none⟩) hsX).trans n0, (hW.cell (p := ⟨wq.heap.size, 1, none⟩) hsX).trans n1, (hW.cell (p := ⟨wq.heap.size, 2, none⟩) hsX).trans n2, o1, o2, o3, (hW.cell (p := ⟨bo, oo + i, none⟩) hbo).trans li, (hW.cell (p := ⟨bo, oo + k, none⟩) hbo).trans lk'⟩, o4, (hSj.keep hbX).keep hW, (hs4.keep hbX).keep hW, hY⟩
              have HI4 : Hid (Toward p l0 L ∧ (f2 = false → L = L0 ∧ CongK p L k ∧ ∀ j, j < i → shO L (p.getD j e0) = shO L (p.getD k e0) → L.getD j 0 = L.getD k 0) ∧ (f2 = true → rootsN L n < rootsN L0 n)) := hI4.out
              have HR : Hid (ESl wq (some ⟨bn, off, none⟩) n p) := HEw.out wq (HM.out wq hb4).2.2.2.2
              clear hs4 hI4 hSj hx n0 n1 n2 hco hB4 li lk' hb4 hbX
              have HRt : Hid (CongR p L i k = true → L.getD i 0 ≠ L.getD k 0 ∧ shO L (p.getD i e0) = shO L (p.getD k e0)) := fun h => by unfold CongR at h; exact of_decide_eq_true h
              have HRf : Hid (CongR p L i k = false → shO L (p.getD i e0) = shO L (p.getD k e0) → L.getD i 0 = L.getD k 0) := fun h e => by
                unfold CongR at h
                have := of_decide_eq_false h
                by_cases e1 : L.getD i 0 = L.getD k 0
                · exact e1
                · exact absurd ⟨e1, e⟩ this
              have ga : ∀ x : Ahead W4, x.w.cell? ⟨wq.heap.size, 0, none⟩ = some (.int .i64 xo) := fun x => (HZ.out x.w x.h).1.1
              have gb : ∀ x : Ahead W4, x.w.cell? ⟨wq.heap.size, 1, none⟩ = some (.int .i64 xn) := fun x => (HZ.out x.w x.h).1.2.1
              have gc : ∀ x : Ahead W4, x.w.cell? ⟨wq.heap.size, 2, none⟩ = some (.slice aj lj cj) := fun x => (HZ.out x.w x.h).1.2.2.1
              have gd : ∀ x : Ahead W4, x.w.cell? ⟨wp.heap.size, 0, none⟩ = some (.int .i64 yo) := fun x => (HZ.out x.w x.h).1.2.2.2.1
              have ge : ∀ x : Ahead W4, x.w.cell? ⟨wp.heap.size, 1, none⟩ = some (.int .i64 yn) := fun x => (HZ.out x.w x.h).1.2.2.2.2.1
              have gf : ∀ x : Ahead W4, x.w.cell? ⟨wp.heap.size, 2, none⟩ = some (.slice ak lk ck) := fun x => (HZ.out x.w x.h).1.2.2.2.2.2.1
              have gg : ∀ x : Ahead W4, x.w.cell? ⟨bo, oo + i, none⟩ = some (.int .i64 (L.getD i 0)) := fun x => (HZ.out x.w x.h).1.2.2.2.2.2.2.1
              have gh : ∀ x : Ahead W4, x.w.cell? ⟨bo, oo + k, none⟩ = some (.int .i64 (L.getD k 0)) := fun x => (HZ.out x.w x.h).1.2.2.2.2.2.2.2
              obtain ⟨zi, hzi⟩ : ∃ z, L.getD i 0 = z := ⟨_, rfl⟩
              obtain ⟨zk, hzk⟩ : ∃ z, L.getD k 0 = z := ⟨_, rfl⟩
              have HQ : Hid (CongR p L i k = decide (zi ≠ zk ∧ shO L (xo, xn, xk) = shO L (yo, yn, yk))) := by show CongR p L i k = _; unfold CongR; rw [hX.out, HY.out, hzi, hzk]
              have HKL : Hid ((shO L (xo, xn, xk) = shO L (yo, yn, yk)) ↔ (xo = yo ∧ xn = yn ∧ kidsL L xk = kidsL L yk)) := by
                have := shO_iff HN.out.1 L (i := i) (j := k) (by have := HN.out.2.2; omega) (by have := HN.out.2.2; omega)
                rw [hX.out, HY.out] at this
                exact this
              rw [hzi] at gg
              rw [hzk] at gh
              go_upto_region 12 with fail
              (try rw [hW4])
              clear hW4
              have hzi' : Hid (L.getD i 0 = zi) := hzi
              have hzk' : Hid (L.getD k 0 = zk) := hzk
              clear hzi hzk
              go_cut [63] from 30 to 63 (fun s wx => s = .bool (CongR p L i k) ∧ Below W4.heap.size W4 wx)
              case first =>
                by_cases hz : zi = zk
                · have hR : Hid (CongR p L i k = false) := by show CongR p L i k = false; rw [HQ.out]; exact decide_eq_false fun h => h.1 hz
                  have hee : (zi != zk) = false := by simpa using hz
                  clear HZ HQ HKL HRt HRf hz HR
                  have hne' := ahead_some W4
                  refine wp_region_ahead (by kernel_rfl) (by kernel_rfl) ?_
                  repeat (first
                    | go_big_quiet_skip
                    | (go_big_quiet_want; go_big_quiet_op; go_big_quiet_on))
                  refine wpQuiet_nil ?_
                  intro _ hw'
                  obtain ⟨xq, rfl⟩ := hw'
                  go_wp2_with fail
                  go_meet
                  exact ⟨by rw [hR.out], xq.h⟩
                · have hee : (zi != zk) = true := by simpa using hz
                  by_cases ho : xo = yo
                  · have heo : (xo == yo) = true := by simpa using ho
                    by_cases hn : xn = yn
                    · have hen : (xn == yn) = true := by simpa using hn
                      have hR : Hid (decide (kidsL L xk = kidsL L yk) = CongR p L i k) := by
                        show decide (kidsL L xk = kidsL L yk) = CongR p L i k
                        rw [HQ.out]
                        exact decide_eq_decide.2 ⟨fun h => ⟨hz, HKL.out.2 ⟨ho, hn, h⟩⟩, fun h => (HKL.out.1 h.2).2.2⟩
                      have hxk : Hid (∀ j, j < lj → ∃ y : Nat, xk.getD j 0 = y ∧ y < n) := fun j hj => by
                        have hjl : xk.length = lj := (HZ.out W4 (Below.refl _ _)).2.2.1.1
                        have := kid_natI (k := i) (j := j) HN.out.1 (by have := HN.out.2.2; omega) (by rw [hX.out]; simp only; omega)
                        rw [hX.out] at this
                        obtain ⟨y, h1, h2⟩ := this
                        exact ⟨y, h1, by omega⟩
                      have hyk : Hid (∀ j, j < lk → ∃ y : Nat, yk.getD j 0 = y ∧ y < n) := fun j hj => by
                        have hjl : yk.length = lk := (HZ.out W4 (Below.refl _ _)).2.1.1
                        have := kid_natI (k := k) (j := j) HN.out.1 (by have := HN.out.2.2; omega) (by rw [HY.out]; simp only; omega)
                        rw [HY.out] at this
                        obtain ⟨y, h1, h2⟩ := this
                        exact ⟨y, h1, by omega⟩
                      have hfx : lj ≤ 200 ∧ lk ≤ 200 := by
                        have q1 := fit_few (((nodesB_iff p).1 HN.out.1).2 i (by have := HN.out.2.2; omega))
                        have q2 := fit_few (((nodesB_iff p).1 HN.out.1).2 k (by have := HN.out.2.2; omega))
                        rw [hX.out] at q1
                        rw [HY.out] at q2
                        have r1 := (HZ.out W4 (Below.refl _ _)).2.2.1.1
                        have r2 := (HZ.out W4 (Below.refl _ _)).2.1.1
                        simp only at q1 q2
                        omega
                      have HKx := fun (W : World) (hW : Below W4.heap.size W4 W) => spKids_any (some ⟨bo, oo, none⟩) aj n c4 lj cj L xk W (HZ.out W hW).2.2.2.1 (HZ.out W hW).2.2.1 hfx.1 hxk.out
                      have HKy := fun (W : World) (hW : Below W4.heap.size W4 W) => spKids_any (some ⟨bo, oo, none⟩) ak n c4 lk ck L yk W (HZ.out W hW).2.2.2.1 (HZ.out W hW).2.1 hfx.2 hyk.out
                      have HSm := fun (W : World) (ax ay : Option Addr) (cx cy : Nat) (h1 : Sl W ax lj (kidsL L xk)) (h2 : Sl W ay lk (kidsL L yk)) => spSame_any ax ay lj cx lk cy (kidsL L xk) (kidsL L yk) W h1 h2 (by omega)
                      have HZc := fun (W : World) (hW : Below W4.heap.size W4 W) => (show Hid _ from (HZ.out W hW).1)
                      simp only [hzi'.out, hzk'.out] at HZc
                      generalize decide (kidsL L xk = kidsL L yk) = R at hR HSm
                      generalize kidsL L xk = Kx at HKx HSm
                      generalize kidsL L yk = Ky at HKy HSm
                      have hBd : Below W4.heap.size W4 W4.drew := (Below.refl _ _).drew
                      have zD := (HZc W4.drew hBd).out
                      clear HZ HQ HKL HRt HRf hxk hyk ga gb gc gd ge gf gg gh ho hn hz
                      go_region_held3 (fun w' => w'.cell? ⟨wq.heap.size, 0, none⟩ = some (.int .i64 xo) ∧ w'.cell? ⟨wq.heap.size, 1, none⟩ = some (.int .i64 xn) ∧ w'.cell? ⟨wq.heap.size, 2, none⟩ = some (.slice aj lj cj) ∧ w'.cell? ⟨wp.heap.size, 0, none⟩ = some (.int .i64 yo) ∧ w'.cell? ⟨wp.heap.size, 1, none⟩ = some (.int .i64 yn) ∧ w'.cell? ⟨wp.heap.size, 2, none⟩ = some (.slice ak lk ck) ∧ w'.cell? ⟨bo, oo + i, none⟩ = some (.int .i64 zi) ∧ w'.cell? ⟨bo, oo + k, none⟩ = some (.int .i64 zk))
                        (first | with_reducible assumption | assumption)
                        (first
                        | (go_at_call 76; first
                            | (with_reducible refine Calls.mono (HKx W4.drew hBd) ?_; rintro e v3 ⟨vx, rfl, hrx, hb3'⟩; obtain ⟨ax, cx, rfl, hsx⟩ := Sl.vals hrx; have hB3 : Below W4.heap.size W4 v3 := hBd.trans (hb3'.mono hBd.size); have z3 := (HZc v3 hB3).out; clear hrx hb3')
                            | (with_reducible refine Calls.mono (HKx v3 hB3) ?_; rintro e v4 ⟨vx, rfl, hrx, hb4'⟩; obtain ⟨ax, cx, rfl, hsx⟩ := Sl.vals hrx; have hB4 : Below W4.heap.size W4 v4 := hB3.trans (hb4'.mono hB3.size); have z4 := (HZc v4 hB4).out; have hsy4 := Sl.keep hsy hb4'; clear hrx hb4')
                            | (with_reducible refine Calls.mono (HKy W4.drew hBd) ?_; rintro e v3 ⟨vy, rfl, hry, hb3'⟩; obtain ⟨ay, cy, rfl, hsy⟩ := Sl.vals hry; have hB3 : Below W4.heap.size W4 v3 := hBd.trans (hb3'.mono hBd.size); have z3 := (HZc v3 hB3).out; clear hry hb3')
                            | (with_reducible refine Calls.mono (HKy v3 hB3) ?_; rintro e v4 ⟨vy, rfl, hry, hb4'⟩; obtain ⟨ay, cy, rfl, hsy⟩ := Sl.vals hry; have hB4 : Below W4.heap.size W4 v4 := hB3.trans (hb4'.mono hB3.size); have z4 := (HZc v4 hB4).out; have hsx4 := Sl.keep hsx hb4'; clear hry hb4'))
                        | (go_at_call 93; first
                            | (with_reducible refine Calls.mono (HSm v4 _ _ _ _ hsx4 hsy) ?_; rintro e v5 ⟨rfl, m5, rfl⟩; have hB5 : Below W4.heap.size W4 (v4.drewN m5) := Go.below_drewN hB4 m5; have z5 := (HZc _ hB5).out)
                            | (with_reducible refine Calls.mono (HSm v4 _ _ _ _ hsx hsy4) ?_; rintro e v5 ⟨rfl, m5, rfl⟩; have hB5 : Below W4.heap.size W4 (v4.drewN m5) := Go.below_drewN hB4 m5; have z5 := (HZc _ hB5).out)))
                      all_goals
                        go_wp2_with fail
                        go_meet
                        exact ⟨by rw [hR.out], hB5⟩
                    · have hR : Hid (CongR p L i k = false) := by show CongR p L i k = false; rw [HQ.out]; exact decide_eq_false fun h => hn (HKL.out.1 h.2).2.1
                      have hen : (xn == yn) = false := by simpa using hn
                      clear HZ HQ HKL HRt HRf hz ho hn HR
                      have hne' := ahead_some W4
                      refine wp_region_ahead (by kernel_rfl) (by kernel_rfl) ?_
                      repeat (first
                        | go_big_quiet_skip
                        | (go_big_quiet_want; go_big_quiet_op; go_big_quiet_on))
                      refine wpQuiet_nil ?_
                      intro _ hw'
                      obtain ⟨xq, rfl⟩ := hw'
                      go_wp2_with fail
                      go_meet
                      exact ⟨by rw [hR.out], xq.h⟩
                  · have hR : Hid (CongR p L i k = false) := by show CongR p L i k = false; rw [HQ.out]; exact decide_eq_false fun h => ho (HKL.out.1 h.2).1
                    have heo : (xo == yo) = false := by simpa using ho
                    clear HZ HQ HKL HRt HRf hz ho HR
                    have hne' := ahead_some W4
                    refine wp_region_ahead (by kernel_rfl) (by kernel_rfl) ?_
                    repeat (first
                      | go_big_quiet_skip
                      | (go_big_quiet_want; go_big_quiet_op; go_big_quiet_on))
                    refine wpQuiet_nil ?_
                    intro _ hw'
                    obtain ⟨xq, rfl⟩ := hw'
                    go_wp2_with fail
                    go_meet
                    exact ⟨by rw [hR.out], xq.h⟩
              case rest =>
              obtain ⟨rfl, hbc⟩ := hcut
              obtain ⟨W5, hW5⟩ : ∃ W5, W5 = wc := ⟨_, rfl⟩
              subst hW5
              obtain ⟨-, -, -, hs5, hB5⟩ := HZ.out W5 hbc
              clear ga gb gc gd ge gf gg gh HQ HKL hX HY HR HZ
              cases hr : CongR p L i k with
              | false =>
                have hnx := (show Hid _ from HRf.out hr)
                clear HRt HRf hr
                go_wp2_with fail
                go_roundw
                case rel => exact ⟨i + 1, L, some ⟨bo, oo, none⟩, c4, f2, by omega, by go_num, rfl, rfl, hs5, ⟨HI4.out.1, fun h => ⟨(HI4.out.2.1 h).1, (HI4.out.2.1 h).2.1, fun j hj e => by
                  by_cases e1 : j = i
                  · subst e1; exact hnx.out e
                  · exact (HI4.out.2.1 h).2.2 j (by omega) e⟩, HI4.out.2.2⟩, hB5, hq4⟩
                case measure => simp [intOf]; omega
              | true =>
                obtain ⟨h1, h2⟩ := HRt.out hr
                have hLn : L.length = n := hs5.1
                have hTj := (show Hid _ from HJ.out L i k HI4.out.1 (by omega) hkn h2 h1)
                have hr0 : Hid (rootsN L n ≤ rootsN L0 n) := by
                  show rootsN L n ≤ rootsN L0 n
                  cases f2 with
                  | false => rw [(HI4.out.2.1 rfl).1]; exact Nat.le_refl _
                  | true => exact Nat.le_of_lt (HI4.out.2.2 rfl)
                have HWs : Hid (w.heap.size ≤ W5.heap.size) := (HM.out W5 hB5).2.2.2.2.size
                have HJn := (show Hid _ from l5Join_any (some ⟨bo, oo, none⟩) n c4 L i k W5 hs5 (par_nonneg HI4.out.1.1) (by omega) (by omega) hkn)
                clear HRt HRf hr h1 h2 hs5
                go_wp2_with fail
                refine Calls.mono HJn.out ?_
                rintro e w6 ⟨v6, rfl, hr6, hb6⟩
                obtain ⟨a6, c6, rfl, hs6⟩ := Sl.vals hr6
                have hq6 : Hid (FrB w a6 n c6) := fun x hx => Nat.le_trans HWs.out (hr6.lt x hx).1
                have hB6 : Below W2.heap.size W2 w6 := hB5.trans (hb6.mono hB5.size)
                clear HJn hr6 hb6
                go_wp2_with fail
                go_roundw
                case rel => exact ⟨i + 1, joinPL L i k, a6, c6, true, by omega, by go_num, rfl, rfl, hs6, ⟨hTj.out.1, (fun h => by cases h), fun _ => Nat.lt_of_lt_of_le hTj.out.2 hr0.out⟩, hB6, hq6⟩
                case measure => simp [intOf]; omega
            · obtain rfl : i = k := by omega
              clear hik
              go_wp2_with fail
              go_roundw
              case rel => exact ⟨i + 1, L, a4, c4, f2, by omega, by go_num, rfl, rfl, hs4, ⟨hI4.out.1, fun h => by
                obtain ⟨q1, q2, q3⟩ := hI4.out.2.1 h
                refine ⟨q1, fun s j h1 h2 h3 => ?_⟩
                by_cases e : j = i
                · subst e; exact q3 s h1 h3
                · exact q2 s j h1 (by omega) h3, hI4.out.2.2⟩, (HM.out _ hb4).2.2.2.2, hq4⟩
              case measure => simp [intOf]; omega
        · obtain rfl : k = n := by omega
          go_wp2_with fail
          have hfin : Hid (f1 = false → Cong p L1) := fun h => cong_all (by rw [HN.out.2.2]; exact (hI3.out.2.1 h).2)
          have hrt : Hid ((f1 = false → L1 = L0) ∧ (f1 = true → rootsN L1 k < rootsN L0 k)) := ⟨fun h => (hI3.out.2.1 h).1, hI3.out.2.2⟩
          go_roundw
          case rel => exact ⟨L1, a3, c3, f1, rfl, rfl, hs3, ⟨hI3.out.1, hfin.out⟩, hb3, hq3⟩
          case measure =>
            have hm : (if k = 0 then flagN (.bool f1) else 2 * rootsN (readL wp (.slice a3 k c3) k) k + flagN (.bool f1)) < (if k = 0 then flagN (.bool true) else 2 * rootsN (readL wo (.slice a2 k c2) k) k + flagN (.bool true)) := by
              by_cases h0 : k = 0
              · rw [if_pos h0, if_pos h0]
                cases f1 with
                | false => exact Nat.lt_succ_self 0
                | true => exact absurd (hrt.out.2 rfl) (by rw [h0]; exact Nat.lt_irrefl 0)
              · rw [if_neg h0, if_neg h0, readL_of hs3 (by omega), readL_of hs2 (by omega)]
                cases f1 with
                | false => rw [hrt.out.1 rfl]; exact Nat.lt_succ_self _
                | true => have := hrt.out.2 rfl; show 2 * _ + 1 < 2 * _ + 1; omega
            exact hm
theorem specCloseF_any {p : List EN} {l0 : List Int} (hN : nodesB p = true) (hP0 : PartsN p.length l0) (a b : Option Addr) (n cap cb : Nat) (w : World) (hE : ESl w a n p) (hS : Sl w b n l0) :
    Calls Tryz.prog 74 #[.slice a n cap, .slice b n cb] w fun e w' => ∃ (v : Option Addr) (c : Nat), e = .returned (.slice v n c) ∧ Sl w' v n (closeL p l0) ∧ Below w.heap.size w w' ∧ FrB w v n c := by
  refine (l6ClosedF_any hN hP0 a b n cap cb w hE hS).mono ?_
  rintro e w' ⟨v, c, L, h1, h2, h3, h4, h5⟩
  rw [close_is hN hP0 h3] at h2
  exact ⟨v, c, h1, h2, h4, h5⟩
end Go.Proofs.YtobgkfpjokfbaaaGreatDoor
namespace Go.Proofs.YtobgkfpjokfbaaaGreatDoor
open Go.ChangeShapes Go.WideShapes Go.ChangeAt Go.RowKit
set_option linter.unusedVariables false

/-- The model's copy on its way: the kids of the first k nodes are by their classes. -/
structure MidM (B : Nat) (W : World) (g len cg : Nat) (ap : Option Addr) (cp : Nat) (p : List EN) (L : List Int) (k : Nat) (xs : List Value) : Prop where
  row : W.ownsRow 0 80 3 (.slice (some ⟨g, 0, none⟩) len cg) len xs
  parts : Sl W ap len L
  pb : ∀ x, (Value.slice ap len cp).ownBlock = some x → x ≠ g ∧ B ≤ x
  nodes : ∀ i, i < len → xs[i * 3]? = some (.int .i64 (p.getD i e0).1) ∧ xs[i * 3 + 1]? = some (.int .i64 (p.getD i e0).2.1) ∧ ∃ a c, xs[i * 3 + 2]? = some (.slice a (p.getD i e0).2.2.length c) ∧ (p.getD i e0).2.2.length ≤ c ∧ Sl W a (p.getD i e0).2.2.length (if i < k then kidsL L (p.getD i e0).2.2 else (p.getD i e0).2.2) ∧ ∀ x, (Value.slice a (p.getD i e0).2.2.length c).ownBlock = some x → x ≠ g ∧ B ≤ x
theorem MidM.keep {B : Nat} {W W' : World} {g len cg : Nat} {ap : Option Addr} {cp : Nat} {p : List EN} {L : List Int} {k : Nat} {xs : List Value} (h : MidM B W g len cg ap cp p L k xs) (hb : Below W.heap.size W W') : MidM B W' g len cg ap cp p L k xs :=
  ⟨row_keep h.row hb, h.parts.keep hb, h.pb, fun i hi => by
    obtain ⟨k1, k2, a, c, k3, k4, k5, k6⟩ := h.nodes i hi
    exact ⟨k1, k2, a, c, k3, k4, k5.keep hb, k6⟩⟩
theorem sl_set {W : World} {a : Option Addr} {n c : Nat} {l : List Int} (h : Sl W a n l) {g : Nat} (hn : ∀ x, (Value.slice a n c).ownBlock = some x → x ≠ g) (o : Nat) (v : Value) : Sl (W.setCell ⟨g, o, none⟩ v) a n l :=
  sl_block h (fun x hx hl => heap_setCell_other W ⟨g, o, none⟩ x v (by
    have := hn x (by rw [own_slice a n c n n]; exact hx)
    exact this)) (by simp)
theorem MidM.step {B : Nat} {W : World} {g len cg : Nat} {ap : Option Addr} {cp : Nat} {p : List EN} {L : List Int} {k : Nat} {xs : List Value} (h : MidM B W g len cg ap cp p L k xs) (hk : k < len) {a : Option Addr} {c : Nat} (hs : Sl W a (p.getD k e0).2.2.length (kidsL L (p.getD k e0).2.2)) (hc : (p.getD k e0).2.2.length ≤ c) (hn : ∀ x, (Value.slice a (p.getD k e0).2.2.length c).ownBlock = some x → x ≠ g ∧ B ≤ x) :
    MidM B (W.setCell ⟨g, k * 3 + 2, none⟩ (.slice a (p.getD k e0).2.2.length c)) g len cg ap cp p L (k + 1) (xs.set (k * 3 + 2) (.slice a (p.getD k e0).2.2.length c)) := by
  have hxl : xs.length = len * 3 := h.row.1
  refine ⟨(h.row.stored (k * 3 + 2) _).1, sl_set h.parts (fun x hx => (h.pb x hx).1) _ _, h.pb, fun i hi => ?_⟩
  obtain ⟨k1, k2, a', c', k3, k4, k5, k6⟩ := h.nodes i hi
  refine ⟨by rw [List.getElem?_set_ne (by omega)]; exact k1, by rw [List.getElem?_set_ne (by omega)]; exact k2, ?_⟩
  by_cases e : i = k
  · subst e
    refine ⟨a, c, by rw [List.getElem?_set_self (by omega)], hc, ?_, hn⟩
    rw [if_pos (by omega)]
    exact sl_set hs (fun x hx => (hn x hx).1) _ _
  · refine ⟨a', c', by rw [List.getElem?_set_ne (by omega)]; exact k3, k4, ?_, k6⟩
    have : (if i < k + 1 then kidsL L (p.getD i e0).2.2 else (p.getD i e0).2.2) = (if i < k then kidsL L (p.getD i e0).2.2 else (p.getD i e0).2.2) := by
      by_cases e1 : i < k
      · rw [if_pos e1, if_pos (by omega)]
      · rw [if_neg e1, if_neg (by omega)]
    rw [this]
    exact sl_set k5 (fun x hx => (k6 x hx).1) _ _
theorem MidM.done {B : Nat} {W : World} {g len cg : Nat} {ap : Option Addr} {cp : Nat} {p : List EN} {L : List Int} {xs : List Value} (h : MidM B W g len cg ap cp p L len xs) (hp : p.length = len) (h3 : ∀ i, i < len → (p.getD i e0).2.2.length ≤ 3) (hg : g < W.heap.size) : ESl W (some ⟨g, 0, none⟩) len (withL L p) := by
  refine ⟨by rw [withL_len]; exact hp, .inr ⟨g, 0, rfl, hg, fun i hi => ?_⟩⟩
  obtain ⟨k1, k2, a, c, k3, k4, k5, k6⟩ := h.nodes i hi
  rw [if_pos hi] at k5
  have := h3 i hi
  refine ⟨a, (p.getD i e0).2.2.length, c, ?_, ?_, ?_, by omega, k4, ?_⟩
  · rw [Nat.zero_add, withL_get L p (by omega), h.row.cellAt (i * 3) (by omega)]; exact k1
  · rw [Nat.zero_add, withL_get L p (by omega), h.row.cellAt (i * 3 + 1) (by omega)]; exact k2
  · rw [Nat.zero_add, h.row.cellAt (i * 3 + 2) (by omega)]; exact k3
  · rw [withL_get L p (by omega)]; exact k5
theorem MidM.out {B : Nat} {W : World} {g len cg : Nat} {ap : Option Addr} {cp : Nat} {p : List EN} {L : List Int} {k : Nat} {xs : List Value} (h : MidM B W g len cg ap cp p L k xs) {q : Nat} (hq : q < B) (hg : B ≤ g) (o : Nat) (v : Value) : MidM B (W.setCell ⟨q, o, none⟩ v) g len cg ap cp p L k xs :=
  ⟨ownsRow_setCell_other h.row (by simp [Value.ownBlock]; omega) v, sl_set h.parts (fun x hx => by have := (h.pb x hx).2; omega) _ _, h.pb, fun i hi => by
    obtain ⟨k1, k2, a, c, k3, k4, k5, k6⟩ := h.nodes i hi
    exact ⟨k1, k2, a, c, k3, k4, sl_set k5 (fun x hx => by have := (k6 x hx).2; omega) _ _, k6⟩⟩
theorem MidM.map {B : Nat} {W W' : World} {g len cg : Nat} {ap : Option Addr} {cp : Nat} {p : List EN} {L : List Int} {k : Nat} {xs : List Value} (h : MidM B W g len cg ap cp p L k xs) (hg : B ≤ g) (hs : W.heap.size ≤ W'.heap.size) (hk : ∀ b, B ≤ b → b < W.heap.size → W'.heap[b]? = W.heap[b]?) : MidM B W' g len cg ap cp p L k xs :=
  ⟨row_map h.row (fun x hx hl => hk x (by have e : some g = some x := hx; injection e with e; omega) hl), sl_block h.parts (fun x hx hl => hk x (h.pb x (by rw [own_slice ap len cp len len]; exact hx)).2 hl) hs, h.pb, fun i hi => by
    obtain ⟨k1, k2, a, c, k3, k4, k5, k6⟩ := h.nodes i hi
    exact ⟨k1, k2, a, c, k3, k4, sl_block k5 (fun x hx hl => hk x (k6 x (by rw [own_slice a _ c _ (p.getD i e0).2.2.length]; exact hx)).2 hl) hs, k6⟩⟩
/-- An answer that is read wherever the blocks of S stay. -/
def SafeM (w : World) (S : Nat → Prop) (va vb : Value) (g : GS) : Prop := ∀ w', w.heap.size ≤ w'.heap.size → (∀ b, S b → b < w.heap.size → w'.heap[b]? = w.heap[b]?) → ReadG w' va vb g
theorem MidM.start {B : Nat} {W : World} {va vb : Value} {p : List EN} {l : List Int} {S : Nat → Prop} {len : Nat} (hSB : ∀ x, S x → B ≤ x) (h : GOwn W false S va vb (p, l)) (hp : p.length = len) (h0 : 0 < len) {ap : Option Addr} {cp : Nat} {L : List Int} (hL : Sl W ap len L) : ∃ g cg xs, va = .slice (some ⟨g, 0, none⟩) len cg ∧ S g ∧ g < W.heap.size ∧ ((∀ x, (Value.slice ap len cp).ownBlock = some x → x ≠ g ∧ B ≤ x) → MidM B W g len cg ap cp p L 0 xs) := by
  obtain ⟨xs, kv, h1, h2, h3, h4, h5⟩ := h
  subst hp
  obtain ⟨g, cg, rfl, hg⟩ : ∃ g cg, va = .slice (some ⟨g, 0, none⟩) p.length cg ∧ g < W.heap.size := by
    rcases h1.2 with ⟨_, h0'⟩ | ⟨g, cap, cur, e, _, hg, _⟩
    · simp only at h0'; omega
    · exact ⟨g, cap, e, (Array.getElem?_eq_some_iff.1 hg).1⟩
  refine ⟨g, cg, xs, rfl, (h3 g rfl).1, hg, fun hpb => ⟨h1, hL, hpb, fun i hi => ?_⟩⟩
  obtain ⟨k1, k2, k3, a, c, e, q1, q2, q3, q4, _⟩ := h5 i hi
  simp only at k1 k2 k3 q1 q2 q3 q4 e
  rw [e] at k3 q4
  refine ⟨k1, k2, a, c, k3, q1, ?_, fun x hx => ?_⟩
  · rw [if_neg (Nat.not_lt_zero _)]; exact q3
  · have := (q4 x hx).1.2.1
    refine ⟨fun e2 => ?_, hSB x (q4 x hx).1.1⟩
    subst e2
    exact this rfl
set_option maxHeartbeats 6400000 in
set_option maxRecDepth 20000 in
theorem specMerged_any {p : List EN} {l : List Int} (hN : nodesB p = true) (hP : PartsN p.length l) (a b : Option Addr) (len cap cb : Nat) {x y : Nat} (hx : x < p.length) (hy : y < p.length) (w : World) (h : ESl w a len p) (hl : Sl w b len l) :
    Calls Tryz.prog 48 #[.agg #[.slice a len cap, .slice b len cb], .int .i64 x, .int .i64 y] w fun e w' => ∃ va vb, e = .returned (.agg #[va, vb]) ∧ SafeM w' (fun b => w.heap.size ≤ b) va vb (mergeG p l x y) ∧ Below w.heap.size w w' := by
  have hpl : p.length = len := h.1
  have hll : l.length = len := hl.1
  have hn120 : len ≤ 120 := by have := ((nodesB_iff p).1 hN).1; omega
  have hJ := joinPL_parts hP hx hy
  have hlen0 : 0 < len := by omega
  have hfew : ∀ i, i < len → (p.getD i e0).2.2.length ≤ 3 := fun i hi => fit_few (((nodesB_iff p).1 hN).2 i (by omega))
  have hkid : ∀ i, i < len → ∀ j, j < (p.getD i e0).2.2.length → ∃ z : Nat, (p.getD i e0).2.2.getD j 0 = z ∧ z < len := fun i hi j hj => by
    obtain ⟨z, h1, h2⟩ := kid_natI (k := i) (j := j) hN (by omega) hj
    exact ⟨z, h1, by omega⟩
  obtain ⟨W1, hW1⟩ : ∃ W1, (w.alloc (.cells #[.slice a len cap, .slice b len cb] 36)).alloc (.cells #[.slice none 0 0, .slice none 0 0] 36) = W1 := ⟨_, rfl⟩
  have hb1 : Below w.heap.size w W1 := by rw [← hW1]; exact ((Below.refl _ _).alloc (Nat.le_refl _) _).alloc (by simp) _
  have hs1 : W1.heap.size = w.heap.size + 2 := by rw [← hW1]; simp
  have n0 : W1.cell? ⟨w.heap.size, 0, none⟩ = some (.slice a len cap) := by rw [← hW1]; simp [go_sem]
  have n1 : W1.cell? ⟨w.heap.size, 1, none⟩ = some (.slice b len cb) := by rw [← hW1]; simp [go_sem]
  have r0 : W1.cell? ⟨w.heap.size + 1, 0, none⟩ = some (.slice none 0 0) := by rw [← hW1]; simp [go_sem]
  have r1 : W1.cell? ⟨w.heap.size + 1, 1, none⟩ = some (.slice none 0 0) := by rw [← hW1]; simp [go_sem]
  have f0 : W1.frozen? ⟨w.heap.size + 1, 0, none⟩ = false := by rw [← hW1]; simp [go_sem]
  have f1 : W1.frozen? ⟨w.heap.size + 1, 1, none⟩ = false := by rw [← hW1]; simp [go_sem]
  have HX : Hid (∀ W, Below W1.heap.size W1 W → (W.cell? ⟨w.heap.size, 0, none⟩ = some (.slice a len cap) ∧ W.cell? ⟨w.heap.size, 1, none⟩ = some (.slice b len cb)) ∧ (W.cell? ⟨w.heap.size + 1, 0, none⟩ = some (.slice none 0 0) ∧ W.cell? ⟨w.heap.size + 1, 1, none⟩ = some (.slice none 0 0) ∧ W.frozen? ⟨w.heap.size + 1, 0, none⟩ = false ∧ W.frozen? ⟨w.heap.size + 1, 1, none⟩ = false) ∧ ESl W a len p ∧ Sl W b len l ∧ Below w.heap.size w W) := fun W hW => ⟨⟨(hW.cell (p := ⟨w.heap.size, 0, none⟩) (by show w.heap.size < _; omega)).trans n0, (hW.cell (p := ⟨w.heap.size, 1, none⟩) (by show w.heap.size < _; omega)).trans n1⟩, ⟨(hW.cell (p := ⟨w.heap.size + 1, 0, none⟩) (by show w.heap.size + 1 < _; omega)).trans r0, (hW.cell (p := ⟨w.heap.size + 1, 1, none⟩) (by show w.heap.size + 1 < _; omega)).trans r1, (hW.frozen (p := ⟨w.heap.size + 1, 0, none⟩) (by show w.heap.size + 1 < _; omega)).trans f0, (hW.frozen (p := ⟨w.heap.size + 1, 1, none⟩) (by show w.heap.size + 1 < _; omega)).trans f1⟩, (h.keep hb1).keep hW, (hl.keep hb1).keep hW, hb1.trans (hW.mono hb1.size)⟩
  have HO := (show Hid _ from l6Own_any a b len cap len cb p l W1 (h.keep hb1) (hl.keep hb1) (by omega) (by omega) hfew)
  have HJo := fun (W : World) (hW : Below W1.heap.size W1 W) => l5Join_any b len cb l x y W (HX.out W hW).2.2.2.1 (par_nonneg hP) (by omega) (by omega) (by omega)
  have HCl := fun (W : World) (hW : Below W1.heap.size W1 W) (a' : Option Addr) (c' : Nat) (hs : Sl W a' len (joinPL l x y)) => specCloseF_any hN hJ a a' len cap c' W (HX.out W hW).2.2.1 hs
  have hLl := closeL_len hN hJ
  have HH : Hid (p.length = len ∧ (closeL p (joinPL l x y)).length = len ∧ W1.heap.size = w.heap.size + 2 ∧ mergeG p l x y = (withL (closeL p (joinPL l x y)) p, closeL p (joinPL l x y)) ∧ (∀ i, i < len → (p.getD i e0).2.2.length ≤ 3) ∧ ∀ i, i < len → ∀ j, j < (p.getD i e0).2.2.length → ∃ z : Nat, (p.getD i e0).2.2.getD j 0 = z ∧ z < len) := ⟨hpl, by rw [hLl]; exact hpl, hs1, rfl, hfew, hkid⟩
  generalize mergeG p l x y = M at HH ⊢
  generalize closeL p (joinPL l x y) = L at HCl HH
  generalize joinPL l x y = J at HJo HCl
  clear h hl hb1 hs1 r0 r1 f0 f1 hJ hLl hfew hkid hN hP hpl hll
  go_enter Tryz.func48, Tryz.ntmps48
  go_wp2_with fail
  (try rw [hW1])
  refine Calls.mono HO.out ?_
  rintro e w2 ⟨va, vb, rfl, hG2, hb2⟩
  obtain ⟨ga, ca, gb, cb2, rfl, rfl, _, _⟩ := hG2.reads
  clear HO hW1 n0 n1
  obtain ⟨W3, hW3⟩ : ∃ W3, w2.alloc (.cells #[.slice ga p.length ca, .slice gb l.length cb2] 36) = W3 := ⟨_, rfl⟩
  have hb3 : Below w2.heap.size w2 W3 := by rw [← hW3]; exact (Below.refl _ _).alloc (Nat.le_refl _) _
  have o0 : W3.cell? ⟨w2.heap.size, 0, none⟩ = some (.slice ga p.length ca) := by rw [← hW3]; simp [go_sem]
  have o1 : W3.cell? ⟨w2.heap.size, 1, none⟩ = some (.slice gb l.length cb2) := by rw [← hW3]; simp [go_sem]
  have of0 : W3.frozen? ⟨w2.heap.size, 1, none⟩ = false := by rw [← hW3]; simp [go_sem]
  have hs3 : w2.heap.size < W3.heap.size := by rw [← hW3]; simp
  have hB3 : Below W1.heap.size W1 W3 := hb2.trans (hb3.mono hb2.size)
  have HG3 := (show Hid _ from (hG2.sets (S' := fun x => W1.heap.size ≤ x ∧ x < w2.heap.size) (fun b hb h => ⟨h, hb⟩)).keep hb3)
  have HB23 := (show Hid _ from hs3)
  have hs2 := hb2.size
  have HB3 : Hid (Below W1.heap.size W1 W3) := hB3
  have hBd : Below W1.heap.size W1 W3.drew := hB3.drew
  have HO3 : Hid (∀ W, Below W3.heap.size W3 W → W.cell? ⟨w2.heap.size, 0, none⟩ = some (.slice ga p.length ca) ∧ W.cell? ⟨w2.heap.size, 1, none⟩ = some (.slice gb l.length cb2) ∧ W.frozen? ⟨w2.heap.size, 1, none⟩ = false) := fun W hW => ⟨(hW.cell (p := ⟨w2.heap.size, 0, none⟩) hs3).trans o0, (hW.cell (p := ⟨w2.heap.size, 1, none⟩) hs3).trans o1, (hW.frozen (p := ⟨w2.heap.size, 1, none⟩) hs3).trans of0⟩
  have hDd : Below W3.heap.size W3 W3.drew := (Below.refl _ _).drew
  have HXc := fun (W : World) (hW : Below W1.heap.size W1 W) => (HX.out W hW).1
  have zD := HXc W3.drew hBd
  obtain ⟨t0, t1⟩ := HXc W3 hB3
  have hne : ∀ o o' : Nat, (⟨w2.heap.size, o, none⟩ : Addr) ≠ ⟨w.heap.size, o', none⟩ := fun o o' e => by injection e; have := HH.out.2.2.1; omega
  have HSet : Hid (∀ (W : World) (v : Value), W.cell? ⟨w.heap.size, 0, none⟩ = some (.slice a len cap) ∧ W.cell? ⟨w.heap.size, 1, none⟩ = some (.slice b len cb) → (W.setCell ⟨w2.heap.size, 1, none⟩ v).cell? ⟨w.heap.size, 0, none⟩ = some (.slice a len cap) ∧ (W.setCell ⟨w2.heap.size, 1, none⟩ v).cell? ⟨w.heap.size, 1, none⟩ = some (.slice b len cb)) := fun W v hW => ⟨(World.cell?_setCell_other _ _ _ _ (hne 1 0)).trans hW.1, (World.cell?_setCell_other _ _ _ _ (hne 1 1)).trans hW.2⟩
  clear hb2 hB3 o0 o1 of0 hs3 hb3 hG2
  go_wp2_with fail
  (try rw [hW3])
  clear hW3
  go_region_held3 (fun w' => w'.cell? ⟨w.heap.size, 0, none⟩ = some (.slice a len cap) ∧ w'.cell? ⟨w.heap.size, 1, none⟩ = some (.slice b len cb))
    (first | with_reducible assumption | assumption | exact sS _)
    (first
    | (go_at_call 75; refine Calls.mono (HJo W3.drew hBd) ?_; rintro e v4 ⟨vj, rfl, hrj, hb4⟩; obtain ⟨aj, cj, rfl, hsj⟩ := Sl.vals hrj; have hB4 : Below W1.heap.size W1 v4 := hBd.trans (hb4.mono hBd.size); have hD4 : Below W3.heap.size W3 v4 := hDd.trans (hb4.mono hDd.size); have z4 := HXc v4 hB4; clear hrj hb4)
    | (go_at_call 74; refine Calls.mono (HCl v4 hB4 aj cj hsj) ?_; rintro e v5 ⟨ap, cp, rfl, hsp, hb5, hfr⟩; have hB5 : Below W1.heap.size W1 v5 := hB4.trans (hb5.mono hB4.size); have hD5 : Below W3.heap.size W3 v5 := hD4.trans (hb5.mono hD4.size); have z5 := HXc v5 hB5; have sS := fun v : Value => HSet.out v5 v z5; obtain ⟨y0, y1, y2⟩ := HO3.out v5 hD5; clear hb5))
  obtain ⟨hpl, hLl, hs1, hM, hfew, hkid⟩ := HH.out
  have hG3 : GOwn W3 false (fun x => W1.heap.size ≤ x ∧ x < w2.heap.size) (.slice ga p.length ca) (.slice gb l.length cb2) (p, l) := HG3.out
  have hG5 := GOwn.keep hG3 hD5
  have hB2lt : w2.heap.size < v4.heap.size := Nat.lt_of_lt_of_le HB23.out hD4.size
  obtain ⟨W6, hW6⟩ : ∃ W6, v5.setCell ⟨w2.heap.size, 1, none⟩ (.slice ap len cp) = W6 := ⟨_, rfl⟩
  have hB6 : Below W1.heap.size W1 W6 := by rw [← hW6]; exact hB5.setCell (by show W1.heap.size ≤ w2.heap.size; omega) _
  have hz6 : W6.heap.size = v5.heap.size := by rw [← hW6, setCell_size]
  have hG6 : GOwn W6 false (fun x => W1.heap.size ≤ x ∧ x < w2.heap.size) (.slice ga p.length ca) (.slice gb l.length cb2) (p, l) := hG5.map (by omega) (fun b hb hl => by rw [← hW6]; exact setCell_block _ _ _ (show w2.heap.size ≠ b by omega)) (fun _ _ h => h)
  have hS6 : Sl W6 ap len L := by rw [← hW6]; exact sl_set hsp (fun x hx e => by have := hfr x hx; omega) _ _
  obtain ⟨g, cg, xs0, hga, hgS, hgl, hMid⟩ := MidM.start (B := W1.heap.size) (fun x hx => hx.1) hG6 hpl hlen0 hS6 (cp := cp)
  have hM0 := hMid (fun x hx => by have := hfr x hx; omega)
  injection hga with hga1 hga2 hga3
  subst hga1
  subst hga3
  have b0 : W6.cell? ⟨w2.heap.size, 0, none⟩ = some (.slice (some ⟨g, 0, none⟩) len ca) := by rw [← hW6, World.cell?_setCell_other _ _ _ _ (fun e => by injection e; omega), y0, hpl]
  have b1 : W6.cell? ⟨w2.heap.size, 1, none⟩ = some (.slice ap len cp) := by rw [← hW6]; simp [go_sem, y1]
  have HR6 := (show Hid _ from hM0)
  have hgB : g < w2.heap.size := hgS.2
  have hB2l : w2.heap.size < W6.heap.size := by have := Nat.lt_of_lt_of_le HB23.out hD5.size; omega
  rw [hpl]
  rw [hW6]
  clear hG3 hG5 hG6 hS6 hMid HG3 HB23 HJo HCl HSet HO3 hW6 y0 y1 y2 sS z4 z5 zD t0 t1 HB3 hBd hDd hD4 hD5 hsj hsp hfr hB4 hne hpl hLl hM hfew hkid
  go_wp2_with fail
  generalize w2.heap.size = B2 at *
  go_loopw [24] (fun i wr => ∃ (k : Nat), k ≤ len ∧ i = .int .i64 k ∧ wr.cell? ⟨B2, 0, none⟩ = some (.slice (some ⟨g, 0, none⟩) len ca) ∧ wr.cell? ⟨B2, 1, none⟩ = some (.slice ap len cp) ∧ Hid (∃ xs, MidM W1.heap.size wr g len ca ap cp p L k xs) ∧ B2 < wr.heap.size ∧ Below W1.heap.size W1 wr) (fun i _ => len - (intOf i).toNat)
  case atStart => exact ⟨0, Nat.zero_le _, rfl, b0, b1, ⟨_, HR6.out⟩, hB2l, hB6⟩
  case round =>
    obtain ⟨k, hk, rfl, s0, s1, hT, hwl, hbr⟩ := hrel
    obtain ⟨wo, rfl⟩ : ∃ x, x = wr := ⟨_, rfl⟩
    clear b0 b1 HR6 hB6 hB2l hz6
    by_cases hlt : k < len
    · obtain ⟨xs, hM⟩ := hT.out
      obtain ⟨k1, k2, ai, ci, k3, k4, k5, k6⟩ := hM.nodes k hlt
      rw [if_neg (Nat.lt_irrefl _)] at k5
      have hxl : xs.length = len * 3 := hM.row.1
      have c1 := (hM.row.cellAt (k * 3) (by omega)).trans k1
      have c2 := (hM.row.cellAt (k * 3 + 1) (by omega)).trans k2
      have c3 := (hM.row.cellAt (k * 3 + 2) (by omega)).trans k3
      have hstep := fun (W : World) (h : MidM W1.heap.size W g len ca ap cp p L k xs) (a : Option Addr) (c : Nat) => h.step hlt (a := a) (c := c)
      have hkk := HH.out.2.2.2.2.2 k hlt
      have hk3 := HH.out.2.2.2.2.1 k hlt
      obtain ⟨y, hy⟩ : ∃ y, p.getD k e0 = y := ⟨_, rfl⟩
      rw [hy] at c1 c2 c3 k5 hkk hk3 hstep
      obtain ⟨yo, yn, yk⟩ := y
      simp only at c1 c2 c3 k5 hkk hk3 hstep
      have hkl : (k : Int) < len := by omega
      obtain ⟨B5, hB5⟩ : ∃ B5, wo.heap.size = B5 := ⟨_, rfl⟩
      obtain ⟨W2, hW2⟩ : ∃ W2, wo.alloc (.cells #[.int .i64 yo, .int .i64 yn, .slice ai yk.length ci] 80) = W2 := ⟨_, rfl⟩
      have hb2 : Below wo.heap.size wo W2 := by rw [← hW2]; exact (Below.refl _ _).alloc (Nat.le_refl _) _
      have hs2 : W2.heap.size = wo.heap.size + 1 := by rw [← hW2]; simp
      have o2 : W2.cell? ⟨wo.heap.size, 2, none⟩ = some (.slice ai yk.length ci) := by rw [← hW2]; simp [go_sem]
      rw [hB5] at o2
      have hglt : g < wo.heap.size := by omega
      have hne5 : ¬ B2 = B5 := by omega
      have hg5 : ¬ g = B5 := by omega
      have hgB2 : ¬ g = B2 := by omega
      have hBW : Below W1.heap.size W1 W2 := hbr.trans (hb2.mono hbr.size)
      have HC : Hid (∀ W, Below W2.heap.size W2 W → (W.cell? ⟨B2, 0, none⟩ = some (.slice (some ⟨g, 0, none⟩) len ca) ∧ W.cell? ⟨B2, 1, none⟩ = some (.slice ap len cp)) ∧ W.cell? ⟨B5, 2, none⟩ = some (.slice ai yk.length ci)) := fun W hW => by
        have hX := hb2.trans (hW.mono hb2.size)
        exact ⟨⟨(hX.cell (p := ⟨B2, 0, none⟩) hwl).trans s0, (hX.cell (p := ⟨B2, 1, none⟩) hwl).trans s1⟩, (hW.cell (p := ⟨B5, 2, none⟩) (by show B5 < _; omega)).trans o2⟩
      have HO : Hid (∀ W, Below W2.heap.size W2 W → Calls Tryz.prog 76 #[.slice ap len cp, .slice ai yk.length ci] W fun e w' => ∃ v : Value, e = .returned v ∧ w'.ownsRow W.heap.size 3 1 v yk.length (vals (kidsL L yk)) ∧ Below W.heap.size W w') := fun W hW => by
        have hX := hb2.trans (hW.mono hb2.size)
        exact spKids_any ap ai len cp yk.length ci L yk W (hM.parts.keep hX) (k5.keep hX) (by omega) hkk
      have HR : Hid (∀ (W : World) (ka : Option Addr) (kc : Nat), Below W2.heap.size W2 W → W.ownsRow W2.heap.size 3 1 (.slice ka yk.length kc) yk.length (vals (kidsL L yk)) →
          ((W.cell? ⟨g, k * 3 + 2, none⟩ = some (.slice ai yk.length ci) ∧ W.frozen? ⟨g, k * 3 + 2, none⟩ = false) ∧
          (∀ v, ((W.setCell ⟨g, k * 3 + 2, none⟩ v).cell? ⟨B2, 0, none⟩ = some (.slice (some ⟨g, 0, none⟩) len ca) ∧ (W.setCell ⟨g, k * 3 + 2, none⟩ v).cell? ⟨B2, 1, none⟩ = some (.slice ap len cp)) ∧ (W.setCell ⟨g, k * 3 + 2, none⟩ v).cell? ⟨B5, 2, none⟩ = some (.slice ai yk.length ci)) ∧
          Hid (∃ xs', MidM W1.heap.size (W.setCell ⟨g, k * 3 + 2, none⟩ (.slice ka yk.length kc)) g len ca ap cp p L (k + 1) xs' ∧ B2 < (W.setCell ⟨g, k * 3 + 2, none⟩ (.slice ka yk.length kc)).heap.size ∧ Below W1.heap.size W1 (W.setCell ⟨g, k * 3 + 2, none⟩ (.slice ka yk.length kc))))) := fun W ka kc hW hkv => by
        have hX := hb2.trans (hW.mono hb2.size)
        have hMW := hM.keep hX
        obtain ⟨⟨x0, x1⟩, x2⟩ := HC.out W hW
        obtain ⟨ka', kc', e', hsl⟩ := Sl.vals hkv
        injection e' with e1 e2 e3
        subst e1
        subst e3
        have hkc : yk.length ≤ kc := by
          rcases hkv.2 with ⟨h0, h1⟩ | ⟨g', cap', cur, h0, h1⟩
          · omega
          · injection h0 with h2 h3 h4
            have := h1.2
            obtain ⟨_, h5, _⟩ := this
            omega
        have nq : ∀ b o, b ≠ g → (⟨g, k * 3 + 2, none⟩ : Addr) ≠ ⟨b, o, none⟩ := fun b o h e => by injection e; omega
        have hws := hX.size
        refine ⟨⟨by rw [hMW.row.cellAt (k * 3 + 2) (by omega)]; have := k3; rw [hy] at this; exact this, hMW.row.frozenAt (k * 3 + 2)⟩, fun v => ⟨⟨?_, ?_⟩, ?_⟩, _, hstep W hMW ka kc hsl hkc (fun x hx => by have h8 := hkv.lt x hx; have h9 := hBW.size; omega), by rw [setCell_size]; omega, (hbr.trans (hX.mono hbr.size)).setCell (by show W1.heap.size ≤ g; exact hgS.1) _⟩
        · rw [World.cell?_setCell_other _ _ _ _ (nq _ _ (by omega))]; exact x0
        · rw [World.cell?_setCell_other _ _ _ _ (nq _ _ (by omega))]; exact x1
        · rw [World.cell?_setCell_other _ _ _ _ (nq _ _ (by omega))]; exact x2
      have zW := HC.out W2 (Below.refl _ _)
      have zD := HC.out W2.drew (Go.below_drewN (Below.refl _ _) 1)
      clear hT hM k1 k2 k3 k4 k5 k6 hxl hstep hkk hk3 hy o2 hs2 hglt
      go_wp2_with fail
      (try rw [hW2])
      (try rw [hB5])
      clear hW2
      go_region_held3 (fun w' => (w'.cell? ⟨B2, 0, none⟩ = some (.slice (some ⟨g, 0, none⟩) len ca) ∧ w'.cell? ⟨B2, 1, none⟩ = some (.slice ap len cp)) ∧ w'.cell? ⟨B5, 2, none⟩ = some (.slice ai yk.length ci))
        (first | with_reducible assumption | assumption | exact sS _)
        (first | (go_at_call 76; refine Calls.mono (HO.out W2.drew (Go.below_drewN (Below.refl _ _) 1)) ?_; rintro e w4 ⟨v, rfl, hkv, hb4⟩; obtain ⟨ka, kc, rfl, _⟩ := row_slice hkv; have hB4 : Below W2.heap.size W2 w4 := (Go.below_drewN (Below.refl _ _) 1).trans hb4; have z4 := HC.out w4 hB4; obtain ⟨⟨t2, tf⟩, sS, HN⟩ := HR.out w4 ka kc hB4 hkv; obtain ⟨⟨q0, q1⟩, -⟩ := sS (.slice ka yk.length kc); clear hkv hb4 hB4))
      clear HO HR HC sS z4 zW zD t2 tf
      go_wp2
      go_roundw
      case rel =>
        obtain ⟨xs', h1, h2, h3⟩ := HN.out
        exact ⟨k + 1, by omega, by go_num, q0, q1, ⟨xs', h1⟩, h2, h3⟩
      case measure => simp [intOf]; omega
    · obtain rfl : k = len := by omega
      obtain ⟨xs, hM⟩ := hT.out
      obtain ⟨hpl, hLl, hs1, hMe, hfew, hkid⟩ := HH.out
      have hX1 := HX.out wo hbr
      have HXe : Hid (∀ v0 v1, SafeM ((wo.setCell ⟨w.heap.size + 1, 0, none⟩ v0).setCell ⟨w.heap.size + 1, 1, none⟩ v1) (fun b => w.heap.size ≤ b) (.slice (some ⟨g, 0, none⟩) k ca) (.slice ap k cp) M ∧ Below w.heap.size w ((wo.setCell ⟨w.heap.size + 1, 0, none⟩ v0).setCell ⟨w.heap.size + 1, 1, none⟩ v1)) := fun v0 v1 => by
        have h0 := hX1.2.2.2.2
        refine ⟨fun w' hs' hk' => ?_, (h0.setCell (by show w.heap.size ≤ w.heap.size + 1; omega) _).setCell (by show w.heap.size ≤ w.heap.size + 1; omega) _⟩
        have hM2 := (hM.out (show w.heap.size + 1 < W1.heap.size by omega) hgS.1 0 v0).out (show w.heap.size + 1 < W1.heap.size by omega) hgS.1 1 v1
        have hM3 := hM2.map hgS.1 hs' (fun b hb hl => hk' b (by omega) hl)
        rw [setCell_size, setCell_size] at hs'
        rw [hMe]
        refine ⟨some ⟨g, 0, none⟩, ca, ap, cp, ?_, ?_, ?_, ?_⟩
        · show _ = Value.slice _ (withL L p).length _
          rw [withL_len, hpl]
        · show _ = Value.slice _ L.length _
          rw [hLl]
        · show ESl _ _ (withL L p).length (withL L p)
          rw [withL_len, hpl]
          exact hM3.done hpl hfew (by omega)
        · show Sl _ _ L.length L
          rw [hLl]
          exact hM3.parts
      obtain ⟨-, ⟨t0, t1, u0, u1⟩, -⟩ := hX1
      clear hT hM hpl hLl hs1 hMe hfew hkid HX
      go_wp2
      refine bodyPost_ret (v := .agg #[.slice (some ⟨g, 0, none⟩) k ca, .slice ap k cp]) ?_ ?_ ?_
      · simp [results, Tryz.results48, go_sem, *]
      · rfl
      · exact ⟨_, _, rfl, (HXe.out _ _).1, (HXe.out _ _).2⟩
end Go.Proofs.YtobgkfpjokfbaaaGreatDoor
namespace Go.Proofs.YtobgkfpjokfbaaaGreatDoor
open Go.ChangeShapes Go.WideShapes Go.ChangeAt Go.RowKit
set_option linter.unusedVariables false

/-- A graph that lies in blocks of S. -/
def Safe (w : World) (S : Nat → Prop) (va vb : Value) (g : GS) : Prop := ∀ w', w.heap.size ≤ w'.heap.size → (∀ b, S b → b < w.heap.size → w'.heap[b]? = w.heap[b]?) → ReadG w' va vb g
theorem GOwn.safe {w : World} {s : Bool} {S : Nat → Prop} {va vb : Value} {g : GS} (h : GOwn w s S va vb g) : Safe w S va vb g := fun w' hs hk => (h.map hs hk (fun _ _ h => h)).reads
theorem AnsI.safe {w : World} {S : Nat → Prop} {va vb : Value} {g : GS} (h : AnsI w S va vb g) : Safe w S va vb g := fun w' hs hk => (h.map hs hk (fun _ _ h => h)).read
/-- What a drawn statement leaves: an answer in its box. -/
def EndR (W1 wx : World) (bx : Nat) (va vb : Value) (g : GS) : Prop := Below W1.heap.size W1 wx ∧ ReadG wx va vb g ∧ wx.cell? ⟨bx, 0, none⟩ = some va ∧ wx.cell? ⟨bx, 1, none⟩ = some vb ∧ bx < wx.heap.size
theorem alloc_below (w : World) (o : Obj) : Below w.heap.size w (w.alloc o) := (Below.refl _ _).alloc (Nat.le_refl _) _
theorem nhi {n b bx : Nat} (h : n ≤ b) (h' : bx < n) : bx ≠ b := by omega
theorem endR_alloc {W1 w7 : World} {S : Nat → Prop} {a6 : Option Addr} {n6 ca6 : Nat} {b6 : Option Addr} {m6 cb6 : Nat} {g : GS} (hB : Below W1.heap.size W1 w7) (hG : Safe w7 S (.slice a6 n6 ca6) (.slice b6 m6 cb6) g) :
    EndR W1 (w7.alloc (.cells #[.slice a6 n6 ca6, .slice b6 m6 cb6] 36)) w7.heap.size (.slice a6 n6 ca6) (.slice b6 m6 cb6) g :=
  ⟨hB.alloc hB.size _, hG _ (alloc_below _ _).size (fun b _ hl => (alloc_below _ _).block b hl), by simp [go_sem], by simp [go_sem], by simp⟩
theorem endR_set {W1 w7 : World} {bx : Nat} {S : Nat → Prop} {a6 : Option Addr} {n6 ca6 : Nat} {b6 : Option Addr} {m6 cb6 : Nat} {g : GS} {u0 u1 : Value} (hB : Below W1.heap.size W1 w7) (hG : Safe w7 S (.slice a6 n6 ca6) (.slice b6 m6 cb6) g) (hS : ∀ b', S b' → bx ≠ b')
    (p0 : w7.cell? ⟨bx, 0, none⟩ = some u0) (p1 : w7.cell? ⟨bx, 1, none⟩ = some u1) (h1 : W1.heap.size ≤ bx) (h2 : bx < w7.heap.size) :
    EndR W1 ((w7.setCell ⟨bx, 0, none⟩ (.slice a6 n6 ca6)).setCell ⟨bx, 1, none⟩ (.slice b6 m6 cb6)) bx (.slice a6 n6 ca6) (.slice b6 m6 cb6) g := by
  have hs : ((w7.setCell ⟨bx, 0, none⟩ (.slice a6 n6 ca6)).setCell ⟨bx, 1, none⟩ (.slice b6 m6 cb6)).heap.size = w7.heap.size := by rw [setCell_size, setCell_size]
  refine ⟨(hB.setCell h1 _).setCell h1 _, hG _ (by rw [hs]; exact Nat.le_refl _) (fun b hb _ => by rw [setCell_block _ _ _ (hS b hb), setCell_block _ _ _ (hS b hb)]), ?_, ?_, by omega⟩
  · rw [World.cell?_setCell_other _ _ _ _ (fun e => by injection e with _ e _; exact absurd e (by decide))]
    exact World.cell?_setCell_same _ _ _ p0
  · refine World.cell?_setCell_same _ _ _ (u := u1) ?_
    rw [World.cell?_setCell_other _ _ _ _ (fun e => by injection e with _ e _; exact absurd e (by decide))]
    exact p1
theorem boxR {Wa W5 w7 : World} (h : Below (Wa.alloc (.cells #[.slice none 0 0, .slice none 0 0] 36)).heap.size (Wa.alloc (.cells #[.slice none 0 0, .slice none 0 0] 36)) W5) (hk : Below W5.heap.size W5 w7) : w7.cell? ⟨Wa.heap.size, 0, none⟩ = some (.slice none 0 0) ∧ w7.cell? ⟨Wa.heap.size, 1, none⟩ = some (.slice none 0 0) ∧ w7.frozen? ⟨Wa.heap.size, 0, none⟩ = false ∧ w7.frozen? ⟨Wa.heap.size, 1, none⟩ = false ∧ Wa.heap.size < W5.heap.size ∧ Wa.heap.size < w7.heap.size := by
  have hs : Wa.heap.size < (Wa.alloc (.cells #[.slice none 0 0, .slice none 0 0] 36)).heap.size := by simp
  have hs5 := h.size
  have hs7 := hk.size
  have hb : w7.heap[Wa.heap.size]? = (Wa.alloc (.cells #[.slice none 0 0, .slice none 0 0] 36)).heap[Wa.heap.size]? := (hk.block _ (by omega)).trans (h.block _ hs)
  exact ⟨(World.cell?_of_block (a := ⟨Wa.heap.size, 0, none⟩) hb).trans (by simp [go_sem]), (World.cell?_of_block (a := ⟨Wa.heap.size, 1, none⟩) hb).trans (by simp [go_sem]), (World.frozen?_of_block (a := ⟨Wa.heap.size, 0, none⟩) hb).trans (by simp [go_sem]), (World.frozen?_of_block (a := ⟨Wa.heap.size, 1, none⟩) hb).trans (by simp [go_sem]), by omega, by omega⟩
end Go.Proofs.YtobgkfpjokfbaaaGreatDoor
