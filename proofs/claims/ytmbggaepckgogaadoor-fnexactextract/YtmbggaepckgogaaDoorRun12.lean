/-
  PROVED HERE: a region that draws its order, whose operations only read and whose callees turn nothing that lay there ahead of them, may be walked in the order of the text. No condition. what the model's GoodGraph answers, at every graph. No other condition.
-/
import Derived.WalkKit
import Derived.BigQuiet
import Derived.Test.YtmbggaepckgogaaDoorRun11
namespace Go.Proofs.YtmbggaepckgogaaDoor
open Go.RowKit
set_option linter.unusedVariables false

/-- The worlds in which all that lay in W lies unturned. -/
def Ahead (W : World) : Type := {w' : World // Below W.heap.size W w'}
def Ahead.w {W : World} (x : Ahead W) : World := x.1
theorem Ahead.h {W : World} (x : Ahead W) : Below W.heap.size W x.w := x.2
def Ahead.mk {W w' : World} (h : Below W.heap.size W w') : Ahead W := ⟨w', h⟩
theorem Ahead.mk_w {W w' : World} (h : Below W.heap.size W w') : (Ahead.mk h).w = w' := rfl
theorem ahead_some (W : World) : Nonempty (Ahead W) := ⟨Ahead.mk (Below.refl _ _)⟩
theorem wp_region_ahead {P : Program} {id : Nat} {Q : Exit → Act → World → Prop} {a : Act} {w : World} {l : List Oper} (hm : P.follows .mixedOrders = true) (hB : Region.lexB .any l.toArray = true)
    (h : wpQuiet P l.toArray (fun w' => ∃ x : Ahead w, w' = x.w) (fun a' => ∀ w', (∃ x : Ahead w, w' = x.w) → Q .normal a' w') l a) : (Code.region id l.toArray true).wp P Q a w :=
  wp_region_quiet (C := fun w' => ∃ x : Ahead w, w' = x.w) hm hB ⟨Ahead.mk (Below.refl _ _).drew, rfl⟩ h
theorem ahead_of {P : Program} {f : FuncId} {args : Array Value} {W : World} {x : Ahead W} {v : Value}
    (h : Calls P f args x.w fun e w' => e = .returned v ∧ Below x.w.heap.size x.w w') : Calls P f args x.w fun e w' => e = .returned v ∧ ∃ y : Ahead W, w' = y.w :=
  h.mono fun _ w' ⟨he, hb⟩ => ⟨he, Ahead.mk (x.h.trans (hb.mono x.h.size)), rfl⟩
theorem ahead_of_same {P : Program} {f : FuncId} {args : Array Value} {W : World} {x : Ahead W} {v : Value}
    (h : Calls P f args x.w fun e w' => e = .returned v ∧ w' = x.w) : Calls P f args x.w fun e w' => e = .returned v ∧ ∃ y : Ahead W, w' = y.w :=
  h.mono fun _ w' ⟨he, hb⟩ => ⟨he, x, hb⟩
end Go.Proofs.YtmbggaepckgogaaDoor
namespace Go.Proofs.YtmbggaepckgogaaDoor
open Go.ChangeShapes Go.WideShapes Go.ChangeAt Go.RowKit
set_option linter.unusedVariables false

theorem graph_nodes {p : List EN} {l : List Int} (h : nodesB p = false) : graphB p l = false := by
  unfold graphB headB; rw [h]; rfl
theorem graph_parts {p : List EN} {l : List Int} (h : partB l = false) : graphB p l = false := by
  unfold graphB headB; rw [h]; simp
theorem graph_len {p : List EN} {l : List Int} (h : l.length ≠ p.length) : graphB p l = false := by
  unfold graphB headB; rw [decide_eq_false h]; simp
theorem graph_rest {p : List EN} {l : List Int} (h : ¬ Rest p l) : graphB p l = false := by
  unfold graphB; rw [decide_eq_false h]; simp
theorem kid_nat {p : List EN} {k j : Nat} (h : nodesB p = true) (hk : k < p.length) (hj : j < (p.getD k e0).2.2.length) : ∃ y : Nat, (p.getD k e0).2.2.getD j 0 = y ∧ y < k := by
  obtain ⟨_, h2⟩ := (nodesB_iff p).1 h
  obtain ⟨_, _, _, h3⟩ := fit_node (h2 k hk)
  have hm : (p.getD k e0).2.2.getD j 0 ∈ (p.getD k e0).2.2 := by rw [getI_lt hj]; exact List.getElem_mem _
  have := h3 _ hm
  exact ⟨((p.getD k e0).2.2.getD j 0).toNat, by omega, by omega⟩
theorem kidsCl_of {l kids : List Int} (h : ∀ j, j < kids.length → l.getD (kids.getD j 0).toNat 0 = kids.getD j 0) : KidsCl l kids := by
  intro x hx
  obtain ⟨j, hj, rfl⟩ := List.getElem_of_mem hx
  have := h j hj
  rwa [getI_lt hj] at this
theorem kidsCl_at {l kids : List Int} (h : KidsCl l kids) (j : Nat) (hj : j < kids.length) : l.getD (kids.getD j 0).toNat 0 = kids.getD j 0 := h _ (by rw [getI_lt hj]; exact List.getElem_mem _)

set_option maxHeartbeats 3200000 in
set_option maxRecDepth 20000 in
theorem specRest_any (a b : Option Addr) (len cap cb : Nat) (p : List EN) (l : List Int) (w : World) (h : ESl w a len p) (hl : Sl w b len l) (hN : nodesB p = true) (hP : partB l = true) :
    Calls Tryd.prog 24 #[.agg #[.slice a len cap, .slice b len cb]] w fun e w' => e = .returned (.bool (decide (Rest p l))) ∧ Below w.heap.size w w' := by
  have hll := h.1
  have hl1 := hl.1
  have h120 := ((nodesB_iff p).1 hN).1
  obtain ⟨W1, hW1⟩ : ∃ W1, w.alloc (.cells #[.slice a len cap, .slice b len cb] 31) = W1 := ⟨_, rfl⟩
  have hb1 : Below w.heap.size w W1 := by rw [← hW1]; exact (Below.refl _ _).alloc (Nat.le_refl _) _
  have n0 : W1.cell? ⟨w.heap.size, 0, none⟩ = some (.slice a len cap) := by rw [← hW1]; simp [go_sem]
  have n1 : W1.cell? ⟨w.heap.size, 1, none⟩ = some (.slice b len cb) := by rw [← hW1]; simp [go_sem]
  have hs1 : w.heap.size < W1.heap.size := by rw [← hW1]; simp
  have HN := (show Hid _ from specNodes_any a len cap p W1 (h.keep hb1) (by omega))
  have HP : Hid (∀ W, Below W1.heap.size W1 W → Calls Tryd.prog 47 #[.slice b len cb] W fun e w' => e = .returned (.bool true) ∧ w' = W) := fun W hW => by
    have := specParts_any b len cb l W (hl.keep (hb1.trans (hW.mono hb1.size))) (by omega)
    rwa [hP] at this
  rw [hN] at HN
  have hne : ((len : Int) != len) = false := by simp
  have HE : Hid (ESl W1 a len p ∧ Sl W1 b len l ∧ Below w.heap.size w W1) := ⟨h.keep hb1, hl.keep hb1, hb1⟩
  have HNn := (show Hid (nodesB p = true) from hN)
  clear h hl hb1 hN hP
  go_enter Tryd.func24, Tryd.ntmps24
  go_wp2_with fail
  (try rw [hW1])
  refine Calls.mono HN.out ?_
  rintro e w2 ⟨rfl, hb2⟩
  have q0 := (hb2.cell (p := ⟨w.heap.size, 0, none⟩) hs1).trans n0
  have q1 := (hb2.cell (p := ⟨w.heap.size, 1, none⟩) hs1).trans n1
  have HP2 := (show Hid _ from HP.out w2 hb2)
  clear HN HP hW1
  go_wp2_with fail
  refine Calls.mono HP2.out ?_
  rintro e w3 ⟨rfl, rfl⟩
  clear HP2
  go_wp2_with fail
  go_loopw [30] (fun i wr => ∃ k : Nat, k ≤ len ∧ i = .int .i64 k ∧ Below W1.heap.size W1 wr ∧ Hid (∀ j, j < k → KidsCl l (p.getD j e0).2.2 ∧ OneCl p l j)) (fun i _ => len - (intOf i).toNat)
  case atStart => exact ⟨0, Nat.zero_le _, rfl, hb2, fun j hj => absurd hj (Nat.not_lt_zero _)⟩
  case round =>
    obtain ⟨k, hk, rfl, hbr, hT⟩ := hrel
    clear hb2 q0 q1
    obtain ⟨wo, rfl⟩ : ∃ x, x = wr := ⟨_, rfl⟩
    by_cases hlt : k < len
    · obtain ⟨bn, on, rfl, hbl, hc⟩ := (HE.out.1.keep hbr).at (by omega)
      obtain ⟨ai, li, ci, c1, c2, c3, hli, hci, hS⟩ := hc k hlt
      obtain ⟨bp, op, rfl, hpl, hcp⟩ : ∃ b' off, b = some ⟨b', off, none⟩ ∧ b' < wo.heap.size ∧ ∀ i, i < len → wo.cell? ⟨b', off + i, none⟩ = some (.int .i64 (l.getD i 0)) := by
        rcases (HE.out.2.1.keep hbr).2 with h0 | h0
        · omega
        · exact h0
      obtain ⟨x, hx⟩ : ∃ x, p.getD k e0 = x := ⟨_, rfl⟩
      obtain ⟨xo, xn, xk⟩ := x
      rw [hx] at c1 c2 hS
      simp only at c1 c2 hS
      have HX := (show Hid _ from hx)
      have hS1 := hS.1
      have hkl : (k : Int) < len := by omega
      have hsz : ¬ bn = wo.heap.size := by omega
      have q0 := (hbr.cell (p := ⟨w.heap.size, 0, none⟩) hs1).trans n0
      have q1 := (hbr.cell (p := ⟨w.heap.size, 1, none⟩) hs1).trans n1
      have hsw : w.heap.size < wo.heap.size := Nat.lt_of_lt_of_le hs1 hbr.size
      obtain ⟨W2, hW2⟩ : ∃ W2, wo.alloc (.cells #[.int .i64 xo, .int .i64 xn, .slice ai li ci] 74) = W2 := ⟨_, rfl⟩
      have hb2 : Below wo.heap.size wo W2 := by rw [← hW2]; exact (Below.refl _ _).alloc (Nat.le_refl _) _
      have m0 : W2.cell? ⟨wo.heap.size, 0, none⟩ = some (.int .i64 xo) := by rw [← hW2]; simp [go_sem]
      have m1 : W2.cell? ⟨wo.heap.size, 1, none⟩ = some (.int .i64 xn) := by rw [← hW2]; simp [go_sem]
      have m2 : W2.cell? ⟨wo.heap.size, 2, none⟩ = some (.slice ai li ci) := by rw [← hW2]; simp [go_sem]
      have hs2 : wo.heap.size < W2.heap.size := by rw [← hW2]; simp
      have p0 := (hb2.cell (p := ⟨w.heap.size, 0, none⟩) hsw).trans q0
      have p1 := (hb2.cell (p := ⟨w.heap.size, 1, none⟩) hsw).trans q1
      have HK : Hid (∀ j, j < li → ∃ y : Nat, xk.getD j 0 = y ∧ y < k) := fun j hj => by
        have := kid_nat (j := j) HNn.out (show k < p.length by omega) (by rw [hx]; simp only; omega)
        rwa [hx] at this
      have HS := (show Hid (Sl wo ai li xk) from hS)
      have HCp : Hid (∀ i, i < len → W2.cell? ⟨bp, op + i, none⟩ = some (.int .i64 (l.getD i 0))) := fun i hi => (hb2.cell (p := ⟨bp, op + i, none⟩) hpl).trans (hcp i hi)
      have HCn : Hid (∀ i, i < len → ∃ ai li ci, wo.cell? ⟨bn, on + i * 3, none⟩ = some (.int .i64 (p.getD i e0).1) ∧ wo.cell? ⟨bn, on + i * 3 + 1, none⟩ = some (.int .i64 (p.getD i e0).2.1) ∧ wo.cell? ⟨bn, on + i * 3 + 2, none⟩ = some (.slice ai li ci) ∧ li ≤ 9223372036854775807 ∧ li ≤ ci ∧ Sl wo ai li (p.getD i e0).2.2) := hc
      have HB2 : Hid (Below wo.heap.size wo W2) := hb2
      have HBr : Hid (Below W1.heap.size W1 wo) := hbr
      have HF : Hid (∀ W, Below W2.heap.size W2 W → Below w.heap.size w W) := fun W hW => HE.out.2.2.trans ((hbr.trans ((hb2.trans (hW.mono hb2.size)).mono hbr.size)).mono HE.out.2.2.size)
      clear hc hcp hS hb2 hbr q0 q1 hx
      go_wp2_with fail
      (try rw [hW2])
      go_loopw [38] (fun i wr => ∃ j : Nat, j ≤ li ∧ i = .int .i64 j ∧ wr = W2 ∧ Hid (∀ i, i < j → l.getD (xk.getD i 0).toNat 0 = xk.getD i 0)) (fun i _ => li - (intOf i).toNat)
      case atStart => exact ⟨0, Nat.zero_le _, rfl, rfl, fun j hj => absurd hj (Nat.not_lt_zero _)⟩
      case round =>
        obtain ⟨j, hj, rfl, rfl, hK⟩ := hrel
        obtain ⟨W2, rfl⟩ : ∃ x, x = wr := ⟨_, rfl⟩
        by_cases hjl : j < li
        · obtain ⟨y, hy, hyk⟩ := HK.out j hjl
          obtain ⟨bk, ok, rfl, hbk, hck⟩ : ∃ b' off, ai = some ⟨b', off, none⟩ ∧ b' < wo.heap.size ∧ ∀ i, i < li → wo.cell? ⟨b', off + i, none⟩ = some (.int .i64 (xk.getD i 0)) := by
            rcases HS.out.2 with h0 | h0
            · omega
            · exact h0
          have ck := (HB2.out.cell (p := ⟨bk, ok + j, none⟩) hbk).trans (hck j hjl)
          rw [hy] at ck
          have cy := HCp.out y (by omega)
          have hyl : (y : Int) < len := by omega
          have hjl' : (j : Int) < li := by omega
          by_cases e : l.getD y 0 = y
          · have HR : Hid (∀ i, i < j + 1 → l.getD (xk.getD i 0).toNat 0 = xk.getD i 0) := fun i hi => by
              by_cases e1 : i = j
              · rw [e1, hy, Int.toNat_natCast]; exact e
              · exact hK.out i (by omega)
            rw [e] at cy
            have hyy : ((y : Int) != y) = false := by simp
            clear hK hck hy e
            go_wp2_with fail
            go_roundw
            case rel => exact ⟨j + 1, by omega, by go_num, by first | trivial | rfl, HR⟩
            case measure => simp [intOf]; omega
          · have HV : Hid (decide (Rest p l) = false) := decide_eq_false (fun hr => e (by
              have := (hr k (by omega)).1
              rw [HX.out] at this
              have := kidsCl_at this j (by simp only; omega)
              simp only at this
              rwa [hy, Int.toNat_natCast] at this))
            have hyy : (l.getD y 0 != (y : Int)) = true := by simpa using e
            clear hK hck hy e
            generalize l.getD y 0 = z at cy hyy
            go_wp2_with fail
            go_ret
            exact ⟨by rw [HV.out] <;> rfl, HF.out _ (Below.refl _ _)⟩
        · obtain rfl : j = li := by omega
          have HKc : Hid (KidsCl l xk) := kidsCl_of (fun i hi => hK.out i (by omega))
          clear hK
          go_wp2_with fail
          go_loopw [7] (fun i wr => ∃ i' : Nat, i' ≤ k ∧ i = .int .i64 i' ∧ Below W2.heap.size W2 wr ∧ Hid (∀ i, i < i' → p.getD k e0 = p.getD i e0 → l.getD i 0 = l.getD k 0)) (fun i _ => k - (intOf i).toNat)
          case atStart => exact ⟨0, Nat.zero_le _, rfl, Below.refl _ _, fun j hj => absurd hj (Nat.not_lt_zero _)⟩
          case round =>
            obtain ⟨i', hi', rfl, hb3, hO⟩ := hrel
            by_cases hil : i' < k
            · have hil' : (i' : Int) < k := by omega
              have hil2 : (i' : Int) < len := by omega
              obtain ⟨aj, lj, cj, d1, d2, d3, hlj, hcj, hSj⟩ := HCn.out i' (by omega)
              obtain ⟨y, hy⟩ : ∃ y, p.getD i' e0 = y := ⟨_, rfl⟩
              obtain ⟨yo, yn, yk⟩ := y
              rw [hy] at d1 d2 hSj
              simp only at d1 d2 hSj
              have hB3 : Below wo.heap.size wo wr := HB2.out.trans (hb3.mono HB2.out.size)
              have M0 : w.heap.size < W2.heap.size := by omega
              have Mp : bp < W2.heap.size := by omega
              have L0 : w.heap.size < wr.heap.size := by have := hb3.size; omega
              have L1 : wo.heap.size < wr.heap.size := by have := hb3.size; omega
              have Ln : bn < wr.heap.size := by have := hB3.size; omega
              have Lp : bp < wr.heap.size := by have := hB3.size; omega
              have g0 : ∀ x : Ahead wr, x.w.cell? ⟨w.heap.size, 0, none⟩ = some (.slice (some ⟨bn, on, none⟩) len cap) := fun x => (x.h.cell (p := ⟨w.heap.size, 0, none⟩) L0).trans ((hb3.cell (p := ⟨w.heap.size, 0, none⟩) M0).trans p0)
              have g1 : ∀ x : Ahead wr, x.w.cell? ⟨w.heap.size, 1, none⟩ = some (.slice (some ⟨bp, op, none⟩) len cb) := fun x => (x.h.cell (p := ⟨w.heap.size, 1, none⟩) L0).trans ((hb3.cell (p := ⟨w.heap.size, 1, none⟩) M0).trans p1)
              have g2 : ∀ x : Ahead wr, x.w.cell? ⟨wo.heap.size, 0, none⟩ = some (.int .i64 xo) := fun x => (x.h.cell (p := ⟨wo.heap.size, 0, none⟩) L1).trans ((hb3.cell (p := ⟨wo.heap.size, 0, none⟩) hs2).trans m0)
              have g3 : ∀ x : Ahead wr, x.w.cell? ⟨wo.heap.size, 1, none⟩ = some (.int .i64 xn) := fun x => (x.h.cell (p := ⟨wo.heap.size, 1, none⟩) L1).trans ((hb3.cell (p := ⟨wo.heap.size, 1, none⟩) hs2).trans m1)
              have g4 : ∀ x : Ahead wr, x.w.cell? ⟨wo.heap.size, 2, none⟩ = some (.slice ai j ci) := fun x => (x.h.cell (p := ⟨wo.heap.size, 2, none⟩) L1).trans ((hb3.cell (p := ⟨wo.heap.size, 2, none⟩) hs2).trans m2)
              have g5 : ∀ x : Ahead wr, x.w.cell? ⟨bn, on + i' * 3, none⟩ = some (.int .i64 yo) := fun x => (x.h.cell (p := ⟨bn, on + i' * 3, none⟩) Ln).trans ((hB3.cell (p := ⟨bn, on + i' * 3, none⟩) hbl).trans d1)
              have g6 : ∀ x : Ahead wr, x.w.cell? ⟨bn, on + i' * 3 + 1, none⟩ = some (.int .i64 yn) := fun x => (x.h.cell (p := ⟨bn, on + i' * 3 + 1, none⟩) Ln).trans ((hB3.cell (p := ⟨bn, on + i' * 3 + 1, none⟩) hbl).trans d2)
              have g7 : ∀ x : Ahead wr, x.w.cell? ⟨bn, on + i' * 3 + 2, none⟩ = some (.slice aj lj cj) := fun x => (x.h.cell (p := ⟨bn, on + i' * 3 + 2, none⟩) Ln).trans ((hB3.cell (p := ⟨bn, on + i' * 3 + 2, none⟩) hbl).trans d3)
              have g8 : ∀ x : Ahead wr, x.w.cell? ⟨bp, op + i', none⟩ = some (.int .i64 (l.getD i' 0)) := fun x => (x.h.cell (p := ⟨bp, op + i', none⟩) Lp).trans ((hb3.cell (p := ⟨bp, op + i', none⟩) Mp).trans (HCp.out i' (by omega)))
              have g9 : ∀ x : Ahead wr, x.w.cell? ⟨bp, op + k, none⟩ = some (.int .i64 (l.getD k 0)) := fun x => (x.h.cell (p := ⟨bp, op + k, none⟩) Lp).trans ((hb3.cell (p := ⟨bp, op + k, none⟩) Mp).trans (HCp.out k (by omega)))
              have HA : Hid (∀ x : Ahead wr, Calls Tryd.prog 48 #[.agg #[.int .i64 xo, .int .i64 xn, .slice ai j ci], .agg #[.int .i64 yo, .int .i64 yn, .slice aj lj cj]] x.w fun e w' => e = .returned (.bool (decide (p.getD k e0 = p.getD i' e0))) ∧ Below x.w.heap.size x.w w') := fun x => by
                have := alike_any (xo, xn, xk) (yo, yn, yk) ai aj j ci lj cj x.w ((HS.out.keep hB3).keep x.h) ((hSj.keep hB3).keep x.h) (by omega)
                simp only at this
                rw [HX.out, hy]
                exact this
              have HFx : Hid (∀ x : Ahead wr, Below W2.heap.size W2 x.w) := fun x => hb3.trans (x.h.mono hb3.size)
              have HR : Hid ((p.getD k e0 = p.getD i' e0 → l.getD i' 0 = l.getD k 0) → ∀ i, i < i' + 1 → p.getD k e0 = p.getD i e0 → l.getD i 0 = l.getD k 0) := fun h0 i hi he => by
                by_cases e1 : i = i'
                · rw [e1]; exact h0 (by rw [← e1]; exact he)
                · exact hO.out i (by omega) he
              have HV : Hid (p.getD k e0 = p.getD i' e0 → l.getD i' 0 ≠ l.getD k 0 → decide (Rest p l) = false) := fun h1 h2 => decide_eq_false (fun hr => h2 ((hr k (by omega)).2 i' hil h1))
              clear hO hSj d1 d2 d3 hB3 hy M0 Mp L0 L1 Ln Lp
              by_cases e : p.getD k e0 = p.getD i' e0
              · have ed : decide (p.getD k e0 = p.getD i' e0) = true := decide_eq_true e
                rw [ed] at HA
                by_cases e2 : l.getD i' 0 = l.getD k 0
                · have HR2 := (show Hid _ from HR.out (fun _ => e2))
                  have hee : (l.getD i' 0 != l.getD k 0) = false := by simpa using e2
                  clear HR HV e ed e2
                  obtain ⟨zi, hzi⟩ : ∃ z, l.getD i' 0 = z := ⟨_, rfl⟩
                  rw [hzi] at g8 hee
                  clear hzi
                  obtain ⟨zk, hzk⟩ : ∃ z, l.getD k 0 = z := ⟨_, rfl⟩
                  rw [hzk] at g9 hee
                  clear hzk
                  go_wp2_with fail
                  have hne' := ahead_some wr
                  refine wp_region_ahead (by kernel_rfl) (by kernel_rfl) ?_
                  repeat (first
                    | go_big_quiet_skip
                    | (go_big_quiet_want; go_big_quiet_op; first | go_big_quiet_on | (apply Exists.intro; refine ⟨fun x => ?_, ?_⟩; (focus (exact ahead_of (HA.out x))); go_big_quiet_on)))
                  refine wpQuiet_nil ?_
                  intro _ hw'
                  obtain ⟨xq, rfl⟩ := hw'
                  go_wp2
                  exact ⟨⟨i' + 1, by omega, by go_num, HFx.out xq, HR2⟩, by simp [intOf]; omega⟩
                · have HV2 := (show Hid _ from HV.out e e2)
                  have hee : (l.getD i' 0 != l.getD k 0) = true := by simpa using e2
                  clear HR HV e ed e2
                  obtain ⟨zi, hzi⟩ : ∃ z, l.getD i' 0 = z := ⟨_, rfl⟩
                  rw [hzi] at g8 hee
                  clear hzi
                  obtain ⟨zk, hzk⟩ : ∃ z, l.getD k 0 = z := ⟨_, rfl⟩
                  rw [hzk] at g9 hee
                  clear hzk
                  go_wp2_with fail
                  have hne' := ahead_some wr
                  refine wp_region_ahead (by kernel_rfl) (by kernel_rfl) ?_
                  repeat (first
                    | go_big_quiet_skip
                    | (go_big_quiet_want; go_big_quiet_op; first | go_big_quiet_on | (apply Exists.intro; refine ⟨fun x => ?_, ?_⟩; (focus (exact ahead_of (HA.out x))); go_big_quiet_on)))
                  refine wpQuiet_nil ?_
                  intro _ hw'
                  obtain ⟨xq, rfl⟩ := hw'
                  go_wp2
                  go_ret
                  exact ⟨by rw [HV2.out] <;> rfl, HF.out _ (HFx.out xq)⟩
              · have ed : decide (p.getD k e0 = p.getD i' e0) = false := decide_eq_false e
                rw [ed] at HA
                have HR2 := (show Hid _ from HR.out (fun h => absurd h e))
                clear HR HV e ed
                obtain ⟨zi, hzi⟩ : ∃ z, l.getD i' 0 = z := ⟨_, rfl⟩
                rw [hzi] at g8
                clear hzi
                obtain ⟨zk, hzk⟩ : ∃ z, l.getD k 0 = z := ⟨_, rfl⟩
                rw [hzk] at g9
                clear hzk
                go_wp2_with fail
                have hne' := ahead_some wr
                refine wp_region_ahead (by kernel_rfl) (by kernel_rfl) ?_
                repeat (first
                  | go_big_quiet_skip
                  | (go_big_quiet_want; go_big_quiet_op; first | go_big_quiet_on | (apply Exists.intro; refine ⟨fun x => ?_, ?_⟩; (focus (exact ahead_of (HA.out x))); go_big_quiet_on)))
                refine wpQuiet_nil ?_
                intro _ hw'
                obtain ⟨xq, rfl⟩ := hw'
                go_wp2
                exact ⟨⟨i' + 1, by omega, by go_num, HFx.out xq, HR2⟩, by simp [intOf]; omega⟩
            · obtain rfl : i' = k := by omega
              have HR : Hid (∀ j, j < i' + 1 → KidsCl l (p.getD j e0).2.2 ∧ OneCl p l j) := fun j hj => by
                by_cases e1 : j = i'
                · rw [e1]; exact ⟨by rw [HX.out]; exact HKc.out, hO.out⟩
                · exact hT.out j (by omega)
              have HB : Hid (Below W1.heap.size W1 wr) := HBr.out.trans ((HB2.out.trans (hb3.mono HB2.out.size)).mono HBr.out.size)
              clear hO hT HKc
              go_wp2_with fail
              go_roundw
              case rel => exact ⟨i' + 1, by omega, by go_num, HB.out, HR⟩
              case measure => simp [intOf]; omega
    · obtain rfl : k = len := by omega
      have HV : Hid (decide (Rest p l) = true) := decide_eq_true (fun j hj => hT.out j (by omega))
      have HB : Hid (Below w.heap.size w wo) := HE.out.2.2.trans (hbr.mono HE.out.2.2.size)
      clear hT
      go_wp2
      go_ret
      exact ⟨by rw [HV.out] <;> rfl, HB.out⟩
set_option maxHeartbeats 1600000 in
theorem specGraph_any (a b : Option Addr) (len cap lb cb : Nat) (p : List EN) (l : List Int) (w : World) (h : ESl w a len p) (hl : Sl w b lb l) (hm : len ≤ 9223372036854775807) (hm2 : lb ≤ 9223372036854775807) :
    Calls Tryd.prog 24 #[.agg #[.slice a len cap, .slice b lb cb]] w fun e w' => e = .returned (.bool (graphB p l)) ∧ Below w.heap.size w w' := by
  have hll := h.1
  have hl1 := hl.1
  obtain ⟨W1, hW1⟩ : ∃ W1, w.alloc (.cells #[.slice a len cap, .slice b lb cb] 31) = W1 := ⟨_, rfl⟩
  have hb1 : Below w.heap.size w W1 := by rw [← hW1]; exact (Below.refl _ _).alloc (Nat.le_refl _) _
  have n0 : W1.cell? ⟨w.heap.size, 0, none⟩ = some (.slice a len cap) := by rw [← hW1]; simp [go_sem]
  have n1 : W1.cell? ⟨w.heap.size, 1, none⟩ = some (.slice b lb cb) := by rw [← hW1]; simp [go_sem]
  have hs1 : w.heap.size < W1.heap.size := by rw [← hW1]; simp
  have HN := (show Hid _ from specNodes_any a len cap p W1 (h.keep hb1) hm)
  have HP : Hid (∀ W, Below W1.heap.size W1 W → Calls Tryd.prog 47 #[.slice b lb cb] W fun e w' => e = .returned (.bool (partB l)) ∧ w' = W) := fun W hW => specParts_any b lb cb l W (hl.keep (hb1.trans (hW.mono hb1.size))) hm2
  have HF : Hid (∀ W, Below W1.heap.size W1 W → Below w.heap.size w W) := fun W hW => hb1.trans (hW.mono hb1.size)
  cases hN : nodesB p with
  | false =>
    rw [graph_nodes hN]
    rw [hN] at HN
    clear h hl hb1 hN HP
    go_enter Tryd.func24, Tryd.ntmps24
    go_wp2_with fail
    (try rw [hW1])
    refine Calls.mono HN.out ?_
    rintro e w2 ⟨rfl, hb2⟩
    clear HN hW1
    go_wp2
    go_ret
    exact ⟨rfl, HF.out _ hb2⟩
  | true =>
    by_cases hlen : lb = len
    · subst hlen
      cases hP : partB l with
      | true =>
        have e : graphB p l = decide (Rest p l) := by unfold graphB headB; rw [hN, hP, decide_eq_true (show l.length = p.length by omega)]; rfl
        rw [e]
        exact specRest_any a b lb cap cb p l w h hl hN hP
      | false =>
        rw [graph_parts hP]
        rw [hN] at HN
        rw [hP] at HP
        have hne : ((lb : Int) != lb) = false := by simp
        clear h hl hb1 hN hP
        go_enter Tryd.func24, Tryd.ntmps24
        go_wp2_with fail
        (try rw [hW1])
        refine Calls.mono HN.out ?_
        rintro e w2 ⟨rfl, hb2⟩
        have q0 := (hb2.cell (p := ⟨w.heap.size, 0, none⟩) hs1).trans n0
        have q1 := (hb2.cell (p := ⟨w.heap.size, 1, none⟩) hs1).trans n1
        have HP2 := (show Hid _ from HP.out w2 hb2)
        clear HN hW1 HP
        go_wp2_with fail
        refine Calls.mono HP2.out ?_
        rintro e w3 ⟨rfl, rfl⟩
        clear HP2
        go_wp2
        go_ret
        exact ⟨rfl, HF.out _ hb2⟩
    · rw [graph_len (show l.length ≠ p.length by omega)]
      rw [hN] at HN
      have hne : ((lb : Int) != len) = true := by simp; omega
      clear h hl hb1 hN HP
      go_enter Tryd.func24, Tryd.ntmps24
      go_wp2_with fail
      (try rw [hW1])
      refine Calls.mono HN.out ?_
      rintro e w2 ⟨rfl, hb2⟩
      have q0 := (hb2.cell (p := ⟨w.heap.size, 0, none⟩) hs1).trans n0
      have q1 := (hb2.cell (p := ⟨w.heap.size, 1, none⟩) hs1).trans n1
      clear HN hW1
      go_wp2
      go_ret
      exact ⟨rfl, HF.out _ hb2⟩
end Go.Proofs.YtmbggaepckgogaaDoor
