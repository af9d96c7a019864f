/-
  PROVED HERE: what the program's GoodGraph answers, at every graph, in a world whose table of arities is laid. No other condition. which root the model and the program find from a number of good parents, and how many steps5 that takes, at every list and every number. No other condition.
-/
import Derived.Test.YtmbggaepckgogaaDoorRun6
import Derived.Test.YtmbggaepckgogaaDoorRun16
import Derived.Test.YtmbggaepckgogaaDoorRun11
namespace Go.Proofs.YtmbggaepckgogaaDoor
open Go.ChangeShapes Go.WideShapes Go.ChangeAt Go.RowKit
open Go.MapKept Go.ChangeMaps
set_option linter.unusedVariables false

theorem setB_get {w : World} {b : Nat} {o : Obj} (h : b < w.heap.size) : (setBlock w b o).heap[b]? = some o := by
  unfold setBlock
  simp [h]
theorem setB_ne {w : World} {b : Nat} {o : Obj} (x : Nat) (h : x ≠ b) : (setBlock w b o).heap[x]? = w.heap[x]? := by
  unfold setBlock
  simp [Ne.symm h]
theorem setB_size {w : World} {b : Nat} {o : Obj} : (setBlock w b o).heap.size = w.heap.size := by unfold setBlock; simp
theorem below_setB {n : Nat} {w w' : World} {b : Nat} {o : Obj} (h : Below n w w') (hb : n ≤ b) : Below n w (setBlock w' b o) :=
  ⟨h.os, h.tape, h.output, by rw [setB_size]; exact h.size, fun k hk => (setB_ne k (by omega)).trans (h.block k hk)⟩
set_option maxHeartbeats 3200000 in
set_option maxRecDepth 20000 in
theorem implOne_any (a b : Option Addr) (len cap cb : Nat) (p : List EN) (l : List Int) (w : World) (h : ESl w a len p) (hl : Sl w b len l) (hN : nodesB p = true) (hP : partB l = true) (hC : AllCl p l) (hI : InE p) :
    Calls Tryd.prog 53 #[.agg #[.slice a len cap, .slice b len cb]] w fun e w' => e = .returned (.bool (decide (AllOne p l))) ∧ Below w.heap.size w w' := by
  have hll := h.1
  have hl1 := hl.1
  have h120 := ((nodesB_iff p).1 hN).1
  have hfit := ((nodesB_iff p).1 hN).2
  obtain ⟨W1, hW1⟩ : ∃ W1, w.alloc (.cells #[.slice a len cap, .slice b len cb] 31) = W1 := ⟨_, rfl⟩
  have hb1 : Below w.heap.size w W1 := by rw [← hW1]; exact (Below.refl _ _).alloc (Nat.le_refl _) _
  have n0 : W1.cell? ⟨w.heap.size, 0, none⟩ = some (.slice a len cap) := by rw [← hW1]; simp [go_sem]
  have n1 : W1.cell? ⟨w.heap.size, 1, none⟩ = some (.slice b len cb) := by rw [← hW1]; simp [go_sem]
  have hs1 : w.heap.size < W1.heap.size := by rw [← hW1]; simp
  have HE : Hid (ESl W1 a len p ∧ Sl W1 b len l ∧ Below w.heap.size w W1) := ⟨h.keep hb1, hl.keep hb1, hb1⟩
  have HNn : Hid (nodesB p = true ∧ partB l = true ∧ AllCl p l ∧ InE p ∧ ∀ i, i < p.length → fitE i (p.getD i e0) = true) := ⟨hN, hP, hC, hI, hfit⟩
  have hmm := @run_makeMap Tryd.prog
  clear h hl hb1 hN hP hC hI hfit
  go_enter Tryd.func53, Tryd.ntmps53
  go_wp2_with fail
  (try rw [hW1])
  go_loopw [13] (fun i wr => ∃ (k : Nat) (f : Sh → Option Int), k ≤ len ∧ i = .int .i64 k ∧ Below W1.heap.size W1 wr ∧ Hid (SMap wr W1.heap.size f ∧ Held p l k f ∧ ∀ j, j < k → OneCl p l j)) (fun i _ => len - (intOf i).toNat)
  case atStart => exact ⟨0, fun _ => none, Nat.zero_le _, rfl, (Below.refl _ _).alloc (Nat.le_refl _) _, smap_empty (clock := 0) (by first | exact heap_alloc_new _ _ | exact heap_alloc_new .. | simp), ⟨fun i hi => absurd hi (Nat.not_lt_zero _), fun e v h => by cases h⟩, fun j hj => absurd hj (Nat.not_lt_zero _)⟩
  case round =>
    obtain ⟨k, f, hk, rfl, hbr, hT⟩ := hrel
    obtain ⟨wo, rfl⟩ : ∃ x, x = wr := ⟨_, rfl⟩
    clear hmm
    by_cases hlt : k < len
    · obtain ⟨bn, on, rfl, hbl, hc⟩ := (HE.out.1.keep hbr).at (by omega)
      obtain ⟨ai, li, ci, c1, c2, c3, hli, hci, hS⟩ := hc k hlt
      obtain ⟨bp, op, rfl, hpl, hcp⟩ : ∃ b' off, b = some ⟨b', off, none⟩ ∧ b' < wo.heap.size ∧ ∀ i, i < len → wo.cell? ⟨b', off + i, none⟩ = some (.int .i64 (l.getD i 0)) := by
        rcases (HE.out.2.1.keep hbr).2 with h0 | h0
        · omega
        · exact h0
      obtain ⟨x, hx⟩ : ∃ x, p.getD k e0 = x := ⟨_, rfl⟩
      obtain ⟨xo, xn, xk⟩ := x
      have hfk := HNn.out.2.2.2.2 k (by omega)
      have hIk := HNn.out.2.2.2.1 k (by omega)
      rw [hx] at c1 c2 hS hfk hIk
      simp only at c1 c2 hS
      have HX := (show Hid _ from hx)
      have hS1 := hS.1
      have hkl : (k : Int) < len := by omega
      have hsz : ¬ bn = wo.heap.size := by omega
      have q1 := (hbr.cell (p := ⟨w.heap.size, 1, none⟩) hs1).trans n1
      have hsw : w.heap.size < wo.heap.size := Nat.lt_of_lt_of_le hs1 hbr.size
      obtain ⟨W2, hW2⟩ : ∃ W2, wo.alloc (.cells #[.int .i64 xo, .int .i64 xn, .slice ai li ci] 74) = W2 := ⟨_, rfl⟩
      have hb2 : Below wo.heap.size wo W2 := by rw [← hW2]; exact (Below.refl _ _).alloc (Nat.le_refl _) _
      have m0 : W2.cell? ⟨wo.heap.size, 0, none⟩ = some (.int .i64 xo) := by rw [← hW2]; simp [go_sem]
      have m1 : W2.cell? ⟨wo.heap.size, 1, none⟩ = some (.int .i64 xn) := by rw [← hW2]; simp [go_sem]
      have m2 : W2.cell? ⟨wo.heap.size, 2, none⟩ = some (.slice ai li ci) := by rw [← hW2]; simp [go_sem]
      have p1 := (hb2.cell (p := ⟨w.heap.size, 1, none⟩) hsw).trans q1
      have M1 : w.heap.size < W2.heap.size := Nat.lt_of_lt_of_le hsw hb2.size
      have Mp : bp < W2.heap.size := Nat.lt_of_lt_of_le hpl hb2.size
      have ck : W2.cell? ⟨bp, op + k, none⟩ = some (.int .i64 (l.getD k 0)) := (hb2.cell (p := ⟨bp, op + k, none⟩) hpl).trans (hcp k hlt)
      have hfew := fit_few hfk
      simp only at hfew
      have HSh : Hid (Calls Tryd.prog 72 #[.agg #[.int .i64 xo, .int .i64 xn, .slice ai li ci], .slice (some ⟨bp, op, none⟩) len cb] W2 fun e w' => e = .returned (shV (shO l (xo, xn, xk))) ∧ Below W2.heap.size W2 w') := shape_any xo xn ai (some ⟨bp, op, none⟩) li ci len cb xk l W2 (hS.keep hb2) ((HE.out.2.1.keep hbr).keep hb2) (by omega) (fun j hj => by
        obtain ⟨y, h1, h2⟩ := kid_natI (j := j) HNn.out.1 (show k < p.length by omega) (by rw [hx]; simp only; omega)
        rw [hx] at h1
        exact ⟨y, h1, by omega⟩)
      have hsi := sh_in HNn.out.2.1 hfk hIk
      have hsh : shO l (p.getD k e0) = shO l (xo, xn, xk) := by rw [hx]
      have hK1 := @held_none p l k f hT.out.2.1
      have hK2 := @held_some p l k f hT.out.2.1
      have hK3 := @held_bad p l k f HNn.out.1 HNn.out.2.2.1 (by omega) hT.out.2.1
      rw [hsh] at hK1 hK2 hK3
      generalize shO l (xo, xn, xk) = e at HSh hsi hK1 hK2 hK3
      obtain ⟨so, sn, sa, sb, sc⟩ := e
      have HQ : Hid (∀ W, Below W2.heap.size W2 W → (Instr.lookup 90 (.map (some W1.heap.size)) (.agg #[.int .i64 so, .int .i64 sn, .int .i64 sa, .int .i64 sb, .int .i64 sc]) true).run Tryd.prog W = .ok (told (f (so, sn, sa, sb, sc))) W ∧ (∃ W5, (Instr.mapUpdate 90 (.map (some W1.heap.size)) (.agg #[.int .i64 so, .int .i64 sn, .int .i64 sa, .int .i64 sb, .int .i64 sc]) (.int .i64 (l.getD k 0))).run Tryd.prog W.drew = .ok () W5 ∧ Below W1.heap.size W1 W5 ∧ SMap W5 W1.heap.size (setS f (so, sn, sa, sb, sc) (some (l.getD k 0)))) ∧ Hid (Below w.heap.size w W)) := fun W hW => by
        have hWo : Below wo.heap.size wo W := hb2.trans (hW.mono hb2.size)
        have hM : SMap W W1.heap.size f := hT.out.1.keep hWo
        have hMd : SMap W.drew W1.heap.size f := hM.block rfl
        have hW1 : Below W1.heap.size W1 W := hbr.trans (hWo.mono hbr.size)
        obtain ⟨o, ho, hw⟩ := hMd.store (e := (so, sn, sa, sb, sc)) hsi (l.getD k 0)
        exact ⟨hM.lookup (e := (so, sn, sa, sb, sc)) hsi, ⟨_, ho, below_setB hW1.drew (Nat.le_refl _), hw _ (setB_get hMd.lt)⟩, HE.out.2.2.trans (hW1.mono HE.out.2.2.size)⟩
      have HO : Hid (∀ j, j < k → OneCl p l j) := hT.out.2.2
      unfold shV at HSh
      simp only at HSh
      clear hT hc hcp hS hb2 hbr q1 hx hfk hIk hsh hsi
      cases hfe : f (so, sn, sa, sb, sc) with
      | none =>
        obtain ⟨k1, k2⟩ := hK1 hfe
        rw [hfe] at HQ
        have HR := (show Hid (Held p l (k + 1) (setS f (so, sn, sa, sb, sc) (some (l.getD k 0))) ∧ ∀ j, j < k + 1 → OneCl p l j) from ⟨k2, fun j hj => by
          by_cases e1 : j = k
          · rw [e1]; exact k1
          · exact HO.out j (by omega)⟩)
        clear hK1 hK2 hK3 k1 k2 HO hfe
        go_wp2_with fail
        (try rw [hW2])
        refine Calls.mono HSh.out ?_
        rintro r w3 ⟨rfl, hb3⟩
        obtain ⟨W4, hW4⟩ : ∃ W4, w3.alloc (.cells #[.int .i64 so, .int .i64 sn, .int .i64 sa, .int .i64 sb, .int .i64 sc] 93) = W4 := ⟨_, rfl⟩
        have hb4 : Below w3.heap.size w3 W4 := by rw [← hW4]; exact (Below.refl _ _).alloc (Nat.le_refl _) _
        have t0 : W4.cell? ⟨w3.heap.size, 0, none⟩ = some (.int .i64 so) := by rw [← hW4]; simp [go_sem]
        have t1 : W4.cell? ⟨w3.heap.size, 1, none⟩ = some (.int .i64 sn) := by rw [← hW4]; simp [go_sem]
        have t2 : W4.cell? ⟨w3.heap.size, 2, none⟩ = some (.int .i64 sa) := by rw [← hW4]; simp [go_sem]
        have t3 : W4.cell? ⟨w3.heap.size, 3, none⟩ = some (.int .i64 sb) := by rw [← hW4]; simp [go_sem]
        have t4 : W4.cell? ⟨w3.heap.size, 4, none⟩ = some (.int .i64 sc) := by rw [← hW4]; simp [go_sem]
        have hB24 : Below W2.heap.size W2 W4 := hb3.trans (hb4.mono hb3.size)
        have r1 := (hB24.cell (p := ⟨w.heap.size, 1, none⟩) M1).trans p1
        have r2 := (hB24.cell (p := ⟨bp, op + k, none⟩) Mp).trans ck
        obtain ⟨hL, hM4, HB4⟩ := HQ.out W4 hB24
        have HM4 := (show Hid _ from hM4)
        clear hM4 HQ HSh hb3 hb4 hB24 hW2 m0 m1 m2 p1 ck
        obtain ⟨W5, hS5, hB5, hM5⟩ := HM4.out
        have HR5 : Hid (Below W1.heap.size W1 W5 ∧ SMap W5 W1.heap.size (setS f (so, sn, sa, sb, sc) (some (l.getD k 0)))) := ⟨hB5, hM5⟩
        clear HM4 hB5 hM5
        generalize setS f (so, sn, sa, sb, sc) (some (l.getD k 0)) = F at HR HR5
        obtain ⟨z, hz⟩ : ∃ z, l.getD k 0 = z := ⟨_, rfl⟩
        rw [hz] at r2 hS5
        clear hz
        unfold told at hL
        simp only at hL
        go_wp2_with fail
        (try rw [hW4])
        go_wp2_with fail
        go_region
        all_goals
          go_wp2
          exact ⟨⟨k + 1, F, by omega, by go_num, HR5.out.1, HR5.out.2, HR.out⟩, by simp [intOf]; omega⟩
      | some v =>
        rw [hfe] at HQ
        by_cases hv : v = l.getD k 0
        · obtain ⟨k1, k2⟩ := hK2 (by rw [hfe, hv])
          have HR := (show Hid (Held p l (k + 1) (setS f (so, sn, sa, sb, sc) (some (l.getD k 0))) ∧ ∀ j, j < k + 1 → OneCl p l j) from ⟨k2, fun j hj => by
            by_cases e1 : j = k
            · rw [e1]; exact k1
            · exact HO.out j (by omega)⟩)
          clear hK1 hK2 hK3 k1 k2 HO hfe
          go_wp2_with fail
          (try rw [hW2])
          refine Calls.mono HSh.out ?_
          rintro r w3 ⟨rfl, hb3⟩
          obtain ⟨W4, hW4⟩ : ∃ W4, w3.alloc (.cells #[.int .i64 so, .int .i64 sn, .int .i64 sa, .int .i64 sb, .int .i64 sc] 93) = W4 := ⟨_, rfl⟩
          have hb4 : Below w3.heap.size w3 W4 := by rw [← hW4]; exact (Below.refl _ _).alloc (Nat.le_refl _) _
          have t0 : W4.cell? ⟨w3.heap.size, 0, none⟩ = some (.int .i64 so) := by rw [← hW4]; simp [go_sem]
          have t1 : W4.cell? ⟨w3.heap.size, 1, none⟩ = some (.int .i64 sn) := by rw [← hW4]; simp [go_sem]
          have t2 : W4.cell? ⟨w3.heap.size, 2, none⟩ = some (.int .i64 sa) := by rw [← hW4]; simp [go_sem]
          have t3 : W4.cell? ⟨w3.heap.size, 3, none⟩ = some (.int .i64 sb) := by rw [← hW4]; simp [go_sem]
          have t4 : W4.cell? ⟨w3.heap.size, 4, none⟩ = some (.int .i64 sc) := by rw [← hW4]; simp [go_sem]
          have hB24 : Below W2.heap.size W2 W4 := hb3.trans (hb4.mono hb3.size)
          have r1 := (hB24.cell (p := ⟨w.heap.size, 1, none⟩) M1).trans p1
          have r2 := (hB24.cell (p := ⟨bp, op + k, none⟩) Mp).trans ck
          obtain ⟨hL, hM4, HB4⟩ := HQ.out W4 hB24
          have HM4 := (show Hid _ from hM4)
          clear hM4 HQ HSh hb3 hb4 hB24 hW2 m0 m1 m2 p1 ck
          obtain ⟨W5, hS5, hB5, hM5⟩ := HM4.out
          have HR5 : Hid (Below W1.heap.size W1 W5 ∧ SMap W5 W1.heap.size (setS f (so, sn, sa, sb, sc) (some (l.getD k 0)))) := ⟨hB5, hM5⟩
          clear HM4 hB5 hM5
          generalize setS f (so, sn, sa, sb, sc) (some (l.getD k 0)) = F at HR HR5
          obtain ⟨z, hz⟩ : ∃ z, l.getD k 0 = z := ⟨_, rfl⟩
          rw [hz] at r2 hS5 hv
          subst hv
          clear hz
          have hvv : (v != v) = false := by simp
          unfold told at hL
          simp only at hL
          go_wp2_with fail
          (try rw [hW4])
          go_wp2_with fail
          go_region
          all_goals
            go_wp2
            exact ⟨⟨k + 1, F, by omega, by go_num, HR5.out.1, HR5.out.2, HR.out⟩, by simp [intOf]; omega⟩
        · have HV : Hid (decide (AllOne p l) = false) := decide_eq_false (hK3 hfe hv)
          have hvv : (v != l.getD k 0) = true := by simpa using hv
          clear hK1 hK2 hK3 HO hfe hv
          go_wp2_with fail
          (try rw [hW2])
          refine Calls.mono HSh.out ?_
          rintro r w3 ⟨rfl, hb3⟩
          obtain ⟨W4, hW4⟩ : ∃ W4, w3.alloc (.cells #[.int .i64 so, .int .i64 sn, .int .i64 sa, .int .i64 sb, .int .i64 sc] 93) = W4 := ⟨_, rfl⟩
          have hb4 : Below w3.heap.size w3 W4 := by rw [← hW4]; exact (Below.refl _ _).alloc (Nat.le_refl _) _
          have t0 : W4.cell? ⟨w3.heap.size, 0, none⟩ = some (.int .i64 so) := by rw [← hW4]; simp [go_sem]
          have t1 : W4.cell? ⟨w3.heap.size, 1, none⟩ = some (.int .i64 sn) := by rw [← hW4]; simp [go_sem]
          have t2 : W4.cell? ⟨w3.heap.size, 2, none⟩ = some (.int .i64 sa) := by rw [← hW4]; simp [go_sem]
          have t3 : W4.cell? ⟨w3.heap.size, 3, none⟩ = some (.int .i64 sb) := by rw [← hW4]; simp [go_sem]
          have t4 : W4.cell? ⟨w3.heap.size, 4, none⟩ = some (.int .i64 sc) := by rw [← hW4]; simp [go_sem]
          have hB24 : Below W2.heap.size W2 W4 := hb3.trans (hb4.mono hb3.size)
          have r1 := (hB24.cell (p := ⟨w.heap.size, 1, none⟩) M1).trans p1
          have r2 := (hB24.cell (p := ⟨bp, op + k, none⟩) Mp).trans ck
          obtain ⟨hL, hM4, HB4⟩ := HQ.out W4 hB24
          have HM4 := (show Hid _ from hM4)
          clear hM4 HQ HSh hb3 hb4 hB24 hW2 m0 m1 m2 p1 ck
          clear HM4
          obtain ⟨z, hz⟩ : ∃ z, l.getD k 0 = z := ⟨_, rfl⟩
          rw [hz] at r2 hvv
          clear hz
          unfold told at hL
          simp only at hL
          go_wp2_with fail
          (try rw [hW4])
          go_wp2
          go_ret
          exact ⟨by rw [HV.out] <;> rfl, HB4.out⟩
    · obtain rfl : k = len := by omega
      have HV : Hid (decide (AllOne p l) = true) := decide_eq_true (fun j hj => hT.out.2.2 j (by omega))
      have HB : Hid (Below w.heap.size w wo) := HE.out.2.2.trans (hbr.mono HE.out.2.2.size)
      clear hT
      go_wp2
      go_ret
      exact ⟨by rw [HV.out] <;> rfl, HB.out⟩
set_option maxHeartbeats 1600000 in
theorem implGraph_any (a b : Option Addr) (len cap lb cb : Nat) (p : List EN) (l : List Int) (w : World) (ht : Tab w) (h : ESl w a len p) (hl : Sl w b lb l) (hm2 : lb ≤ 9223372036854775807) (hI : InE p) :
    Calls Tryd.prog 29 #[.agg #[.slice a len cap, .slice b lb cb]] w fun e w' => e = .returned (.bool (graphB p l)) ∧ Below w.heap.size w w' := by
  have hll := h.1
  have hl1 := hl.1
  obtain ⟨W1, hW1⟩ : ∃ W1, w.alloc (.cells #[.slice a len cap, .slice b lb cb] 31) = W1 := ⟨_, rfl⟩
  have hb1 : Below w.heap.size w W1 := by rw [← hW1]; exact (Below.refl _ _).alloc (Nat.le_refl _) _
  have n0 : W1.cell? ⟨w.heap.size, 0, none⟩ = some (.slice a len cap) := by rw [← hW1]; simp [go_sem]
  have n1 : W1.cell? ⟨w.heap.size, 1, none⟩ = some (.slice b lb cb) := by rw [← hW1]; simp [go_sem]
  have hs1 : w.heap.size < W1.heap.size := by rw [← hW1]; simp
  have HN := (show Hid _ from implNodes_any a b len cap lb cb p l W1 (ht.keeps hb1) (h.keep hb1) (hl.keep hb1) hm2)
  have HF : Hid (∀ W, Below W1.heap.size W1 W → Below w.heap.size w W) := fun W hW => hb1.trans (hW.mono hb1.size)
  unfold graphB
  cases hH : headB p l with
  | false =>
    rw [Bool.false_and]
    rw [hH] at HN
    clear h hl hb1 hH ht
    go_enter Tryd.func29, Tryd.ntmps29
    go_wp2_with fail
    (try rw [hW1])
    refine Calls.mono HN.out ?_
    rintro e w2 ⟨rfl, hb2⟩
    clear HN hW1
    go_wp2
    go_ret
    exact ⟨rfl, HF.out _ hb2⟩
  | true =>
    rw [Bool.true_and]
    rw [hH] at HN
    obtain ⟨hN, hlen, hP⟩ := (headB_iff p l).1 hH
    obtain rfl : lb = len := by omega
    have HK : Hid (∀ W, Below W1.heap.size W1 W → Calls Tryd.prog 52 #[.agg #[.slice a lb cap, .slice b lb cb]] W fun e w' => e = .returned (.bool (decide (AllCl p l))) ∧ Below W.heap.size W w') := fun W hW => implKids_any a b lb cap cb p l W ((h.keep hb1).keep hW) ((hl.keep hb1).keep hW) hN
    have HO : Hid (∀ W, AllCl p l → Below W1.heap.size W1 W → Calls Tryd.prog 53 #[.agg #[.slice a lb cap, .slice b lb cb]] W fun e w' => e = .returned (.bool (decide (AllOne p l))) ∧ Below W.heap.size W w') := fun W hC hW => implOne_any a b lb cap cb p l W ((h.keep hb1).keep hW) ((hl.keep hb1).keep hW) hN hP hC hI
    by_cases hC : AllCl p l
    · have ev : decide (Rest p l) = decide (AllOne p l) := by
        by_cases h1 : AllOne p l
        · rw [decide_eq_true h1, decide_eq_true ((rest_two p l).2 ⟨hC, h1⟩)]
        · rw [decide_eq_false h1, decide_eq_false (fun h2 => h1 ((rest_two p l).1 h2).2)]
      rw [ev]
      rw [decide_eq_true hC] at HK
      have HO' := (show Hid _ from fun W => HO.out W hC)
      generalize decide (AllOne p l) = B at HO' ⊢
      clear h hl hb1 hH ht HO hC ev hN hP
      go_enter Tryd.func29, Tryd.ntmps29
      go_wp2_with fail
      (try rw [hW1])
      refine Calls.mono HN.out ?_
      rintro e w2 ⟨rfl, hb2⟩
      have q0 := (hb2.cell (p := ⟨w.heap.size, 0, none⟩) hs1).trans n0
      have q1 := (hb2.cell (p := ⟨w.heap.size, 1, none⟩) hs1).trans n1
      have HK2 := (show Hid _ from HK.out w2 hb2)
      have HB2 := (show Hid _ from hb2)
      clear HN hW1 HK hb2
      go_wp2_with fail
      refine Calls.mono HK2.out ?_
      rintro e w3 ⟨rfl, hb3⟩
      have HB3 : Hid (Below W1.heap.size W1 w3) := HB2.out.trans (hb3.mono HB2.out.size)
      have o0 := (HB3.out.cell (p := ⟨w.heap.size, 0, none⟩) hs1).trans n0
      have o1 := (HB3.out.cell (p := ⟨w.heap.size, 1, none⟩) hs1).trans n1
      have HO3 := (show Hid _ from HO'.out w3 HB3.out)
      clear HK2 hb3 q0 q1 HO'
      go_wp2_with fail
      refine Calls.mono HO3.out ?_
      rintro e w4 ⟨rfl, hb4⟩
      have HB4 : Hid (Below w.heap.size w w4) := HF.out _ (HB3.out.trans (hb4.mono HB3.out.size))
      clear HO3 o0 o1 hb4
      go_wp2
      go_ret
      exact ⟨rfl, HB4.out⟩
    · have ev : decide (Rest p l) = false := decide_eq_false (fun h2 => hC ((rest_two p l).1 h2).1)
      rw [ev]
      rw [decide_eq_false hC] at HK
      clear h hl hb1 hH ht HO hC ev hN hP
      go_enter Tryd.func29, Tryd.ntmps29
      go_wp2_with fail
      (try rw [hW1])
      refine Calls.mono HN.out ?_
      rintro e w2 ⟨rfl, hb2⟩
      have q0 := (hb2.cell (p := ⟨w.heap.size, 0, none⟩) hs1).trans n0
      have q1 := (hb2.cell (p := ⟨w.heap.size, 1, none⟩) hs1).trans n1
      have HK2 := (show Hid _ from HK.out w2 hb2)
      have HB2 := (show Hid _ from hb2)
      clear HN hW1 HK hb2
      go_wp2_with fail
      refine Calls.mono HK2.out ?_
      rintro e w3 ⟨rfl, hb3⟩
      have HB3 : Hid (Below w.heap.size w w3) := HF.out _ (HB2.out.trans (hb3.mono HB2.out.size))
      clear HK2 hb3 q0 q1
      go_wp2
      go_ret
      exact ⟨rfl, HB3.out⟩
end Go.Proofs.YtmbggaepckgogaaDoor
namespace Go.Proofs.YtmbggaepckgogaaDoor
open Go.ChangeShapes Go.WideShapes Go.ChangeAt Go.RowKit
set_option linter.unusedVariables false

/-- Whether a number is one of the list. -/
def hasB (l : List Int) (k : Int) : Bool := decide (0 ≤ k ∧ k < l.length)
theorem implHas_any (a : Option Addr) (len cap : Nat) (l : List Int) (hl : l.length = len) (k : Int) (w : World) :
    Calls Tryd.prog 58 #[.slice a len cap, .int .i64 k] w fun e w' => e = .returned (.bool (hasB l k)) ∧ w' = w := by
  by_cases h0 : 0 ≤ k
  · have e : hasB l k = decide (k < len) := by unfold hasB; rw [hl]; exact decide_eq_decide.2 (by omega)
    rw [e]
    clear e hl
    go_enter Tryd.func58, Tryd.ntmps58
    go_wp2
    go_ret
    exact ⟨rfl, rfl⟩
  · have e : hasB l k = false := by unfold hasB; exact decide_eq_false (by omega)
    rw [e]
    have h0' : (0 ≤ k) = False := by simp; omega
    clear e hl
    go_enter Tryd.func58, Tryd.ntmps58
    go_wp2
    go_ret
    exact ⟨rfl, rfl⟩
theorem specHas_any (len : Nat) (l : List Int) (hl : l.length = len) (k : Int) (w : World) :
    Calls Tryd.prog 57 #[.int .i64 k, .int .i64 0, .int .i64 ((len : Int) - 1)] w fun e w' => e = .returned (.bool (hasB l k)) ∧ w' = w := by
  by_cases h0 : 0 ≤ k ∧ k < len
  · have e : hasB l k = true := by unfold hasB; rw [hl]; exact decide_eq_true h0
    rw [e]
    exact in_yes k 0 _ w (by omega) (by omega)
  · have e : hasB l k = false := by unfold hasB; rw [hl]; exact decide_eq_false h0
    rw [e]
    exact in_no k 0 _ w (by omega)

/-- FindRoot's answer. -/
def findOk (l : List Int) (k : Int) : Bool := parB l && hasB l k
def findR (l : List Int) (k : Int) : Int := if findOk l k = true then ((root l k.toNat : Nat) : Int) else 0
def findS (l : List Int) (k : Int) : Int := if findOk l k = true then ((steps5 l k.toNat : Nat) : Int) else 0

end Go.Proofs.YtmbggaepckgogaaDoor
