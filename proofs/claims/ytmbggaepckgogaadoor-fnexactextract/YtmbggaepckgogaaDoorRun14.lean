/-
  PROVED HERE: what the model's l10Best answers, at every graph whose nodes have lesser kids that are classes. No other condition. what slices.Repeat answers at a list of one number, at every count up to 1000. No other condition.
-/
import Derived.Test.YtmbggaepckgogaaDoorRun13
import Derived.Test.YtmbggaepckgogaaDoorRun8
import Derived.Laws.CopyOwn
namespace Go.Proofs.YtmbggaepckgogaaDoor
open Go.ChangeShapes Go.WideShapes Go.ChangeAt Go.RowKit
set_option linter.unusedVariables false

/-- A row of zeros at its making. -/
def rowI (n : Nat) : Obj := .cells (madeCells (Value.int .i64 0).cells (n * 1)) 3
theorem make_ints10 (n : Nat) (hn : n ≤ 1000) (W : World) : (Instr.makeSlice 23 (.int .i64 (n : Int)) (.int .i64 (n : Int))).run Tryd.prog W = .ok (.slice (some ⟨W.heap.size, 0, none⟩) n n) (W.alloc (rowI n)) := by
  obtain ⟨i0, hi, hz0, hz1, hz2⟩ := info_parts infoInt
  have := run_make (P := Tryd.prog) W 23 3 i0 (.int .i64 0) Tryd.underlying23 hi hz0 .i64 .i64 (n : Int) (n : Int) (by omega) (Int.le_refl _) (by rw [hz2]; omega) (by omega)
  rw [Int.toNat_natCast, hz1] at this
  exact this
theorem rowI_own (n : Nat) (hn : n ≤ 1000) (W : World) : (W.alloc (rowI n)).ownsRow W.heap.size 3 1 (.slice (some ⟨W.heap.size, 0, none⟩) n n) n (vals (List.replicate n 0)) := by
  refine ⟨by simp [vals], .inr ⟨W.heap.size, n, _, rfl, Nat.le_refl _, heap_alloc_new W _, Nat.le_refl _, by unfold maxLen; omega, size_madeCells _ _, ?_⟩⟩
  have e : (Value.int .i64 0).cells = #[Value.int .i64 0] := rfl
  rw [e, toList_madeCells_one, List.take_of_length_le (by simp)]
  simp [vals]
theorem row_set10 {W : World} {B g n c : Nat} {m : List Int} (h : W.ownsRow B 3 1 (.slice (some ⟨g, 0, none⟩) n c) n (vals m)) (k : Nat) (v : Int) : (W.setCell ⟨g, k, none⟩ (.int .i64 v)).ownsRow B 3 1 (.slice (some ⟨g, 0, none⟩) n c) n (vals (m.set k v)) := by
  have := (h.stored k (.int .i64 v)).1
  rw [show (vals m).set k (.int .i64 v) = vals (m.set k v) by simp [vals, List.map_set]] at this
  exact this
theorem vals_get {m : List Int} {n k : Nat} (h : m.length = n) (hk : k < n) : (vals m)[k]? = some (.int .i64 (m.getD k 0)) := by
  simp [vals, List.getD_eq_getElem?_getD, show k < m.length by omega]
/-- The numbers that lie in a block. -/
def rdM (W : World) (g n : Nat) : List Int := (List.range n).map fun i => match W.cell? ⟨g, i, none⟩ with
  | some (.int _ v) => v
  | _ => 0
theorem rdM_row {W : World} {B g n c : Nat} {m : List Int} (h : W.ownsRow B 3 1 (.slice (some ⟨g, 0, none⟩) n c) n (vals m)) (hm : m.length = n) : rdM W g n = m := by
  apply List.ext_getElem?
  intro i
  unfold rdM
  by_cases hi : i < n
  · rw [List.getElem?_map, List.getElem?_range hi]
    simp only [Option.map_some]
    rw [h.cellAt i (by omega), vals_get hm hi, List.getD_eq_getElem?_getD, List.getElem?_eq_getElem (by omega)]
    rfl
  · rw [List.getElem?_eq_none (by simp; omega), List.getElem?_eq_none (by omega)]
/-- The rounds' measure: what is to fall, and whether one more is wanted. -/
def leftC (G n : Nat) (x : Value) (W : World) : Nat := 2 * (sumM (rdM W G n)).toNat + (match x with | .bool true => 1 | _ => 0)
set_option maxHeartbeats 3200000 in
set_option maxRecDepth 20000 in
theorem l10Best_any {p : List EN} {l : List Int} (hg : CostG p l) (a b : Option Addr) (n cap lb cb : Nat) (w : World) (h : ESl w a n p) (hl : Sl w b lb l) (hn : n ≤ 120) (hk0 : ∀ k, k < p.length → ∀ y ∈ (p.getD k e0).2.2, 0 ≤ y) (h3 : ∀ i, i < n → (p.getD i e0).2.2.length ≤ 3) :
    Calls Tryd.prog 25 #[.agg #[.slice a n cap, .slice b lb cb]] w fun e w' => ∃ (v : Value) (m : List Int), e = .returned v ∧ w'.ownsRow w.heap.size 3 1 v n (vals m) ∧ BestM p l m ∧ Below w.heap.size w w' := by
  obtain ⟨W1, hW1⟩ : ∃ W1, w.alloc (.cells #[.slice a n cap, .slice b lb cb] 31) = W1 := ⟨_, rfl⟩
  have hb1 : Below w.heap.size w W1 := by rw [← hW1]; exact (Below.refl _ _).alloc (Nat.le_refl _) _
  have hs1 : w.heap.size < W1.heap.size := by rw [← hW1]; simp
  have n0 : W1.cell? ⟨w.heap.size, 0, none⟩ = some (.slice a n cap) := by rw [← hW1]; simp [go_sem]
  have n1 : W1.cell? ⟨w.heap.size, 1, none⟩ = some (.slice b lb cb) := by rw [← hW1]; simp [go_sem]
  have HE := (show Hid (ESl W1 a n p ∧ Sl W1 b lb l ∧ Below w.heap.size w W1) from ⟨h.keep hb1, hl.keep hb1, hb1⟩)
  have HG := (show Hid (CostG p l ∧ p.length = n ∧ l.length = lb ∧ ∀ i, i < n → (p.getD i e0).2.2.length ≤ 3) from ⟨hg, h.1, hl.1, h3⟩)
  have HP := (show Hid (∀ k, k < p.length → ∀ y ∈ (p.getD k e0).2.2, 0 ≤ y) from hk0)
  clear h hl hb1 hg h3 hk0
  go_enter Tryd.func25, Tryd.ntmps25
  have HMk : Hid (∀ W : World, (Instr.makeSlice 23 (.int .i64 (n : Int)) (.int .i64 (n : Int))).run Tryd.prog W = .ok (.slice (some ⟨W.heap.size, 0, none⟩) n n) (W.alloc (rowI n))) := make_ints10 n (by omega)
  have hmk := HMk.out
  have HR0 := (show Hid _ from rowI_own n (by omega) W1)
  go_wp2_with fail
  obtain ⟨G, hG⟩ : ∃ G, W1.heap.size = G := ⟨_, rfl⟩
  obtain ⟨W2, hW2⟩ : ∃ W2, W1.alloc (rowI n) = W2 := ⟨_, rfl⟩
  have hb2 : Below G W1 W2 := by rw [← hW2, ← hG]; exact (Below.refl _ _).alloc (Nat.le_refl _) _
  rw [hW2, hG] at HR0
  rw [hG] at hs1
  (try rw [hW1])
  (try rw [hW2])
  (try rw [hG])
  have HX : Hid (∀ W, Below G W1 W → (W.cell? ⟨w.heap.size, 0, none⟩ = some (.slice a n cap) ∧ W.cell? ⟨w.heap.size, 1, none⟩ = some (.slice b lb cb)) ∧ ESl W a n p ∧ Sl W b lb l) := fun W hW => by
    rw [← hG] at hW
    exact ⟨⟨(hW.cell (p := ⟨w.heap.size, 0, none⟩) (by show w.heap.size < _; omega)).trans n0, (hW.cell (p := ⟨w.heap.size, 1, none⟩) (by show w.heap.size < _; omega)).trans n1⟩, HE.out.1.keep hW, HE.out.2.1.keep hW⟩
  clear hmk HMk hW2 hW1 n0 n1
  have HB2 := (show Hid _ from hb2)
  clear hb2
  go_loopw [16] (fun i wr => ∃ (k : Nat) (m : List Int), k ≤ n ∧ i = .int .i64 k ∧ Hid (wr.ownsRow G 3 1 (.slice (some ⟨G, 0, none⟩) n n) n (vals m) ∧ m.length = n ∧ (∀ j, j < k → m.getD j 0 = -1) ∧ Below G W1 wr)) (fun i _ => n - (intOf i).toNat)
  case atStart => exact ⟨0, _, Nat.zero_le _, rfl, HR0.out, by simp, fun j hj => absurd hj (Nat.not_lt_zero _), HB2.out⟩
  case round =>
    obtain ⟨k, m, hk, rfl, hT⟩ := hrel
    obtain ⟨wo, rfl⟩ : ∃ x, x = wr := ⟨_, rfl⟩
    by_cases hlt : k < n
    · obtain ⟨hrow, hml, hm1, hbo⟩ := hT.out
      have c0 := hrow.cellAt k (by omega)
      rw [vals_get hml hlt] at c0
      have f0 := hrow.frozenAt k
      have HN : Hid ((wo.setCell ⟨G, k, none⟩ (.int .i64 (-1))).ownsRow G 3 1 (.slice (some ⟨G, 0, none⟩) n n) n (vals (m.set k (-1))) ∧ (m.set k (-1)).length = n ∧ (∀ j, j < k + 1 → (m.set k (-1)).getD j 0 = -1) ∧ Below G W1 (wo.setCell ⟨G, k, none⟩ (.int .i64 (-1)))) := by
        refine ⟨row_set10 hrow k (-1), by rw [List.length_set]; exact hml, fun j hj => ?_, hbo.setCell (Nat.le_refl _) _⟩
        by_cases e : k = j
        · subst e
          rw [List.getD_eq_getElem?_getD, List.getElem?_set_self (by omega)]
          rfl
        · rw [List.getD_eq_getElem?_getD, List.getElem?_set_ne e, ← List.getD_eq_getElem?_getD]
          exact hm1 j (by omega)
      clear hT hrow hml hm1 hbo
      go_wp2
      go_roundw
      case rel => exact ⟨k + 1, _, by omega, by go_num, HN.out⟩
      case measure => simp [intOf]; omega
    · obtain rfl : k = n := by omega
      have hT0 : Hid (wo.ownsRow G 3 1 (.slice (some ⟨G, 0, none⟩) k k) k (vals (List.replicate k (-1))) ∧ Below G W1 wo) := by
        obtain ⟨hrow, hml, hm1, hbo⟩ := hT.out
        have e : m = List.replicate k (-1) := by
          apply List.ext_getElem (by rw [hml]; simp)
          intro i h1 h2
          have := hm1 i (by omega)
          rw [List.getD_eq_getElem?_getD, List.getElem?_eq_getElem h1] at this
          simp only [Option.getD_some] at this
          rw [this]
          simp
        rw [e] at hrow
        exact ⟨hrow, hbo⟩
      clear hT
      go_wp2_with fail
      go_loopw [5] (fun x wr => ∃ (m : List Int) (f : Bool), x = .bool f ∧ Hid (wr.ownsRow G 3 1 (.slice (some ⟨G, 0, none⟩) k k) k (vals m) ∧ InM m k ∧ (∃ i, valM m = iterP p l i) ∧ (f = false → StillM p l m) ∧ Below G W1 wr)) (fun x wr => leftC G k x wr)
      case atStart => exact ⟨_, true, rfl, hT0.out.1, inM_start k, ⟨0, by rw [valM_start]; show _ = List.replicate p.length topC; rw [HG.out.2.1]⟩, (fun h => by cases h), hT0.out.2⟩
      case round =>
        obtain ⟨m0, f0, rfl, hT⟩ := hrel
        obtain ⟨w5, rfl⟩ : ∃ x, x = wr := ⟨_, rfl⟩
        cases f0 with
        | false =>
          clear hT0 HR0
          obtain ⟨t1, t2, t3, t4, t5⟩ := hT.out
          have HE2 := HE.out.2.2
          have HF : Hid (BestM p l m0 ∧ Below w.heap.size w w5) := ⟨bestM_of HG.out.1 (by rw [HG.out.2.1]; exact t2) t3 (t4 rfl), HE2.trans ((show Below W1.heap.size W1 w5 by rw [hG]; exact t5).mono HE2.size)⟩
          have HRW : Hid (w5.ownsRow w.heap.size 3 1 (.slice (some ⟨G, 0, none⟩) k k) k (vals m0)) := own_base t1 (by omega)
          clear t1 t2 t3 t4 t5 HE2 hT HE
          go_wp2
          go_ret
          exact ⟨_, m0, rfl, HRW.out, HF.out.1, HF.out.2⟩
        | true =>
          obtain ⟨t1, t2, t3, -, t5⟩ := hT.out
          obtain ⟨⟨q0, q1⟩, -⟩ := HX.out w5 t5
          have HT5 : Hid (w5.ownsRow G 3 1 (.slice (some ⟨G, 0, none⟩) k k) k (vals m0) ∧ InM m0 k ∧ (∃ i, valM m0 = iterP p l i) ∧ Below G W1 w5) := ⟨t1, t2, t3, t5⟩
          clear hT hT0 HR0 t1 t2 t3 t5 HB2
          go_wp2_with fail
          go_loopw [5, 27] (fun x i wr => ∃ (j : Nat) (m : List Int) (f : Bool), j ≤ k ∧ i = .int .i64 j ∧ x = .bool f ∧ Hid (wr.ownsRow G 3 1 (.slice (some ⟨G, 0, none⟩) k k) k (vals m) ∧ m = roundM p l m0 j ∧ (f = false → m = m0 ∧ ∀ q, q < j → ¬ (0 ≤ nodeM m0 (p.getD q e0) ∧ (m0.getD (clsN l q) 0 < 0 ∨ nodeM m0 (p.getD q e0) < m0.getD (clsN l q) 0))) ∧ (f = true → sumM m < sumM m0) ∧ Below G W1 wr)) (fun _ i _ => k - (intOf i).toNat)
          case atStart => exact ⟨0, m0, false, Nat.zero_le _, rfl, rfl, HT5.out.1, rfl, (fun _ => ⟨rfl, fun q hq => absurd hq (Nat.not_lt_zero _)⟩), (fun h => by cases h), HT5.out.2.2.2⟩
          case round =>
            obtain ⟨j, m, f, hj, rfl, rfl, hT⟩ := hrel
            obtain ⟨w6, rfl⟩ : ∃ x, x = wr := ⟨_, rfl⟩
            by_cases hlt : j < k
            · obtain ⟨t1, t2, t3, t4, t5⟩ := hT.out
              obtain ⟨s1, s2, s3, s4⟩ := HT5.out
              obtain ⟨hg, hpl, hll, hfew⟩ := HG.out
              obtain ⟨⟨q0, q1⟩, hE6, hS6⟩ := HX.out w6 t5
              have hin : InM m k := by
                rw [t2]
                have := inM_round hg (by rw [hpl]; exact s2) j (by omega)
                rw [hpl] at this
                exact this
              have hlbk : lb = k := by have := hg.len; omega
              have hjl : j < lb := by omega
              have hjl2 : (j : Int) < lb := by omega
              obtain ⟨bn, on, rfl, hbl, hc⟩ := hE6.at (by omega)
              obtain ⟨ai, li, ci, c1, c2, c3, hli, hci, hS⟩ := hc j hlt
              obtain ⟨C, hC⟩ : ∃ C, nodeM m (p.getD j e0) = C := ⟨_, rfl⟩
              obtain ⟨z, hz⟩ : ∃ z : Nat, l.getD j 0 = z := ⟨(l.getD j 0).toNat, by have := hg.pos j (by omega); omega⟩
              have hcz : clsN l j = z := by unfold clsN; rw [hz]; rfl
              have hzk : z < k := by have := hg.cls j (by omega); omega
              obtain ⟨V, hV⟩ : ∃ V, m.getD z 0 = V := ⟨_, rfl⟩
              have hkd := hg.kids j (by omega)
              have h3j := hfew j hlt
              have hstep : stepM p l m j = if 0 ≤ C ∧ (V < 0 ∨ C < V) then m.set z C else m := by unfold stepM; rw [hC, hcz, hV]
              have hfall : (0 ≤ C ∧ (V < 0 ∨ C < V)) → sumM (m.set z C) < sumM m := fun h => by
                have := stepM_falls (p := p) (l := l) (k := j) hin (fun y hy => by have := (hkd y hy).1; omega) (by omega) (by rw [hC, hcz, hV]; exact h)
                rw [hstep, if_pos h] at this
                exact this
              have HW : Hid (∀ W, Below w6.heap.size w6 W → (W.cell? ⟨w.heap.size, 0, none⟩ = some (.slice (some ⟨bn, on, none⟩) k cap) ∧ W.cell? ⟨w.heap.size, 1, none⟩ = some (.slice b lb cb)) ∧ W.cell? ⟨G, z, none⟩ = some (.int .i64 V) ∧ W.frozen? ⟨G, z, none⟩ = false ∧ (∃ bb ob, b = some ⟨bb, ob, none⟩ ∧ W.cell? ⟨bb, ob + j, none⟩ = some (.int .i64 z)) ∧
                  Hid ((0 ≤ C ∧ (V < 0 ∨ C < V)) → (W.setCell ⟨G, z, none⟩ (.int .i64 C)).ownsRow G 3 1 (.slice (some ⟨G, 0, none⟩) k k) k (vals (m.set z C)) ∧ m.set z C = roundM p l m0 (j + 1) ∧ sumM (m.set z C) < sumM m0 ∧ Below G W1 (W.setCell ⟨G, z, none⟩ (.int .i64 C))) ∧
                  Hid (¬ (0 ≤ C ∧ (V < 0 ∨ C < V)) → W.ownsRow G 3 1 (.slice (some ⟨G, 0, none⟩) k k) k (vals m) ∧ m = roundM p l m0 (j + 1) ∧ (f = false → m = m0 ∧ ∀ q, q < j + 1 → ¬ (0 ≤ nodeM m0 (p.getD q e0) ∧ (m0.getD (clsN l q) 0 < 0 ∨ nodeM m0 (p.getD q e0) < m0.getD (clsN l q) 0))) ∧ (f = true → sumM m < sumM m0) ∧ Below G W1 W)) := fun W hW => by
                have hWG : Below G W1 W := t5.trans (hW.mono (show G ≤ w6.heap.size by have := t5.size; omega))
                have hr := row_keep t1 hW
                obtain ⟨x0, -, x2⟩ := HX.out W hWG
                have hround : roundM p l m0 (j + 1) = stepM p l m j := by rw [t2]; rfl
                refine ⟨x0, ?_, hr.frozenAt z, ?_, fun h => ⟨row_set10 hr z C, ?_, ?_, hWG.setCell (Nat.le_refl _) _⟩, fun h => ⟨hr, ?_, fun hf => ?_, t4, hWG⟩⟩
                · rw [hr.cellAt z (by omega), vals_get hin.1 hzk, hV]
                · obtain ⟨bb, ob, e, _, hcb⟩ := x2.2.resolve_left (by omega)
                  exact ⟨bb, ob, e, by rw [hcb j (by omega), hz]⟩
                · rw [hround, hstep, if_pos h]
                · have h1 := hfall h
                  cases f with
                  | false => rw [← (t3 rfl).1]; exact h1
                  | true => have := t4 rfl; omega
                · rw [hround, hstep, if_neg h]
                · obtain ⟨h1, h2⟩ := t3 hf
                  refine ⟨h1, fun q hq => ?_⟩
                  by_cases e : q = j
                  · subst e
                    rw [← h1, hC, hcz, hV]
                    exact h
                  · exact h2 q (by omega)
              have HCall : Hid (∀ W yo yn, p.getD j e0 = (yo, yn, (p.getD j e0).2.2) → Below w6.heap.size w6 W → Calls Tryd.prog 49 #[.agg #[.int .i64 yo, .int .i64 yn, .slice ai li ci], .slice (some ⟨G, 0, none⟩) k k] W fun e w' => e = .returned (.int .i64 C) ∧ Below W.heap.size W w') := fun W yo yn hy hW => by
                have := l10Node_any yo yn ai li ci (p.getD j e0).2.2 (some ⟨G, 0, none⟩) k k m W (hS.keep hW) ?_ hin (fun i hi => ?_) (by have := hS.1; omega) (by omega)
                · rw [← hy, hC] at this
                  exact this
                · have hr := row_keep t1 hW
                  obtain ⟨a', c', e, hs⟩ := Sl.vals hr
                  injection e with e1 e2 e3
                  subst e1
                  exact hs
                · have hm : (p.getD j e0).2.2.getD i 0 ∈ (p.getD j e0).2.2 := by
                    rw [getI_lt (by have := hS.1; omega)]
                    exact List.getElem_mem _
                  have := (hkd _ hm).1
                  have h0 := HP.out j (by omega) _ hm
                  exact ⟨((p.getD j e0).2.2.getD i 0).toNat, by omega, by omega⟩
              obtain ⟨y, hy⟩ : ∃ y, p.getD j e0 = y := ⟨_, rfl⟩
              rw [hy] at c1 c2 HCall
              obtain ⟨yo, yn, yk⟩ := y
              simp only at c1 c2
              have HCall2 : Hid (∀ W, Below w6.heap.size w6 W → Calls Tryd.prog 49 #[.agg #[.int .i64 yo, .int .i64 yn, .slice ai li ci], .slice (some ⟨G, 0, none⟩) k k] W fun e w' => e = .returned (.int .i64 C) ∧ Below W.heap.size W w') := fun W hW => HCall.out W yo yn rfl hW
              obtain ⟨B5, hB5⟩ : ∃ B5, w6.heap.size = B5 := ⟨_, rfl⟩
              obtain ⟨W7, hW7⟩ : ∃ W7, w6.alloc (.cells #[.int .i64 yo, .int .i64 yn, .slice ai li ci] 74) = W7 := ⟨_, rfl⟩
              have hb7 : Below w6.heap.size w6 W7 := by rw [← hW7]; exact (Below.refl _ _).alloc (Nat.le_refl _) _
              have o0 : W7.cell? ⟨w6.heap.size, 0, none⟩ = some (.int .i64 yo) := by rw [← hW7]; simp [go_sem]
              have o1 : W7.cell? ⟨w6.heap.size, 1, none⟩ = some (.int .i64 yn) := by rw [← hW7]; simp [go_sem]
              have o2 : W7.cell? ⟨w6.heap.size, 2, none⟩ = some (.slice ai li ci) := by rw [← hW7]; simp [go_sem]
              rw [hB5] at o0 o1 o2
              have hkl : (j : Int) < k := by omega
              have hzk2 : (z : Int) < k := by omega
              have HB7 := (show Hid (Below w6.heap.size w6 W7) from hb7)
              have HC7 := (show Hid _ from HCall2.out W7 hb7)
              have hmW : Hid (∀ W, Below W7.heap.size W7 W → Below w6.heap.size w6 W) := fun W hW => hb7.trans (hW.mono hb7.size)
              clear hlbk hT t1 t2 t3 t4 t5 s1 s2 s3 s4 hg hpl hll hfew hE6 hS6 hin hc hS hli hci hC hz hcz hV hkd h3j hstep hfall HCall HCall2 hy hb7 HG HP HX HT5 q0 q1 hbl
              go_wp2_with fail
              (try rw [hW7])
              (try rw [hB5])
              clear hW7 c1 c2 c3
              refine Calls.mono HC7.out ?_
              rintro e w8 ⟨rfl, hb8⟩
              obtain ⟨⟨q0, q1⟩, r0, rf, ⟨bb, ob, rfl, r1⟩, HY, HN⟩ := HW.out w8 (hmW.out w8 hb8)
              clear HC7 HW hmW HB7 hb8 o0 o1 o2
              by_cases hcond : 0 ≤ C ∧ (V < 0 ∨ C < V)
              · have HE1 := (show Hid _ from HY.out hcond)
                clear HY HN
                obtain ⟨g1, g2⟩ := hcond
                by_cases hv : V < 0
                · clear g2
                  go_wp2
                  go_roundw
                  case rel => exact ⟨j + 1, _, true, by omega, by go_num, rfl, HE1.out.1, HE1.out.2.1, (fun h => by cases h), (fun _ => HE1.out.2.2.1), HE1.out.2.2.2⟩
                  case measure => simp [intOf]; omega
                · have g3 : C < V := g2.resolve_left hv
                  clear g2
                  go_wp2
                  go_roundw
                  case rel => exact ⟨j + 1, _, true, by omega, by go_num, rfl, HE1.out.1, HE1.out.2.1, (fun h => by cases h), (fun _ => HE1.out.2.2.1), HE1.out.2.2.2⟩
                  case measure => simp [intOf]; omega
              · have HE1 := (show Hid _ from HN.out hcond)
                clear HY HN
                by_cases g1 : 0 ≤ C
                · have g2 : ¬ V < 0 := fun h => hcond ⟨g1, .inl h⟩
                  have g3 : ¬ C < V := fun h => hcond ⟨g1, .inr h⟩
                  clear hcond
                  go_wp2
                  go_roundw
                  case rel => exact ⟨j + 1, m, f, by omega, by go_num, rfl, HE1.out⟩
                  case measure => simp [intOf]; omega
                · clear hcond
                  go_wp2
                  go_roundw
                  case rel => exact ⟨j + 1, m, f, by omega, by go_num, rfl, HE1.out⟩
                  case measure => simp [intOf]; omega
            · obtain rfl : j = k := by omega
              obtain ⟨t1, t2, t3, t4, t5⟩ := hT.out
              obtain ⟨s1, s2, s3, s4⟩ := HT5.out
              have hpl := HG.out.2.1
              have HN : Hid ((w6.ownsRow G 3 1 (.slice (some ⟨G, 0, none⟩) j j) j (vals m) ∧ InM m j ∧ (∃ i, valM m = iterP p l i) ∧ (f = false → StillM p l m) ∧ Below G W1 w6) ∧ leftC G j (.bool f) w6 < leftC G j (.bool true) w5) := by
                have hin : InM m j := by
                  rw [t2]
                  have := inM_round HG.out.1 (by rw [hpl]; exact s2) j (by omega)
                  rw [hpl] at this
                  exact this
                refine ⟨⟨t1, hin, ?_, fun hf => ?_, t5⟩, ?_⟩
                · obtain ⟨i, hi⟩ := s3
                  refine ⟨i + 1, ?_⟩
                  rw [t2, roundM_val HG.out.1 (by rw [hpl]; exact s2) j (by omega), hi, ← hpl]
                  rfl
                · obtain ⟨h1, h2⟩ := t3 hf
                  rw [h1]
                  intro q hq
                  exact h2 q (by omega)
                · unfold leftC
                  rw [rdM_row t1 hin.1, rdM_row s1 s2.1]
                  have h0 := sumM_nonneg m
                  have h1 := sumM_nonneg m0
                  cases f with
                  | false =>
                    have := (t3 rfl).1
                    rw [this]
                    simp
                  | true =>
                    have := t4 rfl
                    simp only
                    omega
              clear hT t1 t2 t3 t4 t5 s1 s2 s3 s4 hpl HT5
              go_wp2
              go_roundw
              case rel => exact ⟨m, f, rfl, HN.out.1⟩
              case measure => exact HN.out.2
end Go.Proofs.YtmbggaepckgogaaDoor
namespace Go.Proofs.YtmbggaepckgogaaDoor
open Go.ChangeShapes Go.WideShapes Go.ChangeAt Go.RowKit
set_option linter.unusedVariables false

/-- k times c and zeros behind. -/
def fillR (n k : Nat) (c : Int) : List Int := List.replicate k c ++ List.replicate (n - k) 0
theorem fillR_len {n k : Nat} (c : Int) (h : k ≤ n) : (fillR n k c).length = n := by simp [fillR]; omega
theorem rowI_heap (n : Nat) (W : World) : (W.alloc (rowI n)).heap[W.heap.size]? = some (.cells (vals (fillR n 0 0)).toArray 3 (0, 0)) := by
  rw [heap_alloc_new W _]
  unfold rowI
  have e : (Value.int .i64 0).cells = #[Value.int .i64 0] := rfl
  have : madeCells (Value.int .i64 0).cells (n * 1) = (vals (fillR n 0 0)).toArray := by
    apply Array.ext'
    rw [e, toList_madeCells_one]
    simp [fillR, vals]
  rw [this]
theorem fill_splice {n k j : Nat} (c : Int) (h : k + j ≤ n) : splice (vals (fillR n k c)) k (vals (List.replicate j c)) = vals (fillR n (k + j) c) := by
  unfold splice fillR vals
  simp only [List.map_append, List.map_replicate, List.length_replicate]
  rw [List.take_append_of_le_length (by simp), List.take_of_length_le (by simp), List.drop_append, List.drop_of_length_le (by simp), List.nil_append, List.length_replicate, List.drop_replicate, ← List.append_assoc, List.replicate_append_replicate]
  congr 2
  omega
theorem fill_zero (n : Nat) (c : Int) : fillR n 0 c = fillR n 0 0 := by simp [fillR]
theorem fill_all (n : Nat) (c : Int) : fillR n n c = List.replicate n c := by simp [fillR]
theorem fill_cell {w : World} {g n k : Nat} {c : Int} (h : w.heap[g]? = some (.cells (vals (fillR n k c)).toArray 3 (0, 0))) {i : Nat} (hi : i < k) (hk : k ≤ n) : w.cell? ⟨g, i, none⟩ = some (.int .i64 c) := by
  unfold World.cell?
  simp only [h]
  simp [fillR, vals, List.getElem?_append, hi]
theorem fill_own {w : World} {g n B : Nat} {c : Int} (h : w.heap[g]? = some (.cells (vals (fillR n n c)).toArray 3 (0, 0))) (hB : B ≤ g) (hn : n ≤ 1000) : w.ownsRow B 3 1 (.slice (some ⟨g, 0, none⟩) n n) n (vals (List.replicate n c)) := by
  rw [fill_all] at h
  refine ⟨by simp [vals], .inr ⟨g, n, _, rfl, hB, h, Nat.le_refl _, by unfold maxLen; omega, by simp [vals], ?_⟩⟩
  simp [vals]
theorem copy_fill {B : Nat} {w0 w : World} {g n k j : Nat} {c : Int} (ty : TypeId) (hg : w.heap[g]? = some (.cells (vals (fillR n k c)).toArray 3 (0, 0))) (hk : k + j ≤ n) (sp : Addr) (dLen dCap sLen sCap : Nat) (hn : j = Nat.min sLen dLen) (hsrc : ∀ i, i < j → w.cell? (sp.add i) = some (.int .i64 c)) (hb : Below B w0 w) (hB : B ≤ g) :
    ∃ w', (Builtin.copy_ #[23, 23] ty #[.slice (some ⟨g, k, none⟩) dLen dCap, .slice (some sp) sLen sCap]).run Tryd.prog w = .ok (.int .i64 j) w' ∧ w'.heap[g]? = some (.cells (vals (fillR n (k + j) c)).toArray 3 (0, 0)) ∧ Below B w0 w' := by
  obtain ⟨i0, hi, hz0, hz1, hz2⟩ := info_parts infoInt
  have hsz : (Tryd.prog.info? 3).map (·.size) = some 1 := by rw [hi]; simp [hz1]
  have hl : (vals (List.replicate j c)).length = j := by simp [vals]
  have hf : k + (vals (List.replicate j c)).length ≤ (vals (fillR n k c)).toArray.size := by
    rw [hl]
    simp [vals, fillR]
    omega
  have := run_copy_row (P := Tryd.prog) w 23 23 ty 3 g k dLen dCap sp sLen sCap (vals (fillR n k c)).toArray 3 (vals (List.replicate j c)) Tryd.underlying23 hsz hg (by rw [hl]; exact hn) (fun i v hi => by
    have hil : i < j := by rw [← hl]; exact (List.getElem?_eq_some_iff.1 hi).1
    have e : (vals (List.replicate j c))[i]? = some (.int .i64 c) := by simp [vals, hil]
    rw [e] at hi
    cases hi
    exact hsrc i hil) hf (fun v hv => by simp [vals] at hv; rw [hv.2]; rfl)
  refine ⟨_, this.trans (by rw [hl]; rfl), ?_, below_setRow hb hB _⟩
  have hs := fill_splice c hk
  unfold splice at hs
  refine (setRow_heap w g _ _ 3 _ hg).trans ?_
  rw [hl] at hs
  simp only [List.append_assoc]
  rw [hs]
set_option maxHeartbeats 1600000 in
set_option maxRecDepth 20000 in
theorem repeat_any (b : Nat) (c : Int) (n : Nat) (hn : n ≤ 1000) (w : World) (hc : w.cell? ⟨b, 0, none⟩ = some (.int .i64 c)) (hb : b < w.heap.size) :
    Calls Tryd.prog 54 #[.slice (some ⟨b, 0, none⟩) 1 1, .int .i64 n] w fun e w' => e = .returned (.slice (some ⟨w.heap.size, 0, none⟩) n n) ∧ w'.ownsRow w.heap.size 3 1 (.slice (some ⟨w.heap.size, 0, none⟩) n n) n (vals (List.replicate n c)) ∧ Below w.heap.size w w' := by
  have C := (show Hid _ from mulOne_any n hn w)
  have hn' : (n : Int) ≤ 1000 := by omega
  have hn0 : ¬ (n : Int) < 0 := by omega
  have hn1 : ¬ (n : Int) > 9223372036854775807 := by omega
  go_enter Tryd.func54, Tryd.ntmps54
  go_wp2_with fail
  refine Calls.mono C.out ?_
  rintro e w' ⟨rfl, rfl⟩
  have hmk := make_ints10 n hn w'
  obtain ⟨W2, hW2⟩ : ∃ W2, w'.alloc (rowI n) = W2 := ⟨_, rfl⟩
  have hb2 : Below w'.heap.size w' W2 := by rw [← hW2]; exact (Below.refl _ _).alloc (Nat.le_refl _) _
  have hr2 := rowI_heap n w'
  rw [hW2] at hr2
  have hc2 := (hb2.cell (p := ⟨b, 0, none⟩) hb).trans hc
  obtain ⟨G, hG⟩ : ∃ G, w'.heap.size = G := ⟨_, rfl⟩
  rw [hG] at hb2 hr2
  have hbG : b < G := by omega
  rw [hW2, hG] at hmk
  have hj1 : Nat.min 1 n ≤ 1 := Nat.min_le_left 1 n
  have hjn : Nat.min 1 n ≤ n := Nat.min_le_right 1 n
  obtain ⟨W3, hcp, hr3, hb3⟩ := copy_fill (c := c) (k := 0) (j := Nat.min 1 n) 3 (by rw [fill_zero]; exact hr2) (by omega) ⟨b, 0, none⟩ n n 1 1 rfl (fun i hi => by
    obtain rfl : i = 0 := by omega
    exact hc2) hb2 (Nat.le_refl _)
  obtain ⟨k0, hk0⟩ : ∃ k0, Nat.min 1 n = k0 := ⟨_, rfl⟩
  have hk0n : k0 ≤ n ∧ (k0 = 0 → n = 0) := by
    rw [← hk0]
    refine ⟨hjn, fun h => ?_⟩
    rcases Nat.lt_or_ge n 1 with h1 | h1
    · omega
    · have : Nat.min 1 n = 1 := Nat.min_eq_left h1
      omega
  rw [hk0, Nat.zero_add] at hr3
  rw [hk0] at hcp
  have HR3 := (show Hid _ from hr3)
  have HB3 := (show Hid _ from hb3)
  clear hc hb hc2 hr2 hW2 hr3 hb3 hj1 hjn hk0 C hn0 hn1 hb2
  go_wp2_with fail
  go_loopw [8] (fun i wr => ∃ (k : Nat), k ≤ n ∧ (k = 0 → n = 0) ∧ i = .int .i64 k ∧ Hid (wr.heap[G]? = some (.cells (vals (fillR n k c)).toArray 3 (0, 0))) ∧ Below G w' wr) (fun i _ => n - (intOf i).toNat)
  case atStart => exact ⟨k0, hk0n.1, hk0n.2, rfl, HR3.out, HB3.out⟩
  case round =>
    obtain ⟨k, hk, hk0', rfl, hr, hbr⟩ := hrel
    obtain ⟨wo, rfl⟩ : ∃ x, x = wr := ⟨_, rfl⟩
    clear hcp HR3 HB3
    by_cases hlt : k < n
    · have hjk : Nat.min k (n - k) ≤ k := Nat.min_le_left _ _
      have hjn : Nat.min k (n - k) ≤ n - k := Nat.min_le_right _ _
      have hjp : 0 < Nat.min k (n - k) := Nat.lt_min.2 ⟨by omega, by omega⟩
      have hrd : wo.drew.heap[G]? = some (.cells (vals (fillR n k c)).toArray 3 (0, 0)) := hr.out
      obtain ⟨W4, hcp, hr4, hb4⟩ := copy_fill (c := c) (k := k) (j := Nat.min k (n - k)) 3 hrd (by omega) ⟨G, 0, none⟩ (n - k) (n - k) k n rfl (fun i hi => by
        rw [show (⟨G, 0, none⟩ : Addr).add i = ⟨G, i, none⟩ by simp [Addr.add]; omega]
        exact fill_cell hrd (by omega) hk) hbr.drew (Nat.le_refl _)
      obtain ⟨j, hj⟩ : ∃ j, Nat.min k (n - k) = j := ⟨_, rfl⟩
      rw [hj] at hcp hr4 hjk hjn hjp
      have HR4 := (show Hid _ from hr4)
      have HB4 := (show Hid _ from hb4)
      have hkn : (k : Int) ≤ n := by omega
      clear hr hbr hrd hr4 hb4 hj
      go_wp2
      go_region
      all_goals
        go_wp2
        go_roundw
        case rel => exact ⟨k + j, by omega, by omega, by go_num, HR4.out, HB4.out⟩
        case measure => simp [intOf]; omega
    · obtain rfl : k = n := by omega
      have HF : Hid (wo.ownsRow G 3 1 (.slice (some ⟨G, 0, none⟩) k k) k (vals (List.replicate k c)) ∧ Below G w' wo) := ⟨fill_own hr.out (Nat.le_refl _) hn, hbr⟩
      clear hr hbr
      go_wp2
      go_ret
      rw [hG]
      exact ⟨rfl, HF.out⟩
end Go.Proofs.YtmbggaepckgogaaDoor
