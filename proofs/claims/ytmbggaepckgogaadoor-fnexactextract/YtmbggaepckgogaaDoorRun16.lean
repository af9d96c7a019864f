/-
  PROVED HERE: what the program's bestByClass answers, at every graph whose nodes have lesser kids that are classes and ops with costs; the table of costs is laid. No other condition. what the program's looks at nodes of graphs answer, at every list, in a world whose table of arities is laid. No other condition.
-/
import Derived.Test.YtmbggaepckgogaaDoorRun14
import Derived.Test.YtmbggaepckgogaaDoorRun15
import Derived.Test.YtmbggaepckgogaaDoorRun4
import Derived.Test.YtmbggaepckgogaaDoorRun11
namespace Go.Proofs.YtmbggaepckgogaaDoor
open Go.ChangeShapes Go.WideShapes Go.ChangeAt Go.RowKit
set_option linter.unusedVariables false

theorem ops_of {p : List EN} {l : List Int} (h : graphB p l = true) : ∀ k, k < p.length → 1 ≤ (p.getD k e0).1 ∧ (p.getD k e0).1 ≤ 11 := fun k hk => by
  have hN := ((headB_iff p l).1 ((graphB_iff p l).1 h).1).1
  have h1 := (fit_node (((nodesB_iff p).1 hN).2 k hk)).1
  have hr : ¬ ((p.getD k e0).1 < 1 ∨ 11 < (p.getD k e0).1) := fun hc => by rw [ar_out _ hc] at h1; omega
  omega
/-- The rounds' measure: what is to fall, and whether one more is wanted. -/
def leftI (G n : Nat) (x : Value) (W : World) : Nat := 2 * (sumC (rdM W G n)).toNat + (match x with | .bool true => 1 | _ => 0)
/-- None of the first j nodes makes its class cheaper. -/
def Unch (p : List EN) (l m0 : List Int) (j : Nat) : Prop := ∀ q, q < j → ¬ priceB m0 (p.getD q e0) < m0.getD (clsN l q) 0
set_option maxHeartbeats 3200000 in
set_option maxRecDepth 20000 in
theorem implBest_any {p : List EN} {l : List Int} (hg : CostG p l) (a b : Option Addr) (n cap lb cb : Nat) (w : World) (hT : Cst w) (h : ESl w a n p) (hl : Sl w b lb l) (hn : n ≤ 120) (hk0 : ∀ k, k < p.length → ∀ y ∈ (p.getD k e0).2.2, 0 ≤ y) (h3 : ∀ i, i < n → (p.getD i e0).2.2.length ≤ 3) (hop : ∀ i, i < p.length → 1 ≤ (p.getD i e0).1 ∧ (p.getD i e0).1 ≤ 11) :
    Calls Tryd.prog 30 #[.agg #[.slice a n cap, .slice b lb cb]] w fun e w' => ∃ (G : Nat) (m : List Int), e = .returned (.slice (some ⟨G, 0, none⟩) n n) ∧ w'.ownsRow w.heap.size 3 1 (.slice (some ⟨G, 0, none⟩) n n) n (vals m) ∧ BestC p l m ∧ StillP p l m ∧ Below w.heap.size w w' := by
  obtain ⟨W1, hW1⟩ : ∃ W1, (w.alloc (.cells #[.slice a n cap, .slice b lb cb] 31)).alloc (.cells #[.int .i64 1125899906842624] 3) = W1 := ⟨_, rfl⟩
  have hb1 : Below w.heap.size w W1 := by rw [← hW1]; exact ((Below.refl _ _).alloc (Nat.le_refl _) _).alloc (by simp) _
  have hs1 : w.heap.size + 1 < W1.heap.size := by rw [← hW1]; simp
  have n0 : W1.cell? ⟨w.heap.size, 0, none⟩ = some (.slice a n cap) := by rw [← hW1]; simp [go_sem]
  have n1 : W1.cell? ⟨w.heap.size, 1, none⟩ = some (.slice b lb cb) := by rw [← hW1]; simp [go_sem]
  have n2 : W1.cell? ⟨w.heap.size + 1, 0, none⟩ = some (.int .i64 1125899906842624) := by rw [← hW1]; simp [go_sem]
  have HE := (show Hid (ESl W1 a n p ∧ Sl W1 b lb l ∧ Below w.heap.size w W1 ∧ Cst W1) from ⟨h.keep hb1, hl.keep hb1, hb1, hT.keeps hb1⟩)
  have HG := (show Hid (CostG p l ∧ p.length = n ∧ l.length = lb ∧ ∀ i, i < n → (p.getD i e0).2.2.length ≤ 3) from ⟨hg, h.1, hl.1, h3⟩)
  have HP := (show Hid ((∀ k, k < p.length → ∀ y ∈ (p.getD k e0).2.2, 0 ≤ y) ∧ ∀ i, i < p.length → 1 ≤ (p.getD i e0).1 ∧ (p.getD i e0).1 ≤ 11) from ⟨hk0, hop⟩)
  have HRp := (show Hid _ from repeat_any (w.heap.size + 1) 1125899906842624 n (by omega) W1 n2 hs1)
  clear h hl hb1 hg h3 hk0 hT hop
  go_enter Tryd.func30, Tryd.ntmps30
  go_wp2_with fail
  (try rw [hW1])
  obtain ⟨G, hG⟩ : ∃ G, W1.heap.size = G := ⟨_, rfl⟩
  have HGe := (show Hid (W1.heap.size = G) from hG)
  rw [hG] at HRp
  refine Calls.mono HRp.out ?_
  rintro e w2 ⟨rfl, hr2, hb2⟩
  rw [hG] at hs1
  have HO := (show Hid _ from priceOver_any (some ⟨G, 0, none⟩) n n w2)
  have q0 := (hb2.cell (p := ⟨w.heap.size, 0, none⟩) (by show w.heap.size < G; omega)).trans n0
  have q1 := (hb2.cell (p := ⟨w.heap.size, 1, none⟩) (by show w.heap.size < G; omega)).trans n1
  have H2 := (show Hid (w2.ownsRow G 3 1 (.slice (some ⟨G, 0, none⟩) n n) n (vals (List.replicate n 1125899906842624)) ∧ Below G W1 w2) from ⟨hr2, hb2⟩)
  clear HRp hW1 hr2 hb2
  go_wp2_with fail
  refine Calls.mono HO.out ?_
  rintro e w3 ⟨rfl, hb3, hs3, n3⟩
  obtain ⟨q, hq⟩ : ∃ q, w2.heap.size = q := ⟨_, rfl⟩
  have hGq : G < q := by
    obtain ⟨hr2, hb2⟩ := H2.out
    rcases hr2.2 with ⟨h0, _⟩ | ⟨g, c', cur, e, _, hg, _⟩
    · cases h0
    · cases e
      have := (Array.getElem?_eq_some_iff.1 hg).1
      omega
  have hq3 : q < w3.heap.size := by omega
  have H3 := (show Hid (w3.ownsRow G 3 1 (.slice (some ⟨G, 0, none⟩) n n) n (vals (List.replicate n 1125899906842624)) ∧ Below G W1 w3 ∧ w3.cell? ⟨q, 0, none⟩ = some (.slice (some ⟨G, 0, none⟩) n n)) from ⟨row_keep H2.out.1 hb3, H2.out.2.trans (hb3.mono (by omega)), by rw [← hq]; exact n3⟩)
  have HX : Hid (∀ W, Below G W1 W → (W.cell? ⟨w.heap.size, 0, none⟩ = some (.slice a n cap) ∧ W.cell? ⟨w.heap.size, 1, none⟩ = some (.slice b lb cb)) ∧ ESl W a n p ∧ Sl W b lb l ∧ Cst W) := fun W hW => by
    have hW' : Below W1.heap.size W1 W := by rw [HGe.out]; exact hW
    exact ⟨⟨(hW.cell (p := ⟨w.heap.size, 0, none⟩) (by show w.heap.size < G; omega)).trans n0, (hW.cell (p := ⟨w.heap.size, 1, none⟩) (by show w.heap.size < G; omega)).trans n1⟩, HE.out.1.keep hW', HE.out.2.1.keep hW', HE.out.2.2.2.keeps hW'⟩
  clear HO H2 hb3 hs3 n0 n1 n2 n3 q0 q1 hG
  go_wp2_with fail
  (try rw [hq])
  clear hq
  go_loopw [5] (fun x wr => ∃ (m : List Int) (f : Bool), x = .bool f ∧ Hid (wr.ownsRow G 3 1 (.slice (some ⟨G, 0, none⟩) n n) n (vals m) ∧ InC m n ∧ (∃ i, m = iterP p l i) ∧ (f = false → StillP p l m) ∧ Below G W1 wr ∧ wr.cell? ⟨q, 0, none⟩ = some (.slice (some ⟨G, 0, none⟩) n n) ∧ q < wr.heap.size)) (fun x wr => leftI G n x wr)
  case atStart => exact ⟨_, true, rfl, H3.out.1, inC_start n, ⟨0, by show _ = List.replicate p.length topC; rw [HG.out.2.1]; rfl⟩, (fun h => by cases h), H3.out.2.1, H3.out.2.2, hq3⟩
  case round =>
    obtain ⟨m0, f0, rfl, hT⟩ := hrel
    obtain ⟨w5, rfl⟩ : ∃ x, x = wr := ⟨_, rfl⟩
    clear hq3
    cases f0 with
    | false =>
      clear H3
      obtain ⟨t1, t2, t3, t4, t5, -, -⟩ := hT.out
      have HE2 := HE.out.2.2.1
      have HF : Hid (BestC p l m0 ∧ StillP p l m0 ∧ Below w.heap.size w w5) := ⟨best_of_still t3 (t4 rfl), t4 rfl, HE2.trans ((show Below W1.heap.size W1 w5 by rw [HGe.out]; exact t5).mono HE2.size)⟩
      have HRW : Hid (w5.ownsRow w.heap.size 3 1 (.slice (some ⟨G, 0, none⟩) n n) n (vals m0)) := own_base t1 (by omega)
      clear t1 t2 t3 t4 t5 HE2 hT HE
      go_wp2
      go_ret
      exact ⟨G, m0, rfl, HRW.out, HF.out⟩
    | true =>
      obtain ⟨t1, t2, t3, -, t5, t6, t7⟩ := hT.out
      obtain ⟨⟨q0, q1⟩, -⟩ := HX.out w5 t5
      have HT5 : Hid (w5.ownsRow G 3 1 (.slice (some ⟨G, 0, none⟩) n n) n (vals m0) ∧ InC m0 n ∧ (∃ i, m0 = iterP p l i) ∧ Below G W1 w5) := ⟨t1, t2, t3, t5⟩
      have HT6 : Hid (w5.cell? ⟨q, 0, none⟩ = some (.slice (some ⟨G, 0, none⟩) n n) ∧ q < w5.heap.size) := ⟨t6, t7⟩
      clear hT H3 t1 t2 t3 t5 t6 t7
      go_wp2_with fail
      go_loopw [5, 21] (fun x i wr => ∃ (j : Nat) (m : List Int) (f : Bool), j ≤ n ∧ i = .int .i64 j ∧ x = .bool f ∧ Hid (wr.ownsRow G 3 1 (.slice (some ⟨G, 0, none⟩) n n) n (vals m) ∧ m = roundP p l m0 j ∧ (f = false → m = m0 ∧ Unch p l m0 j) ∧ (f = true → sumC m < sumC m0) ∧ Below G W1 wr ∧ wr.cell? ⟨q, 0, none⟩ = some (.slice (some ⟨G, 0, none⟩) n n) ∧ q < wr.heap.size)) (fun _ i _ => n - (intOf i).toNat)
      case atStart => exact ⟨0, m0, false, Nat.zero_le _, rfl, rfl, HT5.out.1, rfl, (fun _ => ⟨rfl, fun q hq => absurd hq (Nat.not_lt_zero _)⟩), (fun h => by cases h), HT5.out.2.2.2, HT6.out⟩
      case round =>
        obtain ⟨j, m, f, hj, rfl, rfl, hT⟩ := hrel
        obtain ⟨w6, rfl⟩ : ∃ x, x = wr := ⟨_, rfl⟩
        clear HT6
        by_cases hlt : j < n
        · obtain ⟨t1, t2, t3, t4, t5, t6, t7⟩ := hT.out
          obtain ⟨s1, s2, s3, s4⟩ := HT5.out
          obtain ⟨hg, hpl, hll, hfew⟩ := HG.out
          obtain ⟨⟨q0, q1⟩, hE6, hS6, hC6⟩ := HX.out w6 t5
          have hin : InC m n := by rw [t2]; exact inC_round s2 j
          have hlbk : lb = n := by have := hg.len; omega
          have hjl : j < lb := by omega
          have hjl2 : (j : Int) < lb := by omega
          obtain ⟨bn, on, rfl, hbl, hc⟩ := hE6.at (by omega)
          obtain ⟨ai, li, ci, c1, c2, c3, hli, hci, hS⟩ := hc j hlt
          obtain ⟨C, hC⟩ : ∃ C, priceB m (p.getD j e0) = C := ⟨_, rfl⟩
          obtain ⟨z, hz⟩ : ∃ z : Nat, l.getD j 0 = z := ⟨(l.getD j 0).toNat, by have := hg.pos j (by omega); omega⟩
          have hcz : clsN l j = z := by unfold clsN; rw [hz]; rfl
          have hzk : z < n := by have := hg.cls j (by omega); omega
          obtain ⟨V, hV⟩ : ∃ V, m.getD z 0 = V := ⟨_, rfl⟩
          have hkd := hg.kids j (by omega)
          have h3j := hfew j hlt
          have hopj := HP.out.2 j (by omega)
          have hstep : stepP p l m j = if C < V then m.set z C else m := by unfold stepP; rw [hC, hcz, hV]
          have hfall : C < V → sumC (m.set z C) < sumC m := fun h => by
            rw [sumC_set m z C (by rw [hin.1]; exact hzk), hV]
            omega
          have HW : Hid (∀ W, Below w6.heap.size w6 W → (W.cell? ⟨w.heap.size, 0, none⟩ = some (.slice (some ⟨bn, on, none⟩) n cap) ∧ W.cell? ⟨w.heap.size, 1, none⟩ = some (.slice b lb cb)) ∧ W.cell? ⟨G, z, none⟩ = some (.int .i64 V) ∧ W.frozen? ⟨G, z, none⟩ = false ∧ (∃ bb ob, b = some ⟨bb, ob, none⟩ ∧ W.cell? ⟨bb, ob + j, none⟩ = some (.int .i64 z)) ∧
              Hid (C < V → (W.setCell ⟨G, z, none⟩ (.int .i64 C)).ownsRow G 3 1 (.slice (some ⟨G, 0, none⟩) n n) n (vals (m.set z C)) ∧ m.set z C = roundP p l m0 (j + 1) ∧ sumC (m.set z C) < sumC m0 ∧ Below G W1 (W.setCell ⟨G, z, none⟩ (.int .i64 C)) ∧ (W.setCell ⟨G, z, none⟩ (.int .i64 C)).cell? ⟨q, 0, none⟩ = some (.slice (some ⟨G, 0, none⟩) n n) ∧ q < (W.setCell ⟨G, z, none⟩ (.int .i64 C)).heap.size) ∧
              Hid (V ≤ C → W.ownsRow G 3 1 (.slice (some ⟨G, 0, none⟩) n n) n (vals m) ∧ m = roundP p l m0 (j + 1) ∧ (f = false → m = m0 ∧ Unch p l m0 (j + 1)) ∧ (f = true → sumC m < sumC m0) ∧ Below G W1 W ∧ W.cell? ⟨q, 0, none⟩ = some (.slice (some ⟨G, 0, none⟩) n n) ∧ q < W.heap.size)) := fun W hW => by
            have hWG : Below G W1 W := t5.trans (hW.mono (show G ≤ w6.heap.size by have := t5.size; omega))
            have hr := row_keep t1 hW
            obtain ⟨x0, -, x2, -⟩ := HX.out W hWG
            have hround : roundP p l m0 (j + 1) = stepP p l m j := by rw [t2]; rfl
            have hqc : W.cell? ⟨q, 0, none⟩ = some (.slice (some ⟨G, 0, none⟩) n n) := (hW.cell (p := ⟨q, 0, none⟩) t7).trans t6
            have hql : q < W.heap.size := Nat.lt_of_lt_of_le t7 hW.size
            refine ⟨x0, ?_, hr.frozenAt z, ?_, fun h => ⟨row_set10 hr z C, ?_, ?_, hWG.setCell (Nat.le_refl _) _, ?_, by simpa [World.setCell] using hql⟩, fun h => ⟨hr, ?_, fun hf => ?_, t4, hWG, hqc, hql⟩⟩
            · rw [hr.cellAt z (by omega), vals_get hin.1 hzk, hV]
            · obtain ⟨bb, ob, e, _, hcb⟩ := x2.2.resolve_left (by omega)
              exact ⟨bb, ob, e, by rw [hcb j (by omega), hz]⟩
            · rw [hround, hstep, if_pos h]
            · have h1 := hfall h
              cases f with
              | false => rw [← (t3 rfl).1]; exact h1
              | true => have := t4 rfl; omega
            · rw [World.cell?_setCell_other _ _ _ _ (fun e => by injection e; omega)]; exact hqc
            · rw [hround, hstep, if_neg (by omega)]
            · obtain ⟨h1, h2⟩ := t3 hf
              refine ⟨h1, fun q hq => ?_⟩
              by_cases e : q = j
              · subst e
                rw [← h1, hC, hcz, hV]
                omega
              · exact h2 q (by omega)
          have HCall : Hid (∀ W yo yn, p.getD j e0 = (yo, yn, (p.getD j e0).2.2) → Below w6.heap.size w6 W → Calls Tryd.prog 74 #[.agg #[.int .i64 yo, .int .i64 yn, .slice ai li ci], .pointer (some ⟨q, 0, none⟩)] W fun e w' => e = .returned (.int .i64 C) ∧ Below W.heap.size W w') := fun W yo yn hy hW => by
            have hr := row_keep t1 hW
            obtain ⟨a', c', e, hs⟩ := Sl.vals hr
            injection e with e1 e2 e3
            subst e1
            have hyo : yo = (p.getD j e0).1 := by rw [hy]
            have hyn : ((yo.toNat : Nat) : Int) = yo := by omega
            have := price_any yo.toNat yn ⟨by omega, by omega⟩ ai li ci (p.getD j e0).2.2 q (some ⟨G, 0, none⟩) n n m W (hC6.keeps hW) ((hW.cell (p := ⟨q, 0, none⟩) t7).trans t6) (hS.keep hW) hs hin (fun i hi => by
              have hm : (p.getD j e0).2.2.getD i 0 ∈ (p.getD j e0).2.2 := by
                rw [getI_lt (by have := hS.1; omega)]
                exact List.getElem_mem _
              have := (hkd _ hm).1
              have h0 := HP.out.1 j (by omega) _ hm
              exact ⟨((p.getD j e0).2.2.getD i 0).toNat, by omega, by omega⟩) (by have := hS.1; omega) (by omega)
            rw [hyn, ← hy, hC] at this
            exact this
          obtain ⟨y, hy⟩ : ∃ y, p.getD j e0 = y := ⟨_, rfl⟩
          rw [hy] at c1 c2 HCall
          obtain ⟨yo, yn, yk⟩ := y
          simp only at c1 c2
          have HCall2 : Hid (∀ W, Below w6.heap.size w6 W → Calls Tryd.prog 74 #[.agg #[.int .i64 yo, .int .i64 yn, .slice ai li ci], .pointer (some ⟨q, 0, none⟩)] W fun e w' => e = .returned (.int .i64 C) ∧ Below W.heap.size W w') := fun W hW => HCall.out W yo yn rfl hW
          obtain ⟨B5, hB5⟩ : ∃ B5, w6.heap.size = B5 := ⟨_, rfl⟩
          obtain ⟨W7, hW7⟩ : ∃ W7, w6.alloc (.cells #[.int .i64 yo, .int .i64 yn, .slice ai li ci] 74) = W7 := ⟨_, rfl⟩
          have hb7 : Below w6.heap.size w6 W7 := by rw [← hW7]; exact (Below.refl _ _).alloc (Nat.le_refl _) _
          have o0 : W7.cell? ⟨w6.heap.size, 0, none⟩ = some (.int .i64 yo) := by rw [← hW7]; simp [go_sem]
          have o1 : W7.cell? ⟨w6.heap.size, 1, none⟩ = some (.int .i64 yn) := by rw [← hW7]; simp [go_sem]
          have o2 : W7.cell? ⟨w6.heap.size, 2, none⟩ = some (.slice ai li ci) := by rw [← hW7]; simp [go_sem]
          rw [hB5] at o0 o1 o2
          have hkl : (j : Int) < n := by omega
          have hzk2 : (z : Int) < n := by omega
          have HB7 := (show Hid (Below w6.heap.size w6 W7) from hb7)
          have HC7 := (show Hid _ from HCall2.out W7 hb7)
          obtain ⟨⟨p0, p1⟩, -, -, ⟨bb, ob, rfl, p2⟩, -⟩ := HW.out W7 hb7
          have hmW : Hid (∀ W, Below W7.heap.size W7 W → Below w6.heap.size w6 W) := fun W hW => hb7.trans (hW.mono hb7.size)
          clear hlbk hT t1 t2 t3 t4 t5 t6 t7 s1 s2 s3 s4 hg hpl hll hfew hE6 hS6 hC6 hin hc hS hli hci hC hz hcz hV hkd h3j hopj hstep hfall HCall HCall2 hy hb7 HG HP HX HT5 q0 q1 hbl
          go_wp2_with fail
          (try rw [hW7])
          (try rw [hB5])
          clear hW7 c1 c2 c3
          refine Calls.mono HC7.out ?_
          rintro e w8 ⟨rfl, hb8⟩
          obtain ⟨⟨q0, q1⟩, r0, rf, -, HY, HN⟩ := HW.out w8 (hmW.out w8 hb8)
          clear HC7 HW hmW HB7 hb8 o0 o1 o2 p0 p1 p2
          by_cases hcond : C < V
          · have HE1 := (show Hid _ from HY.out hcond)
            clear HY HN
            go_wp2
            go_roundw
            case rel => exact ⟨j + 1, _, true, by omega, by go_num, rfl, HE1.out.1, HE1.out.2.1, (fun h => by cases h), (fun _ => HE1.out.2.2.1), HE1.out.2.2.2⟩
            case measure => simp [intOf]; omega
          · have HE1 := (show Hid _ from HN.out (by omega))
            clear HY HN
            go_wp2
            go_roundw
            case rel => exact ⟨j + 1, m, f, by omega, by go_num, rfl, HE1.out⟩
            case measure => simp [intOf]; omega
        · obtain rfl : j = n := by omega
          obtain ⟨t1, t2, t3, t4, t5, t6, t7⟩ := hT.out
          obtain ⟨s1, s2, s3, s4⟩ := HT5.out
          have hpl := HG.out.2.1
          have HN : Hid ((w6.ownsRow G 3 1 (.slice (some ⟨G, 0, none⟩) j j) j (vals m) ∧ InC m j ∧ (∃ i, m = iterP p l i) ∧ (f = false → StillP p l m) ∧ Below G W1 w6 ∧ w6.cell? ⟨q, 0, none⟩ = some (.slice (some ⟨G, 0, none⟩) j j) ∧ q < w6.heap.size) ∧ leftI G j (.bool f) w6 < leftI G j (.bool true) w5) := by
            have hin : InC m j := by rw [t2]; exact inC_round s2 j
            refine ⟨⟨t1, hin, ?_, fun hf => ?_, t5, t6, t7⟩, ?_⟩
            · obtain ⟨i, hi⟩ := s3
              refine ⟨i + 1, ?_⟩
              rw [t2, hi, ← hpl]
              rfl
            · obtain ⟨h1, h2⟩ := t3 hf
              rw [h1]
              intro q hq
              exact h2 q (by omega)
            · unfold leftI
              rw [rdM_row t1 hin.1, rdM_row s1 s2.1]
              have h0 := sumC_nonneg hin
              have h1 := sumC_nonneg s2
              cases f with
              | false =>
                have := (t3 rfl).1
                rw [this]
                simp
              | true =>
                have := t4 rfl
                simp only
                omega
          clear hT t1 t2 t3 t4 t5 t6 t7 s1 s2 s3 s4 hpl HT5
          go_wp2
          go_roundw
          case rel => exact ⟨m, f, rfl, HN.out.1⟩
          case measure => exact HN.out.2
end Go.Proofs.YtmbggaepckgogaaDoor
namespace Go.Proofs.YtmbggaepckgogaaDoor
open Go.ChangeShapes Go.WideShapes Go.ChangeAt Go.RowKit
set_option linter.unusedVariables false

/-- The program's look at a node that has the number k. -/
def fitI (k : Int) (x : EN) : Bool := nodeOk x.1 x.2.1 x.2.2.length && kidsB x.2.2 0 (k - 1)
set_option maxHeartbeats 1600000 in
theorem implNode_any (op n : Int) (a : Option Addr) (len cap : Nat) (l : List Int) (k : Int) (w : World) (ht : Tab w) (h : Sl w a len l) (hm : len ≤ 9223372036854775807) :
    Calls Tryd.prog 71 #[.agg #[.int .i64 op, .int .i64 n, .slice a len cap], .int .i64 k] w fun e w' => e = .returned (.bool (fitI k (op, n, l))) ∧ Below w.heap.size w w' := by
  have hll := h.1
  obtain ⟨W1, hW1⟩ : ∃ W1, w.alloc (.cells #[.int .i64 op, .int .i64 n, .slice a len cap] 74) = W1 := ⟨_, rfl⟩
  have hb1 : Below w.heap.size w W1 := by rw [← hW1]; exact (Below.refl _ _).alloc (Nat.le_refl _) _
  have n0 : W1.cell? ⟨w.heap.size, 0, none⟩ = some (.int .i64 op) := by rw [← hW1]; simp [go_sem]
  have n1 : W1.cell? ⟨w.heap.size, 1, none⟩ = some (.int .i64 n) := by rw [← hW1]; simp [go_sem]
  have n2 : W1.cell? ⟨w.heap.size, 2, none⟩ = some (.slice a len cap) := by rw [← hW1]; simp [go_sem]
  have hs1 : w.heap.size < W1.heap.size := by rw [← hW1]; simp
  have HA := (show Hid _ from implArity_any op W1 (ht.keeps hb1))
  have HF := (show Hid _ from implFits_any op n W1)
  have HB := (show Hid _ from hb1)
  have HS : Hid (∀ W, Below W1.heap.size W1 W → Sl W a len l) := fun W hW => h.keep (hb1.trans (hW.mono hb1.size))
  unfold fitI nodeOk
  simp only
  rw [hll]
  clear h hb1 ht
  by_cases h0 : 0 ≤ ar op
  · have ea : arN op = ar op := by unfold arN; rw [if_pos h0]
    rw [ea, decide_eq_true h0] at HA
    rw [decide_eq_true h0, Bool.true_and]
    by_cases hl : (len : Int) = ar op
    · rw [decide_eq_true hl, Bool.true_and]
      rw [← hl] at HA
      have hne : ((len : Int) != (len : Int)) = false := by simp
      clear hl h0 ea
      cases hf : numFits op n with
      | false =>
        rw [hf] at HF
        rw [Bool.false_and]
        clear hf
        go_enter Tryd.func71, Tryd.ntmps71
        go_wp2_with fail
        (try rw [hW1])
        refine Calls.mono HA.out ?_
        rintro e w2 ⟨rfl, rfl⟩
        clear HA hW1
        go_wp2_with fail
        refine Calls.mono HF.out ?_
        rintro e w2 ⟨rfl, hb2⟩
        have HB2 : Hid (Below w.heap.size w w2) := HB.out.trans (hb2.mono HB.out.size)
        clear HF
        go_wp2
        go_ret
        exact ⟨rfl, HB2.out⟩
      | true =>
        rw [hf] at HF
        rw [Bool.true_and]
        clear hf
        go_enter Tryd.func71, Tryd.ntmps71
        go_wp2_with fail
        (try rw [hW1])
        refine Calls.mono HA.out ?_
        rintro e w2 ⟨rfl, rfl⟩
        clear HA hW1
        go_wp2_with fail
        refine Calls.mono HF.out ?_
        rintro e w2 ⟨rfl, hb2⟩
        have HB2 : Hid (Below w.heap.size w w2) := HB.out.trans (hb2.mono HB.out.size)
        have HS2 := (show Hid _ from HS.out w2 hb2)
        have q2 := (hb2.cell (p := ⟨w.heap.size, 2, none⟩) hs1).trans n2
        clear HF HS n0 n1 n2 hb2
        go_wp2_with fail
        go_loopw [36] (fun i wr => ∃ j : Nat, j ≤ len ∧ i = .int .i64 j ∧ wr = w2 ∧ Hid (kidsB (l.drop j) 0 (k - 1) = kidsB l 0 (k - 1))) (fun i _ => len - (intOf i).toNat)
        case atStart => exact ⟨0, Nat.zero_le _, rfl, rfl, rfl⟩
        case round =>
          obtain ⟨j, hj, rfl, rfl, hT⟩ := hrel
          by_cases hlt : j < len
          · obtain ⟨b, off, rfl, hc⟩ := cells_of HS2.out (by omega)
            have ck := hc j hlt
            have hst := kidsB_drop l j 0 (k - 1) (by omega)
            rw [hT.out] at hst
            clear hT hc
            generalize l.getD j 0 = x at ck hst
            by_cases e1 : x < 0
            · rw [decide_eq_false (by omega), Bool.false_and] at hst
              have HV : Hid (kidsB l 0 (k - 1) = false) := hst
              clear hst
              go_wp2
              go_ret
              exact ⟨by rw [HV.out] <;> rfl, HB2.out⟩
            · by_cases e2 : k ≤ x
              · rw [decide_eq_false (by omega), Bool.false_and] at hst
                have HV : Hid (kidsB l 0 (k - 1) = false) := hst
                clear hst
                go_wp2
                go_ret
                exact ⟨by rw [HV.out] <;> rfl, HB2.out⟩
              · rw [decide_eq_true (by omega), Bool.true_and] at hst
                have HR : Hid (kidsB (l.drop (j + 1)) 0 (k - 1) = kidsB l 0 (k - 1)) := hst.symm
                clear hst
                go_wp2
                go_roundw
                case rel => exact ⟨j + 1, by omega, by go_num, by first | trivial | rfl, HR⟩
                case measure => simp [intOf]; omega
          · obtain rfl : j = len := by omega
            have HV : Hid (kidsB l 0 (k - 1) = true) := by show _ = _; rw [← hT.out, ← hll, List.drop_of_length_le (Nat.le_refl _)]; rfl
            clear hT
            go_wp2
            go_ret
            exact ⟨by rw [HV.out] <;> rfl, HB2.out⟩
    · rw [decide_eq_false hl, Bool.false_and, Bool.false_and]
      have hne : ((len : Int) != ar op) = true := by simpa using hl
      clear hl ea HF
      generalize ar op = m at HA h0 hne
      go_enter Tryd.func71, Tryd.ntmps71
      go_wp2_with fail
      (try rw [hW1])
      refine Calls.mono HA.out ?_
      rintro e w2 ⟨rfl, rfl⟩
      clear HA hW1
      go_wp2
      go_ret
      exact ⟨rfl, HB.out⟩
  · rw [decide_eq_false h0] at HA
    rw [decide_eq_false h0, Bool.false_and, Bool.false_and, Bool.false_and]
    clear h0 HF
    generalize arN op = m at HA
    go_enter Tryd.func71, Tryd.ntmps71
    go_wp2_with fail
    (try rw [hW1])
    refine Calls.mono HA.out ?_
    rintro e w2 ⟨rfl, rfl⟩
    clear HA hW1
    go_wp2
    go_ret
    exact ⟨rfl, HB.out⟩

set_option maxHeartbeats 1600000 in
theorem implNodes_in (a b : Option Addr) (len cap cb : Nat) (p : List EN) (l : List Int) (w : World) (ht : Tab w) (h : ESl w a len p) (hl : Sl w b len l) (h120 : len ≤ 120) (hP : partB l = true) :
    Calls Tryd.prog 51 #[.slice a len cap, .slice b len cb] w fun e w' => e = .returned (.bool (eachB 0 p)) ∧ Below w.heap.size w w' := by
  have hll := h.1
  have i1 : ¬ (120 : Int) < len := by omega
  have hne : ((len : Int) != len) = false := by simp
  have HP := (show Hid _ from implParts_any b len cb l w hl (by omega))
  rw [hP] at HP
  have HT : Hid (Tab w) := ht
  clear hl hP ht
  go_enter Tryd.func51, Tryd.ntmps51
  go_wp2_with fail
  refine Calls.mono HP.out ?_
  rintro e w2 ⟨rfl, rfl⟩
  clear HP
  go_wp2_with fail
  go_loopw [24] (fun i wr => ∃ k : Nat, k ≤ len ∧ i = .int .i64 k ∧ Below w2.heap.size w2 wr ∧ Hid (eachB k (p.drop k) = eachB 0 p)) (fun i _ => len - (intOf i).toNat)
  case atStart => exact ⟨0, Nat.zero_le _, rfl, Below.refl _ _, rfl⟩
  case round =>
    obtain ⟨k, hk, rfl, hbr, hT⟩ := hrel
    by_cases hlt : k < len
    · obtain ⟨bn, on, rfl, hbl, hc⟩ := (h.keep hbr).at (by omega)
      obtain ⟨ai, li, ci, c1, c2, c3, hli, hci, hS⟩ := hc k hlt
      have hst := eachB_drop p k (by omega)
      rw [hT.out] at hst
      have hfi : fitE k (p.getD k e0) = fitI k (p.getD k e0) := rfl
      rw [hfi] at hst
      have hsz : ¬ bn = wr.heap.size := by omega
      have hkl : (k : Int) < len := by omega
      obtain ⟨x, hx⟩ : ∃ x, p.getD k e0 = x := ⟨_, rfl⟩
      obtain ⟨xo, xn, xk⟩ := x
      rw [hx] at c1 c2 hS hst
      simp only at c1 c2 hS
      obtain ⟨W1, hW1⟩ : ∃ W1, wr.alloc (.cells #[.int .i64 xo, .int .i64 xn, .slice ai li ci] 74) = W1 := ⟨_, rfl⟩
      have hb1 : Below wr.heap.size wr W1 := by rw [← hW1]; exact (Below.refl _ _).alloc (Nat.le_refl _) _
      have n0 : W1.cell? ⟨wr.heap.size, 0, none⟩ = some (.int .i64 xo) := by rw [← hW1]; simp [go_sem]
      have n1 : W1.cell? ⟨wr.heap.size, 1, none⟩ = some (.int .i64 xn) := by rw [← hW1]; simp [go_sem]
      have n2 : W1.cell? ⟨wr.heap.size, 2, none⟩ = some (.slice ai li ci) := by rw [← hW1]; simp [go_sem]
      have HN := (show Hid _ from implNode_any xo xn ai li ci xk k W1 ((HT.out.keeps hbr).keeps hb1) (hS.keep hb1) hli)
      have HF : Hid (∀ W, Below W1.heap.size W1 W → Below w2.heap.size w2 W) := fun W hW => hbr.trans ((hb1.trans (hW.mono hb1.size)).mono hbr.size)
      clear hT hc hS hx hfi hb1
      cases e1 : fitI k (xo, xn, xk) with
      | false =>
        rw [e1] at HN hst
        have HV : Hid (eachB 0 p = false) := hst
        clear hst e1
        go_wp2_with fail
        (try rw [hW1])
        refine Calls.mono HN.out ?_
        rintro e w3 ⟨rfl, hb2⟩
        clear HN hW1
        go_wp2
        go_ret
        exact ⟨by rw [HV.out] <;> rfl, HF.out _ hb2⟩
      | true =>
        rw [e1] at HN hst
        have HR : Hid (eachB (k + 1) (p.drop (k + 1)) = eachB 0 p) := hst.symm
        clear hst e1
        go_wp2_with fail
        (try rw [hW1])
        refine Calls.mono HN.out ?_
        rintro e w3 ⟨rfl, hb2⟩
        clear HN hW1
        go_wp2
        go_roundw
        case rel => exact ⟨k + 1, by omega, by go_num, HF.out _ hb2, HR⟩
        case measure => simp [intOf]; omega
    · obtain rfl : k = len := by omega
      have HV : Hid (eachB 0 p = true) := by show _ = _; rw [← hT.out, ← hll, List.drop_of_length_le (Nat.le_refl _)]; rfl
      clear hT
      go_wp2
      go_ret
      exact ⟨by rw [HV.out] <;> rfl, hbr⟩
theorem implNodes_any (a b : Option Addr) (len cap lb cb : Nat) (p : List EN) (l : List Int) (w : World) (ht : Tab w) (h : ESl w a len p) (hl : Sl w b lb l) (hm : lb ≤ 9223372036854775807) :
    Calls Tryd.prog 51 #[.slice a len cap, .slice b lb cb] w fun e w' => e = .returned (.bool (headB p l)) ∧ Below w.heap.size w w' := by
  have hll := h.1
  have hbl := hl.1
  unfold headB nodesB
  by_cases h120 : len ≤ 120
  · rw [decide_eq_true (show p.length ≤ 120 by omega), Bool.true_and]
    by_cases hlen : lb = len
    · subst hlen
      rw [decide_eq_true (show l.length = p.length by omega), Bool.and_true]
      cases hP : partB l with
      | true => rw [Bool.and_true]; exact implNodes_in a b lb cap cb p l w ht h hl h120 hP
      | false =>
        rw [Bool.and_false]
        have HP := (show Hid _ from implParts_any b lb cb l w hl (by omega))
        rw [hP] at HP
        have i1 : ¬ (120 : Int) < lb := by omega
        have hne : ((lb : Int) != lb) = false := by simp
        clear h hl hP ht
        go_enter Tryd.func51, Tryd.ntmps51
        go_wp2_with fail
        refine Calls.mono HP.out ?_
        rintro e w2 ⟨rfl, rfl⟩
        clear HP
        go_wp2
        go_ret
        exact ⟨rfl, Below.refl _ _⟩
    · rw [decide_eq_false (show ¬ l.length = p.length by omega), Bool.and_false, Bool.false_and]
      have i1 : ¬ (120 : Int) < len := by omega
      have hne : ((lb : Int) != len) = true := by simp; omega
      clear h hl ht
      go_enter Tryd.func51, Tryd.ntmps51
      go_wp2
      go_ret
      exact ⟨rfl, Below.refl _ _⟩
  · rw [decide_eq_false (show ¬ p.length ≤ 120 by omega), Bool.false_and, Bool.false_and, Bool.false_and]
    have i1 : (120 : Int) < len := by omega
    clear h hl ht
    go_enter Tryd.func51, Tryd.ntmps51
    go_wp2
    go_ret
    exact ⟨rfl, Below.refl _ _⟩
end Go.Proofs.YtmbggaepckgogaaDoor
