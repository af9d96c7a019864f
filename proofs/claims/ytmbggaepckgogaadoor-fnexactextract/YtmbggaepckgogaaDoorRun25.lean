/-
  PROVED HERE: what the program's chooserOf and ChosenIn answer, and the model's ChosenIn, at every graph and number; the tables of arities and of costs are laid. No other condition. a node in a box that a drawn statement made. No condition.
-/
import Derived.Test.YtmbggaepckgogaaDoorRun24
import Derived.Laws.EntriesVeiled
import Derived.Test.YtmbggaepckgogaaDoorRun23
namespace Go.Proofs.YtmbggaepckgogaaDoor
open Go.ChangeShapes Go.WideShapes Go.ChangeAt Go.RowKit
set_option linter.unusedVariables false

set_option maxHeartbeats 3200000 in
set_option maxRecDepth 20000 in
theorem chooser_any {p : List EN} {l : List Int} (hG : graphB p l = true) (a b : Option Addr) (n cap lb cb : Nat) (w : World) (hT : Cst w) (h : ESl w a n p) (hl : Sl w b lb l) (hn : n ≤ 120) :
    Calls Tryd.prog 37 #[.agg #[.slice a n cap, .slice b lb cb]] w fun e w' => ∃ (qg qp qc q G : Nat) (m : List Int), e = .returned (.func (.func 61) #[] #[.pointer (some ⟨qg, 0, none⟩), .pointer (some ⟨qc, 0, none⟩)]) ∧ ChoAt w' p l m a b n cap lb cb qg qp qc q G ∧ CostI p l m n lb ∧ BestC p l m ∧ StillP p l m ∧ Below w.heap.size w w' := by
  have hll := h.1
  have hl1 := hl.1
  obtain ⟨W1, hW1⟩ : ∃ W1, w.alloc (.cells #[.slice a n cap, .slice b lb cb] 31) = W1 := ⟨_, rfl⟩
  have hb1 : Below w.heap.size w W1 := by rw [← hW1]; exact (Below.refl _ _).alloc (Nat.le_refl _) _
  have hs1 : w.heap.size < W1.heap.size := by rw [← hW1]; simp
  have n0 : W1.cell? ⟨w.heap.size, 0, none⟩ = some (.slice a n cap) := by rw [← hW1]; simp [go_sem]
  have n1 : W1.cell? ⟨w.heap.size, 1, none⟩ = some (.slice b lb cb) := by rw [← hW1]; simp [go_sem]
  have hmf : ∀ (fn : Fn) (first cap : Array Value) (w : World), (Instr.makeFunc fn first cap).run Tryd.prog w = .ok (.func fn first cap) w := fun _ _ _ _ => rfl
  have HB := (show Hid _ from implBest_any (costG_of hG) a b n cap lb cb W1 (hT.keeps hb1) (h.keep hb1) (hl.keep hb1) hn (kids_of hG).1 (fun i hi => (kids_of hG).2 i (by omega)) (ops_of hG))
  have HX : Hid (∀ W, Below W1.heap.size W1 W → Below w.heap.size w W ∧ Cst W ∧ ESl W a n p ∧ Sl W b lb l ∧ W.cell? ⟨w.heap.size, 0, none⟩ = some (.slice a n cap) ∧ W.cell? ⟨w.heap.size, 1, none⟩ = some (.slice b lb cb)) := fun W hW => ⟨hb1.trans (hW.mono hb1.size), (hT.keeps hb1).keeps hW, (h.keep hb1).keep hW, (hl.keep hb1).keep hW, (hW.cell (p := ⟨w.heap.size, 0, none⟩) hs1).trans n0, (hW.cell (p := ⟨w.heap.size, 1, none⟩) hs1).trans n1⟩
  have HI : Hid (∀ m, InC m n → CostI p l m n lb) := fun m hm => ⟨costG_of hG, hll, hl1, fun i hi => (kids_of hG).2 i (by omega), (kids_of hG).1, ops_of hG, hm, hn⟩
  have HPn : Hid (p.length = n) := hll
  clear h hl hb1 hT hG hll hl1
  go_enter Tryd.func37, Tryd.ntmps37
  go_wp2_with fail
  (try rw [hW1])
  refine Calls.mono HB.out ?_
  rintro e w2 ⟨G, m, rfl, hr2, hBC, hSt, hb2⟩
  have HO := (show Hid _ from priceOver_any (some ⟨G, 0, none⟩) n n w2)
  have HB2 := (show Hid _ from hb2)
  have HR2 := (show Hid _ from hr2)
  have HCm := (show Hid (BestC p l m ∧ StillP p l m) from ⟨hBC, hSt⟩)
  clear HB hW1 hr2 hBC hSt hb2 n0 n1
  go_wp2_with fail
  refine Calls.mono HO.out ?_
  rintro e w3 ⟨rfl, hb3, hs3, n3⟩
  obtain ⟨W4, hW4⟩ : ∃ W4, (w3.alloc (.cells #[.func (.func 74) #[] #[.pointer (some ⟨w2.heap.size, 0, none⟩)]] 80)).alloc (.cells #[.func (.func 59) #[] #[.pointer (some ⟨w2.heap.size + 1, 0, none⟩), .pointer (some ⟨w.heap.size, 0, none⟩)]] 84) = W4 := ⟨_, rfl⟩
  have hb4 : Below w3.heap.size w3 W4 := by rw [← hW4]; exact ((Below.refl _ _).alloc (Nat.le_refl _) _).alloc (by simp) _
  have c0 : W4.cell? ⟨w2.heap.size + 1, 0, none⟩ = some (.func (.func 74) #[] #[.pointer (some ⟨w2.heap.size, 0, none⟩)]) := by rw [← hW4]; simp [go_sem, hs3]
  have c1 : W4.cell? ⟨w2.heap.size + 1 + 1, 0, none⟩ = some (.func (.func 59) #[] #[.pointer (some ⟨w2.heap.size + 1, 0, none⟩), .pointer (some ⟨w.heap.size, 0, none⟩)]) := by rw [← hW4]; simp [go_sem, hs3]
  have hb14 : Below W1.heap.size W1 W4 := (HB2.out.trans (hb3.mono HB2.out.size)).trans (hb4.mono (by have := HB2.out.size; have := hb3.size; omega))
  have HF : Hid (ChoAt W4 p l m a b n cap lb cb w.heap.size (w2.heap.size + 1) (w2.heap.size + 1 + 1) w2.heap.size G ∧ CostI p l m n lb ∧ BestC p l m ∧ StillP p l m ∧ Below w.heap.size w W4) := by
    obtain ⟨x1, x2, x3, x4, x5, x6⟩ := HX.out W4 hb14
    have hr4 := row_keep (row_keep HR2.out hb3) hb4
    obtain ⟨a', c', e, hs⟩ := Sl.vals hr4
    injection e with e1 e2 e3
    subst e1
    refine ⟨⟨x2, x3, x4, hs, x5, x6, c0, c1, (hb4.cell (p := ⟨w2.heap.size, 0, none⟩) (by show w2.heap.size < _; omega)).trans n3⟩, HI.out m ?_, HCm.out.1, HCm.out.2, x1⟩
    have := best_in HCm.out.1
    rw [HPn.out] at this
    exact this
  clear HO HB2 HR2 HX HI HCm hb3 n3 hb4 c0 c1 hb14 HPn
  go_wp2
  (try rw [hW4])
  refine bodyPost_ret (v := .func (.func 61) #[] #[.pointer (some ⟨w.heap.size, 0, none⟩), .pointer (some ⟨w2.heap.size + 1 + 1, 0, none⟩)]) ?_ ?_ ?_
  · simp [results, Tryd.results37, go_sem, *]
  · rfl
  · exact ⟨_, _, _, _, _, m, rfl, HF.out⟩
/-- Whether a node may be chosen. -/
def choOk (p : List EN) (l : List Int) (c : Int) : Bool := graphB p l && clB l c
/-- The node that is chosen, by the best costs B: C where one is. -/
def ChoC (p : List EN) (l : List Int) (c C : Int) : Prop := (choOk p l c = true → ∀ B, BestC p l B → ∀ j : Nat, IsCho p l B c.toNat j → C = j) ∧ (choOk p l c = false → C = 0)
theorem choC_some (p : List EN) (l : List Int) (c : Int) : ∃ C, ChoC p l c C := by
  cases h : choOk p l c with
  | false => exact ⟨0, fun h2 => (by rw [h] at h2; cases h2), fun _ => rfl⟩
  | true =>
    obtain ⟨B0, hB0⟩ := best_one p l
    obtain ⟨C, hC⟩ := cho_some p l B0 c.toNat
    exact ⟨C, fun _ B hB j hj => hC j (by rw [← hB0 B hB]; exact hj), fun h2 => (by rw [h] at h2; cases h2)⟩
theorem clB_nat {l : List Int} {c : Int} (h : clB l c = true) : ∃ k : Nat, c = k ∧ k < l.length ∧ l.getD k 0 = k := by
  unfold clB hasB at h
  simp only [Bool.and_eq_true, decide_eq_true_eq, beq_iff_eq] at h
  exact ⟨c.toNat, by omega, by omega, by rw [h.2]; omega⟩
set_option maxHeartbeats 3200000 in
set_option maxRecDepth 20000 in
theorem implChosen_any (a b : Option Addr) (len cap lb cb : Nat) (p : List EN) (l : List Int) (c C : Int) (hC : ChoC p l c C) (w : World) (hT : Tab w) (hCs : Cst w) (hI : InE p) (h : ESl w a len p) (hl : Sl w b lb l) (hm : len ≤ 9223372036854775807) (hm2 : lb ≤ 9223372036854775807) :
    Calls Tryd.prog 16 #[.agg #[.slice a len cap, .slice b lb cb], .int .i64 c] w fun e w' => e = .returned (.tuple #[.int .i64 C, .bool (choOk p l c)]) ∧ Below w.heap.size w w' := by
  have hll := h.1
  have hl1 := hl.1
  obtain ⟨W1, hW1⟩ : ∃ W1, w.alloc (.cells #[.slice a len cap, .slice b lb cb] 31) = W1 := ⟨_, rfl⟩
  have hb1 : Below w.heap.size w W1 := by rw [← hW1]; exact (Below.refl _ _).alloc (Nat.le_refl _) _
  have n0 : W1.cell? ⟨w.heap.size, 0, none⟩ = some (.slice a len cap) := by rw [← hW1]; simp [go_sem]
  have n1 : W1.cell? ⟨w.heap.size, 1, none⟩ = some (.slice b lb cb) := by rw [← hW1]; simp [go_sem]
  have hs1 : w.heap.size < W1.heap.size := by rw [← hW1]; simp
  have HG := (show Hid _ from implGraph_any a b len cap lb cb p l W1 (hT.keeps hb1) (h.keep hb1) (hl.keep hb1) hm2 hI)
  have HF : Hid (∀ W, Below W1.heap.size W1 W → Below w.heap.size w W ∧ Cst W ∧ ESl W a len p ∧ Sl W b lb l ∧ W.cell? ⟨w.heap.size, 0, none⟩ = some (.slice a len cap) ∧ W.cell? ⟨w.heap.size, 1, none⟩ = some (.slice b lb cb)) := fun W hW => ⟨hb1.trans (hW.mono hb1.size), (hCs.keeps hb1).keeps hW, (h.keep hb1).keep hW, (hl.keep hb1).keep hW, (hW.cell (p := ⟨w.heap.size, 0, none⟩) hs1).trans n0, (hW.cell (p := ⟨w.heap.size, 1, none⟩) hs1).trans n1⟩
  cases hG : graphB p l with
  | false =>
    have hno : choOk p l c = false := by unfold choOk; rw [hG]; rfl
    have hC0 : C = 0 := hC.2 hno
    subst hC0
    rw [hno]
    rw [hG] at HG
    clear h hl hb1 hG hT hCs hI hC hno
    go_enter Tryd.func16, Tryd.ntmps16
    go_wp2_with fail
    (try rw [hW1])
    refine Calls.mono HG.out ?_
    rintro e w2 ⟨rfl, hb2⟩
    have HE := (show Hid _ from (HF.out _ hb2).1)
    clear HG hW1 HF hb2
    go_wp2
    go_ret2
    exact ⟨rfl, HE.out⟩
  | true =>
    rw [hG] at HG
    obtain ⟨hP, hlen, h120⟩ := graph_parts2 hG
    obtain rfl : lb = len := by omega
    have HCl : Hid (∀ W, Below W1.heap.size W1 W → Calls Tryd.prog 36 #[.agg #[.slice a lb cap, .slice b lb cb], .int .i64 c] W fun e w' => e = .returned (.bool (clB l c)) ∧ Below W.heap.size W w') := fun W hW => implClass_any a b lb cap cb l c W (HF.out W hW).2.2.2.1 (by omega)
    cases hcl : clB l c with
    | false =>
      have hno : choOk p l c = false := by unfold choOk; rw [hG, hcl]; rfl
      have hC0 : C = 0 := hC.2 hno
      subst hC0
      rw [hno]
      rw [hcl] at HCl
      clear h hl hb1 hG hT hCs hI hC hno hP
      go_enter Tryd.func16, Tryd.ntmps16
      go_wp2_with fail
      (try rw [hW1])
      refine Calls.mono HG.out ?_
      rintro e w2 ⟨rfl, hb2⟩
      obtain ⟨-, -, -, -, q0, q1⟩ := HF.out w2 hb2
      have HC2 := (show Hid _ from HCl.out w2 hb2)
      have HB2 := (show Hid _ from hb2)
      clear HG hW1 HCl hb2 n0 n1
      go_wp2_with fail
      refine Calls.mono HC2.out ?_
      rintro e w3 ⟨rfl, hb3⟩
      have HE := (show Hid _ from (HF.out _ (HB2.out.trans (hb3.mono HB2.out.size))).1)
      clear HC2 hb3 HB2 q0 q1 HF
      go_wp2
      go_ret2
      exact ⟨rfl, HE.out⟩
    | true =>
      have hyes : choOk p l c = true := by unfold choOk; rw [hG, hcl]; rfl
      have hC1 := hC.1 hyes
      rw [hyes]
      rw [hcl] at HCl
      obtain ⟨k, rfl, hkl, hkc⟩ := clB_nat hcl
      rw [Int.toNat_natCast] at hC1
      have HCh : Hid (∀ W, Below W1.heap.size W1 W → Calls Tryd.prog 37 #[.agg #[.slice a lb cap, .slice b lb cb]] W fun e w' => ∃ (qg qc : Nat), e = .returned (.func (.func 61) #[] #[.pointer (some ⟨qg, 0, none⟩), .pointer (some ⟨qc, 0, none⟩)]) ∧ Hid (∀ W', Below w'.heap.size w' W' → Calls Tryd.prog 61 #[.int .i64 k, .pointer (some ⟨qg, 0, none⟩), .pointer (some ⟨qc, 0, none⟩)] W' fun e w'' => e = .returned (.int .i64 C) ∧ Below W'.heap.size W' w'') ∧ Below W.heap.size W w') := fun W hW => (chooser_any hG a b lb cap lb cb W (HF.out W hW).2.1 (HF.out W hW).2.2.1 (HF.out W hW).2.2.2.1 (by omega)).mono fun e w' ⟨qg, qp, qc, q, G, m, r1, r2, r3, r4, r5, r6⟩ => by
        refine ⟨qg, qc, r1, fun W' hW' => (chooser2_any r3 r4 r5 (r2.keep hW') (c := k) (by omega) hkc).mono ?_, r6⟩
        rintro e w'' ⟨j, rfl, hj, hb⟩
        exact ⟨by rw [hC1 m r4 j hj], hb⟩
      clear h hl hb1 hG hT hCs hI hC hyes hP hcl hC1 hkl hkc
      go_enter Tryd.func16, Tryd.ntmps16
      go_wp2_with fail
      (try rw [hW1])
      refine Calls.mono HG.out ?_
      rintro e w2 ⟨rfl, hb2⟩
      obtain ⟨-, -, -, -, q0, q1⟩ := HF.out w2 hb2
      have HC2 := (show Hid _ from HCl.out w2 hb2)
      have HB2 := (show Hid _ from hb2)
      clear HG hW1 HCl hb2 n0 n1
      go_wp2_with fail
      refine Calls.mono HC2.out ?_
      rintro e w3 ⟨rfl, hb3⟩
      have hB3 := HB2.out.trans (hb3.mono HB2.out.size)
      clear q0 q1
      obtain ⟨-, -, -, -, q0, q1⟩ := HF.out w3 hB3
      have HH3 := (show Hid _ from HCh.out w3 hB3)
      have HB3 := (show Hid _ from hB3)
      clear HC2 hb3 HB2 hB3 HCh
      go_wp2_with fail
      refine Calls.mono HH3.out ?_
      rintro e w4 ⟨qg, qc, rfl, hK, hb4⟩
      have HK4 := (show Hid _ from hK.out w4 (Below.refl _ _))
      have hB4 := HB3.out.trans (hb4.mono HB3.out.size)
      have HB4 := (show Hid _ from hB4)
      clear HH3 HB3 hb4 hB4 hK q0 q1
      go_wp2_with fail
      refine Calls.mono HK4.out ?_
      rintro e w5 ⟨rfl, hb5⟩
      have HE := (show Hid _ from (HF.out _ (HB4.out.trans (hb5.mono HB4.out.size))).1)
      clear HK4 HB4 hb5 HF
      go_wp2
      go_ret2
      exact ⟨rfl, HE.out⟩
set_option maxHeartbeats 3200000 in
set_option maxRecDepth 20000 in
theorem specChosen_any (a b : Option Addr) (len cap lb cb : Nat) (p : List EN) (l : List Int) (c C : Int) (hC : ChoC p l c C) (w : World) (h : ESl w a len p) (hl : Sl w b lb l) (hm : len ≤ 9223372036854775807) (hm2 : lb ≤ 9223372036854775807) :
    Calls Tryd.prog 15 #[.agg #[.slice a len cap, .slice b lb cb], .int .i64 c] w fun e w' => e = .returned (.tuple #[.int .i64 C, .bool (choOk p l c)]) ∧ Below w.heap.size w w' := by
  have hll := h.1
  have hl1 := hl.1
  obtain ⟨W1, hW1⟩ : ∃ W1, w.alloc (.cells #[.slice a len cap, .slice b lb cb] 31) = W1 := ⟨_, rfl⟩
  have hb1 : Below w.heap.size w W1 := by rw [← hW1]; exact (Below.refl _ _).alloc (Nat.le_refl _) _
  have n0 : W1.cell? ⟨w.heap.size, 0, none⟩ = some (.slice a len cap) := by rw [← hW1]; simp [go_sem]
  have n1 : W1.cell? ⟨w.heap.size, 1, none⟩ = some (.slice b lb cb) := by rw [← hW1]; simp [go_sem]
  have hs1 : w.heap.size < W1.heap.size := by rw [← hW1]; simp
  have HG := (show Hid _ from specGraph_any a b len cap lb cb p l W1 (h.keep hb1) (hl.keep hb1) hm hm2)
  have HF : Hid (∀ W, Below W1.heap.size W1 W → Below w.heap.size w W ∧ ESl W a len p ∧ Sl W b lb l ∧ W.cell? ⟨w.heap.size, 0, none⟩ = some (.slice a len cap) ∧ W.cell? ⟨w.heap.size, 1, none⟩ = some (.slice b lb cb)) := fun W hW => ⟨hb1.trans (hW.mono hb1.size), (h.keep hb1).keep hW, (hl.keep hb1).keep hW, (hW.cell (p := ⟨w.heap.size, 0, none⟩) hs1).trans n0, (hW.cell (p := ⟨w.heap.size, 1, none⟩) hs1).trans n1⟩
  cases hG : graphB p l with
  | false =>
    have hno : choOk p l c = false := by unfold choOk; rw [hG]; rfl
    have hC0 : C = 0 := hC.2 hno
    subst hC0
    rw [hno]
    rw [hG] at HG
    clear h hl hb1 hG hC hno
    go_enter Tryd.func15, Tryd.ntmps15
    go_wp2_with fail
    (try rw [hW1])
    refine Calls.mono HG.out ?_
    rintro e w2 ⟨rfl, hb2⟩
    have HE := (show Hid _ from (HF.out _ hb2).1)
    clear HG hW1 HF hb2
    go_wp2
    go_ret2
    exact ⟨rfl, HE.out⟩
  | true =>
    rw [hG] at HG
    obtain ⟨hP, hlen, h120⟩ := graph_parts2 hG
    obtain rfl : lb = len := by omega
    have HCl : Hid (∀ W, Below W1.heap.size W1 W → Calls Tryd.prog 34 #[.agg #[.slice a lb cap, .slice b lb cb], .int .i64 c] W fun e w' => e = .returned (.bool (clB l c)) ∧ Below W.heap.size W w') := fun W hW => specClass_any a b lb cap cb l c W (HF.out W hW).2.2.1 (by omega)
    cases hcl : clB l c with
    | false =>
      have hno : choOk p l c = false := by unfold choOk; rw [hG, hcl]; rfl
      have hC0 : C = 0 := hC.2 hno
      subst hC0
      rw [hno]
      rw [hcl] at HCl
      clear h hl hb1 hG hC hno hP
      go_enter Tryd.func15, Tryd.ntmps15
      go_wp2_with fail
      (try rw [hW1])
      refine Calls.mono HG.out ?_
      rintro e w2 ⟨rfl, hb2⟩
      obtain ⟨-, -, -, q0, q1⟩ := HF.out w2 hb2
      have HC2 := (show Hid _ from HCl.out w2 hb2)
      have HB2 := (show Hid _ from hb2)
      clear HG hW1 HCl hb2 n0 n1
      go_wp2_with fail
      refine Calls.mono HC2.out ?_
      rintro e w3 ⟨rfl, hb3⟩
      have HE := (show Hid _ from (HF.out _ (HB2.out.trans (hb3.mono HB2.out.size))).1)
      clear HC2 hb3 HB2 q0 q1 HF
      go_wp2
      go_ret2
      exact ⟨rfl, HE.out⟩
    | true =>
      have hyes : choOk p l c = true := by unfold choOk; rw [hG, hcl]; rfl
      have hC1 := hC.1 hyes
      rw [hyes]
      rw [hcl] at HCl
      obtain ⟨k, rfl, hkl, hkc⟩ := clB_nat hcl
      rw [Int.toNat_natCast] at hC1
      have HBs := fun (W : World) (hW : Below W1.heap.size W1 W) => l10Best_any (costG_of hG) a b lb cap lb cb W (HF.out W hW).2.1 (HF.out W hW).2.2.1 (by omega) (kids_of hG).1 (fun i hi => (kids_of hG).2 i (by omega))
      have HCh : ∀ (W : World) (hW : Below W1.heap.size W1 W) (m : List Int) (hM : BestM p l m) (bm : Option Addr) (cm : Nat) (hs : Sl W bm lb m), Calls Tryd.prog 35 #[.agg #[.slice a lb cap, .slice b lb cb], .slice bm lb cm, .int .i64 k] W fun e w' => e = .returned (.int .i64 C) ∧ Below W.heap.size W w' := fun W hW m hM bm cm hs => (l10Chosen_any (costG_of hG) hM a b lb cap lb cb bm cm k W (HF.out W hW).2.1 (HF.out W hW).2.2.1 hs (by omega) (kids_of hG).1 (fun i hi => (kids_of hG).2 i (by omega)) (by omega) hkc).mono fun e w' ⟨j, r1, r2, r3⟩ => ⟨by rw [r1, hC1 _ hM.2.1 j r2], r3⟩
      have HZ := fun (W : World) (hW : Below W1.heap.size W1 W) => (HF.out W hW).2.2.2
      clear h hl hb1 hG hC hyes hP hcl hC1 hkl hkc
      go_enter Tryd.func15, Tryd.ntmps15
      go_wp2_with fail
      (try rw [hW1])
      refine Calls.mono HG.out ?_
      rintro e w2 ⟨rfl, hb2⟩
      obtain ⟨-, -, -, q0, q1⟩ := HF.out w2 hb2
      have HC2 := (show Hid _ from HCl.out w2 hb2)
      have HB2 := (show Hid _ from hb2)
      clear HG hW1 HCl hb2 n0 n1
      go_wp2_with fail
      refine Calls.mono HC2.out ?_
      rintro e w3 ⟨rfl, hb3⟩
      have hB3 := HB2.out.trans (hb3.mono HB2.out.size)
      clear q0 q1 HC2 HB2 hb3
      go_upto_region 3 with fail
      have hBd : Below W1.heap.size W1 w3.drew := hB3.drew
      have zD := HZ w3.drew hBd
      go_region_held3 (fun w' => w'.cell? ⟨w.heap.size, 0, none⟩ = some (.slice a lb cap) ∧ w'.cell? ⟨w.heap.size, 1, none⟩ = some (.slice b lb cb))
        (first | with_reducible assumption | assumption)
        (first
        | (go_at_call 25; with_reducible refine Calls.mono (HBs w3.drew hBd) ?_; rintro e v4 ⟨vm, m, rfl, hrm, hM, hb4⟩; obtain ⟨bm, cm, rfl, hsm⟩ := Sl.vals hrm; have hB4 : Below W1.heap.size W1 v4 := hBd.trans (hb4.mono hBd.size); have z4 := HZ v4 hB4; clear hb4 hrm)
        | (go_at_call 35; with_reducible refine Calls.mono (HCh v4 hB4 m hM bm cm hsm) ?_; rintro e v5 ⟨rfl, hb5⟩; have hB5 : Below W1.heap.size W1 v5 := hB4.trans (hb5.mono hB4.size); have z5 := HZ v5 hB5; clear hb5))
      all_goals
        have HE := (show Hid _ from (HF.out _ hB5).1)
        clear hB5 hB4 hM z4 z5
        go_wp2
        go_ret2
        exact ⟨rfl, HE.out⟩
end Go.Proofs.YtmbggaepckgogaaDoor
namespace Go.Proofs.YtmbggaepckgogaaDoor
open Go.ChangeShapes Go.WideShapes Go.ChangeAt Go.RowKit
set_option linter.unusedVariables false

/-- What a drawn statement leaves: a node in its box. -/
def EndN (W1 wx : World) (bx : Nat) (v0 v1 v2 : Value) : Prop := Below W1.heap.size W1 wx ∧ wx.cell? ⟨bx, 0, none⟩ = some v0 ∧ wx.cell? ⟨bx, 1, none⟩ = some v1 ∧ wx.cell? ⟨bx, 2, none⟩ = some v2 ∧ bx < wx.heap.size ∧ W1.heap.size ≤ bx
theorem below_alloc (w : World) (o : Obj) : Below w.heap.size w (w.alloc o) := (Below.refl _ _).alloc (Nat.le_refl _) _
theorem endN_alloc {W1 w7 : World} {op n : Int} {a : Option Addr} {m c : Nat} (hB : Below W1.heap.size W1 w7) : EndN W1 (w7.alloc (.cells #[.int .i64 op, .int .i64 n, .slice a m c] 74)) w7.heap.size (.int .i64 op) (.int .i64 n) (.slice a m c) :=
  ⟨hB.alloc hB.size _, by simp [go_sem], by simp [go_sem], by simp [go_sem], by simp, hB.size⟩
/-- An empty box for a node. -/
def BoxN (W1 w : World) (P : Nat) : Prop := W1.heap.size ≤ P ∧ P < w.heap.size ∧ w.cell? ⟨P, 0, none⟩ = some (.int .i64 0) ∧ w.cell? ⟨P, 1, none⟩ = some (.int .i64 0) ∧ w.cell? ⟨P, 2, none⟩ = some (.slice none 0 0) ∧ w.frozen? ⟨P, 0, none⟩ = false ∧ w.frozen? ⟨P, 1, none⟩ = false ∧ w.frozen? ⟨P, 2, none⟩ = false
theorem BoxN.keep {W1 w w' : World} {P : Nat} (h : BoxN W1 w P) (hb : Below w.heap.size w w') : BoxN W1 w' P := by
  obtain ⟨h1, h2, h3, h4, h5, h6, h7, h8⟩ := h
  exact ⟨h1, Nat.lt_of_lt_of_le h2 hb.size, (hb.cell (p := ⟨P, 0, none⟩) h2).trans h3, (hb.cell (p := ⟨P, 1, none⟩) h2).trans h4, (hb.cell (p := ⟨P, 2, none⟩) h2).trans h5, (hb.frozen (p := ⟨P, 0, none⟩) h2).trans h6, (hb.frozen (p := ⟨P, 1, none⟩) h2).trans h7, (hb.frozen (p := ⟨P, 2, none⟩) h2).trans h8⟩
theorem boxN_alloc {W1 v : World} (h : Below W1.heap.size W1 v) : BoxN W1 (v.alloc (.cells #[.int .i64 0, .int .i64 0, .slice none 0 0] 74)) v.heap.size :=
  ⟨h.size, by simp, by simp [go_sem], by simp [go_sem], by simp [go_sem], by simp [go_sem], by simp [go_sem], by simp [go_sem]⟩
theorem endN_set {W1 w7 : World} {bx : Nat} {op n : Int} {a : Option Addr} {m c : Nat} (hB : Below W1.heap.size W1 w7) (h : BoxN W1 w7 bx) : EndN W1 (((w7.setCell ⟨bx, 0, none⟩ (.int .i64 op)).setCell ⟨bx, 1, none⟩ (.int .i64 n)).setCell ⟨bx, 2, none⟩ (.slice a m c)) bx (.int .i64 op) (.int .i64 n) (.slice a m c) := by
  obtain ⟨h1, h2, h3, h4, h5, -⟩ := h
  refine ⟨((hB.setCell h1 _).setCell h1 _).setCell h1 _, ?_, ?_, ?_, by simpa [World.setCell] using h2, h1⟩
  · simp [go_sem, h3]
  · simp [go_sem, h4]
  · simp [go_sem, h5]
theorem node_box (w : World) (x y : Int) : (w.alloc (.cells #[.int .i64 x, .int .i64 y] 68)).ownsRow w.heap.size 68 2 (.slice (some ⟨w.heap.size, 0, none⟩) 1 1) 1 (flat [(x, y)]) :=
  World.ownsRow_lit w #[.int .i64 x, .int .i64 y] 1 (Nat.le_refl _) (by unfold maxLen; omega) rfl
theorem node_row8 (w : World) (x y : Int) : NSl (w.alloc (.cells #[.int .i64 x, .int .i64 y] 68)) (some ⟨w.heap.size, 0, none⟩) 1 [(x, y)] := by
  obtain ⟨a, c, e, h⟩ := NSl.row (n := 1) (node_box w x y)
  cases e
  exact h
end Go.Proofs.YtmbggaepckgogaaDoor
