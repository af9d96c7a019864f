/-
  PROVED HERE: what the model's l10Chosen and ChosenIn answer. No other condition. what the program's chooserOf and ChosenIn answer, and the model's ChosenIn, at every graph and number; the tables of arities and of costs are laid. No other condition.
-/
import Derived.Test.YtmbggaepckgogaaDoorRun22
import Derived.Test.YtmbggaepckgogaaDoorRun12
import Derived.Deep.RegionHeld3
import Derived.Deep.CutRange
import Derived.Test.YtmbggaepckgogaaDoorRun23
import Derived.Laws.EntriesVeiled
namespace Go.Proofs.YtmbggaepckgogaaDoor
open Go.ChangeShapes Go.WideShapes Go.ChangeAt Go.RowKit
set_option linter.unusedVariables false

set_option maxHeartbeats 3200000 in
set_option maxRecDepth 20000 in
theorem l10Chosen_any {p : List EN} {l m : List Int} (hg : CostG p l) (hM : BestM p l m) (a b : Option Addr) (n cap lb cb : Nat) (bm : Option Addr) (cm c : Nat) (w : World) (h : ESl w a n p) (hl : Sl w b lb l) (hm : Sl w bm n m) (hn : n ≤ 120) (hk0 : ∀ k, k < p.length → ∀ y ∈ (p.getD k e0).2.2, 0 ≤ y) (h3 : ∀ i, i < n → (p.getD i e0).2.2.length ≤ 3) (hc : c < n) (hcl : l.getD c 0 = c) :
    Calls Tryd.prog 35 #[.agg #[.slice a n cap, .slice b lb cb], .slice bm n cm, .int .i64 c] w fun e w' => ∃ j : Nat, e = .returned (.int .i64 j) ∧ IsCho p l (valM m) c j ∧ Below w.heap.size w w' := by
  have hll := h.1
  have hl1 := hl.1
  have hlb : lb = n := by have := hg.len; omega
  obtain ⟨W1, hW1⟩ : ∃ W1, w.alloc (.cells #[.slice a n cap, .slice b lb cb] 31) = W1 := ⟨_, rfl⟩
  have hb1 : Below w.heap.size w W1 := by rw [← hW1]; exact (Below.refl _ _).alloc (Nat.le_refl _) _
  have hs1 : w.heap.size < W1.heap.size := by rw [← hW1]; simp
  have n0 : W1.cell? ⟨w.heap.size, 0, none⟩ = some (.slice a n cap) := by rw [← hW1]; simp [go_sem]
  have n1 : W1.cell? ⟨w.heap.size, 1, none⟩ = some (.slice b lb cb) := by rw [← hW1]; simp [go_sem]
  have HX : Hid (∀ W, Below W1.heap.size W1 W → (W.cell? ⟨w.heap.size, 0, none⟩ = some (.slice a n cap) ∧ W.cell? ⟨w.heap.size, 1, none⟩ = some (.slice b lb cb)) ∧ ESl W a n p ∧ Sl W b lb l ∧ Sl W bm n m ∧ Below w.heap.size w W) := fun W hW => ⟨⟨(hW.cell (p := ⟨w.heap.size, 0, none⟩) hs1).trans n0, (hW.cell (p := ⟨w.heap.size, 1, none⟩) hs1).trans n1⟩, (h.keep hb1).keep hW, (hl.keep hb1).keep hW, (hm.keep hb1).keep hW, hb1.trans (hW.mono hb1.size)⟩
  have HG : Hid (CostG p l ∧ BestM p l m ∧ p.length = n ∧ lb = n ∧ (∀ k, k < p.length → ∀ y ∈ (p.getD k e0).2.2, 0 ≤ y) ∧ (∀ i, i < n → (p.getD i e0).2.2.length ≤ 3) ∧ l.getD c 0 = c) := ⟨hg, hM, hll, hlb, hk0, h3, hcl⟩
  have HV : Hid (m.getD c 0 = (valM m).getD c 0) := by
    have h1 := bestM_get hg hM hM.2.1 (k := c) (by omega)
    have hcc : clsN l c = c := by unfold clsN; rw [hcl]; rfl
    rw [hcc] at h1
    exact h1
  clear h hl hm hb1 hg hM hk0 h3 hcl hll hl1 hlb
  go_enter Tryd.func35, Tryd.ntmps35
  go_wp2_with fail
  (try rw [hW1])
  clear hW1
  go_loopw [12] (fun i wr => ∃ (k : Nat), k ≤ n ∧ i = .int .i64 k ∧ Hid (∀ i, i < k → ¬ (l.getD i 0 = c ∧ priceB (valM m) (p.getD i e0) = (valM m).getD c 0)) ∧ Below W1.heap.size W1 wr) (fun i _ => n - (intOf i).toNat)
  case atStart => exact ⟨0, Nat.zero_le _, rfl, fun i hi => absurd hi (Nat.not_lt_zero _), Below.refl _ _⟩
  case round =>
    obtain ⟨k, hk, rfl, hN, hbr⟩ := hrel
    obtain ⟨wo, rfl⟩ : ∃ x, x = wr := ⟨_, rfl⟩
    by_cases hlt : k < n
    · obtain ⟨hg, hM, hpl, hlb, hk0, h3, hcl⟩ := HG.out
      obtain ⟨⟨q0, q1⟩, hE6, hS6, hM6, -⟩ := HX.out wo hbr
      obtain ⟨bn, on, rfl, hbl, hce⟩ := hE6.at (by omega)
      obtain ⟨ai, li, ci, c1, c2, c3, hli, hci, hS⟩ := hce k hlt
      obtain ⟨z, hz⟩ : ∃ z : Nat, l.getD k 0 = z := ⟨(l.getD k 0).toNat, by have := hg.pos k (by omega); omega⟩
      have hnode := known_node hg hM.1 hM.2.2 (k := k) (by omega)
      have hkd := hg.kids k (by omega)
      have hHV := HV.out
      obtain ⟨V, hV⟩ : ∃ V, m.getD c 0 = V := ⟨_, rfl⟩
      obtain ⟨C, hC⟩ : ∃ C, nodeM m (p.getD k e0) = C := ⟨_, rfl⟩
      have HYes : Hid (z = c → C = V → IsCho p l (valM m) c k) := fun e1 e2 => ⟨by omega, by rw [hz, e1], by rw [← hnode, hC, e2, ← hV, hHV], hN.out⟩
      have HNo : Hid (¬ (z = c ∧ C = V) → ∀ i, i < k + 1 → ¬ (l.getD i 0 = c ∧ priceB (valM m) (p.getD i e0) = (valM m).getD c 0)) := fun hne i hi => by
        by_cases e : i = k
        · subst e
          intro hh
          refine hne ⟨by have := hh.1; omega, ?_⟩
          rw [← hC, hnode, hh.2, ← hHV, hV]
        · exact hN.out i (by omega)
      have HCall : Hid (∀ W yo yn, p.getD k e0 = (yo, yn, (p.getD k e0).2.2) → Below wo.heap.size wo W → Calls Tryd.prog 49 #[.agg #[.int .i64 yo, .int .i64 yn, .slice ai li ci], .slice bm n cm] W fun e w' => e = .returned (.int .i64 C) ∧ Below W.heap.size W w') := fun W yo yn hy hW => by
        have := l10Node_any yo yn ai li ci (p.getD k e0).2.2 bm n cm m W (hS.keep hW) (hM6.keep hW) (by have := hM.1; rw [hpl] at this; exact this) (fun i hi => by
          have hm : (p.getD k e0).2.2.getD i 0 ∈ (p.getD k e0).2.2 := by
            rw [getI_lt (by have := hS.1; omega)]
            exact List.getElem_mem _
          have := (hkd _ hm).1
          have h0 := hk0 k (by omega) _ hm
          exact ⟨((p.getD k e0).2.2.getD i 0).toNat, by omega, by omega⟩) (by have := hS.1; have := h3 k hlt; omega) (by omega)
        rw [← hy, hC] at this
        exact this
      have HW : Hid (∀ W, Below wo.heap.size wo W → (W.cell? ⟨w.heap.size, 0, none⟩ = some (.slice (some ⟨bn, on, none⟩) n cap) ∧ W.cell? ⟨w.heap.size, 1, none⟩ = some (.slice b lb cb)) ∧ (∃ bb ob, b = some ⟨bb, ob, none⟩ ∧ W.cell? ⟨bb, ob + k, none⟩ = some (.int .i64 z)) ∧ (∃ bb ob, bm = some ⟨bb, ob, none⟩ ∧ W.cell? ⟨bb, ob + c, none⟩ = some (.int .i64 V)) ∧ Below W1.heap.size W1 W) := fun W hW => by
        have hWG : Below W1.heap.size W1 W := hbr.trans (hW.mono hbr.size)
        obtain ⟨x0, -, x2, x3, -⟩ := HX.out W hWG
        obtain ⟨bb, ob, e, _, hcb⟩ := x2.2.resolve_left (by omega)
        obtain ⟨bb3, ob3, e3, _, hcb3⟩ := x3.2.resolve_left (by omega)
        exact ⟨x0, ⟨bb, ob, e, by rw [hcb k (by omega), hz]⟩, ⟨bb3, ob3, e3, by rw [hcb3 c hc, hV]⟩, hWG⟩
      obtain ⟨y, hy⟩ : ∃ y, p.getD k e0 = y := ⟨_, rfl⟩
      rw [hy] at c1 c2 HCall
      obtain ⟨yo, yn, yk⟩ := y
      simp only at c1 c2
      have HCall2 : Hid (∀ W, Below wo.heap.size wo W → Calls Tryd.prog 49 #[.agg #[.int .i64 yo, .int .i64 yn, .slice ai li ci], .slice bm n cm] W fun e w' => e = .returned (.int .i64 C) ∧ Below W.heap.size W w') := fun W hW => HCall.out W yo yn rfl hW
      obtain ⟨B5, hB5⟩ : ∃ B5, wo.heap.size = B5 := ⟨_, rfl⟩
      obtain ⟨W7, hW7⟩ : ∃ W7, wo.alloc (.cells #[.int .i64 yo, .int .i64 yn, .slice ai li ci] 74) = W7 := ⟨_, rfl⟩
      have hb7 : Below wo.heap.size wo W7 := by rw [← hW7]; exact (Below.refl _ _).alloc (Nat.le_refl _) _
      have o0 : W7.cell? ⟨wo.heap.size, 0, none⟩ = some (.int .i64 yo) := by rw [← hW7]; simp [go_sem]
      have o1 : W7.cell? ⟨wo.heap.size, 1, none⟩ = some (.int .i64 yn) := by rw [← hW7]; simp [go_sem]
      have o2 : W7.cell? ⟨wo.heap.size, 2, none⟩ = some (.slice ai li ci) := by rw [← hW7]; simp [go_sem]
      have hs7 : wo.heap.size < W7.heap.size := by rw [← hW7]; simp
      rw [hB5] at o0 o1 o2 hs7
      have hkl : (k : Int) < n := by omega
      have hkb : (k : Int) < lb := by omega
      have hcn : (c : Int) < n := by omega
      obtain ⟨-, ⟨bb, ob, rfl, -⟩, ⟨bb3, ob3, rfl, -⟩, -⟩ := HW.out W7 hb7
      have HA : Hid (∀ W, Below W7.heap.size W7 W → (W.cell? ⟨w.heap.size, 0, none⟩ = some (.slice (some ⟨bn, on, none⟩) n cap) ∧ W.cell? ⟨w.heap.size, 1, none⟩ = some (.slice (some ⟨bb, ob, none⟩) lb cb) ∧ W.cell? ⟨B5, 0, none⟩ = some (.int .i64 yo) ∧ W.cell? ⟨B5, 1, none⟩ = some (.int .i64 yn) ∧ W.cell? ⟨B5, 2, none⟩ = some (.slice ai li ci) ∧ W.cell? ⟨bb, ob + k, none⟩ = some (.int .i64 z) ∧ W.cell? ⟨bb3, ob3 + c, none⟩ = some (.int .i64 V)) ∧ Below W1.heap.size W1 W) := fun W hW => by
        obtain ⟨⟨x0, x1⟩, ⟨bb', ob', e1, x2⟩, ⟨bb3', ob3', e2, x3⟩, x4⟩ := HW.out W (hb7.trans (hW.mono hb7.size))
        cases e1
        cases e2
        exact ⟨⟨x0, x1, (hW.cell (p := ⟨B5, 0, none⟩) hs7).trans o0, (hW.cell (p := ⟨B5, 1, none⟩) hs7).trans o1, (hW.cell (p := ⟨B5, 2, none⟩) hs7).trans o2, x2, x3⟩, x4⟩
      have HCx : Hid (∀ W, Below W7.heap.size W7 W → Calls Tryd.prog 49 #[.agg #[.int .i64 yo, .int .i64 yn, .slice ai li ci], .slice (some ⟨bb3, ob3, none⟩) n cm] W fun e w' => e = .returned (.int .i64 C) ∧ Below W.heap.size W w') := fun W hW => HCall2.out W (hb7.trans (hW.mono hb7.size))
      clear hg hM hpl hlb hk0 h3 hcl hE6 hS6 hM6 hce hS hli hci hC hz hV hkd hnode hHV HCall HCall2 hy hb7 q0 q1 hbl hN hbr hs7 HW HV
      go_wp2_with fail
      (try rw [hW7])
      (try rw [hB5])
      clear hW7 c1 c2 c3 hB5 n0 n1 o0 o1 o2
      go_upto_region 4 with fail
      by_cases hzc : z = c
      · have HYes2 : Hid (C = V → IsCho p l (valM m) c k) := fun e => HYes.out hzc e
        have HNo2 : Hid (¬ C = V → ∀ i, i < k + 1 → ¬ (l.getD i 0 = c ∧ priceB (valM m) (p.getD i e0) = (valM m).getD c 0)) := fun e => HNo.out (fun h => e h.2)
        subst hzc
        clear HYes HNo
        go_cut [33] from 17 to 33 (fun s wx => s = .bool (C == V) ∧ Below W7.heap.size W7 wx)
        case first =>
          have HZc := HA.out
          have hBd : Below W7.heap.size W7 W7.drew := (Below.refl _ _).drew
          have zD := (HZc W7.drew hBd).1
          have HCc := HCx.out
          clear HA HCx HYes2 HNo2 HG HX
          go_region_held3 (fun w' => w'.cell? ⟨w.heap.size, 0, none⟩ = some (.slice (some ⟨bn, on, none⟩) n cap) ∧ w'.cell? ⟨w.heap.size, 1, none⟩ = some (.slice (some ⟨bb, ob, none⟩) lb cb) ∧ w'.cell? ⟨B5, 0, none⟩ = some (.int .i64 yo) ∧ w'.cell? ⟨B5, 1, none⟩ = some (.int .i64 yn) ∧ w'.cell? ⟨B5, 2, none⟩ = some (.slice ai li ci) ∧ w'.cell? ⟨bb, ob + k, none⟩ = some (.int .i64 z) ∧ w'.cell? ⟨bb3, ob3 + z, none⟩ = some (.int .i64 V))
            (first | with_reducible assumption | assumption)
            (first
            | (go_at_call 49; refine Calls.mono (HCc W7.drew hBd) ?_; rintro e v3 ⟨rfl, hb3'⟩; have hB3 : Below W7.heap.size W7 v3 := hBd.trans (hb3'.mono hBd.size); have z3 := (HZc v3 hB3).1; clear hb3'))
          all_goals
            go_wp2_with fail
            go_meet
            exact ⟨rfl, hB3⟩
        case rest =>
        obtain ⟨rfl, hcw⟩ := hcut
        obtain ⟨w8, hw8⟩ : ∃ w8, w8 = wc := ⟨_, rfl⟩
        subst hw8
        have hB8 := (HA.out w8 hcw).2
        clear hcw
        by_cases hCV : C = V
        · have HR := (show Hid _ from HYes2.out hCV)
          have HB8 := (show Hid _ from (HX.out w8 hB8).2.2.2.2)
          subst hCV
          have hCC : (C == C) = true := by simp
          clear HYes2 HNo2 HA HCx HG HX hB8
          go_wp2
          go_ret
          exact ⟨k, rfl, HR.out, HB8.out⟩
        · have HR := (show Hid _ from HNo2.out hCV)
          have hCV2 : (C == V) = false := by simp [hCV]
          have HB8 := (show Hid _ from hB8)
          clear HYes2 HNo2 HA HCx HG HX hB8
          go_wp2
          go_roundw
          case rel => exact ⟨k + 1, by omega, by go_num, HR.out, HB8.out⟩
          case measure => simp [intOf]; omega
      · have hzi : ((z : Int) == (c : Int)) = false := by simp; omega
        have HR := (show Hid _ from HNo.out (fun h => hzc h.1))
        clear HYes HNo HCx
        go_cut [33] from 17 to 33 (fun s wx => s = .bool false ∧ Below W7.heap.size W7 wx)
        case first =>
          have ga : ∀ x : Ahead W7, x.w.cell? ⟨w.heap.size, 0, none⟩ = some (.slice (some ⟨bn, on, none⟩) n cap) := fun x => (HA.out x.w x.h).1.1
          have gb : ∀ x : Ahead W7, x.w.cell? ⟨w.heap.size, 1, none⟩ = some (.slice (some ⟨bb, ob, none⟩) lb cb) := fun x => (HA.out x.w x.h).1.2.1
          have gg : ∀ x : Ahead W7, x.w.cell? ⟨bb, ob + k, none⟩ = some (.int .i64 z) := fun x => (HA.out x.w x.h).1.2.2.2.2.2.1
          clear HA HG HX HR hzc
          have hne' := ahead_some W7
          refine wp_region_ahead (by kernel_rfl) (by kernel_rfl) ?_
          repeat (first
            | go_big_quiet_skip
            | (go_big_quiet_want; go_big_quiet_op; go_big_quiet_on))
          refine wpQuiet_nil ?_
          intro _ hw'
          obtain ⟨xq, rfl⟩ := hw'
          go_wp2_with fail
          go_meet
          exact ⟨rfl, xq.h⟩
        case rest =>
        obtain ⟨rfl, hcw⟩ := hcut
        obtain ⟨w8, hw8⟩ : ∃ w8, w8 = wc := ⟨_, rfl⟩
        subst hw8
        have HB8 := (show Hid _ from (HA.out w8 hcw).2)
        clear hcw HA HG HX
        go_wp2
        go_roundw
        case rel => exact ⟨k + 1, by omega, by go_num, HR.out, HB8.out⟩
        case measure => simp [intOf]; omega
    · exfalso
      obtain rfl : k = n := by omega
      obtain ⟨hg, hM, hpl, hlb, hk0, h3, hcl⟩ := HG.out
      obtain ⟨j, j1, j2, j3⟩ := cls_att hg hM.2.1 (stillM_val hg hM.1 hM.2.2) (c := c) (by omega) hcl
      exact hN.out j (by omega) ⟨j2, j3⟩
end Go.Proofs.YtmbggaepckgogaaDoor
namespace Go.Proofs.YtmbggaepckgogaaDoor
open Go.ChangeShapes Go.WideShapes Go.ChangeAt Go.RowKit
set_option linter.unusedVariables false

set_option maxHeartbeats 3200000 in
set_option maxRecDepth 20000 in
theorem chooser_any {p : List EN} {l : List Int} (hG : graphB p l = true) (a b : Option Addr) (n cap lb cb : Nat) (w : World) (hT : Cst w) (h : ESl w a n p) (hl : Sl w b lb l) (hn : n ≤ 120) :
    Calls Tryd.prog 37 #[.agg #[.slice a n cap, .slice b lb cb]] w fun e w' => ∃ (qg qp qc q G : Nat) (m : List Int), e = .returned (.func (.func 61) #[] #[.pointer (some ⟨qg, 0, none⟩), .pointer (some ⟨qc, 0, none⟩)]) ∧ ChoAt w' p l m a b n cap lb cb qg qp qc q G ∧ CostI p l m n lb ∧ BestC p l m ∧ StillP p l m ∧ Below w.heap.size w w' := by
  have hll := h.1
  have hl1 := hl.1
  obtain ⟨W1, hW1⟩ : ∃ W1, w.alloc (.cells #[.slice a n cap, .slice b lb cb] 31) = W1 := ⟨_, rfl⟩
  have hb1 : Below w.heap.size w W1 := by rw [← hW1]; exact (Below.refl _ _).alloc (Nat.le_refl _) _
  have hs1 : w.heap.size < W1.heap.size := by rw [← hW1]; simp
  have n0 : W1.cell? ⟨w.heap.size, 0, none⟩ = some (.slice a n cap) := by rw [← hW1]; simp [go_sem]
  have n1 : W1.cell? ⟨w.heap.size, 1, none⟩ = some (.slice b lb cb) := by rw [← hW1]; simp [go_sem]
  have hmf : ∀ (fn : Fn) (first cap : Array Value) (w : World), (Instr.makeFunc fn first cap).run Tryd.prog w = .ok (.func fn first cap) w := fun _ _ _ _ => rfl
  have HB := (show Hid _ from implBest_any (costG_of hG) a b n cap lb cb W1 (hT.keeps hb1) (h.keep hb1) (hl.keep hb1) hn (kids_of hG).1 (fun i hi => (kids_of hG).2 i (by omega)) (ops_of hG))
  have HX : Hid (∀ W, Below W1.heap.size W1 W → Below w.heap.size w W ∧ Cst W ∧ ESl W a n p ∧ Sl W b lb l ∧ W.cell? ⟨w.heap.size, 0, none⟩ = some (.slice a n cap) ∧ W.cell? ⟨w.heap.size, 1, none⟩ = some (.slice b lb cb)) := fun W hW => ⟨hb1.trans (hW.mono hb1.size), (hT.keeps hb1).keeps hW, (h.keep hb1).keep hW, (hl.keep hb1).keep hW, (hW.cell (p := ⟨w.heap.size, 0, none⟩) hs1).trans n0, (hW.cell (p := ⟨w.heap.size, 1, none⟩) hs1).trans n1⟩
  have HI : Hid (∀ m, InC m n → CostI p l m n lb) := fun m hm => ⟨costG_of hG, hll, hl1, fun i hi => (kids_of hG).2 i (by omega), (kids_of hG).1, ops_of hG, hm, hn⟩
  have HPn : Hid (p.length = n) := hll
  clear h hl hb1 hT hG hll hl1
  go_enter Tryd.func37, Tryd.ntmps37
  go_wp2_with fail
  (try rw [hW1])
  refine Calls.mono HB.out ?_
  rintro e w2 ⟨G, m, rfl, hr2, hBC, hSt, hb2⟩
  have HO := (show Hid _ from priceOver_any (some ⟨G, 0, none⟩) n n w2)
  have HB2 := (show Hid _ from hb2)
  have HR2 := (show Hid _ from hr2)
  have HCm := (show Hid (BestC p l m ∧ StillP p l m) from ⟨hBC, hSt⟩)
  clear HB hW1 hr2 hBC hSt hb2 n0 n1
  go_wp2_with fail
  refine Calls.mono HO.out ?_
  rintro e w3 ⟨rfl, hb3, hs3, n3⟩
  obtain ⟨W4, hW4⟩ : ∃ W4, (w3.alloc (.cells #[.func (.func 74) #[] #[.pointer (some ⟨w2.heap.size, 0, none⟩)]] 80)).alloc (.cells #[.func (.func 59) #[] #[.pointer (some ⟨w2.heap.size + 1, 0, none⟩), .pointer (some ⟨w.heap.size, 0, none⟩)]] 84) = W4 := ⟨_, rfl⟩
  have hb4 : Below w3.heap.size w3 W4 := by rw [← hW4]; exact ((Below.refl _ _).alloc (Nat.le_refl _) _).alloc (by simp) _
  have c0 : W4.cell? ⟨w2.heap.size + 1, 0, none⟩ = some (.func (.func 74) #[] #[.pointer (some ⟨w2.heap.size, 0, none⟩)]) := by rw [← hW4]; simp [go_sem, hs3]
  have c1 : W4.cell? ⟨w2.heap.size + 1 + 1, 0, none⟩ = some (.func (.func 59) #[] #[.pointer (some ⟨w2.heap.size + 1, 0, none⟩), .pointer (some ⟨w.heap.size, 0, none⟩)]) := by rw [← hW4]; simp [go_sem, hs3]
  have hb14 : Below W1.heap.size W1 W4 := (HB2.out.trans (hb3.mono HB2.out.size)).trans (hb4.mono (by have := HB2.out.size; have := hb3.size; omega))
  have HF : Hid (ChoAt W4 p l m a b n cap lb cb w.heap.size (w2.heap.size + 1) (w2.heap.size + 1 + 1) w2.heap.size G ∧ CostI p l m n lb ∧ BestC p l m ∧ StillP p l m ∧ Below w.heap.size w W4) := by
    obtain ⟨x1, x2, x3, x4, x5, x6⟩ := HX.out W4 hb14
    have hr4 := row_keep (row_keep HR2.out hb3) hb4
    obtain ⟨a', c', e, hs⟩ := Sl.vals hr4
    injection e with e1 e2 e3
    subst e1
    refine ⟨⟨x2, x3, x4, hs, x5, x6, c0, c1, (hb4.cell (p := ⟨w2.heap.size, 0, none⟩) (by show w2.heap.size < _; omega)).trans n3⟩, HI.out m ?_, HCm.out.1, HCm.out.2, x1⟩
    have := best_in HCm.out.1
    rw [HPn.out] at this
    exact this
  clear HO HB2 HR2 HX HI HCm hb3 n3 hb4 c0 c1 hb14 HPn
  go_wp2
  (try rw [hW4])
  refine bodyPost_ret (v := .func (.func 61) #[] #[.pointer (some ⟨w.heap.size, 0, none⟩), .pointer (some ⟨w2.heap.size + 1 + 1, 0, none⟩)]) ?_ ?_ ?_
  · simp [results, Tryd.results37, go_sem, *]
  · rfl
  · exact ⟨_, _, _, _, _, m, rfl, HF.out⟩
/-- Whether a node may be chosen. -/
def choOk (p : List EN) (l : List Int) (c : Int) : Bool := graphB p l && clB l c
/-- The node that is chosen, by the best costs B: C where one is. -/
def ChoC (p : List EN) (l : List Int) (c C : Int) : Prop := (choOk p l c = true → ∀ B, BestC p l B → ∀ j : Nat, IsCho p l B c.toNat j → C = j) ∧ (choOk p l c = false → C = 0)
theorem choC_some (p : List EN) (l : List Int) (c : Int) : ∃ C, ChoC p l c C := by
  cases h : choOk p l c with
  | false => exact ⟨0, fun h2 => (by rw [h] at h2; cases h2), fun _ => rfl⟩
  | true =>
    obtain ⟨B0, hB0⟩ := best_one p l
    obtain ⟨C, hC⟩ := cho_some p l B0 c.toNat
    exact ⟨C, fun _ B hB j hj => hC j (by rw [← hB0 B hB]; exact hj), fun h2 => (by rw [h] at h2; cases h2)⟩
theorem clB_nat {l : List Int} {c : Int} (h : clB l c = true) : ∃ k : Nat, c = k ∧ k < l.length ∧ l.getD k 0 = k := by
  unfold clB hasB at h
  simp only [Bool.and_eq_true, decide_eq_true_eq, beq_iff_eq] at h
  exact ⟨c.toNat, by omega, by omega, by rw [h.2]; omega⟩
set_option maxHeartbeats 3200000 in
set_option maxRecDepth 20000 in
theorem implChosen_any (a b : Option Addr) (len cap lb cb : Nat) (p : List EN) (l : List Int) (c C : Int) (hC : ChoC p l c C) (w : World) (hT : Tab w) (hCs : Cst w) (hI : InE p) (h : ESl w a len p) (hl : Sl w b lb l) (hm : len ≤ 9223372036854775807) (hm2 : lb ≤ 9223372036854775807) :
    Calls Tryd.prog 16 #[.agg #[.slice a len cap, .slice b lb cb], .int .i64 c] w fun e w' => e = .returned (.tuple #[.int .i64 C, .bool (choOk p l c)]) ∧ Below w.heap.size w w' := by
  have hll := h.1
  have hl1 := hl.1
  obtain ⟨W1, hW1⟩ : ∃ W1, w.alloc (.cells #[.slice a len cap, .slice b lb cb] 31) = W1 := ⟨_, rfl⟩
  have hb1 : Below w.heap.size w W1 := by rw [← hW1]; exact (Below.refl _ _).alloc (Nat.le_refl _) _
  have n0 : W1.cell? ⟨w.heap.size, 0, none⟩ = some (.slice a len cap) := by rw [← hW1]; simp [go_sem]
  have n1 : W1.cell? ⟨w.heap.size, 1, none⟩ = some (.slice b lb cb) := by rw [← hW1]; simp [go_sem]
  have hs1 : w.heap.size < W1.heap.size := by rw [← hW1]; simp
  have HG := (show Hid _ from implGraph_any a b len cap lb cb p l W1 (hT.keeps hb1) (h.keep hb1) (hl.keep hb1) hm2 hI)
  have HF : Hid (∀ W, Below W1.heap.size W1 W → Below w.heap.size w W ∧ Cst W ∧ ESl W a len p ∧ Sl W b lb l ∧ W.cell? ⟨w.heap.size, 0, none⟩ = some (.slice a len cap) ∧ W.cell? ⟨w.heap.size, 1, none⟩ = some (.slice b lb cb)) := fun W hW => ⟨hb1.trans (hW.mono hb1.size), (hCs.keeps hb1).keeps hW, (h.keep hb1).keep hW, (hl.keep hb1).keep hW, (hW.cell (p := ⟨w.heap.size, 0, none⟩) hs1).trans n0, (hW.cell (p := ⟨w.heap.size, 1, none⟩) hs1).trans n1⟩
  cases hG : graphB p l with
  | false =>
    have hno : choOk p l c = false := by unfold choOk; rw [hG]; rfl
    have hC0 : C = 0 := hC.2 hno
    subst hC0
    rw [hno]
    rw [hG] at HG
    clear h hl hb1 hG hT hCs hI hC hno
    go_enter Tryd.func16, Tryd.ntmps16
    go_wp2_with fail
    (try rw [hW1])
    refine Calls.mono HG.out ?_
    rintro e w2 ⟨rfl, hb2⟩
    have HE := (show Hid _ from (HF.out _ hb2).1)
    clear HG hW1 HF hb2
    go_wp2
    go_ret2
    exact ⟨rfl, HE.out⟩
  | true =>
    rw [hG] at HG
    obtain ⟨hP, hlen, h120⟩ := graph_parts2 hG
    obtain rfl : lb = len := by omega
    have HCl : Hid (∀ W, Below W1.heap.size W1 W → Calls Tryd.prog 36 #[.agg #[.slice a lb cap, .slice b lb cb], .int .i64 c] W fun e w' => e = .returned (.bool (clB l c)) ∧ Below W.heap.size W w') := fun W hW => implClass_any a b lb cap cb l c W (HF.out W hW).2.2.2.1 (by omega)
    cases hcl : clB l c with
    | false =>
      have hno : choOk p l c = false := by unfold choOk; rw [hG, hcl]; rfl
      have hC0 : C = 0 := hC.2 hno
      subst hC0
      rw [hno]
      rw [hcl] at HCl
      clear h hl hb1 hG hT hCs hI hC hno hP
      go_enter Tryd.func16, Tryd.ntmps16
      go_wp2_with fail
      (try rw [hW1])
      refine Calls.mono HG.out ?_
      rintro e w2 ⟨rfl, hb2⟩
      obtain ⟨-, -, -, -, q0, q1⟩ := HF.out w2 hb2
      have HC2 := (show Hid _ from HCl.out w2 hb2)
      have HB2 := (show Hid _ from hb2)
      clear HG hW1 HCl hb2 n0 n1
      go_wp2_with fail
      refine Calls.mono HC2.out ?_
      rintro e w3 ⟨rfl, hb3⟩
      have HE := (show Hid _ from (HF.out _ (HB2.out.trans (hb3.mono HB2.out.size))).1)
      clear HC2 hb3 HB2 q0 q1 HF
      go_wp2
      go_ret2
      exact ⟨rfl, HE.out⟩
    | true =>
      have hyes : choOk p l c = true := by unfold choOk; rw [hG, hcl]; rfl
      have hC1 := hC.1 hyes
      rw [hyes]
      rw [hcl] at HCl
      obtain ⟨k, rfl, hkl, hkc⟩ := clB_nat hcl
      rw [Int.toNat_natCast] at hC1
      have HCh : Hid (∀ W, Below W1.heap.size W1 W → Calls Tryd.prog 37 #[.agg #[.slice a lb cap, .slice b lb cb]] W fun e w' => ∃ (qg qc : Nat), e = .returned (.func (.func 61) #[] #[.pointer (some ⟨qg, 0, none⟩), .pointer (some ⟨qc, 0, none⟩)]) ∧ Hid (∀ W', Below w'.heap.size w' W' → Calls Tryd.prog 61 #[.int .i64 k, .pointer (some ⟨qg, 0, none⟩), .pointer (some ⟨qc, 0, none⟩)] W' fun e w'' => e = .returned (.int .i64 C) ∧ Below W'.heap.size W' w'') ∧ Below W.heap.size W w') := fun W hW => (chooser_any hG a b lb cap lb cb W (HF.out W hW).2.1 (HF.out W hW).2.2.1 (HF.out W hW).2.2.2.1 (by omega)).mono fun e w' ⟨qg, qp, qc, q, G, m, r1, r2, r3, r4, r5, r6⟩ => by
        refine ⟨qg, qc, r1, fun W' hW' => (chooser2_any r3 r4 r5 (r2.keep hW') (c := k) (by omega) hkc).mono ?_, r6⟩
        rintro e w'' ⟨j, rfl, hj, hb⟩
        exact ⟨by rw [hC1 m r4 j hj], hb⟩
      clear h hl hb1 hG hT hCs hI hC hyes hP hcl hC1 hkl hkc
      go_enter Tryd.func16, Tryd.ntmps16
      go_wp2_with fail
      (try rw [hW1])
      refine Calls.mono HG.out ?_
      rintro e w2 ⟨rfl, hb2⟩
      obtain ⟨-, -, -, -, q0, q1⟩ := HF.out w2 hb2
      have HC2 := (show Hid _ from HCl.out w2 hb2)
      have HB2 := (show Hid _ from hb2)
      clear HG hW1 HCl hb2 n0 n1
      go_wp2_with fail
      refine Calls.mono HC2.out ?_
      rintro e w3 ⟨rfl, hb3⟩
      have hB3 := HB2.out.trans (hb3.mono HB2.out.size)
      clear q0 q1
      obtain ⟨-, -, -, -, q0, q1⟩ := HF.out w3 hB3
      have HH3 := (show Hid _ from HCh.out w3 hB3)
      have HB3 := (show Hid _ from hB3)
      clear HC2 hb3 HB2 hB3 HCh
      go_wp2_with fail
      refine Calls.mono HH3.out ?_
      rintro e w4 ⟨qg, qc, rfl, hK, hb4⟩
      have HK4 := (show Hid _ from hK.out w4 (Below.refl _ _))
      have hB4 := HB3.out.trans (hb4.mono HB3.out.size)
      have HB4 := (show Hid _ from hB4)
      clear HH3 HB3 hb4 hB4 hK q0 q1
      go_wp2_with fail
      refine Calls.mono HK4.out ?_
      rintro e w5 ⟨rfl, hb5⟩
      have HE := (show Hid _ from (HF.out _ (HB4.out.trans (hb5.mono HB4.out.size))).1)
      clear HK4 HB4 hb5 HF
      go_wp2
      go_ret2
      exact ⟨rfl, HE.out⟩
set_option maxHeartbeats 3200000 in
set_option maxRecDepth 20000 in
theorem specChosen_any (a b : Option Addr) (len cap lb cb : Nat) (p : List EN) (l : List Int) (c C : Int) (hC : ChoC p l c C) (w : World) (h : ESl w a len p) (hl : Sl w b lb l) (hm : len ≤ 9223372036854775807) (hm2 : lb ≤ 9223372036854775807) :
    Calls Tryd.prog 15 #[.agg #[.slice a len cap, .slice b lb cb], .int .i64 c] w fun e w' => e = .returned (.tuple #[.int .i64 C, .bool (choOk p l c)]) ∧ Below w.heap.size w w' := by
  have hll := h.1
  have hl1 := hl.1
  obtain ⟨W1, hW1⟩ : ∃ W1, w.alloc (.cells #[.slice a len cap, .slice b lb cb] 31) = W1 := ⟨_, rfl⟩
  have hb1 : Below w.heap.size w W1 := by rw [← hW1]; exact (Below.refl _ _).alloc (Nat.le_refl _) _
  have n0 : W1.cell? ⟨w.heap.size, 0, none⟩ = some (.slice a len cap) := by rw [← hW1]; simp [go_sem]
  have n1 : W1.cell? ⟨w.heap.size, 1, none⟩ = some (.slice b lb cb) := by rw [← hW1]; simp [go_sem]
  have hs1 : w.heap.size < W1.heap.size := by rw [← hW1]; simp
  have HG := (show Hid _ from specGraph_any a b len cap lb cb p l W1 (h.keep hb1) (hl.keep hb1) hm hm2)
  have HF : Hid (∀ W, Below W1.heap.size W1 W → Below w.heap.size w W ∧ ESl W a len p ∧ Sl W b lb l ∧ W.cell? ⟨w.heap.size, 0, none⟩ = some (.slice a len cap) ∧ W.cell? ⟨w.heap.size, 1, none⟩ = some (.slice b lb cb)) := fun W hW => ⟨hb1.trans (hW.mono hb1.size), (h.keep hb1).keep hW, (hl.keep hb1).keep hW, (hW.cell (p := ⟨w.heap.size, 0, none⟩) hs1).trans n0, (hW.cell (p := ⟨w.heap.size, 1, none⟩) hs1).trans n1⟩
  cases hG : graphB p l with
  | false =>
    have hno : choOk p l c = false := by unfold choOk; rw [hG]; rfl
    have hC0 : C = 0 := hC.2 hno
    subst hC0
    rw [hno]
    rw [hG] at HG
    clear h hl hb1 hG hC hno
    go_enter Tryd.func15, Tryd.ntmps15
    go_wp2_with fail
    (try rw [hW1])
    refine Calls.mono HG.out ?_
    rintro e w2 ⟨rfl, hb2⟩
    have HE := (show Hid _ from (HF.out _ hb2).1)
    clear HG hW1 HF hb2
    go_wp2
    go_ret2
    exact ⟨rfl, HE.out⟩
  | true =>
    rw [hG] at HG
    obtain ⟨hP, hlen, h120⟩ := graph_parts2 hG
    obtain rfl : lb = len := by omega
    have HCl : Hid (∀ W, Below W1.heap.size W1 W → Calls Tryd.prog 34 #[.agg #[.slice a lb cap, .slice b lb cb], .int .i64 c] W fun e w' => e = .returned (.bool (clB l c)) ∧ Below W.heap.size W w') := fun W hW => specClass_any a b lb cap cb l c W (HF.out W hW).2.2.1 (by omega)
    cases hcl : clB l c with
    | false =>
      have hno : choOk p l c = false := by unfold choOk; rw [hG, hcl]; rfl
      have hC0 : C = 0 := hC.2 hno
      subst hC0
      rw [hno]
      rw [hcl] at HCl
      clear h hl hb1 hG hC hno hP
      go_enter Tryd.func15, Tryd.ntmps15
      go_wp2_with fail
      (try rw [hW1])
      refine Calls.mono HG.out ?_
      rintro e w2 ⟨rfl, hb2⟩
      obtain ⟨-, -, -, q0, q1⟩ := HF.out w2 hb2
      have HC2 := (show Hid _ from HCl.out w2 hb2)
      have HB2 := (show Hid _ from hb2)
      clear HG hW1 HCl hb2 n0 n1
      go_wp2_with fail
      refine Calls.mono HC2.out ?_
      rintro e w3 ⟨rfl, hb3⟩
      have HE := (show Hid _ from (HF.out _ (HB2.out.trans (hb3.mono HB2.out.size))).1)
      clear HC2 hb3 HB2 q0 q1 HF
      go_wp2
      go_ret2
      exact ⟨rfl, HE.out⟩
    | true =>
      have hyes : choOk p l c = true := by unfold choOk; rw [hG, hcl]; rfl
      have hC1 := hC.1 hyes
      rw [hyes]
      rw [hcl] at HCl
      obtain ⟨k, rfl, hkl, hkc⟩ := clB_nat hcl
      rw [Int.toNat_natCast] at hC1
      have HBs := fun (W : World) (hW : Below W1.heap.size W1 W) => l10Best_any (costG_of hG) a b lb cap lb cb W (HF.out W hW).2.1 (HF.out W hW).2.2.1 (by omega) (kids_of hG).1 (fun i hi => (kids_of hG).2 i (by omega))
      have HCh : ∀ (W : World) (hW : Below W1.heap.size W1 W) (m : List Int) (hM : BestM p l m) (bm : Option Addr) (cm : Nat) (hs : Sl W bm lb m), Calls Tryd.prog 35 #[.agg #[.slice a lb cap, .slice b lb cb], .slice bm lb cm, .int .i64 k] W fun e w' => e = .returned (.int .i64 C) ∧ Below W.heap.size W w' := fun W hW m hM bm cm hs => (l10Chosen_any (costG_of hG) hM a b lb cap lb cb bm cm k W (HF.out W hW).2.1 (HF.out W hW).2.2.1 hs (by omega) (kids_of hG).1 (fun i hi => (kids_of hG).2 i (by omega)) (by omega) hkc).mono fun e w' ⟨j, r1, r2, r3⟩ => ⟨by rw [r1, hC1 _ hM.2.1 j r2], r3⟩
      have HZ := fun (W : World) (hW : Below W1.heap.size W1 W) => (HF.out W hW).2.2.2
      clear h hl hb1 hG hC hyes hP hcl hC1 hkl hkc
      go_enter Tryd.func15, Tryd.ntmps15
      go_wp2_with fail
      (try rw [hW1])
      refine Calls.mono HG.out ?_
      rintro e w2 ⟨rfl, hb2⟩
      obtain ⟨-, -, -, q0, q1⟩ := HF.out w2 hb2
      have HC2 := (show Hid _ from HCl.out w2 hb2)
      have HB2 := (show Hid _ from hb2)
      clear HG hW1 HCl hb2 n0 n1
      go_wp2_with fail
      refine Calls.mono HC2.out ?_
      rintro e w3 ⟨rfl, hb3⟩
      have hB3 := HB2.out.trans (hb3.mono HB2.out.size)
      clear q0 q1 HC2 HB2 hb3
      go_upto_region 3 with fail
      have hBd : Below W1.heap.size W1 w3.drew := hB3.drew
      have zD := HZ w3.drew hBd
      go_region_held3 (fun w' => w'.cell? ⟨w.heap.size, 0, none⟩ = some (.slice a lb cap) ∧ w'.cell? ⟨w.heap.size, 1, none⟩ = some (.slice b lb cb))
        (first | with_reducible assumption | assumption)
        (first
        | (go_at_call 25; with_reducible refine Calls.mono (HBs w3.drew hBd) ?_; rintro e v4 ⟨vm, m, rfl, hrm, hM, hb4⟩; obtain ⟨bm, cm, rfl, hsm⟩ := Sl.vals hrm; have hB4 : Below W1.heap.size W1 v4 := hBd.trans (hb4.mono hBd.size); have z4 := HZ v4 hB4; clear hb4 hrm)
        | (go_at_call 35; with_reducible refine Calls.mono (HCh v4 hB4 m hM bm cm hsm) ?_; rintro e v5 ⟨rfl, hb5⟩; have hB5 : Below W1.heap.size W1 v5 := hB4.trans (hb5.mono hB4.size); have z5 := HZ v5 hB5; clear hb5))
      all_goals
        have HE := (show Hid _ from (HF.out _ hB5).1)
        clear hB5 hB4 hM z4 z5
        go_wp2
        go_ret2
        exact ⟨rfl, HE.out⟩
end Go.Proofs.YtmbggaepckgogaaDoor
