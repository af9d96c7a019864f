/-
  PROVED HERE: what the model's l10Term answers at a class: its cheapest term, where that isn't too long. No other condition. what the program's cheapestTerm answers at a class, behind the nodes that are there already: the class's cheapest term, where all isn't too long; the table of costs is laid. No other condition.
-/
import Derived.Test.YtmbggaepckgogaaDoorRun25
import Derived.Maps.AppendAt
namespace Go.Proofs.YtmbggaepckgogaaDoor
open Go.ChangeShapes Go.WideShapes Go.ChangeAt Go.RowKit
set_option linter.unusedVariables false

theorem len_nodes (a : Option Addr) (n c : Nat) (w : World) : (Builtin.len_ #[41] 3 #[.slice a n c]).run Tryd.prog w = .ok (.int .i64 n) w := by
  simp [go_sem]
set_option maxHeartbeats 6400000 in
set_option maxRecDepth 20000 in
theorem l10Term_any {p : List EN} {l m : List Int} (hG : graphB p l = true) (hM : BestM p l m) {ch : Nat → Nat} (hch : ChF p l (valM m) ch) (a b : Option Addr) (n cap lb cb : Nat) (bm : Option Addr) (cm : Nat) (hpn : p.length = n) (hn : n ≤ 120) : ∀ N c, cntF (valM m) c p.length ≤ N → c < n → l.getD c 0 = c → ∀ (w : World), ESl w a n p → Sl w b lb l → Sl w bm n m →
    Calls Tryd.prog 38 #[.agg #[.slice a n cap, .slice b lb cb], .slice bm n cm, .int .i64 c] w fun e w' => ∃ (v : Value) (L : List (Int × Int)), e = .returned v ∧ w'.ownsRow w.heap.size 68 2 v L.length (flat L) ∧ TruncT (tmT p ch c) L ∧ 0 < L.length ∧ L.length ≤ 41 * (cntF (valM m) c p.length + 1) ∧ Below w.heap.size w w' := by
  intro N
  induction N using Nat.strongRecOn with
  | ind N ih =>
  intro c hN hc hcl w h hl hm
  have hg := costG_of hG
  have hBC := hM.2.1
  have hSt := stillM_val hg hM.1 hM.2.2
  have hlow := (kids_of hG).1
  have hfew := (kids_of hG).2
  have hCj := hch c (by omega) hcl
  have hT := tmT_eq hg hBC hSt hlow hch (c := c) (by omega) hcl
  have hll := h.1
  have hl1 := hl.1
  obtain ⟨i0, hi, hz0, hz1, hz2⟩ := info_parts infoNode
  obtain ⟨W1, hW1⟩ : ∃ W1, w.alloc (.cells #[.slice a n cap, .slice b lb cb] 31) = W1 := ⟨_, rfl⟩
  have hb1 : Below w.heap.size w W1 := by rw [← hW1]; exact (Below.refl _ _).alloc (Nat.le_refl _) _
  have hs1 : w.heap.size < W1.heap.size := by rw [← hW1]; simp
  have n0 : W1.cell? ⟨w.heap.size, 0, none⟩ = some (.slice a n cap) := by rw [← hW1]; simp [go_sem]
  have n1 : W1.cell? ⟨w.heap.size, 1, none⟩ = some (.slice b lb cb) := by rw [← hW1]; simp [go_sem]
  obtain ⟨j, hj⟩ : ∃ j, ch c = j := ⟨_, rfl⟩
  rw [hj] at hCj hT
  have hjn : j < n := by have := hCj.1; omega
  obtain ⟨bn, on, rfl, hbl, hce⟩ := (h.keep hb1).at (by omega)
  obtain ⟨ai, li, ci, c1, c2, c3, hli, hci, hS⟩ := hce j hjn
  have hkid : ∀ y ∈ (p.getD j e0).2.2, 0 ≤ y ∧ y.toNat < n ∧ l.getD y.toNat 0 = (y.toNat : Int) ∧ cntF (valM m) y.toNat p.length < cntF (valM m) c p.length := fun y hy => by
    have h0 := hlow j hCj.1 y hy
    obtain ⟨q1, q2, q3⟩ := cho_falls hg hBC hSt (by omega) hcl hCj hy h0
    exact ⟨h0, by omega, q3, cntF_lt q1 _ q2⟩
  have hk3 := hfew j hCj.1
  obtain ⟨y, hy⟩ : ∃ y, p.getD j e0 = y := ⟨_, rfl⟩
  rw [hy] at c1 c2 hS hkid hk3 hT
  obtain ⟨yo, yn, ks⟩ := y
  simp only at c1 c2 hS hkid hk3 hT
  have hkl := hS.1
  obtain ⟨nc, hnc⟩ : ∃ nc, cntF (valM m) c p.length = nc := ⟨_, rfl⟩
  rw [hnc] at hN hkid ⊢
  have HR : Hid (∀ W, Below W1.heap.size W1 W → ∀ k, k < ks.length → Calls Tryd.prog 38 #[.agg #[.slice (some ⟨bn, on, none⟩) n cap, .slice b lb cb], .slice bm n cm, .int .i64 (ks.getD k 0)] W fun e w' => ∃ (v : Value) (L : List (Int × Int)), e = .returned v ∧ w'.ownsRow W.heap.size 68 2 v L.length (flat L) ∧ TruncT (tmT p ch (ks.getD k 0).toNat) L ∧ 0 < L.length ∧ L.length ≤ 41 * nc ∧ Below W.heap.size W w') := fun W hW k hk => by
    have hm8 : ks.getD k 0 ∈ ks := by rw [getI_lt hk]; exact List.getElem_mem _
    obtain ⟨q0, q1, q2, q3⟩ := hkid _ hm8
    have := ih (cntF (valM m) (ks.getD k 0).toNat p.length) (by omega) (ks.getD k 0).toNat (Nat.le_refl _) q1 q2 W ((h.keep hb1).keep hW) ((hl.keep hb1).keep hW) ((hm.keep hb1).keep hW)
    rw [show (((ks.getD k 0).toNat : Nat) : Int) = ks.getD k 0 by omega] at this
    exact this.mono fun e w' ⟨v, L, r1, r2, r3, r4, r5, r6⟩ => ⟨v, L, r1, r2, r3, r4, by omega, r6⟩
  have HCh : ∀ W, Below W1.heap.size W1 W → Calls Tryd.prog 35 #[.agg #[.slice (some ⟨bn, on, none⟩) n cap, .slice b lb cb], .slice bm n cm, .int .i64 c] W fun e w' => e = .returned (.int .i64 j) ∧ Below W.heap.size W w' := fun W hW => (l10Chosen_any hg hM (some ⟨bn, on, none⟩) b n cap lb cb bm cm c W ((h.keep hb1).keep hW) ((hl.keep hb1).keep hW) ((hm.keep hb1).keep hW) hn hlow (fun i hi => hfew i (by omega)) hc hcl).mono fun e w' ⟨j', r1, r2, r3⟩ => ⟨by rw [r1, cho_one r2 hCj], r3⟩
  have HZ : ∀ W, Below W1.heap.size W1 W → (W.cell? ⟨w.heap.size, 0, none⟩ = some (.slice (some ⟨bn, on, none⟩) n cap) ∧ W.cell? ⟨w.heap.size, 1, none⟩ = some (.slice b lb cb) ∧ W.cell? ⟨bn, on + j * 3, none⟩ = some (.int .i64 yo) ∧ W.cell? ⟨bn, on + j * 3 + 1, none⟩ = some (.int .i64 yn) ∧ W.cell? ⟨bn, on + j * 3 + 2, none⟩ = some (.slice ai li ci)) := fun W hW => ⟨(hW.cell (p := ⟨w.heap.size, 0, none⟩) hs1).trans n0, (hW.cell (p := ⟨w.heap.size, 1, none⟩) hs1).trans n1, (hW.cell (p := ⟨bn, on + j * 3, none⟩) hbl).trans c1, (hW.cell (p := ⟨bn, on + j * 3 + 1, none⟩) hbl).trans c2, (hW.cell (p := ⟨bn, on + j * 3 + 2, none⟩) hbl).trans c3⟩
  have HKs : Hid (∀ W, Below W1.heap.size W1 W → Sl W ai li ks ∧ Below w.heap.size w W) := fun W hW => ⟨hS.keep hW, hb1.trans (hW.mono hb1.size)⟩
  have HT : Hid (tmT p ch c = tmK p ch ks ks.length ++ [(yo, yn)]) := by show _ = _; rw [hT, tmK_all]
  have HL : Hid (ks.length = li ∧ li ≤ 3 ∧ nc ≤ 120 ∧ (nc = 0 → li = 0)) := by
    refine ⟨hkl, by omega, by have := cntF_n (valM m) c p.length; omega, fun h0 => ?_⟩
    apply Classical.byContradiction
    intro hne
    have hm8 : ks.getD 0 0 ∈ ks := by rw [getI_lt (by omega)]; exact List.getElem_mem _
    have := (hkid _ hm8).2.2.2
    omega
  have hBd : Below W1.heap.size W1 W1.drew := (Below.refl _ _).drew
  have hBdA : Below W1.heap.size W1 (W1.drew.alloc (.cells #[.int .i64 0, .int .i64 0, .slice none 0 0] 74)) := hBd.alloc hBd.size _
  have hjn' : (j : Int) < n := by omega
  generalize tmT p ch c = TC at HT ⊢
  clear ih h hl hm hb1 hg hBC hSt hlow hfew hCj hT hll hl1 hce hS hli hci hkid hk3 hy hkl hnc hG hM hch hcl hN hn hj hbl c1 c2 c3 n0 n1 hpn hc hjn
  go_enter Tryd.func38, Tryd.ntmps38
  go_wp2_with fail
  (try rw [hW1])
  clear hW1
  go_upto_region 1 with fail
  go_cut [7] from 11 to 19 (fun s wx => ∃ bx, s = .pointer (some ⟨bx, 0, none⟩) ∧ EndN W1 wx bx (.int .i64 yo) (.int .i64 yn) (.slice ai li ci))
  case first =>
    have zD := HZ W1.drew hBd
    have sA := fun o : Obj => HZ (W1.drew.alloc o) (hBd.alloc hBd.size o)
    clear HR HKs HT HL
    go_region_held3 (fun w' => w'.cell? ⟨w.heap.size, 0, none⟩ = some (.slice (some ⟨bn, on, none⟩) n cap) ∧ w'.cell? ⟨w.heap.size, 1, none⟩ = some (.slice b lb cb) ∧ w'.cell? ⟨bn, on + j * 3, none⟩ = some (.int .i64 yo) ∧ w'.cell? ⟨bn, on + j * 3 + 1, none⟩ = some (.int .i64 yn) ∧ w'.cell? ⟨bn, on + j * 3 + 2, none⟩ = some (.slice ai li ci))
      (first | with_reducible assumption | assumption | exact sA _ | exact sE _ | exact sS _ _ _)
      (first
      | (go_at_call 35; first
          | (refine Calls.mono (HCh W1.drew hBd) ?_; rintro e v3 ⟨rfl, hb3⟩; have hB3 : Below W1.heap.size W1 v3 := hBd.trans (hb3.mono hBd.size); have z3 := HZ v3 hB3; have sE := fun o : Obj => HZ (v3.alloc o) (hB3.alloc hB3.size o))
          | (refine Calls.mono (HCh (W1.drew.alloc (.cells #[.int .i64 0, .int .i64 0, .slice none 0 0] 74)) hBdA) ?_; rintro e v3 ⟨rfl, hb3⟩; have hB3 : Below W1.heap.size W1 v3 := hBdA.trans (hb3.mono hBdA.size); have z3 := HZ v3 hB3; have hx3 : BoxN W1 v3 W1.heap.size := (boxN_alloc hBd).keep hb3; obtain ⟨p0, p1, p2, p3, p4, p5, p6, p7⟩ := id hx3; have sS := fun u0 u1 u2 : Value => HZ (((v3.setCell ⟨W1.heap.size, 0, none⟩ u0).setCell ⟨W1.heap.size, 1, none⟩ u1).setCell ⟨W1.heap.size, 2, none⟩ u2) (((hB3.setCell (p := ⟨W1.heap.size, 0, none⟩) p0 u0).setCell (p := ⟨W1.heap.size, 1, none⟩) p0 u1).setCell (p := ⟨W1.heap.size, 2, none⟩) p0 u2))))
    all_goals
      go_wp2_with fail
      go_meet
      first
        | exact ⟨_, rfl, endN_alloc hB3⟩
        | exact ⟨_, rfl, endN_set hB3 hx3⟩
  case rest =>
  obtain ⟨bx, rfl, hE2⟩ := hcut
  obtain ⟨W2, hW2⟩ : ∃ W2, W2 = wc := ⟨_, rfl⟩
  subst hW2
  obtain ⟨hB2, x0, x1, x2, hx2, hx1⟩ := hE2
  obtain ⟨z0, z1, -⟩ := HZ W2 hB2
  have HE : Hid (∀ W, Below W2.heap.size W2 W → Below W1.heap.size W1 W ∧ W.cell? ⟨bx, 0, none⟩ = some (.int .i64 yo) ∧ W.cell? ⟨bx, 1, none⟩ = some (.int .i64 yn) ∧ W.cell? ⟨w.heap.size, 0, none⟩ = some (.slice (some ⟨bn, on, none⟩) n cap) ∧ W.cell? ⟨w.heap.size, 1, none⟩ = some (.slice b lb cb)) := fun W hW => ⟨hB2.trans (hW.mono hB2.size), (hW.cell (p := ⟨bx, 0, none⟩) hx2).trans x0, (hW.cell (p := ⟨bx, 1, none⟩) hx2).trans x1, (HZ W (hB2.trans (hW.mono hB2.size))).1, (HZ W (hB2.trans (hW.mono hB2.size))).2.1⟩
  have hwW2 : w.heap.size ≤ W2.heap.size := by omega
  clear HZ HCh hBd hBdA hB2 x0 x1 z0 z1
  go_wp2_with fail
  clear x2
  go_loopw [8, 22] (fun x i wr => ∃ (k : Nat), k ≤ li ∧ i = .int .i64 k ∧ wr.ownsRow W2.heap.size 68 2 x (tmK p ch ks k).length (flat (tmK p ch ks k)) ∧ (tmK p ch ks k).length ≤ 40 ∧ Below W2.heap.size W2 wr) (fun _ i _ => li - (intOf i).toNat)
  case atStart => exact ⟨0, Nat.zero_le _, rfl, World.ownsRow_nil _ _ _ _, Nat.zero_le _, Below.refl _ _⟩
  case round =>
    obtain ⟨k, hk, rfl, hrow, hk40, hbr⟩ := hrel
    obtain ⟨hksl, hli3, hnc, hnc0⟩ := HL.out
    by_cases hlt : k < li
    · obtain ⟨hb1', z0, z1, q0, q1⟩ := HE.out wr hbr
      have hSk := (HKs.out wr hb1').1
      obtain ⟨bk, ok, rfl, hblk, hck⟩ := hSk.2.resolve_left (by omega)
      have ck := hck k hlt
      have HRk := (show Hid _ from HR.out wr hb1' k (by omega))
      have HKK := (show Hid _ from tmK_succ p ch ks (k := k) (by omega))
      have HKM := (show Hid _ from tmK_more p ch ks (k := k + 1) (k' := ks.length) (by omega))
      have hlk : (k : Int) < li := by omega
      generalize htk : tmT p ch (ks.getD k 0).toNat = TK at HRk HKK
      obtain ⟨y, hy⟩ : ∃ y, ks.getD k 0 = y := ⟨_, rfl⟩
      rw [hy] at HRk ck
      clear htk hck hSk hb1' z0 z1 hy
      go_wp2_with fail
      refine Calls.mono HRk.out ?_
      rintro e w3 ⟨v3, L3, rfl, hr3, ht3, hL0, hL41, hb3⟩
      obtain ⟨a3, cp3, rfl, hn3⟩ := NSl.row hr3
      obtain ⟨b3, o3, rfl⟩ : ∃ b3 o3, a3 = some ⟨b3, o3, none⟩ := by
        rcases hn3.2 with h0 | ⟨b3, o3, e, _⟩
        · omega
        · exact ⟨b3, o3, e⟩
      have hrow3 := row_keep hrow hb3
      have hbr3 : Below W2.heap.size W2 w3 := hbr.trans (hb3.mono hbr.size)
      have hsz3 := hbr3.size
      generalize hKk : tmK p ch ks k = KK at hrow3 HKK hk40 hrow
      clear HRk hrow ck q0 q1
      go_wp2_with (first | (at_builtin; refine wpList_append_own _ rfl _ _ 41 rfl W2.heap.size 68 i0 (.agg #[.int .i64 0, .int .i64 0]) 2 16 Tryd.underlying41 hi hz0 hz1 hz2 rfl (by decide) _ _ _ rfl hrow3 ⟨b3, o3, none⟩ L3.length cp3 (flat L3) rfl (flat_len L3) (flat_cells hn3) (flat_one L3) (by unfold maxLen; omega) (by omega) hsz3 ?_; intro v5 w5 hown5 hg5 hnil5; clear hnil5) | fail)
      have hB5 : Below W2.heap.size W2 w5 := hbr3.grown hg5 hsz3 (own_ge hrow3)
      rw [← flat_append] at hown5
      obtain ⟨Q, hQ⟩ : ∃ Q, KK ++ L3 = Q := ⟨_, rfl⟩
      obtain ⟨NL, hNL⟩ : ∃ NL, KK.length + L3.length = NL := ⟨_, rfl⟩
      have hQl : Q.length = NL := by rw [← hQ, List.length_append, hNL]
      rw [hQ, hNL] at hown5
      obtain ⟨a5, cp5, rfl, hn5⟩ := NSl.row hown5
      have HB5 := (show Hid _ from hB5)
      have HOw := (show Hid _ from hown5)
      have HF := (show Hid (TruncT TK L3 ∧ KK ++ L3 = Q ∧ Q.length = NL) from ⟨ht3, hQ, hQl⟩)
      clear hg5 hrow3 hbr hbr3 hn3 hn5 hr3 hb3 hown5 hB5 ht3 hQ hQl
      by_cases hbig : NL > 40
      · have HFin : Hid (w5.ownsRow w.heap.size 68 2 (.slice a5 NL cp5) Q.length (flat Q) ∧ TruncT TC Q ∧ 0 < Q.length ∧ Q.length ≤ 41 * (nc + 1) ∧ Below w.heap.size w w5) := by
          obtain ⟨hF, hQ, hQl⟩ := HF.out
          rw [hQl]
          refine ⟨own_base HOw.out (by omega), ⟨fun h => ?_, fun _ => by omega⟩, by omega, by omega, (HKs.out w5 (HE.out w5 HB5.out).1).2⟩
          exfalso
          have q1 : TC.length = (tmK p ch ks ks.length).length + 1 := by rw [HT.out, List.length_append]; rfl
          have q2 := HKM.out
          have q3 : (tmK p ch ks (k + 1)).length = KK.length + TK.length := by rw [HKK.out, List.length_append]
          by_cases h4 : TK.length ≤ 40
          · have := hF.1 h4
            rw [this] at hNL
            omega
          · omega
        have hbig2 : (NL : Int) > 40 := by omega
        have hub : (NL : Int) ≤ 10000 := by omega
        have hlen5 := len_nodes a5 NL cp5 w5
        clear HOw HF HKK HKM HB5 hNL hbig hKk hnc0 hnc hli3 hL41 hL0 hk40 hsz3 hksl
        go_wp2
        go_simp
        go_wp2
        go_ret
        exact ⟨_, Q, rfl, HFin.out⟩
      · have hbig2 : ¬ (NL : Int) > 40 := by omega
        have hub : (NL : Int) ≤ 10000 := by omega
        have hlen5 := len_nodes a5 NL cp5 w5
        have HN : Hid (w5.ownsRow W2.heap.size 68 2 (.slice a5 NL cp5) (tmK p ch ks (k + 1)).length (flat (tmK p ch ks (k + 1))) ∧ (tmK p ch ks (k + 1)).length ≤ 40) := by
          obtain ⟨hF, hQ, hQl⟩ := HF.out
          have h4 : L3 = TK := by
            rcases Nat.lt_or_ge 40 TK.length with h | h
            · have := hF.2 h; omega
            · exact hF.1 h
          have e : tmK p ch ks (k + 1) = Q := by rw [HKK.out, ← h4, hQ]
          rw [e, hQl]
          exact ⟨HOw.out, by omega⟩
        clear HOw HF HKK HKM hNL hbig
        go_wp2
        go_simp
        go_wp2
        go_roundw
        case rel => exact ⟨k + 1, by omega, by go_num, HN.out.1, HN.out.2, HB5.out⟩
        case measure => simp [intOf]; omega
    · obtain rfl : k = li := by omega
      obtain ⟨hb1', z0, z1, q0, q1⟩ := HE.out wr hbr
      obtain ⟨hksl, -⟩ := HL.out
      have hrowA := hrow.alloc (.cells #[.int .i64 yo, .int .i64 yn] 68)
      have hbrA := hbr.alloc hbr.size (.cells #[.int .i64 yo, .int .i64 yn] 68)
      have hnd := node_row8 wr yo yn
      have HTe : Hid (TC = tmK p ch ks k ++ [(yo, yn)]) := by show _ = _; rw [HT.out, hksl]
      generalize tmK p ch ks k = KK at hrow hrowA hk40 HTe
      clear hb1' q0 q1 hrow
      go_wp2_with (at_builtin; refine wpList_append_own _ rfl _ _ 41 rfl W2.heap.size 68 i0 (.agg #[.int .i64 0, .int .i64 0]) 2 16 Tryd.underlying41 hi hz0 hz1 hz2 rfl (by decide) _ _ _ rfl hrowA ⟨wr.heap.size, 0, none⟩ 1 1 (flat [(yo, yn)]) rfl rfl (flat_cells hnd) (flat_one _) (by unfold maxLen; omega) (by omega) hbrA.size ?_; intro v5 w5 hown5 hg5 hnil5; clear hnil5)
      have hB5 : Below W2.heap.size W2 w5 := hbrA.grown hg5 hbrA.size (own_ge hrowA)
      rw [← flat_append] at hown5
      have HFin : Hid (w5.ownsRow w.heap.size 68 2 v5 TC.length (flat TC) ∧ TruncT TC TC ∧ 0 < TC.length ∧ TC.length ≤ 41 * (nc + 1) ∧ Below w.heap.size w w5) := by
        rw [HTe.out, List.length_append]
        refine ⟨own_base hown5 (by omega), trunc_self _, by simp, by simp; omega, (HKs.out w5 (HE.out w5 hB5).1).2⟩
      clear hown5 hg5 hB5 hrowA hbrA hnd HTe
      go_wp2
      go_ret
      exact ⟨_, TC, rfl, HFin.out⟩
end Go.Proofs.YtmbggaepckgogaaDoor
namespace Go.Proofs.YtmbggaepckgogaaDoor
open Go.ChangeShapes Go.WideShapes Go.ChangeAt Go.RowKit
set_option linter.unusedVariables false

/-- Only the row's own block has turned; the row lies where it lay, or in a new block. -/
def OnRow (w w' : World) (v v' : Value) : Prop := w.grownBy w' v.ownBlock ∧ (v'.ownBlock = v.ownBlock ∨ ∀ r, v'.ownBlock = some r → w.heap.size ≤ r)
theorem OnRow.refl (w : World) (v : Value) : OnRow w w v v := ⟨⟨rfl, rfl, rfl, Nat.le_refl _, fun _ _ _ => rfl⟩, .inl rfl⟩
theorem OnRow.trans {w w' w'' : World} {v v' v'' : Value} (h : OnRow w w' v v') (k : OnRow w' w'' v' v'') : OnRow w w'' v v'' := by
  obtain ⟨h1, h2⟩ := h
  obtain ⟨k1, k2⟩ := k
  refine ⟨⟨k1.os.trans h1.os, k1.tape.trans h1.tape, k1.output.trans h1.output, Nat.le_trans h1.size k1.size, fun b hb hne => ?_⟩, ?_⟩
  · refine (k1.block b (Nat.lt_of_lt_of_le hb h1.size) ?_).trans (h1.block b hb hne)
    rcases h2 with e | e
    · rw [e]; exact hne
    · intro e2
      have := e b e2.symm
      omega
  · rcases k2 with e | e
    · rw [e]; exact h2
    · exact .inr fun r hr => Nat.le_trans h1.size (e r hr)
theorem OnRow.below {w w' : World} {v : Value} (h : Below w.heap.size w w') : OnRow w w' v v :=
  ⟨⟨h.os, h.tape, h.output, h.size, fun b hb _ => h.block b hb⟩, .inl rfl⟩
theorem OnRow.low {w w' : World} {v v' : Value} {lo : Nat} (h : OnRow w w' v v') (hv : ∀ r, v.ownBlock = some r → lo ≤ r) (hl : lo ≤ w.heap.size) : Below lo w w' :=
  ⟨h.1.os, h.1.tape, h.1.output, h.1.size, fun b hb => h.1.block b (by omega) (fun e => by have := hv b e.symm; omega)⟩
theorem OnRow.cell {w w' : World} {v v' : Value} (h : OnRow w w' v v') {a : Addr} (ha : a.block < w.heap.size) (hn : v.ownBlock ≠ some a.block) : w'.cell? a = w.cell? a := World.cell?_of_block (h.1.block _ ha (fun e => hn e.symm))
theorem own_lt8 {w : World} {base e size n : Nat} {v : Value} {xs : List Value} (h : w.ownsRow base e size v n xs) : ∀ r, v.ownBlock = some r → r < w.heap.size := fun r hr => (World.ownsRow.lt h r hr).2
set_option maxHeartbeats 6400000 in
set_option maxRecDepth 20000 in
theorem cheapest_any {p : List EN} {l B : List Int} {n lb : Nat} (hI : CostI p l B n lb) (hBC : BestC p l B) (hSt : StillP p l B) {ch : Nat → Nat} (hch : ChF p l B ch) {w0 : World} {a b : Option Addr} {cap cb qg qp qc q G : Nat} (hA : ChoAt w0 p l B a b n cap lb cb qg qp qc q G) : ∀ N c, cntF B c p.length ≤ N → c < n → l.getD c 0 = c → ∀ (w : World) (v : Value) (X : List (Int × Int)), Below w0.heap.size w0 w → w.ownsRow w0.heap.size 68 2 v X.length (flat X) → X.length ≤ 1000 →
    Calls Tryd.prog 42 #[.agg #[.slice a n cap, .slice b lb cb], .int .i64 c, .func (.func 61) #[] #[.pointer (some ⟨qg, 0, none⟩), .pointer (some ⟨qc, 0, none⟩)], v] w fun e w' => ∃ (v' : Value) (L : List (Int × Int)), e = .returned v' ∧ w'.ownsRow w0.heap.size 68 2 v' L.length (flat L) ∧ TruncT (X ++ tmT p ch c) L ∧ (40 < X.length → L = X) ∧ L.length ≤ max X.length 40 + cntF B c p.length + 1 ∧ OnRow w w' v v' := by
  intro N
  induction N using Nat.strongRecOn with
  | ind N ih =>
  intro c hN hc hcl w v X hb0 hrow hX
  have hpn := hI.len
  have hCj := hch c (by omega) hcl
  have hT := tmT_eq hI.g hBC hSt hI.low hch (c := c) (by omega) hcl
  obtain ⟨i0, hi, hz0, hz1, hz2⟩ := info_parts infoNode
  obtain ⟨va, vc, rfl, hnv⟩ := NSl.row hrow
  obtain ⟨W1, hW1⟩ : ∃ W1, w.alloc (.cells #[.slice a n cap, .slice b lb cb] 31) = W1 := ⟨_, rfl⟩
  have hb1 : Below w.heap.size w W1 := by rw [← hW1]; exact (Below.refl _ _).alloc (Nat.le_refl _) _
  have hs1 : w.heap.size < W1.heap.size := by rw [← hW1]; simp
  have n0 : W1.cell? ⟨w.heap.size, 0, none⟩ = some (.slice a n cap) := by rw [← hW1]; simp [go_sem]
  have n1 : W1.cell? ⟨w.heap.size, 1, none⟩ = some (.slice b lb cb) := by rw [← hW1]; simp [go_sem]
  obtain ⟨XL, hXL⟩ : ∃ XL, X.length = XL := ⟨_, rfl⟩
  rw [hXL] at hrow hX ⊢
  by_cases hbig : 40 < XL
  · have hbig2 : (XL : Int) > 40 := by omega
    have HF : Hid (W1.ownsRow w0.heap.size 68 2 (.slice va XL vc) X.length (flat X) ∧ TruncT (X ++ tmT p ch c) X ∧ (40 < XL → X = X) ∧ X.length ≤ max XL 40 + cntF B c p.length + 1 ∧ OnRow w W1 (.slice va XL vc) (.slice va XL vc)) := by
      rw [hXL]
      exact ⟨row_keep hrow hb1, ⟨fun h => by rw [List.length_append] at h; omega, fun _ => by omega⟩, fun _ => rfl, by omega, OnRow.below (v := .slice va XL vc) hb1⟩
    have hub : (XL : Int) ≤ 1000 := by omega
    have HC0 : Calls Tryd.prog 42 #[.agg #[.slice a n cap, .slice b lb cb], .int .i64 c, .func (.func 61) #[] #[.pointer (some ⟨qg, 0, none⟩), .pointer (some ⟨qc, 0, none⟩)], .slice va XL vc] w fun e w' => e = .returned (.slice va XL vc) ∧ w' = W1 := by
      have hub : (XL : Int) ≤ 1000 := by omega
      clear ih hI hBC hSt hch hA hb0 hrow hnv hT hCj hb1 hcl hN hi hz0 hz1 hz2 hpn hXL n0 n1 hX hbig HF
      go_enter Tryd.func42, Tryd.ntmps42
      go_wp2
      (try rw [hW1])
      go_ret
      exact ⟨rfl, rfl⟩
    refine HC0.mono ?_
    rintro e w' ⟨rfl, rfl⟩
    exact ⟨_, X, rfl, HF.out⟩
  obtain ⟨bn, on, yo, yn, ai, li, ci, rfl, hPr⟩ := priceAt_any hI hA (x := ch c) (by have := hCj.1; omega)
  have hES := hA.es
  obtain ⟨bn', on', e1, hbl, hce⟩ := hES.at (by omega)
  cases e1
  obtain ⟨j, hj⟩ : ∃ j, ch c = j := ⟨_, rfl⟩
  rw [hj] at hCj hT hPr
  have hjn : j < n := by have := hCj.1; omega
  obtain ⟨ai', li', ci', c1, c2, c3, hli, hci, hS⟩ := hce j hjn
  have hP0 := (hPr w0 (Below.refl _ _)).1
  rw [hP0.1] at c1
  rw [hP0.2.1] at c2
  rw [hP0.2.2] at c3
  injection c3 with c3
  injection c3 with c31 c32 c33
  subst c31 c32 c33
  have hyo : yo = (p.getD j e0).1 := by injection c1 with c1; injection c1
  have hyn : yn = (p.getD j e0).2.1 := by injection c2 with c2; injection c2
  have hkid : ∀ y ∈ (p.getD j e0).2.2, 0 ≤ y ∧ y.toNat < n ∧ l.getD y.toNat 0 = (y.toNat : Int) ∧ cntF B y.toNat p.length < cntF B c p.length := fun y hy => by
    have h0 := hI.low j hCj.1 y hy
    obtain ⟨q1, q2, q3⟩ := cho_falls hI.g hBC hSt (by omega) hcl hCj hy h0
    exact ⟨h0, by omega, q3, cntF_lt q1 _ q2⟩
  have hk3 := hI.few j hjn
  rw [← hyo, ← hyn] at hT
  generalize (p.getD j e0).2.2 = ks at hS hkid hk3 hT
  have hkl := hS.1
  obtain ⟨nc, hnc⟩ : ∃ nc, cntF B c p.length = nc := ⟨_, rfl⟩
  rw [hnc] at hN hkid ⊢
  have hvlt := own_lt8 hrow
  have hvge := own_ge hrow
  have hb01 : Below w0.heap.size w0 W1 := hb0.trans (hb1.mono hb0.size)
  have HR : Hid (∀ W x Y, Below w0.heap.size w0 W → W.ownsRow w0.heap.size 68 2 x Y.length (flat Y) → Y.length ≤ 1000 → ∀ k, k < ks.length → Calls Tryd.prog 42 #[.agg #[.slice (some ⟨bn, on, none⟩) n cap, .slice b lb cb], .int .i64 (ks.getD k 0), .func (.func 61) #[] #[.pointer (some ⟨qg, 0, none⟩), .pointer (some ⟨qc, 0, none⟩)], x] W fun e w' => ∃ (v' : Value) (L : List (Int × Int)), e = .returned v' ∧ w'.ownsRow w0.heap.size 68 2 v' L.length (flat L) ∧ TruncT (Y ++ tmT p ch (ks.getD k 0).toNat) L ∧ (40 < Y.length → L = Y) ∧ L.length ≤ max Y.length 40 + nc ∧ OnRow W w' x v') := fun W x Y hW hx hY k hk => by
    have hm8 : ks.getD k 0 ∈ ks := by rw [getI_lt hk]; exact List.getElem_mem _
    obtain ⟨q0, q1, q2, q3⟩ := hkid _ hm8
    have := ih (cntF B (ks.getD k 0).toNat p.length) (by omega) (ks.getD k 0).toNat (Nat.le_refl _) q1 q2 W x Y hW hx hY
    rw [show (((ks.getD k 0).toNat : Nat) : Int) = ks.getD k 0 by omega] at this
    exact this.mono fun e w' ⟨v, L, r1, r2, r3, r4, r5, r6⟩ => ⟨v, L, r1, r2, r3, r4, by omega, r6⟩
  have HCh : ∀ W, Below w0.heap.size w0 W → Calls Tryd.prog 61 #[.int .i64 c, .pointer (some ⟨qg, 0, none⟩), .pointer (some ⟨qc, 0, none⟩)] W fun e w' => e = .returned (.int .i64 j) ∧ Below W.heap.size W w' := fun W hW => (chooser2_any hI hBC hSt (hA.keep hW) hc hcl).mono fun e w' ⟨j', r1, r2, r3⟩ => ⟨by rw [r1, cho_one r2 hCj], r3⟩
  have HZ : ∀ W, Below W1.heap.size W1 W → (W.cell? ⟨w.heap.size, 0, none⟩ = some (.slice (some ⟨bn, on, none⟩) n cap) ∧ W.cell? ⟨w.heap.size, 1, none⟩ = some (.slice b lb cb) ∧ W.cell? ⟨bn, on + j * 3, none⟩ = some (.int .i64 yo) ∧ W.cell? ⟨bn, on + j * 3 + 1, none⟩ = some (.int .i64 yn) ∧ W.cell? ⟨bn, on + j * 3 + 2, none⟩ = some (.slice ai li ci)) := fun W hW => by
    have h0W : Below w0.heap.size w0 W := hb01.trans (hW.mono hb01.size)
    obtain ⟨x0, x1, x2⟩ := (hPr W h0W).1
    exact ⟨(hW.cell (p := ⟨w.heap.size, 0, none⟩) hs1).trans n0, (hW.cell (p := ⟨w.heap.size, 1, none⟩) hs1).trans n1, x0, x1, x2⟩
  have HKs : Hid (∀ W, Below w0.heap.size w0 W → Sl W ai li ks) := fun W hW => hS.keep hW
  have HT : Hid (tmT p ch c = tmK p ch ks ks.length ++ [(yo, yn)]) := by show _ = _; rw [hT, tmK_all]
  have HL : Hid (ks.length = li ∧ li ≤ 3 ∧ nc ≤ 120 ∧ X.length = XL ∧ XL ≤ 40) := ⟨hkl, by omega, by have := cntF_n B c p.length; have := hI.small; omega, hXL, by omega⟩
  have HV : Hid ((∀ r, (Value.slice va XL vc).ownBlock = some r → r < w.heap.size) ∧ (∀ r, (Value.slice va XL vc).ownBlock = some r → w0.heap.size ≤ r) ∧ w0.heap.size ≤ w.heap.size) := ⟨hvlt, hvge, hb0.size⟩
  have hBd : Below W1.heap.size W1 W1.drew := (Below.refl _ _).drew
  have hBdA : Below W1.heap.size W1 (W1.drew.alloc (.cells #[.int .i64 0, .int .i64 0, .slice none 0 0] 74)) := hBd.alloc hBd.size _
  have hjn' : (j : Int) < n := by omega
  have hbig2 : ¬ (XL : Int) > 40 := by omega
  have HRW1 := (show Hid _ from row_keep hrow hb1)
  have HOn1 := (show Hid (OnRow w W1 (.slice va XL vc) (.slice va XL vc) ∧ Below w0.heap.size w0 W1) from ⟨OnRow.below (v := .slice va XL vc) hb1, hb01⟩)
  generalize tmT p ch c = TC at HT ⊢
  clear ih hI hBC hSt hch hA hb0 hrow hnv hT hCj hb1 hcl hN hpn hXL n0 n1 hX hbig hPr hES hbl hce c1 c2 hP0 hli hci hS hyo hyn hkid hk3 hkl hnc hvlt hvge hb01 hj hc hjn
  go_enter Tryd.func42, Tryd.ntmps42
  go_wp2_with fail
  (try rw [hW1])
  clear hW1
  go_upto_region 3 with fail
  go_cut [9] from 16 to 23 (fun s wx => ∃ bx, s = .pointer (some ⟨bx, 0, none⟩) ∧ EndN W1 wx bx (.int .i64 yo) (.int .i64 yn) (.slice ai li ci))
  case first =>
    have zD := HZ W1.drew hBd
    have sA := fun o : Obj => HZ (W1.drew.alloc o) (hBd.alloc hBd.size o)
    have HCw := fun W (hW : Below W1.heap.size W1 W) => HCh W (HOn1.out.2.trans (hW.mono HOn1.out.2.size))
    clear HR HKs HT HL HV HRW1 HCh
    go_region_held3 (fun w' => w'.cell? ⟨w.heap.size, 0, none⟩ = some (.slice (some ⟨bn, on, none⟩) n cap) ∧ w'.cell? ⟨w.heap.size, 1, none⟩ = some (.slice b lb cb) ∧ w'.cell? ⟨bn, on + j * 3, none⟩ = some (.int .i64 yo) ∧ w'.cell? ⟨bn, on + j * 3 + 1, none⟩ = some (.int .i64 yn) ∧ w'.cell? ⟨bn, on + j * 3 + 2, none⟩ = some (.slice ai li ci))
      (first | with_reducible assumption | assumption | exact sA _ | exact sE _ | exact sS _ _ _)
      (first
      | (go_at_call 61; first
          | (refine Calls.mono (HCw W1.drew hBd) ?_; rintro e v3 ⟨rfl, hb3⟩; have hB3 : Below W1.heap.size W1 v3 := hBd.trans (hb3.mono hBd.size); have z3 := HZ v3 hB3; have sE := fun o : Obj => HZ (v3.alloc o) (hB3.alloc hB3.size o))
          | (refine Calls.mono (HCw (W1.drew.alloc (.cells #[.int .i64 0, .int .i64 0, .slice none 0 0] 74)) hBdA) ?_; rintro e v3 ⟨rfl, hb3⟩; have hB3 : Below W1.heap.size W1 v3 := hBdA.trans (hb3.mono hBdA.size); have z3 := HZ v3 hB3; have hx3 : BoxN W1 v3 W1.heap.size := (boxN_alloc hBd).keep hb3; obtain ⟨p0, p1, p2, p3, p4, p5, p6, p7⟩ := id hx3; have sS := fun u0 u1 u2 : Value => HZ (((v3.setCell ⟨W1.heap.size, 0, none⟩ u0).setCell ⟨W1.heap.size, 1, none⟩ u1).setCell ⟨W1.heap.size, 2, none⟩ u2) (((hB3.setCell (p := ⟨W1.heap.size, 0, none⟩) p0 u0).setCell (p := ⟨W1.heap.size, 1, none⟩) p0 u1).setCell (p := ⟨W1.heap.size, 2, none⟩) p0 u2))))
    all_goals
      go_wp2_with fail
      go_meet
      first
        | exact ⟨_, rfl, endN_alloc hB3⟩
        | exact ⟨_, rfl, endN_set hB3 hx3⟩
  case rest =>
  obtain ⟨bx, rfl, hE2⟩ := hcut
  obtain ⟨W2, hW2⟩ : ∃ W2, W2 = wc := ⟨_, rfl⟩
  subst hW2
  obtain ⟨hB2, x0, x1, x2, hx2, hx1⟩ := hE2
  obtain ⟨z0, z1, -⟩ := HZ W2 hB2
  have hB02 : Below w0.heap.size w0 W2 := HOn1.out.2.trans (hB2.mono HOn1.out.2.size)
  have hwW2 : w.heap.size < W2.heap.size := by omega
  have HE : Hid (∀ W x, OnRow W2 W (.slice va XL vc) x → Below w0.heap.size w0 W ∧ W.cell? ⟨bx, 0, none⟩ = some (.int .i64 yo) ∧ W.cell? ⟨bx, 1, none⟩ = some (.int .i64 yn) ∧ W.cell? ⟨w.heap.size, 0, none⟩ = some (.slice (some ⟨bn, on, none⟩) n cap) ∧ W.cell? ⟨w.heap.size, 1, none⟩ = some (.slice b lb cb)) := fun W x hW => by
    have hv1 := HV.out.1
    have hb02s := hB02.size
    have hne : ∀ q8, w.heap.size ≤ q8 → (Value.slice va XL vc).ownBlock ≠ some q8 := fun q8 h8 e => by have := hv1 q8 e; omega
    refine ⟨hB02.trans ((hW.low HV.out.2.1 (by omega)).mono (Nat.le_refl _)), (hW.cell (a := ⟨bx, 0, none⟩) hx2 (hne bx (by omega))).trans x0, (hW.cell (a := ⟨bx, 1, none⟩) hx2 (hne bx (by omega))).trans x1, (hW.cell (a := ⟨w.heap.size, 0, none⟩) hwW2 (hne _ (Nat.le_refl _))).trans z0, (hW.cell (a := ⟨w.heap.size, 1, none⟩) hwW2 (hne _ (Nat.le_refl _))).trans z1⟩
  have HW12 := (show Hid (OnRow w W2 (.slice va XL vc) (.slice va XL vc)) from HOn1.out.1.trans (OnRow.below (v := .slice va XL vc) hB2))
  have HRW2 := (show Hid _ from row_keep HRW1.out hB2)
  clear HZ HCh hBd hBdA hB2 x0 x1 z0 z1 hB02 HOn1 HRW1
  go_wp2_with fail
  clear x2
  go_loopw [3, 26] (fun x i wr => ∃ (k : Nat) (O : List (Int × Int)), k ≤ li ∧ i = .int .i64 k ∧ Hid (wr.ownsRow w0.heap.size 68 2 x O.length (flat O) ∧ TruncT (X ++ tmK p ch ks k) O ∧ O.length ≤ 40 + nc ∧ OnRow W2 wr (.slice va XL vc) x)) (fun _ i _ => li - (intOf i).toNat)
  case atStart => exact ⟨0, X, Nat.zero_le _, rfl, by rw [HL.out.2.2.2.1]; exact HRW2.out, by rw [show tmK p ch ks 0 = [] from rfl, List.append_nil]; exact trunc_self X, by have := HL.out.2.2.2; omega, OnRow.refl _ _⟩
  case round =>
    obtain ⟨k, O, hk, rfl, hT⟩ := hrel
    obtain ⟨wo, rfl⟩ : ∃ x, x = wr := ⟨_, rfl⟩
    by_cases hlt : k < li
    · obtain ⟨hr, ht, hO, hOn⟩ := hT.out
      obtain ⟨hb0', -, -, z0, z1⟩ := HE.out wo _ hOn
      have hSk := HKs.out wo hb0'
      obtain ⟨bk, ok, rfl, hblk, hck⟩ := hSk.2.resolve_left (by omega)
      have ck := hck k hlt
      have HRk := (show Hid _ from HR.out wo _ O hb0' hr (by have := HL.out.2.2.1; omega) k (by have := HL.out.1; omega))
      have HKK := (show Hid _ from tmK_succ p ch ks (k := k) (by have := HL.out.1; omega))
      have hlk : (k : Int) < li := by omega
      have hli3 := HL.out.2.1
      generalize htk : tmT p ch (ks.getD k 0).toNat = TK at HRk HKK
      obtain ⟨y, hy⟩ : ∃ y, ks.getD k 0 = y := ⟨_, rfl⟩
      rw [hy] at HRk ck
      have HO := (show Hid (TruncT (X ++ tmK p ch ks k) O ∧ O.length ≤ 40 + nc ∧ OnRow W2 wo (.slice va XL vc) _) from ⟨ht, hO, hOn⟩)
      clear htk hck hSk hb0' hy hT hr ht hO hOn
      go_wp2_with fail
      refine Calls.mono HRk.out ?_
      rintro e w3 ⟨v3, L3, rfl, hr3, ht3, hs3, hl3, hon3⟩
      have HN : Hid (w3.ownsRow w0.heap.size 68 2 v3 L3.length (flat L3) ∧ TruncT (X ++ tmK p ch ks (k + 1)) L3 ∧ L3.length ≤ 40 + nc ∧ OnRow W2 w3 (.slice va XL vc) v3) := by
        obtain ⟨ht, hO, hOn⟩ := HO.out
        refine ⟨hr3, ?_, ?_, hOn.trans hon3⟩
        · rw [HKK.out, ← List.append_assoc]
          refine ⟨fun h => ?_, fun h => ?_⟩
          · rw [List.length_append] at h
            have e1 := ht.1 (by omega)
            rw [e1] at ht3
            exact ht3.1 (by rw [List.length_append]; omega)
          · by_cases h4 : (X ++ tmK p ch ks k).length ≤ 40
            · have e1 := ht.1 h4
              rw [e1] at ht3
              exact ht3.2 h
            · have := ht.2 (by omega)
              exact ht3.2 (by rw [List.length_append]; omega)
        · by_cases h4 : 40 < O.length
          · rw [hs3 h4]; exact hO
          · omega
      clear HRk hr3 ht3 hs3 hl3 hon3 HO HKK ck z0 z1
      go_wp2
      go_roundw
      case rel => exact ⟨k + 1, L3, by omega, by go_num, HN.out⟩
      case measure => simp [intOf]; omega
    · obtain rfl : k = li := by omega
      obtain ⟨hr, ht, hO, hOn⟩ := hT.out
      obtain ⟨hb0', z0, z1, -, -⟩ := HE.out wo _ hOn
      have hn120 := HL.out.2.2.1
      have hrowA := hr.alloc (.cells #[.int .i64 yo, .int .i64 yn] 68)
      have hnd := node_row8 wo yo yn
      have hbA : Below wo.heap.size wo (wo.alloc (.cells #[.int .i64 yo, .int .i64 yn] 68)) := below_alloc _ _
      have hsA : w0.heap.size ≤ (wo.alloc (.cells #[.int .i64 yo, .int .i64 yn] 68)).heap.size := Nat.le_trans hb0'.size hbA.size
      have HO := (show Hid (TruncT (X ++ tmK p ch ks k) O ∧ O.length ≤ 40 + nc ∧ OnRow W2 wo (.slice va XL vc) _) from ⟨ht, hO, hOn⟩)
      clear hT hr ht hOn hb0'
      go_wp2_with (at_builtin; refine wpList_append_own_at _ rfl _ _ 41 rfl w0.heap.size 68 i0 (.agg #[.int .i64 0, .int .i64 0]) 2 16 Tryd.underlying41 hi hz0 hz1 hz2 rfl (by decide) _ _ _ rfl hrowA ⟨wo.heap.size, 0, none⟩ 1 1 (flat [(yo, yn)]) rfl rfl (flat_cells hnd) (flat_one _) (by unfold maxLen; omega) (by omega) hsA ?_; intro v5 w5 hown5 hg5 hnil5 hat5; clear hnil5)
      have hon5 : OnRow (wo.alloc (.cells #[.int .i64 yo, .int .i64 yn] 68)) w5 _ v5 := ⟨hg5, hat5.imp id (fun e r hr => by rw [e] at hr; injection hr with hr; omega)⟩
      rw [← flat_append] at hown5
      have HFin : Hid (w5.ownsRow w0.heap.size 68 2 v5 (O ++ [(yo, yn)]).length (flat (O ++ [(yo, yn)])) ∧ TruncT (X ++ TC) (O ++ [(yo, yn)]) ∧ (40 < XL → O ++ [(yo, yn)] = X) ∧ (O ++ [(yo, yn)]).length ≤ max XL 40 + nc + 1 ∧ OnRow w w5 (.slice va XL vc) v5) := by
        obtain ⟨ht, hO, hOn⟩ := HO.out
        obtain ⟨l1, l2, l3, l4, l5⟩ := HL.out
        refine ⟨by rw [List.length_append]; exact hown5, ?_, fun h => by omega, by rw [List.length_append]; show O.length + 1 ≤ _; omega, HW12.out.trans (hOn.trans ((OnRow.below hbA).trans hon5))⟩
        rw [HT.out, l1, ← List.append_assoc]
        refine ⟨fun h => ?_, fun h => ?_⟩
        · rw [List.length_append] at h
          rw [ht.1 (by omega)]
        · rw [List.length_append] at h ⊢
          by_cases h4 : (X ++ tmK p ch ks k).length ≤ 40
          · rw [ht.1 h4]; exact h
          · have := ht.2 (by omega)
            omega
      clear hown5 hg5 hat5 hon5 hrowA hnd hbA hsA HO
      go_wp2
      go_ret
      exact ⟨_, _, rfl, HFin.out⟩
end Go.Proofs.YtmbggaepckgogaaDoor
