/-
  PROVED HERE: what the model's l9Apply answers, at every graph, rule and place. No other condition. what the model's ApplyRule answers, at every graph, rule and place. No other condition. a merged graph has few nodes, each of few kids. No condition.
-/
import Derived.Test.YtobgkfpjokfbaaaGreatDoorRun37
import Derived.Test.YtobgkfpjokfbaaaGreatDoorRun38
import Derived.Test.YtobgkfpjokfbaaaGreatDoorRun39
import Derived.Test.YtobgkfpjokfbaaaGreatDoorRun40
import Derived.Deep.CutRange
import Derived.Test.YtobgkfpjokfbaaaGreatDoorRun35
namespace Go.Proofs.YtobgkfpjokfbaaaGreatDoor
open Go.ChangeShapes Go.WideShapes Go.ChangeAt Go.RowKit
set_option linter.unusedVariables false

theorem safe_none (w : World) (S : Nat → Prop) : Safe w S (.slice none 0 0) (.slice none 0 0) ([], []) := fun w' _ _ => ⟨none, 0, none, 0, rfl, rfl, ⟨rfl, .inl rfl⟩, ⟨rfl, .inl rfl⟩⟩
theorem sl_vals {w : World} {v : Value} {lo n : Nat} {L : List Int} (h : w.ownsRow lo 3 1 v n (vals L)) (hn : L.length = n) : ∃ b cb, v = .slice b n cb ∧ Sl w b n L := by
  subst hn
  obtain ⟨b, cb, e, hs⟩ := Sl.vals h
  exact ⟨b, cb, e, hs⟩
set_option maxHeartbeats 6400000 in
set_option maxRecDepth 20000 in
theorem spL9Apply_any (a b : Option Addr) (len cap lb cb : Nat) (p : List EN) (l : List Int) (r0 : Value) (ta : Option Addr) (tl tc : Nat) (t : List (Int × Int)) (c : Int) (ba : Option Addr) (bl bc : Nat) (bs : List Int) (w : World) (h : ESl w a len p) (hl : Sl w b lb l) (ht : NSl w ta tl t) (hv : Sl w ba bl bs) (hg : graphB p l = true) (hcc : clB l c = true) (hbb : bindB l bs = true) (hm4 : tl ≤ 9223372036854775807) :
    Calls Tryz.prog 24 #[.agg #[.slice a len cap, .slice b lb cb], .agg #[r0, .slice ta tl tc], .agg #[.int .i64 c, .slice ba bl bc]] w fun e w' => ∃ va vb, e = .returned (.tuple #[.agg #[va, vb], .bool (instT p l t bs).isSome]) ∧ Safe w' (fun x => w.heap.size ≤ x) va vb (match instT p l t bs with | some r => mergeR r.1.1 r.1.2 c r.2 | none => ([], [])) ∧ Below w.heap.size w w' := by
  have hll := h.1
  have hl1 := hl.1
  have hbl := hv.1
  obtain ⟨h120, hgood⟩ := (graphB_good p l).1 hg
  have h120' : p.length ≤ 120 := h120
  have hlp : l.length = p.length := hgood.2.1
  have hb4 := bindB_len hbb
  obtain ⟨W1, hW1⟩ : ∃ W1, (((w.alloc (.cells #[.slice a len cap, .slice b lb cb] 36)).alloc (.cells #[r0, .slice ta tl tc] 42)).alloc (.cells #[.int .i64 c, .slice ba bl bc] 44)).alloc (.cells #[.slice none 0 0, .slice none 0 0] 36) = W1 := ⟨_, rfl⟩
  have hb1 : Below w.heap.size w W1 := by rw [← hW1]; exact ((((Below.refl _ _).alloc (Nat.le_refl _) _).alloc (by simp) _).alloc (by simp; omega) _).alloc (by simp; omega) _
  have hs1 : W1.heap.size = w.heap.size + 4 := by rw [← hW1]; simp
  have n0 : W1.cell? ⟨w.heap.size, 0, none⟩ = some (.slice a len cap) := by rw [← hW1]; simp [go_sem]
  have n1 : W1.cell? ⟨w.heap.size, 1, none⟩ = some (.slice b lb cb) := by rw [← hW1]; simp [go_sem]
  have n3 : W1.cell? ⟨w.heap.size + 1, 1, none⟩ = some (.slice ta tl tc) := by rw [← hW1]; simp [go_sem]
  have n4 : W1.cell? ⟨w.heap.size + 2, 0, none⟩ = some (.int .i64 c) := by rw [← hW1]; simp [go_sem]
  have n5 : W1.cell? ⟨w.heap.size + 2, 1, none⟩ = some (.slice ba bl bc) := by rw [← hW1]; simp [go_sem]
  have r0' : W1.cell? ⟨w.heap.size + 3, 0, none⟩ = some (.slice none 0 0) := by rw [← hW1]; simp [go_sem]
  have r1 : W1.cell? ⟨w.heap.size + 3, 1, none⟩ = some (.slice none 0 0) := by rw [← hW1]; simp [go_sem]
  have f0 : W1.frozen? ⟨w.heap.size + 3, 0, none⟩ = false := by rw [← hW1]; simp [go_sem]
  have f1 : W1.frozen? ⟨w.heap.size + 3, 1, none⟩ = false := by rw [← hW1]; simp [go_sem]
  have HX : Hid (∀ W, Below W1.heap.size W1 W → (W.cell? ⟨w.heap.size, 0, none⟩ = some (.slice a len cap) ∧ W.cell? ⟨w.heap.size, 1, none⟩ = some (.slice b lb cb) ∧ W.cell? ⟨w.heap.size + 1, 1, none⟩ = some (.slice ta tl tc) ∧ W.cell? ⟨w.heap.size + 2, 0, none⟩ = some (.int .i64 c) ∧ W.cell? ⟨w.heap.size + 2, 1, none⟩ = some (.slice ba bl bc)) ∧ (W.cell? ⟨w.heap.size + 3, 0, none⟩ = some (.slice none 0 0) ∧ W.cell? ⟨w.heap.size + 3, 1, none⟩ = some (.slice none 0 0) ∧ W.frozen? ⟨w.heap.size + 3, 0, none⟩ = false ∧ W.frozen? ⟨w.heap.size + 3, 1, none⟩ = false) ∧ Below w.heap.size w W) := fun W hW => ⟨⟨(hW.cell (p := ⟨w.heap.size, 0, none⟩) (by show w.heap.size < _; omega)).trans n0, (hW.cell (p := ⟨w.heap.size, 1, none⟩) (by show w.heap.size < _; omega)).trans n1, (hW.cell (p := ⟨w.heap.size + 1, 1, none⟩) (by show w.heap.size + 1 < _; omega)).trans n3, (hW.cell (p := ⟨w.heap.size + 2, 0, none⟩) (by show w.heap.size + 2 < _; omega)).trans n4, (hW.cell (p := ⟨w.heap.size + 2, 1, none⟩) (by show w.heap.size + 2 < _; omega)).trans n5⟩, ⟨(hW.cell (p := ⟨w.heap.size + 3, 0, none⟩) (by show w.heap.size + 3 < _; omega)).trans r0', (hW.cell (p := ⟨w.heap.size + 3, 1, none⟩) (by show w.heap.size + 3 < _; omega)).trans r1, (hW.frozen (p := ⟨w.heap.size + 3, 0, none⟩) (by show w.heap.size + 3 < _; omega)).trans f0, (hW.frozen (p := ⟨w.heap.size + 3, 1, none⟩) (by show w.heap.size + 3 < _; omega)).trans f1⟩, hb1.trans (hW.mono hb1.size)⟩
  have HS : Hid (∀ W, Below w.heap.size w W → ∀ v0 v1, Below w.heap.size w ((W.setCell ⟨w.heap.size + 3, 0, none⟩ v0).setCell ⟨w.heap.size + 3, 1, none⟩ v1)) := fun W hW v0 v1 => (hW.setCell (by show w.heap.size ≤ w.heap.size + 3; omega) _).setCell (by show w.heap.size ≤ w.heap.size + 3; omega) _
  have hnow : nowL l bs = bs := bind_now hbb
  have hkk : ∀ i, i < bl → 0 ≤ bs.getD i 0 → ∃ y : Nat, bs.getD i 0 = y ∧ y < lb := fun i hi h0 => by
    have hmem : bs.getD i 0 ∈ bs := by
      rw [List.getD_eq_getElem?_getD, List.getElem?_eq_getElem (by omega)]
      exact List.getElem_mem _
    rcases bindB_each hbb _ hmem with e | e
    · omega
    · have := (isCl_iff hgood _).1 e
      obtain ⟨i1, i2, -⟩ := this
      have i2' : bs.getD i 0 < (p.length : Int) := i2
      exact ⟨(bs.getD i 0).toNat, by omega, by omega⟩
  have HBi : Hid (∀ W, Below W1.heap.size W1 W → Calls Tryz.prog 47 #[.agg #[.slice a len cap, .slice b lb cb], .slice ba bl bc] W fun e w' => ∃ (xb : Option Addr) (xc : Nat), e = .returned (.slice xb bl xc) ∧ Sl w' xb bl bs ∧ Below W.heap.size W w') := fun W hW => (spL9Bind_any b ba lb cb _ ba bl bc l bs W ((hl.keep hb1).keep hW) ((hv.keep hb1).keep hW) (by omega) hkk).mono fun e w' ⟨v, r1, r2, r3⟩ => by
    rw [hnow] at r2
    obtain ⟨xb, xc, rfl, hx⟩ := sl_vals r2 hbl
    exact ⟨xb, xc, r1, hx, r3⟩
  have HIn : Hid (∀ W, Below W1.heap.size W1 W → ∀ (xb : Option Addr) (xc : Nat), Sl W xb bl bs → Calls Tryz.prog 46 #[.agg #[.slice a len cap, .slice b lb cb], .slice ta tl tc, .slice xb bl xc] W fun e w' => ∃ ga ca gb cb2, e = .returned (.tuple #[.agg #[.slice ga (ansG (instT p l t bs)).1.length ca, .slice gb (ansG (instT p l t bs)).2.length cb2], .int .i64 (ansC (instT p l t bs)), .bool (instT p l t bs).isSome]) ∧ Safe w' (fun x => W.heap.size ≤ x) (.slice ga (ansG (instT p l t bs)).1.length ca) (.slice gb (ansG (instT p l t bs)).2.length cb2) (ansG (instT p l t bs)) ∧ Below W.heap.size W w') := fun W hW xb xc hx => (specInstOf_any a b len cap lb cb p l ta tl tc t W ((h.keep hb1).keep hW) ((hl.keep hb1).keep hW) ((ht.keep hb1).keep hW) xb bl xc bs hx (by omega) (by omega) hm4 (by omega)).mono fun e w' ⟨va, vb, r1, r2, r3⟩ => by
    obtain ⟨ga, ca, gb, cb2, rfl, rfl, k1, k2⟩ := r2.reads
    exact ⟨ga, ca, gb, cb2, r1, r2.safe, r3⟩
  obtain ⟨A, hA⟩ : ∃ A, ansG (instT p l t bs) = A := ⟨_, rfl⟩
  obtain ⟨C, hC⟩ : ∃ C, ansC (instT p l t bs) = C := ⟨_, rfl⟩
  obtain ⟨B, hB⟩ : ∃ B, (instT p l t bs).isSome = B := ⟨_, rfl⟩
  rw [hA, hC, hB] at HIn
  have HM : Hid (B = true → ∀ W ga ca gb cb2, ESl W ga A.1.length A.1 → Sl W gb A.2.length A.2 → Calls Tryz.prog 48 #[.agg #[.slice ga A.1.length ca, .slice gb A.2.length cb2], .int .i64 c, .int .i64 C] W fun e w' => ∃ va vb, e = .returned (.agg #[va, vb]) ∧ SafeM w' (fun b => W.heap.size ≤ b) va vb (mergeR A.1 A.2 c C) ∧ Below W.heap.size W w') := fun hBt W ga ca gb cb2 k1 k2 => by
    rw [← hB] at hBt
    cases hin : instT p l t bs with
    | none => rw [hin] at hBt; cases hBt
    | some r =>
      obtain ⟨⟨P, L⟩, C'⟩ := r
      rw [hin] at hA hC
      simp only [ansG, ansC] at hA hC
      subst hA hC
      obtain ⟨i1, i2, i3, i4⟩ := instT_class hin
      have hgr : graphB P L = true := (graphB_good P L).2 ⟨i2, i1⟩
      have hgh := (headB_iff P L).1 ((graphB_iff P L).1 hgr).1
      have hgN := hgh.1
      have hgP : PartsN P.length L := ⟨hgh.2.1, ((partB_iff L).1 hgh.2.2).2⟩
      have hPL : L.length = P.length := hgh.2.1
      obtain ⟨c1, c2, -⟩ := i3
      obtain ⟨d1, d2, -⟩ := i4 c ((isCl_iff hgood c).1 hcc)
      have hok : mergeOk P L c C' = true := by
        unfold mergeOk
        rw [hgr, isCl_has i1 (i4 c ((isCl_iff hgood c).1 hcc)), isCl_has i1 (instT_class hin).2.2.1]; rfl
      have hyr : mergeR P L c C' = mergeG P L c.toNat C'.toNat := by unfold mergeR; rw [if_pos hok]
      have d2' : c < (P.length : Int) := d2
      have c2' : C' < (P.length : Int) := c2
      have e1 : c = (c.toNat : Int) := by omega
      have e2 : C' = (C'.toNat : Int) := by omega
      show Calls _ _ #[.agg #[.slice ga P.length ca, .slice gb L.length cb2], .int .i64 c, .int .i64 C'] _ (fun e w' => ∃ va vb, e = .returned (.agg #[va, vb]) ∧ SafeM w' (fun b => W.heap.size ≤ b) va vb (mergeR P L c C') ∧ Below W.heap.size W w')
      have k2' : Sl W gb P.length L := by rw [← hPL]; exact k2
      have := specMerged_any hgN hgP ga gb P.length ca cb2 (x := c.toNat) (y := C'.toNat) (by omega) (by omega) W k1 k2'
      rw [← e1, ← e2] at this
      rw [hPL, hyr]
      exact this
  have hgoal : (match instT p l t bs with | some r => mergeR r.1.1 r.1.2 c r.2 | none => (([], []) : GS)) = if B = true then mergeR A.1 A.2 c C else ([], []) := by
    rw [← hA, ← hB, ← hC]
    cases instT p l t bs with
    | none => rfl
    | some r => rfl
  rw [hgoal, hB]
  generalize mergeR A.1 A.2 c C = M at HM ⊢
  have HL : Hid (W1.heap.size = w.heap.size + 4) := hs1
  have HBd : Hid (Below W1.heap.size W1 W1) := Below.refl _ _
  clear h hl hb1 ht hv hg hcc hbb hgood h120 h120' hlp hb4 hnow hkk hA hC hB hgoal hs1 hm4 hll hl1 hbl
  go_enter Tryz.func24, Tryz.ntmps24
  go_wp2_with fail
  (try rw [hW1])
  go_upto_region 1 with fail
  have HBx := (show Hid _ from HBi.out)
  have HIx := (show Hid _ from HIn.out)
  clear HBi HIn
  go_cut [8, 9, 10] from 11 to 23 (fun s0 s1 s2 wx => ∃ (bx : Nat) (sa1 : Option Addr) (sca : Nat) (sb1 : Option Addr) (scb : Nat), s0 = .pointer (some ⟨bx, 0, none⟩) ∧ s1 = .int .i64 C ∧ s2 = .bool B ∧ EndR W1 wx bx (.slice sa1 A.1.length sca) (.slice sb1 A.2.length scb) A)
  case first =>
    have hBd : Below W1.heap.size W1 W1.drew := HBd.out.drew
    have hBdA : Below W1.heap.size W1 (W1.drew.alloc (.cells #[.slice none 0 0, .slice none 0 0] 36)) := hBd.alloc hBd.size _
    have HQx := fun W hW => (HX.out W hW).1
    have zD := HQx W1.drew hBd
    have sA := fun o : Obj => HQx (W1.drew.alloc o) (hBd.alloc hBd.size o)
    go_region_held3 (fun w' => w'.cell? ⟨w.heap.size, 0, none⟩ = some (.slice a len cap) ∧ w'.cell? ⟨w.heap.size, 1, none⟩ = some (.slice b lb cb) ∧ w'.cell? ⟨w.heap.size + 1, 1, none⟩ = some (.slice ta tl tc) ∧ w'.cell? ⟨w.heap.size + 2, 0, none⟩ = some (.int .i64 c) ∧ w'.cell? ⟨w.heap.size + 2, 1, none⟩ = some (.slice ba bl bc))
      (first | assumption | exact sA _ | exact sB _ | exact sE _ | exact sS _ _)
      (first
      | (go_at_call 47; first
          | (refine Calls.mono (HBx.out W1.drew hBd) ?_; rintro e v3 ⟨xb, xc, rfl, hx3, hb3⟩; have hB3 : Below W1.heap.size W1 v3 := hBd.trans (hb3.mono hBd.size); have z3 := HQx v3 hB3; have sB := fun o : Obj => HQx (v3.alloc o) (hB3.alloc hB3.size o))
          | (refine Calls.mono (HBx.out (W1.drew.alloc (.cells #[.slice none 0 0, .slice none 0 0] 36)) hBdA) ?_; rintro e v3 ⟨xb, xc, rfl, hx3, hb3a⟩; have hB3 : Below W1.heap.size W1 v3 := hBdA.trans (hb3a.mono hBdA.size); have z3 := HQx v3 hB3))
      | (go_at_call 46; first
          | (refine Calls.mono (HIx.out v3 hB3 xb xc hx3) ?_; rintro e v5 ⟨sa1, sca, sb1, scb, rfl, hR5, hb5⟩; have hB5 : Below W1.heap.size W1 v5 := hB3.trans (hb5.mono hB3.size); have z5 := HQx v5 hB5; first
              | (revert hb3a; intro hb3a; obtain ⟨p0', p1', p2', p3', p4', p5'⟩ := boxR hb3a hb5; have p0 : v5.cell? ⟨W1.heap.size, 0, none⟩ = some (.slice none 0 0) := p0'; have p1 : v5.cell? ⟨W1.heap.size, 1, none⟩ = some (.slice none 0 0) := p1'; have p2 : v5.frozen? ⟨W1.heap.size, 0, none⟩ = false := p2'; have p3 : v5.frozen? ⟨W1.heap.size, 1, none⟩ = false := p3'; have p4 : W1.heap.size < v3.heap.size := p4'; have p5 : W1.heap.size < v5.heap.size := p5'; have sS := fun u0 u1 : Value => HQx ((v5.setCell ⟨W1.heap.size, 0, none⟩ u0).setCell ⟨W1.heap.size, 1, none⟩ u1) ((hB5.setCell (p := ⟨W1.heap.size, 0, none⟩) hBd.size u0).setCell (p := ⟨W1.heap.size, 1, none⟩) hBd.size u1))
              | (have sE := fun o : Obj => HQx (v5.alloc o) (hB5.alloc hB5.size o)))
          | (refine Calls.mono (HIx.out (v3.alloc (.cells #[.slice none 0 0, .slice none 0 0] 36)) (hB3.alloc hB3.size _) xb xc (hx3.keep (alloc_below v3 (.cells #[.slice none 0 0, .slice none 0 0] 36)))) ?_; rintro e v5 ⟨sa1, sca, sb1, scb, rfl, hR5, hb5a⟩; have hB5 : Below W1.heap.size W1 v5 := (hB3.alloc hB3.size _).trans (hb5a.mono (hB3.alloc hB3.size _).size); have z5 := HQx v5 hB5; obtain ⟨p0, p1, p2, p3, p4, p5⟩ := boxR (Below.refl _ _) hb5a; have sS := fun u0 u1 : Value => HQx ((v5.setCell ⟨v3.heap.size, 0, none⟩ u0).setCell ⟨v3.heap.size, 1, none⟩ u1) ((hB5.setCell (p := ⟨v3.heap.size, 0, none⟩) hB3.size u0).setCell (p := ⟨v3.heap.size, 1, none⟩) hB3.size u1))))
    all_goals
      go_wp2_with fail
      go_meet
      first
        | exact ⟨_, _, _, _, _, rfl, rfl, rfl, endR_alloc hB5 hR5⟩
        | exact ⟨_, _, _, _, _, rfl, rfl, rfl, endR_set hB5 hR5 (fun b' hb' => nhi hb' p4) p0 p1 hB3.size p5⟩
        | exact ⟨_, _, _, _, _, rfl, rfl, rfl, endR_set hB5 hR5 (fun b' hb' => nhi hb' p4) p0 p1 hBd.size p5⟩
  case rest =>
  obtain ⟨B6, sa1, sca, sb1, scb, rfl, rfl, rfl, hE6⟩ := hcut
  obtain ⟨W6, hW6⟩ : ∃ W6, W6 = wc := ⟨_, rfl⟩
  subst hW6
  obtain ⟨hB6, hR6, u0, u1, hs6⟩ := hE6
  obtain ⟨⟨q0, q1, q2, q3, q4⟩, ⟨v0, v1, g0, g1⟩, hw6⟩ := HX.out W6 hB6
  obtain ⟨ga, ca, gb, cb2, e1, e2, hE6, hL6⟩ := hR6
  simp only [Value.slice.injEq] at e1 e2
  obtain ⟨rfl, -, rfl⟩ := e1
  obtain ⟨rfl, -, rfl⟩ := e2
  cases B with
  | false =>
    have HBS := (show Hid _ from HS.out W6 hw6)
    clear hB6 hw6 hE6 hL6 HM HX HS HBx HIx HBd
    go_wp2
    refine bodyPost_ret (v := .tuple #[.agg #[.slice none 0 0, .slice none 0 0], .bool false]) ?_ ?_ ?_
    · simp [results, Tryz.results24, go_sem, *]
    · rfl
    · exact ⟨_, _, rfl, safe_none _ _, HBS.out _ _⟩
  | true =>
    have HM6 := (show Hid _ from HM.out rfl W6 _ sca _ scb hE6 hL6)
    have H6 := (show Hid _ from hB6)
    clear hB6 hw6 hE6 hL6 HM HBx HIx HBd
    go_wp2_with fail
    refine Calls.mono HM6.out ?_
    rintro e w7 ⟨va, vb, rfl, hS7, hb7⟩
    have hB7 := H6.out.trans (hb7.mono H6.out.size)
    have hs6' : W1.heap.size ≤ W6.heap.size := H6.out.size
    clear q0 q1 q2 q3 q4 v0 v1 g0 g1
    obtain ⟨⟨q0, q1, q2, q3, q4⟩, ⟨v0, v1, g0, g1⟩, hw7⟩ := HX.out w7 hB7
    have hsz1 := HL.out
    have HF : Hid (∀ v0 v1, Safe ((w7.setCell ⟨w.heap.size + 3, 0, none⟩ v0).setCell ⟨w.heap.size + 3, 1, none⟩ v1) (fun x => w.heap.size ≤ x) va vb M ∧ Below w.heap.size w ((w7.setCell ⟨w.heap.size + 3, 0, none⟩ v0).setCell ⟨w.heap.size + 3, 1, none⟩ v1)) := fun v0 v1 => by
      refine ⟨fun w' hs' hk' => hS7 w' (by rw [setCell_size, setCell_size] at hs'; exact hs') (fun b hb hl => ?_), HS.out w7 hw7 v0 v1⟩
      have hb' : W6.heap.size ≤ b := hb
      refine (hk' b (by omega) (by rw [setCell_size, setCell_size]; exact hl)).trans ?_
      rw [setCell_block _ _ _ (show w.heap.size + 3 ≠ b by omega), setCell_block _ _ _ (show w.heap.size + 3 ≠ b by omega)]
    obtain ⟨ga2, ca2, gb2, cb3, rfl, rfl, -, -⟩ := hS7 w7 (Nat.le_refl _) (fun _ _ _ => rfl)
    clear HM6 H6 hb7 hB7 hs6' hw7 hS7 HX HS HL hsz1 u0 u1
    go_wp2
    refine bodyPost_ret (v := .tuple #[.agg #[.slice ga2 M.1.length ca2, .slice gb2 M.2.length cb3], .bool true]) ?_ ?_ ?_
    · simp [results, Tryz.results24, go_sem, *]
    · rfl
    · exact ⟨_, _, rfl, (HF.out _ _).1, (HF.out _ _).2⟩
end Go.Proofs.YtobgkfpjokfbaaaGreatDoor
namespace Go.Proofs.YtobgkfpjokfbaaaGreatDoor
open Go.ChangeShapes Go.WideShapes Go.ChangeAt Go.RowKit
set_option linter.unusedVariables false

set_option maxHeartbeats 6400000 in
set_option maxRecDepth 20000 in
theorem specApply_any (a b : Option Addr) (len cap lb cb : Nat) (p : List EN) (l : List Int) (sa : Option Addr) (sl sc : Nat) (s : List (Int × Int)) (ta : Option Addr) (tl tc : Nat) (t : List (Int × Int)) (c : Int) (ba : Option Addr) (bl bc : Nat) (bs : List Int) (w : World) (h : ESl w a len p) (hl : Sl w b lb l) (hs : NSl w sa sl s) (ht : NSl w ta tl t) (hv : Sl w ba bl bs) (hm : len ≤ 9223372036854775807) (hm2 : lb ≤ 9223372036854775807) (hm3 : sl ≤ 9223372036854775807) (hm4 : tl ≤ 9223372036854775807) (hm5 : bl ≤ 9223372036854775807) :
    Calls Tryz.prog 7 #[.agg #[.slice a len cap, .slice b lb cb], .agg #[.slice sa sl sc, .slice ta tl tc], .agg #[.int .i64 c, .slice ba bl bc]] w fun e w' => ∃ va vb, e = .returned (.tuple #[.agg #[va, vb], .bool (appOk p l s t c bs)]) ∧ Safe w' (fun x => w.heap.size ≤ x) va vb (appR p l s t c bs) ∧ Below w.heap.size w w' := by
  obtain ⟨W1, hW1⟩ : ∃ W1, (((w.alloc (.cells #[.slice a len cap, .slice b lb cb] 36)).alloc (.cells #[.slice sa sl sc, .slice ta tl tc] 42)).alloc (.cells #[.int .i64 c, .slice ba bl bc] 44)).alloc (.cells #[.slice none 0 0, .slice none 0 0] 36) = W1 := ⟨_, rfl⟩
  have hb1 : Below w.heap.size w W1 := by rw [← hW1]; exact ((((Below.refl _ _).alloc (Nat.le_refl _) _).alloc (by simp) _).alloc (by simp; omega) _).alloc (by simp; omega) _
  have hs1 : W1.heap.size = w.heap.size + 4 := by rw [← hW1]; simp
  have n0 : W1.cell? ⟨w.heap.size, 0, none⟩ = some (.slice a len cap) := by rw [← hW1]; simp [go_sem]
  have n1 : W1.cell? ⟨w.heap.size, 1, none⟩ = some (.slice b lb cb) := by rw [← hW1]; simp [go_sem]
  have n2 : W1.cell? ⟨w.heap.size + 1, 0, none⟩ = some (.slice sa sl sc) := by rw [← hW1]; simp [go_sem]
  have n3 : W1.cell? ⟨w.heap.size + 1, 1, none⟩ = some (.slice ta tl tc) := by rw [← hW1]; simp [go_sem]
  have n4 : W1.cell? ⟨w.heap.size + 2, 0, none⟩ = some (.int .i64 c) := by rw [← hW1]; simp [go_sem]
  have n5 : W1.cell? ⟨w.heap.size + 2, 1, none⟩ = some (.slice ba bl bc) := by rw [← hW1]; simp [go_sem]
  have r0 : W1.cell? ⟨w.heap.size + 3, 0, none⟩ = some (.slice none 0 0) := by rw [← hW1]; simp [go_sem]
  have r1 : W1.cell? ⟨w.heap.size + 3, 1, none⟩ = some (.slice none 0 0) := by rw [← hW1]; simp [go_sem]
  have f0 : W1.frozen? ⟨w.heap.size + 3, 0, none⟩ = false := by rw [← hW1]; simp [go_sem]
  have f1 : W1.frozen? ⟨w.heap.size + 3, 1, none⟩ = false := by rw [← hW1]; simp [go_sem]
  have HX : Hid (∀ W, Below W1.heap.size W1 W → (W.cell? ⟨w.heap.size, 0, none⟩ = some (.slice a len cap) ∧ W.cell? ⟨w.heap.size, 1, none⟩ = some (.slice b lb cb) ∧ W.cell? ⟨w.heap.size + 1, 0, none⟩ = some (.slice sa sl sc) ∧ W.cell? ⟨w.heap.size + 1, 1, none⟩ = some (.slice ta tl tc) ∧ W.cell? ⟨w.heap.size + 2, 0, none⟩ = some (.int .i64 c) ∧ W.cell? ⟨w.heap.size + 2, 1, none⟩ = some (.slice ba bl bc)) ∧ (W.cell? ⟨w.heap.size + 3, 0, none⟩ = some (.slice none 0 0) ∧ W.cell? ⟨w.heap.size + 3, 1, none⟩ = some (.slice none 0 0) ∧ W.frozen? ⟨w.heap.size + 3, 0, none⟩ = false ∧ W.frozen? ⟨w.heap.size + 3, 1, none⟩ = false) ∧ Below w.heap.size w W) := fun W hW => ⟨⟨(hW.cell (p := ⟨w.heap.size, 0, none⟩) (by show w.heap.size < _; omega)).trans n0, (hW.cell (p := ⟨w.heap.size, 1, none⟩) (by show w.heap.size < _; omega)).trans n1, (hW.cell (p := ⟨w.heap.size + 1, 0, none⟩) (by show w.heap.size + 1 < _; omega)).trans n2, (hW.cell (p := ⟨w.heap.size + 1, 1, none⟩) (by show w.heap.size + 1 < _; omega)).trans n3, (hW.cell (p := ⟨w.heap.size + 2, 0, none⟩) (by show w.heap.size + 2 < _; omega)).trans n4, (hW.cell (p := ⟨w.heap.size + 2, 1, none⟩) (by show w.heap.size + 2 < _; omega)).trans n5⟩, ⟨(hW.cell (p := ⟨w.heap.size + 3, 0, none⟩) (by show w.heap.size + 3 < _; omega)).trans r0, (hW.cell (p := ⟨w.heap.size + 3, 1, none⟩) (by show w.heap.size + 3 < _; omega)).trans r1, (hW.frozen (p := ⟨w.heap.size + 3, 0, none⟩) (by show w.heap.size + 3 < _; omega)).trans f0, (hW.frozen (p := ⟨w.heap.size + 3, 1, none⟩) (by show w.heap.size + 3 < _; omega)).trans f1⟩, hb1.trans (hW.mono hb1.size)⟩
  have HS : Hid (∀ W, Below w.heap.size w W → ∀ v0 v1, Below w.heap.size w ((W.setCell ⟨w.heap.size + 3, 0, none⟩ v0).setCell ⟨w.heap.size + 3, 1, none⟩ v1)) := fun W hW v0 v1 => (hW.setCell (by show w.heap.size ≤ w.heap.size + 3; omega) _).setCell (by show w.heap.size ≤ w.heap.size + 3; omega) _
  have HR := (show Hid _ from specRule_any sa ta sl sc tl tc s t W1 (hs.keep hb1) (ht.keep hb1) hm3 hm4)
  have HI : Hid (∀ W, Below W1.heap.size W1 W → Calls Tryz.prog 23 #[.agg #[.slice a len cap, .slice b lb cb], .slice sa sl sc, .int .i64 c, .slice ba bl bc] W fun e w' => e = .returned (.tuple #[.bool (isM p l s c bs), .bool (askB p l s c bs)]) ∧ Below W.heap.size W w') := fun W hW => specIsMatch_any a b len cap lb cb p l sa sl sc s c ba bl bc bs W ((h.keep hb1).keep hW) ((hl.keep hb1).keep hW) ((hs.keep hb1).keep hW) ((hv.keep hb1).keep hW) hm hm2 hm3 hm5
  cases hrt : ruleB s t with
  | false =>
    have hno : appOk p l s t c bs = false := by unfold appOk; rw [hrt]; simp
    have hnr : appR p l s t c bs = ([], []) := by unfold appR; rw [hno]; rfl
    rw [hno, hnr]
    rw [hrt] at HR
    clear h hl hb1 hno hnr hs1 hs ht hv HI
    go_enter Tryz.func7, Tryz.ntmps7
    go_wp2_with fail
    (try rw [hW1])
    refine Calls.mono HR.out ?_
    rintro e w2 ⟨rfl, hb2⟩
    obtain ⟨⟨q0, q1, q2, q3, q4, q5⟩, ⟨u0, u1, g0, g1⟩, hw2⟩ := HX.out w2 hb2
    have HB := (show Hid _ from HS.out w2 hw2)
    clear HR hW1 HX HS hb2 hw2 n0 n1 n2 n3 n4 n5 r0 r1 f0 f1
    go_wp2
    refine bodyPost_ret (v := .tuple #[.agg #[.slice none 0 0, .slice none 0 0], .bool false]) ?_ ?_ ?_
    · simp [results, Tryz.results7, go_sem, *]
    · rfl
    · exact ⟨_, _, rfl, safe_none _ _, HB.out _ _⟩
  | true =>
    rw [hrt] at HR
    cases hmt : isM p l s c bs with
    | false =>
      have hno : appOk p l s t c bs = false := by unfold appOk; rw [hmt]; rfl
      have hnr : appR p l s t c bs = ([], []) := by unfold appR; rw [hno]; rfl
      rw [hno, hnr]
      rw [hmt] at HI
      clear h hl hb1 hno hnr hs1 hs ht hv
      go_enter Tryz.func7, Tryz.ntmps7
      go_wp2_with fail
      (try rw [hW1])
      refine Calls.mono HR.out ?_
      rintro e w2 ⟨rfl, hb2⟩
      obtain ⟨⟨q0, q1, q2, q3, q4, q5⟩, ⟨u0, u1, g0, g1⟩, hw2⟩ := HX.out w2 hb2
      have HI2 := (show Hid _ from HI.out w2 hb2)
      have H2 := (show Hid _ from hb2)
      clear HI HR hW1 hb2 hw2 n0 n1 n2 n3 n4 n5 r0 r1 f0 f1
      go_wp2_with fail
      refine Calls.mono HI2.out ?_
      rintro e w3 ⟨rfl, hb3⟩
      clear q0 q1 q2 q3 q4 q5 u0 u1 g0 g1
      obtain ⟨⟨q0, q1, q2, q3, q4, q5⟩, ⟨u0, u1, g0, g1⟩, hw3⟩ := HX.out w3 (H2.out.trans (hb3.mono H2.out.size))
      have HB := (show Hid _ from HS.out w3 hw3)
      clear HI2 H2 HX HS hb3 hw3
      go_wp2
      refine bodyPost_ret (v := .tuple #[.agg #[.slice none 0 0, .slice none 0 0], .bool false]) ?_ ?_ ?_
      · simp [results, Tryz.results7, go_sem, *]
      · rfl
      · exact ⟨_, _, rfl, safe_none _ _, HB.out _ _⟩
    | true =>
      rw [hmt] at HI
      obtain ⟨m1, m2, m3, m4⟩ := isM_ask hmt
      have hak : askB p l s c bs = true := by unfold isM at hmt; simp only [Bool.and_eq_true] at hmt; exact hmt.1
      rw [hak] at HI
      have hyes : appOk p l s t c bs = (instT p l t bs).isSome := by unfold appOk; rw [hmt, hrt]; rfl
      have hyr : appR p l s t c bs = (match instT p l t bs with | some r => mergeR r.1.1 r.1.2 c r.2 | none => ([], [])) := by
        unfold appR
        rw [hyes]
        cases instT p l t bs with
        | none => rfl
        | some r => rfl
      rw [hyes, hyr]
      have HA : Hid (∀ W, Below W1.heap.size W1 W → Calls Tryz.prog 24 #[.agg #[.slice a len cap, .slice b lb cb], .agg #[.slice sa sl sc, .slice ta tl tc], .agg #[.int .i64 c, .slice ba bl bc]] W fun e w' => ∃ va vb, e = .returned (.tuple #[.agg #[va, vb], .bool (instT p l t bs).isSome]) ∧ Safe w' (fun x => W.heap.size ≤ x) va vb (match instT p l t bs with | some r => mergeR r.1.1 r.1.2 c r.2 | none => ([], [])) ∧ Below W.heap.size W w') := fun W hW => spL9Apply_any a b len cap lb cb p l _ ta tl tc t c ba bl bc bs W ((h.keep hb1).keep hW) ((hl.keep hb1).keep hW) ((ht.keep hb1).keep hW) ((hv.keep hb1).keep hW) m1 m3 m4 hm4
      generalize (match instT p l t bs with | some r => mergeR r.1.1 r.1.2 c r.2 | none => (([], []) : GS)) = M at HA ⊢
      generalize (instT p l t bs).isSome = B at HA ⊢
      have HL : Hid (W1.heap.size = w.heap.size + 4) := hs1
      clear h hl hb1 hyes hyr hs1 hs ht hv hak m1 m2 m3 m4 hmt hrt
      go_enter Tryz.func7, Tryz.ntmps7
      go_wp2_with fail
      (try rw [hW1])
      refine Calls.mono HR.out ?_
      rintro e w2 ⟨rfl, hb2⟩
      obtain ⟨⟨q0, q1, q2, q3, q4, q5⟩, ⟨u0, u1, g0, g1⟩, hw2⟩ := HX.out w2 hb2
      have HI2 := (show Hid _ from HI.out w2 hb2)
      have H2 := (show Hid _ from hb2)
      clear HI HR hW1 hb2 hw2 n0 n1 n2 n3 n4 n5 r0 r1 f0 f1
      go_wp2_with fail
      refine Calls.mono HI2.out ?_
      rintro e w3 ⟨rfl, hb3⟩
      have hB3 := H2.out.trans (hb3.mono H2.out.size)
      clear q0 q1 q2 q3 q4 q5 u0 u1 g0 g1
      obtain ⟨⟨q0, q1, q2, q3, q4, q5⟩, ⟨u0, u1, g0, g1⟩, hw3⟩ := HX.out w3 hB3
      have HA3 := (show Hid _ from HA.out w3 hB3)
      have H3 := (show Hid _ from hB3)
      clear HI2 H2 hb3 hw3 hB3 HA
      go_wp2_with fail
      refine Calls.mono HA3.out ?_
      rintro e w6 ⟨va, vb, rfl, hG6, hb6⟩
      have hB6 := H3.out.trans (hb6.mono H3.out.size)
      have hs5 : W1.heap.size ≤ w3.heap.size := H3.out.size
      clear q0 q1 q2 q3 q4 q5 u0 u1 g0 g1
      obtain ⟨⟨q0, q1, q2, q3, q4, q5⟩, ⟨u0, u1, g0, g1⟩, hw6⟩ := HX.out w6 hB6
      have hsz1 := HL.out
      have HF : Hid (∀ v0 v1, Safe ((w6.setCell ⟨w.heap.size + 3, 0, none⟩ v0).setCell ⟨w.heap.size + 3, 1, none⟩ v1) (fun x => w.heap.size ≤ x) va vb M ∧ Below w.heap.size w ((w6.setCell ⟨w.heap.size + 3, 0, none⟩ v0).setCell ⟨w.heap.size + 3, 1, none⟩ v1)) := fun v0 v1 => by
        refine ⟨fun w' hs' hk' => hG6 w' (by rw [setCell_size, setCell_size] at hs'; exact hs') (fun b hb hl => ?_), HS.out w6 hw6 v0 v1⟩
        have hb' : w3.heap.size ≤ b := hb
        refine (hk' b (by omega) (by rw [setCell_size, setCell_size]; exact hl)).trans ?_
        rw [setCell_block _ _ _ (show w.heap.size + 3 ≠ b by omega), setCell_block _ _ _ (show w.heap.size + 3 ≠ b by omega)]
      obtain ⟨ga2, ca2, gb2, cb3, rfl, rfl, -⟩ := hG6 w6 (Nat.le_refl _) (fun _ _ _ => rfl)
      clear HA3 H3 hb6 hB6 hs5 hw6 hG6 HX HS HL hsz1
      go_wp2
      refine bodyPost_ret (v := .tuple #[.agg #[.slice ga2 M.1.length ca2, .slice gb2 M.2.length cb3], .bool B]) ?_ ?_ ?_
      · simp [results, Tryz.results7, go_sem, *]
      · rfl
      · exact ⟨_, _, rfl, (HF.out _ _).1, (HF.out _ _).2⟩
end Go.Proofs.YtobgkfpjokfbaaaGreatDoor
namespace Go.Proofs.YtobgkfpjokfbaaaGreatDoor
open Go.ChangeShapes Go.WideShapes Go.ChangeAt Go.RowKit
set_option linter.unusedVariables false

theorem mergeR_few {p : List EN} {l : List Int} {x y : Int} : (mergeR p l x y).1.length ≤ 120 ∧ (mergeR p l x y).2.length = (mergeR p l x y).1.length ∧ ∀ i, i < (mergeR p l x y).1.length → ((mergeR p l x y).1.getD i e0).2.2.length ≤ 3 := by
  cases h : mergeOk p l x y with
  | false =>
    have : mergeR p l x y = ([], []) := by unfold mergeR; rw [h]; rfl
    rw [this]
    exact ⟨by simp, rfl, fun i hi => absurd hi (Nat.not_lt_zero _)⟩
  | true =>
    have hr : mergeR p l x y = mergeG p l x.toNat y.toNat := by unfold mergeR; rw [h]; rfl
    unfold mergeOk at h
    simp only [Bool.and_eq_true] at h
    obtain ⟨⟨hgb, hax⟩, hay⟩ := h
    have hgh := (headB_iff p l).1 ((graphB_iff p l).1 hgb).1
    have hgN := hgh.1
    have hgP : PartsN p.length l := ⟨hgh.2.1, ((partB_iff l).1 hgh.2.2).2⟩
    have hpl := hgh.2.1
    obtain ⟨X, rfl, hX⟩ := has_iff hax
    obtain ⟨Y, rfl, hY⟩ := has_iff hay
    rw [Int.toNat_natCast, Int.toNat_natCast] at hr
    rw [hr]
    have hmL := mergeG_len hgN hgP (show X < p.length by omega) (show Y < p.length by omega)
    rw [hmL.1, hmL.2]
    refine ⟨((nodesB_iff p).1 hgN).1, rfl, fun i hi => ?_⟩
    unfold mergeG
    rw [withL_get _ p hi]
    simp only
    rw [kidsL_len]
    exact fit_few (((nodesB_iff p).1 hgN).2 i hi)
end Go.Proofs.YtobgkfpjokfbaaaGreatDoor
