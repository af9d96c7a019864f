/-
  PROVED HERE: what the program's InstOf answers, at every graph, list of nodes and bind, in a world whose table of arities is laid. No other condition. what the model's InstOf answers, at every graph, list of nodes and bind. No other condition. the law FnExactInstOf's own run, at every argument, in a world whose table of arities is laid. No other condition.
-/
import Derived.Test.YthgcicidenmnfaaDoorAddEnd
import Derived.Test.YthgcicidenmnfaaDoorMarkHeld
import Derived.Test.YthgcicidenmnfaaDoorBindAll
import Derived.Test.YthgcicidenmnfaaDoorA7ClsW
import Derived.Test.YthgcicidenmnfaaDoorShelfAll
import Derived.Test.YthgcicidenmnfaaDoorVarsAll
import Derived.Test.YthgcicidenmnfaaDoorCopyI
import Derived.Test.YthgcicidenmnfaaDoorIntsAll
import Derived.Test.YthgcicidenmnfaaDoorG6Ends
import Derived.Test.YthgcicidenmnfaaDoorNodesB
namespace Go.Proofs.YthgcicidenmnfaaDoor
open Go.ChangeShapes Go.WideShapes Go.ChangeAt Go.RowKit
set_option linter.unusedVariables false

theorem instT_few {p : List EN} {l bs : List Int} {t : List (Int × Int)} {r : GS × Int} (h : instT p l t bs = some r) : 0 < r.1.1.length := by
  unfold instT at h
  by_cases hc : (graphB p l && patB t && bindB l bs && boundB t bs) = true
  · rw [if_pos hc] at h
    simp only [Bool.and_eq_true] at hc
    obtain ⟨⟨⟨c1, c2⟩, c3⟩, c4⟩ := hc
    have hgt : goodB t = true := by unfold patB at c2; simp only [Bool.and_eq_true] at c2; exact c2.1
    obtain ⟨hp, ht1, ht40⟩ := good_pile hgt
    have hgood := ((graphB_good p l).1 c1).2
    have hr := runA_good (b := some bs) t (p, l) [] 1 hp hgood (fun c hc => by cases hc) (bind_cl hgood c3 hgt c4)
    have hfr := (runA_frame (some bs) [] t (p, l) [] 1 hp).2
    unfold roomA at h
    by_cases h0 : (runA (some bs) t ((p, l), [])).1.1.length ≤ 120
    · rw [if_pos h0] at h
      cases h
      have hlen : (runA (some bs) t ((p, l), [])).2.length = 1 := by omega
      have hmem : (runA (some bs) t ((p, l), [])).2.getD 0 0 ∈ (runA (some bs) t ((p, l), [])).2 := by rw [getI_lt (by omega)]; exact List.getElem_mem _
      have := (hr.2.1 _ hmem)
      have h1 := this.1
      have h2 := this.2.1
      show 0 < (runA (some bs) t ((p, l), [])).1.1.length
      omega
    · rw [if_neg h0] at h; cases h
  · rw [if_neg hc] at h; cases h
set_option maxHeartbeats 3200000 in
set_option maxRecDepth 20000 in
theorem implInstOf_any (a b : Option Addr) (len cap lb cb : Nat) (p : List EN) (l : List Int) (ta : Option Addr) (tl tc : Nat) (t : List (Int × Int)) (ba : Option Addr) (bl bc : Nat) (bs : List Int) (w : World) (hT : Tab w) (h : ESl w a len p) (hl : Sl w b lb l) (ht : NSl w ta tl t) (hv : Sl w ba bl bs) (hI : InE p) (hIt : ∀ k, k < t.length → InI (t.getD k (0, 0)).2) (hm2 : lb ≤ 9223372036854775807) (hm3 : tl ≤ 9223372036854775807) (hm4 : bl ≤ 9223372036854775807) :
    Calls Tryd.prog 33 #[.agg #[.slice a len cap, .slice b lb cb], .slice ta tl tc, .slice ba bl bc] w fun e w' => ∃ va vb, e = .returned (.tuple #[.agg #[va, vb], .int .i64 (ansC (instT p l t bs)), .bool (instT p l t bs).isSome]) ∧ AnsI w' (fun x => w.heap.size ≤ x) va vb (ansG (instT p l t bs)) ∧ Below w.heap.size w w' := by
  have hll := h.1
  have htl := ht.1
  have hvl := hv.1
  have hmf : ∀ (fn : Fn) (first cap : Array Value) (w : World), (Instr.makeFunc fn first cap).run Tryd.prog w = .ok (.func fn first cap) w := fun _ _ _ _ => rfl
  obtain ⟨W1, hW1⟩ : ∃ W1, (w.alloc (.cells #[.slice a len cap, .slice b lb cb] 32)).alloc (.cells #[.slice none 0 0, .slice none 0 0] 32) = W1 := ⟨_, rfl⟩
  have hb1 : Below w.heap.size w W1 := by rw [← hW1]; exact ((Below.refl _ _).alloc (Nat.le_refl _) _).alloc (by simp) _
  have hs1 : W1.heap.size = w.heap.size + 2 := by rw [← hW1]; simp
  have n0 : W1.cell? ⟨w.heap.size, 0, none⟩ = some (.slice a len cap) := by rw [← hW1]; simp [go_sem]
  have n1 : W1.cell? ⟨w.heap.size, 1, none⟩ = some (.slice b lb cb) := by rw [← hW1]; simp [go_sem]
  have r0 : W1.cell? ⟨w.heap.size + 1, 0, none⟩ = some (.slice none 0 0) := by rw [← hW1]; simp [go_sem]
  have r1 : W1.cell? ⟨w.heap.size + 1, 1, none⟩ = some (.slice none 0 0) := by rw [← hW1]; simp [go_sem]
  have f0 : W1.frozen? ⟨w.heap.size + 1, 0, none⟩ = false := by rw [← hW1]; simp [go_sem]
  have f1 : W1.frozen? ⟨w.heap.size + 1, 1, none⟩ = false := by rw [← hW1]; simp [go_sem]
  have HG := (show Hid _ from implGraph_any a b len cap lb cb p l W1 (hT.keeps hb1) (h.keep hb1) (hl.keep hb1) hm2 hI)
  have HGt : Hid (∀ W, Below W1.heap.size W1 W → Calls Tryd.prog 63 #[.slice ta tl tc] W fun e w' => e = .returned (.bool (patB t)) ∧ Below W.heap.size W w') := fun W hW => implPat_any ta tl tc t W ((hT.keeps hb1).keeps hW) ((ht.keep hb1).keep hW) hm3
  have HC : Hid (∀ W, Below W1.heap.size W1 W → (W.cell? ⟨w.heap.size, 0, none⟩ = some (.slice a len cap) ∧ W.cell? ⟨w.heap.size, 1, none⟩ = some (.slice b lb cb)) ∧ (W.cell? ⟨w.heap.size + 1, 0, none⟩ = some (.slice none 0 0) ∧ W.cell? ⟨w.heap.size + 1, 1, none⟩ = some (.slice none 0 0) ∧ W.frozen? ⟨w.heap.size + 1, 0, none⟩ = false ∧ W.frozen? ⟨w.heap.size + 1, 1, none⟩ = false) ∧ ∀ v0 v1, Below w.heap.size w ((W.setCell ⟨w.heap.size + 1, 0, none⟩ v0).setCell ⟨w.heap.size + 1, 1, none⟩ v1)) := fun W hW => by
    have hX := hb1.trans (hW.mono hb1.size)
    exact ⟨⟨(hW.cell (p := ⟨w.heap.size, 0, none⟩) (by show w.heap.size < _; omega)).trans n0, (hW.cell (p := ⟨w.heap.size, 1, none⟩) (by show w.heap.size < _; omega)).trans n1⟩, ⟨(hW.cell (p := ⟨w.heap.size + 1, 0, none⟩) (by show w.heap.size + 1 < _; omega)).trans r0, (hW.cell (p := ⟨w.heap.size + 1, 1, none⟩) (by show w.heap.size + 1 < _; omega)).trans r1, (hW.frozen (p := ⟨w.heap.size + 1, 0, none⟩) (by show w.heap.size + 1 < _; omega)).trans f0, (hW.frozen (p := ⟨w.heap.size + 1, 1, none⟩) (by show w.heap.size + 1 < _; omega)).trans f1⟩, fun v0 v1 => (hX.setCell (by show w.heap.size ≤ w.heap.size + 1; omega) _).setCell (by show w.heap.size ≤ w.heap.size + 1; omega) _⟩
  cases hgb : graphB p l with
  | false =>
    have hno : instT p l t bs = none := by unfold instT; rw [hgb]; rfl
    rw [hno]
    rw [hgb] at HG
    clear h hl ht hv hb1 hT HGt hs1 r0 r1 f0 f1
    go_enter Tryd.func33, Tryd.ntmps33
    go_wp2_with fail
    (try rw [hW1])
    refine Calls.mono HG.out ?_
    rintro e w2 ⟨rfl, hb2⟩
    obtain ⟨-, ⟨y0, y1, y2, y3⟩, hfin⟩ := HC.out w2 hb2
    have HF := (show Hid _ from hfin)
    clear HG hW1 HC hb2 hfin
    go_wp2
    refine bodyPost_ret (v := .tuple #[.agg #[.slice none 0 0, .slice none 0 0], .int .i64 0, .bool false]) ?_ ?_ ?_
    · simp [results, Tryd.results33, go_sem, *]
    · rfl
    · exact ⟨_, _, rfl, .inl ⟨rfl, rfl, rfl⟩, HF.out _ _⟩
  | true =>
    rw [hgb] at HG
    cases hgt : patB t with
    | false =>
      have hno : instT p l t bs = none := by unfold instT; rw [hgb, hgt]; rfl
      rw [hno]
      rw [hgt] at HGt
      clear h hl ht hv hb1 hT hs1 r0 r1 f0 f1
      go_enter Tryd.func33, Tryd.ntmps33
      go_wp2_with fail
      (try rw [hW1])
      refine Calls.mono HG.out ?_
      rintro e w2 ⟨rfl, hb2⟩
      have HT2 := (show Hid _ from HGt.out w2 hb2)
      have HB2 := (show Hid _ from hb2)
      clear HG hW1 HGt hb2
      go_wp2_with fail
      refine Calls.mono HT2.out ?_
      rintro e w3 ⟨rfl, hb3⟩
      obtain ⟨-, ⟨y0, y1, y2, y3⟩, hfin⟩ := HC.out w3 (HB2.out.trans (hb3.mono HB2.out.size))
      have HF := (show Hid _ from hfin)
      clear HT2 HC hb3 hfin
      go_wp2
      refine bodyPost_ret (v := .tuple #[.agg #[.slice none 0 0, .slice none 0 0], .int .i64 0, .bool false]) ?_ ?_ ?_
      · simp [results, Tryd.results33, go_sem, *]
      · rfl
      · exact ⟨_, _, rfl, .inl ⟨rfl, rfl, rfl⟩, HF.out _ _⟩
    | true =>
      rw [hgt] at HGt
      obtain ⟨h120, hgood⟩ := (graphB_good p l).1 hgb
      have hgT : goodB t = true := by unfold patB at hgt; simp only [Bool.and_eq_true] at hgt; exact hgt.1
      obtain ⟨hp, ht1, ht40⟩ := good_pile hgT
      have hlp := hgood.2.1
      simp only at hlp
      have hl1 := hl.1
      obtain rfl : lb = len := by omega
      have HV : Hid (∀ W, Below W1.heap.size W1 W → Calls Tryd.prog 64 #[.agg #[.slice a lb cap, .slice b lb cb], .slice ba bl bc] W fun e w' => e = .returned (.bool (bindB l bs)) ∧ Below W.heap.size W w') := fun W hW => implBind_any a b ba lb cap cb bl bc l bs W ((hl.keep hb1).keep hW) ((hv.keep hb1).keep hW) (by omega) hm4
      cases hbb : bindB l bs with
      | false =>
        have hno : instT p l t bs = none := by unfold instT; rw [hgb, hgt, hbb]; rfl
        rw [hno]
        rw [hbb] at HV
        clear h hl ht hv hb1 hT hs1 r0 r1 f0 f1 hgood hp hgb hgt hgT hI hIt hlp hl1
        go_enter Tryd.func33, Tryd.ntmps33
        go_wp2_with fail
        (try rw [hW1])
        refine Calls.mono HG.out ?_
        rintro e w2 ⟨rfl, hb2⟩
        have HT2 := (show Hid _ from HGt.out w2 hb2)
        have HB2 := (show Hid _ from hb2)
        clear HG hW1 HGt hb2
        go_wp2_with fail
        refine Calls.mono HT2.out ?_
        rintro e w3 ⟨rfl, hb3⟩
        have hB3 := HB2.out.trans (hb3.mono HB2.out.size)
        obtain ⟨⟨g0, g1⟩, -, -⟩ := HC.out w3 hB3
        have HV3 := (show Hid _ from HV.out w3 hB3)
        have HB3 := (show Hid _ from hB3)
        clear HT2 hb3 HB2 HV hB3
        go_wp2_with fail
        refine Calls.mono HV3.out ?_
        rintro e w4 ⟨rfl, hb4⟩
        obtain ⟨-, ⟨y0, y1, y2, y3⟩, hfin⟩ := HC.out w4 (HB3.out.trans (hb4.mono HB3.out.size))
        have HF := (show Hid _ from hfin)
        clear HV3 HC hb4 hfin HB3 g0 g1
        go_wp2
        refine bodyPost_ret (v := .tuple #[.agg #[.slice none 0 0, .slice none 0 0], .int .i64 0, .bool false]) ?_ ?_ ?_
        · simp [results, Tryd.results33, go_sem, *]
        · rfl
        · exact ⟨_, _, rfl, .inl ⟨rfl, rfl, rfl⟩, HF.out _ _⟩
      | true =>
        rw [hbb] at HV
        obtain ⟨tb, to, rfl, htb, _⟩ := ht.at (by omega)
        have hb4 := bindB_len hbb
        obtain rfl : bl = 4 := by omega
        obtain ⟨vb, vo, rfl, hvb, hvc⟩ : ∃ b off, ba = some ⟨b, off, none⟩ ∧ b < w.heap.size ∧ ∀ i, i < 4 → w.cell? ⟨b, off + i, none⟩ = some (.int .i64 (bs.getD i 0)) := by
          rcases hv.2 with h0 | h0
          · omega
          · exact h0
        have hgd := @instT_good p l bs t
        have hfw := @instT_few p l bs t
        rw [instT_run hgb hgt hbb] at hgd hfw ⊢
        have hcl : ∀ c ∈ bs, c = -1 ∨ IsCl (p, l) c := fun c hc => by
          rcases bindB_each hbb c hc with h | h
          · exact .inl h
          · exact .inr ((isCl_iff hgood c).1 h)
        have HS : Hid (∀ W, Below W1.heap.size W1 W → Calls Tryd.prog 45 #[.agg #[.slice a lb cap, .slice b lb cb]] W fun e w' => ∃ s m, e = .returned (.pointer (some ⟨s, 0, none⟩)) ∧ Shelf w' (fun b => W.heap.size ≤ b) s m (p, l) ∧ Below W.heap.size W w') := fun W hW => shelfOf_any a b lb cap cb p l W ((h.keep hb1).keep hW) ((hl.keep hb1).keep hW) hgood (by omega) hI
        have HCl : Hid (∀ (W3 W4 W : World) (s m : Nat), Below W1.heap.size W1 W3 → Below W3.heap.size W3 W4 → Shelf W4 (fun b => W3.heap.size ≤ b) s m (p, l) → Below W4.heap.size W4 W → W.heap.size = W4.heap.size + 2 → W.cell? ⟨W4.heap.size, 0, none⟩ = some (.slice (some ⟨vb, vo, none⟩) 4 bc) → W.cell? ⟨W4.heap.size + 1, 0, none⟩ = some (.func (.func 46) #[.pointer (some ⟨s, 0, none⟩)] #[]) → Calls Tryd.prog 65 #[.slice (some ⟨tb, to, none⟩) tl tc, .func (.func 95) #[] #[.pointer (some ⟨W4.heap.size, 0, none⟩), .pointer (some ⟨W4.heap.size + 1, 0, none⟩)]] W fun e w' => e = .returned (.tuple #[.int .i64 (((runO (clsBp bs) t ((p, l), [])).map (fun r => r.2.getD 0 0)).getD 0), .bool (runO (clsBp bs) t ((p, l), [])).isSome]) ∧ Below W3.heap.size W3 w' ∧ AllR (runO (clsBp bs) t ((p, l), [])) (fun g' => Shelf w' (fun b => W3.heap.size ≤ b) s m g')) := fun W3 W4 W s m h13 h34 hSh h4W hsz hc0 hc1 => by
          have h3W := h34.trans (h4W.mono h34.size)
          have hB := h13.trans (h3W.mono h13.size)
          have z1 := h13.size
          have z2 := h34.size
          have hSB : ShelfB W.heap.size s m W4.heap.size (W4.heap.size + 1) vb vo bc (.func (.func 46) #[.pointer (some ⟨s, 0, none⟩)] #[]) bs W (fun b => W3.heap.size ≤ b) (p, l) := by
            refine ⟨fun b => W3.heap.size ≤ b ∧ b < W4.heap.size, hSh.map h4W.size (fun b _ hl => h4W.block b hl) (fun b hl h => ⟨h, hl⟩), fun b hb => ?_, ⟨hc0, hc1, fun i hi => ?_, ⟨by omega, by omega, by omega⟩, Nat.le_refl _⟩, hcl⟩
            · have h1 := hb.1
              have h2 := hb.2
              exact ⟨by omega, h1, by omega, by omega, by omega⟩
            · exact ((hb1.trans (hB.mono hb1.size)).cell (p := ⟨vb, vo + i, none⟩) hvb).trans (hvc i hi)
          refine (clsW_any W4.heap.size (W4.heap.size + 1) W.heap.size dflB (clsBp bs) (clsBp_keeps bs) (fun W' S g => ShelfB W.heap.size s m W4.heap.size (W4.heap.size + 1) vb vo bc (.func (.func 46) #[.pointer (some ⟨s, 0, none⟩)] #[]) bs W' S g) (fun W W' S S' g hR hs hk hN hS => hR.map hs hk hN hS) (fun W' S g n a m' cap kids hR hg h120 hk ha hf => withPut_any W.heap.size s m W4.heap.size (W4.heap.size + 1) vb vo bc bs hb4 W' S g n a m' cap kids hR hg h120 hk ha hf) hp hIt tb to tl tc (by omega) (by omega) W (fun b => W3.heap.size ≤ b) (p, l) ((ht.keep hb1).keep hB) hSB hgood h120 (by omega) (Nat.le_refl _) (fun W' hW' => ?_)).mono ?_
          · have hb3 : Below W3.heap.size W3 W' := h3W.trans (hW'.below (fun x _ h => h) h3W.size)
            exact ((hT.keeps hb1).keeps h13).keeps hb3
          · rintro e w' ⟨h1, h2, h3⟩
            refine ⟨h1, h3W.trans (h2.below (fun x _ h => h) h3W.size), fun r hr => ?_⟩
            obtain ⟨S0, k1, k2, -⟩ := h3 r hr
            refine k1.sets (fun b _ hb => ?_)
            rcases (k2 b hb).2.1 with h | h
            · exact h
            · have := h3W.size; omega
        have HW1 : Hid (W1.heap.size = w.heap.size + 2) := hs1
        clear h hl ht hv hb1 hT hgood hp hgb hgt hgT hbb hcl hvc hI hIt hlp hl1 htb hs1 r0 r1 f0 f1 h120 hb4 hvb hvl
        cases hO : runO (clsBp bs) t ((p, l), []) with
        | none =>
          rw [hO] at HCl
          simp only [Option.map_none, Option.getD_none, Option.isSome_none] at HCl
          have HTo : Hid (∀ W v, Calls Tryd.prog 47 #[v, .int .i64 0, .bool false] W fun e w' => e = .returned (.tuple #[.agg #[.slice none 0 0, .slice none 0 0], .int .i64 0, .bool false]) ∧ Below W.heap.size W w') := fun W v => told_no v 0 W
          clear hgd hfw hO
          go_enter Tryd.func33, Tryd.ntmps33
          go_wp2_with fail
          (try rw [hW1])
          refine Calls.mono HG.out ?_
          rintro e w2 ⟨rfl, hb2⟩
          have HT2 := (show Hid _ from HGt.out w2 hb2)
          have HB2 := (show Hid _ from hb2)
          clear HG hW1 HGt hb2
          go_wp2_with fail
          refine Calls.mono HT2.out ?_
          rintro e w3 ⟨rfl, hb3⟩
          have hB3 := HB2.out.trans (hb3.mono HB2.out.size)
          obtain ⟨⟨g0, g1⟩, -, -⟩ := HC.out w3 hB3
          have HV3 := (show Hid _ from HV.out w3 hB3)
          have HB3' := (show Hid _ from hB3)
          clear HT2 hb3 HB2 HV hB3
          go_wp2_with fail
          refine Calls.mono HV3.out ?_
          rintro e w4 ⟨rfl, hb4⟩
          have hB4 := HB3'.out.trans (hb4.mono HB3'.out.size)
          clear g0 g1
          obtain ⟨⟨g0, g1⟩, -, -⟩ := HC.out w4 hB4
          have HS4 := (show Hid _ from HS.out w4 hB4)
          have HB3 := (show Hid _ from hB4)
          clear HV3 hb4 HB3' HS hB4
          go_wp2_with fail
          refine Calls.mono HS4.out ?_
          rintro e w5 ⟨s, m, rfl, hSh, hb5⟩
          have HW5 := (show Hid _ from withBind_any (some ⟨vb, vo, none⟩) 4 bc (.func 46) #[.pointer (some ⟨s, 0, none⟩)] #[] w5)
          have HC5 := (show Hid _ from HCl.out w4 w5)
          have HH5 := (show Hid _ from And.intro hSh hb5)
          clear HS4 HCl hSh hb5 g0 g1
          go_wp2_with fail
          refine Calls.mono HW5.out ?_
          rintro e w6 ⟨rfl, hb6, hz6, hx6, hy6⟩
          have HC6 := (show Hid _ from HC5.out w6 s m HB3.out HH5.out.2 HH5.out.1 hb6 hz6 hx6 hy6)
          clear HW5 HC5 HH5 hb6 hz6 hx6 hy6
          go_wp2_with fail
          refine Calls.mono HC6.out ?_
          rintro e w7 ⟨rfl, hb7, -⟩
          have HB7 := (show Hid _ from HB3.out.trans (hb7.mono HB3.out.size))
          clear HC6 hb7 HB3
          go_wp2_with fail
          refine Calls.mono (HTo.out _ _) ?_
          rintro e w8 ⟨rfl, hb8⟩
          obtain ⟨-, ⟨y0, y1, y2, y3⟩, hfin⟩ := HC.out w8 (HB7.out.trans (hb8.mono HB7.out.size))
          have HF := (show Hid _ from hfin)
          clear HTo HC hb8 hfin HB7
          go_wp2
          refine bodyPost_ret (v := .tuple #[.agg #[.slice none 0 0, .slice none 0 0], .int .i64 0, .bool false]) ?_ ?_ ?_
          · simp [results, Tryd.results33, go_sem, *]
          · rfl
          · exact ⟨_, _, rfl, .inl ⟨rfl, rfl, rfl⟩, HF.out _ _⟩
        | some r =>
          rw [hO] at HCl hgd hfw
          simp only [Option.map_some, Option.getD_some, Option.isSome_some] at HCl
          obtain ⟨d1, d3⟩ := hgd (r := (r.1, r.2.getD 0 0)) rfl
          have d2 := hfw (r := (r.1, r.2.getD 0 0)) rfl
          simp only at d1 d2 d3
          have HD : Hid (GoodG r.1 ∧ 0 < r.1.1.length ∧ r.1.1.length ≤ 120) := ⟨d1, d2, d3⟩
          have e1 : ansC (Option.map (fun r => (r.1, r.2.getD 0 0)) (some r)) = r.2.getD 0 0 := rfl
          have e2 : ansG (Option.map (fun r => (r.1, r.2.getD 0 0)) (some r)) = r.1 := rfl
          have e3 : (Option.map (fun r : GS × List Int => (r.1, r.2.getD 0 0)) (some r)).isSome = true := rfl
          rw [e1, e2, e3]
          obtain ⟨C, hCr⟩ : ∃ C, r.2.getD 0 0 = C := ⟨_, rfl⟩
          rw [hCr] at HCl ⊢
          obtain ⟨rg, rq⟩ := r
          simp only at HD ⊢
          clear hgd hfw hO d1 d2 d3 e1 e2 e3 hCr
          go_enter Tryd.func33, Tryd.ntmps33
          go_wp2_with fail
          (try rw [hW1])
          refine Calls.mono HG.out ?_
          rintro e w2 ⟨rfl, hb2⟩
          have HT2 := (show Hid _ from HGt.out w2 hb2)
          have HB2 := (show Hid _ from hb2)
          clear HG hW1 HGt hb2
          go_wp2_with fail
          refine Calls.mono HT2.out ?_
          rintro e w3 ⟨rfl, hb3⟩
          have hB3 := HB2.out.trans (hb3.mono HB2.out.size)
          obtain ⟨⟨g0, g1⟩, -, -⟩ := HC.out w3 hB3
          have HV3 := (show Hid _ from HV.out w3 hB3)
          have HB3' := (show Hid _ from hB3)
          clear HT2 hb3 HB2 HV hB3
          go_wp2_with fail
          refine Calls.mono HV3.out ?_
          rintro e w4 ⟨rfl, hb4⟩
          have hB4 := HB3'.out.trans (hb4.mono HB3'.out.size)
          clear g0 g1
          obtain ⟨⟨g0, g1⟩, -, -⟩ := HC.out w4 hB4
          have HS4 := (show Hid _ from HS.out w4 hB4)
          have HB3 := (show Hid _ from hB4)
          clear HV3 hb4 HB3' HS hB4
          go_wp2_with fail
          refine Calls.mono HS4.out ?_
          rintro e w5 ⟨s, m, rfl, hSh, hb5⟩
          have HW5 := (show Hid _ from withBind_any (some ⟨vb, vo, none⟩) 4 bc (.func 46) #[.pointer (some ⟨s, 0, none⟩)] #[] w5)
          have HC5 := (show Hid _ from HCl.out w4 w5)
          have HH5 := (show Hid _ from And.intro hSh hb5)
          clear HS4 HCl hSh hb5 g0 g1
          go_wp2_with fail
          refine Calls.mono HW5.out ?_
          rintro e w6 ⟨rfl, hb6, hz6, hx6, hy6⟩
          have HC6 := (show Hid _ from HC5.out w6 s m HB3.out HH5.out.2 HH5.out.1 hb6 hz6 hx6 hy6)
          clear HW5 HC5 HH5 hb6 hz6 hx6 hy6
          go_wp2_with fail
          refine Calls.mono HC6.out ?_
          rintro e w7 ⟨rfl, hb7, hall⟩
          have hSh7 := hall (rg, rq) rfl
          simp only at hSh7
          obtain ⟨va, vb, f, k1, k2, k3, k4, k5, k6, k7, k8, k9, k10, k11, k12, k13⟩ := hSh7
          obtain ⟨a6, ca6, b6, cb6, rfl, rfl, _, _⟩ := k8.reads
          have HTo := (show Hid _ from told_yes s C a6 b6 rg.1.length ca6 rg.2.length cb6 w7 k1 k2 k12)
          have HB7 := (show Hid _ from HB3.out.trans (hb7.mono HB3.out.size))
          have hs3 := HB3.out.size
          have HFN : Hid (∀ W, Below w7.heap.size w7 W → (W.cell? ⟨w.heap.size + 1, 0, none⟩ = some (.slice none 0 0) ∧ W.cell? ⟨w.heap.size + 1, 1, none⟩ = some (.slice none 0 0) ∧ W.frozen? ⟨w.heap.size + 1, 0, none⟩ = false ∧ W.frozen? ⟨w.heap.size + 1, 1, none⟩ = false) ∧ ∀ v0 v1, AnsI ((W.setCell ⟨w.heap.size + 1, 0, none⟩ v0).setCell ⟨w.heap.size + 1, 1, none⟩ v1) (fun x => w.heap.size ≤ x) (.slice a6 rg.1.length ca6) (.slice b6 rg.2.length cb6) rg ∧ Below w.heap.size w ((W.setCell ⟨w.heap.size + 1, 0, none⟩ v0).setCell ⟨w.heap.size + 1, 1, none⟩ v1)) := fun W hW => by
            obtain ⟨-, y, z⟩ := HC.out W (HB7.out.trans (hW.mono HB7.out.size))
            refine ⟨y, fun v0 v1 => ⟨.inr ⟨(k8.keep hW).map (by rw [setCell_size, setCell_size]; exact Nat.le_refl _) (fun b' hb' hl => ?_) (fun b' hl hb' => ?_), HD.out.2.1, HD.out.2.2, HD.out.1.2.1, good_few HD.out.1⟩, z v0 v1⟩⟩
            · have hne : w.heap.size + 1 ≠ b' := by have := hb'.1; have := HW1.out; omega
              rw [setCell_block _ _ _ hne, setCell_block _ _ _ hne]
            · have := hb'.1; have := HW1.out; omega
          clear HC6 hb7 HB3 hall k1 k2 k3 k4 k5 k6 k7 k8 k9 k10 k11 k12 k13 HC HB7 hs3
          go_wp2_with fail
          refine Calls.mono HTo.out ?_
          rintro e w8 ⟨rfl, hb8⟩
          obtain ⟨⟨y0, y1, y2, y3⟩, hfin⟩ := HFN.out w8 hb8
          have HF := (show Hid _ from hfin)
          clear HTo hb8 hfin HFN
          go_wp2
          refine bodyPost_ret (v := .tuple #[.agg #[.slice a6 rg.1.length ca6, .slice b6 rg.2.length cb6], .int .i64 C, .bool true]) ?_ ?_ ?_
          · simp [results, Tryd.results33, go_sem, *]
          · rfl
          · exact ⟨_, _, rfl, (HF.out _ _).1, (HF.out _ _).2⟩
end Go.Proofs.YthgcicidenmnfaaDoor
namespace Go.Proofs.YthgcicidenmnfaaDoor
open Go.ChangeShapes Go.WideShapes Go.ChangeAt Go.RowKit
set_option linter.unusedVariables false

theorem mem_insL (l : List Int) (n v : Int) : v ∈ insL l n ↔ v ∈ l ∨ v = n := by
  unfold insL
  split
  · next h =>
    constructor
    · exact fun h => .inl h
    · rintro (h1 | rfl)
      · exact h1
      · obtain ⟨q, e2⟩ := h
        have e : l[place l v]'q = v := by
          rw [List.getD_eq_getElem?_getD, List.getElem?_eq_getElem q] at e2
          exact e2
        exact (congrArg (· ∈ l) e).mp (List.getElem_mem q)
  · rw [List.mem_append, List.mem_append, List.mem_singleton]
    constructor
    · rintro ((h | h) | h)
      · exact .inl (List.mem_of_mem_take h)
      · exact .inr h
      · exact .inl (List.mem_of_mem_drop h)
    · rintro (h | h)
      · rw [← List.take_append_drop (place l n) l, List.mem_append] at h
        rcases h with h | h
        · exact .inl (.inl h)
        · exact .inr h
      · exact .inl (.inr h)
theorem varsF_len : ∀ (t : List (Int × Int)) (o : List Int), (varsF t o).length ≤ o.length + t.length
  | [], o => Nat.le_refl _
  | x :: t, o => by
    unfold varsF
    split
    · have := varsF_len t (insL o x.2)
      have := insL_len o x.2
      rw [List.length_cons]
      omega
    · have := varsF_len t o
      rw [List.length_cons]
      omega
theorem mem_varsF : ∀ (t : List (Int × Int)) (o : List Int) (v : Int), v ∈ varsF t o ↔ v ∈ o ∨ ∃ n ∈ t, n.1 = 2 ∧ n.2 = v
  | [], o, v => by simp [varsF]
  | x :: t, o, v => by
    unfold varsF
    by_cases h2 : x.1 = 2
    · rw [if_pos h2, mem_varsF t _ v, mem_insL]
      constructor
      · rintro ((h | h) | ⟨n, hn, h⟩)
        · exact .inl h
        · exact .inr ⟨x, List.mem_cons_self, h2, h.symm⟩
        · exact .inr ⟨n, List.mem_cons_of_mem _ hn, h⟩
      · rintro (h | ⟨n, hn, h, e⟩)
        · exact .inl (.inl h)
        · rcases List.mem_cons.1 hn with rfl | hn
          · exact .inl (.inr e.symm)
          · exact .inr ⟨n, hn, h, e⟩
    · rw [if_neg h2, mem_varsF t _ v]
      constructor
      · rintro (h | ⟨n, hn, h⟩)
        · exact .inl h
        · exact .inr ⟨n, List.mem_cons_of_mem _ hn, h⟩
      · rintro (h | ⟨n, hn, h, e⟩)
        · exact .inl h
        · rcases List.mem_cons.1 hn with rfl | hn
          · exact absurd h h2
          · exact .inr ⟨n, hn, h, e⟩
set_option maxHeartbeats 3200000 in
set_option maxRecDepth 20000 in
theorem specInstOf_any (a b : Option Addr) (len cap lb cb : Nat) (p : List EN) (l : List Int) (ta : Option Addr) (tl tc : Nat) (t : List (Int × Int)) (w : World) (h : ESl w a len p) (hl : Sl w b lb l) (ht : NSl w ta tl t) (ba : Option Addr) (bl bc : Nat) (bs : List Int) (hv : Sl w ba bl bs) (hm : len ≤ 9223372036854775807) (hm2 : lb ≤ 9223372036854775807) (hm3 : tl ≤ 9223372036854775807) (hm4 : bl ≤ 9223372036854775807) :
    Calls Tryd.prog 31 #[.agg #[.slice a len cap, .slice b lb cb], .slice ta tl tc, .slice ba bl bc] w fun e w' => ∃ va vb, e = .returned (.tuple #[.agg #[va, vb], .int .i64 (ansC (instT p l t bs)), .bool (instT p l t bs).isSome]) ∧ GOwn w' false (fun x => w.heap.size ≤ x) va vb (ansG (instT p l t bs)) ∧ Below w.heap.size w w' := by
  have hll := h.1
  have hl1 := hl.1
  have htl := ht.1
  obtain ⟨W1, hW1⟩ : ∃ W1, (w.alloc (.cells #[.slice a len cap, .slice b lb cb] 32)).alloc (.cells #[.slice none 0 0, .slice none 0 0] 32) = W1 := ⟨_, rfl⟩
  have hb1 : Below w.heap.size w W1 := by rw [← hW1]; exact ((Below.refl _ _).alloc (Nat.le_refl _) _).alloc (by simp) _
  have hs1 : W1.heap.size = w.heap.size + 2 := by rw [← hW1]; simp
  have n0 : W1.cell? ⟨w.heap.size, 0, none⟩ = some (.slice a len cap) := by rw [← hW1]; simp [go_sem]
  have n1 : W1.cell? ⟨w.heap.size, 1, none⟩ = some (.slice b lb cb) := by rw [← hW1]; simp [go_sem]
  have r0 : W1.cell? ⟨w.heap.size + 1, 0, none⟩ = some (.slice none 0 0) := by rw [← hW1]; simp [go_sem]
  have r1 : W1.cell? ⟨w.heap.size + 1, 1, none⟩ = some (.slice none 0 0) := by rw [← hW1]; simp [go_sem]
  have f0 : W1.frozen? ⟨w.heap.size + 1, 0, none⟩ = false := by rw [← hW1]; simp [go_sem]
  have f1 : W1.frozen? ⟨w.heap.size + 1, 1, none⟩ = false := by rw [← hW1]; simp [go_sem]
  have HG := (show Hid _ from specGraph_any a b len cap lb cb p l W1 (h.keep hb1) (hl.keep hb1) hm hm2)
  have HT : Hid (∀ W, Below W1.heap.size W1 W → Calls Tryd.prog 58 #[.slice ta tl tc] W fun e w' => e = .returned (.bool (patB t)) ∧ Below W.heap.size W w') := fun W hW => specPat_any ta tl tc t W ((ht.keep hb1).keep hW) hm3
  have HBi : Hid (lb = len → len ≤ 120 → ∀ W, Below W1.heap.size W1 W → Calls Tryd.prog 59 #[.agg #[.slice a len cap, .slice b lb cb], .slice ba bl bc] W fun e w' => e = .returned (.bool (bindB l bs)) ∧ Below W.heap.size W w') := fun e h120 W hW => by
    subst e
    exact specBind_any a b ba lb cap cb bl bc l bs W ((hl.keep hb1).keep hW) ((hv.keep hb1).keep hW) (by omega) hm4
  have HC : Hid (∀ W, Below W1.heap.size W1 W → (W.cell? ⟨w.heap.size, 0, none⟩ = some (.slice a len cap) ∧ W.cell? ⟨w.heap.size, 1, none⟩ = some (.slice b lb cb)) ∧ (W.cell? ⟨w.heap.size + 1, 0, none⟩ = some (.slice none 0 0) ∧ W.cell? ⟨w.heap.size + 1, 1, none⟩ = some (.slice none 0 0) ∧ W.frozen? ⟨w.heap.size + 1, 0, none⟩ = false ∧ W.frozen? ⟨w.heap.size + 1, 1, none⟩ = false) ∧ ∀ v0 v1, Below w.heap.size w ((W.setCell ⟨w.heap.size + 1, 0, none⟩ v0).setCell ⟨w.heap.size + 1, 1, none⟩ v1)) := fun W hW => by
    have hX := hb1.trans (hW.mono hb1.size)
    exact ⟨⟨(hW.cell (p := ⟨w.heap.size, 0, none⟩) (by show w.heap.size < _; omega)).trans n0, (hW.cell (p := ⟨w.heap.size, 1, none⟩) (by show w.heap.size < _; omega)).trans n1⟩, ⟨(hW.cell (p := ⟨w.heap.size + 1, 0, none⟩) (by show w.heap.size + 1 < _; omega)).trans r0, (hW.cell (p := ⟨w.heap.size + 1, 1, none⟩) (by show w.heap.size + 1 < _; omega)).trans r1, (hW.frozen (p := ⟨w.heap.size + 1, 0, none⟩) (by show w.heap.size + 1 < _; omega)).trans f0, (hW.frozen (p := ⟨w.heap.size + 1, 1, none⟩) (by show w.heap.size + 1 < _; omega)).trans f1⟩, fun v0 v1 => (hX.setCell (by show w.heap.size ≤ w.heap.size + 1; omega) _).setCell (by show w.heap.size ≤ w.heap.size + 1; omega) _⟩
  unfold instT
  cases hgb : graphB p l with
  | false =>
    rw [hgb] at HG
    rw [Bool.false_and, Bool.false_and, Bool.false_and, if_neg (by decide)]
    clear h hl ht hb1 hs1 r0 r1 f0 f1 HT hv HBi
    go_enter Tryd.func31, Tryd.ntmps31
    go_wp2_with fail
    (try rw [hW1])
    refine Calls.mono HG.out ?_
    rintro e w2 ⟨rfl, hb2⟩
    obtain ⟨-, ⟨y0, y1, y2, y3⟩, hfin⟩ := HC.out w2 hb2
    have HF := (show Hid _ from hfin)
    clear HG hW1 HC hb2 hfin
    go_wp2
    refine bodyPost_ret (v := .tuple #[.agg #[.slice none 0 0, .slice none 0 0], .int .i64 0, .bool false]) ?_ ?_ ?_
    · simp [results, Tryd.results31, go_sem, *]
    · rfl
    · exact ⟨_, _, rfl, gown_nil _ _ _, HF.out _ _⟩
  | true =>
    rw [hgb] at HG
    rw [Bool.true_and]
    cases hpt : patB t with
    | false =>
      rw [hpt] at HT
      rw [Bool.false_and, Bool.false_and, if_neg (by decide)]
      clear h hl ht hb1 hs1 r0 r1 f0 f1 hv HBi
      go_enter Tryd.func31, Tryd.ntmps31
      go_wp2_with fail
      (try rw [hW1])
      refine Calls.mono HG.out ?_
      rintro e w2 ⟨rfl, hb2⟩
      have HT2 := (show Hid _ from HT.out w2 hb2)
      have HB2 := (show Hid _ from hb2)
      clear HG hW1 HT hb2
      go_wp2_with fail
      refine Calls.mono HT2.out ?_
      rintro e w3 ⟨rfl, hb3⟩
      obtain ⟨-, ⟨y0, y1, y2, y3⟩, hfin⟩ := HC.out w3 (HB2.out.trans (hb3.mono HB2.out.size))
      have HF := (show Hid _ from hfin)
      clear HT2 HC hb3 hfin
      go_wp2
      refine bodyPost_ret (v := .tuple #[.agg #[.slice none 0 0, .slice none 0 0], .int .i64 0, .bool false]) ?_ ?_ ?_
      · simp [results, Tryd.results31, go_sem, *]
      · rfl
      · exact ⟨_, _, rfl, gown_nil _ _ _, HF.out _ _⟩
    | true =>
      rw [hpt] at HT
      rw [Bool.true_and]
      obtain ⟨h120, hgood⟩ := (graphB_good p l).1 hgb
      have hgt : goodB t = true := by unfold patB at hpt; simp only [Bool.and_eq_true] at hpt; exact hpt.1
      obtain ⟨hp, ht1, ht40⟩ := good_pile hgt
      have hlp := hgood.2.1
      simp only at hlp
      have HBi := (show Hid _ from HBi.out (by omega) (by omega))
      cases hbd : bindB l bs with
      | false =>
        rw [hbd] at HBi
        rw [Bool.false_and, if_neg (by decide)]
        clear h hl ht hb1 hs1 r0 r1 f0 f1 hv hgood hp
        go_enter Tryd.func31, Tryd.ntmps31
        go_wp2_with fail
        (try rw [hW1])
        refine Calls.mono HG.out ?_
        rintro e w2 ⟨rfl, hb2⟩
        have HT2 := (show Hid _ from HT.out w2 hb2)
        have HB2 := (show Hid _ from hb2)
        clear HG hW1 HT hb2
        go_wp2_with fail
        refine Calls.mono HT2.out ?_
        rintro e w3 ⟨rfl, hb3⟩
        have hB3 := HB2.out.trans (hb3.mono HB2.out.size)
        obtain ⟨⟨g0, g1⟩, -, -⟩ := HC.out w3 hB3
        have HBi3 := (show Hid _ from HBi.out w3 hB3)
        have HB3 := (show Hid _ from hB3)
        clear HT2 hb3 HB2 hB3 HBi
        go_wp2_with fail
        refine Calls.mono HBi3.out ?_
        rintro e w4 ⟨rfl, hb4⟩
        obtain ⟨-, ⟨y0, y1, y2, y3⟩, hfin⟩ := HC.out w4 (HB3.out.trans (hb4.mono HB3.out.size))
        have HF := (show Hid _ from hfin)
        clear HBi3 HC hb4 hfin g0 g1
        go_wp2
        refine bodyPost_ret (v := .tuple #[.agg #[.slice none 0 0, .slice none 0 0], .int .i64 0, .bool false]) ?_ ?_ ?_
        · simp [results, Tryd.results31, go_sem, *]
        · rfl
        · exact ⟨_, _, rfl, gown_nil _ _ _, HF.out _ _⟩
      | true =>
        rw [hbd] at HBi
        rw [Bool.true_and]
        have hb4 := bindB_len hbd
        obtain ⟨bb, bo, rfl, hbbl, _⟩ : ∃ bb bo, ba = some ⟨bb, bo, none⟩ ∧ bb < w.heap.size ∧ ∀ i, i < bl → w.cell? ⟨bb, bo + i, none⟩ = some (.int .i64 (bs.getD i 0)) := by
          rcases hv.2 with h0 | h0
          · have := hv.1; omega
          · exact h0
        obtain rfl : bl = 4 := by have := hv.1; omega
        have HV : Hid (∀ W, Below W1.heap.size W1 W → Sl W (some ⟨bb, bo, none⟩) 4 bs) := fun W hW => (hv.keep hb1).keep hW
        have HVa : Hid (∀ W, Below W1.heap.size W1 W → Calls Tryd.prog 60 #[.slice ta tl tc] W fun e w' => ∃ v : Value, e = .returned v ∧ w'.ownsRow W.heap.size 3 1 v (varsF t []).length (vals (varsF t [])) ∧ Below W.heap.size W w') := fun W hW => vars_any ta tl tc t W ((ht.keep hb1).keep hW) (by omega)
        have HMem : Hid ((∀ v ∈ varsF t [], 0 ≤ v ∧ v < 4) ∧ (boundB t bs = true ↔ ∀ v ∈ varsF t [], 0 ≤ bs.getD v.toNat 0)) := ⟨fun v hv => by
          obtain ⟨n, hn, h2, rfl⟩ := (mem_varsF t [] v).1 hv |>.resolve_left (by simp)
          exact good_var hgt n hn h2, by
          rw [boundB_iff]
          constructor
          · intro h v hv
            obtain ⟨n, hn, h2, rfl⟩ := (mem_varsF t [] v).1 hv |>.resolve_left (by simp)
            exact h n hn h2
          · intro h n hn h2
            exact h n.2 ((mem_varsF t [] n.2).2 (.inr ⟨n, hn, h2, rfl⟩))⟩
        cases hbb : boundB t bs with
        | false =>
          rw [hbb] at HMem
          rw [if_neg (by decide)]
          clear h hl ht hb1 hs1 r0 r1 f0 f1 hv hgood hp htl hll hl1 hgb hpt hgt hbd hbb
          go_enter Tryd.func31, Tryd.ntmps31
          go_wp2_with fail
          (try rw [hW1])
          refine Calls.mono HG.out ?_
          rintro e w2 ⟨rfl, hb2⟩
          have HT2 := (show Hid _ from HT.out w2 hb2)
          have HB2 := (show Hid _ from hb2)
          clear HG hW1 HT hb2
          go_wp2_with fail
          refine Calls.mono HT2.out ?_
          rintro e w3a ⟨rfl, hb3⟩
          have hB3 := HB2.out.trans (hb3.mono HB2.out.size)
          obtain ⟨⟨g0, g1⟩, -, -⟩ := HC.out w3a hB3
          have HBi3 := (show Hid _ from HBi.out w3a hB3)
          have HB3a := (show Hid _ from hB3)
          clear HT2 hb3 HB2 hB3 HBi
          go_wp2_with fail
          refine Calls.mono HBi3.out ?_
          rintro e w3b ⟨rfl, hb4⟩
          have hB4 := HB3a.out.trans (hb4.mono HB3a.out.size)
          have HVa3 := (show Hid _ from HVa.out w3b hB4)
          have HB3b := (show Hid _ from hB4)
          clear HBi3 hb4 hB4 HB3a HVa g0 g1
          go_wp2_with fail
          refine Calls.mono HVa3.out ?_
          rintro e w3 ⟨vv, rfl, hown, hb5⟩
          obtain ⟨av, cv, rfl, _⟩ := row_slice hown
          have hB5 := HB3b.out.trans (hb5.mono HB3b.out.size)
          have hvr := HV.out w3 hB5
          have HRow : Hid (∀ k, k < (varsF t []).length → ∃ gv ov : Nat, av = some ⟨gv, ov, none⟩ ∧ w3.cell? ⟨gv, ov + k, none⟩ = some (.int .i64 ((varsF t []).getD k 0))) := fun k hk => by
            rcases hown.2 with ⟨_, h0⟩ | ⟨gv, cp, cur, e, _⟩
            · omega
            · injection e with e1 e2 e3
              subst e1
              refine ⟨gv, 0, rfl, ?_⟩
              rw [Nat.zero_add, hown.cellAt k (by omega)]
              simp [vals, List.getD_eq_getElem?_getD, hk]
          have HB3 := (show Hid _ from hB5)
          obtain ⟨bb', bo', e', hbl', hbc⟩ : ∃ bb' bo', (some ⟨bb, bo, none⟩ : Option Addr) = some ⟨bb', bo', none⟩ ∧ bb' < w3.heap.size ∧ ∀ i, i < 4 → w3.cell? ⟨bb', bo' + i, none⟩ = some (.int .i64 (bs.getD i 0)) := by
            rcases hvr.2 with h0 | h0
            · omega
            · exact h0
          cases e'
          obtain ⟨V, hVe⟩ : ∃ V, varsF t [] = V := ⟨_, rfl⟩
          have hVl : V.length ≤ 40 := by rw [← hVe]; have := varsF_len t []; simp at this; omega
          rw [hVe] at HRow HMem
          rw [hVe]
          clear HVa3 hown hb5 HB3b hB5 hvr HV hVe
          go_wp2_with fail
          go_loopw [31] (fun i wr => w3 = wr ∧ ∃ (k : Nat), k ≤ V.length ∧ i = .int .i64 k ∧ Hid (∀ j, j < k → 0 ≤ bs.getD (V.getD j 0).toNat 0)) (fun i _ => V.length - (intOf i).toNat)
          case atStart => exact ⟨by first | trivial | rfl, 0, Nat.zero_le _, rfl, fun j hj => absurd hj (Nat.not_lt_zero _)⟩
          case round =>
            obtain ⟨rfl, k, hk, rfl, hall⟩ := hrel
            by_cases hlt : k < V.length
            · obtain ⟨gv, ov, rfl, c0⟩ := HRow.out k hlt
              have hmv := HMem.out.1 (V.getD k 0) (by rw [List.getD_eq_getElem?_getD, List.getElem?_eq_getElem hlt]; exact List.getElem_mem _)
              obtain ⟨m, hm⟩ : ∃ m : Nat, V.getD k 0 = m := ⟨(V.getD k 0).toNat, by omega⟩
              have hkl : (k : Int) < V.length := by omega
              have hm4 : m < 4 := by omega
              have i0 : (0 : Int) ≤ m := by omega
              have i4 : (m : Int) < 4 := by omega
              have c1 := hbc m hm4
              rw [hm] at c0
              obtain ⟨x, hx⟩ : ∃ x, bs.getD m 0 = x := ⟨_, rfl⟩
              rw [hx] at c1
              have HX : Hid (bs.getD (V.getD k 0).toNat 0 = x) := by show _ = _; rw [hm, Int.toNat_natCast, hx]
              have HMm : Hid (V.getD k 0 ∈ V) := by show _ ∈ _; rw [List.getD_eq_getElem?_getD, List.getElem?_eq_getElem hlt]; exact List.getElem_mem _
              clear hm hx hmv hbc
              by_cases hneg : x < 0
              · obtain ⟨-, ⟨y0, y1, y2, y3⟩, hfin⟩ := HC.out _ HB3.out
                have HF := (show Hid _ from hfin)
                clear hall HX HMm HC hfin HRow HMem
                go_wp2
                refine bodyPost_ret (v := .tuple #[.agg #[.slice none 0 0, .slice none 0 0], .int .i64 0, .bool false]) ?_ ?_ ?_
                · simp [results, Tryd.results31, go_sem, *]
                · rfl
                · exact ⟨_, _, rfl, gown_nil _ _ _, HF.out _ _⟩
              · have HA2 : Hid (∀ j, j < k + 1 → 0 ≤ bs.getD (V.getD j 0).toNat 0) := fun j hj => by
                  by_cases e : j = k
                  · rw [e, HX.out]; omega
                  · exact hall.out j (by omega)
                clear hall HX HMm
                go_wp2
                go_roundw
                case rel => exact ⟨by first | trivial | rfl, k + 1, by omega, by go_num, HA2⟩
                case measure => simp [intOf]; omega
            · exfalso
              have : false = true := HMem.out.2.2 fun v hv => by
                obtain ⟨j, hj, rfl⟩ := List.getElem_of_mem hv
                have := hall.out j (by omega)
                have e : V.getD j 0 = V[j] := by rw [List.getD_eq_getElem?_getD, List.getElem?_eq_getElem hj]; rfl
                rw [e] at this
                exact this
              cases this
        | true =>
          rw [hbb] at HMem
          rw [if_pos rfl]
          have hBok := bind_cl hgood hbd hgt hbb
          obtain ⟨tb, to, rfl, htb, _⟩ := ht.at (by omega)
          have hroot := treeA_root hgt (some bs) (p, l)
          have hst := start_root hp ht1
          have hr := runA_good (b := some bs) t (p, l) [] 1 hp hgood (fun c hc => by cases hc) hBok
          have hrl := runA_len (some bs) t ((p, l), [])
          obtain ⟨R, hR⟩ : ∃ R, runA (some bs) t ((p, l), []) = R := ⟨_, rfl⟩
          rw [hR] at hroot hr hrl ⊢
          have hgr := graphB_of hr.1
          simp only at hrl
          have HO : Hid (∀ W, Below W1.heap.size W1 W → Calls Tryd.prog 41 #[.agg #[.slice a len cap, .slice b lb cb]] W fun e w' => ∃ va vb, e = .returned (.agg #[va, vb]) ∧ GOwn w' false (fun x => W.heap.size ≤ x) va vb (p, l) ∧ Below W.heap.size W w') := fun W hW => l6Own_any a b len cap lb cb p l W ((h.keep hb1).keep hW) ((hl.keep hb1).keep hW) (by omega) (by omega) (fun i hi => good_few hgood i (by simp only; omega))
          have HA : Hid (∀ (W3 W : World) (va vb : Value), Below W1.heap.size W1 W3 → Below W3.heap.size W3 W → GOwn W false (fun x => W3.heap.size ≤ x) va vb (p, l) → Calls Tryd.prog 61 #[.agg #[va, vb], .slice (some ⟨tb, to, none⟩) tl tc, .int .i64 ((tl - 1 : Nat) : Int), .slice (some ⟨bb, bo, none⟩) 4 bc] W (AddR W (fun x => W3.heap.size ≤ x) R)) := fun W3 W va vb h13 h3W hG => by
            have hB := h13.trans (h3W.mono h13.size)
            have := l6Add_any hp (some bs) tb to tl tc (some ⟨bb, bo, none⟩) 4 bc (by omega) (tl - 1) (by omega) W (fun x => W3.heap.size ≤ x) va vb (p, l) ((ht.keep hb1).keep hB) hG hgood hBok (.inr ⟨bs, rfl, rfl, (hv.keep hb1).keep hB⟩) (by rw [← htl, hst]; simp only; omega) (by have := h13.size; omega) (fun x hx h => by cases hx; have h : W3.heap.size ≤ bb := h; have := h13.size; omega) (fun x hx => by cases hx; show bb < _; have := hB.size; omega)
            rw [← htl, hroot] at this
            rw [← htl]
            exact this
          have HG2 : Hid (∀ (W : World) (a6 b6 : Option Addr) (ca6 cb6 : Nat), ESl W a6 R.1.1.length R.1.1 → Sl W b6 R.1.2.length R.1.2 → Calls Tryd.prog 37 #[.agg #[.slice a6 R.1.1.length ca6, .slice b6 R.1.2.length cb6]] W fun e w' => e = .returned (.bool (decide (R.1.1.length ≤ 120))) ∧ Below W.heap.size W w') := fun W a6 b6 ca6 cb6 e1 e2 => by
            have := specGraph_any a6 b6 R.1.1.length ca6 R.1.2.length cb6 R.1.1 R.1.2 W e1 e2 (by omega) (by have := hr.1.2.1; omega)
            rw [hgr] at this
            exact this
          have hk1 : (tl : Int) - 1 = ((tl - 1 : Nat) : Int) := by omega
          have HZ : Hid (w.heap.size + 2 = W1.heap.size) := hs1.symm
          obtain ⟨K, hK⟩ : ∃ K, tl - 1 = K := ⟨_, rfl⟩
          rw [hK] at HA hk1
          clear h hl ht hb1 hs1 r0 r1 f0 f1 hv hroot hBok hst hr hgr hR hgood hp hlp hgb hgt hK hrl htb
          unfold roomA
          by_cases h00 : R.1.1.length ≤ 120
          · rw [if_pos h00]
            rw [decide_eq_true h00] at HG2
            go_enter Tryd.func31, Tryd.ntmps31
            go_wp2_with fail
            (try rw [hW1])
            refine Calls.mono HG.out ?_
            rintro e w2 ⟨rfl, hb2⟩
            have HT2 := (show Hid _ from HT.out w2 hb2)
            have HB2 := (show Hid _ from hb2)
            clear HG hW1 HT hb2
            go_wp2_with fail
            refine Calls.mono HT2.out ?_
            rintro e w3a ⟨rfl, hb3⟩
            have hB3 := HB2.out.trans (hb3.mono HB2.out.size)
            obtain ⟨⟨g0, g1⟩, -, -⟩ := HC.out w3a hB3
            have HBi3 := (show Hid _ from HBi.out w3a hB3)
            have HB3a := (show Hid _ from hB3)
            clear HT2 hb3 HB2 hB3 HBi
            go_wp2_with fail
            refine Calls.mono HBi3.out ?_
            rintro e w3b ⟨rfl, hb4⟩
            have hB4 := HB3a.out.trans (hb4.mono HB3a.out.size)
            have HVa3 := (show Hid _ from HVa.out w3b hB4)
            have HB3b := (show Hid _ from hB4)
            clear HBi3 hb4 hB4 HB3a HVa g0 g1
            go_wp2_with fail
            refine Calls.mono HVa3.out ?_
            rintro e w3 ⟨vv, rfl, hown, hb5⟩
            obtain ⟨av, cv, rfl, _⟩ := row_slice hown
            have hB5 := HB3b.out.trans (hb5.mono HB3b.out.size)
            have hvr := HV.out w3 hB5
            have HRow : Hid (∀ k, k < (varsF t []).length → ∃ gv ov : Nat, av = some ⟨gv, ov, none⟩ ∧ w3.cell? ⟨gv, ov + k, none⟩ = some (.int .i64 ((varsF t []).getD k 0))) := fun k hk => by
              rcases hown.2 with ⟨_, h0⟩ | ⟨gv, cp, cur, e, _⟩
              · omega
              · injection e with e1 e2 e3
                subst e1
                refine ⟨gv, 0, rfl, ?_⟩
                rw [Nat.zero_add, hown.cellAt k (by omega)]
                simp [vals, List.getD_eq_getElem?_getD, hk]
            have HB3 := (show Hid _ from hB5)
            obtain ⟨bb', bo', e', hbl', hbc⟩ : ∃ bb' bo', (some ⟨bb, bo, none⟩ : Option Addr) = some ⟨bb', bo', none⟩ ∧ bb' < w3.heap.size ∧ ∀ i, i < 4 → w3.cell? ⟨bb', bo' + i, none⟩ = some (.int .i64 (bs.getD i 0)) := by
              rcases hvr.2 with h0 | h0
              · omega
              · exact h0
            cases e'
            obtain ⟨V, hVe⟩ : ∃ V, varsF t [] = V := ⟨_, rfl⟩
            have hVl : V.length ≤ 40 := by rw [← hVe]; have := varsF_len t []; simp at this; omega
            rw [hVe] at HRow HMem
            rw [hVe]
            clear HVa3 hown hb5 HB3b hB5 hvr HV hVe
            go_wp2_with fail
            go_loopw [31] (fun i wr => w3 = wr ∧ ∃ (k : Nat), k ≤ V.length ∧ i = .int .i64 k ∧ Hid (∀ j, j < k → 0 ≤ bs.getD (V.getD j 0).toNat 0)) (fun i _ => V.length - (intOf i).toNat)
            case atStart => exact ⟨by first | trivial | rfl, 0, Nat.zero_le _, rfl, fun j hj => absurd hj (Nat.not_lt_zero _)⟩
            case round =>
              obtain ⟨rfl, k, hk, rfl, hall⟩ := hrel
              by_cases hlt : k < V.length
              · obtain ⟨gv, ov, rfl, c0⟩ := HRow.out k hlt
                have hmv := HMem.out.1 (V.getD k 0) (by rw [List.getD_eq_getElem?_getD, List.getElem?_eq_getElem hlt]; exact List.getElem_mem _)
                obtain ⟨m, hm⟩ : ∃ m : Nat, V.getD k 0 = m := ⟨(V.getD k 0).toNat, by omega⟩
                have hkl : (k : Int) < V.length := by omega
                have hm4 : m < 4 := by omega
                have i0 : (0 : Int) ≤ m := by omega
                have i4 : (m : Int) < 4 := by omega
                have c1 := hbc m hm4
                rw [hm] at c0
                obtain ⟨x, hx⟩ : ∃ x, bs.getD m 0 = x := ⟨_, rfl⟩
                rw [hx] at c1
                have HX : Hid (bs.getD (V.getD k 0).toNat 0 = x) := by show _ = _; rw [hm, Int.toNat_natCast, hx]
                have HMm : Hid (V.getD k 0 ∈ V) := by show _ ∈ _; rw [List.getD_eq_getElem?_getD, List.getElem?_eq_getElem hlt]; exact List.getElem_mem _
                clear hm hx hmv hbc
                by_cases hneg : x < 0
                · exfalso
                  have := HMem.out.2.1 (by first | trivial | rfl) (V.getD k 0) HMm.out
                  rw [HX.out] at this
                  omega
                · have HA2 : Hid (∀ j, j < k + 1 → 0 ≤ bs.getD (V.getD j 0).toNat 0) := fun j hj => by
                    by_cases e : j = k
                    · rw [e, HX.out]; omega
                    · exact hall.out j (by omega)
                  clear hall HX HMm
                  go_wp2
                  go_roundw
                  case rel => exact ⟨by first | trivial | rfl, k + 1, by omega, by go_num, HA2⟩
                  case measure => simp [intOf]; omega
              · obtain rfl : k = V.length := by omega
                obtain ⟨⟨g0, g1⟩, -, -⟩ := HC.out _ HB3.out
                have HO3 := (show Hid _ from HO.out _ HB3.out)
                clear HO hall HRow HMem hbc hlt hk
                go_wp2_with fail
                refine Calls.mono HO3.out ?_
                rintro e w4 ⟨va, vb, rfl, hG4, hb4⟩
                have HA4 := (show Hid _ from HA.out w3 w4 va vb HB3.out hb4 hG4)
                have HB4 := (show Hid _ from hb4)
                clear HO3 HA hG4 hb4 g0 g1
                go_wp2_with fail
                refine Calls.mono HA4.out ?_
                rintro e w5 ⟨va5, vb5, c5, rfl, hc5, hG5, hk5⟩
                obtain ⟨a6, ca6, b6, cb6, rfl, rfl, hE6, hL6⟩ := hG5.reads
                have hs34 := HB4.out.size
                have hb35 : Below w3.heap.size w3 w5 := HB4.out.trans (hk5.below (fun x _ h => h) hs34)
                have hb36 : Below w3.heap.size w3 (w5.alloc (.cells #[.slice a6 R.1.1.length ca6, .slice b6 R.1.2.length cb6] 32)) := hb35.alloc hb35.size _
                have hbal : Below w5.heap.size w5 (w5.alloc (.cells #[.slice a6 R.1.1.length ca6, .slice b6 R.1.2.length cb6] 32)) := (Below.refl _ _).alloc (Nat.le_refl _) _
                obtain ⟨w6, hw6⟩ : ∃ w6, w5.alloc (.cells #[.slice a6 R.1.1.length ca6, .slice b6 R.1.2.length cb6] 32) = w6 := ⟨_, rfl⟩
                have x0 : w6.cell? ⟨w5.heap.size, 0, none⟩ = some (.slice a6 R.1.1.length ca6) := by rw [← hw6]; simp [go_sem]
                have x1 : w6.cell? ⟨w5.heap.size, 1, none⟩ = some (.slice b6 R.1.2.length cb6) := by rw [← hw6]; simp [go_sem]
                have hs6 : w5.heap.size < w6.heap.size := by rw [← hw6]; simp
                rw [hw6] at hb36 hbal
                have HG6 := (show Hid _ from HG2.out w6 a6 b6 ca6 cb6 (hE6.keep hbal) (hL6.keep hbal))
                have HFN : Hid (∀ W, Below w6.heap.size w6 W → (W.cell? ⟨w.heap.size + 1, 0, none⟩ = some (.slice none 0 0) ∧ W.cell? ⟨w.heap.size + 1, 1, none⟩ = some (.slice none 0 0) ∧ W.frozen? ⟨w.heap.size + 1, 0, none⟩ = false ∧ W.frozen? ⟨w.heap.size + 1, 1, none⟩ = false) ∧ W.cell? ⟨w5.heap.size, 0, none⟩ = some (.slice a6 R.1.1.length ca6) ∧ W.cell? ⟨w5.heap.size, 1, none⟩ = some (.slice b6 R.1.2.length cb6) ∧ ∀ v0 v1, GOwn ((W.setCell ⟨w.heap.size + 1, 0, none⟩ v0).setCell ⟨w.heap.size + 1, 1, none⟩ v1) false (fun x => w.heap.size ≤ x) (.slice a6 R.1.1.length ca6) (.slice b6 R.1.2.length cb6) R.1 ∧ Below w.heap.size w ((W.setCell ⟨w.heap.size + 1, 0, none⟩ v0).setCell ⟨w.heap.size + 1, 1, none⟩ v1)) := fun W hW => by
                  have hX : Below w3.heap.size w3 W := hb36.trans (hW.mono hb36.size)
                  obtain ⟨-, y, z⟩ := HC.out W (HB3.out.trans (hX.mono HB3.out.size))
                  have hs3 := HB3.out.size
                  have hz := HZ.out
                  refine ⟨y, (hW.cell (p := ⟨w5.heap.size, 0, none⟩) hs6).trans x0, (hW.cell (p := ⟨w5.heap.size, 1, none⟩) hs6).trans x1, fun v0 v1 => ⟨?_, z v0 v1⟩⟩
                  refine ((hG5.keep hbal).keep hW).map (by rw [setCell_size, setCell_size]; exact Nat.le_refl _) (fun b' hb' hl => ?_) (fun b' hl hb' => ?_)
                  · have hne : w.heap.size + 1 ≠ b' := by
                      rcases hb' with h | h
                      · omega
                      · omega
                    rw [setCell_block _ _ _ hne, setCell_block _ _ _ hne]
                  · rcases hb' with h | h
                    · omega
                    · omega
                have HC5 : Hid (R.2.getD 0 0 = c5) := by show _ = _; rw [hc5]; rfl
                clear HA4 hG5 hk5 hE6 hL6 hb35 hb36 hbal HG2 HB3 HB4 hc5 hs34 HC
                go_wp2_with fail
                (try rw [hw6])
                refine Calls.mono HG6.out ?_
                rintro e w7 ⟨rfl, hb7⟩
                obtain ⟨⟨y0, y1, y2, y3⟩, y4, y5, hfin⟩ := HFN.out w7 hb7
                have HF := (show Hid _ from hfin)
                clear HG6 HFN hb7 hfin hw6
                go_wp2
                refine bodyPost_ret (v := .tuple #[.agg #[.slice a6 R.1.1.length ca6, .slice b6 R.1.2.length cb6], .int .i64 c5, .bool true]) ?_ ?_ ?_
                · simp [results, Tryd.results31, go_sem, *]
                · rfl
                · refine ⟨_, _, ?_, (HF.out _ _).1, (HF.out _ _).2⟩
                  show Ending.returned _ = Ending.returned (.tuple #[_, .int .i64 (R.2.getD 0 0), .bool true])
                  rw [HC5.out]
          · rw [if_neg h00]
            rw [decide_eq_false h00] at HG2
            go_enter Tryd.func31, Tryd.ntmps31
            go_wp2_with fail
            (try rw [hW1])
            refine Calls.mono HG.out ?_
            rintro e w2 ⟨rfl, hb2⟩
            have HT2 := (show Hid _ from HT.out w2 hb2)
            have HB2 := (show Hid _ from hb2)
            clear HG hW1 HT hb2
            go_wp2_with fail
            refine Calls.mono HT2.out ?_
            rintro e w3a ⟨rfl, hb3⟩
            have hB3 := HB2.out.trans (hb3.mono HB2.out.size)
            obtain ⟨⟨g0, g1⟩, -, -⟩ := HC.out w3a hB3
            have HBi3 := (show Hid _ from HBi.out w3a hB3)
            have HB3a := (show Hid _ from hB3)
            clear HT2 hb3 HB2 hB3 HBi
            go_wp2_with fail
            refine Calls.mono HBi3.out ?_
            rintro e w3b ⟨rfl, hb4⟩
            have hB4 := HB3a.out.trans (hb4.mono HB3a.out.size)
            have HVa3 := (show Hid _ from HVa.out w3b hB4)
            have HB3b := (show Hid _ from hB4)
            clear HBi3 hb4 hB4 HB3a HVa g0 g1
            go_wp2_with fail
            refine Calls.mono HVa3.out ?_
            rintro e w3 ⟨vv, rfl, hown, hb5⟩
            obtain ⟨av, cv, rfl, _⟩ := row_slice hown
            have hB5 := HB3b.out.trans (hb5.mono HB3b.out.size)
            have hvr := HV.out w3 hB5
            have HRow : Hid (∀ k, k < (varsF t []).length → ∃ gv ov : Nat, av = some ⟨gv, ov, none⟩ ∧ w3.cell? ⟨gv, ov + k, none⟩ = some (.int .i64 ((varsF t []).getD k 0))) := fun k hk => by
              rcases hown.2 with ⟨_, h0⟩ | ⟨gv, cp, cur, e, _⟩
              · omega
              · injection e with e1 e2 e3
                subst e1
                refine ⟨gv, 0, rfl, ?_⟩
                rw [Nat.zero_add, hown.cellAt k (by omega)]
                simp [vals, List.getD_eq_getElem?_getD, hk]
            have HB3 := (show Hid _ from hB5)
            obtain ⟨bb', bo', e', hbl', hbc⟩ : ∃ bb' bo', (some ⟨bb, bo, none⟩ : Option Addr) = some ⟨bb', bo', none⟩ ∧ bb' < w3.heap.size ∧ ∀ i, i < 4 → w3.cell? ⟨bb', bo' + i, none⟩ = some (.int .i64 (bs.getD i 0)) := by
              rcases hvr.2 with h0 | h0
              · omega
              · exact h0
            cases e'
            obtain ⟨V, hVe⟩ : ∃ V, varsF t [] = V := ⟨_, rfl⟩
            have hVl : V.length ≤ 40 := by rw [← hVe]; have := varsF_len t []; simp at this; omega
            rw [hVe] at HRow HMem
            rw [hVe]
            clear HVa3 hown hb5 HB3b hB5 hvr HV hVe
            go_wp2_with fail
            go_loopw [31] (fun i wr => w3 = wr ∧ ∃ (k : Nat), k ≤ V.length ∧ i = .int .i64 k ∧ Hid (∀ j, j < k → 0 ≤ bs.getD (V.getD j 0).toNat 0)) (fun i _ => V.length - (intOf i).toNat)
            case atStart => exact ⟨by first | trivial | rfl, 0, Nat.zero_le _, rfl, fun j hj => absurd hj (Nat.not_lt_zero _)⟩
            case round =>
              obtain ⟨rfl, k, hk, rfl, hall⟩ := hrel
              by_cases hlt : k < V.length
              · obtain ⟨gv, ov, rfl, c0⟩ := HRow.out k hlt
                have hmv := HMem.out.1 (V.getD k 0) (by rw [List.getD_eq_getElem?_getD, List.getElem?_eq_getElem hlt]; exact List.getElem_mem _)
                obtain ⟨m, hm⟩ : ∃ m : Nat, V.getD k 0 = m := ⟨(V.getD k 0).toNat, by omega⟩
                have hkl : (k : Int) < V.length := by omega
                have hm4 : m < 4 := by omega
                have i0 : (0 : Int) ≤ m := by omega
                have i4 : (m : Int) < 4 := by omega
                have c1 := hbc m hm4
                rw [hm] at c0
                obtain ⟨x, hx⟩ : ∃ x, bs.getD m 0 = x := ⟨_, rfl⟩
                rw [hx] at c1
                have HX : Hid (bs.getD (V.getD k 0).toNat 0 = x) := by show _ = _; rw [hm, Int.toNat_natCast, hx]
                have HMm : Hid (V.getD k 0 ∈ V) := by show _ ∈ _; rw [List.getD_eq_getElem?_getD, List.getElem?_eq_getElem hlt]; exact List.getElem_mem _
                clear hm hx hmv hbc
                by_cases hneg : x < 0
                · exfalso
                  have := HMem.out.2.1 (by first | trivial | rfl) (V.getD k 0) HMm.out
                  rw [HX.out] at this
                  omega
                · have HA2 : Hid (∀ j, j < k + 1 → 0 ≤ bs.getD (V.getD j 0).toNat 0) := fun j hj => by
                    by_cases e : j = k
                    · rw [e, HX.out]; omega
                    · exact hall.out j (by omega)
                  clear hall HX HMm
                  go_wp2
                  go_roundw
                  case rel => exact ⟨by first | trivial | rfl, k + 1, by omega, by go_num, HA2⟩
                  case measure => simp [intOf]; omega
              · obtain rfl : k = V.length := by omega
                obtain ⟨⟨g0, g1⟩, -, -⟩ := HC.out _ HB3.out
                have HO3 := (show Hid _ from HO.out _ HB3.out)
                clear HO hall HRow HMem hbc hlt hk
                go_wp2_with fail
                refine Calls.mono HO3.out ?_
                rintro e w4 ⟨va, vb, rfl, hG4, hb4⟩
                have HA4 := (show Hid _ from HA.out w3 w4 va vb HB3.out hb4 hG4)
                have HB4 := (show Hid _ from hb4)
                clear HO3 HA hG4 hb4 g0 g1
                go_wp2_with fail
                refine Calls.mono HA4.out ?_
                rintro e w5 ⟨va5, vb5, c5, rfl, hc5, hG5, hk5⟩
                obtain ⟨a6, ca6, b6, cb6, rfl, rfl, hE6, hL6⟩ := hG5.reads
                have hs34 := HB4.out.size
                have hb35 : Below w3.heap.size w3 w5 := HB4.out.trans (hk5.below (fun x _ h => h) hs34)
                have hb36 : Below w3.heap.size w3 (w5.alloc (.cells #[.slice a6 R.1.1.length ca6, .slice b6 R.1.2.length cb6] 32)) := hb35.alloc hb35.size _
                have hbal : Below w5.heap.size w5 (w5.alloc (.cells #[.slice a6 R.1.1.length ca6, .slice b6 R.1.2.length cb6] 32)) := (Below.refl _ _).alloc (Nat.le_refl _) _
                obtain ⟨w6, hw6⟩ : ∃ w6, w5.alloc (.cells #[.slice a6 R.1.1.length ca6, .slice b6 R.1.2.length cb6] 32) = w6 := ⟨_, rfl⟩
                have x0 : w6.cell? ⟨w5.heap.size, 0, none⟩ = some (.slice a6 R.1.1.length ca6) := by rw [← hw6]; simp [go_sem]
                have x1 : w6.cell? ⟨w5.heap.size, 1, none⟩ = some (.slice b6 R.1.2.length cb6) := by rw [← hw6]; simp [go_sem]
                have hs6 : w5.heap.size < w6.heap.size := by rw [← hw6]; simp
                rw [hw6] at hb36 hbal
                have HG6 := (show Hid _ from HG2.out w6 a6 b6 ca6 cb6 (hE6.keep hbal) (hL6.keep hbal))
                have HFN : Hid (∀ W, Below w6.heap.size w6 W → (W.cell? ⟨w.heap.size + 1, 0, none⟩ = some (.slice none 0 0) ∧ W.cell? ⟨w.heap.size + 1, 1, none⟩ = some (.slice none 0 0) ∧ W.frozen? ⟨w.heap.size + 1, 0, none⟩ = false ∧ W.frozen? ⟨w.heap.size + 1, 1, none⟩ = false) ∧ W.cell? ⟨w5.heap.size, 0, none⟩ = some (.slice a6 R.1.1.length ca6) ∧ W.cell? ⟨w5.heap.size, 1, none⟩ = some (.slice b6 R.1.2.length cb6) ∧ ∀ v0 v1, GOwn ((W.setCell ⟨w.heap.size + 1, 0, none⟩ v0).setCell ⟨w.heap.size + 1, 1, none⟩ v1) false (fun x => w.heap.size ≤ x) (.slice a6 R.1.1.length ca6) (.slice b6 R.1.2.length cb6) R.1 ∧ Below w.heap.size w ((W.setCell ⟨w.heap.size + 1, 0, none⟩ v0).setCell ⟨w.heap.size + 1, 1, none⟩ v1)) := fun W hW => by
                  have hX : Below w3.heap.size w3 W := hb36.trans (hW.mono hb36.size)
                  obtain ⟨-, y, z⟩ := HC.out W (HB3.out.trans (hX.mono HB3.out.size))
                  have hs3 := HB3.out.size
                  have hz := HZ.out
                  refine ⟨y, (hW.cell (p := ⟨w5.heap.size, 0, none⟩) hs6).trans x0, (hW.cell (p := ⟨w5.heap.size, 1, none⟩) hs6).trans x1, fun v0 v1 => ⟨?_, z v0 v1⟩⟩
                  refine ((hG5.keep hbal).keep hW).map (by rw [setCell_size, setCell_size]; exact Nat.le_refl _) (fun b' hb' hl => ?_) (fun b' hl hb' => ?_)
                  · have hne : w.heap.size + 1 ≠ b' := by
                      rcases hb' with h | h
                      · omega
                      · omega
                    rw [setCell_block _ _ _ hne, setCell_block _ _ _ hne]
                  · rcases hb' with h | h
                    · omega
                    · omega
                have HC5 : Hid (R.2.getD 0 0 = c5) := by show _ = _; rw [hc5]; rfl
                clear HA4 hG5 hk5 hE6 hL6 hb35 hb36 hbal HG2 HB3 HB4 hc5 hs34 HC
                go_wp2_with fail
                (try rw [hw6])
                refine Calls.mono HG6.out ?_
                rintro e w7 ⟨rfl, hb7⟩
                obtain ⟨⟨y0, y1, y2, y3⟩, y4, y5, hfin⟩ := HFN.out w7 hb7
                have HF := (show Hid _ from hfin)
                clear HG6 HFN hb7 hfin hw6
                go_wp2
                refine bodyPost_ret (v := .tuple #[.agg #[.slice none 0 0, .slice none 0 0], .int .i64 0, .bool false]) ?_ ?_ ?_
                · simp [results, Tryd.results31, go_sem, *]
                · rfl
                · exact ⟨_, _, rfl, gown_nil _ _ _, (HF.out _ _).2⟩
end Go.Proofs.YthgcicidenmnfaaDoor
namespace Go.Proofs.YthgcicidenmnfaaDoor
open Go.ChangeShapes Go.WideShapes Go.ChangeAt Go.RowKit
set_option linter.unusedVariables false

theorem minei_block {w w' : World} {b len : Nat} (h : MineI w b len) (hs : w.heap.size ≤ w'.heap.size) (hb : w'.heap[b]? = w.heap[b]?) : MineI w' b len := by
  refine ⟨Nat.lt_of_lt_of_le h.1 hs, fun i hi => ?_⟩
  obtain ⟨⟨v, hv⟩, hf⟩ := h.2 i hi
  exact ⟨⟨v, (World.cell?_of_block (a := ⟨b, i, none⟩) hb).trans hv⟩, (World.frozen?_of_block (a := ⟨b, i, none⟩) hb).trans hf⟩
theorem insG_few {p : List EN} {l : List Int} {t : List (Int × Int)} {bs : List Int} : (ansG (instT p l t bs)).1.length ≤ 120 ∧ (ansG (instT p l t bs)).2.length = (ansG (instT p l t bs)).1.length ∧ ∀ i, i < (ansG (instT p l t bs)).1.length → ((ansG (instT p l t bs)).1.getD i e0).2.2.length ≤ 3 := by
  cases h : instT p l t bs with
  | none => exact ⟨by simp [ansG], rfl, fun i hi => absurd hi (Nat.not_lt_zero _)⟩
  | some r =>
    obtain ⟨h1, h3⟩ := instT_good h
    exact ⟨h3, h1.2.1, good_few h1⟩
set_option maxHeartbeats 12800000 in
set_option maxRecDepth 20000 in
theorem instOfLaw_any (a b : Option Addr) (len cap lb cb : Nat) (p : List EN) (l : List Int) (ta : Option Addr) (tl tc : Nat) (t : List (Int × Int)) (ba : Option Addr) (bl bc : Nat) (bs : List Int) (w : World) (ht : Tab w) (h : ESl w a len p) (hl : Sl w b lb l) (hI : InE p) (hN : NSl w ta tl t) (hIt : ∀ k, k < t.length → InI (t.getD k (0, 0)).2) (hm : len ≤ 9223372036854775807) (hm2 : lb ≤ 9223372036854775807) (hv : Sl w ba bl bs) (hm3 : tl ≤ 9223372036854775807) (hm4 : bl ≤ 9223372036854775807) :
    Calls Tryd.prog 6 #[.agg #[.slice a len cap, .slice b lb cb], .slice ta tl tc, .slice ba bl bc] w fun e w' => e = .returned (.bool true) ∧ Below w.heap.size w w' := by
  have hll := h.1
  have hl1 := hl.1
  obtain ⟨W1, hW1⟩ : ∃ W1, w.alloc (.cells #[.slice a len cap, .slice b lb cb] 25) = W1 := ⟨_, rfl⟩
  have hb1 : Below w.heap.size w W1 := by rw [← hW1]; exact (Below.refl _ _).alloc (Nat.le_refl _) _
  have n0 : W1.cell? ⟨w.heap.size, 0, none⟩ = some (.slice a len cap) := by rw [← hW1]; simp [go_sem]
  have n1 : W1.cell? ⟨w.heap.size, 1, none⟩ = some (.slice b lb cb) := by rw [← hW1]; simp [go_sem]
  have hs1 : w.heap.size < W1.heap.size := by rw [← hW1]; simp
  have HZ := (show Hid _ from szG_any a b len cap lb cb p l 1048576 W1 (h.keep hb1) (hl.keep hb1) (by omega) hm hm2)
  have HF : Hid (∀ W, Below W1.heap.size W1 W → Below w.heap.size w W ∧ Tab W ∧ W.cell? ⟨w.heap.size, 0, none⟩ = some (.slice a len cap) ∧ W.cell? ⟨w.heap.size, 1, none⟩ = some (.slice b lb cb)) := fun W hW => ⟨hb1.trans (hW.mono hb1.size), (ht.keeps hb1).keeps hW, (hW.cell (p := ⟨w.heap.size, 0, none⟩) hs1).trans n0, (hW.cell (p := ⟨w.heap.size, 1, none⟩) hs1).trans n1⟩
  by_cases hbn : bl ≤ 1048576
  case neg =>
    have hbi : (1048576 : Int) < bl := by omega
    have HE := (show Hid _ from hb1)
    clear h hl hb1 ht hN hv HZ HF
    go_enter Tryd.func6, Tryd.ntmps6
    go_wp2
    (try rw [hW1])
    go_ret
    exact ⟨rfl, HE.out⟩
  have hbi : ¬ (1048576 : Int) < bl := by omega
  rcases szG_all p l with hz | ⟨z0, z1, z2, z3, z4⟩
  · rw [hz] at HZ
    clear h hl hb1 ht hz hN hv
    go_enter Tryd.func6, Tryd.ntmps6
    go_wp2_with fail
    (try rw [hW1])
    refine Calls.mono HZ.out ?_
    rintro e w2 ⟨rfl, hb2⟩
    clear HZ hW1
    go_wp2
    go_ret
    exact ⟨rfl, (HF.out _ hb2).1⟩
  · obtain ⟨sN, hsN⟩ : ∃ sN : Nat, szG 1048576 p l = sN := ⟨(szG 1048576 p l).toNat, by omega⟩
    have hst := szG_marks p l z0
    rw [hll, hl1] at hst
    rw [hsN] at HZ z0 z1
    have hz : ¬ (sN : Int) < 0 := by omega
    have hn : len ≤ 1048576 := by omega
    have hn2 : lb ≤ 1048576 := by omega
    rw [hll] at z4
    have HZ2 : Hid (∀ W, Calls Tryd.prog 30 #[.slice ta tl tc, .int .i64 sN] W fun e w' => e = .returned (.int .i64 (if tl ≤ sN then ((sN - tl : Nat) : Int) else -1)) ∧ w' = W) := fun W => sz_any ta tl tc sN W (by omega) hm3
    by_cases htn : tl ≤ sN
    · rw [if_pos htn] at HZ2
      obtain ⟨s2, hs2⟩ : ∃ s2 : Nat, sN - tl = s2 := ⟨_, rfl⟩
      rw [hs2] at HZ2
      have hz2 : ¬ (s2 : Int) < 0 := by omega
      have htm : tl ≤ 1048576 := by omega
      have HC : Hid (∀ W, Below W1.heap.size W1 W → Calls Tryd.prog 10 #[.agg #[.slice a len cap, .slice b lb cb]] W fun e w' => ∃ g gp hi, e = .returned (.agg #[.slice (some ⟨g, 0, none⟩) len len, .slice (some ⟨gp, 0, none⟩) lb lb]) ∧ Below W.heap.size W w' ∧ ESl w' (some ⟨g, 0, none⟩) len p ∧ Sl w' (some ⟨gp, 0, none⟩) lb l ∧ W.heap.size ≤ g ∧ EMine w' g hi g len p ∧ hi ≤ gp ∧ MineI w' gp lb) := fun W hW => (copyG_any a b len cap lb cb p l W ((h.keep hb1).keep hW) ((hl.keep hb1).keep hW) hn z4 hn2).mono fun e w' ⟨g, gp, hi, r1, r2, r3, r4, r5, r6, r7⟩ => ⟨g, gp, hi, r1, r2, r4.esl (fun i hi => by have := z4 i hi; omega), r7, r3, r4, r5, r6⟩
      have HCN : Hid (∀ W, Below W1.heap.size W1 W → Calls Tryd.prog 32 #[.slice ta tl tc] W fun e w' => e = .returned (.slice (some ⟨W.heap.size, 0, none⟩) tl tl) ∧ Below W.heap.size W w' ∧ NSl w' (some ⟨W.heap.size, 0, none⟩) tl t ∧ Mine w' W.heap.size 0 tl) := fun W hW => copyN_mine ta tl tc t W ((hN.keep hb1).keep hW) htm
      have HCB : Hid (∀ W, Below W1.heap.size W1 W → Calls Tryd.prog 23 #[.slice ba bl bc] W fun e w' => e = .returned (.slice (some ⟨W.heap.size, 0, none⟩) bl bl) ∧ Below W.heap.size W w' ∧ Sl w' (some ⟨W.heap.size, 0, none⟩) bl bs ∧ MineI w' W.heap.size bl) := fun W hW => copyI_mine ba bl bc bs W ((hv.keep hb1).keep hW) hbn
      have HSp : Hid (∀ W (g gp gt gx : Nat), ESl W (some ⟨g, 0, none⟩) len p → Sl W (some ⟨gp, 0, none⟩) lb l → NSl W (some ⟨gt, 0, none⟩) tl t → Sl W (some ⟨gx, 0, none⟩) bl bs → Calls Tryd.prog 31 #[.agg #[.slice (some ⟨g, 0, none⟩) len len, .slice (some ⟨gp, 0, none⟩) lb lb], .slice (some ⟨gt, 0, none⟩) tl tl, .slice (some ⟨gx, 0, none⟩) bl bl] W fun e w' => ∃ va vb, e = .returned (.tuple #[.agg #[va, vb], .int .i64 (ansC (instT p l t bs)), .bool (instT p l t bs).isSome]) ∧ ReadG w' va vb (ansG (instT p l t bs)) ∧ Below W.heap.size W w') := fun W g gp gt gx h1 h2 h3 h4 => (specInstOf_any _ _ len len lb lb p l _ tl tl t W h1 h2 h3 _ bl bl bs h4 hm hm2 hm3 hm4).mono fun e w' ⟨va, vb, r1, r2, r3⟩ => ⟨va, vb, r1, r2.reads, r3⟩
      have HIm : Hid (∀ W (g gp gt gx : Nat), Tab W → ESl W (some ⟨g, 0, none⟩) len p → Sl W (some ⟨gp, 0, none⟩) lb l → NSl W (some ⟨gt, 0, none⟩) tl t → Sl W (some ⟨gx, 0, none⟩) bl bs → Calls Tryd.prog 33 #[.agg #[.slice (some ⟨g, 0, none⟩) len len, .slice (some ⟨gp, 0, none⟩) lb lb], .slice (some ⟨gt, 0, none⟩) tl tl, .slice (some ⟨gx, 0, none⟩) bl bl] W fun e w' => ∃ va vb, e = .returned (.tuple #[.agg #[va, vb], .int .i64 (ansC (instT p l t bs)), .bool (instT p l t bs).isSome]) ∧ AnsI w' (fun x => W.heap.size ≤ x) va vb (ansG (instT p l t bs)) ∧ Below W.heap.size W w') := fun W g gp gt gx h0 h1 h2 h3 h4 => implInstOf_any _ _ len len lb lb p l _ tl tl t _ bl bl bs W h0 h1 h2 h3 h4 hI hIt hm2 hm3 hm4
      have HQ : Hid (∀ W (g gp g' gp' : Nat), ESl W (some ⟨g, 0, none⟩) len p → Sl W (some ⟨gp, 0, none⟩) lb l → ESl W (some ⟨g', 0, none⟩) len p → Sl W (some ⟨gp', 0, none⟩) lb l → Calls Tryd.prog 13 #[.agg #[.slice (some ⟨g, 0, none⟩) len len, .slice (some ⟨gp, 0, none⟩) lb lb], .agg #[.slice (some ⟨g', 0, none⟩) len len, .slice (some ⟨gp', 0, none⟩) lb lb]] W fun e w' => e = .returned (.bool true) ∧ Below W.heap.size W w') := fun W g gp g' gp' h1 h2 h3 h4 => eqG_same _ _ _ _ len len len lb lb lb p l W h1 h3 h2 h4 hn z4 hn2
      have HQN : Hid (∀ W (g g' : Nat), NSl W (some ⟨g, 0, none⟩) tl t → NSl W (some ⟨g', 0, none⟩) tl t → Calls Tryd.prog 34 #[.slice (some ⟨g, 0, none⟩) tl tl, .slice (some ⟨g', 0, none⟩) tl tl] W fun e w' => e = .returned (.bool true) ∧ Below W.heap.size W w') := fun W g g' h1 h2 => eqN_same _ _ tl tl tl t W h1 h2 htm
      have HQB : Hid (∀ W (g g' : Nat), Sl W (some ⟨g, 0, none⟩) bl bs → Sl W (some ⟨g', 0, none⟩) bl bs → Calls Tryd.prog 25 #[.slice (some ⟨g, 0, none⟩) bl bl, .slice (some ⟨g', 0, none⟩) bl bl] W fun e w' => e = .returned (.bool true) ∧ Below W.heap.size W w') := fun W g g' h1 h2 => eqI_same _ _ bl bl bl bs W h1 h2 hbn
      have hfw := @insG_few p l t bs
      obtain ⟨A, hA⟩ : ∃ A, ansG (instT p l t bs) = A := ⟨_, rfl⟩
      rw [hA] at HSp HIm hfw
      have HQA : Hid (∀ W (u1 u2 v1 v2 : Value), ReadG W u1 u2 A → ReadG W v1 v2 A → Calls Tryd.prog 13 #[.agg #[u1, u2], .agg #[v1, v2]] W fun e w' => e = .returned (.bool true) ∧ Below W.heap.size W w') := fun W u1 u2 v1 v2 h1 h2 => eqA_any u1 u2 v1 v2 A W h1 h2 hfw.1 hfw.2.1 hfw.2.2
      have HMG : Hid (∀ W (g gp hi : Nat), EMine W g hi g len p → hi ≤ gp → MineI W gp lb → Calls Tryd.prog 15 #[.agg #[.slice (some ⟨g, 0, none⟩) len len, .slice (some ⟨gp, 0, none⟩) lb lb], .int .i64 1] W fun e w' => e = .returned (.int .i64 (stE 1 p len + lb : Nat)) ∧ TurnE g (gp + 1) W w') := fun W g gp hi h1 h2 h3 => markG_any hi g len len gp lb lb p W h1 h2 h3 (by omega) z4 hn hn2
      have hk0 : stE 1 p len + lb ≤ 3145729 := hst
      obtain ⟨K0, hK0⟩ : ∃ K0 : Nat, stE 1 p len + lb = K0 := ⟨_, rfl⟩
      rw [hK0] at HMG hk0
      have HMN : Hid (∀ W (gt : Nat), Mine W gt 0 tl → Calls Tryd.prog 35 #[.slice (some ⟨gt, 0, none⟩) tl tl, .int .i64 (K0 : Int)] W fun e w' => e = .returned (.int .i64 (K0 + 2 * tl : Nat)) ∧ W.grownBy w' (some gt)) := fun W gt h1 => (mark_any gt 0 tl tl K0 W h1 htm (by omega)).mono fun e w' ⟨r1, r2, _⟩ => ⟨r1, r2⟩
      obtain ⟨K1, hK1⟩ : ∃ K1 : Nat, K0 + 2 * tl = K1 := ⟨_, rfl⟩
      rw [hK1] at HMN
      have HMI : Hid (∀ W (gx : Nat), MineI W gx bl → Calls Tryd.prog 28 #[.slice (some ⟨gx, 0, none⟩) bl bl, .int .i64 (K1 : Int)] W fun e w' => e = .returned (.int .i64 (K1 + bl : Nat)) ∧ W.grownBy w' (some gx)) := fun W gx h1 => (markI_any gx bl bl K1 W h1 hbn (by omega)).mono fun e w' ⟨r1, r2, _⟩ => ⟨r1, r2⟩
      obtain ⟨K2, hK2⟩ : ∃ K2 : Nat, K1 + bl = K2 := ⟨_, rfl⟩
      rw [hK2] at HMI
      have hk1 : ¬ (K2 : Int) < 0 := by omega
      have HMA : Hid (∀ W va vb (S : Nat → Prop), AnsI W S va vb A → Calls Tryd.prog 15 #[.agg #[va, vb], .int .i64 1] W fun e w' => e = .returned (.int .i64 ((ansK A : Nat) : Int)) ∧ KB S W w' ∧ HeldG w' va vb A) := fun W va vb S h1 => markA_any va vb A S W h1
      have HHA : Hid (∀ W va vb, HeldG W va vb A → Calls Tryd.prog 17 #[.agg #[va, vb], .int .i64 1] W fun e w' => e = .returned (.int .i64 ((ansK A : Nat) : Int)) ∧ Below W.heap.size W w') := fun W va vb h1 => heldA_any va vb A W h1
      obtain ⟨zq, hzq⟩ : ∃ zq : Int, ((ansK A : Nat) : Int) = zq := ⟨_, rfl⟩
      have hq1 : ¬ zq < 0 := by omega
      have hqq : (zq != zq) = false := by simp
      rw [hzq] at HMA HHA
      generalize ansC (instT p l t bs) = C at HSp HIm
      generalize (instT p l t bs).isSome = B at HSp HIm
      have hBB : (B != B) = false := by simp
      have hCC : (C != C) = false := by simp
      clear h hl hb1 ht hll hl1 z0 z1 z2 z3 z4 hn hn2 hI hN hv hIt hsN htn hs2 htm hst hfw hA hK0 hK1 hK2 hzq hk0 hbn
      go_enter Tryd.func6, Tryd.ntmps6
      go_wp2_with fail
      (try rw [hW1])
      refine Calls.mono HZ.out ?_
      rintro e w2 ⟨rfl, hb2⟩
      obtain ⟨-, -, q0, q1⟩ := HF.out w2 hb2
      clear HZ hW1
      go_wp2_with fail
      refine Calls.mono (HZ2.out _) ?_
      rintro e w2' ⟨rfl, rfl⟩
      clear HZ2
      go_wp2_with fail
      refine Calls.mono (HC.out _ hb2) ?_
      rintro e w3 ⟨g, gp, hi, rfl, hb3, hE3, hS3, -⟩
      have hB3 : Below W1.heap.size W1 w3 := hb2.trans (hb3.mono hb2.size)
      clear hb3 q0 q1 hb2
      go_wp2_with fail
      refine Calls.mono (HCN.out _ hB3) ?_
      rintro e w4 ⟨rfl, hb4, hN4, -⟩
      have hB4 : Below W1.heap.size W1 w4 := hB3.trans (hb4.mono hB3.size)
      have hE4 := hE3.keep hb4
      have hS4 := hS3.keep hb4
      clear hb4 hE3 hS3 hB3
      go_wp2_with fail
      refine Calls.mono (HCB.out _ hB4) ?_
      rintro e w4' ⟨rfl, hb4, hX4, -⟩
      have hB4' : Below W1.heap.size W1 w4' := hB4.trans (hb4.mono hB4.size)
      have hE4 := hE4.keep hb4
      have hS4 := hS4.keep hb4
      have hN4 := hN4.keep hb4
      clear hb4 hB4
      have hB4 := hB4'
      clear hB4'
      go_wp2_with fail
      refine Calls.mono (HSp.out _ _ _ _ _ hE4 hS4 hN4 hX4) ?_
      rintro e w5 ⟨sa, sb, rfl, hR5, hb5⟩
      obtain ⟨sa1, sca, sb1, scb, rfl, rfl, -⟩ := id hR5
      have hB5 : Below W1.heap.size W1 w5 := hB4.trans (hb5.mono hB4.size)
      clear hb5 hE4 hS4 hN4 hX4 hB4 HSp
      -- the model's answer in its box
      obtain ⟨W6, hW6⟩ : ∃ W6, w5.alloc (.cells #[.slice sa1 A.1.length sca, .slice sb1 A.2.length scb] 32) = W6 := ⟨_, rfl⟩
      have hb6 : Below w5.heap.size w5 W6 := by rw [← hW6]; exact (Below.refl _ _).alloc (Nat.le_refl _) _
      have u0 : W6.cell? ⟨w5.heap.size, 0, none⟩ = some (.slice sa1 A.1.length sca) := by rw [← hW6]; simp [go_sem]
      have u1 : W6.cell? ⟨w5.heap.size, 1, none⟩ = some (.slice sb1 A.2.length scb) := by rw [← hW6]; simp [go_sem]
      have hs6 : w5.heap.size < W6.heap.size := by rw [← hW6]; simp
      have hB6 : Below W1.heap.size W1 W6 := hB5.trans (hb6.mono hB5.size)
      obtain ⟨B6, hB6e⟩ : ∃ B6, w5.heap.size = B6 := ⟨_, rfl⟩
      rw [hB6e] at u0 u1 hs6
      have H6 : Hid (∀ W, Below W6.heap.size W6 W → Below W1.heap.size W1 W ∧ W.cell? ⟨B6, 0, none⟩ = some (.slice sa1 A.1.length sca) ∧ W.cell? ⟨B6, 1, none⟩ = some (.slice sb1 A.2.length scb) ∧ ReadG W (.slice sa1 A.1.length sca) (.slice sb1 A.2.length scb) A) := fun W hW => ⟨hB6.trans (hW.mono hB6.size), (hW.cell (p := ⟨B6, 0, none⟩) hs6).trans u0, (hW.cell (p := ⟨B6, 1, none⟩) hs6).trans u1, (hR5.keep hb6).keep hW⟩
      obtain ⟨-, -, q0, q1⟩ := HF.out W6 hB6
      have HC6 := (show Hid _ from HC.out W6 hB6)
      clear hB5 hb6 hR5 u0 u1 hs6 hB6
      go_wp2_with fail
      (try rw [hW6])
      (try rw [hB6e])
      refine Calls.mono HC6.out ?_
      rintro e w7 ⟨g2, gp2, hi2, rfl, hb7, hE7, hS7, hg7, hM7, hh7, hI7⟩
      clear HC6 hW6 hB6e q0 q1
      -- the graph that is handed over in its box
      obtain ⟨W8, hW8⟩ : ∃ W8, w7.alloc (.cells #[.slice (some ⟨g2, 0, none⟩) len len, .slice (some ⟨gp2, 0, none⟩) lb lb] 32) = W8 := ⟨_, rfl⟩
      have hb8 : Below w7.heap.size w7 W8 := by rw [← hW8]; exact (Below.refl _ _).alloc (Nat.le_refl _) _
      have t0 : W8.cell? ⟨w7.heap.size, 0, none⟩ = some (.slice (some ⟨g2, 0, none⟩) len len) := by rw [← hW8]; simp [go_sem]
      have t1 : W8.cell? ⟨w7.heap.size, 1, none⟩ = some (.slice (some ⟨gp2, 0, none⟩) lb lb) := by rw [← hW8]; simp [go_sem]
      have hs8 : w7.heap.size < W8.heap.size := by rw [← hW8]; simp
      obtain ⟨B8, hB8e⟩ : ∃ B8, w7.heap.size = B8 := ⟨_, rfl⟩
      have hgpl : gp2 < B8 := by rw [← hB8e]; exact hI7.1
      have hgg : g2 ≤ gp2 := by have := hM7.2.2.1; omega
      rw [hB8e] at t0 t1 hs8
      have hB68 : Below W6.heap.size W6 W8 := hb7.trans (hb8.mono hb7.size)
      have HX8 : Hid (∀ W, Below W8.heap.size W8 W → Below W6.heap.size W6 W ∧ W.cell? ⟨B8, 0, none⟩ = some (.slice (some ⟨g2, 0, none⟩) len len) ∧ W.cell? ⟨B8, 1, none⟩ = some (.slice (some ⟨gp2, 0, none⟩) lb lb) ∧ ESl W (some ⟨g2, 0, none⟩) len p ∧ Sl W (some ⟨gp2, 0, none⟩) lb l ∧ EMine W g2 hi2 g2 len p ∧ hi2 ≤ gp2 ∧ MineI W gp2 lb) := fun W hW => ⟨hB68.trans (hW.mono hB68.size), (hW.cell (p := ⟨B8, 0, none⟩) hs8).trans t0, (hW.cell (p := ⟨B8, 1, none⟩) hs8).trans t1, (hE7.keep hb8).keep hW, (hS7.keep hb8).keep hW, (hM7.keep hb8).keep hW, hh7, (hI7.keep hb8).keep hW⟩
      have HCN8 := (show Hid _ from HCN.out W8 (H6.out W8 hB68).1)
      have hg6 : W6.heap.size ≤ g2 := hg7
      clear hb7 hb8 t0 t1 hE7 hS7 hM7 hh7 hI7 hB68 hg7
      go_wp2_with fail
      (try rw [hW8])
      (try rw [hB8e])
      refine Calls.mono HCN8.out ?_
      rintro e v9 ⟨rfl, hbv9, hNv9, hMv9⟩
      obtain ⟨gt, hgt⟩ : ∃ gt, W8.heap.size = gt := ⟨_, rfl⟩
      rw [hgt] at hNv9 hMv9
      have hgtv : gt < v9.heap.size := hMv9.1
      have hgt8 : B8 < gt := by omega
      have HCB9 := (show Hid _ from HCB.out v9 (H6.out v9 (HX8.out v9 hbv9).1).1)
      clear HCN8 hW8 hB8e
      go_wp2_with fail
      (try rw [hgt])
      refine Calls.mono HCB9.out ?_
      rintro e w9 ⟨rfl, hb9, hS9, hI9⟩
      obtain ⟨gx, hgx⟩ : ∃ gx, v9.heap.size = gx := ⟨_, rfl⟩
      rw [hgx] at hS9 hI9
      have hgxl : gx < w9.heap.size := hI9.1
      have hgtx : gt < gx := by omega
      have hgtl : gt < w9.heap.size := by omega
      have hM9e : Hid (g2 ≤ w9.heap.size ∧ gp2 < w9.heap.size ∧ B8 < w9.heap.size) := by show _ ∧ _; omega
      have hW69 : Hid (W6.heap.size ≤ w9.heap.size) := by show _ ≤ _; omega
      have hb89 : Below W8.heap.size W8 w9 := hbv9.trans (hb9.mono hbv9.size)
      have HX9 : Hid (∀ W, Below w9.heap.size w9 W → Below W8.heap.size W8 W ∧ NSl W (some ⟨gt, 0, none⟩) tl t ∧ Mine W gt 0 tl ∧ Sl W (some ⟨gx, 0, none⟩) bl bs ∧ MineI W gx bl) := fun W hW => ⟨hb89.trans (hW.mono hb89.size), (hNv9.keep hb9).keep hW, mine_block hMv9 (Nat.le_trans hb9.size hW.size) ((hW.block gt hgtl).trans (hb9.block gt hgtv)), hS9.keep hW, minei_block hI9 hW.size (hW.block gx hgxl)⟩
      obtain ⟨x1, x2, x3, x4, x5⟩ := HX9.out w9 (Below.refl _ _)
      obtain ⟨y1, y2, y3, y4, y5, -⟩ := HX8.out w9 x1
      have HI9 := (show Hid _ from HIm.out w9 _ _ _ _ (HF.out w9 (H6.out w9 y1).1).2.1 y4 y5 x2 x4)
      clear HCB9 hb9 hbv9 hNv9 hMv9 hS9 hI9 hb89 x1 x2 x3 x4 x5 y1 y4 y5
      go_wp2_with fail
      (try rw [hgx])
      refine Calls.mono HI9.out ?_
      rintro e w10 ⟨va, vb, rfl, hA10, hb10⟩
      obtain ⟨a1, ca1, b1, cb1, rfl, rfl, -⟩ := hA10.reads
      clear HI9 hgt hgx y2 y3
      -- the program's answer in its box
      obtain ⟨W11, hW11⟩ : ∃ W11, w10.alloc (.cells #[.slice a1 A.1.length ca1, .slice b1 A.2.length cb1] 32) = W11 := ⟨_, rfl⟩
      have hb11 : Below w10.heap.size w10 W11 := by rw [← hW11]; exact (Below.refl _ _).alloc (Nat.le_refl _) _
      have v0 : W11.cell? ⟨w10.heap.size, 0, none⟩ = some (.slice a1 A.1.length ca1) := by rw [← hW11]; simp [go_sem]
      have v1 : W11.cell? ⟨w10.heap.size, 1, none⟩ = some (.slice b1 A.2.length cb1) := by rw [← hW11]; simp [go_sem]
      have hs11 : w10.heap.size < W11.heap.size := by rw [← hW11]; simp
      obtain ⟨BG, hBG⟩ : ∃ BG, w10.heap.size = BG := ⟨_, rfl⟩
      have hs910 : w9.heap.size ≤ BG := by rw [← hBG]; exact hb10.size
      have hA11 : AnsI W11 (fun x => w9.heap.size ≤ x ∧ x < BG) (.slice a1 A.1.length ca1) (.slice b1 A.2.length cb1) A := (hA10.map (Nat.le_refl _) (fun _ _ _ => rfl) (fun b hb h => ⟨h, by omega⟩)).map hb11.size (fun b _ hl => hb11.block b hl) (fun _ _ h => h)
      rw [hBG] at v0 v1 hs11
      have hb911 : Below w9.heap.size w9 W11 := hb10.trans (hb11.mono hb10.size)
      have HX11 : Hid (∀ W, KB (fun b => b < w9.heap.size) W11 W → W.cell? ⟨BG, 0, none⟩ = some (.slice a1 A.1.length ca1) ∧ W.cell? ⟨BG, 1, none⟩ = some (.slice b1 A.2.length cb1) ∧ AnsI W (fun x => w9.heap.size ≤ x ∧ x < BG) (.slice a1 A.1.length ca1) (.slice b1 A.2.length cb1) A ∧ BG < W.heap.size) := fun W hW => ⟨(hW.cell (p := ⟨BG, 0, none⟩) hs11 (by show ¬ BG < _; omega)).trans v0, (hW.cell (p := ⟨BG, 1, none⟩) hs11 (by show ¬ BG < _; omega)).trans v1, hA11.map hW.size (fun b hb hl => hW.block b hl (by omega)) (fun _ _ h => h), Nat.lt_of_lt_of_le hs11 hW.size⟩
      have HX12 : Hid (∀ W, Below W11.heap.size W11 W → Below w9.heap.size w9 W) := fun W hW => hb911.trans (hW.mono hb911.size)
      obtain ⟨-, c0, c1, c2⟩ := H6.out W11 (HX8.out W11 (HX9.out W11 hb911).1).1
      have HQ11 := (show Hid _ from HQA.out W11 _ _ _ _ hA11.read c2)
      have HBGs := (show Hid _ from hs11)
      clear hb10 hb11 hA10 hA11 hb911
      go_wp2_with fail
      (try rw [hW11])
      (try rw [hBG])
      refine Calls.mono HQ11.out ?_
      rintro e w12 ⟨rfl, hb12⟩
      have hD12 : Below W11.heap.size W11 w12.drew := hb12.drew
      have h812 := (HX9.out _ (HX12.out _ hD12)).1
      obtain ⟨h612, k0, k1, k2, k3, -⟩ := HX8.out _ h812
      obtain ⟨-, -, q0, q1⟩ := HF.out _ (H6.out _ h612).1
      have HC12 := (show Hid _ from HC.out w12.drew (H6.out _ h612).1)
      have HD12 : Hid (Below W11.heap.size W11 w12.drew) := hD12
      have HB8s : Hid (B8 < w12.drew.heap.size) := by
        show B8 < _
        have := h812.size
        omega
      clear HQ11 hb12 hD12 h812 h612 k2 k3 hW11 hBG c0 c1 c2 v0 v1 hs11
      go_wp2_with fail
      go_region_with (first
        | (go_at_call 10; refine Calls.mono HC12.out ?_; rintro e w13 ⟨g3, gp3, hi3, rfl, hb13, hE13, hS13, -⟩; have hD13 := HD12.out.trans (hb13.mono HD12.out.size); have h813 := (HX9.out _ (HX12.out _ hD13)).1; obtain ⟨-, m0, m1, m2, m3, -⟩ := HX8.out _ h813; have HQ13 := (show Hid _ from HQ.out w13 _ _ _ _ m2 m3 hE13 hS13); clear hb13 h813 m2 m3 hE13 hS13)
        | (go_at_call 13; refine Calls.mono HQ13.out ?_; rintro e w14 ⟨rfl, hb14⟩; have HD14 := (show Hid _ from hD13.trans (hb14.mono hD13.size)); clear hb14))
      all_goals
        have HCN14 := (show Hid _ from HCN.out w14 (H6.out _ (HX8.out _ (HX9.out _ (HX12.out _ HD14.out)).1).1).1)
        clear HC12 HQ13 hD13 m0 m1 k0 k1 q0 q1 HQ HD12 HB8s
        go_wp2_with fail
        refine Calls.mono HCN14.out ?_
        rintro e w15 ⟨rfl, hb15, hN15, -⟩
        have hD15 := HD14.out.trans (hb15.mono HD14.out.size)
        have HQN15 := (show Hid _ from HQN.out w15 _ _ (HX9.out _ (HX12.out _ hD15)).2.1 hN15)
        have HD15 := (show Hid _ from hD15)
        clear HCN14 hb15 hN15 hD15 HD14
        go_wp2_with fail
        refine Calls.mono HQN15.out ?_
        rintro e w16' ⟨rfl, hb16⟩
        have hD16' := HD15.out.trans (hb16.mono HD15.out.size)
        have HCB16 := (show Hid _ from HCB.out w16' (H6.out _ (HX8.out _ (HX9.out _ (HX12.out _ hD16')).1).1).1)
        have HD16 := (show Hid _ from hD16')
        clear HQN15 hb16 hD16' HD15 HQN
        go_wp2_with fail
        refine Calls.mono HCB16.out ?_
        rintro e w17' ⟨rfl, hb17', hX17, -⟩
        have hD17 := HD16.out.trans (hb17'.mono HD16.out.size)
        have HQB17 := (show Hid _ from HQB.out w17' _ _ (HX9.out _ (HX12.out _ hD17)).2.2.2.1 hX17)
        have HD17 := (show Hid _ from hD17)
        clear HCB16 hb17' hX17 hD17 HD16
        go_wp2_with fail
        refine Calls.mono HQB17.out ?_
        rintro e w16 ⟨rfl, hb16⟩
        have hD16 := HD17.out.trans (hb16.mono HD17.out.size)
        have h916 := HX12.out _ hD16
        obtain ⟨h816, -, mN16, -, mI16⟩ := HX9.out _ h916
        obtain ⟨h616, k0, k1, -, -, m5, m6, m7⟩ := HX8.out _ h816
        have HMG16 := (show Hid _ from HMG.out w16 _ _ _ m5 m6 m7)
        have H16 : Hid (Below W11.heap.size W11 w16 ∧ Below w9.heap.size w9 w16 ∧ Below W6.heap.size W6 w16 ∧ Mine w16 gt 0 tl ∧ MineI w16 gx bl) := ⟨hD16, h916, h616, mN16, mI16⟩
        clear HQB17 hb16 hD16 h916 h816 mN16 mI16 h616 m5 m6 m7 HD17 HQB HMG
        go_wp2_with fail
        refine Calls.mono HMG16.out ?_
        rintro e w17 ⟨rfl, t17⟩
        have hs16 := H16.out.2.1.size
        have hkb17 : KB (fun b => b < w9.heap.size) W11 w17 := (KB.of H16.out.1).trans (T := fun b => g2 ≤ b ∧ b < gp2 + 1) ⟨t17.1, t17.2.1, t17.2.2.1, t17.2.2.2.1, fun b hb hn => t17.2.2.2.2 b hb (by omega)⟩ (fun b _ hb => by omega)
        have h617 : Below W6.heap.size W6 w17 := H16.out.2.2.1.trans ((t17.below (by have := hM9e.out; have := H16.out.2.1.size; omega)).mono hg6)
        have mN17 : Mine w17 gt 0 tl := mine_block H16.out.2.2.2.1 t17.2.2.2.1 (t17.2.2.2.2 gt (by omega) (.inr (by omega)))
        have mI17 : MineI w17 gx bl := minei_block H16.out.2.2.2.2 t17.2.2.2.1 (t17.2.2.2.2 gx (by omega) (.inr (by omega)))
        have HMN17 := (show Hid _ from HMN.out w17 gt mN17)
        have H17 : Hid (KB (fun b => b < w9.heap.size) W11 w17 ∧ Below W6.heap.size W6 w17 ∧ MineI w17 gx bl) := ⟨hkb17, h617, mI17⟩
        clear HMG16 t17 hkb17 h617 mN17 mI17 H16 k0 k1 HMN hs16
        go_wp2_with fail
        refine Calls.mono HMN17.out ?_
        rintro e w18' ⟨rfl, g18'⟩
        have hkb18' : KB (fun b => b < w9.heap.size) W11 w18' := H17.out.1.grown g18' (fun y hy _ => by cases hy; exact hgtl)
        have h618' : Below W6.heap.size W6 w18' := H17.out.2.1.grown g18' H17.out.2.1.size (fun r hr => by cases hr; omega)
        have mI18 : MineI w18' gx bl := minei_block H17.out.2.2 g18'.size (g18'.block gx H17.out.2.2.1 (fun e => by cases e; omega))
        have HMI18 := (show Hid _ from HMI.out w18' gx mI18)
        have H18' : Hid (KB (fun b => b < w9.heap.size) W11 w18' ∧ Below W6.heap.size W6 w18') := ⟨hkb18', h618'⟩
        clear HMN17 g18' hkb18' h618' mI18 H17 HMI
        go_wp2_with fail
        refine Calls.mono HMI18.out ?_
        rintro e w18 ⟨rfl, g18⟩
        have hkb18 : KB (fun b => b < w9.heap.size) W11 w18 := H18'.out.1.grown g18 (fun y hy _ => by cases hy; exact hgxl)
        have h618 : Below W6.heap.size W6 w18 := H18'.out.2.grown g18 H18'.out.2.size (fun r hr => by cases hr; omega)
        obtain ⟨c0, c1, c2, c3⟩ := HX11.out w18 hkb18
        obtain ⟨-, d0, d1, d2⟩ := H6.out w18 h618
        have HQ18 := (show Hid _ from HQA.out w18 _ _ _ _ c2.read d2)
        have H18 : Hid (AnsI w18 (fun x => w9.heap.size ≤ x ∧ x < BG) (.slice a1 A.1.length ca1) (.slice b1 A.2.length cb1) A ∧ Below W6.heap.size W6 w18 ∧ BG < w18.heap.size) := ⟨c2, h618, c3⟩
        have c0' := c0
        have c1' := c1
        clear HMI18 g18 hkb18 h618 H18' c2 c3 d2
        go_wp2_with fail
        refine Calls.mono HQ18.out ?_
        rintro e w19 ⟨rfl, hb19⟩
        have e0 := (hb19.cell (p := ⟨BG, 0, none⟩) H18.out.2.2).trans c0
        have e1 := (hb19.cell (p := ⟨BG, 1, none⟩) H18.out.2.2).trans c1
        have hA19 : AnsI w19 (fun x => w9.heap.size ≤ x ∧ x < BG) (.slice a1 A.1.length ca1) (.slice b1 A.2.length cb1) A := H18.out.1.map hb19.size (fun b _ hl => hb19.block b hl) (fun _ _ h => h)
        have HMA19 := (show Hid _ from HMA.out w19 _ _ _ hA19)
        have H19 : Hid (Below W6.heap.size W6 w19 ∧ BG < w19.heap.size) := ⟨H18.out.2.1.trans (hb19.mono H18.out.2.1.size), Nat.lt_of_lt_of_le H18.out.2.2 hb19.size⟩
        clear HQ18 hb19 hA19 H18 c0 c1 c0' c1' d0 d1 HMA
        go_wp2_with fail
        refine Calls.mono HMA19.out ?_
        rintro e w20 ⟨rfl, hk20, hH20⟩
        have f0 := (hk20.cell (p := ⟨BG, 0, none⟩) H19.out.2 (by show ¬ (_ ∧ BG < BG); omega)).trans e0
        have f1 := (hk20.cell (p := ⟨BG, 1, none⟩) H19.out.2 (by show ¬ (_ ∧ BG < BG); omega)).trans e1
        have h620 : Below W6.heap.size W6 w20 := H19.out.1.trans ((hk20.below (n := w9.heap.size) (fun x _ h => h.1) (by have := H19.out.2; omega)).mono (by have := hW69.out; omega))
        have HHA20 := (show Hid _ from HHA.out w20 _ _ hH20)
        have H20 : Hid (Below W6.heap.size W6 w20 ∧ BG < w20.heap.size ∧ HeldG w20 (.slice a1 A.1.length ca1) (.slice b1 A.2.length cb1) A ∧ w20.cell? ⟨BG, 0, none⟩ = some (.slice a1 A.1.length ca1) ∧ w20.cell? ⟨BG, 1, none⟩ = some (.slice b1 A.2.length cb1)) := ⟨h620, Nat.lt_of_lt_of_le H19.out.2 hk20.size, hH20, f0, f1⟩
        clear HMA19 hk20 hH20 h620 H19 e0 e1
        go_wp2_with fail
        refine Calls.mono HHA20.out ?_
        rintro e w21 ⟨rfl, hb21⟩
        have h621 := H20.out.1.trans (hb21.mono H20.out.1.size)
        have h121 := (H6.out _ h621).1
        obtain ⟨-, -, q0, q1⟩ := HF.out _ h121
        have HC21 := (show Hid _ from HC.out w21 h121)
        have H21 : Hid (Below w20.heap.size w20 w21) := hb21
        clear HHA20 hb21 h621 h121 f0 f1 HC
        go_wp2_with fail
        refine Calls.mono HC21.out ?_
        rintro e w22 ⟨g4, gp4, hi4, rfl, hb22, hE22, hS22, -⟩
        have hb2022 := H21.out.trans (hb22.mono H21.out.size)
        have HCN22 := (show Hid _ from HCN.out w22 (H6.out _ (H20.out.1.trans (hb2022.mono H20.out.1.size))).1)
        have H22 : Hid (Below w20.heap.size w20 w22 ∧ ESl w22 (some ⟨g4, 0, none⟩) len p ∧ Sl w22 (some ⟨gp4, 0, none⟩) lb l) := ⟨hb2022, hE22, hS22⟩
        clear HC21 hb22 hb2022 hE22 hS22 H21 q0 q1 HCN
        go_wp2_with fail
        refine Calls.mono HCN22.out ?_
        rintro e v23 ⟨rfl, hb23', hN23', -⟩
        have hb2023' := H22.out.1.trans (hb23'.mono H22.out.1.size)
        have HCB23 := (show Hid _ from HCB.out v23 (H6.out _ (H20.out.1.trans (hb2023'.mono H20.out.1.size))).1)
        have H23' : Hid (Below w20.heap.size w20 v23 ∧ ESl v23 (some ⟨g4, 0, none⟩) len p ∧ Sl v23 (some ⟨gp4, 0, none⟩) lb l ∧ NSl v23 (some ⟨w22.heap.size, 0, none⟩) tl t) := ⟨hb2023', H22.out.2.1.keep hb23', H22.out.2.2.keep hb23', hN23'⟩
        clear HCN22 hb23' hN23' hb2023' H22 HCB
        go_wp2_with fail
        refine Calls.mono HCB23.out ?_
        rintro e w23 ⟨rfl, hb23, hX23, -⟩
        have hb2023 := H23'.out.1.trans (hb23.mono H23'.out.1.size)
        have HI23 := (show Hid _ from HIm.out w23 _ _ _ _ (HF.out _ (H6.out _ (H20.out.1.trans (hb2023.mono H20.out.1.size))).1).2.1 (H23'.out.2.1.keep hb23) (H23'.out.2.2.1.keep hb23) (H23'.out.2.2.2.keep hb23) hX23)
        have H23 : Hid (Below w20.heap.size w20 w23) := hb2023
        clear HCB23 hb23 hX23 hb2023 H23' HIm
        go_wp2_with fail
        refine Calls.mono HI23.out ?_
        rintro e w24 ⟨ha, hb', rfl, hA24, hb24⟩
        obtain ⟨a2, ca2, b2, cb2, rfl, rfl, -⟩ := hA24.reads
        have hb2024 := H23.out.trans (hb24.mono H23.out.size)
        obtain ⟨W25, hW25⟩ : ∃ W25, w24.alloc (.cells #[.slice a2 A.1.length ca2, .slice b2 A.2.length cb2] 32) = W25 := ⟨_, rfl⟩
        have hb25 : Below w24.heap.size w24 W25 := by rw [← hW25]; exact (Below.refl _ _).alloc (Nat.le_refl _) _
        have x0 : W25.cell? ⟨w24.heap.size, 0, none⟩ = some (.slice a2 A.1.length ca2) := by rw [← hW25]; simp [go_sem]
        have x1 : W25.cell? ⟨w24.heap.size, 1, none⟩ = some (.slice b2 A.2.length cb2) := by rw [← hW25]; simp [go_sem]
        have hb2025 := hb2024.trans (hb25.mono hb2024.size)
        obtain ⟨-, d0, d1, d2⟩ := H6.out _ (H20.out.1.trans (hb2025.mono H20.out.1.size))
        have HQ25 := (show Hid _ from HQA.out W25 _ _ _ _ (hA24.read.keep hb25) d2)
        have H25 : Hid (Below w20.heap.size w20 W25) := hb2025
        clear HI23 hA24 hb24 hb2024 hb25 hb2025 d2 H23 HQA
        go_wp2_with fail
        (try rw [hW25])
        refine Calls.mono HQ25.out ?_
        rintro e w26 ⟨rfl, hb26⟩
        have hb2026 := H25.out.trans (hb26.mono H25.out.size)
        have y0 := (hb2026.cell (p := ⟨BG, 0, none⟩) H20.out.2.1).trans H20.out.2.2.2.1
        have y1 := (hb2026.cell (p := ⟨BG, 1, none⟩) H20.out.2.1).trans H20.out.2.2.2.2
        have HHA26 := (show Hid _ from HHA.out w26 _ _ (H20.out.2.2.1.keep hb2026))
        have H26 := (show Hid _ from H20.out.1.trans (hb2026.mono H20.out.1.size))
        clear HQ25 hb26 hb2026 H25 H20 d0 d1 x0 x1 hW25 HHA
        go_wp2_with fail
        refine Calls.mono HHA26.out ?_
        rintro e w27 ⟨rfl, hb27⟩
        have HE := (show Hid _ from (HF.out _ (H6.out _ (H26.out.trans (hb27.mono H26.out.size))).1).1)
        clear HHA26 H26 hb27 HF H6 HX8 HX9 HX11 HX12
        go_wp2
        go_ret
        exact ⟨rfl, HE.out⟩
    · rw [if_neg htn] at HZ2
      clear h hl hb1 ht hll hl1 z0 z1 z2 z3 z4 hn hn2 hI hN hv hIt hsN htn hst
      go_enter Tryd.func6, Tryd.ntmps6
      go_wp2_with fail
      (try rw [hW1])
      refine Calls.mono HZ.out ?_
      rintro e w2 ⟨rfl, hb2⟩
      clear HZ hW1
      go_wp2_with fail
      refine Calls.mono (HZ2.out _) ?_
      rintro e w2' ⟨rfl, rfl⟩
      clear HZ2
      go_wp2
      go_ret
      exact ⟨rfl, (HF.out _ hb2).1⟩
end Go.Proofs.YthgcicidenmnfaaDoor
