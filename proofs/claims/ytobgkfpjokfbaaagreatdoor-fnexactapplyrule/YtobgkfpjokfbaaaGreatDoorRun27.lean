/-
  PROVED HERE: what the program's IsMatch answers, at every graph, list of nodes, class and bind, in a world whose table of arities is laid. No other condition. plain facts on parts that are closed over the nodes of a graph: there is one least such joining. No condition. the program's way of closing parts, as steps on lists alone: what is due is of one shape, what is found is of its shape, and where nothing is due nodes of one shape are of one part. No condition.
-/
import Derived.Test.YtobgkfpjokfbaaaGreatDoorRun25
import Derived.Test.YtobgkfpjokfbaaaGreatDoorRun26
import Derived.Test.YtobgkfpjokfbaaaGreatDoorRun18
import Derived.Test.YtobgkfpjokfbaaaGreatDoorRun4
namespace Go.Proofs.YtobgkfpjokfbaaaGreatDoor
open Go.ChangeShapes Go.WideShapes Go.ChangeAt Go.RowKit
set_option linter.unusedVariables false

/-- What is asked for a match. -/
def askB (p : List EN) (l : List Int) (t : List (Int × Int)) (c : Int) (bs : List Int) : Bool := graphB p l && patB t && clB l c && bindB l bs
/-- The class that is found for a pattern with a bind. -/
def foundM (p : List EN) (l : List Int) (t : List (Int × Int)) (bs : List Int) : Option Int := (runO (clsBf bs) t ((p, l), [])).map fun r => r.2.getD 0 0
def isM (p : List EN) (l : List Int) (t : List (Int × Int)) (c : Int) (bs : List Int) : Bool := askB p l t c bs && decide (foundM p l t bs = some c)
set_option maxHeartbeats 3200000 in
set_option maxRecDepth 20000 in
theorem implIsMatch_any (a b : Option Addr) (len cap lb cb : Nat) (p : List EN) (l : List Int) (ta : Option Addr) (tl tc : Nat) (t : List (Int × Int)) (c : Int) (ba : Option Addr) (bl bc : Nat) (bs : List Int) (w : World) (hT : Tab w) (h : ESl w a len p) (hl : Sl w b lb l) (ht : NSl w ta tl t) (hv : Sl w ba bl bs) (hI : InE p) (hIt : ∀ k, k < t.length → InI (t.getD k (0, 0)).2) (hm2 : lb ≤ 9223372036854775807) (hm3 : tl ≤ 9223372036854775807) (hm4 : bl ≤ 9223372036854775807) :
    Calls Tryz.prog 28 #[.agg #[.slice a len cap, .slice b lb cb], .slice ta tl tc, .int .i64 c, .slice ba bl bc] w fun e w' => e = .returned (.tuple #[.bool (isM p l t c bs), .bool (askB p l t c bs)]) ∧ Below w.heap.size w w' := by
  have hll := h.1
  have htl := ht.1
  have hvl := hv.1
  have hmf : ∀ (fn : Fn) (first cap : Array Value) (w : World), (Instr.makeFunc fn first cap).run Tryz.prog w = .ok (.func fn first cap) w := fun _ _ _ _ => rfl
  obtain ⟨W1, hW1⟩ : ∃ W1, w.alloc (.cells #[.slice a len cap, .slice b lb cb] 36) = W1 := ⟨_, rfl⟩
  have hb1 : Below w.heap.size w W1 := by rw [← hW1]; exact (Below.refl _ _).alloc (Nat.le_refl _) _
  have hs1 : w.heap.size < W1.heap.size := by rw [← hW1]; simp
  have n0 : W1.cell? ⟨w.heap.size, 0, none⟩ = some (.slice a len cap) := by rw [← hW1]; simp [go_sem]
  have n1 : W1.cell? ⟨w.heap.size, 1, none⟩ = some (.slice b lb cb) := by rw [← hW1]; simp [go_sem]
  have HG := (show Hid _ from implGraph_any a b len cap lb cb p l W1 (hT.keeps hb1) (h.keep hb1) (hl.keep hb1) hm2 hI)
  have HGt : Hid (∀ W, Below W1.heap.size W1 W → Calls Tryz.prog 52 #[.slice ta tl tc] W fun e w' => e = .returned (.bool (patB t)) ∧ Below W.heap.size W w') := fun W hW => implPat_any ta tl tc t W ((hT.keeps hb1).keeps hW) ((ht.keep hb1).keep hW) hm3
  have HF : Hid (∀ W, Below W1.heap.size W1 W → Below w.heap.size w W ∧ W.cell? ⟨w.heap.size, 0, none⟩ = some (.slice a len cap) ∧ W.cell? ⟨w.heap.size, 1, none⟩ = some (.slice b lb cb)) := fun W hW => ⟨hb1.trans (hW.mono hb1.size), (hW.cell (p := ⟨w.heap.size, 0, none⟩) hs1).trans n0, (hW.cell (p := ⟨w.heap.size, 1, none⟩) hs1).trans n1⟩
  cases hgb : graphB p l with
  | false =>
    have hno : askB p l t c bs = false := by unfold askB; rw [hgb]; rfl
    have hni : isM p l t c bs = false := by unfold isM; rw [hno]; rfl
    rw [hno, hni]
    rw [hgb] at HG
    clear h hl ht hv hb1 hT HGt hno hni
    go_enter Tryz.func28, Tryz.ntmps28
    go_wp2_with fail
    (try rw [hW1])
    refine Calls.mono HG.out ?_
    rintro e w2 ⟨rfl, hb2⟩
    have HB := (show Hid _ from (HF.out w2 hb2).1)
    clear HG hW1 HF hb2
    go_wp2
    go_ret2
    exact ⟨rfl, HB.out⟩
  | true =>
    rw [hgb] at HG
    cases hgt : patB t with
    | false =>
      have hno : askB p l t c bs = false := by unfold askB; rw [hgb, hgt]; rfl
      have hni : isM p l t c bs = false := by unfold isM; rw [hno]; rfl
      rw [hno, hni]
      rw [hgt] at HGt
      clear h hl ht hv hb1 hT hno hni
      go_enter Tryz.func28, Tryz.ntmps28
      go_wp2_with fail
      (try rw [hW1])
      refine Calls.mono HG.out ?_
      rintro e w2 ⟨rfl, hb2⟩
      have HT2 := (show Hid _ from HGt.out w2 hb2)
      have HB2 := (show Hid _ from hb2)
      clear HG hW1 HGt hb2
      go_wp2_with fail
      refine Calls.mono HT2.out ?_
      rintro e w3 ⟨rfl, hb3⟩
      have HB := (show Hid _ from (HF.out w3 (HB2.out.trans (hb3.mono HB2.out.size))).1)
      clear HT2 HF hb3
      go_wp2
      go_ret2
      exact ⟨rfl, HB.out⟩
    | true =>
      rw [hgt] at HGt
      obtain ⟨h120, hgood⟩ := (graphB_good p l).1 hgb
      have hgT : goodB t = true := by unfold patB at hgt; simp only [Bool.and_eq_true] at hgt; exact hgt.1
      obtain ⟨hp, ht1, ht40⟩ := good_pile hgT
      have hlp := hgood.2.1
      simp only at hlp
      have hl1 := hl.1
      obtain rfl : lb = len := by omega
      have HK : Hid (∀ W, Below W1.heap.size W1 W → Calls Tryz.prog 53 #[.agg #[.slice a lb cap, .slice b lb cb], .int .i64 c] W fun e w' => e = .returned (.bool (clB l c)) ∧ Below W.heap.size W w') := fun W hW => implClass_any a b lb cap cb l c W ((hl.keep hb1).keep hW) (by omega)
      have HV : Hid (∀ W, Below W1.heap.size W1 W → Calls Tryz.prog 54 #[.agg #[.slice a lb cap, .slice b lb cb], .slice ba bl bc] W fun e w' => e = .returned (.bool (bindB l bs)) ∧ Below W.heap.size W w') := fun W hW => implBind_any a b ba lb cap cb bl bc l bs W ((hl.keep hb1).keep hW) ((hv.keep hb1).keep hW) (by omega) hm4
      cases hkb : clB l c with
      | false =>
        have hno : askB p l t c bs = false := by unfold askB; rw [hgb, hgt, hkb]; rfl
        have hni : isM p l t c bs = false := by unfold isM; rw [hno]; rfl
        rw [hno, hni]
        rw [hkb] at HK
        clear h hl ht hv hb1 hT hno hni hgood hp hgb hgt hgT hI hIt hlp hl1 HV
        go_enter Tryz.func28, Tryz.ntmps28
        go_wp2_with fail
        (try rw [hW1])
        refine Calls.mono HG.out ?_
        rintro e w2 ⟨rfl, hb2⟩
        have HT2 := (show Hid _ from HGt.out w2 hb2)
        have HB2 := (show Hid _ from hb2)
        clear HG hW1 HGt hb2
        go_wp2_with fail
        refine Calls.mono HT2.out ?_
        rintro e w3 ⟨rfl, hb3⟩
        have hB3 := HB2.out.trans (hb3.mono HB2.out.size)
        obtain ⟨-, g0, g1⟩ := HF.out w3 hB3
        have HK3 := (show Hid _ from HK.out w3 hB3)
        have HB3' := (show Hid _ from hB3)
        clear HT2 hb3 HB2 HK hB3
        go_wp2_with fail
        refine Calls.mono HK3.out ?_
        rintro e w4 ⟨rfl, hb4⟩
        clear g0 g1
        have HB := (show Hid _ from (HF.out w4 (HB3'.out.trans (hb4.mono HB3'.out.size))).1)
        clear HK3 HF hb4 HB3'
        go_wp2
        go_ret2
        exact ⟨rfl, HB.out⟩
      | true =>
        rw [hkb] at HK
        cases hbb : bindB l bs with
        | false =>
          have hno : askB p l t c bs = false := by unfold askB; rw [hgb, hgt, hkb, hbb]; rfl
          have hni : isM p l t c bs = false := by unfold isM; rw [hno]; rfl
          rw [hno, hni]
          rw [hbb] at HV
          clear h hl ht hv hb1 hT hno hni hgood hp hgb hgt hgT hI hIt hlp hl1
          go_enter Tryz.func28, Tryz.ntmps28
          go_wp2_with fail
          (try rw [hW1])
          refine Calls.mono HG.out ?_
          rintro e w2 ⟨rfl, hb2⟩
          have HT2 := (show Hid _ from HGt.out w2 hb2)
          have HB2 := (show Hid _ from hb2)
          clear HG hW1 HGt hb2
          go_wp2_with fail
          refine Calls.mono HT2.out ?_
          rintro e w3 ⟨rfl, hb3⟩
          have hB3 := HB2.out.trans (hb3.mono HB2.out.size)
          obtain ⟨-, g0, g1⟩ := HF.out w3 hB3
          have HK3 := (show Hid _ from HK.out w3 hB3)
          have HB3' := (show Hid _ from hB3)
          clear HT2 hb3 HB2 HK hB3
          go_wp2_with fail
          refine Calls.mono HK3.out ?_
          rintro e w4 ⟨rfl, hb4⟩
          clear g0 g1
          have hB4 := HB3'.out.trans (hb4.mono HB3'.out.size)
          obtain ⟨-, g0, g1⟩ := HF.out w4 hB4
          have HV4 := (show Hid _ from HV.out w4 hB4)
          have HB4 := (show Hid _ from hB4)
          clear HK3 hb4 HB3' HV hB4
          go_wp2_with fail
          refine Calls.mono HV4.out ?_
          rintro e w5 ⟨rfl, hb5⟩
          clear g0 g1
          have HB := (show Hid _ from (HF.out w5 (HB4.out.trans (hb5.mono HB4.out.size))).1)
          clear HV4 HF hb5 HB4
          go_wp2
          go_ret2
          exact ⟨rfl, HB.out⟩
        | true =>
          rw [hbb] at HV
          have hyes : askB p l t c bs = true := by unfold askB; rw [hgb, hgt, hkb, hbb]; rfl
          have hism : isM p l t c bs = decide (foundM p l t bs = some c) := by unfold isM; rw [hyes, Bool.true_and]
          rw [hism, hyes]
          obtain ⟨tb, to, rfl, htb, _⟩ := ht.at (by omega)
          have hb4 := bindB_len hbb
          obtain rfl : bl = 4 := by omega
          obtain ⟨vb, vo, rfl, hvb, hvc⟩ : ∃ b off, ba = some ⟨b, off, none⟩ ∧ b < w.heap.size ∧ ∀ i, i < 4 → w.cell? ⟨b, off + i, none⟩ = some (.int .i64 (bs.getD i 0)) := by
            rcases hv.2 with h0 | h0
            · omega
            · exact h0
          have hcl : ∀ c ∈ bs, c = -1 ∨ IsCl (p, l) c := fun c hc => by
            rcases bindB_each hbb c hc with h | h
            · exact .inl h
            · exact .inr ((isCl_iff hgood c).1 h)
          have HS : Hid (∀ W, Below W1.heap.size W1 W → Calls Tryz.prog 57 #[.agg #[.slice a lb cap, .slice b lb cb]] W fun e w' => ∃ s m, e = .returned (.pointer (some ⟨s, 0, none⟩)) ∧ Shelf w' (fun b => W.heap.size ≤ b) s m (p, l) ∧ Below W.heap.size W w') := fun W hW => shelfOf_any a b lb cap cb p l W ((h.keep hb1).keep hW) ((hl.keep hb1).keep hW) hgood (by omega) hI
          have HCl : Hid (∀ (W3 W4 W : World) (s m : Nat), Below W1.heap.size W1 W3 → Below W3.heap.size W3 W4 → Shelf W4 (fun b => W3.heap.size ≤ b) s m (p, l) → Below W4.heap.size W4 W → W.heap.size = W4.heap.size + 2 → W.cell? ⟨W4.heap.size, 0, none⟩ = some (.slice (some ⟨vb, vo, none⟩) 4 bc) → W.cell? ⟨W4.heap.size + 1, 0, none⟩ = some (.func (.func 58) #[.pointer (some ⟨s, 0, none⟩)] #[]) → Calls Tryz.prog 55 #[.slice (some ⟨tb, to, none⟩) tl tc, .func (.func 82) #[] #[.pointer (some ⟨W4.heap.size, 0, none⟩), .pointer (some ⟨W4.heap.size + 1, 0, none⟩)]] W fun e w' => e = .returned (.tuple #[.int .i64 ((foundM p l t bs).getD 0), .bool (foundM p l t bs).isSome]) ∧ Below W3.heap.size W3 w') := fun W3 W4 W s m h13 h34 hSh h4W hsz hc0 hc1 => by
            have h3W := h34.trans (h4W.mono h34.size)
            have hB := h13.trans (h3W.mono h13.size)
            have z1 := h13.size
            have z2 := h34.size
            have hSB : ShelfB W.heap.size s m W4.heap.size (W4.heap.size + 1) vb vo bc (.func (.func 58) #[.pointer (some ⟨s, 0, none⟩)] #[]) bs W (fun b => W3.heap.size ≤ b) (p, l) := by
              refine ⟨fun b => W3.heap.size ≤ b ∧ b < W4.heap.size, hSh.map h4W.size (fun b _ hl => h4W.block b hl) (fun b hl h => ⟨h, hl⟩), fun b hb => ?_, ⟨hc0, hc1, fun i hi => ?_, ⟨by omega, by omega, by omega⟩, Nat.le_refl _⟩, hcl⟩
              · have h1 := hb.1
                have h2 := hb.2
                exact ⟨by omega, h1, by omega, by omega, by omega⟩
              · exact ((hb1.trans (hB.mono hb1.size)).cell (p := ⟨vb, vo + i, none⟩) hvb).trans (hvc i hi)
            refine (clsW_any W4.heap.size (W4.heap.size + 1) W.heap.size dflB (clsBf bs) (clsBf_keeps bs) (fun W' S g => ShelfB W.heap.size s m W4.heap.size (W4.heap.size + 1) vb vo bc (.func (.func 58) #[.pointer (some ⟨s, 0, none⟩)] #[]) bs W' S g) (fun W W' S S' g hR hs hk hN hS => hR.map hs hk hN hS) (fun W' S g n a m' cap kids hR hg h120 hk ha hf => withFind_any W.heap.size s m W4.heap.size (W4.heap.size + 1) vb vo bc bs hb4 W' S g n a m' cap kids hR hg h120 hk ha hf) hp hIt tb to tl tc (by omega) (by omega) W (fun b => W3.heap.size ≤ b) (p, l) ((ht.keep hb1).keep hB) hSB hgood h120 (by omega) (Nat.le_refl _) (fun W' hW' => ?_)).mono ?_
            · have hb3 : Below W3.heap.size W3 W' := h3W.trans (hW'.below (fun x _ h => h) h3W.size)
              exact ((hT.keeps hb1).keeps h13).keeps hb3
            · rintro e w' ⟨h1, h2, h3⟩
              refine ⟨?_, h3W.trans (h2.below (fun x _ h => h) h3W.size)⟩
              rw [h1]
              unfold foundM
              rw [Option.isSome_map]
          clear h hl ht hv hb1 hT hgood hp hgb hgt hgT hkb hbb hcl hvc hI hIt hlp hl1 htb h120 hb4 hvb hvl hism hyes
          cases hO : foundM p l t bs with
          | none =>
            rw [hO] at HCl
            simp only [Option.getD_none, Option.isSome_none] at HCl
            have e9 : decide ((none : Option Int) = some c) = false := by simp
            rw [e9]
            clear hO e9
            go_enter Tryz.func28, Tryz.ntmps28
            go_wp2_with fail
            (try rw [hW1])
            refine Calls.mono HG.out ?_
            rintro e w2 ⟨rfl, hb2⟩
            have HT2 := (show Hid _ from HGt.out w2 hb2)
            have HB2 := (show Hid _ from hb2)
            clear HG hW1 HGt hb2
            go_wp2_with fail
            refine Calls.mono HT2.out ?_
            rintro e w3 ⟨rfl, hb3⟩
            have hB3 := HB2.out.trans (hb3.mono HB2.out.size)
            obtain ⟨-, g0, g1⟩ := HF.out w3 hB3
            have HK3 := (show Hid _ from HK.out w3 hB3)
            have HB3' := (show Hid _ from hB3)
            clear HT2 hb3 HB2 HK hB3
            go_wp2_with fail
            refine Calls.mono HK3.out ?_
            rintro e w4 ⟨rfl, hb4⟩
            clear g0 g1
            have hB4 := HB3'.out.trans (hb4.mono HB3'.out.size)
            obtain ⟨-, g0, g1⟩ := HF.out w4 hB4
            have HV4 := (show Hid _ from HV.out w4 hB4)
            have HB4 := (show Hid _ from hB4)
            clear HK3 hb4 HB3' HV hB4
            go_wp2_with fail
            refine Calls.mono HV4.out ?_
            rintro e w5 ⟨rfl, hb5⟩
            clear g0 g1
            have hB5 := HB4.out.trans (hb5.mono HB4.out.size)
            obtain ⟨-, g0, g1⟩ := HF.out w5 hB5
            have HS5 := (show Hid _ from HS.out w5 hB5)
            have HB3 := (show Hid _ from hB5)
            clear HV4 hb5 HB4 HS hB5
            go_wp2_with fail
            refine Calls.mono HS5.out ?_
            rintro e w6 ⟨s, m, rfl, hSh, hb6⟩
            have HW6 := (show Hid _ from withBind_any (some ⟨vb, vo, none⟩) 4 bc (.func 58) #[.pointer (some ⟨s, 0, none⟩)] #[] w6)
            have HC6 := (show Hid _ from HCl.out w5 w6)
            have HH6 := (show Hid _ from And.intro hSh hb6)
            clear HS5 HCl hSh hb6 g0 g1
            go_wp2_with fail
            refine Calls.mono HW6.out ?_
            rintro e w7 ⟨rfl, hb7, hz7, hx7, hy7⟩
            have HC7 := (show Hid _ from HC6.out w7 s m HB3.out HH6.out.2 HH6.out.1 hb7 hz7 hx7 hy7)
            clear HW6 HC6 HH6 hb7 hz7 hx7 hy7
            go_wp2_with fail
            refine Calls.mono HC7.out ?_
            rintro e w8 ⟨rfl, hb8⟩
            have HB := (show Hid _ from (HF.out w8 (HB3.out.trans (hb8.mono HB3.out.size))).1)
            clear HC7 hb8 HF HB3
            go_wp2
            go_ret2
            exact ⟨rfl, HB.out⟩
          | some C =>
            rw [hO] at HCl
            simp only [Option.getD_some, Option.isSome_some] at HCl
            have e9 : decide ((some C : Option Int) = some c) = (C == c) := by
              by_cases hcc : C = c
              · simp [hcc]
              · simp [hcc]
            rw [e9]
            clear hO e9
            go_enter Tryz.func28, Tryz.ntmps28
            go_wp2_with fail
            (try rw [hW1])
            refine Calls.mono HG.out ?_
            rintro e w2 ⟨rfl, hb2⟩
            have HT2 := (show Hid _ from HGt.out w2 hb2)
            have HB2 := (show Hid _ from hb2)
            clear HG hW1 HGt hb2
            go_wp2_with fail
            refine Calls.mono HT2.out ?_
            rintro e w3 ⟨rfl, hb3⟩
            have hB3 := HB2.out.trans (hb3.mono HB2.out.size)
            obtain ⟨-, g0, g1⟩ := HF.out w3 hB3
            have HK3 := (show Hid _ from HK.out w3 hB3)
            have HB3' := (show Hid _ from hB3)
            clear HT2 hb3 HB2 HK hB3
            go_wp2_with fail
            refine Calls.mono HK3.out ?_
            rintro e w4 ⟨rfl, hb4⟩
            clear g0 g1
            have hB4 := HB3'.out.trans (hb4.mono HB3'.out.size)
            obtain ⟨-, g0, g1⟩ := HF.out w4 hB4
            have HV4 := (show Hid _ from HV.out w4 hB4)
            have HB4 := (show Hid _ from hB4)
            clear HK3 hb4 HB3' HV hB4
            go_wp2_with fail
            refine Calls.mono HV4.out ?_
            rintro e w5 ⟨rfl, hb5⟩
            clear g0 g1
            have hB5 := HB4.out.trans (hb5.mono HB4.out.size)
            obtain ⟨-, g0, g1⟩ := HF.out w5 hB5
            have HS5 := (show Hid _ from HS.out w5 hB5)
            have HB3 := (show Hid _ from hB5)
            clear HV4 hb5 HB4 HS hB5
            go_wp2_with fail
            refine Calls.mono HS5.out ?_
            rintro e w6 ⟨s, m, rfl, hSh, hb6⟩
            have HW6 := (show Hid _ from withBind_any (some ⟨vb, vo, none⟩) 4 bc (.func 58) #[.pointer (some ⟨s, 0, none⟩)] #[] w6)
            have HC6 := (show Hid _ from HCl.out w5 w6)
            have HH6 := (show Hid _ from And.intro hSh hb6)
            clear HS5 HCl hSh hb6 g0 g1
            go_wp2_with fail
            refine Calls.mono HW6.out ?_
            rintro e w7 ⟨rfl, hb7, hz7, hx7, hy7⟩
            have HC7 := (show Hid _ from HC6.out w7 s m HB3.out HH6.out.2 HH6.out.1 hb7 hz7 hx7 hy7)
            clear HW6 HC6 HH6 hb7 hz7 hx7 hy7
            go_wp2_with fail
            refine Calls.mono HC7.out ?_
            rintro e w8 ⟨rfl, hb8⟩
            have HB := (show Hid _ from (HF.out w8 (HB3.out.trans (hb8.mono HB3.out.size))).1)
            clear HC7 hb8 HF HB3
            go_wp2
            go_ret2
            exact ⟨rfl, HB.out⟩
end Go.Proofs.YtobgkfpjokfbaaaGreatDoor
namespace Go.Proofs.YtobgkfpjokfbaaaGreatDoor
set_option linter.unusedVariables false

/-- Good parts of n numbers. -/
def PartsN (n : Nat) (l : List Int) : Prop := l.length = n ∧ Par l ∧ Flat l
/-- What is of one part in the first is so in the second. -/
def FinerL (l m : List Int) : Prop := ∀ i j, i < l.length → j < l.length → l.getD i 0 = l.getD j 0 → m.getD i 0 = m.getD j 0
theorem finer_refl (l : List Int) : FinerL l l := fun _ _ _ _ h => h
theorem finer_trans {n : Nat} {l m q : List Int} (hl : l.length = n) (hm : m.length = n) (h : FinerL l m) (h' : FinerL m q) : FinerL l q := fun i j hi hj e => h' i j (by omega) (by omega) (h i j hi hj e)
theorem part_nat {n : Nat} {l : List Int} (h : PartsN n l) {k : Nat} (hk : k < n) : ∃ a : Nat, l.getD k 0 = a ∧ a ≤ k ∧ l.getD a 0 = a := by
  obtain ⟨h1, h2, h3⟩ := h
  have e := h2 k (by omega)
  have f := h3 k (by omega)
  refine ⟨(l.getD k 0).toNat, by omega, by omega, ?_⟩
  rw [f]; omega
/-- Parts that are finer than each other are the same. -/
theorem finer_anti {n : Nat} {l m : List Int} (hl : PartsN n l) (hm : PartsN n m) (h : FinerL l m) (h' : FinerL m l) : l = m := by
  refine list_ext (by rw [hl.1, hm.1]) fun k hk => ?_
  have hk' : k < n := by rw [← hl.1]; exact hk
  obtain ⟨a, a1, a2, a3⟩ := part_nat hl hk'
  obtain ⟨b, b1, b2, b3⟩ := part_nat hm hk'
  have e1 : m.getD a 0 = m.getD k 0 := h a k (by have := hl.1; omega) hk (by rw [a3, a1])
  have e2 : l.getD b 0 = l.getD k 0 := h' b k (by have := hm.1; omega) (by have := hm.1; omega) (by rw [b3, b1])
  obtain ⟨c, c1, c2, _⟩ := part_nat hm (show a < n by omega)
  obtain ⟨d, d1, d2, _⟩ := part_nat hl (show b < n by omega)
  omega
theorem joinPL_parts {n : Nat} {l : List Int} (h : PartsN n l) {a b : Nat} (ha : a < n) (hb : b < n) : PartsN n (joinPL l a b) := by
  obtain ⟨h1, h2, h3⟩ := h
  have e := join_flat h2 h3 (show a < l.length by omega) (show b < l.length by omega)
  have hu := union_par h2 (show a < l.length by omega) (show b < l.length by omega)
  rw [← e]
  exact ⟨by rw [flat_length, union_len]; exact h1, flat_par hu, flat_flat hu⟩
theorem joinPL_finer {l : List Int} (a b : Nat) : FinerL l (joinPL l a b) := fun i j hi hj e => by
  rw [join_get l a b hi, join_get l a b hj, e]
theorem joinPL_one {n : Nat} {l : List Int} (h : PartsN n l) {a b : Nat} (ha : a < n) (hb : b < n) : (joinPL l a b).getD a 0 = (joinPL l a b).getD b 0 := by
  rw [join_get l a b (by have := h.1; omega), join_get l a b (by have := h.1; omega)]
  generalize l.getD a 0 = x
  generalize l.getD b 0 = y
  by_cases e : x ≤ y
  · rw [show max x y = y by omega, show min x y = x by omega]
    split <;> simp_all
  · rw [show max x y = x by omega, show min x y = y by omega]
    split <;> simp_all
/-- Joining what is one already in coarser parts stays finer than these. -/
theorem joinPL_least {n : Nat} {l m : List Int} (hl : PartsN n l) {a b : Nat} (ha : a < n) (hb : b < n) (h : FinerL l m) (e : m.getD a 0 = m.getD b 0) : FinerL (joinPL l a b) m := by
  intro i j hi hj hij
  rw [join_len] at hi hj
  have hL := hl.1
  rw [join_get l a b hi, join_get l a b hj] at hij
  have key : ∀ k, k < l.length → (l.getD k 0 = max (l.getD a 0) (l.getD b 0) ∨ l.getD k 0 = min (l.getD a 0) (l.getD b 0)) → m.getD k 0 = m.getD a 0 := by
    intro k hk hc
    by_cases e1 : l.getD k 0 = l.getD a 0
    · exact h k a hk (by omega) e1
    · have e2 : l.getD k 0 = l.getD b 0 := by omega
      rw [h k b hk (by omega) e2, e]
  by_cases c1 : l.getD i 0 = max (l.getD a 0) (l.getD b 0)
  · rw [if_pos c1] at hij
    by_cases c2 : l.getD j 0 = max (l.getD a 0) (l.getD b 0)
    · rw [key i hi (.inl c1), key j hj (.inl c2)]
    · rw [if_neg c2] at hij
      rw [key i hi (.inl c1), key j hj (.inr hij.symm)]
  · rw [if_neg c1] at hij
    by_cases c2 : l.getD j 0 = max (l.getD a 0) (l.getD b 0)
    · rw [if_pos c2] at hij
      rw [key i hi (.inr hij), key j hj (.inl c2)]
    · rw [if_neg c2] at hij
      exact h i j hi hj hij
/-- Nodes of one shape are of one part. -/
def Cong (p : List EN) (l : List Int) : Prop := ∀ i j, i < p.length → j < p.length → shO l (p.getD i e0) = shO l (p.getD j e0) → l.getD i 0 = l.getD j 0
/-- A shape that is shared stays so in coarser parts. -/
theorem sh_coarse {n : Nat} {p : List EN} {l m : List Int} (hN : nodesB p = true) (hp : p.length = n) (hl : l.length = n) (h : FinerL l m) {i j : Nat} (hi : i < n) (hj : j < n) (e : shO l (p.getD i e0) = shO l (p.getD j e0)) : shO m (p.getD i e0) = shO m (p.getD j e0) := by
  have hf := ((nodesB_iff p).1 hN).2
  have fi := fit_node (hf i (by omega))
  have fj := fit_node (hf j (by omega))
  have ki := fun t ht => kid_natI (k := i) (j := t) hN (by omega) ht
  have kj := fun t ht => kid_natI (k := j) (j := t) hN (by omega) ht
  revert e fi fj ki kj
  generalize p.getD i e0 = x
  generalize p.getD j e0 = y
  obtain ⟨xo, xn, xk⟩ := x
  obtain ⟨yo, yn, yk⟩ := y
  intro e fi fj ki kj
  simp only [shO, Prod.mk.injEq] at e ⊢
  simp only at fi fj ki kj
  obtain ⟨e1, e2, h0, h1, h2⟩ := e
  subst e1
  have hlen : xk.length = yk.length := by omega
  have one : ∀ t, partOf l xk t = partOf l yk t → partOf m xk t = partOf m yk t := by
    intro t ht
    unfold partOf at ht ⊢
    by_cases ht1 : t < xk.length
    · rw [if_pos ht1, if_pos (by omega)] at ht ⊢
      obtain ⟨a, a1, a2⟩ := ki t ht1
      obtain ⟨b, b1, b2⟩ := kj t (by omega)
      rw [a1, b1, Int.toNat_natCast, Int.toNat_natCast] at ht ⊢
      exact h a b (by omega) (by omega) ht
    · rw [if_neg ht1, if_neg (by omega)]
  exact ⟨rfl, e2, one 0 h0, one 1 h1, one 2 h2⟩
/-- The least joining of l0 that is closed. -/
def Closure (p : List EN) (l0 c : List Int) : Prop := PartsN p.length c ∧ FinerL l0 c ∧ Cong p c ∧ ∀ m, PartsN p.length m → FinerL l0 m → Cong p m → FinerL c m
theorem closure_one {p : List EN} {l0 c d : List Int} (hc : Closure p l0 c) (hd : Closure p l0 d) : c = d :=
  finer_anti hc.1 hd.1 (hc.2.2.2 d hd.1 hd.2.1 hd.2.2.1) (hd.2.2.2 c hc.1 hc.2.1 hc.2.2.1)
/-- On the way to it. -/
def Toward (p : List EN) (l0 l : List Int) : Prop := PartsN p.length l ∧ FinerL l0 l ∧ ∀ m, PartsN p.length m → FinerL l0 m → Cong p m → FinerL l m
theorem toward_start {p : List EN} {l0 : List Int} (h : PartsN p.length l0) : Toward p l0 l0 := ⟨h, finer_refl _, fun _ _ hf _ => hf⟩
theorem toward_join {p : List EN} {l0 l : List Int} (hN : nodesB p = true) (hl0 : l0.length = p.length) (h : Toward p l0 l) {i j : Nat} (hi : i < p.length) (hj : j < p.length) (e : shO l (p.getD i e0) = shO l (p.getD j e0)) : Toward p l0 (joinPL l i j) :=
  ⟨joinPL_parts h.1 hi hj, finer_trans hl0 h.1.1 h.2.1 (joinPL_finer i j), fun m hm hf hc => joinPL_least h.1 hi hj (h.2.2 m hm hf hc) (hc i j hi hj (sh_coarse hN rfl h.1.1 (h.2.2 m hm hf hc) hi hj e))⟩
theorem toward_end {p : List EN} {l0 l : List Int} (h : Toward p l0 l) (hc : Cong p l) : Closure p l0 l := ⟨h.1, h.2.1, hc, h.2.2⟩
end Go.Proofs.YtobgkfpjokfbaaaGreatDoor
namespace Go.Proofs.YtobgkfpjokfbaaaGreatDoor
set_option linter.unusedVariables false

abbrev FD := (Sh → Option Int) × List (Int × Int)
/-- What is found and what is due behind the placing of a node. -/
def placeL (p : List EN) (l : List Int) (S : FD) (k : Int) : FD :=
  match S.1 (shO l (p.getD k.toNat e0)) with
  | some o => (S.1, S.2 ++ [(k, o)])
  | none => (setS S.1 (shO l (p.getD k.toNat e0)) (some k), S.2)
/-- One more user of the part of a kid. -/
def addU (l : List Int) (k : Int) (U : Nat → List Int) (c : Int) : Nat → List Int := fun y => if (y : Int) = l.getD c.toNat 0 then U y ++ [k] else U y
def usersK (p : List EN) (l : List Int) : Nat → Nat → List Int
  | 0 => fun _ => []
  | k + 1 => (p.getD k e0).2.2.foldl (addU l k) (usersK p l k)
def stateK (p : List EN) (l : List Int) : Nat → FD
  | 0 => (fun _ => none, [])
  | k + 1 => placeL p l (stateK p l k) k
def dropF (p : List EN) (l : List Int) (f : Sh → Option Int) (us : List Int) : Sh → Option Int := us.foldl (fun f u => setS f (shO l (p.getD u.toNat e0)) none) f
def moveU (U : Nat → List Int) (least gone : Int) : Nat → List Int := fun y => if (y : Int) = least then U y ++ U gone.toNat else U y

/-- Of one part in all coarser parts in which what is due is of one. -/
def Conn (n : Nat) (l : List Int) (D : List (Int × Int)) (i j : Nat) : Prop := ∀ m, PartsN n m → FinerL l m → (∀ x ∈ D, m.getD x.1.toNat 0 = m.getD x.2.toNat 0) → m.getD i 0 = m.getD j 0
structure Inv (p : List EN) (l0 l : List Int) (S : FD) (P : Nat → Prop) : Prop where
  tw : Toward p l0 l
  fnd : ∀ e v, S.1 e = some v → ∃ k : Nat, v = k ∧ k < p.length ∧ shO l (p.getD k e0) = e
  con : ∀ k, P k → k < p.length → ∃ v : Nat, S.1 (shO l (p.getD k e0)) = some (v : Int) ∧ Conn p.length l S.2 k v
  due : ∀ x ∈ S.2, ∃ i j : Nat, x = ((i : Int), (j : Int)) ∧ i < p.length ∧ j < p.length ∧ shO l (p.getD i e0) = shO l (p.getD j e0)
structure Users (p : List EN) (l : List Int) (U : Nat → List Int) (K : Nat) : Prop where
  mem : ∀ y, ∀ v ∈ U y, ∃ k : Nat, v = k ∧ k < K
  all : ∀ k, k < K → ∀ j, j < (p.getD k e0).2.2.length → ∀ y : Nat, l.getD ((p.getD k e0).2.2.getD j 0).toNat 0 = (y : Int) → (k : Int) ∈ U y
  only : ∀ y : Nat, y < p.length → l.getD y 0 = y → ∀ k : Nat, (k : Int) ∈ U y → ∃ j, j < (p.getD k e0).2.2.length ∧ l.getD ((p.getD k e0).2.2.getD j 0).toNat 0 = (y : Int)
theorem Conn.mono {n : Nat} {l : List Int} {D D' : List (Int × Int)} {i j : Nat} (h : Conn n l D i j) (hd : ∀ x ∈ D, x ∈ D') : Conn n l D' i j := fun m h1 h2 h3 => h m h1 h2 fun x hx => h3 x (hd x hx)

theorem inv_place {p : List EN} {l0 l : List Int} {S : FD} {P : Nat → Prop} (h : Inv p l0 l S P) {k : Nat} (hk : k < p.length) : Inv p l0 l (placeL p l S k) (fun x => P x ∨ x = k) := by
  obtain ⟨tw, fnd, con, due⟩ := h
  unfold placeL
  rw [Int.toNat_natCast]
  cases hf : S.1 (shO l (p.getD k e0)) with
  | some o =>
    obtain ⟨v, rfl, hv, hs⟩ := fnd _ _ hf
    simp only
    refine ⟨tw, fnd, fun x hx hxn => ?_, fun x hx => ?_⟩
    · rcases hx with hx | rfl
      · obtain ⟨u, h1, h2⟩ := con x hx hxn
        exact ⟨u, h1, h2.mono fun y hy => List.mem_append_left _ hy⟩
      · refine ⟨v, hf, fun m h1 h2 h3 => ?_⟩
        have := h3 ((x : Int), (v : Int)) (List.mem_append_right _ (by simp))
        simpa using this
    · rcases List.mem_append.1 hx with hx | hx
      · exact due x hx
      · rw [List.mem_singleton] at hx
        exact ⟨k, v, hx, hk, hv, hs.symm⟩
  | none =>
    simp only
    refine ⟨tw, fun e v he => ?_, fun x hx hxn => ?_, due⟩
    · simp only [setS] at he
      split at he
      · rename_i e1
        cases he
        exact ⟨k, rfl, hk, e1.symm⟩
      · exact fnd e v he
    · rcases hx with hx | rfl
      · obtain ⟨u, h1, h2⟩ := con x hx hxn
        refine ⟨u, ?_, h2⟩
        simp only [setS]
        rw [if_neg (fun e1 => by rw [e1, hf] at h1; cases h1)]
        exact h1
      · exact ⟨x, by simp [setS], fun m _ _ _ => rfl⟩
theorem inv_places {p : List EN} {l0 l : List Int} (us : List Int) : ∀ {S : FD} {P : Nat → Prop}, Inv p l0 l S P → (∀ v ∈ us, ∃ k : Nat, v = k ∧ k < p.length) → Inv p l0 l (us.foldl (placeL p l) S) (fun x => P x ∨ (x : Int) ∈ us) := by
  induction us with
  | nil => intro S P h _; exact ⟨h.tw, h.fnd, fun k hk hn => h.con k (by rcases hk with hk | hk; exact hk; cases hk) hn, h.due⟩
  | cons u us ih =>
    intro S P h hu
    obtain ⟨k, rfl, hk⟩ := hu u (List.mem_cons_self ..)
    have := ih (inv_place h hk) fun v hv => hu v (List.mem_cons_of_mem _ hv)
    refine ⟨this.tw, this.fnd, fun x hx hn => this.con x ?_ hn, this.due⟩
    rcases hx with hx | hx
    · exact .inl (.inl hx)
    · rcases List.mem_cons.1 hx with hx | hx
      · exact .inl (.inr (by omega))
      · exact .inr hx
theorem drop_some (p : List EN) (l : List Int) (us : List Int) : ∀ (f : Sh → Option Int) (e : Sh) (v : Int), dropF p l f us e = some v ↔ f e = some v ∧ ∀ u ∈ us, shO l (p.getD u.toNat e0) ≠ e := by
  induction us with
  | nil => intro f e v; simp [dropF]
  | cons u us ih =>
    intro f e v
    have : dropF p l f (u :: us) = dropF p l (setS f (shO l (p.getD u.toNat e0)) none) us := rfl
    rw [this, ih]
    unfold setS
    by_cases h : e = shO l (p.getD u.toNat e0)
    · rw [if_pos h]
      constructor
      · rintro ⟨h1, _⟩; cases h1
      · rintro ⟨_, h2⟩; exact absurd h.symm (h2 u (List.mem_cons_self ..))
    · rw [if_neg h]
      constructor
      · rintro ⟨h1, h2⟩
        refine ⟨h1, fun x hx => ?_⟩
        rcases List.mem_cons.1 hx with rfl | hx
        · exact fun e1 => h e1.symm
        · exact h2 x hx
      · rintro ⟨h1, h2⟩
        exact ⟨h1, fun x hx => h2 x (List.mem_cons_of_mem _ hx)⟩
/-- A shape without the part that is gone stays. -/
theorem sh_stays {p : List EN} (hN : nodesB p = true) {l : List Int} (hl : l.length = p.length) {a b k : Nat} (hk : k < p.length) (h : ∀ j, j < (p.getD k e0).2.2.length → l.getD ((p.getD k e0).2.2.getD j 0).toNat 0 ≠ max (l.getD a 0) (l.getD b 0)) : shO (joinPL l a b) (p.getD k e0) = shO l (p.getD k e0) := by
  have ki := fun t ht => kid_natI (k := k) (j := t) hN hk ht
  revert h ki
  generalize p.getD k e0 = x
  obtain ⟨xo, xn, xk⟩ := x
  intro h ki
  simp only [shO, Prod.mk.injEq, true_and]
  have one : ∀ t, partOf (joinPL l a b) xk t = partOf l xk t := by
    intro t
    unfold partOf
    by_cases ht1 : t < xk.length
    · rw [if_pos ht1, if_pos ht1]
      obtain ⟨c, c1, c2⟩ := ki t ht1
      have := h t ht1
      simp only at c1
      rw [c1, Int.toNat_natCast] at this ⊢
      rw [join_get l a b (by omega), if_neg this]
    · rw [if_neg ht1, if_neg ht1]
  exact ⟨one 0, one 1, one 2⟩
/-- One shape, one list of kids' parts. -/
theorem sh_kid {p : List EN} (hN : nodesB p = true) {l : List Int} {i j : Nat} (hi : i < p.length) (hj : j < p.length) (e : shO l (p.getD i e0) = shO l (p.getD j e0)) {t : Nat} (ht : t < (p.getD i e0).2.2.length) : t < (p.getD j e0).2.2.length ∧ l.getD ((p.getD i e0).2.2.getD t 0).toNat 0 = l.getD ((p.getD j e0).2.2.getD t 0).toNat 0 := by
  have hf := ((nodesB_iff p).1 hN).2
  have fi := fit_node (hf i hi)
  have fj := fit_node (hf j hj)
  have gi := fit_few (hf i hi)
  revert e fi fj gi ht
  generalize p.getD i e0 = x
  generalize p.getD j e0 = y
  obtain ⟨xo, xn, xk⟩ := x
  obtain ⟨yo, yn, yk⟩ := y
  intro e ht fi fj gi
  simp only [shO, Prod.mk.injEq] at e
  simp only at fi fj gi ht ⊢
  obtain ⟨e1, e2, h0, h1, h2⟩ := e
  subst e1
  have hlen : xk.length = yk.length := by omega
  refine ⟨by omega, ?_⟩
  have one : partOf l xk t = partOf l yk t := by
    rcases (show t = 0 ∨ t = 1 ∨ t = 2 by omega) with rfl | rfl | rfl
    · exact h0
    · exact h1
    · exact h2
  unfold partOf at one
  rw [if_pos ht, if_pos (by omega)] at one
  exact one
theorem parts_kid {p : List EN} (hN : nodesB p = true) {l : List Int} (hl : PartsN p.length l) {k j : Nat} (hk : k < p.length) (hj : j < (p.getD k e0).2.2.length) : ∃ y : Nat, l.getD ((p.getD k e0).2.2.getD j 0).toNat 0 = y ∧ y < p.length ∧ l.getD y 0 = y := by
  obtain ⟨c, c1, c2⟩ := kid_natI (k := k) (j := j) hN hk hj
  obtain ⟨a, a1, a2, a3⟩ := part_nat hl (show c < p.length by omega)
  exact ⟨a, by rw [c1, Int.toNat_natCast, a1], by omega, a3⟩

/-- The joining of two parts. -/
theorem inv_join {p : List EN} (hN : nodesB p = true) {l0 l : List Int} (hl0 : l0.length = p.length) {U : Nat → List Int} {f : Sh → Option Int} {D : List (Int × Int)} {i j : Nat} (hi : i < p.length) (hj : j < p.length) (he : shO l (p.getD i e0) = shO l (p.getD j e0)) (hne : l.getD i 0 ≠ l.getD j 0)
    (h : Inv p l0 l (f, D ++ [((i : Int), (j : Int))]) (fun _ => True)) (hU : Users p l U p.length) {g : Nat} (hg : max (l.getD i 0) (l.getD j 0) = (g : Int)) :
    Inv p l0 (joinPL l i j) ((U g).foldl (placeL p (joinPL l i j)) (dropF p l f (U g), D)) (fun _ => True) := by
  obtain ⟨tw, fnd, con, due⟩ := h
  have hP := tw.1
  have hL := hP.1
  obtain ⟨a, a1, a2, a3⟩ := part_nat hP hi
  obtain ⟨b, b1, b2, b3⟩ := part_nat hP hj
  have hgn : g < p.length ∧ l.getD g 0 = g := by
    rcases (show g = a ∨ g = b by omega) with rfl | rfl
    · exact ⟨by omega, a3⟩
    · exact ⟨by omega, b3⟩
  have hno : ∀ k, k < p.length → ¬ (k : Int) ∈ U g → ∀ t, t < (p.getD k e0).2.2.length → l.getD ((p.getD k e0).2.2.getD t 0).toNat 0 ≠ max (l.getD i 0) (l.getD j 0) := fun k hk hn t ht e => hn (hU.all k hk t ht g (e.trans hg))
  have hst : ∀ k, k < p.length → ¬ (k : Int) ∈ U g → shO (joinPL l i j) (p.getD k e0) = shO l (p.getD k e0) := fun k hk hn => sh_stays hN hL hk (hno k hk hn)
  have hbase : Inv p l0 (joinPL l i j) (dropF p l f (U g), D) (fun x => ¬ (x : Int) ∈ U g) := by
    refine ⟨toward_join hN hl0 tw hi hj he, fun e v hv => ?_, fun k hk hn => ?_, fun x hx => ?_⟩
    · obtain ⟨h1, h2⟩ := (drop_some p l (U g) f e v).1 hv
      obtain ⟨k, rfl, hk, hs⟩ := fnd e v h1
      refine ⟨k, rfl, hk, ?_⟩
      rw [hst k hk (fun hm => h2 k hm (by rw [Int.toNat_natCast]; exact hs))]
      exact hs
    · obtain ⟨v, h1, h2⟩ := con k trivial hn
      refine ⟨v, ?_, fun m m1 m2 m3 => ?_⟩
      · rw [hst k hn hk]
        refine (drop_some p l (U g) f _ _).2 ⟨h1, fun u hu e => ?_⟩
        obtain ⟨x, rfl, hx⟩ := hU.mem g u hu
        rw [Int.toNat_natCast] at e
        obtain ⟨t, ht, hte⟩ := hU.only g hgn.1 hgn.2 x hu
        obtain ⟨r1, r2⟩ := sh_kid hN hx hn e ht
        exact hno k hn hk t r1 (by rw [← r2, hte, hg])
      · refine h2 m m1 (finer_trans (n := p.length) hL (by rw [join_len]; exact hL) (joinPL_finer i j) m2) fun x hx => ?_
        rcases List.mem_append.1 hx with hx | hx
        · exact m3 x hx
        · rw [List.mem_singleton] at hx
          subst hx
          simp only [Int.toNat_natCast]
          exact m2 i j (by rw [join_len]; omega) (by rw [join_len]; omega) (joinPL_one hP hi hj)
    · obtain ⟨x1, x2, rfl, h1, h2, h3⟩ := due x (List.mem_append_left _ hx)
      exact ⟨x1, x2, rfl, h1, h2, sh_coarse hN rfl hL (joinPL_finer i j) h1 h2 h3⟩
  have := inv_places (U g) hbase (hU.mem g)
  refine ⟨this.tw, this.fnd, fun k _ hk => this.con k ?_ hk, this.due⟩
  by_cases hm : (k : Int) ∈ U g
  · exact .inr hm
  · exact .inl hm
theorem users_join {p : List EN} (hN : nodesB p = true) {l : List Int} (hP : PartsN p.length l) {U : Nat → List Int} {i j : Nat} (hi : i < p.length) (hj : j < p.length) (hne : l.getD i 0 ≠ l.getD j 0) (hU : Users p l U p.length) : Users p (joinPL l i j) (moveU U (min (l.getD i 0) (l.getD j 0)) (max (l.getD i 0) (l.getD j 0))) p.length := by
  have hL := hP.1
  obtain ⟨a, a1, a2, a3⟩ := part_nat hP hi
  obtain ⟨b, b1, b2, b3⟩ := part_nat hP hj
  obtain ⟨g, hg⟩ : ∃ g : Nat, max (l.getD i 0) (l.getD j 0) = (g : Int) := ⟨max a b, by omega⟩
  obtain ⟨s, hs⟩ : ∃ s : Nat, min (l.getD i 0) (l.getD j 0) = (s : Int) := ⟨min a b, by omega⟩
  have hgs : g ≠ s := by omega
  have hgn : g < p.length ∧ l.getD g 0 = g := by
    rcases (show g = a ∨ g = b by omega) with rfl | rfl
    · exact ⟨by omega, a3⟩
    · exact ⟨by omega, b3⟩
  have hsn : s < p.length ∧ l.getD s 0 = s := by
    rcases (show s = a ∨ s = b by omega) with rfl | rfl
    · exact ⟨by omega, a3⟩
    · exact ⟨by omega, b3⟩
  have hgt : ∀ c : Nat, c < p.length → (joinPL l i j).getD c 0 = if l.getD c 0 = (g : Int) then (s : Int) else l.getD c 0 := fun c hc => by rw [join_get l i j (by omega), hg, hs]
  rw [hg, hs]
  refine ⟨fun y v hv => ?_, fun k hk t ht y hy => ?_, fun y hy hr k hm => ?_⟩
  · unfold moveU at hv
    split at hv
    · rcases List.mem_append.1 hv with hv | hv
      · exact hU.mem _ v hv
      · exact hU.mem _ v hv
    · exact hU.mem _ v hv
  · obtain ⟨c, c1, c2⟩ := kid_natI (k := k) (j := t) hN hk ht
    rw [c1, Int.toNat_natCast, hgt c (by omega)] at hy
    have hAll := hU.all k hk t ht
    rw [c1, Int.toNat_natCast] at hAll
    unfold moveU
    by_cases e : l.getD c 0 = (g : Int)
    · rw [if_pos e] at hy
      rw [if_pos hy.symm, Int.toNat_natCast]
      exact List.mem_append_right _ (hAll g e)
    · rw [if_neg e] at hy
      have := hAll y hy
      split
      · exact List.mem_append_left _ this
      · exact this
  · rw [hgt y hy] at hr
    have hyg : y ≠ g := by
      rintro rfl
      rw [if_pos hgn.2] at hr
      omega
    have hry : l.getD y 0 = y := by
      split at hr
      · rename_i e
        have : y = s := by omega
        subst this
        exact hsn.2
      · exact hr
    have key : ∀ z : Nat, z < p.length → l.getD z 0 = z → (z = g ∨ z = y) → (k : Int) ∈ U z → (z = g → y = s) → ∃ t, t < (p.getD k e0).2.2.length ∧ (joinPL l i j).getD ((p.getD k e0).2.2.getD t 0).toNat 0 = (y : Int) := by
      intro z hz hzr hzc hkz hzg
      obtain ⟨x, hx, hxk⟩ := hU.mem z k hkz
      obtain ⟨t, ht, hte⟩ := hU.only z hz hzr k hkz
      refine ⟨t, ht, ?_⟩
      obtain ⟨c, c1, c2⟩ := kid_natI (k := k) (j := t) hN (by omega) ht
      rw [c1, Int.toNat_natCast] at hte ⊢
      rw [hgt c (by omega), hte]
      rcases hzc with rfl | rfl
      · rw [if_pos rfl, hzg rfl]
      · rw [if_neg (by omega)]
    unfold moveU at hm
    split at hm
    · rename_i e
      rw [Int.toNat_natCast] at hm
      rcases List.mem_append.1 hm with hm | hm
      · exact key y hy hry (.inr rfl) hm (fun e => absurd e hyg)
      · exact key g hgn.1 hgn.2 (.inl rfl) hm (fun _ => by omega)
    · exact key y hy hry (.inr rfl) hm (fun e => absurd e hyg)
/-- Where nothing is due the parts are closed. -/
theorem inv_end {p : List EN} {l0 l : List Int} {f : Sh → Option Int} (h : Inv p l0 l (f, []) (fun _ => True)) : Closure p l0 l := by
  refine toward_end h.tw fun i j hi hj e => ?_
  obtain ⟨v, h1, h2⟩ := h.con i trivial hi
  obtain ⟨u, k1, k2⟩ := h.con j trivial hj
  rw [e] at h1
  rw [h1] at k1
  injection k1 with k1
  have : v = u := by omega
  subst this
  rw [h2 l h.tw.1 (finer_refl l) (fun x hx => by cases hx), k2 l h.tw.1 (finer_refl l) (fun x hx => by cases hx)]
/-- A due pair of one part is done. -/
theorem inv_skip {p : List EN} {l0 l : List Int} {f : Sh → Option Int} {D : List (Int × Int)} {i j : Nat} (he : l.getD i 0 = l.getD j 0) (hi : i < p.length) (hj : j < p.length) (h : Inv p l0 l (f, D ++ [((i : Int), (j : Int))]) (fun _ => True)) : Inv p l0 l (f, D) (fun _ => True) := by
  have hL := h.tw.1.1
  refine ⟨h.tw, h.fnd, fun k _ hk => ?_, fun x hx => h.due x (List.mem_append_left _ hx)⟩
  obtain ⟨v, h1, h2⟩ := h.con k trivial hk
  refine ⟨v, h1, fun m m1 m2 m3 => h2 m m1 m2 fun x hx => ?_⟩
  rcases List.mem_append.1 hx with hx | hx
  · exact m3 x hx
  · rw [List.mem_singleton] at hx
    subst hx
    simp only [Int.toNat_natCast]
    exact m2 i j (by omega) (by omega) he
theorem inv_first {p : List EN} {l0 : List Int} (h : PartsN p.length l0) : ∀ K, K ≤ p.length → Inv p l0 l0 (stateK p l0 K) (fun x => x < K) := by
  intro K
  induction K with
  | zero => intro _; exact ⟨toward_start h, fun e v he => by simp [stateK] at he, fun k hk => absurd hk (Nat.not_lt_zero _), fun x hx => by simp [stateK] at hx⟩
  | succ K ih =>
    intro hK
    have := inv_place (ih (by omega)) (show K < p.length by omega)
    exact ⟨this.tw, this.fnd, fun k hk hn => this.con k (by omega) hn, this.due⟩
end Go.Proofs.YtobgkfpjokfbaaaGreatDoor
