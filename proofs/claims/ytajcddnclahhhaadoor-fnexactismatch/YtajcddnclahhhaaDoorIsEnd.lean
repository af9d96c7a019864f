/-
  PROVED HERE: what the program's IsMatch answers, at every graph, list of nodes, class and bind, in a world whose table of arities is laid. No other condition. plain facts on a pattern with a bind that is found in a graph: what the model asks of a node and its parts is that nothing is put. No condition. what the model's l7Is answers, at every good graph, pattern, class and bind. No other condition. what the model's IsMatch answers, at every graph, list of nodes, class and bind. No other condition. the law FnExactIsMatch's own run, at every argument, in a world whose table of arities is laid. No other condition.
-/
import Derived.Test.YtajcddnclahhhaaDoorB7WithF
import Derived.Test.YtajcddnclahhhaaDoorBindAll
import Derived.Test.YtajcddnclahhhaaDoorA7ClsW
import Derived.Test.YtajcddnclahhhaaDoorShelfAll
import Derived.Test.YtajcddnclahhhaaDoorSteps
import Derived.Test.YtajcddnclahhhaaDoorG6Ends
import Derived.Test.YtajcddnclahhhaaDoorCopyI
import Derived.Test.YtajcddnclahhhaaDoorIntsAll
import Derived.Test.YtajcddnclahhhaaDoorNodesB
namespace Go.Proofs.YtajcddnclahhhaaDoor
open Go.ChangeShapes Go.WideShapes Go.ChangeAt Go.RowKit
set_option linter.unusedVariables false

/-- What is asked for a match. -/
def askB (p : List EN) (l : List Int) (t : List (Int × Int)) (c : Int) (bs : List Int) : Bool := graphB p l && patB t && clB l c && bindB l bs
/-- The class that is found for a pattern with a bind. -/
def foundM (p : List EN) (l : List Int) (t : List (Int × Int)) (bs : List Int) : Option Int := (runO (clsBf bs) t ((p, l), [])).map fun r => r.2.getD 0 0
def isM (p : List EN) (l : List Int) (t : List (Int × Int)) (c : Int) (bs : List Int) : Bool := askB p l t c bs && decide (foundM p l t bs = some c)
set_option maxHeartbeats 3200000 in
set_option maxRecDepth 20000 in
theorem implIsMatch_any (a b : Option Addr) (len cap lb cb : Nat) (p : List EN) (l : List Int) (ta : Option Addr) (tl tc : Nat) (t : List (Int × Int)) (c : Int) (ba : Option Addr) (bl bc : Nat) (bs : List Int) (w : World) (hT : Tab w) (h : ESl w a len p) (hl : Sl w b lb l) (ht : NSl w ta tl t) (hv : Sl w ba bl bs) (hI : InE p) (hIt : ∀ k, k < t.length → InI (t.getD k (0, 0)).2) (hm2 : lb ≤ 9223372036854775807) (hm3 : tl ≤ 9223372036854775807) (hm4 : bl ≤ 9223372036854775807) :
    Calls Tryd.prog 26 #[.agg #[.slice a len cap, .slice b lb cb], .slice ta tl tc, .int .i64 c, .slice ba bl bc] w fun e w' => e = .returned (.tuple #[.bool (isM p l t c bs), .bool (askB p l t c bs)]) ∧ Below w.heap.size w w' := by
  have hll := h.1
  have htl := ht.1
  have hvl := hv.1
  have hmf : ∀ (fn : Fn) (first cap : Array Value) (w : World), (Instr.makeFunc fn first cap).run Tryd.prog w = .ok (.func fn first cap) w := fun _ _ _ _ => rfl
  obtain ⟨W1, hW1⟩ : ∃ W1, w.alloc (.cells #[.slice a len cap, .slice b lb cb] 34) = W1 := ⟨_, rfl⟩
  have hb1 : Below w.heap.size w W1 := by rw [← hW1]; exact (Below.refl _ _).alloc (Nat.le_refl _) _
  have hs1 : w.heap.size < W1.heap.size := by rw [← hW1]; simp
  have n0 : W1.cell? ⟨w.heap.size, 0, none⟩ = some (.slice a len cap) := by rw [← hW1]; simp [go_sem]
  have n1 : W1.cell? ⟨w.heap.size, 1, none⟩ = some (.slice b lb cb) := by rw [← hW1]; simp [go_sem]
  have HG := (show Hid _ from implGraph_any a b len cap lb cb p l W1 (hT.keeps hb1) (h.keep hb1) (hl.keep hb1) hm2 hI)
  have HGt : Hid (∀ W, Below W1.heap.size W1 W → Calls Tryd.prog 37 #[.slice ta tl tc] W fun e w' => e = .returned (.bool (patB t)) ∧ Below W.heap.size W w') := fun W hW => implPat_any ta tl tc t W ((hT.keeps hb1).keeps hW) ((ht.keep hb1).keep hW) hm3
  have HF : Hid (∀ W, Below W1.heap.size W1 W → Below w.heap.size w W ∧ W.cell? ⟨w.heap.size, 0, none⟩ = some (.slice a len cap) ∧ W.cell? ⟨w.heap.size, 1, none⟩ = some (.slice b lb cb)) := fun W hW => ⟨hb1.trans (hW.mono hb1.size), (hW.cell (p := ⟨w.heap.size, 0, none⟩) hs1).trans n0, (hW.cell (p := ⟨w.heap.size, 1, none⟩) hs1).trans n1⟩
  cases hgb : graphB p l with
  | false =>
    have hno : askB p l t c bs = false := by unfold askB; rw [hgb]; rfl
    have hni : isM p l t c bs = false := by unfold isM; rw [hno]; rfl
    rw [hno, hni]
    rw [hgb] at HG
    clear h hl ht hv hb1 hT HGt hno hni
    go_enter Tryd.func26, Tryd.ntmps26
    go_wp2_with fail
    (try rw [hW1])
    refine Calls.mono HG.out ?_
    rintro e w2 ⟨rfl, hb2⟩
    have HB := (show Hid _ from (HF.out w2 hb2).1)
    clear HG hW1 HF hb2
    go_wp2
    go_ret2
    exact ⟨rfl, HB.out⟩
  | true =>
    rw [hgb] at HG
    cases hgt : patB t with
    | false =>
      have hno : askB p l t c bs = false := by unfold askB; rw [hgb, hgt]; rfl
      have hni : isM p l t c bs = false := by unfold isM; rw [hno]; rfl
      rw [hno, hni]
      rw [hgt] at HGt
      clear h hl ht hv hb1 hT hno hni
      go_enter Tryd.func26, Tryd.ntmps26
      go_wp2_with fail
      (try rw [hW1])
      refine Calls.mono HG.out ?_
      rintro e w2 ⟨rfl, hb2⟩
      have HT2 := (show Hid _ from HGt.out w2 hb2)
      have HB2 := (show Hid _ from hb2)
      clear HG hW1 HGt hb2
      go_wp2_with fail
      refine Calls.mono HT2.out ?_
      rintro e w3 ⟨rfl, hb3⟩
      have HB := (show Hid _ from (HF.out w3 (HB2.out.trans (hb3.mono HB2.out.size))).1)
      clear HT2 HF hb3
      go_wp2
      go_ret2
      exact ⟨rfl, HB.out⟩
    | true =>
      rw [hgt] at HGt
      obtain ⟨h120, hgood⟩ := (graphB_good p l).1 hgb
      have hgT : goodB t = true := by unfold patB at hgt; simp only [Bool.and_eq_true] at hgt; exact hgt.1
      obtain ⟨hp, ht1, ht40⟩ := good_pile hgT
      have hlp := hgood.2.1
      simp only at hlp
      have hl1 := hl.1
      obtain rfl : lb = len := by omega
      have HK : Hid (∀ W, Below W1.heap.size W1 W → Calls Tryd.prog 38 #[.agg #[.slice a lb cap, .slice b lb cb], .int .i64 c] W fun e w' => e = .returned (.bool (clB l c)) ∧ Below W.heap.size W w') := fun W hW => implClass_any a b lb cap cb l c W ((hl.keep hb1).keep hW) (by omega)
      have HV : Hid (∀ W, Below W1.heap.size W1 W → Calls Tryd.prog 53 #[.agg #[.slice a lb cap, .slice b lb cb], .slice ba bl bc] W fun e w' => e = .returned (.bool (bindB l bs)) ∧ Below W.heap.size W w') := fun W hW => implBind_any a b ba lb cap cb bl bc l bs W ((hl.keep hb1).keep hW) ((hv.keep hb1).keep hW) (by omega) hm4
      cases hkb : clB l c with
      | false =>
        have hno : askB p l t c bs = false := by unfold askB; rw [hgb, hgt, hkb]; rfl
        have hni : isM p l t c bs = false := by unfold isM; rw [hno]; rfl
        rw [hno, hni]
        rw [hkb] at HK
        clear h hl ht hv hb1 hT hno hni hgood hp hgb hgt hgT hI hIt hlp hl1 HV
        go_enter Tryd.func26, Tryd.ntmps26
        go_wp2_with fail
        (try rw [hW1])
        refine Calls.mono HG.out ?_
        rintro e w2 ⟨rfl, hb2⟩
        have HT2 := (show Hid _ from HGt.out w2 hb2)
        have HB2 := (show Hid _ from hb2)
        clear HG hW1 HGt hb2
        go_wp2_with fail
        refine Calls.mono HT2.out ?_
        rintro e w3 ⟨rfl, hb3⟩
        have hB3 := HB2.out.trans (hb3.mono HB2.out.size)
        obtain ⟨-, g0, g1⟩ := HF.out w3 hB3
        have HK3 := (show Hid _ from HK.out w3 hB3)
        have HB3' := (show Hid _ from hB3)
        clear HT2 hb3 HB2 HK hB3
        go_wp2_with fail
        refine Calls.mono HK3.out ?_
        rintro e w4 ⟨rfl, hb4⟩
        clear g0 g1
        have HB := (show Hid _ from (HF.out w4 (HB3'.out.trans (hb4.mono HB3'.out.size))).1)
        clear HK3 HF hb4 HB3'
        go_wp2
        go_ret2
        exact ⟨rfl, HB.out⟩
      | true =>
        rw [hkb] at HK
        cases hbb : bindB l bs with
        | false =>
          have hno : askB p l t c bs = false := by unfold askB; rw [hgb, hgt, hkb, hbb]; rfl
          have hni : isM p l t c bs = false := by unfold isM; rw [hno]; rfl
          rw [hno, hni]
          rw [hbb] at HV
          clear h hl ht hv hb1 hT hno hni hgood hp hgb hgt hgT hI hIt hlp hl1
          go_enter Tryd.func26, Tryd.ntmps26
          go_wp2_with fail
          (try rw [hW1])
          refine Calls.mono HG.out ?_
          rintro e w2 ⟨rfl, hb2⟩
          have HT2 := (show Hid _ from HGt.out w2 hb2)
          have HB2 := (show Hid _ from hb2)
          clear HG hW1 HGt hb2
          go_wp2_with fail
          refine Calls.mono HT2.out ?_
          rintro e w3 ⟨rfl, hb3⟩
          have hB3 := HB2.out.trans (hb3.mono HB2.out.size)
          obtain ⟨-, g0, g1⟩ := HF.out w3 hB3
          have HK3 := (show Hid _ from HK.out w3 hB3)
          have HB3' := (show Hid _ from hB3)
          clear HT2 hb3 HB2 HK hB3
          go_wp2_with fail
          refine Calls.mono HK3.out ?_
          rintro e w4 ⟨rfl, hb4⟩
          clear g0 g1
          have hB4 := HB3'.out.trans (hb4.mono HB3'.out.size)
          obtain ⟨-, g0, g1⟩ := HF.out w4 hB4
          have HV4 := (show Hid _ from HV.out w4 hB4)
          have HB4 := (show Hid _ from hB4)
          clear HK3 hb4 HB3' HV hB4
          go_wp2_with fail
          refine Calls.mono HV4.out ?_
          rintro e w5 ⟨rfl, hb5⟩
          clear g0 g1
          have HB := (show Hid _ from (HF.out w5 (HB4.out.trans (hb5.mono HB4.out.size))).1)
          clear HV4 HF hb5 HB4
          go_wp2
          go_ret2
          exact ⟨rfl, HB.out⟩
        | true =>
          rw [hbb] at HV
          have hyes : askB p l t c bs = true := by unfold askB; rw [hgb, hgt, hkb, hbb]; rfl
          have hism : isM p l t c bs = decide (foundM p l t bs = some c) := by unfold isM; rw [hyes, Bool.true_and]
          rw [hism, hyes]
          obtain ⟨tb, to, rfl, htb, _⟩ := ht.at (by omega)
          have hb4 := bindB_len hbb
          obtain rfl : bl = 4 := by omega
          obtain ⟨vb, vo, rfl, hvb, hvc⟩ : ∃ b off, ba = some ⟨b, off, none⟩ ∧ b < w.heap.size ∧ ∀ i, i < 4 → w.cell? ⟨b, off + i, none⟩ = some (.int .i64 (bs.getD i 0)) := by
            rcases hv.2 with h0 | h0
            · omega
            · exact h0
          have hcl : ∀ c ∈ bs, c = -1 ∨ IsCl (p, l) c := fun c hc => by
            rcases bindB_each hbb c hc with h | h
            · exact .inl h
            · exact .inr ((isCl_iff hgood c).1 h)
          have HS : Hid (∀ W, Below W1.heap.size W1 W → Calls Tryd.prog 56 #[.agg #[.slice a lb cap, .slice b lb cb]] W fun e w' => ∃ s m, e = .returned (.pointer (some ⟨s, 0, none⟩)) ∧ Shelf w' (fun b => W.heap.size ≤ b) s m (p, l) ∧ Below W.heap.size W w') := fun W hW => shelfOf_any a b lb cap cb p l W ((h.keep hb1).keep hW) ((hl.keep hb1).keep hW) hgood (by omega) hI
          have HCl : Hid (∀ (W3 W4 W : World) (s m : Nat), Below W1.heap.size W1 W3 → Below W3.heap.size W3 W4 → Shelf W4 (fun b => W3.heap.size ≤ b) s m (p, l) → Below W4.heap.size W4 W → W.heap.size = W4.heap.size + 2 → W.cell? ⟨W4.heap.size, 0, none⟩ = some (.slice (some ⟨vb, vo, none⟩) 4 bc) → W.cell? ⟨W4.heap.size + 1, 0, none⟩ = some (.func (.func 57) #[.pointer (some ⟨s, 0, none⟩)] #[]) → Calls Tryd.prog 54 #[.slice (some ⟨tb, to, none⟩) tl tc, .func (.func 82) #[] #[.pointer (some ⟨W4.heap.size, 0, none⟩), .pointer (some ⟨W4.heap.size + 1, 0, none⟩)]] W fun e w' => e = .returned (.tuple #[.int .i64 ((foundM p l t bs).getD 0), .bool (foundM p l t bs).isSome]) ∧ Below W3.heap.size W3 w') := fun W3 W4 W s m h13 h34 hSh h4W hsz hc0 hc1 => by
            have h3W := h34.trans (h4W.mono h34.size)
            have hB := h13.trans (h3W.mono h13.size)
            have z1 := h13.size
            have z2 := h34.size
            have hSB : ShelfB W.heap.size s m W4.heap.size (W4.heap.size + 1) vb vo bc (.func (.func 57) #[.pointer (some ⟨s, 0, none⟩)] #[]) bs W (fun b => W3.heap.size ≤ b) (p, l) := by
              refine ⟨fun b => W3.heap.size ≤ b ∧ b < W4.heap.size, hSh.map h4W.size (fun b _ hl => h4W.block b hl) (fun b hl h => ⟨h, hl⟩), fun b hb => ?_, ⟨hc0, hc1, fun i hi => ?_, ⟨by omega, by omega, by omega⟩, Nat.le_refl _⟩, hcl⟩
              · have h1 := hb.1
                have h2 := hb.2
                exact ⟨by omega, h1, by omega, by omega, by omega⟩
              · exact ((hb1.trans (hB.mono hb1.size)).cell (p := ⟨vb, vo + i, none⟩) hvb).trans (hvc i hi)
            refine (clsW_any W4.heap.size (W4.heap.size + 1) W.heap.size dflB (clsBf bs) (clsBf_keeps bs) (fun W' S g => ShelfB W.heap.size s m W4.heap.size (W4.heap.size + 1) vb vo bc (.func (.func 57) #[.pointer (some ⟨s, 0, none⟩)] #[]) bs W' S g) (fun W W' S S' g hR hs hk hN hS => hR.map hs hk hN hS) (fun W' S g n a m' cap kids hR hg h120 hk ha hf => withFind_any W.heap.size s m W4.heap.size (W4.heap.size + 1) vb vo bc bs hb4 W' S g n a m' cap kids hR hg h120 hk ha hf) hp hIt tb to tl tc (by omega) (by omega) W (fun b => W3.heap.size ≤ b) (p, l) ((ht.keep hb1).keep hB) hSB hgood h120 (by omega) (Nat.le_refl _) (fun W' hW' => ?_)).mono ?_
            · have hb3 : Below W3.heap.size W3 W' := h3W.trans (hW'.below (fun x _ h => h) h3W.size)
              exact ((hT.keeps hb1).keeps h13).keeps hb3
            · rintro e w' ⟨h1, h2, h3⟩
              refine ⟨?_, h3W.trans (h2.below (fun x _ h => h) h3W.size)⟩
              rw [h1]
              unfold foundM
              rw [Option.isSome_map]
          clear h hl ht hv hb1 hT hgood hp hgb hgt hgT hkb hbb hcl hvc hI hIt hlp hl1 htb h120 hb4 hvb hvl hism hyes
          cases hO : foundM p l t bs with
          | none =>
            rw [hO] at HCl
            simp only [Option.getD_none, Option.isSome_none] at HCl
            have e9 : decide ((none : Option Int) = some c) = false := by simp
            rw [e9]
            clear hO e9
            go_enter Tryd.func26, Tryd.ntmps26
            go_wp2_with fail
            (try rw [hW1])
            refine Calls.mono HG.out ?_
            rintro e w2 ⟨rfl, hb2⟩
            have HT2 := (show Hid _ from HGt.out w2 hb2)
            have HB2 := (show Hid _ from hb2)
            clear HG hW1 HGt hb2
            go_wp2_with fail
            refine Calls.mono HT2.out ?_
            rintro e w3 ⟨rfl, hb3⟩
            have hB3 := HB2.out.trans (hb3.mono HB2.out.size)
            obtain ⟨-, g0, g1⟩ := HF.out w3 hB3
            have HK3 := (show Hid _ from HK.out w3 hB3)
            have HB3' := (show Hid _ from hB3)
            clear HT2 hb3 HB2 HK hB3
            go_wp2_with fail
            refine Calls.mono HK3.out ?_
            rintro e w4 ⟨rfl, hb4⟩
            clear g0 g1
            have hB4 := HB3'.out.trans (hb4.mono HB3'.out.size)
            obtain ⟨-, g0, g1⟩ := HF.out w4 hB4
            have HV4 := (show Hid _ from HV.out w4 hB4)
            have HB4 := (show Hid _ from hB4)
            clear HK3 hb4 HB3' HV hB4
            go_wp2_with fail
            refine Calls.mono HV4.out ?_
            rintro e w5 ⟨rfl, hb5⟩
            clear g0 g1
            have hB5 := HB4.out.trans (hb5.mono HB4.out.size)
            obtain ⟨-, g0, g1⟩ := HF.out w5 hB5
            have HS5 := (show Hid _ from HS.out w5 hB5)
            have HB3 := (show Hid _ from hB5)
            clear HV4 hb5 HB4 HS hB5
            go_wp2_with fail
            refine Calls.mono HS5.out ?_
            rintro e w6 ⟨s, m, rfl, hSh, hb6⟩
            have HW6 := (show Hid _ from withBind_any (some ⟨vb, vo, none⟩) 4 bc (.func 57) #[.pointer (some ⟨s, 0, none⟩)] #[] w6)
            have HC6 := (show Hid _ from HCl.out w5 w6)
            have HH6 := (show Hid _ from And.intro hSh hb6)
            clear HS5 HCl hSh hb6 g0 g1
            go_wp2_with fail
            refine Calls.mono HW6.out ?_
            rintro e w7 ⟨rfl, hb7, hz7, hx7, hy7⟩
            have HC7 := (show Hid _ from HC6.out w7 s m HB3.out HH6.out.2 HH6.out.1 hb7 hz7 hx7 hy7)
            clear HW6 HC6 HH6 hb7 hz7 hx7 hy7
            go_wp2_with fail
            refine Calls.mono HC7.out ?_
            rintro e w8 ⟨rfl, hb8⟩
            have HB := (show Hid _ from (HF.out w8 (HB3.out.trans (hb8.mono HB3.out.size))).1)
            clear HC7 hb8 HF HB3
            go_wp2
            go_ret2
            exact ⟨rfl, HB.out⟩
          | some C =>
            rw [hO] at HCl
            simp only [Option.getD_some, Option.isSome_some] at HCl
            have e9 : decide ((some C : Option Int) = some c) = (C == c) := by
              by_cases hcc : C = c
              · simp [hcc]
              · simp [hcc]
            rw [e9]
            clear hO e9
            go_enter Tryd.func26, Tryd.ntmps26
            go_wp2_with fail
            (try rw [hW1])
            refine Calls.mono HG.out ?_
            rintro e w2 ⟨rfl, hb2⟩
            have HT2 := (show Hid _ from HGt.out w2 hb2)
            have HB2 := (show Hid _ from hb2)
            clear HG hW1 HGt hb2
            go_wp2_with fail
            refine Calls.mono HT2.out ?_
            rintro e w3 ⟨rfl, hb3⟩
            have hB3 := HB2.out.trans (hb3.mono HB2.out.size)
            obtain ⟨-, g0, g1⟩ := HF.out w3 hB3
            have HK3 := (show Hid _ from HK.out w3 hB3)
            have HB3' := (show Hid _ from hB3)
            clear HT2 hb3 HB2 HK hB3
            go_wp2_with fail
            refine Calls.mono HK3.out ?_
            rintro e w4 ⟨rfl, hb4⟩
            clear g0 g1
            have hB4 := HB3'.out.trans (hb4.mono HB3'.out.size)
            obtain ⟨-, g0, g1⟩ := HF.out w4 hB4
            have HV4 := (show Hid _ from HV.out w4 hB4)
            have HB4 := (show Hid _ from hB4)
            clear HK3 hb4 HB3' HV hB4
            go_wp2_with fail
            refine Calls.mono HV4.out ?_
            rintro e w5 ⟨rfl, hb5⟩
            clear g0 g1
            have hB5 := HB4.out.trans (hb5.mono HB4.out.size)
            obtain ⟨-, g0, g1⟩ := HF.out w5 hB5
            have HS5 := (show Hid _ from HS.out w5 hB5)
            have HB3 := (show Hid _ from hB5)
            clear HV4 hb5 HB4 HS hB5
            go_wp2_with fail
            refine Calls.mono HS5.out ?_
            rintro e w6 ⟨s, m, rfl, hSh, hb6⟩
            have HW6 := (show Hid _ from withBind_any (some ⟨vb, vo, none⟩) 4 bc (.func 57) #[.pointer (some ⟨s, 0, none⟩)] #[] w6)
            have HC6 := (show Hid _ from HCl.out w5 w6)
            have HH6 := (show Hid _ from And.intro hSh hb6)
            clear HS5 HCl hSh hb6 g0 g1
            go_wp2_with fail
            refine Calls.mono HW6.out ?_
            rintro e w7 ⟨rfl, hb7, hz7, hx7, hy7⟩
            have HC7 := (show Hid _ from HC6.out w7 s m HB3.out HH6.out.2 HH6.out.1 hb7 hz7 hx7 hy7)
            clear HW6 HC6 HH6 hb7 hz7 hx7 hy7
            go_wp2_with fail
            refine Calls.mono HC7.out ?_
            rintro e w8 ⟨rfl, hb8⟩
            have HB := (show Hid _ from (HF.out w8 (HB3.out.trans (hb8.mono HB3.out.size))).1)
            clear HC7 hb8 HF HB3
            go_wp2
            go_ret2
            exact ⟨rfl, HB.out⟩
end Go.Proofs.YtajcddnclahhhaaDoor
namespace Go.Proofs.YtajcddnclahhhaaDoor
open Go.ChangeShapes Go.WideShapes Go.ChangeAt Go.RowKit
set_option linter.unusedVariables false

theorem stepB_same (bs : List Int) (s : GS × List Int) (n : Int × Int) : (stepA (some bs) s n).1 = s.1 ∨ s.1.1.length < (stepA (some bs) s n).1.1.length := by
  show (classA (some bs) s.1 n (s.2.drop (s.2.length - (ar n.1).toNat))).1 = s.1 ∨ s.1.1.length < (classA (some bs) s.1 n (s.2.drop (s.2.length - (ar n.1).toNat))).1.1.length
  unfold classA
  simp only
  split
  · exact .inl rfl
  · cases hf : findL s.1.1 s.1.2 (n.1, n.2, s.2.drop (s.2.length - (ar n.1).toNat)) with
    | some v => rw [putL_some hf]; exact .inl rfl
    | none => rw [putL_none hf]; exact .inr (by simp)
theorem runB_same (bs : List Int) : ∀ (t : List (Int × Int)) (s : GS × List Int), (runA (some bs) t s).1.1.length ≤ s.1.1.length → (runA (some bs) t s).1 = s.1
  | [], s, _ => rfl
  | n :: t, s, h => by
    have hge := runB_ge bs t (stepA (some bs) s n)
    have h' : (runA (some bs) t (stepA (some bs) s n)).1.1.length ≤ s.1.1.length := h
    rcases stepB_same bs s n with e | e
    · have ih := runB_same bs t (stepA (some bs) s n) (by rw [e]; exact h')
      show (runA (some bs) t (stepA (some bs) s n)).1 = s.1
      rw [ih, e]
    · omega
/-- The parts of a node come to classes of the graph as it is, each for itself. -/
theorem kids_iff {t : List (Int × Int)} {q : Int} (h : pile t 0 = some q) (bs : List Int) (g : GS) {k : Nat} (hk : k < t.length) (xs : List Int) (hx : xs.length = (ar (t.getD k (0, 0)).1).toNat) : ∀ j, j ≤ (ar (t.getD k (0, 0)).1).toNat → (kidsA (some bs) t g k j = (g, xs.take j) ↔ ∀ i, i < j → treeA (some bs) t g ((roots t (ar (t.getD k (0, 0)).1).toNat k).getD i 0) = (g, [xs.getD i 0]))
  | 0, _ => by
    rw [kidsA_zero h (some bs) g hk]
    exact ⟨fun _ i hi => absurd hi (Nat.not_lt_zero _), fun _ => by simp⟩
  | j + 1, hj => by
    have ih := kids_iff h bs g hk xs hx j (by omega)
    have ch := (chain_of h hk).2.2 j (by omega)
    have etk : xs.take (j + 1) = xs.take j ++ [xs.getD j 0] := by
      rw [List.take_succ_eq_append_getElem (by omega), getI_lt (by omega)]
    constructor
    · intro e
      obtain ⟨g1, ks, e1⟩ : ∃ g1 ks, kidsA (some bs) t g k j = (g1, ks) := ⟨_, _, rfl⟩
      obtain ⟨c, e2⟩ := treeA_len h (some bs) g1 (k := (roots t (ar (t.getD k (0, 0)).1).toNat k).getD j 0) (by omega)
      have es := kidsA_succ h (some bs) g hk (by omega) e1 e2
      rw [e] at es
      obtain ⟨eg, ek⟩ := Prod.mk.inj es
      rw [etk] at ek
      have hlast := List.append_inj' ek rfl
      obtain ⟨ek1, ek2⟩ := hlast
      have hc := (List.cons.inj ek2).1
      have l1 : g.1.length ≤ g1.1.length := by
        have := runB_ge bs (seg t (start t k) (endAt t (ar (t.getD k (0, 0)).1).toNat k j)) (g, [])
        have e1' : runA (some bs) (seg t (start t k) (endAt t (ar (t.getD k (0, 0)).1).toNat k j)) (g, []) = (g1, ks) := e1
        rw [e1'] at this
        exact this
      have l2 : g1.1.length ≤ g.1.length := by
        have := runB_ge bs (seg t (start t ((roots t (ar (t.getD k (0, 0)).1).toNat k).getD j 0)) ((roots t (ar (t.getD k (0, 0)).1).toNat k).getD j 0 + 1)) (g1, [])
        have e2' : (runA (some bs) (seg t (start t ((roots t (ar (t.getD k (0, 0)).1).toNat k).getD j 0)) ((roots t (ar (t.getD k (0, 0)).1).toNat k).getD j 0 + 1)) (g1, [])).1 = (treeA (some bs) t g1 ((roots t (ar (t.getD k (0, 0)).1).toNat k).getD j 0)).1 := rfl
        rw [e2', ← eg] at this
        exact this
      have hg1 : g1 = g := by
        have := runB_same bs (seg t (start t k) (endAt t (ar (t.getD k (0, 0)).1).toNat k j)) (g, [])
        have e1' : runA (some bs) (seg t (start t k) (endAt t (ar (t.getD k (0, 0)).1).toNat k j)) (g, []) = (g1, ks) := e1
        rw [e1'] at this
        exact this l2
      subst hg1
      rw [← ek1] at e1
      intro i hi
      by_cases hij : i = j
      · subst hij
        rw [e2, ← eg, hc]
      · exact ih.1 e1 i (by omega)
    · intro e
      have e1 := ih.2 (fun i hi => e i (by omega))
      rw [kidsA_succ h (some bs) g hk (by omega) e1 (e j (by omega)), etk]
/-- A node alike is in the class that is found. -/
theorem find_alike {g : GS} (hg : GoodG g) {i : Nat} (hi : i < g.1.length) : findL g.1 g.2 (g.1.getD i e0) = some (g.2.getD i 0) := by
  cases hf : findL g.1 g.2 (g.1.getD i e0) with
  | none => exact absurd rfl (findL_none hf i hi)
  | some v =>
    obtain ⟨k, h1, h2, h3, h4⟩ := findL_some hf
    rw [← h3]
    congr 1
    by_cases hik : k = i
    · rw [hik]
    · have hlt : k < i := by
        rcases Nat.lt_or_ge i k with h | h
        · exact absurd rfl (h4 i h)
        · omega
      exact (hg.2.2.2.2 i hi).2 k hlt h2.symm
theorem tree_var {t : List (Int × Int)} {q : Int} (h : pile t 0 = some q) (bs : List Int) (g : GS) {k : Nat} (hk : k < t.length) (h2 : (t.getD k (0, 0)).1 = 2) : treeA (some bs) t g k = (g, [bs.getD (t.getD k (0, 0)).2.toNat 0]) := by
  have e0 : kidsA (some bs) t g k (ar (t.getD k (0, 0)).1).toNat = (g, []) := by
    have ha : (ar (t.getD k (0, 0)).1).toNat = 0 := by rw [h2]; rfl
    rw [ha]
    exact kidsA_zero h (some bs) g hk
  rw [(treeA_node h (some bs) g hk e0).1]
  unfold classA
  rw [h2]
  rfl
theorem tree_node {t : List (Int × Int)} {q : Int} (h : pile t 0 = some q) (bs : List Int) {g : GS} (hg : GoodG g) {k : Nat} (hk : k < t.length) (h2 : (t.getD k (0, 0)).1 ≠ 2) (c : Int) : treeA (some bs) t g k = (g, [c]) ↔ ∃ i, i < g.1.length ∧ (g.1.getD i e0).1 = (t.getD k (0, 0)).1 ∧ (g.1.getD i e0).2.1 = (t.getD k (0, 0)).2 ∧ g.2.getD i 0 = c ∧ ∀ j, j < (ar (t.getD k (0, 0)).1).toNat → treeA (some bs) t g ((roots t (ar (t.getD k (0, 0)).1).toNat k).getD j 0) = (g, [(g.1.getD i e0).2.2.getD j 0]) := by
  have hcl : ∀ g1 ks, classA (some bs) g1 (t.getD k (0, 0)) ks = putL g1 ((t.getD k (0, 0)).1, (t.getD k (0, 0)).2, ks) := fun g1 ks => by
    unfold classA
    simp only
    rw [if_neg h2]
  constructor
  · intro e
    obtain ⟨g1, ks, e1⟩ : ∃ g1 ks, kidsA (some bs) t g k (ar (t.getD k (0, 0)).1).toNat = (g1, ks) := ⟨_, _, rfl⟩
    obtain ⟨en, hl⟩ := treeA_node h (some bs) g hk e1
    rw [hcl] at en
    rw [e] at en
    obtain ⟨eg, ec⟩ := Prod.mk.inj en
    have ec := (List.cons.inj ec).1
    have hge := putL_ge g1 ((t.getD k (0, 0)).1, (t.getD k (0, 0)).2, ks)
    rw [← eg] at hge
    have hg1 : g1 = g := by
      have := runB_same bs (seg t (start t k) (endAt t (ar (t.getD k (0, 0)).1).toNat k (ar (t.getD k (0, 0)).1).toNat)) (g, [])
      have e1' : runA (some bs) (seg t (start t k) (endAt t (ar (t.getD k (0, 0)).1).toNat k (ar (t.getD k (0, 0)).1).toNat)) (g, []) = (g1, ks) := e1
      rw [e1'] at this
      exact this hge
    subst hg1
    cases hf : findL g1.1 g1.2 ((t.getD k (0, 0)).1, (t.getD k (0, 0)).2, ks) with
    | none =>
      rw [putL_none hf] at eg
      have := congrArg (fun x : GS => x.1.length) eg
      simp at this
    | some v =>
      rw [putL_some hf] at ec
      obtain ⟨i, h1, h3, h4, _⟩ := findL_some hf
      have hk2 : (g1.1.getD i e0).2.2 = ks := by rw [h3]
      have e2 : kidsA (some bs) t g1 k (ar (t.getD k (0, 0)).1).toNat = (g1, ks.take (ar (t.getD k (0, 0)).1).toNat) := by rw [e1, ← hl, List.take_length]
      refine ⟨i, h1, by rw [h3], by rw [h3], by rw [h4]; exact ec.symm, ?_⟩
      rw [hk2]
      exact (kids_iff h bs g1 hk ks hl _ (Nat.le_refl _)).1 e2
  · rintro ⟨i, h1, h3, h4, h5, h6⟩
    have hlen : (g.1.getD i e0).2.2.length = (ar (t.getD k (0, 0)).1).toNat := by
      have := (fit_node (hg.1 i h1)).2.1
      rw [h3] at this
      omega
    have e2 := (kids_iff h bs g hk _ hlen _ (Nat.le_refl _)).2 h6
    rw [← hlen, List.take_length] at e2
    rw [hlen] at e2
    rw [(treeA_node h (some bs) g hk e2).1, hcl]
    have hx : ((t.getD k (0, 0)).1, (t.getD k (0, 0)).2, (g.1.getD i e0).2.2) = g.1.getD i e0 := by rw [← h3, ← h4]
    rw [hx, putL_some (find_alike hg h1), h5]
/-- What no class is stays on the pile, or something is put. -/
theorem bad_stays (bs : List Int) {g : GS} (hg : GoodG g) : ∀ (t : List (Int × Int)) (Q : List Int), -1 ∈ Q → g.1.length < (runA (some bs) t (g, Q)).1.1.length ∨ -1 ∈ (runA (some bs) t (g, Q)).2
  | [], Q, h => .inr h
  | n :: t, Q, h => by
    have hge := runB_ge bs t (stepA (some bs) (g, Q) n)
    show g.1.length < (runA (some bs) t (stepA (some bs) (g, Q) n)).1.1.length ∨ -1 ∈ (runA (some bs) t (stepA (some bs) (g, Q) n)).2
    rcases stepB_same bs (g, Q) n with e | e
    · have e2 : stepA (some bs) (g, Q) n = (g, (stepA (some bs) (g, Q) n).2) := Prod.ext e rfl
      rw [e2]
      refine bad_stays bs hg t _ ?_
      show -1 ∈ Q.take (Q.length - (ar n.1).toNat) ++ [_]
      rw [← List.take_append_drop (Q.length - (ar n.1).toNat) Q, List.mem_append] at h
      rcases h with h | h
      · exact List.mem_append_left _ h
      · refine List.mem_append_right _ ?_
        by_cases h2 : n.1 = 2
        · have h20 : (ar n.1).toNat = 0 := by rw [h2]; rfl
          rw [h20, Nat.sub_zero, List.drop_length] at h
          cases h
        · exfalso
          have e' : (classA (some bs) g n (Q.drop (Q.length - (ar n.1).toNat))).1 = g := e
          unfold classA at e'
          simp only at e'
          rw [if_neg h2] at e'
          cases hf : findL g.1 g.2 (n.1, n.2, Q.drop (Q.length - (ar n.1).toNat)) with
          | none =>
            rw [putL_none hf] at e'
            have := congrArg (fun x : GS => x.1.length) e'
            simp at this
          | some v =>
            obtain ⟨i, h1, h3, _, _⟩ := findL_some hf
            have hk := (fit_node (hg.1 i h1)).2.2.2 (-1) (by rw [h3]; exact h)
            omega
    · exact .inl (Nat.lt_of_lt_of_le e hge)
theorem findB_run (bs : List Int) {g : GS} (hg : GoodG g) : ∀ (t : List (Int × Int)) (Q : List Int), (∀ n ∈ t, n.1 = 2 → bs.getD n.2.toNat 0 = -1 ∨ clB g.2 (bs.getD n.2.toNat 0) = true) → (runO (clsBf bs) t (g, Q) = some (runA (some bs) t (g, Q)) ∧ (runA (some bs) t (g, Q)).1 = g) ∨ (runO (clsBf bs) t (g, Q) = none ∧ (g.1.length < (runA (some bs) t (g, Q)).1.1.length ∨ -1 ∈ (runA (some bs) t (g, Q)).2))
  | [], Q, _ => .inl ⟨rfl, rfl⟩
  | n :: t, Q, hv => by
    show ((stepO (clsBf bs) (g, Q) n).bind (runO (clsBf bs) t) = some (runA (some bs) t (stepA (some bs) (g, Q) n)) ∧ (runA (some bs) t (stepA (some bs) (g, Q) n)).1 = g) ∨ ((stepO (clsBf bs) (g, Q) n).bind (runO (clsBf bs) t) = none ∧ (g.1.length < (runA (some bs) t (stepA (some bs) (g, Q) n)).1.1.length ∨ -1 ∈ (runA (some bs) t (stepA (some bs) (g, Q) n)).2))
    have hvt : ∀ n ∈ t, n.1 = 2 → bs.getD n.2.toNat 0 = -1 ∨ clB g.2 (bs.getD n.2.toNat 0) = true := fun m hm => hv m (List.mem_cons_of_mem _ hm)
    by_cases h2 : n.1 = 2
    · have e2 : stepA (some bs) (g, Q) n = (g, Q.take (Q.length - (ar n.1).toNat) ++ [bs.getD n.2.toNat 0]) := by
        unfold stepA classA
        simp only [h2, if_true]
      rcases hv n List.mem_cons_self h2 with hb | hb
      · have hc : clsBf bs g n (Q.drop (Q.length - (ar n.1).toNat)) = none := by
          unfold clsBf
          have e1 : clB g.2 (-1) = false := (by unfold clB hasB; rfl)
          rw [if_pos h2, hb, e1, if_neg (by decide)]
        rw [stepO_none (cls := clsBf bs) hc, e2]
        refine .inr ⟨rfl, bad_stays bs hg t _ ?_⟩
        rw [hb]
        exact List.mem_append_right _ (List.mem_singleton.2 rfl)
      · have hc : clsBf bs g n (Q.drop (Q.length - (ar n.1).toNat)) = some (g, bs.getD n.2.toNat 0) := by
          unfold clsBf
          rw [if_pos h2, if_pos hb]
        rw [stepO_some (cls := clsBf bs) hc, e2]
        exact findB_run bs hg t _ hvt
    · have hcl : clsBf bs g n (Q.drop (Q.length - (ar n.1).toNat)) = clsFi g n (Q.drop (Q.length - (ar n.1).toNat)) := by
        unfold clsBf
        rw [if_neg h2]
      cases hf : findL g.1 g.2 (n.1, n.2, Q.drop (Q.length - (ar n.1).toNat)) with
      | some v =>
        have e1 : stepO (clsBf bs) (g, Q) n = some (g, Q.take (Q.length - (ar n.1).toNat) ++ [v]) := stepO_some (r := (g, v)) (by rw [hcl]; unfold clsFi; rw [hf]; rfl)
        have e2 : stepA (some bs) (g, Q) n = (g, Q.take (Q.length - (ar n.1).toNat) ++ [v]) := by
          unfold stepA classA
          simp only [h2, if_false]
          rw [putL_some hf]
        rw [e1, e2]
        exact findB_run bs hg t _ hvt
      | none =>
        have e1 : stepO (clsBf bs) (g, Q) n = none := stepO_none (by rw [hcl]; unfold clsFi; rw [hf]; rfl)
        rw [e1]
        refine .inr ⟨rfl, .inl ?_⟩
        have hge := runB_ge bs t (stepA (some bs) (g, Q) n)
        have h3 : (stepA (some bs) (g, Q) n).1.1.length = g.1.length + 1 := by
          unfold stepA classA
          simp only [h2, if_false]
          rw [putL_none hf]; simp
        omega
/-- What is found is a class just where nothing is put. -/
theorem found_iff {p : List EN} {l bs : List Int} {t : List (Int × Int)} (hg : GoodG (p, l)) (ht : goodB t = true) (hb : bindB l bs = true) {c : Int} (hc : clB l c = true) : foundM p l t bs = some c ↔ treeA (some bs) t (p, l) (t.length - 1) = ((p, l), [c]) := by
  rw [treeA_root ht]
  obtain ⟨hp, ht1, ht40⟩ := good_pile ht
  have hfr := (runA_frame (some bs) [] t (p, l) [] 1 hp).2
  have hv : ∀ n ∈ t, n.1 = 2 → bs.getD n.2.toNat 0 = -1 ∨ clB l (bs.getD n.2.toNat 0) = true := fun n hn h2 => by
    have h4 := good_var ht n hn h2
    have hl := bindB_len hb
    refine bindB_each hb _ ?_
    rw [List.getD_eq_getElem?_getD, List.getElem?_eq_getElem (by omega)]
    exact List.getElem_mem _
  have hc0 : 0 ≤ c := ((isCl_iff hg c).1 hc).1
  unfold foundM
  rcases findB_run bs hg t [] hv with ⟨h1, h2⟩ | ⟨h1, h2⟩
  · rw [h1]
    match e : (runA (some bs) t ((p, l), [])).2, hfr with
    | [d], _ =>
      have er : runA (some bs) t ((p, l), []) = ((p, l), [d]) := Prod.ext h2 e
      rw [er]
      constructor
      · intro h
        have : d = c := by simpa using h
        rw [this]
      · intro h
        have := (Prod.mk.inj h).2
        have := (List.cons.inj this).1
        simp [this]
  · rw [h1]
    constructor
    · intro h; cases h
    · intro h
      rw [h] at h2
      rcases h2 with h2 | h2
      · exact absurd h2 (Nat.lt_irrefl _)
      · have := List.mem_singleton.1 h2
        omega
end Go.Proofs.YtajcddnclahhhaaDoor
namespace Go.Proofs.YtajcddnclahhhaaDoor
open Go.ChangeShapes Go.WideShapes Go.ChangeAt Go.RowKit
set_option linter.unusedVariables false

theorem dec_one (g : GS) (v c : Int) : decide ((g, [v]) = (g, [c])) = (v == c) := by
  by_cases h : v = c
  · simp [h]
  · simp [h]
set_option maxHeartbeats 6400000 in
set_option maxRecDepth 20000 in
theorem specIs_any {p : List EN} {l : List Int} {t : List (Int × Int)} (hg : GoodG (p, l)) (ht : goodB t = true) (bs : List Int) (hbl : bs.length = 4) (a b ta ba : Option Addr) (lb cap cb tl tc bc : Nat) (h120 : lb ≤ 120) : ∀ k, k < tl → ∀ (c : Int) (w : World), ESl w a lb p → Sl w b lb l → NSl w ta tl t → Sl w ba 4 bs →
    Calls Tryd.prog 52 #[.agg #[.slice a lb cap, .slice b lb cb], .slice ta tl tc, .int .i64 (k : Int), .int .i64 c, .slice ba 4 bc] w fun e w' => e = .returned (.bool (decide (treeA (some bs) t (p, l) k = ((p, l), [c])))) ∧ Below w.heap.size w w' := by
  intro k
  induction k using Nat.strongRecOn with
  | ind k IH =>
  intro hk c w h hl hN hv
  obtain ⟨hp, ht1, ht40⟩ := good_pile ht
  have hll := h.1
  have htl := hN.1
  obtain ⟨tb, to, rfl, htb, htc⟩ := hN.at (by omega)
  have hkt : k < t.length := by omega
  have htree := @tree_node t 1 hp bs (p, l) hg k hkt
  have htv := tree_var hp bs (p, l) hkt
  have hgv := good_var ht (t.getD k (0, 0)) (by rw [List.getD_eq_getElem?_getD, List.getElem?_eq_getElem hkt]; exact List.getElem_mem _)
  obtain ⟨s1, s2⟩ := cnt_step hp k hkt
  obtain ⟨a1, a2, a3, _⟩ := fits_iff _ _ _ _ s1
  have ch := (chain_of hp hkt).2.2
  have hparts := fun W (hNW : NSl W (some ⟨tb, to, none⟩) tl t) => parts_any hp (some ⟨tb, to, none⟩) tl tc W hNW (by omega) k hk
  have c1 := (htc k hk).1
  have c2 := (htc k hk).2
  obtain ⟨x, hx⟩ : ∃ x, t.getD k (0, 0) = x := ⟨_, rfl⟩
  rw [hx] at htree htv hgv a1 a2 ch hparts c1 c2
  obtain ⟨xo, xn⟩ := x
  simp only at htree htv hgv a1 a2 ch hparts c1 c2
  obtain ⟨m, hm⟩ : ∃ m : Nat, (ar xo).toNat = m := ⟨_, rfl⟩
  rw [hm] at htree ch hparts
  have hm3 : m ≤ 3 := by have := (ar_range xo).2; omega
  obtain ⟨W1, hW1⟩ : ∃ W1, (w.alloc (.cells #[.slice a lb cap, .slice b lb cb] 34)).alloc (.cells #[.int .i64 xo, .int .i64 xn] 64) = W1 := ⟨_, rfl⟩
  have hb1 : Below w.heap.size w W1 := by rw [← hW1]; exact ((Below.refl _ _).alloc (Nat.le_refl _) _).alloc (by simp) _
  have hs1 : W1.heap.size = w.heap.size + 2 := by rw [← hW1]; simp
  have n0 : W1.cell? ⟨w.heap.size, 0, none⟩ = some (.slice a lb cap) := by rw [← hW1]; simp [go_sem]
  have n1 : W1.cell? ⟨w.heap.size, 1, none⟩ = some (.slice b lb cb) := by rw [← hW1]; simp [go_sem]
  have x0 : W1.cell? ⟨w.heap.size + 1, 0, none⟩ = some (.int .i64 xo) := by rw [← hW1]; simp [go_sem]
  have x1 : W1.cell? ⟨w.heap.size + 1, 1, none⟩ = some (.int .i64 xn) := by rw [← hW1]; simp [go_sem]
  have hne : ¬ tb = w.heap.size := by omega
  have hkl : (k : Int) < tl := by omega
  have hF : Hid (∀ W, Below W1.heap.size W1 W → Below w.heap.size w W ∧ W.cell? ⟨w.heap.size, 0, none⟩ = some (.slice a lb cap) ∧ W.cell? ⟨w.heap.size, 1, none⟩ = some (.slice b lb cb) ∧ W.cell? ⟨w.heap.size + 1, 0, none⟩ = some (.int .i64 xo) ∧ W.cell? ⟨w.heap.size + 1, 1, none⟩ = some (.int .i64 xn)) := fun W hW => ⟨hb1.trans (hW.mono hb1.size), (hW.cell (p := ⟨w.heap.size, 0, none⟩) (by show w.heap.size < _; omega)).trans n0, (hW.cell (p := ⟨w.heap.size, 1, none⟩) (by show w.heap.size < _; omega)).trans n1, (hW.cell (p := ⟨w.heap.size + 1, 0, none⟩) (by show w.heap.size + 1 < _; omega)).trans x0, (hW.cell (p := ⟨w.heap.size + 1, 1, none⟩) (by show w.heap.size + 1 < _; omega)).trans x1⟩
  by_cases h2 : xo = 2
  · subst h2
    have hfit := hgv rfl
    obtain ⟨n, rfl⟩ : ∃ n : Nat, xn = n := ⟨xn.toNat, by omega⟩
    rw [htv rfl, dec_one, Int.toNat_natCast]
    obtain ⟨vb, vo, rfl, hvb, hvc⟩ : ∃ b off, ba = some ⟨b, off, none⟩ ∧ b < w.heap.size ∧ ∀ i, i < 4 → w.cell? ⟨b, off + i, none⟩ = some (.int .i64 (bs.getD i 0)) := by
      rcases hv.2 with h0 | h0
      · omega
      · exact h0
    have hn4 : n < 4 := by omega
    have q3 := (hb1.cell (p := ⟨vb, vo + n, none⟩) hvb).trans (hvc n hn4)
    have i0 : (0 : Int) ≤ n := by omega
    have i4 : (n : Int) < 4 := by omega
    have hne2 : ¬ vb = w.heap.size := by omega
    have hne3 : ¬ vb = w.heap.size + 1 := by omega
    have q4 := hvc n hn4
    have HB := (show Hid _ from hb1)
    generalize bs.getD n 0 = z at q3 q4 ⊢
    clear h hl hN hv htree htv hgv ch hparts hF IH hvc htc hb1 a1 a2 a3 s1 s2 hfit
    go_enter Tryd.func52, Tryd.ntmps52
    go_wp2
    (try rw [hW1])
    go_ret
    exact ⟨rfl, HB.out⟩
  · have htree := htree h2 c
    have i2 : (xo == 2) = false := by simpa using h2
    obtain ⟨T, hT⟩ : ∃ T : Nat → Int → Bool, T = fun j d => decide (treeA (some bs) t (p, l) ((roots t m k).getD j 0) = ((p, l), [d])) := ⟨_, rfl⟩
    have HTr : Hid (decide (treeA (some bs) t (p, l) k = ((p, l), [c])) = true ↔ ∃ i, i < lb ∧ (p.getD i e0).1 = xo ∧ (p.getD i e0).2.1 = xn ∧ l.getD i 0 = c ∧ ∀ j, j < m → T j ((p.getD i e0).2.2.getD j 0) = true) := by
      show _ ↔ _
      rw [decide_eq_true_iff, htree]
      constructor
      · rintro ⟨i, q1, q2, q3, q4, q5⟩
        exact ⟨i, by rw [← hll]; exact q1, q2, q3, q4, fun j hj => by rw [hT]; exact decide_eq_true (q5 j hj)⟩
      · rintro ⟨i, q1, q2, q3, q4, q5⟩
        exact ⟨i, by rw [hll]; exact q1, q2, q3, q4, fun j hj => by have := q5 j hj; rw [hT] at this; exact of_decide_eq_true this⟩
    have HI : Hid (∀ j, j < m → ∀ d W, Below W1.heap.size W1 W → Calls Tryd.prog 52 #[.agg #[.slice a lb cap, .slice b lb cb], .slice (some ⟨tb, to, none⟩) tl tc, .int .i64 (((roots t m k).getD j 0 : Nat) : Int), .int .i64 d, .slice ba 4 bc] W fun e w' => e = .returned (.bool (T j d)) ∧ Below W.heap.size W w') := fun j hj d W hW => by
      have hc := ch j hj
      rw [hT]
      exact IH _ hc.2.2 (by omega) d W ((h.keep hb1).keep hW) ((hl.keep hb1).keep hW) ((hN.keep hb1).keep hW) ((hv.keep hb1).keep hW)
    have HP : Hid (∀ W, Below W1.heap.size W1 W → Calls Tryd.prog 81 #[.slice (some ⟨tb, to, none⟩) tl tc, .int .i64 (k : Int)] W fun e w' => ∃ v : Value, e = .returned v ∧ w'.ownsRow W.heap.size 3 1 v m (ints (roots t m k)) ∧ Below W.heap.size W w') := fun W hW => hparts W ((hN.keep hb1).keep hW)
    have HE : Hid (∀ i, i < lb → ((p.getD i e0).1 = xo → (p.getD i e0).2.2.length = m) ∧ ∀ W, Below W1.heap.size W1 W → ∃ eb eo fb fo, a = some ⟨eb, eo, none⟩ ∧ b = some ⟨fb, fo, none⟩ ∧ fb < W1.heap.size ∧ ∃ ai li ci, W.cell? ⟨eb, eo + i * 3, none⟩ = some (.int .i64 (p.getD i e0).1) ∧ W.cell? ⟨eb, eo + i * 3 + 1, none⟩ = some (.int .i64 (p.getD i e0).2.1) ∧ W.cell? ⟨eb, eo + i * 3 + 2, none⟩ = some (.slice ai li ci) ∧ Sl W ai li (p.getD i e0).2.2 ∧ W.cell? ⟨fb, fo + i, none⟩ = some (.int .i64 (l.getD i 0))) := fun i hi => by
      refine ⟨fun e => ?_, fun W hW => ?_⟩
      · have := (fit_node (hg.1 i (by show i < p.length; omega))).2.1
        have e' : ((p, l) : GS).1.getD i e0 = p.getD i e0 := rfl
        rw [e', e] at this
        have hm' := hm
        rw [← this, Int.toNat_natCast] at hm'
        exact hm'
      · obtain ⟨eb, eo, e1, _, e2⟩ := ((h.keep hb1).keep hW).at (by omega)
        obtain ⟨ai, li, ci, d1, d2, d3, _, _, d4⟩ := e2 i hi
        rcases (hl.keep hb1).2 with h0 | ⟨fb, fo, f1, f2, f3⟩
        · omega
        · exact ⟨eb, eo, fb, fo, e1, f1, f2, ai, li, ci, d1, d2, d3, d4, (hW.cell (p := ⟨fb, fo + i, none⟩) f2).trans (f3 i hi)⟩
    have HS1 : Hid (W1.heap.size = w.heap.size + 2) := hs1
    clear h hl hN hv htree htv hgv ch hparts IH htc hb1 a1 a2 a3 s1 s2 hT hg ht hp hs1
    go_enter Tryd.func52, Tryd.ntmps52
    go_wp2_with fail
    (try rw [hW1])
    go_loopw [34] (fun i wr => ∃ n : Nat, n ≤ lb ∧ i = .int .i64 n ∧ Hid (Below W1.heap.size W1 wr) ∧ Hid (∀ i', i' < n → ¬ ((p.getD i' e0).1 = xo ∧ (p.getD i' e0).2.1 = xn ∧ l.getD i' 0 = c ∧ ∀ j, j < m → T j ((p.getD i' e0).2.2.getD j 0) = true))) (fun i _ => lb - (intOf i).toNat)
    case atStart => exact ⟨0, Nat.zero_le _, rfl, Below.refl _ _, fun i' h => absurd h (Nat.not_lt_zero _)⟩
    case round =>
      obtain ⟨n, hn, rfl, hB, hno⟩ := hrel
      obtain ⟨wo, rfl⟩ : ∃ x, x = wr := ⟨_, rfl⟩
      by_cases hlt : n < lb
      · obtain ⟨hlen, hcs⟩ := HE.out n hlt
        obtain ⟨eb, eo, fb, fo, rfl, rfl, hfb, ai, li, ci, d1, d2, d3, d4, d5⟩ := hcs wo hB.out
        obtain ⟨-, g0, g1, y0, y1⟩ := hF.out wo hB.out
        have hsz := hB.out.size
        have hs1 := HS1.out
        have z0 : ¬ w.heap.size = wo.heap.size := by omega
        have z1 : ¬ w.heap.size + 1 = wo.heap.size := by omega
        have z2 : ¬ fb = wo.heap.size := by omega
        have hnl : (n : Int) < lb := by omega
        have HN1 : Hid (∀ i', i' < n + 1 → i' ≠ n → ¬ ((p.getD i' e0).1 = xo ∧ (p.getD i' e0).2.1 = xn ∧ l.getD i' 0 = c ∧ ∀ j, j < m → T j ((p.getD i' e0).2.2.getD j 0) = true)) := fun i' h1 h2 => hno.out i' (by omega)
        clear hno
        obtain ⟨y, hy⟩ : ∃ y, p.getD n e0 = y := ⟨_, rfl⟩
        obtain ⟨lc, hlc⟩ : ∃ z, l.getD n 0 = z := ⟨_, rfl⟩
        have HY : Hid (p.getD n e0 = y ∧ l.getD n 0 = lc) := ⟨hy, hlc⟩
        rw [hy] at hlen d1 d2 d4
        rw [hlc] at d5
        clear hy hlc hcs
        obtain ⟨yo, yn, ys⟩ := y
        simp only at hlen d1 d2 d4
        have HB1 : Hid (∀ W, Below wo.heap.size wo W → Below W1.heap.size W1 W) := fun W hW => hB.out.trans (hW.mono hB.out.size)
        have hskip : (¬ (yo = xo ∧ yn = xn ∧ lc = c ∧ ∀ j, j < m → T j (ys.getD j 0) = true)) → Hid (∀ i', i' < n + 1 → ¬ ((p.getD i' e0).1 = xo ∧ (p.getD i' e0).2.1 = xn ∧ l.getD i' 0 = c ∧ ∀ j, j < m → T j ((p.getD i' e0).2.2.getD j 0) = true)) := fun hs i' h1 => by
          by_cases hin : i' = n
          · rw [hin, HY.out.1, HY.out.2]; exact hs
          · exact HN1.out i' h1 hin
        have hal : ∀ o, Below wo.heap.size wo (wo.alloc o) := fun o => (Below.refl _ _).alloc (Nat.le_refl _) o
        have HAL := (show Hid _ from hal)
        clear hal
        obtain ⟨W2, hW2⟩ : ∃ W2, wo.alloc (.cells #[.int .i64 yo, .int .i64 yn, .slice ai li ci] 98) = W2 := ⟨_, rfl⟩
        have hb2 : Below wo.heap.size wo W2 := by rw [← hW2]; exact HAL.out _
        have hs2 : wo.heap.size < W2.heap.size := by rw [← hW2]; simp
        have o2 : W2.cell? ⟨wo.heap.size, 2, none⟩ = some (.slice ai li ci) := by rw [← hW2]; simp [go_sem]
        have o0 : W2.cell? ⟨wo.heap.size, 0, none⟩ = some (.int .i64 yo) := by rw [← hW2]; simp [go_sem]
        have o1 : W2.cell? ⟨wo.heap.size, 1, none⟩ = some (.int .i64 yn) := by rw [← hW2]; simp [go_sem]
        have g0 := (hb2.cell (p := ⟨w.heap.size, 0, none⟩) (by show w.heap.size < _; omega)).trans g0
        have g1 := (hb2.cell (p := ⟨w.heap.size, 1, none⟩) (by show w.heap.size < _; omega)).trans g1
        have y0 := (hb2.cell (p := ⟨w.heap.size + 1, 0, none⟩) (by show w.heap.size + 1 < _; omega)).trans y0
        have y1 := (hb2.cell (p := ⟨w.heap.size + 1, 1, none⟩) (by show w.heap.size + 1 < _; omega)).trans y1
        have d5 := (hb2.cell (p := ⟨fb, fo + n, none⟩) (by show fb < _; omega)).trans d5
        by_cases e1 : lc = c
        · by_cases e2 : yo = xo
          · by_cases e3 : yn = xn
            · subst e1 e2 e3
              have hys := hlen rfl
              have hli : li = m := by rw [← hys]; exact d4.1.symm
              subst hli
              have q1 : (lc != lc) = false := by simp
              have q2 : (yo != yo) = false := by simp
              have q3 : (yn != yn) = false := by simp
              have HP2 := (show Hid _ from HP.out W2 (HB1.out W2 hb2))
              have HX : Hid (∀ W, Below W2.heap.size W2 W → Below wo.heap.size wo W ∧ W.cell? ⟨wo.heap.size, 2, none⟩ = some (.slice ai li ci) ∧ Sl W ai li ys) := fun W hW => ⟨hb2.trans (hW.mono hb2.size), (hW.cell (p := ⟨wo.heap.size, 2, none⟩) (by show wo.heap.size < _; omega)).trans o2, (d4.keep hb2).keep hW⟩
              clear d4 hb2 hB
              go_wp2_with fail
              (try rw [hW2])
              refine Calls.mono HP2.out ?_
              rintro e w3 ⟨v, rfl, hv3, hb3⟩
              obtain ⟨pa, pc, rfl, _⟩ := row_slice hv3
              have HV := (show Hid _ from hv3)
              have HB3 := (show Hid _ from hb3)
              clear HP2 hv3 hb3 hW2 d1 d2 d3 d5 g0 g1 y0 y1 o0 o1 o2
              go_wp2_with fail
              go_loopw [14, 64] (fun al i wr => ∃ j : Nat, j ≤ li ∧ i = .int .i64 j ∧ al = .bool (decide (∀ j', j' < j → T j' (ys.getD j' 0) = true)) ∧ Hid (Below w3.heap.size w3 wr)) (fun _ i _ => li - (intOf i).toNat)
              case atStart => exact ⟨0, Nat.zero_le _, rfl, by rw [decide_eq_true (fun j' h => absurd h (Nat.not_lt_zero _))], Below.refl _ _⟩
              case round =>
                obtain ⟨j, hj, rfl, rfl, hBi⟩ := hrel
                obtain ⟨wi, rfl⟩ : ∃ x, x = wr := ⟨_, rfl⟩
                have hBw : Below W2.heap.size W2 wi := HB3.out.trans (hBi.out.mono HB3.out.size)
                by_cases hjl : j < li
                · obtain ⟨gp, cp, e, hgl, hcp⟩ := own_row HV.out (by omega)
                  cases e
                  have cj : wi.cell? ⟨gp, j, none⟩ = some (.int .i64 (((roots t li k).getD j 0 : Nat) : Int)) := (hBi.out.cell (p := ⟨gp, j, none⟩) hgl).trans (hcp j hjl)
                  have hjm : (j : Int) < li := by omega
                  have HNX : Hid (∀ r : Bool, T j (ys.getD j 0) = r → decide (∀ j', j' < j → T j' (ys.getD j' 0) = true) = true → decide (∀ j', j' < j + 1 → T j' (ys.getD j' 0) = true) = r) := fun r hr ha => by
                    have ha := of_decide_eq_true ha
                    cases r with
                    | true =>
                      refine decide_eq_true (fun j' hj' => ?_)
                      by_cases e : j' = j
                      · rw [e]; exact hr
                      · exact ha j' (by omega)
                    | false =>
                      refine decide_eq_false (fun hc => ?_)
                      have := hc j (by omega)
                      rw [hr] at this; cases this
                  have HNF : Hid (decide (∀ j', j' < j → T j' (ys.getD j' 0) = true) = false → decide (∀ j', j' < j + 1 → T j' (ys.getD j' 0) = true) = false) := fun ha => decide_eq_false (fun hc => of_decide_eq_false ha (fun j' hj' => hc j' (by omega)))
                  have hBd : Below W2.heap.size W2 wi.drew := hBw.drew
                  obtain ⟨hwd, p2, pS⟩ := HX.out _ hBd
                  obtain ⟨-, g0, g1, -, -⟩ := hF.out _ (HB1.out _ hwd)
                  have HCI := (show Hid _ from HI.out j hjl (ys.getD j 0) _ (HB1.out _ hwd))
                  obtain ⟨kb, ko, rfl, kc⟩ := cells_of pS (by omega)
                  have kj := kc j hjl
                  have HBD : Hid (Below w3.heap.size w3 wi.drew) := hBi.out.drew
                  have HB0 : Hid (Below w3.heap.size w3 wi) := hBi.out
                  obtain ⟨r, hr⟩ : ∃ r, T j (ys.getD j 0) = r := ⟨_, rfl⟩
                  have HR := (show Hid _ from hr)
                  rw [hr] at HCI
                  obtain ⟨d, hd⟩ : ∃ d, ys.getD j 0 = d := ⟨_, rfl⟩
                  rw [hd] at HCI kj
                  obtain ⟨rt, hrt⟩ : ∃ rt, (roots t li k).getD j 0 = rt := ⟨_, rfl⟩
                  rw [hrt] at HCI cj
                  clear hBw hBd hwd pS kc hcp hBi hr hd hrt
                  cases hA : decide (∀ j', j' < j → T j' (ys.getD j' 0) = true) with
                  | true =>
                    have HA := (show Hid _ from HNX.out r HR.out hA)
                    clear hA HNX HNF
                    go_wp2_with fail
                    go_region_with (first
                      | (go_at_call 52; refine Calls.mono HCI.out ?_; rintro e w5 ⟨rfl, hb5⟩; have HB5 := (show Hid _ from HBD.out.trans (hb5.mono HBD.out.size)); clear hb5))
                    all_goals
                      clear HCI HBD p2 g0 g1 kj cj
                      go_wp2
                      go_roundw
                      case rel => exact ⟨j + 1, by omega, by go_num, by rw [HA.out], HB5⟩
                      case measure => simp [intOf]; omega
                  | false =>
                    have HA := (show Hid _ from HNF.out hA)
                    have HBI : Hid (Below w3.heap.size w3 wi.drew) := HBD
                    clear hA HNX HNF HCI HBD
                    go_wp2_with fail
                    go_quiet (fail)
                    go_wp2
                    go_roundw
                    case rel => exact ⟨j + 1, by omega, by go_num, by rw [HA.out], by first | exact below_drewN HB0.out _ | exact HBI⟩
                    case measure => simp [intOf]; omega
                · obtain rfl : j = li := by omega
                  have hBo := (HX.out _ hBw).1
                  have HBo := (show Hid _ from HB1.out _ hBo)
                  have HEnd : Hid (Below w.heap.size w wi) := (hF.out _ HBo.out).1
                  clear hBw hBi hBo
                  cases hA : decide (∀ j', j' < j → T j' (ys.getD j' 0) = true) with
                  | true =>
                    have HV : Hid (decide (treeA (some bs) t (p, l) k = ((p, l), [lc])) = true) := HTr.out.2 ⟨n, hlt, by rw [HY.out.1], by rw [HY.out.1], HY.out.2, by rw [HY.out.1]; exact of_decide_eq_true hA⟩
                    clear hA hskip
                    go_wp2
                    go_ret
                    exact ⟨by rw [HV.out] <;> rfl, HEnd.out⟩
                  | false =>
                    have HSk := hskip (fun hc => of_decide_eq_false hA hc.2.2.2)
                    clear hA hskip
                    go_wp2
                    go_roundw
                    case rel => exact ⟨n + 1, by omega, by go_num, HBo, HSk⟩
                    case measure => simp [intOf]; omega
            · have HSk := hskip (fun hc => e3 hc.2.1)
              subst e1 e2
              have q1 : (lc != lc) = false := by simp
              have q2 : (yo != yo) = false := by simp
              have q3 : (yn != xn) = true := by simpa using e3
              clear hskip d4 hlen
              go_wp2
              go_roundw
              case rel => exact ⟨n + 1, by omega, by go_num, (by first | exact HB1.out _ hb2 | exact HB1.out _ (HAL.out _)), HSk⟩
              case measure => simp [intOf]; omega
          · have HSk := hskip (fun hc => e2 hc.1)
            subst e1
            have q1 : (lc != lc) = false := by simp
            have q2 : (yo != xo) = true := by simpa using e2
            clear hskip d4 hlen
            go_wp2
            go_roundw
            case rel => exact ⟨n + 1, by omega, by go_num, (by first | exact HB1.out _ hb2 | exact HB1.out _ (HAL.out _)), HSk⟩
            case measure => simp [intOf]; omega
        · have HSk := hskip (fun hc => e1 hc.2.2.1)
          have q1 : (lc != c) = true := by simpa using e1
          clear hskip d4 hlen
          go_wp2
          go_roundw
          case rel => exact ⟨n + 1, by omega, by go_num, (by first | exact HB1.out _ hb2 | exact HB1.out _ (HAL.out _)), HSk⟩
          case measure => simp [intOf]; omega
      · obtain rfl : n = lb := by omega
        have HV : Hid (decide (treeA (some bs) t (p, l) k = ((p, l), [c])) = false) := by
          show _ = _
          cases hd : decide (treeA (some bs) t (p, l) k = ((p, l), [c])) with
          | false => rfl
          | true =>
            obtain ⟨i, q1, q2⟩ := HTr.out.1 hd
            exact absurd q2 (hno.out i q1)
        have HEnd : Hid (Below w.heap.size w wo) := (hF.out _ hB.out).1
        clear hno
        go_wp2
        go_ret
        exact ⟨by rw [HV.out] <;> rfl, HEnd.out⟩
end Go.Proofs.YtajcddnclahhhaaDoor
namespace Go.Proofs.YtajcddnclahhhaaDoor
open Go.ChangeShapes Go.WideShapes Go.ChangeAt Go.RowKit
set_option linter.unusedVariables false

set_option maxHeartbeats 3200000 in
set_option maxRecDepth 20000 in
theorem specIsMatch_any (a b : Option Addr) (len cap lb cb : Nat) (p : List EN) (l : List Int) (ta : Option Addr) (tl tc : Nat) (t : List (Int × Int)) (c : Int) (ba : Option Addr) (bl bc : Nat) (bs : List Int) (w : World) (h : ESl w a len p) (hl : Sl w b lb l) (ht : NSl w ta tl t) (hv : Sl w ba bl bs) (hm : len ≤ 9223372036854775807) (hm2 : lb ≤ 9223372036854775807) (hm3 : tl ≤ 9223372036854775807) (hm4 : bl ≤ 9223372036854775807) :
    Calls Tryd.prog 24 #[.agg #[.slice a len cap, .slice b lb cb], .slice ta tl tc, .int .i64 c, .slice ba bl bc] w fun e w' => e = .returned (.tuple #[.bool (isM p l t c bs), .bool (askB p l t c bs)]) ∧ Below w.heap.size w w' := by
  have hll := h.1
  have hl1 := hl.1
  have htl := ht.1
  have hvl := hv.1
  obtain ⟨W1, hW1⟩ : ∃ W1, w.alloc (.cells #[.slice a len cap, .slice b lb cb] 34) = W1 := ⟨_, rfl⟩
  have hb1 : Below w.heap.size w W1 := by rw [← hW1]; exact (Below.refl _ _).alloc (Nat.le_refl _) _
  have hs1 : w.heap.size < W1.heap.size := by rw [← hW1]; simp
  have n0 : W1.cell? ⟨w.heap.size, 0, none⟩ = some (.slice a len cap) := by rw [← hW1]; simp [go_sem]
  have n1 : W1.cell? ⟨w.heap.size, 1, none⟩ = some (.slice b lb cb) := by rw [← hW1]; simp [go_sem]
  have HG := (show Hid _ from specGraph_any a b len cap lb cb p l W1 (h.keep hb1) (hl.keep hb1) hm hm2)
  have HGt : Hid (∀ W, Below W1.heap.size W1 W → Calls Tryd.prog 31 #[.slice ta tl tc] W fun e w' => e = .returned (.bool (patB t)) ∧ Below W.heap.size W w') := fun W hW => specPat_any ta tl tc t W ((ht.keep hb1).keep hW) hm3
  have HF : Hid (∀ W, Below W1.heap.size W1 W → Below w.heap.size w W ∧ W.cell? ⟨w.heap.size, 0, none⟩ = some (.slice a len cap) ∧ W.cell? ⟨w.heap.size, 1, none⟩ = some (.slice b lb cb)) := fun W hW => ⟨hb1.trans (hW.mono hb1.size), (hW.cell (p := ⟨w.heap.size, 0, none⟩) hs1).trans n0, (hW.cell (p := ⟨w.heap.size, 1, none⟩) hs1).trans n1⟩
  cases hgb : graphB p l with
  | false =>
    have hno : askB p l t c bs = false := by unfold askB; rw [hgb]; rfl
    have hni : isM p l t c bs = false := by unfold isM; rw [hno]; rfl
    rw [hno, hni]
    rw [hgb] at HG
    clear h hl ht hv hb1 HGt hno hni
    go_enter Tryd.func24, Tryd.ntmps24
    go_wp2_with fail
    (try rw [hW1])
    refine Calls.mono HG.out ?_
    rintro e w2 ⟨rfl, hb2⟩
    have HB := (show Hid _ from (HF.out w2 hb2).1)
    clear HG hW1 HF hb2
    go_wp2
    go_ret2
    exact ⟨rfl, HB.out⟩
  | true =>
    rw [hgb] at HG
    cases hgt : patB t with
    | false =>
      have hno : askB p l t c bs = false := by unfold askB; rw [hgb, hgt]; rfl
      have hni : isM p l t c bs = false := by unfold isM; rw [hno]; rfl
      rw [hno, hni]
      rw [hgt] at HGt
      clear h hl ht hv hb1 hno hni
      go_enter Tryd.func24, Tryd.ntmps24
      go_wp2_with fail
      (try rw [hW1])
      refine Calls.mono HG.out ?_
      rintro e w2 ⟨rfl, hb2⟩
      have HT2 := (show Hid _ from HGt.out w2 hb2)
      have HB2 := (show Hid _ from hb2)
      clear HG hW1 HGt hb2
      go_wp2_with fail
      refine Calls.mono HT2.out ?_
      rintro e w3 ⟨rfl, hb3⟩
      have HB := (show Hid _ from (HF.out w3 (HB2.out.trans (hb3.mono HB2.out.size))).1)
      clear HT2 HF hb3
      go_wp2
      go_ret2
      exact ⟨rfl, HB.out⟩
    | true =>
      rw [hgt] at HGt
      obtain ⟨h120, hgood⟩ := (graphB_good p l).1 hgb
      have hgT : goodB t = true := by unfold patB at hgt; simp only [Bool.and_eq_true] at hgt; exact hgt.1
      obtain ⟨hp, ht1, ht40⟩ := good_pile hgT
      have hlp := hgood.2.1
      simp only at hlp
      obtain rfl : lb = len := by omega
      have HK : Hid (∀ W, Below W1.heap.size W1 W → Calls Tryd.prog 32 #[.agg #[.slice a lb cap, .slice b lb cb], .int .i64 c] W fun e w' => e = .returned (.bool (clB l c)) ∧ Below W.heap.size W w') := fun W hW => specClass_any a b lb cap cb l c W ((hl.keep hb1).keep hW) (by omega)
      have HV : Hid (∀ W, Below W1.heap.size W1 W → Calls Tryd.prog 51 #[.agg #[.slice a lb cap, .slice b lb cb], .slice ba bl bc] W fun e w' => e = .returned (.bool (bindB l bs)) ∧ Below W.heap.size W w') := fun W hW => specBind_any a b ba lb cap cb bl bc l bs W ((hl.keep hb1).keep hW) ((hv.keep hb1).keep hW) (by omega) hm4
      cases hkb : clB l c with
      | false =>
        have hno : askB p l t c bs = false := by unfold askB; rw [hgb, hgt, hkb]; rfl
        have hni : isM p l t c bs = false := by unfold isM; rw [hno]; rfl
        rw [hno, hni]
        rw [hkb] at HK
        clear h hl ht hv hb1 hno hni hgood hp hgb hgt hgT hlp hl1 HV
        go_enter Tryd.func24, Tryd.ntmps24
        go_wp2_with fail
        (try rw [hW1])
        refine Calls.mono HG.out ?_
        rintro e w2 ⟨rfl, hb2⟩
        have HT2 := (show Hid _ from HGt.out w2 hb2)
        have HB2 := (show Hid _ from hb2)
        clear HG hW1 HGt hb2
        go_wp2_with fail
        refine Calls.mono HT2.out ?_
        rintro e w3 ⟨rfl, hb3⟩
        have hB3 := HB2.out.trans (hb3.mono HB2.out.size)
        obtain ⟨-, g0, g1⟩ := HF.out w3 hB3
        have HK3 := (show Hid _ from HK.out w3 hB3)
        have HB3' := (show Hid _ from hB3)
        clear HT2 hb3 HB2 HK hB3
        go_wp2_with fail
        refine Calls.mono HK3.out ?_
        rintro e w4 ⟨rfl, hb4⟩
        clear g0 g1
        have HB := (show Hid _ from (HF.out w4 (HB3'.out.trans (hb4.mono HB3'.out.size))).1)
        clear HK3 HF hb4 HB3'
        go_wp2
        go_ret2
        exact ⟨rfl, HB.out⟩
      | true =>
        rw [hkb] at HK
        cases hbb : bindB l bs with
        | false =>
          have hno : askB p l t c bs = false := by unfold askB; rw [hgb, hgt, hkb, hbb]; rfl
          have hni : isM p l t c bs = false := by unfold isM; rw [hno]; rfl
          rw [hno, hni]
          rw [hbb] at HV
          clear h hl ht hv hb1 hno hni hgood hp hgb hgt hgT hlp hl1
          go_enter Tryd.func24, Tryd.ntmps24
          go_wp2_with fail
          (try rw [hW1])
          refine Calls.mono HG.out ?_
          rintro e w2 ⟨rfl, hb2⟩
          have HT2 := (show Hid _ from HGt.out w2 hb2)
          have HB2 := (show Hid _ from hb2)
          clear HG hW1 HGt hb2
          go_wp2_with fail
          refine Calls.mono HT2.out ?_
          rintro e w3 ⟨rfl, hb3⟩
          have hB3 := HB2.out.trans (hb3.mono HB2.out.size)
          obtain ⟨-, g0, g1⟩ := HF.out w3 hB3
          have HK3 := (show Hid _ from HK.out w3 hB3)
          have HB3' := (show Hid _ from hB3)
          clear HT2 hb3 HB2 HK hB3
          go_wp2_with fail
          refine Calls.mono HK3.out ?_
          rintro e w4 ⟨rfl, hb4⟩
          clear g0 g1
          have hB4 := HB3'.out.trans (hb4.mono HB3'.out.size)
          obtain ⟨-, g0, g1⟩ := HF.out w4 hB4
          have HV4 := (show Hid _ from HV.out w4 hB4)
          have HB4 := (show Hid _ from hB4)
          clear HK3 hb4 HB3' HV hB4
          go_wp2_with fail
          refine Calls.mono HV4.out ?_
          rintro e w5 ⟨rfl, hb5⟩
          clear g0 g1
          have HB := (show Hid _ from (HF.out w5 (HB4.out.trans (hb5.mono HB4.out.size))).1)
          clear HV4 HF hb5 HB4
          go_wp2
          go_ret2
          exact ⟨rfl, HB.out⟩
        | true =>
          rw [hbb] at HV
          have hyes : askB p l t c bs = true := by unfold askB; rw [hgb, hgt, hkb, hbb]; rfl
          have hism : isM p l t c bs = decide (treeA (some bs) t (p, l) (tl - 1) = ((p, l), [c])) := by
            unfold isM
            rw [hyes, Bool.true_and, ← htl]
            exact decide_eq_decide.2 (found_iff hgood hgT hbb hkb)
          rw [hism, hyes]
          have hb4 := bindB_len hbb
          obtain rfl : bl = 4 := by omega
          have HI : Hid (∀ W, Below W1.heap.size W1 W → Calls Tryd.prog 52 #[.agg #[.slice a lb cap, .slice b lb cb], .slice ta tl tc, .int .i64 ((tl - 1 : Nat) : Int), .int .i64 c, .slice ba 4 bc] W fun e w' => e = .returned (.bool (decide (treeA (some bs) t (p, l) (tl - 1) = ((p, l), [c])))) ∧ Below W.heap.size W w') := fun W hW => specIs_any hgood hgT bs hb4 a b ta ba lb cap cb tl tc bc (by omega) (tl - 1) (by omega) c W ((h.keep hb1).keep hW) ((hl.keep hb1).keep hW) ((ht.keep hb1).keep hW) ((hv.keep hb1).keep hW)
          have hsub : wrap64 ((tl : Int) - 1) = ((tl - 1 : Nat) : Int) := by unfold wrap64; omega
          have hsub2 : (tl : Int) - 1 = ((tl - 1 : Nat) : Int) := by omega
          generalize decide (treeA (some bs) t (p, l) (tl - 1) = ((p, l), [c])) = R at HI ⊢
          obtain ⟨k1, hk1⟩ : ∃ k1 : Nat, tl - 1 = k1 := ⟨_, rfl⟩
          rw [hk1] at HI hsub hsub2
          clear h hl ht hv hb1 hgood hp hgb hgt hgT hkb hbb hlp hl1 h120 hb4 hvl hism hyes hk1
          go_enter Tryd.func24, Tryd.ntmps24
          go_wp2_with fail
          (try rw [hW1])
          refine Calls.mono HG.out ?_
          rintro e w2 ⟨rfl, hb2⟩
          have HT2 := (show Hid _ from HGt.out w2 hb2)
          have HB2 := (show Hid _ from hb2)
          clear HG hW1 HGt hb2
          go_wp2_with fail
          refine Calls.mono HT2.out ?_
          rintro e w3 ⟨rfl, hb3⟩
          have hB3 := HB2.out.trans (hb3.mono HB2.out.size)
          obtain ⟨-, g0, g1⟩ := HF.out w3 hB3
          have HK3 := (show Hid _ from HK.out w3 hB3)
          have HB3' := (show Hid _ from hB3)
          clear HT2 hb3 HB2 HK hB3
          go_wp2_with fail
          refine Calls.mono HK3.out ?_
          rintro e w4 ⟨rfl, hb4⟩
          clear g0 g1
          have hB4 := HB3'.out.trans (hb4.mono HB3'.out.size)
          obtain ⟨-, g0, g1⟩ := HF.out w4 hB4
          have HV4 := (show Hid _ from HV.out w4 hB4)
          have HB4 := (show Hid _ from hB4)
          clear HK3 hb4 HB3' HV hB4
          go_wp2_with fail
          refine Calls.mono HV4.out ?_
          rintro e w5 ⟨rfl, hb5⟩
          clear g0 g1
          have hB5 := HB4.out.trans (hb5.mono HB4.out.size)
          obtain ⟨-, g0, g1⟩ := HF.out w5 hB5
          have HI5 := (show Hid _ from HI.out w5 hB5)
          have HB5 := (show Hid _ from hB5)
          clear HV4 hb5 HB4 HI hB5
          go_wp2_with fail
          (try rw [hsub2])
          refine Calls.mono HI5.out ?_
          rintro e w6 ⟨rfl, hb6⟩
          have HB := (show Hid _ from (HF.out w6 (HB5.out.trans (hb6.mono HB5.out.size))).1)
          clear HI5 HF hb6 HB5 g0 g1
          go_wp2
          go_ret2
          exact ⟨rfl, HB.out⟩
end Go.Proofs.YtajcddnclahhhaaDoor
namespace Go.Proofs.YtajcddnclahhhaaDoor
open Go.ChangeShapes Go.WideShapes Go.ChangeAt Go.RowKit
set_option linter.unusedVariables false

set_option maxHeartbeats 6400000 in
theorem isMatchLaw_any (a b : Option Addr) (len cap lb cb : Nat) (p : List EN) (l : List Int) (ta : Option Addr) (tl tc : Nat) (t : List (Int × Int)) (c : Int) (ba : Option Addr) (bl bc : Nat) (bs : List Int) (w : World) (ht : Tab w) (h : ESl w a len p) (hl : Sl w b lb l) (hI : InE p) (hN : NSl w ta tl t) (hIt : ∀ k, k < t.length → InI (t.getD k (0, 0)).2) (hm : len ≤ 9223372036854775807) (hm2 : lb ≤ 9223372036854775807) (hv : Sl w ba bl bs) (hm3 : tl ≤ 9223372036854775807) (hm4 : bl ≤ 9223372036854775807) :
    Calls Tryd.prog 5 #[.agg #[.slice a len cap, .slice b lb cb], .slice ta tl tc, .int .i64 c, .slice ba bl bc] w fun e w' => e = .returned (.bool true) ∧ Below w.heap.size w w' := by
  have hll := h.1
  have hl1 := hl.1
  obtain ⟨W1, hW1⟩ : ∃ W1, w.alloc (.cells #[.slice a len cap, .slice b lb cb] 25) = W1 := ⟨_, rfl⟩
  have hb1 : Below w.heap.size w W1 := by rw [← hW1]; exact (Below.refl _ _).alloc (Nat.le_refl _) _
  have n0 : W1.cell? ⟨w.heap.size, 0, none⟩ = some (.slice a len cap) := by rw [← hW1]; simp [go_sem]
  have n1 : W1.cell? ⟨w.heap.size, 1, none⟩ = some (.slice b lb cb) := by rw [← hW1]; simp [go_sem]
  have hs1 : w.heap.size < W1.heap.size := by rw [← hW1]; simp
  have HZ := (show Hid _ from szG_any a b len cap lb cb p l 1048576 W1 (h.keep hb1) (hl.keep hb1) (by omega) hm hm2)
  have HF : Hid (∀ W, Below W1.heap.size W1 W → Below w.heap.size w W) := fun W hW => hb1.trans (hW.mono hb1.size)
  have HT : Hid (∀ W, Below W1.heap.size W1 W → Tab W ∧ ESl W a len p ∧ Sl W b lb l ∧ NSl W ta tl t) := fun W hW => ⟨(ht.keeps hb1).keeps hW, (h.keep hb1).keep hW, (hl.keep hb1).keep hW, (hN.keep hb1).keep hW⟩
  by_cases hbn : bl ≤ 1048576
  case neg =>
    have hbi : (1048576 : Int) < bl := by omega
    have HE := (show Hid _ from hb1)
    clear h hl hb1 ht hN hv HZ HF HT
    go_enter Tryd.func5, Tryd.ntmps5
    go_wp2
    (try rw [hW1])
    go_ret
    exact ⟨rfl, HE.out⟩
  have hbi : ¬ (1048576 : Int) < bl := by omega
  rcases szG_all p l with hz | ⟨z0, z1, z2, z3, z4⟩
  · rw [hz] at HZ
    clear h hl hb1 ht HT hz hN hv
    go_enter Tryd.func5, Tryd.ntmps5
    go_wp2_with fail
    (try rw [hW1])
    refine Calls.mono HZ.out ?_
    rintro e w2 ⟨rfl, hb2⟩
    clear HZ hW1
    go_wp2
    go_ret
    exact ⟨rfl, HF.out _ hb2⟩
  · obtain ⟨sN, hsN⟩ : ∃ sN : Nat, szG 1048576 p l = sN := ⟨(szG 1048576 p l).toNat, by omega⟩
    rw [hsN] at HZ z0 z1
    have hz : ¬ (sN : Int) < 0 := by omega
    have hn : len ≤ 1048576 := by omega
    have hn2 : lb ≤ 1048576 := by omega
    rw [hll] at z4
    have HZ2 : Hid (∀ W, Calls Tryd.prog 7 #[.slice ta tl tc, .int .i64 sN] W fun e w' => e = .returned (.int .i64 (if tl ≤ sN then ((sN - tl : Nat) : Int) else -1)) ∧ w' = W) := fun W => sz_any ta tl tc sN W (by omega) hm3
    by_cases htn : tl ≤ sN
    · rw [if_pos htn] at HZ2
      obtain ⟨s2, hs2⟩ : ∃ s2 : Nat, sN - tl = s2 := ⟨_, rfl⟩
      rw [hs2] at HZ2
      have hz2 : ¬ (s2 : Int) < 0 := by omega
      have htm : tl ≤ 1048576 := by omega
      have HC : Hid (∀ W, Below W1.heap.size W1 W → Calls Tryd.prog 9 #[.agg #[.slice a len cap, .slice b lb cb]] W fun e w' => ∃ g gp, e = .returned (.agg #[.slice (some ⟨g, 0, none⟩) len len, .slice (some ⟨gp, 0, none⟩) lb lb]) ∧ Below W.heap.size W w' ∧ ESl w' (some ⟨g, 0, none⟩) len p ∧ Sl w' (some ⟨gp, 0, none⟩) lb l) := fun W hW => (copyG_any a b len cap lb cb p l W (HT.out W hW).2.1 (HT.out W hW).2.2.1 hn z4 hn2).mono fun e w' ⟨g, gp, hi, r1, r2, _, r4, _, _, r7⟩ => ⟨g, gp, r1, r2, r4.esl (fun i hi => by have := z4 i hi; omega), r7⟩
      have HCN : Hid (∀ W, Below W1.heap.size W1 W → Calls Tryd.prog 10 #[.slice ta tl tc] W fun e w' => e = .returned (.slice (some ⟨W.heap.size, 0, none⟩) tl tl) ∧ Below W.heap.size W w' ∧ NSl w' (some ⟨W.heap.size, 0, none⟩) tl t) := fun W hW => copyN_any ta tl tc t W (HT.out W hW).2.2.2 htm
      have HCB : Hid (∀ W, Below W1.heap.size W1 W → Calls Tryd.prog 25 #[.slice ba bl bc] W fun e w' => e = .returned (.slice (some ⟨W.heap.size, 0, none⟩) bl bl) ∧ Below W.heap.size W w' ∧ Sl w' (some ⟨W.heap.size, 0, none⟩) bl bs) := fun W hW => (copyI_mine ba bl bc bs W ((hv.keep hb1).keep hW) hbn).mono fun e w' ⟨r1, r2, r3, _⟩ => ⟨r1, r2, r3⟩
      have HQB : Hid (∀ W (g g' : Nat), Sl W (some ⟨g, 0, none⟩) bl bs → Sl W (some ⟨g', 0, none⟩) bl bs → Calls Tryd.prog 27 #[.slice (some ⟨g, 0, none⟩) bl bl, .slice (some ⟨g', 0, none⟩) bl bl] W fun e w' => e = .returned (.bool true) ∧ Below W.heap.size W w') := fun W g g' h1 h2 => eqI_same _ _ bl bl bl bs W h1 h2 hbn
      have HSp : Hid (∀ W (g gp gt gx : Nat), ESl W (some ⟨g, 0, none⟩) len p → Sl W (some ⟨gp, 0, none⟩) lb l → NSl W (some ⟨gt, 0, none⟩) tl t → Sl W (some ⟨gx, 0, none⟩) bl bs → Calls Tryd.prog 24 #[.agg #[.slice (some ⟨g, 0, none⟩) len len, .slice (some ⟨gp, 0, none⟩) lb lb], .slice (some ⟨gt, 0, none⟩) tl tl, .int .i64 c, .slice (some ⟨gx, 0, none⟩) bl bl] W fun e w' => e = .returned (.tuple #[.bool (isM p l t c bs), .bool (askB p l t c bs)]) ∧ Below W.heap.size W w') := fun W g gp gt gx h1 h2 h3 h4 => specIsMatch_any _ _ len len lb lb p l _ tl tl t c _ bl bl bs W h1 h2 h3 h4 hm hm2 hm3 hm4
      have HIm : Hid (∀ W (g gp gt gx : Nat), Tab W → ESl W (some ⟨g, 0, none⟩) len p → Sl W (some ⟨gp, 0, none⟩) lb l → NSl W (some ⟨gt, 0, none⟩) tl t → Sl W (some ⟨gx, 0, none⟩) bl bs → Calls Tryd.prog 26 #[.agg #[.slice (some ⟨g, 0, none⟩) len len, .slice (some ⟨gp, 0, none⟩) lb lb], .slice (some ⟨gt, 0, none⟩) tl tl, .int .i64 c, .slice (some ⟨gx, 0, none⟩) bl bl] W fun e w' => e = .returned (.tuple #[.bool (isM p l t c bs), .bool (askB p l t c bs)]) ∧ Below W.heap.size W w') := fun W g gp gt gx h0 h1 h2 h3 h4 => implIsMatch_any _ _ len len lb lb p l _ tl tl t c _ bl bl bs W h0 h1 h2 h3 h4 hI hIt hm2 hm3 hm4
      have HQ : Hid (∀ W (g gp g' gp' : Nat), ESl W (some ⟨g, 0, none⟩) len p → Sl W (some ⟨gp, 0, none⟩) lb l → ESl W (some ⟨g', 0, none⟩) len p → Sl W (some ⟨gp', 0, none⟩) lb l → Calls Tryd.prog 13 #[.agg #[.slice (some ⟨g, 0, none⟩) len len, .slice (some ⟨gp, 0, none⟩) lb lb], .agg #[.slice (some ⟨g', 0, none⟩) len len, .slice (some ⟨gp', 0, none⟩) lb lb]] W fun e w' => e = .returned (.bool true) ∧ Below W.heap.size W w') := fun W g gp g' gp' h1 h2 h3 h4 => eqG_same _ _ _ _ len len len lb lb lb p l W h1 h3 h2 h4 hn z4 hn2
      have HQN : Hid (∀ W (g g' : Nat), NSl W (some ⟨g, 0, none⟩) tl t → NSl W (some ⟨g', 0, none⟩) tl t → Calls Tryd.prog 14 #[.slice (some ⟨g, 0, none⟩) tl tl, .slice (some ⟨g', 0, none⟩) tl tl] W fun e w' => e = .returned (.bool true) ∧ Below W.heap.size W w') := fun W g g' h1 h2 => eqN_same _ _ tl tl tl t W h1 h2 htm
      generalize isM p l t c bs = C at HSp HIm
      generalize askB p l t c bs = B at HSp HIm
      have hBB : (B != B) = false := by simp
      have hCC : (C != C) = false := by simp
      clear h hl hb1 ht hll hl1 z0 z1 z2 z3 z4 hn hn2 hI hN hv hIt hsN htn hs2 htm hbn
      go_enter Tryd.func5, Tryd.ntmps5
      go_wp2_with fail
      (try rw [hW1])
      refine Calls.mono HZ.out ?_
      rintro e w2 ⟨rfl, hb2⟩
      have q0 := (hb2.cell (p := ⟨w.heap.size, 0, none⟩) hs1).trans n0
      have q1 := (hb2.cell (p := ⟨w.heap.size, 1, none⟩) hs1).trans n1
      clear HZ hW1
      go_wp2_with fail
      refine Calls.mono (HZ2.out _) ?_
      rintro e w2' ⟨rfl, rfl⟩
      clear HZ2
      go_wp2_with fail
      refine Calls.mono (HC.out _ hb2) ?_
      rintro e w3 ⟨g, gp, rfl, hb3, hE3, hS3⟩
      have hB3 : Below W1.heap.size W1 w3 := hb2.trans (hb3.mono hb2.size)
      clear hb3 q0 q1 hb2
      go_wp2_with fail
      refine Calls.mono (HCN.out _ hB3) ?_
      rintro e w4 ⟨rfl, hb4, hN4⟩
      have hB4 : Below W1.heap.size W1 w4 := hB3.trans (hb4.mono hB3.size)
      have hE4 := hE3.keep hb4
      have hS4 := hS3.keep hb4
      clear hb4 hE3 hS3 hB3
      go_wp2_with fail
      refine Calls.mono (HCB.out _ hB4) ?_
      rintro e w4' ⟨rfl, hb4, hX4⟩
      have hB4' : Below W1.heap.size W1 w4' := hB4.trans (hb4.mono hB4.size)
      have hE4 := hE4.keep hb4
      have hS4 := hS4.keep hb4
      have hN4 := hN4.keep hb4
      clear hb4 hB4
      have hB4 := hB4'
      clear hB4'
      go_wp2_with fail
      refine Calls.mono (HSp.out _ _ _ _ _ hE4 hS4 hN4 hX4) ?_
      rintro e w5 ⟨rfl, hb5⟩
      have hB5 : Below W1.heap.size W1 w5 := hB4.trans (hb5.mono hB4.size)
      have q0 := (hB5.cell (p := ⟨w.heap.size, 0, none⟩) hs1).trans n0
      have q1 := (hB5.cell (p := ⟨w.heap.size, 1, none⟩) hs1).trans n1
      clear hb5 hE4 hS4 hN4 hX4 hB4
      go_wp2_with fail
      refine Calls.mono (HC.out _ hB5) ?_
      rintro e w6 ⟨g2, gp2, rfl, hb6, hE6, hS6⟩
      have hB6 : Below W1.heap.size W1 w6 := hB5.trans (hb6.mono hB5.size)
      clear hb6 hB5 q0 q1
      obtain ⟨W7, hW7⟩ : ∃ W7, w6.alloc (.cells #[.slice (some ⟨g2, 0, none⟩) len len, .slice (some ⟨gp2, 0, none⟩) lb lb] 34) = W7 := ⟨_, rfl⟩
      have hb7 : Below w6.heap.size w6 W7 := by rw [← hW7]; exact (Below.refl _ _).alloc (Nat.le_refl _) _
      have t0 : W7.cell? ⟨w6.heap.size, 0, none⟩ = some (.slice (some ⟨g2, 0, none⟩) len len) := by rw [← hW7]; simp [go_sem]
      have t1 : W7.cell? ⟨w6.heap.size, 1, none⟩ = some (.slice (some ⟨gp2, 0, none⟩) lb lb) := by rw [← hW7]; simp [go_sem]
      have hs7 : w6.heap.size < W7.heap.size := by rw [← hW7]; simp
      have hB7 : Below W1.heap.size W1 W7 := hB6.trans (hb7.mono hB6.size)
      have hE7 := hE6.keep hb7
      have hS7 := hS6.keep hb7
      obtain ⟨B8, hB8⟩ : ∃ B8, w6.heap.size = B8 := ⟨_, rfl⟩
      rw [hB8] at t0 t1 hs7
      clear hb7 hB6 hE6 hS6
      go_wp2_with fail
      (try rw [hW7])
      (try rw [hB8])
      refine Calls.mono (HCN.out _ hB7) ?_
      rintro e v8 ⟨rfl, hbv8, hNv8⟩
      obtain ⟨gt, hgt⟩ : ∃ gt, W7.heap.size = gt := ⟨_, rfl⟩
      rw [hgt] at hNv8
      have hBv8 : Below W1.heap.size W1 v8 := hB7.trans (hbv8.mono hB7.size)
      clear hW7 hB8
      go_wp2_with fail
      (try rw [hgt])
      refine Calls.mono (HCB.out _ hBv8) ?_
      rintro e w8 ⟨rfl, hbw8, hX8⟩
      obtain ⟨gx, hgx⟩ : ∃ gx, v8.heap.size = gx := ⟨_, rfl⟩
      rw [hgx] at hX8
      have hN8 := hNv8.keep hbw8
      have hb8 : Below W7.heap.size W7 w8 := hbv8.trans (hbw8.mono hbv8.size)
      clear hNv8 hbw8 hbv8 hBv8
      have hB8' : Below W1.heap.size W1 w8 := hB7.trans (hb8.mono hB7.size)
      have hE8 := hE7.keep hb8
      have hS8 := hS7.keep hb8
      have v0 := (hb8.cell (p := ⟨B8, 0, none⟩) hs7).trans t0
      have v1 := (hb8.cell (p := ⟨B8, 1, none⟩) hs7).trans t1
      have hs8 := Nat.lt_of_lt_of_le hs7 hb8.size
      have hT8 := (HT.out _ hB8').1
      clear hb8 hB7 hE7 hS7 t0 t1 hs7
      go_wp2_with fail
      (try rw [hgx])
      refine Calls.mono (HIm.out _ _ _ _ _ hT8 hE8 hS8 hN8 hX8) ?_
      rintro e w9 ⟨rfl, hb9⟩
      have hb9d : Below w8.heap.size w8 w9.drew := hb9.drew
      have hB9 : Below W1.heap.size W1 w9.drew := hB8'.trans (hb9d.mono hB8'.size)
      have hE9 := hE8.keep hb9d
      have hS9 := hS8.keep hb9d
      have hN9 := hN8.keep hb9d
      have x0 : w9.drew.cell? ⟨B8, 0, none⟩ = some (.slice (some ⟨g2, 0, none⟩) len len) := (hb9d.cell (p := ⟨B8, 0, none⟩) hs8).trans v0
      have x1 : w9.drew.cell? ⟨B8, 1, none⟩ = some (.slice (some ⟨gp2, 0, none⟩) lb lb) := (hb9d.cell (p := ⟨B8, 1, none⟩) hs8).trans v1
      have q0 : w9.drew.cell? ⟨w.heap.size, 0, none⟩ = some (.slice a len cap) := (hB9.cell (p := ⟨w.heap.size, 0, none⟩) hs1).trans n0
      have q1 : w9.drew.cell? ⟨w.heap.size, 1, none⟩ = some (.slice b lb cb) := (hB9.cell (p := ⟨w.heap.size, 1, none⟩) hs1).trans n1
      have hs9 : B8 < w9.drew.heap.size := Nat.lt_of_lt_of_le hs8 hb9d.size
      have HB9 : Hid (Below W1.heap.size W1 w9.drew) := hB9
      have HE9 : Hid (ESl w9.drew (some ⟨g2, 0, none⟩) len p ∧ Sl w9.drew (some ⟨gp2, 0, none⟩) lb l) := ⟨hE9, hS9⟩
      have HX9 : Hid (Sl w9.drew (some ⟨gx, 0, none⟩) bl bs ∧ Below w9.drew.heap.size w9.drew w9.drew) := ⟨hX8.keep hb9d, Below.refl _ _⟩
      have HN9 : Hid (NSl w9.drew (some ⟨gt, 0, none⟩) tl t) := hN9
      clear hb9 hb9d hB8' hE8 hS8 hN8 hX8 hT8 v0 v1 hs8 hB9 hE9 hS9 hN9 HSp HIm
      clear hgt hgx
      go_wp2_with fail
      go_region_with (first
        | (go_at_call 9; refine Calls.mono (HC.out _ HB9.out) ?_; rintro e wa ⟨g3, gp3, rfl, hba, hEa, hSa⟩; have hBa := HB9.out.trans (hba.mono HB9.out.size); have hE10 := HE9.out.1.keep hba; have hS10 := HE9.out.2.keep hba; have hN10 := NSl.keep HN9.out hba; have hX10 := Sl.keep HX9.out.1 hba; have y0 := (hba.cell (p := ⟨B8, 0, none⟩) hs9).trans x0; have y1 := (hba.cell (p := ⟨B8, 1, none⟩) hs9).trans x1; clear hba)
        | (go_at_call 13; refine Calls.mono (HQ.out _ _ _ _ _ hE10 hS10 hEa hSa) ?_; rintro e wb ⟨rfl, hbb⟩; have hBb := hBa.trans (hbb.mono hBa.size); have hN11 := NSl.keep hN10 hbb; have hX11 := Sl.keep hX10 hbb; clear hbb))
      all_goals
        have HBb := (show Hid _ from hBb)
        have HN11 : Hid (NSl wb (some ⟨gt, 0, none⟩) tl t) := hN11
        have HX11 : Hid (Sl wb (some ⟨gx, 0, none⟩) bl bs) := hX11
        have HCNb := (show Hid _ from HCN.out wb hBb)
        clear hBb hBa hEa hSa hE10 hS10 hN10 hN11 hX10 hX11 HC HCN HQ y0 y1 q0 q1 x0 x1 HE9 HN9 HX9
        go_wp2_with fail
        refine Calls.mono HCNb.out ?_
        rintro e wc ⟨rfl, hbc, hNc⟩
        have HQc := (show Hid _ from HQN.out wc _ _ (NSl.keep HN11.out hbc) hNc)
        have HBc := (show Hid _ from HBb.out.trans (hbc.mono HBb.out.size))
        have HXc : Hid (Sl wc (some ⟨gx, 0, none⟩) bl bs) := Sl.keep HX11.out hbc
        clear HCNb HQN hNc HN11 HX11 HBb hbc
        go_wp2_with fail
        refine Calls.mono HQc.out ?_
        rintro e wd ⟨rfl, hbd⟩
        have hBd := HBc.out.trans (hbd.mono HBc.out.size)
        have HBd := (show Hid _ from hBd)
        have HXd : Hid (Sl wd (some ⟨gx, 0, none⟩) bl bs) := Sl.keep HXc.out hbd
        have HCBd := (show Hid _ from HCB.out wd hBd)
        clear HQc HBc hbd hBd HXc HCB
        go_wp2_with fail
        refine Calls.mono HCBd.out ?_
        rintro e we ⟨rfl, hbe, hXe⟩
        have HQe := (show Hid _ from HQB.out we _ _ (Sl.keep HXd.out hbe) hXe)
        have HBe := (show Hid _ from HBd.out.trans (hbe.mono HBd.out.size))
        clear HCBd HQB hXe HXd HBd hbe
        go_wp2_with fail
        refine Calls.mono HQe.out ?_
        rintro e wf ⟨rfl, hbf⟩
        have HE := (show Hid _ from HF.out _ (HBe.out.trans (hbf.mono HBe.out.size)))
        clear HQe HBe hbf
        go_wp2
        go_ret
        exact ⟨rfl, HE.out⟩
    · rw [if_neg htn] at HZ2
      clear h hl hb1 ht hll hl1 z0 z1 z2 z3 z4 hn hn2 hI hN hv hIt hsN htn HT
      go_enter Tryd.func5, Tryd.ntmps5
      go_wp2_with fail
      (try rw [hW1])
      refine Calls.mono HZ.out ?_
      rintro e w2 ⟨rfl, hb2⟩
      clear HZ hW1
      go_wp2_with fail
      refine Calls.mono (HZ2.out _) ?_
      rintro e w2' ⟨rfl, rfl⟩
      clear HZ2
      go_wp2
      go_ret
      exact ⟨rfl, HF.out _ hb2⟩
end Go.Proofs.YtajcddnclahhhaaDoor
