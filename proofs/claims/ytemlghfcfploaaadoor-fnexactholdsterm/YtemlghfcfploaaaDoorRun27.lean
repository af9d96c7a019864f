/-
  PROVED HERE: what the program's FindTerm answers, at every graph and every list of nodes, in a world whose table of arities is laid. No other condition. what the model's and the program's tests of a class and of a bind answer, at every two lists of parts and classes. No other condition.
-/
import Derived.Test.YtemlghfcfploaaaDoorRun21
import Derived.Test.YtemlghfcfploaaaDoorRun25
import Derived.Test.YtemlghfcfploaaaDoorRun26
import Derived.Test.YtemlghfcfploaaaDoorRun24
import Derived.Test.YtemlghfcfploaaaDoorRun4
import Derived.Test.YtemlghfcfploaaaDoorRun19
namespace Go.Proofs.YtemlghfcfploaaaDoor
open Go.ChangeShapes Go.WideShapes Go.ChangeAt Go.RowKit
set_option linter.unusedVariables false

/-- The class that is found. -/
def clsFi : Cls := fun g n kids => (findL g.1 g.2 (n.1, n.2, kids)).map fun v => (g, v)
theorem clsFi_keeps : Keeps clsFi := ⟨fun g n kids r hg h120 hf hr => by
  unfold clsFi at hr
  cases hfl : findL g.1 g.2 (n.1, n.2, kids) with
  | none => rw [hfl] at hr; cases hr
  | some v =>
    rw [hfl] at hr
    cases hr
    have := putL_good hg (x := (n.1, n.2, kids)) hf.ok hf.cl
    rw [putL_some hfl] at this
    exact ⟨this.1, this.2.1, this.2.2.1, h120⟩⟩
theorem nfits_fits {g : GS} {n : Int × Int} {kids : List Int} (h : NFits g n kids) : Fits g n.1 n.2 kids ∧ kidsL g.2 kids = kids := by
  refine ⟨⟨h.ok, h.num, fun i hi => ?_⟩, kidsL_same (fun c hc => (h.cl c hc).2.2)⟩
  have := h.cl _ (show kids.getD i 0 ∈ kids by rw [getI_lt hi]; exact List.getElem_mem _)
  have h1 := this.1
  have h2 := this.2.1
  exact ⟨(kids.getD i 0).toNat, by omega, by omega⟩
theorem putL_ge (g : GS) (x : EN) : g.1.length ≤ (putL g x).1.1.length := by
  cases hf : findL g.1 g.2 x with
  | some v => rw [putL_some hf]; exact Nat.le_refl _
  | none => rw [putL_none hf]; simp
theorem runA_ge : ∀ (t : List (Int × Int)) (s : GS × List Int), s.1.1.length ≤ (runA none t s).1.1.length
  | [], s => Nat.le_refl _
  | n :: t, s => Nat.le_trans (putL_ge s.1 (n.1, n.2, s.2.drop (s.2.length - (ar n.1).toNat))) (runA_ge t (stepA none s n))
theorem find_run (g : GS) : ∀ (t : List (Int × Int)) (Q : List Int), (runO clsFi t (g, Q) = some (runA none t (g, Q)) ∧ (runA none t (g, Q)).1 = g) ∨ (runO clsFi t (g, Q) = none ∧ g.1.length < (runA none t (g, Q)).1.1.length)
  | [], Q => .inl ⟨rfl, rfl⟩
  | n :: t, Q => by
    cases hf : findL g.1 g.2 (n.1, n.2, Q.drop (Q.length - (ar n.1).toNat)) with
    | some v =>
      have e1 : stepO clsFi (g, Q) n = some (g, Q.take (Q.length - (ar n.1).toNat) ++ [v]) := stepO_some (r := (g, v)) (by unfold clsFi; rw [hf]; rfl)
      have e2 : stepA none (g, Q) n = (g, Q.take (Q.length - (ar n.1).toNat) ++ [v]) := by
        unfold stepA classA
        simp only
        rw [putL_some hf]
      have ih := find_run g t (Q.take (Q.length - (ar n.1).toNat) ++ [v])
      show ((stepO clsFi (g, Q) n).bind (runO clsFi t) = some (runA none t (stepA none (g, Q) n)) ∧ (runA none t (stepA none (g, Q) n)).1 = g) ∨ ((stepO clsFi (g, Q) n).bind (runO clsFi t) = none ∧ g.1.length < (runA none t (stepA none (g, Q) n)).1.1.length)
      rw [e1, e2]
      exact ih
    | none =>
      have e1 : stepO clsFi (g, Q) n = none := stepO_none (by unfold clsFi; rw [hf]; rfl)
      refine .inr ⟨?_, ?_⟩
      · show (stepO clsFi (g, Q) n).bind (runO clsFi t) = none
        rw [e1]; rfl
      · have h1 := runA_ge t (stepA none (g, Q) n)
        have h2 : (stepA none (g, Q) n).1.1.length = g.1.length + 1 := by
          unfold stepA classA
          simp only
          rw [putL_none hf]; simp
        show g.1.length < (runA none t (stepA none (g, Q) n)).1.1.length
        omega
theorem findT_run {p : List EN} {l : List Int} {t : List (Int × Int)} (hg : graphB p l = true) (ht : goodB t = true) : findT p l t = (runO clsFi t ((p, l), [])).map (fun r => r.2.getD 0 0) := by
  have h120 := ((graphB_good p l).1 hg).1
  unfold findT addT
  rw [hg, ht]
  simp only [Bool.and_self, if_pos]
  rcases find_run (p, l) t [] with ⟨h1, h2⟩ | ⟨h1, h2⟩
  · rw [h1]
    unfold roomA
    rw [h2]
    simp only
    rw [if_pos h120]
    simp
  · rw [h1]
    simp only at h2
    unfold roomA
    by_cases h00 : (runA none t ((p, l), [])).1.1.length ≤ 120
    · rw [if_pos h00]; simp only; rw [if_pos h2]; rfl
    · rw [if_neg h00]; rfl
set_option maxHeartbeats 3200000 in
set_option maxRecDepth 20000 in
theorem implFindTerm_any (a b : Option Addr) (len cap lb cb : Nat) (p : List EN) (l : List Int) (ta : Option Addr) (tl tc : Nat) (t : List (Int × Int)) (w : World) (hT : Tab w) (h : ESl w a len p) (hl : Sl w b lb l) (ht : NSl w ta tl t) (hI : InE p) (hIt : ∀ k, k < t.length → InI (t.getD k (0, 0)).2) (hm2 : lb ≤ 9223372036854775807) (hm3 : tl ≤ 9223372036854775807) :
    Calls Tryd.prog 35 #[.agg #[.slice a len cap, .slice b lb cb], .slice ta tl tc] w fun e w' => e = .returned (.tuple #[.int .i64 ((findT p l t).getD 0), .bool (findT p l t).isSome]) ∧ Below w.heap.size w w' := by
  have hll := h.1
  have htl := ht.1
  have hmf : ∀ (fn : Fn) (first cap : Array Value) (w : World), (Instr.makeFunc fn first cap).run Tryd.prog w = .ok (.func fn first cap) w := fun _ _ _ _ => rfl
  obtain ⟨W1, hW1⟩ : ∃ W1, w.alloc (.cells #[.slice a len cap, .slice b lb cb] 41) = W1 := ⟨_, rfl⟩
  have hb1 : Below w.heap.size w W1 := by rw [← hW1]; exact (Below.refl _ _).alloc (Nat.le_refl _) _
  have hs1 : w.heap.size < W1.heap.size := by rw [← hW1]; simp
  have n0 : W1.cell? ⟨w.heap.size, 0, none⟩ = some (.slice a len cap) := by rw [← hW1]; simp [go_sem]
  have n1 : W1.cell? ⟨w.heap.size, 1, none⟩ = some (.slice b lb cb) := by rw [← hW1]; simp [go_sem]
  have HG := (show Hid _ from implGraph_any a b len cap lb cb p l W1 (hT.keeps hb1) (h.keep hb1) (hl.keep hb1) hm2 hI)
  have HGt : Hid (∀ W, Below W1.heap.size W1 W → Calls Tryd.prog 24 #[.slice ta tl tc] W fun e w' => e = .returned (.bool (goodB t)) ∧ Below W.heap.size W w') := fun W hW => implGood_any ta tl tc t W ((hT.keeps hb1).keeps hW) ((ht.keep hb1).keep hW) hm3
  have HF : Hid (∀ W, Below W1.heap.size W1 W → Below w.heap.size w W ∧ W.cell? ⟨w.heap.size, 0, none⟩ = some (.slice a len cap) ∧ W.cell? ⟨w.heap.size, 1, none⟩ = some (.slice b lb cb)) := fun W hW => ⟨hb1.trans (hW.mono hb1.size), (hW.cell (p := ⟨w.heap.size, 0, none⟩) hs1).trans n0, (hW.cell (p := ⟨w.heap.size, 1, none⟩) hs1).trans n1⟩
  cases hgb : graphB p l with
  | false =>
    have hno : findT p l t = none := by unfold findT addT; rw [hgb]; rfl
    rw [hno]
    rw [hgb] at HG
    simp only [Option.getD_none, Option.isSome_none]
    clear h hl ht hb1 hT HGt
    go_enter Tryd.func35, Tryd.ntmps35
    go_wp2_with fail
    (try rw [hW1])
    refine Calls.mono HG.out ?_
    rintro e w2 ⟨rfl, hb2⟩
    have HB := (show Hid _ from (HF.out w2 hb2).1)
    clear HG hW1 HF hb2
    go_wp2
    go_ret2
    exact ⟨rfl, HB.out⟩
  | true =>
    rw [hgb] at HG
    cases hgt : goodB t with
    | false =>
      have hno : findT p l t = none := by unfold findT addT; rw [hgb, hgt]; rfl
      rw [hno]
      rw [hgt] at HGt
      simp only [Option.getD_none, Option.isSome_none]
      clear h hl ht hb1 hT
      go_enter Tryd.func35, Tryd.ntmps35
      go_wp2_with fail
      (try rw [hW1])
      refine Calls.mono HG.out ?_
      rintro e w2 ⟨rfl, hb2⟩
      have HT2 := (show Hid _ from HGt.out w2 hb2)
      have HB2 := (show Hid _ from hb2)
      clear HG hW1 HGt hb2
      go_wp2_with fail
      refine Calls.mono HT2.out ?_
      rintro e w3 ⟨rfl, hb3⟩
      have HB := (show Hid _ from (HF.out w3 (HB2.out.trans (hb3.mono HB2.out.size))).1)
      clear HT2 HF hb3
      go_wp2
      go_ret2
      exact ⟨rfl, HB.out⟩
    | true =>
      rw [hgt] at HGt
      obtain ⟨h120, hgood⟩ := (graphB_good p l).1 hgb
      obtain ⟨hp, ht1, ht40⟩ := good_pile hgt
      have hlp := hgood.2.1
      simp only at hlp
      have hl1 := hl.1
      obtain rfl : lb = len := by omega
      obtain ⟨tb, to, rfl, htb, _⟩ := ht.at (by omega)
      rw [findT_run hgb hgt]
      have HS : Hid (∀ W, Below W1.heap.size W1 W → Calls Tryd.prog 51 #[.agg #[.slice a lb cap, .slice b lb cb]] W fun e w' => ∃ s m, e = .returned (.pointer (some ⟨s, 0, none⟩)) ∧ Shelf w' (fun b => W.heap.size ≤ b) s m (p, l) ∧ Below W.heap.size W w') := fun W hW => shelfOf_any a b lb cap cb p l W ((h.keep hb1).keep hW) ((hl.keep hb1).keep hW) hgood (by omega) hI
      have HC : Hid (∀ (W3 W : World) (s m : Nat), Below W1.heap.size W1 W3 → Below W3.heap.size W3 W → Shelf W (fun b => W3.heap.size ≤ b) s m (p, l) → Calls Tryd.prog 50 #[.slice (some ⟨tb, to, none⟩) tl tc, .func (.func 52) #[.pointer (some ⟨s, 0, none⟩)] #[]] W fun e w' => e = .returned (.tuple #[.int .i64 (((runO clsFi t ((p, l), [])).map (fun r => r.2.getD 0 0)).getD 0), .bool (runO clsFi t ((p, l), [])).isSome]) ∧ Below W3.heap.size W3 w') := fun W3 W s m h13 h3W hSh => by
        have hB := h13.trans (h3W.mono h13.size)
        refine (clsF_any s clsFi clsFi_keeps (fun W S g => Shelf W S s m g) (fun W W' S S' g hR hs hk hS => hR.map hs hk hS) (fun W S g n a m' cap kids hR hg h120 hk ha hf => ?_) hp hIt tb to tl tc (by omega) (by omega) W (fun b => W3.heap.size ≤ b) (p, l) ((ht.keep hb1).keep hB) hSh hgood h120 (by have := h13.size; omega) (fun W' hW' => ?_)).mono ?_
        · obtain ⟨hfi, hks⟩ := nfits_fits hf
          have := find_any s m S g n.1 n.2 a m' cap kids W hR hg (by omega) hk hfi
          refine this.mono ?_
          rw [hks]
          rintro e w' ⟨rfl, hb⟩
          refine ⟨?_, KB.of hb, fun r hr => ?_⟩
          · unfold clsFi
            cases findL g.1 g.2 (n.1, n.2, kids) <;> rfl
          · unfold clsFi at hr
            cases hfl : findL g.1 g.2 (n.1, n.2, kids) with
            | none => rw [hfl] at hr; cases hr
            | some v =>
              rw [hfl] at hr
              cases hr
              exact (hR.keep hb).sets (fun b _ h => .inl h)
        · have hb3 : Below W3.heap.size W3 W' := h3W.trans (hW'.below (fun x _ h => h) h3W.size)
          exact ((hT.keeps hb1).keeps h13).keeps hb3
        · rintro e w' ⟨h1, h2, _⟩
          exact ⟨h1, h3W.trans (h2.below (fun x _ h => h) h3W.size)⟩
      generalize runO clsFi t ((p, l), []) = O at HC ⊢
      clear h hl ht hb1 hT hgood hp hgb hgt hI hIt hlp hl1 htb
      have e1 : (Option.map (fun r => r.2.getD 0 0) O).isSome = O.isSome := by cases O <;> rfl
      rw [e1]
      generalize (Option.map (fun r => r.2.getD 0 0) O).getD 0 = C at HC ⊢
      generalize O.isSome = B at HC ⊢
      go_enter Tryd.func35, Tryd.ntmps35
      go_wp2_with fail
      (try rw [hW1])
      refine Calls.mono HG.out ?_
      rintro e w2 ⟨rfl, hb2⟩
      have HT2 := (show Hid _ from HGt.out w2 hb2)
      have HB2 := (show Hid _ from hb2)
      clear HG hW1 HGt hb2
      go_wp2_with fail
      refine Calls.mono HT2.out ?_
      rintro e w3 ⟨rfl, hb3⟩
      have hB3 := HB2.out.trans (hb3.mono HB2.out.size)
      obtain ⟨_, g0, g1⟩ := HF.out w3 hB3
      have HS3 := (show Hid _ from HS.out w3 hB3)
      have HB3 := (show Hid _ from hB3)
      clear HT2 hb3 HB2 HS hB3
      go_wp2_with fail
      refine Calls.mono HS3.out ?_
      rintro e w4 ⟨s, m, rfl, hSh, hb4⟩
      have HC4 := (show Hid _ from HC.out w3 w4 s m HB3.out hb4 hSh)
      clear HS3 HC hSh hb4 g0 g1
      go_wp2_with fail
      refine Calls.mono HC4.out ?_
      rintro e w5 ⟨rfl, hb5⟩
      have HB := (show Hid _ from (HF.out w5 (HB3.out.trans (hb5.mono HB3.out.size))).1)
      clear HC4 hb5 HF HB3
      go_wp2
      go_ret2
      exact ⟨rfl, HB.out⟩
end Go.Proofs.YtemlghfcfploaaaDoor
namespace Go.Proofs.YtemlghfcfploaaaDoor
open Go.ChangeShapes Go.WideShapes Go.ChangeAt Go.RowKit
set_option linter.unusedVariables false

/-- A number is a class of the parts. -/
def clB (l : List Int) (k : Int) : Bool := hasB l k && (l.getD k.toNat 0 == k)
/-- Each of a bind's four is none or a class. -/
def bindB (l bs : List Int) : Bool := decide (bs.length = 4) && bs.all fun c => c == -1 || clB l c
theorem all_drop {f : Int → Bool} {bs : List Int} {k : Nat} (h : k < bs.length) : (bs.drop k).all f = (f (bs.getD k 0) && (bs.drop (k + 1)).all f) := by
  rw [List.drop_eq_getElem_cons h, List.all_cons]
  congr 2
  rw [List.getD_eq_getElem?_getD, List.getElem?_eq_getElem h]; rfl
theorem specClass_any (a b : Option Addr) (lb cap cb : Nat) (l : List Int) (k : Int) (w : World) (hl : Sl w b lb l) (hm : lb ≤ 1000000) :
    Calls Tryd.prog 29 #[.agg #[.slice a lb cap, .slice b lb cb], .int .i64 k] w fun e w' => e = .returned (.bool (clB l k)) ∧ Below w.heap.size w w' := by
  have hl1 := hl.1
  obtain ⟨W1, hW1⟩ : ∃ W1, w.alloc (.cells #[.slice a lb cap, .slice b lb cb] 41) = W1 := ⟨_, rfl⟩
  have hb1 : Below w.heap.size w W1 := by rw [← hW1]; exact (Below.refl _ _).alloc (Nat.le_refl _) _
  have n0 : W1.cell? ⟨w.heap.size, 0, none⟩ = some (.slice a lb cap) := by rw [← hW1]; simp [go_sem]
  have n1 : W1.cell? ⟨w.heap.size, 1, none⟩ = some (.slice b lb cb) := by rw [← hW1]; simp [go_sem]
  have HB := (show Hid _ from hb1)
  have HH : Hid (∀ W, Calls Tryd.prog 38 #[.int .i64 k, .int .i64 0, .int .i64 ((lb : Int) - 1)] W fun e w' => e = .returned (.bool (hasB l k)) ∧ w' = W) := fun W => specHas_any lb l hl1 k W
  unfold clB
  cases hh : hasB l k with
  | false =>
    rw [hh] at HH
    rw [Bool.false_and]
    clear hb1 hl hh
    go_enter Tryd.func29, Tryd.ntmps29
    go_wp2_with fail
    (try rw [hW1])
    refine Calls.mono (HH.out _) ?_
    rintro e w2 ⟨rfl, rfl⟩
    clear HH hW1
    go_wp2
    go_ret
    exact ⟨rfl, HB.out⟩
  | true =>
    rw [hh] at HH
    rw [Bool.true_and]
    obtain ⟨n, rfl, hn⟩ := has_iff hh
    obtain ⟨bb, bo, rfl, hbl, hc⟩ : ∃ bb bo, b = some ⟨bb, bo, none⟩ ∧ bb < W1.heap.size ∧ ∀ i, i < lb → W1.cell? ⟨bb, bo + i, none⟩ = some (.int .i64 (l.getD i 0)) := by
      rcases (hl.keep hb1).2 with h0 | h0
      · omega
      · exact h0
    have c0 := hc n (by omega)
    have i1 : (n : Int) < lb := by omega
    have i0 : (0 : Int) ≤ n := by omega
    rw [Int.toNat_natCast]
    generalize l.getD n 0 = x at c0 ⊢
    clear hb1 hl hh hc hn
    by_cases hx : x = n
    · have e1 : (x == (n : Int)) = true := by simpa using hx
      rw [e1]
      go_enter Tryd.func29, Tryd.ntmps29
      go_wp2_with fail
      (try rw [hW1])
      refine Calls.mono (HH.out _) ?_
      rintro e w2 ⟨rfl, rfl⟩
      clear HH hW1
      go_wp2
      go_ret
      exact ⟨rfl, HB.out⟩
    · have e1 : (x == (n : Int)) = false := by simpa using hx
      rw [e1]
      go_enter Tryd.func29, Tryd.ntmps29
      go_wp2_with fail
      (try rw [hW1])
      refine Calls.mono (HH.out _) ?_
      rintro e w2 ⟨rfl, rfl⟩
      clear HH hW1
      go_wp2
      go_ret
      exact ⟨rfl, HB.out⟩
theorem implClass_any (a b : Option Addr) (lb cap cb : Nat) (l : List Int) (k : Int) (w : World) (hl : Sl w b lb l) (hm : lb ≤ 1000000) :
    Calls Tryd.prog 34 #[.agg #[.slice a lb cap, .slice b lb cb], .int .i64 k] w fun e w' => e = .returned (.bool (clB l k)) ∧ Below w.heap.size w w' := by
  have hl1 := hl.1
  obtain ⟨W1, hW1⟩ : ∃ W1, w.alloc (.cells #[.slice a lb cap, .slice b lb cb] 41) = W1 := ⟨_, rfl⟩
  have hb1 : Below w.heap.size w W1 := by rw [← hW1]; exact (Below.refl _ _).alloc (Nat.le_refl _) _
  have n0 : W1.cell? ⟨w.heap.size, 0, none⟩ = some (.slice a lb cap) := by rw [← hW1]; simp [go_sem]
  have n1 : W1.cell? ⟨w.heap.size, 1, none⟩ = some (.slice b lb cb) := by rw [← hW1]; simp [go_sem]
  have HB := (show Hid _ from hb1)
  have HH : Hid (∀ W, Calls Tryd.prog 49 #[.slice b lb cb, .int .i64 k] W fun e w' => e = .returned (.bool (hasB l k)) ∧ w' = W) := fun W => implHas_any b lb cb l hl1 k W
  unfold clB
  cases hh : hasB l k with
  | false =>
    rw [hh] at HH
    rw [Bool.false_and]
    clear hb1 hl hh
    go_enter Tryd.func34, Tryd.ntmps34
    go_wp2_with fail
    (try rw [hW1])
    refine Calls.mono (HH.out _) ?_
    rintro e w2 ⟨rfl, rfl⟩
    clear HH hW1
    go_wp2
    go_ret
    exact ⟨rfl, HB.out⟩
  | true =>
    rw [hh] at HH
    rw [Bool.true_and]
    obtain ⟨n, rfl, hn⟩ := has_iff hh
    obtain ⟨bb, bo, rfl, hbl, hc⟩ : ∃ bb bo, b = some ⟨bb, bo, none⟩ ∧ bb < W1.heap.size ∧ ∀ i, i < lb → W1.cell? ⟨bb, bo + i, none⟩ = some (.int .i64 (l.getD i 0)) := by
      rcases (hl.keep hb1).2 with h0 | h0
      · omega
      · exact h0
    have c0 := hc n (by omega)
    have i1 : (n : Int) < lb := by omega
    have i0 : (0 : Int) ≤ n := by omega
    rw [Int.toNat_natCast]
    generalize l.getD n 0 = x at c0 ⊢
    clear hb1 hl hh hc hn
    by_cases hx : x = n
    · have e1 : (x == (n : Int)) = true := by simpa using hx
      rw [e1]
      go_enter Tryd.func34, Tryd.ntmps34
      go_wp2_with fail
      (try rw [hW1])
      refine Calls.mono (HH.out _) ?_
      rintro e w2 ⟨rfl, rfl⟩
      clear HH hW1
      go_wp2
      go_ret
      exact ⟨rfl, HB.out⟩
    · have e1 : (x == (n : Int)) = false := by simpa using hx
      rw [e1]
      go_enter Tryd.func34, Tryd.ntmps34
      go_wp2_with fail
      (try rw [hW1])
      refine Calls.mono (HH.out _) ?_
      rintro e w2 ⟨rfl, rfl⟩
      clear HH hW1
      go_wp2
      go_ret
      exact ⟨rfl, HB.out⟩
end Go.Proofs.YtemlghfcfploaaaDoor
