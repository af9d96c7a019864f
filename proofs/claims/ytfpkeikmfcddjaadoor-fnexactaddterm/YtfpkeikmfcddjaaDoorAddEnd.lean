/-
  PROVED HERE: what the program's AddTerm answers, at every graph and every list of nodes, in a world whose table of arities is laid. No other condition. what the program's AddTerm answers, at every graph and every list of nodes, in a world whose table of arities is laid. No other condition. the law FnExactAddTerm's own run, at every argument, in a world whose table of arities is laid. No other condition.
-/
import Derived.Test.YtfpkeikmfcddjaaDoorClsAll
import Derived.Test.YtfpkeikmfcddjaaDoorA6FindI
import Derived.Test.YtfpkeikmfcddjaaDoorShelfAll
import Derived.Test.YtfpkeikmfcddjaaDoorMarkHeld
import Derived.Test.YtfpkeikmfcddjaaDoorG6Mark
import Derived.Test.YtfpkeikmfcddjaaDoorNodesB
namespace Go.Proofs.YtfpkeikmfcddjaaDoor
open Go.ChangeShapes Go.WideShapes Go.ChangeAt Go.RowKit
set_option linter.unusedVariables false

def clsPu : Cls := fun g n kids => clsP g (n.1, n.2, kids)
theorem clsP_some {g : GS} {x : EN} {r : GS × Int} (h : clsP g x = some r) : r = putL g x ∧ ¬ (findL g.1 g.2 x = none ∧ g.1.length = 120) := by
  unfold clsP at h
  by_cases h0 : findL g.1 g.2 x = none ∧ g.1.length = 120
  · rw [if_pos h0] at h; cases h
  · rw [if_neg h0] at h; exact ⟨(Option.some.inj h).symm, h0⟩
theorem clsP_len {g : GS} {x : EN} {r : GS × Int} (h : clsP g x = some r) (h120 : g.1.length ≤ 120) : r.1.1.length ≤ 120 := by
  obtain ⟨h1, h2⟩ := clsP_some h
  rw [h1]
  cases hf : findL g.1 g.2 x with
  | some v => rw [putL_some hf]; exact h120
  | none =>
    rw [putL_none hf]
    simp only [List.length_append, List.length_singleton]
    have : g.1.length ≠ 120 := fun e => h2 ⟨hf, e⟩
    omega
theorem clsPu_keeps : Keeps clsPu := ⟨fun g n kids r hg h120 hf hr => by
  have hl := clsP_len hr h120
  have hp := putL_good hg (x := (n.1, n.2, kids)) hf.ok hf.cl
  rw [← (clsP_some hr).1] at hp
  exact ⟨hp.1, hp.2.1, hp.2.2.1, hl⟩⟩
theorem put_run : ∀ (t : List (Int × Int)) (g : GS) (Q : List Int), g.1.length ≤ 120 → runO clsPu t (g, Q) = if (runA none t (g, Q)).1.1.length ≤ 120 then some (runA none t (g, Q)) else none
  | [], g, Q, h => by
    show some (g, Q) = if g.1.length ≤ 120 then some (g, Q) else none
    rw [if_pos h]
  | n :: t, g, Q, h => by
    have e2 : stepA none (g, Q) n = ((putL g (n.1, n.2, Q.drop (Q.length - (ar n.1).toNat))).1, Q.take (Q.length - (ar n.1).toNat) ++ [(putL g (n.1, n.2, Q.drop (Q.length - (ar n.1).toNat))).2]) := rfl
    have hge := runA_ge t (stepA none (g, Q) n)
    show (stepO clsPu (g, Q) n).bind (runO clsPu t) = if (runA none t (stepA none (g, Q) n)).1.1.length ≤ 120 then some (runA none t (stepA none (g, Q) n)) else none
    cases hc : clsP g (n.1, n.2, Q.drop (Q.length - (ar n.1).toNat)) with
    | some r =>
      rw [stepO_some (cls := clsPu) hc]
      have hr := (clsP_some hc).1
      rw [e2, ← hr]
      exact put_run t r.1 _ (clsP_len hc h)
    | none =>
      rw [stepO_none (cls := clsPu) hc]
      have h0 : findL g.1 g.2 (n.1, n.2, Q.drop (Q.length - (ar n.1).toNat)) = none ∧ g.1.length = 120 := by
        unfold clsP at hc
        by_cases h0 : findL g.1 g.2 (n.1, n.2, Q.drop (Q.length - (ar n.1).toNat)) = none ∧ g.1.length = 120
        · exact h0
        · rw [if_neg h0] at hc; cases hc
      have hlen : (stepA none (g, Q) n).1.1.length = g.1.length + 1 := by rw [e2, putL_none h0.1]; simp
      rw [if_neg (by omega)]; rfl
theorem addT_run {p : List EN} {l : List Int} {t : List (Int × Int)} (hg : graphB p l = true) (ht : goodB t = true) : addT p l t = (runO clsPu t ((p, l), [])).map (fun r => (r.1, r.2.getD 0 0)) := by
  have h120 := ((graphB_good p l).1 hg).1
  unfold addT
  rw [hg, ht, put_run t (p, l) [] h120]
  simp only [Bool.and_self, if_pos]
  unfold roomA
  split <;> rfl
theorem addT_good {p : List EN} {l : List Int} {t : List (Int × Int)} {r : GS × Int} (h : addT p l t = some r) : GoodG r.1 ∧ 0 < r.1.1.length ∧ r.1.1.length ≤ 120 := by
  unfold addT at h
  by_cases hc : (graphB p l && goodB t) = true
  · rw [if_pos hc] at h
    rw [Bool.and_eq_true] at hc
    obtain ⟨hp, ht1, ht40⟩ := good_pile hc.2
    have hgood := ((graphB_good p l).1 hc.1).2
    have hr := runA_good (b := none) t (p, l) [] 1 hp hgood (fun c hc => by cases hc) (bok_none _ _)
    have hfr := (runA_frame none [] t (p, l) [] 1 hp).2
    unfold roomA at h
    by_cases h0 : (runA none t ((p, l), [])).1.1.length ≤ 120
    · rw [if_pos h0] at h
      cases h
      refine ⟨hr.1, ?_, h0⟩
      have hlen : (runA none t ((p, l), [])).2.length = 1 := by omega
      have hmem : (runA none t ((p, l), [])).2.getD 0 0 ∈ (runA none t ((p, l), [])).2 := by rw [getI_lt (by omega)]; exact List.getElem_mem _
      have := (hr.2.1 _ hmem)
      have h1 := this.1
      have h2 := this.2.1
      show 0 < (runA none t ((p, l), [])).1.1.length
      omega
    · rw [if_neg h0] at h; cases h
  · rw [if_neg hc] at h; cases h
set_option maxHeartbeats 1600000 in
theorem told_yes (s : Nat) (c : Int) (a b : Option Addr) (n ca n2 cb : Nat) (w : World) (h0 : w.cell? ⟨s, 0, none⟩ = some (.slice a n ca)) (h1 : w.cell? ⟨s, 1, none⟩ = some (.slice b n2 cb)) (hs : s < w.heap.size) :
    Calls Tryd.prog 53 #[.pointer (some ⟨s, 0, none⟩), .int .i64 c, .bool true] w fun e w' => e = .returned (.tuple #[.agg #[.slice a n ca, .slice b n2 cb], .int .i64 c, .bool true]) ∧ Below w.heap.size w w' := by
  have hne : ¬ s = w.heap.size := by omega
  have HB : Hid (∀ o v0 v1, Below w.heap.size w (((w.alloc o).setCell ⟨w.heap.size, 0, none⟩ v0).setCell ⟨w.heap.size, 1, none⟩ v1)) := fun o v0 v1 => (((Below.refl _ _).alloc (Nat.le_refl _) o).setCell (by show w.heap.size ≤ w.heap.size; omega) _).setCell (by show w.heap.size ≤ w.heap.size; omega) _
  have HB2 : Hid (∀ o, Below w.heap.size w (w.alloc o)) := fun o => (Below.refl _ _).alloc (Nat.le_refl _) o
  have d0 : ∀ o, (w.alloc o).cell? ⟨s, 0, none⟩ = some (.slice a n ca) := fun o => ((HB2.out o).cell (p := ⟨s, 0, none⟩) hs).trans h0
  have d1 : ∀ o, (w.alloc o).cell? ⟨s, 1, none⟩ = some (.slice b n2 cb) := fun o => ((HB2.out o).cell (p := ⟨s, 1, none⟩) hs).trans h1
  clear h0 h1
  go_enter Tryd.func53, Tryd.ntmps53
  go_wp2
  refine bodyPost_ret (v := .tuple #[.agg #[.slice a n ca, .slice b n2 cb], .int .i64 c, .bool true]) ?_ ?_ ?_
  · simp [results, Tryd.results53, go_sem, *]
  · rfl
  · exact ⟨rfl, by first | exact HB2.out _ | exact HB.out _ _ _⟩
set_option maxHeartbeats 1600000 in
theorem told_no (v : Value) (c : Int) (w : World) :
    Calls Tryd.prog 53 #[v, .int .i64 c, .bool false] w fun e w' => e = .returned (.tuple #[.agg #[.slice none 0 0, .slice none 0 0], .int .i64 0, .bool false]) ∧ Below w.heap.size w w' := by
  have HB : Hid (∀ o v0 v1, Below w.heap.size w (((w.alloc o).setCell ⟨w.heap.size, 0, none⟩ v0).setCell ⟨w.heap.size, 1, none⟩ v1)) := fun o v0 v1 => (((Below.refl _ _).alloc (Nat.le_refl _) o).setCell (by show w.heap.size ≤ w.heap.size; omega) _).setCell (by show w.heap.size ≤ w.heap.size; omega) _
  have HB2 : Hid (∀ o, Below w.heap.size w (w.alloc o)) := fun o => (Below.refl _ _).alloc (Nat.le_refl _) o
  go_enter Tryd.func53, Tryd.ntmps53
  go_wp2
  refine bodyPost_ret (v := .tuple #[.agg #[.slice none 0 0, .slice none 0 0], .int .i64 0, .bool false]) ?_ ?_ ?_
  · simp [results, Tryd.results53, go_sem, *]
  · rfl
  · exact ⟨rfl, by first | exact HB2.out _ | exact HB.out _ _ _⟩
end Go.Proofs.YtfpkeikmfcddjaaDoor
namespace Go.Proofs.YtfpkeikmfcddjaaDoor
open Go.ChangeShapes Go.WideShapes Go.ChangeAt Go.RowKit
set_option linter.unusedVariables false

set_option maxHeartbeats 3200000 in
set_option maxRecDepth 20000 in
theorem implAddTerm_any (a b : Option Addr) (len cap lb cb : Nat) (p : List EN) (l : List Int) (ta : Option Addr) (tl tc : Nat) (t : List (Int × Int)) (w : World) (hT : Tab w) (h : ESl w a len p) (hl : Sl w b lb l) (ht : NSl w ta tl t) (hI : InE p) (hIt : ∀ k, k < t.length → InI (t.getD k (0, 0)).2) (hm2 : lb ≤ 9223372036854775807) (hm3 : tl ≤ 9223372036854775807) :
    Calls Tryd.prog 23 #[.agg #[.slice a len cap, .slice b lb cb], .slice ta tl tc] w fun e w' => ∃ va vb, e = .returned (.tuple #[.agg #[va, vb], .int .i64 (ansC (addT p l t)), .bool (addT p l t).isSome]) ∧ AnsI w' (fun x => w.heap.size ≤ x) va vb (ansG (addT p l t)) ∧ Below w.heap.size w w' := by
  have hll := h.1
  have htl := ht.1
  have hmf : ∀ (fn : Fn) (first cap : Array Value) (w : World), (Instr.makeFunc fn first cap).run Tryd.prog w = .ok (.func fn first cap) w := fun _ _ _ _ => rfl
  obtain ⟨W1, hW1⟩ : ∃ W1, (w.alloc (.cells #[.slice a len cap, .slice b lb cb] 32)).alloc (.cells #[.slice none 0 0, .slice none 0 0] 32) = W1 := ⟨_, rfl⟩
  have hb1 : Below w.heap.size w W1 := by rw [← hW1]; exact ((Below.refl _ _).alloc (Nat.le_refl _) _).alloc (by simp) _
  have hs1 : W1.heap.size = w.heap.size + 2 := by rw [← hW1]; simp
  have n0 : W1.cell? ⟨w.heap.size, 0, none⟩ = some (.slice a len cap) := by rw [← hW1]; simp [go_sem]
  have n1 : W1.cell? ⟨w.heap.size, 1, none⟩ = some (.slice b lb cb) := by rw [← hW1]; simp [go_sem]
  have r0 : W1.cell? ⟨w.heap.size + 1, 0, none⟩ = some (.slice none 0 0) := by rw [← hW1]; simp [go_sem]
  have r1 : W1.cell? ⟨w.heap.size + 1, 1, none⟩ = some (.slice none 0 0) := by rw [← hW1]; simp [go_sem]
  have f0 : W1.frozen? ⟨w.heap.size + 1, 0, none⟩ = false := by rw [← hW1]; simp [go_sem]
  have f1 : W1.frozen? ⟨w.heap.size + 1, 1, none⟩ = false := by rw [← hW1]; simp [go_sem]
  have HG := (show Hid _ from implGraph_any a b len cap lb cb p l W1 (hT.keeps hb1) (h.keep hb1) (hl.keep hb1) hm2 hI)
  have HGt : Hid (∀ W, Below W1.heap.size W1 W → Calls Tryd.prog 58 #[.slice ta tl tc] W fun e w' => e = .returned (.bool (goodB t)) ∧ Below W.heap.size W w') := fun W hW => implGood_any ta tl tc t W ((hT.keeps hb1).keeps hW) ((ht.keep hb1).keep hW) hm3
  have HC : Hid (∀ W, Below W1.heap.size W1 W → (W.cell? ⟨w.heap.size, 0, none⟩ = some (.slice a len cap) ∧ W.cell? ⟨w.heap.size, 1, none⟩ = some (.slice b lb cb)) ∧ (W.cell? ⟨w.heap.size + 1, 0, none⟩ = some (.slice none 0 0) ∧ W.cell? ⟨w.heap.size + 1, 1, none⟩ = some (.slice none 0 0) ∧ W.frozen? ⟨w.heap.size + 1, 0, none⟩ = false ∧ W.frozen? ⟨w.heap.size + 1, 1, none⟩ = false) ∧ ∀ v0 v1, Below w.heap.size w ((W.setCell ⟨w.heap.size + 1, 0, none⟩ v0).setCell ⟨w.heap.size + 1, 1, none⟩ v1)) := fun W hW => by
    have hX := hb1.trans (hW.mono hb1.size)
    exact ⟨⟨(hW.cell (p := ⟨w.heap.size, 0, none⟩) (by show w.heap.size < _; omega)).trans n0, (hW.cell (p := ⟨w.heap.size, 1, none⟩) (by show w.heap.size < _; omega)).trans n1⟩, ⟨(hW.cell (p := ⟨w.heap.size + 1, 0, none⟩) (by show w.heap.size + 1 < _; omega)).trans r0, (hW.cell (p := ⟨w.heap.size + 1, 1, none⟩) (by show w.heap.size + 1 < _; omega)).trans r1, (hW.frozen (p := ⟨w.heap.size + 1, 0, none⟩) (by show w.heap.size + 1 < _; omega)).trans f0, (hW.frozen (p := ⟨w.heap.size + 1, 1, none⟩) (by show w.heap.size + 1 < _; omega)).trans f1⟩, fun v0 v1 => (hX.setCell (by show w.heap.size ≤ w.heap.size + 1; omega) _).setCell (by show w.heap.size ≤ w.heap.size + 1; omega) _⟩
  cases hgb : graphB p l with
  | false =>
    have hno : addT p l t = none := by unfold addT; rw [hgb]; rfl
    rw [hno]
    rw [hgb] at HG
    clear h hl ht hb1 hT HGt hs1 r0 r1 f0 f1
    go_enter Tryd.func23, Tryd.ntmps23
    go_wp2_with fail
    (try rw [hW1])
    refine Calls.mono HG.out ?_
    rintro e w2 ⟨rfl, hb2⟩
    obtain ⟨-, ⟨y0, y1, y2, y3⟩, hfin⟩ := HC.out w2 hb2
    have HF := (show Hid _ from hfin)
    clear HG hW1 HC hb2 hfin
    go_wp2
    refine bodyPost_ret (v := .tuple #[.agg #[.slice none 0 0, .slice none 0 0], .int .i64 0, .bool false]) ?_ ?_ ?_
    · simp [results, Tryd.results23, go_sem, *]
    · rfl
    · exact ⟨_, _, rfl, .inl ⟨rfl, rfl, rfl⟩, HF.out _ _⟩
  | true =>
    rw [hgb] at HG
    cases hgt : goodB t with
    | false =>
      have hno : addT p l t = none := by unfold addT; rw [hgb, hgt]; rfl
      rw [hno]
      rw [hgt] at HGt
      clear h hl ht hb1 hT hs1 r0 r1 f0 f1
      go_enter Tryd.func23, Tryd.ntmps23
      go_wp2_with fail
      (try rw [hW1])
      refine Calls.mono HG.out ?_
      rintro e w2 ⟨rfl, hb2⟩
      have HT2 := (show Hid _ from HGt.out w2 hb2)
      have HB2 := (show Hid _ from hb2)
      clear HG hW1 HGt hb2
      go_wp2_with fail
      refine Calls.mono HT2.out ?_
      rintro e w3 ⟨rfl, hb3⟩
      obtain ⟨-, ⟨y0, y1, y2, y3⟩, hfin⟩ := HC.out w3 (HB2.out.trans (hb3.mono HB2.out.size))
      have HF := (show Hid _ from hfin)
      clear HT2 HC hb3 hfin
      go_wp2
      refine bodyPost_ret (v := .tuple #[.agg #[.slice none 0 0, .slice none 0 0], .int .i64 0, .bool false]) ?_ ?_ ?_
      · simp [results, Tryd.results23, go_sem, *]
      · rfl
      · exact ⟨_, _, rfl, .inl ⟨rfl, rfl, rfl⟩, HF.out _ _⟩
    | true =>
      rw [hgt] at HGt
      obtain ⟨h120, hgood⟩ := (graphB_good p l).1 hgb
      obtain ⟨hp, ht1, ht40⟩ := good_pile hgt
      have hlp := hgood.2.1
      simp only at hlp
      have hl1 := hl.1
      obtain rfl : lb = len := by omega
      obtain ⟨tb, to, rfl, htb, _⟩ := ht.at (by omega)
      have hgd := @addT_good p l t
      rw [addT_run hgb hgt] at hgd ⊢
      have HS : Hid (∀ W, Below W1.heap.size W1 W → Calls Tryd.prog 51 #[.agg #[.slice a lb cap, .slice b lb cb]] W fun e w' => ∃ s m, e = .returned (.pointer (some ⟨s, 0, none⟩)) ∧ Shelf w' (fun b => W.heap.size ≤ b) s m (p, l) ∧ Below W.heap.size W w') := fun W hW => shelfOf_any a b lb cap cb p l W ((h.keep hb1).keep hW) ((hl.keep hb1).keep hW) hgood (by omega) hI
      have HCl : Hid (∀ (W3 W : World) (s m : Nat), Below W1.heap.size W1 W3 → Below W3.heap.size W3 W → Shelf W (fun b => W3.heap.size ≤ b) s m (p, l) → Calls Tryd.prog 59 #[.slice (some ⟨tb, to, none⟩) tl tc, .func (.func 52) #[.pointer (some ⟨s, 0, none⟩)] #[]] W fun e w' => e = .returned (.tuple #[.int .i64 (((runO clsPu t ((p, l), [])).map (fun r => r.2.getD 0 0)).getD 0), .bool (runO clsPu t ((p, l), [])).isSome]) ∧ Below W3.heap.size W3 w' ∧ AllR (runO clsPu t ((p, l), [])) (fun g' => Shelf w' (fun b => W3.heap.size ≤ b) s m g')) := fun W3 W s m h13 h3W hSh => by
        have hB := h13.trans (h3W.mono h13.size)
        refine (clsP_any s clsPu clsPu_keeps (fun W S g => Shelf W S s m g) (fun W W' S S' g hR hs hk hS => hR.map hs hk hS) (fun W S g n a m' cap kids hR hg h120 hk ha hf => ?_) hp hIt tb to tl tc (by omega) (by omega) W (fun b => W3.heap.size ≤ b) (p, l) ((ht.keep hb1).keep hB) hSh hgood h120 (by have := h13.size; omega) (fun W' hW' => ?_)).mono ?_
        · obtain ⟨hfi, hks⟩ := nfits_fits hf
          have := putI_any s m S g n.1 n.2 a m' cap kids W hR hg h120 hk ha hfi
          rw [hks] at this
          exact this
        · have hb3 : Below W3.heap.size W3 W' := h3W.trans (hW'.below (fun x _ h => h) h3W.size)
          exact ((hT.keeps hb1).keeps h13).keeps hb3
        · rintro e w' ⟨h1, h2, h3⟩
          refine ⟨h1, h3W.trans (h2.below (fun x _ h => h) h3W.size), fun r hr => (h3 r hr).sets (fun b _ hb => ?_)⟩
          rcases hb with hb | hb
          · exact hb
          · have := h3W.size; omega
      have HW1 : Hid (W1.heap.size = w.heap.size + 2) := hs1
      clear h hl ht hb1 hT hgood hp hgb hgt hI hIt hlp hl1 htb hs1 r0 r1 f0 f1 h120
      cases hO : runO clsPu t ((p, l), []) with
      | none =>
        rw [hO] at HCl
        simp only [Option.map_none, Option.getD_none, Option.isSome_none] at HCl
        have HTo : Hid (∀ W v, Calls Tryd.prog 53 #[v, .int .i64 0, .bool false] W fun e w' => e = .returned (.tuple #[.agg #[.slice none 0 0, .slice none 0 0], .int .i64 0, .bool false]) ∧ Below W.heap.size W w') := fun W v => told_no v 0 W
        clear hgd hO
        go_enter Tryd.func23, Tryd.ntmps23
        go_wp2_with fail
        (try rw [hW1])
        refine Calls.mono HG.out ?_
        rintro e w2 ⟨rfl, hb2⟩
        have HT2 := (show Hid _ from HGt.out w2 hb2)
        have HB2 := (show Hid _ from hb2)
        clear HG hW1 HGt hb2
        go_wp2_with fail
        refine Calls.mono HT2.out ?_
        rintro e w3 ⟨rfl, hb3⟩
        have hB3 := HB2.out.trans (hb3.mono HB2.out.size)
        obtain ⟨⟨g0, g1⟩, -, -⟩ := HC.out w3 hB3
        have HS3 := (show Hid _ from HS.out w3 hB3)
        have HB3 := (show Hid _ from hB3)
        clear HT2 hb3 HB2 HS hB3
        go_wp2_with fail
        refine Calls.mono HS3.out ?_
        rintro e w4 ⟨s, m, rfl, hSh, hb4⟩
        have HC4 := (show Hid _ from HCl.out w3 w4 s m HB3.out hb4 hSh)
        clear HS3 HCl hSh hb4 g0 g1
        go_wp2_with fail
        refine Calls.mono HC4.out ?_
        rintro e w5 ⟨rfl, hb5, -⟩
        have HB5 := (show Hid _ from HB3.out.trans (hb5.mono HB3.out.size))
        clear HC4 hb5 HB3
        go_wp2_with fail
        refine Calls.mono (HTo.out _ _) ?_
        rintro e w6 ⟨rfl, hb6⟩
        obtain ⟨-, ⟨y0, y1, y2, y3⟩, hfin⟩ := HC.out w6 (HB5.out.trans (hb6.mono HB5.out.size))
        have HF := (show Hid _ from hfin)
        clear HTo HC hb6 hfin HB5
        go_wp2
        refine bodyPost_ret (v := .tuple #[.agg #[.slice none 0 0, .slice none 0 0], .int .i64 0, .bool false]) ?_ ?_ ?_
        · simp [results, Tryd.results23, go_sem, *]
        · rfl
        · exact ⟨_, _, rfl, .inl ⟨rfl, rfl, rfl⟩, HF.out _ _⟩
      | some r =>
        rw [hO] at HCl hgd
        simp only [Option.map_some, Option.getD_some, Option.isSome_some] at HCl
        obtain ⟨d1, d2, d3⟩ := hgd (r := (r.1, r.2.getD 0 0)) rfl
        simp only at d1 d2 d3
        have HD : Hid (GoodG r.1 ∧ 0 < r.1.1.length ∧ r.1.1.length ≤ 120) := ⟨d1, d2, d3⟩
        have e1 : ansC (Option.map (fun r => (r.1, r.2.getD 0 0)) (some r)) = r.2.getD 0 0 := rfl
        have e2 : ansG (Option.map (fun r => (r.1, r.2.getD 0 0)) (some r)) = r.1 := rfl
        have e3 : (Option.map (fun r : GS × List Int => (r.1, r.2.getD 0 0)) (some r)).isSome = true := rfl
        rw [e1, e2, e3]
        obtain ⟨C, hCr⟩ : ∃ C, r.2.getD 0 0 = C := ⟨_, rfl⟩
        rw [hCr] at HCl ⊢
        obtain ⟨rg, rq⟩ := r
        simp only at HD ⊢
        clear hgd hO d1 d2 d3 e1 e2 e3 hCr
        go_enter Tryd.func23, Tryd.ntmps23
        go_wp2_with fail
        (try rw [hW1])
        refine Calls.mono HG.out ?_
        rintro e w2 ⟨rfl, hb2⟩
        have HT2 := (show Hid _ from HGt.out w2 hb2)
        have HB2 := (show Hid _ from hb2)
        clear HG hW1 HGt hb2
        go_wp2_with fail
        refine Calls.mono HT2.out ?_
        rintro e w3 ⟨rfl, hb3⟩
        have hB3 := HB2.out.trans (hb3.mono HB2.out.size)
        obtain ⟨⟨g0, g1⟩, -, -⟩ := HC.out w3 hB3
        have HS3 := (show Hid _ from HS.out w3 hB3)
        have HB3 := (show Hid _ from hB3)
        clear HT2 hb3 HB2 HS hB3
        go_wp2_with fail
        refine Calls.mono HS3.out ?_
        rintro e w4 ⟨s, m, rfl, hSh, hb4⟩
        have HC4 := (show Hid _ from HCl.out w3 w4 s m HB3.out hb4 hSh)
        clear HS3 HCl hSh hb4 g0 g1
        go_wp2_with fail
        refine Calls.mono HC4.out ?_
        rintro e w5 ⟨rfl, hb5, hall⟩
        have hSh5 := hall (rg, rq) rfl
        simp only at hSh5
        obtain ⟨va, vb, f, k1, k2, k3, k4, k5, k6, k7, k8, k9, k10, k11, k12, k13⟩ := hSh5
        obtain ⟨a6, ca6, b6, cb6, rfl, rfl, _, _⟩ := k8.reads
        have HTo := (show Hid _ from told_yes s C a6 b6 rg.1.length ca6 rg.2.length cb6 w5 k1 k2 k12)
        have HB5 := (show Hid _ from HB3.out.trans (hb5.mono HB3.out.size))
        have hs3 := HB3.out.size
        have HFN : Hid (∀ W, Below w5.heap.size w5 W → (W.cell? ⟨w.heap.size + 1, 0, none⟩ = some (.slice none 0 0) ∧ W.cell? ⟨w.heap.size + 1, 1, none⟩ = some (.slice none 0 0) ∧ W.frozen? ⟨w.heap.size + 1, 0, none⟩ = false ∧ W.frozen? ⟨w.heap.size + 1, 1, none⟩ = false) ∧ ∀ v0 v1, AnsI ((W.setCell ⟨w.heap.size + 1, 0, none⟩ v0).setCell ⟨w.heap.size + 1, 1, none⟩ v1) (fun x => w.heap.size ≤ x) (.slice a6 rg.1.length ca6) (.slice b6 rg.2.length cb6) rg ∧ Below w.heap.size w ((W.setCell ⟨w.heap.size + 1, 0, none⟩ v0).setCell ⟨w.heap.size + 1, 1, none⟩ v1)) := fun W hW => by
          obtain ⟨-, y, z⟩ := HC.out W (HB5.out.trans (hW.mono HB5.out.size))
          refine ⟨y, fun v0 v1 => ⟨.inr ⟨(k8.keep hW).map (by rw [setCell_size, setCell_size]; exact Nat.le_refl _) (fun b' hb' hl => ?_) (fun b' hl hb' => ?_), HD.out.2.1, HD.out.2.2, HD.out.1.2.1, good_few HD.out.1⟩, z v0 v1⟩⟩
          · have hne : w.heap.size + 1 ≠ b' := by have := hb'.1; have := HW1.out; omega
            rw [setCell_block _ _ _ hne, setCell_block _ _ _ hne]
          · have := hb'.1; have := HW1.out; omega
        clear HC4 hb5 HB3 hall k1 k2 k3 k4 k5 k6 k7 k8 k9 k10 k11 k12 k13 HC HB5 hs3
        go_wp2_with fail
        refine Calls.mono HTo.out ?_
        rintro e w6 ⟨rfl, hb6⟩
        obtain ⟨⟨y0, y1, y2, y3⟩, hfin⟩ := HFN.out w6 hb6
        have HF := (show Hid _ from hfin)
        clear HTo hb6 hfin HFN
        go_wp2
        refine bodyPost_ret (v := .tuple #[.agg #[.slice a6 rg.1.length ca6, .slice b6 rg.2.length cb6], .int .i64 C, .bool true]) ?_ ?_ ?_
        · simp [results, Tryd.results23, go_sem, *]
        · rfl
        · exact ⟨_, _, rfl, (HF.out _ _).1, (HF.out _ _).2⟩
end Go.Proofs.YtfpkeikmfcddjaaDoor
namespace Go.Proofs.YtfpkeikmfcddjaaDoor
open Go.ChangeShapes Go.WideShapes Go.ChangeAt Go.RowKit
set_option linter.unusedVariables false

theorem mine_block {w w' : World} {b off len : Nat} (h : Mine w b off len) (hs : w.heap.size ≤ w'.heap.size) (hb : w'.heap[b]? = w.heap[b]?) : Mine w' b off len := by
  refine ⟨Nat.lt_of_lt_of_le h.1 hs, fun i hi => ?_⟩
  obtain ⟨⟨v, hv⟩, hf⟩ := h.2 i hi
  exact ⟨⟨v, (World.cell?_of_block (a := ⟨b, off + i, none⟩) hb).trans hv⟩, (World.frozen?_of_block (a := ⟨b, off + i, none⟩) hb).trans hf⟩
/-- An answer of the model, as it is read. -/
def ReadG (W : World) (va vb : Value) (g : GS) : Prop := ∃ a ca b cb, va = .slice a g.1.length ca ∧ vb = .slice b g.2.length cb ∧ ESl W a g.1.length g.1 ∧ Sl W b g.2.length g.2
theorem ReadG.keep {w w' : World} {va vb : Value} {g : GS} (h : ReadG w va vb g) (hb : Below w.heap.size w w') : ReadG w' va vb g := by
  obtain ⟨a, ca, b, cb, h1, h2, h3, h4⟩ := h
  exact ⟨a, ca, b, cb, h1, h2, h3.keep hb, h4.keep hb⟩
theorem AnsI.read {w : World} {S : Nat → Prop} {va vb : Value} {g : GS} (h : AnsI w S va vb g) : ReadG w va vb g := by
  obtain ⟨a, ca, b, cb, h1, h2, h3, h4, _⟩ := h.reads
  exact ⟨a, ca, b, cb, h1, h2, h3, h4⟩
theorem ansG_few {p : List EN} {l : List Int} {t : List (Int × Int)} : (ansG (addT p l t)).1.length ≤ 120 ∧ (ansG (addT p l t)).2.length = (ansG (addT p l t)).1.length ∧ ∀ i, i < (ansG (addT p l t)).1.length → ((ansG (addT p l t)).1.getD i e0).2.2.length ≤ 3 := by
  cases h : addT p l t with
  | none => exact ⟨by simp [ansG], rfl, fun i hi => absurd hi (Nat.not_lt_zero _)⟩
  | some r =>
    obtain ⟨h1, h2, h3⟩ := addT_good h
    exact ⟨h3, h1.2.1, good_few h1⟩
theorem eqA_any (u1 u2 v1 v2 : Value) (g : GS) (W : World) (h : ReadG W u1 u2 g) (h' : ReadG W v1 v2 g) (h120 : g.1.length ≤ 120) (hlp : g.2.length = g.1.length) (h3 : ∀ i, i < g.1.length → (g.1.getD i e0).2.2.length ≤ 3) : Calls Tryd.prog 15 #[.agg #[u1, u2], .agg #[v1, v2]] W fun e w' => e = .returned (.bool true) ∧ Below W.heap.size W w' := by
  obtain ⟨a, ca, b, cb, rfl, rfl, e3, e4⟩ := h
  obtain ⟨a', ca', b', cb', rfl, rfl, e3', e4'⟩ := h'
  exact eqG_same a b a' b' g.1.length ca ca' g.2.length cb cb' g.1 g.2 W e3 e3' e4 e4' (by omega) (fun i hi => by have := h3 i hi; omega) (by omega)
set_option maxHeartbeats 12800000 in
set_option maxRecDepth 20000 in
theorem addTermLaw_any (a b : Option Addr) (len cap lb cb : Nat) (p : List EN) (l : List Int) (ta : Option Addr) (tl tc : Nat) (t : List (Int × Int)) (w : World) (ht : Tab w) (h : ESl w a len p) (hl : Sl w b lb l) (hI : InE p) (hN : NSl w ta tl t) (hIt : ∀ k, k < t.length → InI (t.getD k (0, 0)).2) (hm : len ≤ 9223372036854775807) (hm2 : lb ≤ 9223372036854775807) (hm3 : tl ≤ 9223372036854775807) :
    Calls Tryd.prog 4 #[.agg #[.slice a len cap, .slice b lb cb], .slice ta tl tc] w fun e w' => e = .returned (.bool true) ∧ Below w.heap.size w w' := by
  have hll := h.1
  have hl1 := hl.1
  obtain ⟨W1, hW1⟩ : ∃ W1, w.alloc (.cells #[.slice a len cap, .slice b lb cb] 25) = W1 := ⟨_, rfl⟩
  have hb1 : Below w.heap.size w W1 := by rw [← hW1]; exact (Below.refl _ _).alloc (Nat.le_refl _) _
  have n0 : W1.cell? ⟨w.heap.size, 0, none⟩ = some (.slice a len cap) := by rw [← hW1]; simp [go_sem]
  have n1 : W1.cell? ⟨w.heap.size, 1, none⟩ = some (.slice b lb cb) := by rw [← hW1]; simp [go_sem]
  have hs1 : w.heap.size < W1.heap.size := by rw [← hW1]; simp
  have HZ := (show Hid _ from szG_any a b len cap lb cb p l 1048576 W1 (h.keep hb1) (hl.keep hb1) (by omega) hm hm2)
  have HF : Hid (∀ W, Below W1.heap.size W1 W → Below w.heap.size w W ∧ Tab W ∧ W.cell? ⟨w.heap.size, 0, none⟩ = some (.slice a len cap) ∧ W.cell? ⟨w.heap.size, 1, none⟩ = some (.slice b lb cb)) := fun W hW => ⟨hb1.trans (hW.mono hb1.size), (ht.keeps hb1).keeps hW, (hW.cell (p := ⟨w.heap.size, 0, none⟩) hs1).trans n0, (hW.cell (p := ⟨w.heap.size, 1, none⟩) hs1).trans n1⟩
  rcases szG_all p l with hz | ⟨z0, z1, z2, z3, z4⟩
  · rw [hz] at HZ
    clear h hl hb1 ht hz hN
    go_enter Tryd.func4, Tryd.ntmps4
    go_wp2_with fail
    (try rw [hW1])
    refine Calls.mono HZ.out ?_
    rintro e w2 ⟨rfl, hb2⟩
    clear HZ hW1
    go_wp2
    go_ret
    exact ⟨rfl, (HF.out _ hb2).1⟩
  · obtain ⟨sN, hsN⟩ : ∃ sN : Nat, szG 1048576 p l = sN := ⟨(szG 1048576 p l).toNat, by omega⟩
    have hst := szG_marks p l z0
    rw [hll, hl1] at hst
    rw [hsN] at HZ z0 z1
    have hz : ¬ (sN : Int) < 0 := by omega
    have hn : len ≤ 1048576 := by omega
    have hn2 : lb ≤ 1048576 := by omega
    rw [hll] at z4
    have HZ2 : Hid (∀ W, Calls Tryd.prog 20 #[.slice ta tl tc, .int .i64 sN] W fun e w' => e = .returned (.int .i64 (if tl ≤ sN then ((sN - tl : Nat) : Int) else -1)) ∧ w' = W) := fun W => sz_any ta tl tc sN W (by omega) hm3
    by_cases htn : tl ≤ sN
    · rw [if_pos htn] at HZ2
      obtain ⟨s2, hs2⟩ : ∃ s2 : Nat, sN - tl = s2 := ⟨_, rfl⟩
      rw [hs2] at HZ2
      have hz2 : ¬ (s2 : Int) < 0 := by omega
      have htm : tl ≤ 1048576 := by omega
      have HC : Hid (∀ W, Below W1.heap.size W1 W → Calls Tryd.prog 12 #[.agg #[.slice a len cap, .slice b lb cb]] W fun e w' => ∃ g gp hi, e = .returned (.agg #[.slice (some ⟨g, 0, none⟩) len len, .slice (some ⟨gp, 0, none⟩) lb lb]) ∧ Below W.heap.size W w' ∧ ESl w' (some ⟨g, 0, none⟩) len p ∧ Sl w' (some ⟨gp, 0, none⟩) lb l ∧ W.heap.size ≤ g ∧ EMine w' g hi g len p ∧ hi ≤ gp ∧ MineI w' gp lb) := fun W hW => (copyG_any a b len cap lb cb p l W ((h.keep hb1).keep hW) ((hl.keep hb1).keep hW) hn z4 hn2).mono fun e w' ⟨g, gp, hi, r1, r2, r3, r4, r5, r6, r7⟩ => ⟨g, gp, hi, r1, r2, r4.esl (fun i hi => by have := z4 i hi; omega), r7, r3, r4, r5, r6⟩
      have HCN : Hid (∀ W, Below W1.heap.size W1 W → Calls Tryd.prog 22 #[.slice ta tl tc] W fun e w' => e = .returned (.slice (some ⟨W.heap.size, 0, none⟩) tl tl) ∧ Below W.heap.size W w' ∧ NSl w' (some ⟨W.heap.size, 0, none⟩) tl t ∧ Mine w' W.heap.size 0 tl) := fun W hW => copyN_mine ta tl tc t W ((hN.keep hb1).keep hW) htm
      have HSp : Hid (∀ W (g gp gt : Nat), ESl W (some ⟨g, 0, none⟩) len p → Sl W (some ⟨gp, 0, none⟩) lb l → NSl W (some ⟨gt, 0, none⟩) tl t → Calls Tryd.prog 21 #[.agg #[.slice (some ⟨g, 0, none⟩) len len, .slice (some ⟨gp, 0, none⟩) lb lb], .slice (some ⟨gt, 0, none⟩) tl tl] W fun e w' => ∃ va vb, e = .returned (.tuple #[.agg #[va, vb], .int .i64 (ansC (addT p l t)), .bool (addT p l t).isSome]) ∧ ReadG w' va vb (ansG (addT p l t)) ∧ Below W.heap.size W w') := fun W g gp gt h1 h2 h3 => (specAddTerm_any _ _ len len lb lb p l _ tl tl t W h1 h2 h3 hm hm2 hm3).mono fun e w' ⟨va, vb, r1, r2, r3⟩ => ⟨va, vb, r1, r2.reads, r3⟩
      have HIm : Hid (∀ W (g gp gt : Nat), Tab W → ESl W (some ⟨g, 0, none⟩) len p → Sl W (some ⟨gp, 0, none⟩) lb l → NSl W (some ⟨gt, 0, none⟩) tl t → Calls Tryd.prog 23 #[.agg #[.slice (some ⟨g, 0, none⟩) len len, .slice (some ⟨gp, 0, none⟩) lb lb], .slice (some ⟨gt, 0, none⟩) tl tl] W fun e w' => ∃ va vb, e = .returned (.tuple #[.agg #[va, vb], .int .i64 (ansC (addT p l t)), .bool (addT p l t).isSome]) ∧ AnsI w' (fun x => W.heap.size ≤ x) va vb (ansG (addT p l t)) ∧ Below W.heap.size W w') := fun W g gp gt h0 h1 h2 h3 => implAddTerm_any _ _ len len lb lb p l _ tl tl t W h0 h1 h2 h3 hI hIt hm2 hm3
      have HQ : Hid (∀ W (g gp g' gp' : Nat), ESl W (some ⟨g, 0, none⟩) len p → Sl W (some ⟨gp, 0, none⟩) lb l → ESl W (some ⟨g', 0, none⟩) len p → Sl W (some ⟨gp', 0, none⟩) lb l → Calls Tryd.prog 15 #[.agg #[.slice (some ⟨g, 0, none⟩) len len, .slice (some ⟨gp, 0, none⟩) lb lb], .agg #[.slice (some ⟨g', 0, none⟩) len len, .slice (some ⟨gp', 0, none⟩) lb lb]] W fun e w' => e = .returned (.bool true) ∧ Below W.heap.size W w') := fun W g gp g' gp' h1 h2 h3 h4 => eqG_same _ _ _ _ len len len lb lb lb p l W h1 h3 h2 h4 hn z4 hn2
      have HQN : Hid (∀ W (g g' : Nat), NSl W (some ⟨g, 0, none⟩) tl t → NSl W (some ⟨g', 0, none⟩) tl t → Calls Tryd.prog 24 #[.slice (some ⟨g, 0, none⟩) tl tl, .slice (some ⟨g', 0, none⟩) tl tl] W fun e w' => e = .returned (.bool true) ∧ Below W.heap.size W w') := fun W g g' h1 h2 => eqN_same _ _ tl tl tl t W h1 h2 htm
      have hfw := @ansG_few p l t
      obtain ⟨A, hA⟩ : ∃ A, ansG (addT p l t) = A := ⟨_, rfl⟩
      rw [hA] at HSp HIm hfw
      have HQA : Hid (∀ W (u1 u2 v1 v2 : Value), ReadG W u1 u2 A → ReadG W v1 v2 A → Calls Tryd.prog 15 #[.agg #[u1, u2], .agg #[v1, v2]] W fun e w' => e = .returned (.bool true) ∧ Below W.heap.size W w') := fun W u1 u2 v1 v2 h1 h2 => eqA_any u1 u2 v1 v2 A W h1 h2 hfw.1 hfw.2.1 hfw.2.2
      have HMG : Hid (∀ W (g gp hi : Nat), EMine W g hi g len p → hi ≤ gp → MineI W gp lb → Calls Tryd.prog 17 #[.agg #[.slice (some ⟨g, 0, none⟩) len len, .slice (some ⟨gp, 0, none⟩) lb lb], .int .i64 1] W fun e w' => e = .returned (.int .i64 (stE 1 p len + lb : Nat)) ∧ TurnE g (gp + 1) W w') := fun W g gp hi h1 h2 h3 => markG_any hi g len len gp lb lb p W h1 h2 h3 (by omega) z4 hn hn2
      have hk0 : stE 1 p len + lb ≤ 3145729 := hst
      obtain ⟨K0, hK0⟩ : ∃ K0 : Nat, stE 1 p len + lb = K0 := ⟨_, rfl⟩
      rw [hK0] at HMG hk0
      have HMN : Hid (∀ W (gt : Nat), Mine W gt 0 tl → Calls Tryd.prog 25 #[.slice (some ⟨gt, 0, none⟩) tl tl, .int .i64 (K0 : Int)] W fun e w' => e = .returned (.int .i64 (K0 + 2 * tl : Nat)) ∧ W.grownBy w' (some gt)) := fun W gt h1 => (mark_any gt 0 tl tl K0 W h1 htm (by omega)).mono fun e w' ⟨r1, r2, _⟩ => ⟨r1, r2⟩
      obtain ⟨K1, hK1⟩ : ∃ K1 : Nat, K0 + 2 * tl = K1 := ⟨_, rfl⟩
      rw [hK1] at HMN
      have hk1 : ¬ (K1 : Int) < 0 := by omega
      have HMA : Hid (∀ W va vb (S : Nat → Prop), AnsI W S va vb A → Calls Tryd.prog 17 #[.agg #[va, vb], .int .i64 1] W fun e w' => e = .returned (.int .i64 ((ansK A : Nat) : Int)) ∧ KB S W w' ∧ HeldG w' va vb A) := fun W va vb S h1 => markA_any va vb A S W h1
      have HHA : Hid (∀ W va vb, HeldG W va vb A → Calls Tryd.prog 19 #[.agg #[va, vb], .int .i64 1] W fun e w' => e = .returned (.int .i64 ((ansK A : Nat) : Int)) ∧ Below W.heap.size W w') := fun W va vb h1 => heldA_any va vb A W h1
      obtain ⟨zq, hzq⟩ : ∃ zq : Int, ((ansK A : Nat) : Int) = zq := ⟨_, rfl⟩
      have hq1 : ¬ zq < 0 := by omega
      have hqq : (zq != zq) = false := by simp
      rw [hzq] at HMA HHA
      generalize ansC (addT p l t) = C at HSp HIm
      generalize (addT p l t).isSome = B at HSp HIm
      have hBB : (B != B) = false := by simp
      have hCC : (C != C) = false := by simp
      clear h hl hb1 ht hll hl1 z0 z1 z2 z3 z4 hn hn2 hI hN hIt hsN htn hs2 htm hst hfw hA hK0 hK1 hzq hk0
      go_enter Tryd.func4, Tryd.ntmps4
      go_wp2_with fail
      (try rw [hW1])
      refine Calls.mono HZ.out ?_
      rintro e w2 ⟨rfl, hb2⟩
      obtain ⟨-, -, q0, q1⟩ := HF.out w2 hb2
      clear HZ hW1
      go_wp2_with fail
      refine Calls.mono (HZ2.out _) ?_
      rintro e w2' ⟨rfl, rfl⟩
      clear HZ2
      go_wp2_with fail
      refine Calls.mono (HC.out _ hb2) ?_
      rintro e w3 ⟨g, gp, hi, rfl, hb3, hE3, hS3, -⟩
      have hB3 : Below W1.heap.size W1 w3 := hb2.trans (hb3.mono hb2.size)
      clear hb3 q0 q1 hb2
      go_wp2_with fail
      refine Calls.mono (HCN.out _ hB3) ?_
      rintro e w4 ⟨rfl, hb4, hN4, -⟩
      have hB4 : Below W1.heap.size W1 w4 := hB3.trans (hb4.mono hB3.size)
      have hE4 := hE3.keep hb4
      have hS4 := hS3.keep hb4
      clear hb4 hE3 hS3 hB3
      go_wp2_with fail
      refine Calls.mono (HSp.out _ _ _ _ hE4 hS4 hN4) ?_
      rintro e w5 ⟨sa, sb, rfl, hR5, hb5⟩
      obtain ⟨sa1, sca, sb1, scb, rfl, rfl, -⟩ := id hR5
      have hB5 : Below W1.heap.size W1 w5 := hB4.trans (hb5.mono hB4.size)
      clear hb5 hE4 hS4 hN4 hB4 HSp
      -- the model's answer in its box
      obtain ⟨W6, hW6⟩ : ∃ W6, w5.alloc (.cells #[.slice sa1 A.1.length sca, .slice sb1 A.2.length scb] 32) = W6 := ⟨_, rfl⟩
      have hb6 : Below w5.heap.size w5 W6 := by rw [← hW6]; exact (Below.refl _ _).alloc (Nat.le_refl _) _
      have u0 : W6.cell? ⟨w5.heap.size, 0, none⟩ = some (.slice sa1 A.1.length sca) := by rw [← hW6]; simp [go_sem]
      have u1 : W6.cell? ⟨w5.heap.size, 1, none⟩ = some (.slice sb1 A.2.length scb) := by rw [← hW6]; simp [go_sem]
      have hs6 : w5.heap.size < W6.heap.size := by rw [← hW6]; simp
      have hB6 : Below W1.heap.size W1 W6 := hB5.trans (hb6.mono hB5.size)
      obtain ⟨B6, hB6e⟩ : ∃ B6, w5.heap.size = B6 := ⟨_, rfl⟩
      rw [hB6e] at u0 u1 hs6
      have H6 : Hid (∀ W, Below W6.heap.size W6 W → Below W1.heap.size W1 W ∧ W.cell? ⟨B6, 0, none⟩ = some (.slice sa1 A.1.length sca) ∧ W.cell? ⟨B6, 1, none⟩ = some (.slice sb1 A.2.length scb) ∧ ReadG W (.slice sa1 A.1.length sca) (.slice sb1 A.2.length scb) A) := fun W hW => ⟨hB6.trans (hW.mono hB6.size), (hW.cell (p := ⟨B6, 0, none⟩) hs6).trans u0, (hW.cell (p := ⟨B6, 1, none⟩) hs6).trans u1, (hR5.keep hb6).keep hW⟩
      obtain ⟨-, -, q0, q1⟩ := HF.out W6 hB6
      have HC6 := (show Hid _ from HC.out W6 hB6)
      clear hB5 hb6 hR5 u0 u1 hs6 hB6
      go_wp2_with fail
      (try rw [hW6])
      (try rw [hB6e])
      refine Calls.mono HC6.out ?_
      rintro e w7 ⟨g2, gp2, hi2, rfl, hb7, hE7, hS7, hg7, hM7, hh7, hI7⟩
      clear HC6 hW6 hB6e q0 q1
      -- the graph that is handed over in its box
      obtain ⟨W8, hW8⟩ : ∃ W8, w7.alloc (.cells #[.slice (some ⟨g2, 0, none⟩) len len, .slice (some ⟨gp2, 0, none⟩) lb lb] 32) = W8 := ⟨_, rfl⟩
      have hb8 : Below w7.heap.size w7 W8 := by rw [← hW8]; exact (Below.refl _ _).alloc (Nat.le_refl _) _
      have t0 : W8.cell? ⟨w7.heap.size, 0, none⟩ = some (.slice (some ⟨g2, 0, none⟩) len len) := by rw [← hW8]; simp [go_sem]
      have t1 : W8.cell? ⟨w7.heap.size, 1, none⟩ = some (.slice (some ⟨gp2, 0, none⟩) lb lb) := by rw [← hW8]; simp [go_sem]
      have hs8 : w7.heap.size < W8.heap.size := by rw [← hW8]; simp
      obtain ⟨B8, hB8e⟩ : ∃ B8, w7.heap.size = B8 := ⟨_, rfl⟩
      have hgpl : gp2 < B8 := by rw [← hB8e]; exact hI7.1
      have hgg : g2 ≤ gp2 := by have := hM7.2.2.1; omega
      rw [hB8e] at t0 t1 hs8
      have hB68 : Below W6.heap.size W6 W8 := hb7.trans (hb8.mono hb7.size)
      have HX8 : Hid (∀ W, Below W8.heap.size W8 W → Below W6.heap.size W6 W ∧ W.cell? ⟨B8, 0, none⟩ = some (.slice (some ⟨g2, 0, none⟩) len len) ∧ W.cell? ⟨B8, 1, none⟩ = some (.slice (some ⟨gp2, 0, none⟩) lb lb) ∧ ESl W (some ⟨g2, 0, none⟩) len p ∧ Sl W (some ⟨gp2, 0, none⟩) lb l ∧ EMine W g2 hi2 g2 len p ∧ hi2 ≤ gp2 ∧ MineI W gp2 lb) := fun W hW => ⟨hB68.trans (hW.mono hB68.size), (hW.cell (p := ⟨B8, 0, none⟩) hs8).trans t0, (hW.cell (p := ⟨B8, 1, none⟩) hs8).trans t1, (hE7.keep hb8).keep hW, (hS7.keep hb8).keep hW, (hM7.keep hb8).keep hW, hh7, (hI7.keep hb8).keep hW⟩
      have HCN8 := (show Hid _ from HCN.out W8 (H6.out W8 hB68).1)
      have hg6 : W6.heap.size ≤ g2 := hg7
      clear hb7 hb8 t0 t1 hE7 hS7 hM7 hh7 hI7 hB68 hg7
      go_wp2_with fail
      (try rw [hW8])
      (try rw [hB8e])
      refine Calls.mono HCN8.out ?_
      rintro e w9 ⟨rfl, hb9, hN9, hM9⟩
      obtain ⟨gt, hgt⟩ : ∃ gt, W8.heap.size = gt := ⟨_, rfl⟩
      rw [hgt] at hN9 hM9
      have hgtl : gt < w9.heap.size := hM9.1
      have hgt8 : B8 < gt := by omega
      have hM9e : Hid (g2 ≤ w9.heap.size ∧ gp2 < w9.heap.size ∧ B8 < w9.heap.size) := by show _ ∧ _; omega
      have hW69 : Hid (W6.heap.size ≤ w9.heap.size) := by show _ ≤ _; omega
      have HX9 : Hid (∀ W, Below w9.heap.size w9 W → Below W8.heap.size W8 W ∧ NSl W (some ⟨gt, 0, none⟩) tl t ∧ Mine W gt 0 tl) := fun W hW => ⟨hb9.trans (hW.mono hb9.size), hN9.keep hW, mine_block hM9 hW.size (hW.block gt hgtl)⟩
      obtain ⟨x1, x2, x3⟩ := HX9.out w9 (Below.refl _ _)
      obtain ⟨y1, y2, y3, y4, y5, -⟩ := HX8.out w9 x1
      have HI9 := (show Hid _ from HIm.out w9 _ _ _ (HF.out w9 (H6.out w9 y1).1).2.1 y4 y5 x2)
      clear HCN8 hb9 hN9 hM9 hW8 hB8e x1 x2 x3 y1 y4 y5
      go_wp2_with fail
      (try rw [hgt])
      refine Calls.mono HI9.out ?_
      rintro e w10 ⟨va, vb, rfl, hA10, hb10⟩
      obtain ⟨a1, ca1, b1, cb1, rfl, rfl, -⟩ := hA10.reads
      clear HI9 hgt y2 y3
      -- the program's answer in its box
      obtain ⟨W11, hW11⟩ : ∃ W11, w10.alloc (.cells #[.slice a1 A.1.length ca1, .slice b1 A.2.length cb1] 32) = W11 := ⟨_, rfl⟩
      have hb11 : Below w10.heap.size w10 W11 := by rw [← hW11]; exact (Below.refl _ _).alloc (Nat.le_refl _) _
      have v0 : W11.cell? ⟨w10.heap.size, 0, none⟩ = some (.slice a1 A.1.length ca1) := by rw [← hW11]; simp [go_sem]
      have v1 : W11.cell? ⟨w10.heap.size, 1, none⟩ = some (.slice b1 A.2.length cb1) := by rw [← hW11]; simp [go_sem]
      have hs11 : w10.heap.size < W11.heap.size := by rw [← hW11]; simp
      obtain ⟨BG, hBG⟩ : ∃ BG, w10.heap.size = BG := ⟨_, rfl⟩
      have hs910 : w9.heap.size ≤ BG := by rw [← hBG]; exact hb10.size
      have hA11 : AnsI W11 (fun x => w9.heap.size ≤ x ∧ x < BG) (.slice a1 A.1.length ca1) (.slice b1 A.2.length cb1) A := (hA10.map (Nat.le_refl _) (fun _ _ _ => rfl) (fun b hb h => ⟨h, by omega⟩)).map hb11.size (fun b _ hl => hb11.block b hl) (fun _ _ h => h)
      rw [hBG] at v0 v1 hs11
      have hb911 : Below w9.heap.size w9 W11 := hb10.trans (hb11.mono hb10.size)
      have HX11 : Hid (∀ W, KB (fun b => b < w9.heap.size) W11 W → W.cell? ⟨BG, 0, none⟩ = some (.slice a1 A.1.length ca1) ∧ W.cell? ⟨BG, 1, none⟩ = some (.slice b1 A.2.length cb1) ∧ AnsI W (fun x => w9.heap.size ≤ x ∧ x < BG) (.slice a1 A.1.length ca1) (.slice b1 A.2.length cb1) A ∧ BG < W.heap.size) := fun W hW => ⟨(hW.cell (p := ⟨BG, 0, none⟩) hs11 (by show ¬ BG < _; omega)).trans v0, (hW.cell (p := ⟨BG, 1, none⟩) hs11 (by show ¬ BG < _; omega)).trans v1, hA11.map hW.size (fun b hb hl => hW.block b hl (by omega)) (fun _ _ h => h), Nat.lt_of_lt_of_le hs11 hW.size⟩
      have HX12 : Hid (∀ W, Below W11.heap.size W11 W → Below w9.heap.size w9 W) := fun W hW => hb911.trans (hW.mono hb911.size)
      obtain ⟨-, c0, c1, c2⟩ := H6.out W11 (HX8.out W11 (HX9.out W11 hb911).1).1
      have HQ11 := (show Hid _ from HQA.out W11 _ _ _ _ hA11.read c2)
      have HBGs := (show Hid _ from hs11)
      clear hb10 hb11 hA10 hA11 hb911
      go_wp2_with fail
      (try rw [hW11])
      (try rw [hBG])
      refine Calls.mono HQ11.out ?_
      rintro e w12 ⟨rfl, hb12⟩
      have hD12 : Below W11.heap.size W11 w12.drew := hb12.drew
      have h812 := (HX9.out _ (HX12.out _ hD12)).1
      obtain ⟨h612, k0, k1, k2, k3, -⟩ := HX8.out _ h812
      obtain ⟨-, -, q0, q1⟩ := HF.out _ (H6.out _ h612).1
      have HC12 := (show Hid _ from HC.out w12.drew (H6.out _ h612).1)
      have HD12 : Hid (Below W11.heap.size W11 w12.drew) := hD12
      have HB8s : Hid (B8 < w12.drew.heap.size) := by
        show B8 < _
        have := h812.size
        omega
      clear HQ11 hb12 hD12 h812 h612 k2 k3 hW11 hBG c0 c1 c2 v0 v1 hs11
      go_wp2_with fail
      go_region_with (first
        | (go_at_call 12; refine Calls.mono HC12.out ?_; rintro e w13 ⟨g3, gp3, hi3, rfl, hb13, hE13, hS13, -⟩; have hD13 := HD12.out.trans (hb13.mono HD12.out.size); have h813 := (HX9.out _ (HX12.out _ hD13)).1; obtain ⟨-, m0, m1, m2, m3, -⟩ := HX8.out _ h813; have HQ13 := (show Hid _ from HQ.out w13 _ _ _ _ m2 m3 hE13 hS13); clear hb13 h813 m2 m3 hE13 hS13)
        | (go_at_call 15; refine Calls.mono HQ13.out ?_; rintro e w14 ⟨rfl, hb14⟩; have HD14 := (show Hid _ from hD13.trans (hb14.mono hD13.size)); clear hb14))
      all_goals
        have HCN14 := (show Hid _ from HCN.out w14 (H6.out _ (HX8.out _ (HX9.out _ (HX12.out _ HD14.out)).1).1).1)
        clear HC12 HQ13 hD13 m0 m1 k0 k1 q0 q1 HQ HD12 HB8s
        go_wp2_with fail
        refine Calls.mono HCN14.out ?_
        rintro e w15 ⟨rfl, hb15, hN15, -⟩
        have hD15 := HD14.out.trans (hb15.mono HD14.out.size)
        have HQN15 := (show Hid _ from HQN.out w15 _ _ (HX9.out _ (HX12.out _ hD15)).2.1 hN15)
        have HD15 := (show Hid _ from hD15)
        clear HCN14 hb15 hN15 hD15 HD14
        go_wp2_with fail
        refine Calls.mono HQN15.out ?_
        rintro e w16 ⟨rfl, hb16⟩
        have hD16 := HD15.out.trans (hb16.mono HD15.out.size)
        have h916 := HX12.out _ hD16
        obtain ⟨h816, -, mN16⟩ := HX9.out _ h916
        obtain ⟨h616, k0, k1, -, -, m5, m6, m7⟩ := HX8.out _ h816
        have HMG16 := (show Hid _ from HMG.out w16 _ _ _ m5 m6 m7)
        have H16 : Hid (Below W11.heap.size W11 w16 ∧ Below w9.heap.size w9 w16 ∧ Below W6.heap.size W6 w16 ∧ Mine w16 gt 0 tl) := ⟨hD16, h916, h616, mN16⟩
        clear HQN15 hb16 hD16 h916 h816 mN16 h616 m5 m6 m7 HD15 HQN HMG
        go_wp2_with fail
        refine Calls.mono HMG16.out ?_
        rintro e w17 ⟨rfl, t17⟩
        have hs16 := H16.out.2.1.size
        have hkb17 : KB (fun b => b < w9.heap.size) W11 w17 := (KB.of H16.out.1).trans (T := fun b => g2 ≤ b ∧ b < gp2 + 1) ⟨t17.1, t17.2.1, t17.2.2.1, t17.2.2.2.1, fun b hb hn => t17.2.2.2.2 b hb (by omega)⟩ (fun b _ hb => by omega)
        have h617 : Below W6.heap.size W6 w17 := H16.out.2.2.1.trans ((t17.below (by have := hM9e.out; have := H16.out.2.1.size; omega)).mono hg6)
        have mN17 : Mine w17 gt 0 tl := mine_block H16.out.2.2.2 t17.2.2.2.1 (t17.2.2.2.2 gt (by omega) (.inr (by omega)))
        have HMN17 := (show Hid _ from HMN.out w17 gt mN17)
        have H17 : Hid (KB (fun b => b < w9.heap.size) W11 w17 ∧ Below W6.heap.size W6 w17) := ⟨hkb17, h617⟩
        clear HMG16 t17 hkb17 h617 mN17 H16 k0 k1 HMN hs16
        go_wp2_with fail
        refine Calls.mono HMN17.out ?_
        rintro e w18 ⟨rfl, g18⟩
        have hkb18 : KB (fun b => b < w9.heap.size) W11 w18 := H17.out.1.grown g18 (fun y hy _ => by cases hy; exact hgtl)
        have h618 : Below W6.heap.size W6 w18 := H17.out.2.grown g18 H17.out.2.size (fun r hr => by cases hr; omega)
        obtain ⟨c0, c1, c2, c3⟩ := HX11.out w18 hkb18
        obtain ⟨-, d0, d1, d2⟩ := H6.out w18 h618
        have HQ18 := (show Hid _ from HQA.out w18 _ _ _ _ c2.read d2)
        have H18 : Hid (AnsI w18 (fun x => w9.heap.size ≤ x ∧ x < BG) (.slice a1 A.1.length ca1) (.slice b1 A.2.length cb1) A ∧ Below W6.heap.size W6 w18 ∧ BG < w18.heap.size) := ⟨c2, h618, c3⟩
        have c0' := c0
        have c1' := c1
        clear HMN17 g18 hkb18 h618 H17 c2 c3 d2
        go_wp2_with fail
        refine Calls.mono HQ18.out ?_
        rintro e w19 ⟨rfl, hb19⟩
        have e0 := (hb19.cell (p := ⟨BG, 0, none⟩) H18.out.2.2).trans c0
        have e1 := (hb19.cell (p := ⟨BG, 1, none⟩) H18.out.2.2).trans c1
        have hA19 : AnsI w19 (fun x => w9.heap.size ≤ x ∧ x < BG) (.slice a1 A.1.length ca1) (.slice b1 A.2.length cb1) A := H18.out.1.map hb19.size (fun b _ hl => hb19.block b hl) (fun _ _ h => h)
        have HMA19 := (show Hid _ from HMA.out w19 _ _ _ hA19)
        have H19 : Hid (Below W6.heap.size W6 w19 ∧ BG < w19.heap.size) := ⟨H18.out.2.1.trans (hb19.mono H18.out.2.1.size), Nat.lt_of_lt_of_le H18.out.2.2 hb19.size⟩
        clear HQ18 hb19 hA19 H18 c0 c1 c0' c1' d0 d1 HMA
        go_wp2_with fail
        refine Calls.mono HMA19.out ?_
        rintro e w20 ⟨rfl, hk20, hH20⟩
        have f0 := (hk20.cell (p := ⟨BG, 0, none⟩) H19.out.2 (by show ¬ (_ ∧ BG < BG); omega)).trans e0
        have f1 := (hk20.cell (p := ⟨BG, 1, none⟩) H19.out.2 (by show ¬ (_ ∧ BG < BG); omega)).trans e1
        have h620 : Below W6.heap.size W6 w20 := H19.out.1.trans ((hk20.below (n := w9.heap.size) (fun x _ h => h.1) (by have := H19.out.2; omega)).mono (by have := hW69.out; omega))
        have HHA20 := (show Hid _ from HHA.out w20 _ _ hH20)
        have H20 : Hid (Below W6.heap.size W6 w20 ∧ BG < w20.heap.size ∧ HeldG w20 (.slice a1 A.1.length ca1) (.slice b1 A.2.length cb1) A ∧ w20.cell? ⟨BG, 0, none⟩ = some (.slice a1 A.1.length ca1) ∧ w20.cell? ⟨BG, 1, none⟩ = some (.slice b1 A.2.length cb1)) := ⟨h620, Nat.lt_of_lt_of_le H19.out.2 hk20.size, hH20, f0, f1⟩
        clear HMA19 hk20 hH20 h620 H19 e0 e1
        go_wp2_with fail
        refine Calls.mono HHA20.out ?_
        rintro e w21 ⟨rfl, hb21⟩
        have h621 := H20.out.1.trans (hb21.mono H20.out.1.size)
        have h121 := (H6.out _ h621).1
        obtain ⟨-, -, q0, q1⟩ := HF.out _ h121
        have HC21 := (show Hid _ from HC.out w21 h121)
        have H21 : Hid (Below w20.heap.size w20 w21) := hb21
        clear HHA20 hb21 h621 h121 f0 f1 HC
        go_wp2_with fail
        refine Calls.mono HC21.out ?_
        rintro e w22 ⟨g4, gp4, hi4, rfl, hb22, hE22, hS22, -⟩
        have hb2022 := H21.out.trans (hb22.mono H21.out.size)
        have HCN22 := (show Hid _ from HCN.out w22 (H6.out _ (H20.out.1.trans (hb2022.mono H20.out.1.size))).1)
        have H22 : Hid (Below w20.heap.size w20 w22 ∧ ESl w22 (some ⟨g4, 0, none⟩) len p ∧ Sl w22 (some ⟨gp4, 0, none⟩) lb l) := ⟨hb2022, hE22, hS22⟩
        clear HC21 hb22 hb2022 hE22 hS22 H21 q0 q1 HCN
        go_wp2_with fail
        refine Calls.mono HCN22.out ?_
        rintro e w23 ⟨rfl, hb23, hN23, -⟩
        have hb2023 := H22.out.1.trans (hb23.mono H22.out.1.size)
        have HI23 := (show Hid _ from HIm.out w23 _ _ _ (HF.out _ (H6.out _ (H20.out.1.trans (hb2023.mono H20.out.1.size))).1).2.1 (H22.out.2.1.keep hb23) (H22.out.2.2.keep hb23) hN23)
        have H23 : Hid (Below w20.heap.size w20 w23) := hb2023
        clear HCN22 hb23 hN23 hb2023 H22 HIm
        go_wp2_with fail
        refine Calls.mono HI23.out ?_
        rintro e w24 ⟨ha, hb', rfl, hA24, hb24⟩
        obtain ⟨a2, ca2, b2, cb2, rfl, rfl, -⟩ := hA24.reads
        have hb2024 := H23.out.trans (hb24.mono H23.out.size)
        obtain ⟨W25, hW25⟩ : ∃ W25, w24.alloc (.cells #[.slice a2 A.1.length ca2, .slice b2 A.2.length cb2] 32) = W25 := ⟨_, rfl⟩
        have hb25 : Below w24.heap.size w24 W25 := by rw [← hW25]; exact (Below.refl _ _).alloc (Nat.le_refl _) _
        have x0 : W25.cell? ⟨w24.heap.size, 0, none⟩ = some (.slice a2 A.1.length ca2) := by rw [← hW25]; simp [go_sem]
        have x1 : W25.cell? ⟨w24.heap.size, 1, none⟩ = some (.slice b2 A.2.length cb2) := by rw [← hW25]; simp [go_sem]
        have hb2025 := hb2024.trans (hb25.mono hb2024.size)
        obtain ⟨-, d0, d1, d2⟩ := H6.out _ (H20.out.1.trans (hb2025.mono H20.out.1.size))
        have HQ25 := (show Hid _ from HQA.out W25 _ _ _ _ (hA24.read.keep hb25) d2)
        have H25 : Hid (Below w20.heap.size w20 W25) := hb2025
        clear HI23 hA24 hb24 hb2024 hb25 hb2025 d2 H23 HQA
        go_wp2_with fail
        (try rw [hW25])
        refine Calls.mono HQ25.out ?_
        rintro e w26 ⟨rfl, hb26⟩
        have hb2026 := H25.out.trans (hb26.mono H25.out.size)
        have y0 := (hb2026.cell (p := ⟨BG, 0, none⟩) H20.out.2.1).trans H20.out.2.2.2.1
        have y1 := (hb2026.cell (p := ⟨BG, 1, none⟩) H20.out.2.1).trans H20.out.2.2.2.2
        have HHA26 := (show Hid _ from HHA.out w26 _ _ (H20.out.2.2.1.keep hb2026))
        have H26 := (show Hid _ from H20.out.1.trans (hb2026.mono H20.out.1.size))
        clear HQ25 hb26 hb2026 H25 H20 d0 d1 x0 x1 hW25 HHA
        go_wp2_with fail
        refine Calls.mono HHA26.out ?_
        rintro e w27 ⟨rfl, hb27⟩
        have HE := (show Hid _ from (HF.out _ (H6.out _ (H26.out.trans (hb27.mono H26.out.size))).1).1)
        clear HHA26 H26 hb27 HF H6 HX8 HX9 HX11 HX12
        go_wp2
        go_ret
        exact ⟨rfl, HE.out⟩
    · rw [if_neg htn] at HZ2
      clear h hl hb1 ht hll hl1 z0 z1 z2 z3 z4 hn hn2 hI hN hIt hsN htn hst
      go_enter Tryd.func4, Tryd.ntmps4
      go_wp2_with fail
      (try rw [hW1])
      refine Calls.mono HZ.out ?_
      rintro e w2 ⟨rfl, hb2⟩
      clear HZ hW1
      go_wp2_with fail
      refine Calls.mono (HZ2.out _) ?_
      rintro e w2' ⟨rfl, rfl⟩
      clear HZ2
      go_wp2
      go_ret
      exact ⟨rfl, (HF.out _ hb2).1⟩
end Go.Proofs.YtfpkeikmfcddjaaDoor
