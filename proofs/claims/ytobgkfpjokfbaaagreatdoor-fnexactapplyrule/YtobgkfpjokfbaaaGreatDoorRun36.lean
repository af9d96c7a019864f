/-
  PROVED HERE: what the model's and the program's GoodRule answer, at every two lists of nodes, in a world whose table of arities is laid. No other condition. what ApplyRule says, plainly: where a rule's left side is matched, its right side is put with that bind, and the class of the match is merged with the class that comes. No condition. what the program's InstOf answers, at every graph, list of nodes and bind, in a world whose table of arities is laid. No other condition.
-/
import Derived.Test.YtobgkfpjokfbaaaGreatDoorRun26
import Derived.Test.YtobgkfpjokfbaaaGreatDoorRun27
import Derived.Test.YtobgkfpjokfbaaaGreatDoorRun35
import Derived.Test.YtobgkfpjokfbaaaGreatDoorRun23
import Derived.Test.YtobgkfpjokfbaaaGreatDoorRun25
import Derived.Test.YtobgkfpjokfbaaaGreatDoorRun18
namespace Go.Proofs.YtobgkfpjokfbaaaGreatDoor
open Go.ChangeShapes Go.WideShapes Go.ChangeAt Go.RowKit
set_option linter.unusedVariables false

/-- A good rule. -/
def ruleB (p q : List (Int × Int)) : Bool := patB p && patB q
theorem specRule_any (a b : Option Addr) (len cap lb cb : Nat) (p q : List (Int × Int)) (w : World) (h : NSl w a len p) (hl : NSl w b lb q) (hm : len ≤ 9223372036854775807) (hm2 : lb ≤ 9223372036854775807) :
    Calls Tryz.prog 22 #[.agg #[.slice a len cap, .slice b lb cb]] w fun e w' => e = .returned (.bool (ruleB p q)) ∧ Below w.heap.size w w' := by
  obtain ⟨W1, hW1⟩ : ∃ W1, w.alloc (.cells #[.slice a len cap, .slice b lb cb] 42) = W1 := ⟨_, rfl⟩
  have hb1 : Below w.heap.size w W1 := by rw [← hW1]; exact (Below.refl _ _).alloc (Nat.le_refl _) _
  have n0 : W1.cell? ⟨w.heap.size, 0, none⟩ = some (.slice a len cap) := by rw [← hW1]; simp [go_sem]
  have n1 : W1.cell? ⟨w.heap.size, 1, none⟩ = some (.slice b lb cb) := by rw [← hW1]; simp [go_sem]
  have hs1 : w.heap.size < W1.heap.size := by rw [← hW1]; simp
  have HB : Hid (∀ W, Below W1.heap.size W1 W → Below w.heap.size w W) := fun W hW => hb1.trans (hW.mono hb1.size)
  have HP := (show Hid _ from specPat_any a len cap p W1 (h.keep hb1) hm)
  have HQ : Hid (∀ W, Below W1.heap.size W1 W → Calls Tryz.prog 41 #[.slice b lb cb] W fun e w' => e = .returned (.bool (patB q)) ∧ Below W.heap.size W w') := fun W hW => specPat_any b lb cb q W ((hl.keep hb1).keep hW) hm2
  unfold ruleB
  generalize patB p = P at HP ⊢
  generalize patB q = Q at HQ ⊢
  clear h hl hb1
  cases P
  · rw [Bool.false_and]
    go_enter Tryz.func22, Tryz.ntmps22
    go_wp2_with fail
    (try rw [hW1])
    refine Calls.mono HP.out ?_
    rintro e w2 ⟨rfl, hb2⟩
    have HB2 := (show Hid _ from HB.out _ hb2)
    clear HP hW1
    go_wp2
    go_ret
    exact ⟨rfl, HB2.out⟩
  · rw [Bool.true_and]
    go_enter Tryz.func22, Tryz.ntmps22
    go_wp2_with fail
    (try rw [hW1])
    refine Calls.mono HP.out ?_
    rintro e w2 ⟨rfl, hb2⟩
    have q1 := (hb2.cell (p := ⟨w.heap.size, 1, none⟩) hs1).trans n1
    clear HP hW1
    go_wp2_with fail
    refine Calls.mono (HQ.out _ hb2) ?_
    rintro e w3 ⟨rfl, hb3⟩
    have HB3 := (show Hid _ from HB.out _ (hb2.trans (hb3.mono hb2.size)))
    clear hb2 hb3
    go_wp2
    go_ret
    exact ⟨rfl, HB3.out⟩
theorem implRule_any (a b : Option Addr) (len cap lb cb : Nat) (p q : List (Int × Int)) (w : World) (ht : Tab w) (h : NSl w a len p) (hl : NSl w b lb q) (hm : len ≤ 9223372036854775807) (hm2 : lb ≤ 9223372036854775807) :
    Calls Tryz.prog 29 #[.agg #[.slice a len cap, .slice b lb cb]] w fun e w' => e = .returned (.bool (ruleB p q)) ∧ Below w.heap.size w w' := by
  obtain ⟨W1, hW1⟩ : ∃ W1, w.alloc (.cells #[.slice a len cap, .slice b lb cb] 42) = W1 := ⟨_, rfl⟩
  have hb1 : Below w.heap.size w W1 := by rw [← hW1]; exact (Below.refl _ _).alloc (Nat.le_refl _) _
  have n0 : W1.cell? ⟨w.heap.size, 0, none⟩ = some (.slice a len cap) := by rw [← hW1]; simp [go_sem]
  have n1 : W1.cell? ⟨w.heap.size, 1, none⟩ = some (.slice b lb cb) := by rw [← hW1]; simp [go_sem]
  have hs1 : w.heap.size < W1.heap.size := by rw [← hW1]; simp
  have HB : Hid (∀ W, Below W1.heap.size W1 W → Below w.heap.size w W) := fun W hW => hb1.trans (hW.mono hb1.size)
  have HP := (show Hid _ from implPat_any a len cap p W1 (ht.keeps hb1) (h.keep hb1) hm)
  have HQ : Hid (∀ W, Below W1.heap.size W1 W → Calls Tryz.prog 52 #[.slice b lb cb] W fun e w' => e = .returned (.bool (patB q)) ∧ Below W.heap.size W w') := fun W hW => implPat_any b lb cb q W ((ht.keeps hb1).keeps hW) ((hl.keep hb1).keep hW) hm2
  unfold ruleB
  generalize patB p = P at HP ⊢
  generalize patB q = Q at HQ ⊢
  clear h hl hb1 ht
  cases P
  · rw [Bool.false_and]
    go_enter Tryz.func29, Tryz.ntmps29
    go_wp2_with fail
    (try rw [hW1])
    refine Calls.mono HP.out ?_
    rintro e w2 ⟨rfl, hb2⟩
    have HB2 := (show Hid _ from HB.out _ hb2)
    clear HP hW1
    go_wp2
    go_ret
    exact ⟨rfl, HB2.out⟩
  · rw [Bool.true_and]
    go_enter Tryz.func29, Tryz.ntmps29
    go_wp2_with fail
    (try rw [hW1])
    refine Calls.mono HP.out ?_
    rintro e w2 ⟨rfl, hb2⟩
    have q1 := (hb2.cell (p := ⟨w.heap.size, 1, none⟩) hs1).trans n1
    clear HP hW1
    go_wp2_with fail
    refine Calls.mono (HQ.out _ hb2) ?_
    rintro e w3 ⟨rfl, hb3⟩
    have HB3 := (show Hid _ from HB.out _ (hb2.trans (hb3.mono hb2.size)))
    clear hb2 hb3
    go_wp2
    go_ret
    exact ⟨rfl, HB3.out⟩
end Go.Proofs.YtobgkfpjokfbaaaGreatDoor
namespace Go.Proofs.YtobgkfpjokfbaaaGreatDoor
open Go.ChangeShapes Go.WideShapes Go.ChangeAt Go.RowKit
set_option linter.unusedVariables false

def appOk (p : List EN) (l : List Int) (s t : List (Int × Int)) (c : Int) (bs : List Int) : Bool := isM p l s c bs && ruleB s t && (instT p l t bs).isSome
def appR (p : List EN) (l : List Int) (s t : List (Int × Int)) (c : Int) (bs : List Int) : GS := if appOk p l s t c bs = true then mergeR (ansG (instT p l t bs)).1 (ansG (instT p l t bs)).2 c (ansC (instT p l t bs)) else ([], [])
theorem isM_ask {p : List EN} {l : List Int} {s : List (Int × Int)} {c : Int} {bs : List Int} (h : isM p l s c bs = true) : graphB p l = true ∧ patB s = true ∧ clB l c = true ∧ bindB l bs = true := by
  unfold isM askB at h
  simp only [Bool.and_eq_true] at h
  obtain ⟨⟨⟨⟨h1, h2⟩, h3⟩, h4⟩, -⟩ := h
  exact ⟨h1, h2, h3, h4⟩
theorem instT_class {p : List EN} {l bs : List Int} {t : List (Int × Int)} {r : GS × Int} (h : instT p l t bs = some r) : GoodG r.1 ∧ r.1.1.length ≤ 120 ∧ IsCl r.1 r.2 ∧ (∀ c, IsCl (p, l) c → IsCl r.1 c) := by
  unfold instT at h
  by_cases hc : (graphB p l && patB t && bindB l bs && boundB t bs) = true
  · rw [if_pos hc] at h
    simp only [Bool.and_eq_true] at hc
    obtain ⟨⟨⟨c1, c2⟩, c3⟩, c4⟩ := hc
    have hgt : goodB t = true := by unfold patB at c2; simp only [Bool.and_eq_true] at c2; exact c2.1
    obtain ⟨hp, ht1, ht40⟩ := good_pile hgt
    have hgood := ((graphB_good p l).1 c1).2
    have hr := runA_good (b := some bs) t (p, l) [] 1 hp hgood (fun c hc => by cases hc) (bind_cl hgood c3 hgt c4)
    have hlen := (runA_frame (some bs) [] t (p, l) [] 1 hp).2
    unfold roomA at h
    by_cases h0 : (runA (some bs) t ((p, l), [])).1.1.length ≤ 120
    · rw [if_pos h0] at h
      cases h
      refine ⟨hr.1, h0, ?_, hr.2.2.1⟩
      have h1 : (runA (some bs) t ((p, l), [])).2.length = 1 := by omega
      refine hr.2.1 _ ?_
      rw [List.getD_eq_getElem?_getD, List.getElem?_eq_getElem (by omega)]
      exact List.getElem_mem _
    · rw [if_neg h0] at h; cases h
  · rw [if_neg hc] at h; cases h
theorem isCl_has {g : GS} (hg : GoodG g) {c : Int} (h : IsCl g c) : hasB g.2 c = true := by
  have := (isCl_iff hg c).2 h
  unfold clB at this
  simp only [Bool.and_eq_true] at this
  exact this.1
/-- Where the right side could be put, the classes can be merged. -/
theorem app_merge {p : List EN} {l bs : List Int} {s t : List (Int × Int)} {c : Int} {r : GS × Int} (h : isM p l s c bs = true) (hi : instT p l t bs = some r) : mergeOk r.1.1 r.1.2 c r.2 = true := by
  obtain ⟨h1, h2, h3, h4⟩ := isM_ask h
  obtain ⟨i1, i2, i3, i4⟩ := instT_class hi
  have hg0 := ((graphB_good p l).1 h1).2
  unfold mergeOk
  rw [graphB_of i1, decide_eq_true i2, isCl_has i1 (i4 c ((isCl_iff hg0 c).1 h3)), isCl_has i1 i3]; rfl
/-- The bind of a match names classes as they are. -/
theorem bind_now {l bs : List Int} (h : bindB l bs = true) : bs.map (fun k => if 0 ≤ k then l.getD k.toNat 0 else k) = bs := by
  have : ∀ c ∈ bs, (if 0 ≤ c then l.getD c.toNat 0 else c) = c := fun c hc => by
    rcases bindB_each h c hc with e | e
    · subst e; rfl
    · unfold clB at e
      simp only [Bool.and_eq_true, beq_iff_eq] at e
      by_cases h0 : 0 ≤ c
      · rw [if_pos h0]; exact e.2
      · rw [if_neg h0]
  exact (List.map_congr_left this).trans (List.map_id _)
end Go.Proofs.YtobgkfpjokfbaaaGreatDoor
namespace Go.Proofs.YtobgkfpjokfbaaaGreatDoor
open Go.ChangeShapes Go.WideShapes Go.ChangeAt Go.RowKit
set_option linter.unusedVariables false

theorem instT_few {p : List EN} {l bs : List Int} {t : List (Int × Int)} {r : GS × Int} (h : instT p l t bs = some r) : 0 < r.1.1.length := by
  unfold instT at h
  by_cases hc : (graphB p l && patB t && bindB l bs && boundB t bs) = true
  · rw [if_pos hc] at h
    simp only [Bool.and_eq_true] at hc
    obtain ⟨⟨⟨c1, c2⟩, c3⟩, c4⟩ := hc
    have hgt : goodB t = true := by unfold patB at c2; simp only [Bool.and_eq_true] at c2; exact c2.1
    obtain ⟨hp, ht1, ht40⟩ := good_pile hgt
    have hgood := ((graphB_good p l).1 c1).2
    have hr := runA_good (b := some bs) t (p, l) [] 1 hp hgood (fun c hc => by cases hc) (bind_cl hgood c3 hgt c4)
    have hfr := (runA_frame (some bs) [] t (p, l) [] 1 hp).2
    unfold roomA at h
    by_cases h0 : (runA (some bs) t ((p, l), [])).1.1.length ≤ 120
    · rw [if_pos h0] at h
      cases h
      have hlen : (runA (some bs) t ((p, l), [])).2.length = 1 := by omega
      have hmem : (runA (some bs) t ((p, l), [])).2.getD 0 0 ∈ (runA (some bs) t ((p, l), [])).2 := by rw [getI_lt (by omega)]; exact List.getElem_mem _
      have := (hr.2.1 _ hmem)
      have h1 := this.1
      have h2 := this.2.1
      show 0 < (runA (some bs) t ((p, l), [])).1.1.length
      omega
    · rw [if_neg h0] at h; cases h
  · rw [if_neg hc] at h; cases h
set_option maxHeartbeats 3200000 in
set_option maxRecDepth 20000 in
theorem implInstOf_any (a b : Option Addr) (len cap lb cb : Nat) (p : List EN) (l : List Int) (ta : Option Addr) (tl tc : Nat) (t : List (Int × Int)) (ba : Option Addr) (bl bc : Nat) (bs : List Int) (w : World) (hT : Tab w) (h : ESl w a len p) (hl : Sl w b lb l) (ht : NSl w ta tl t) (hv : Sl w ba bl bs) (hI : InE p) (hIt : ∀ k, k < t.length → InI (t.getD k (0, 0)).2) (hm2 : lb ≤ 9223372036854775807) (hm3 : tl ≤ 9223372036854775807) (hm4 : bl ≤ 9223372036854775807) :
    Calls Tryz.prog 30 #[.agg #[.slice a len cap, .slice b lb cb], .slice ta tl tc, .slice ba bl bc] w fun e w' => ∃ va vb, e = .returned (.tuple #[.agg #[va, vb], .int .i64 (ansC (instT p l t bs)), .bool (instT p l t bs).isSome]) ∧ AnsI w' (fun x => w.heap.size ≤ x) va vb (ansG (instT p l t bs)) ∧ Below w.heap.size w w' := by
  have hll := h.1
  have htl := ht.1
  have hvl := hv.1
  have hmf : ∀ (fn : Fn) (first cap : Array Value) (w : World), (Instr.makeFunc fn first cap).run Tryz.prog w = .ok (.func fn first cap) w := fun _ _ _ _ => rfl
  obtain ⟨W1, hW1⟩ : ∃ W1, (w.alloc (.cells #[.slice a len cap, .slice b lb cb] 36)).alloc (.cells #[.slice none 0 0, .slice none 0 0] 36) = W1 := ⟨_, rfl⟩
  have hb1 : Below w.heap.size w W1 := by rw [← hW1]; exact ((Below.refl _ _).alloc (Nat.le_refl _) _).alloc (by simp) _
  have hs1 : W1.heap.size = w.heap.size + 2 := by rw [← hW1]; simp
  have n0 : W1.cell? ⟨w.heap.size, 0, none⟩ = some (.slice a len cap) := by rw [← hW1]; simp [go_sem]
  have n1 : W1.cell? ⟨w.heap.size, 1, none⟩ = some (.slice b lb cb) := by rw [← hW1]; simp [go_sem]
  have r0 : W1.cell? ⟨w.heap.size + 1, 0, none⟩ = some (.slice none 0 0) := by rw [← hW1]; simp [go_sem]
  have r1 : W1.cell? ⟨w.heap.size + 1, 1, none⟩ = some (.slice none 0 0) := by rw [← hW1]; simp [go_sem]
  have f0 : W1.frozen? ⟨w.heap.size + 1, 0, none⟩ = false := by rw [← hW1]; simp [go_sem]
  have f1 : W1.frozen? ⟨w.heap.size + 1, 1, none⟩ = false := by rw [← hW1]; simp [go_sem]
  have HG := (show Hid _ from implGraph_any a b len cap lb cb p l W1 (hT.keeps hb1) (h.keep hb1) (hl.keep hb1) hm2 hI)
  have HGt : Hid (∀ W, Below W1.heap.size W1 W → Calls Tryz.prog 52 #[.slice ta tl tc] W fun e w' => e = .returned (.bool (patB t)) ∧ Below W.heap.size W w') := fun W hW => implPat_any ta tl tc t W ((hT.keeps hb1).keeps hW) ((ht.keep hb1).keep hW) hm3
  have HC : Hid (∀ W, Below W1.heap.size W1 W → (W.cell? ⟨w.heap.size, 0, none⟩ = some (.slice a len cap) ∧ W.cell? ⟨w.heap.size, 1, none⟩ = some (.slice b lb cb)) ∧ (W.cell? ⟨w.heap.size + 1, 0, none⟩ = some (.slice none 0 0) ∧ W.cell? ⟨w.heap.size + 1, 1, none⟩ = some (.slice none 0 0) ∧ W.frozen? ⟨w.heap.size + 1, 0, none⟩ = false ∧ W.frozen? ⟨w.heap.size + 1, 1, none⟩ = false) ∧ ∀ v0 v1, Below w.heap.size w ((W.setCell ⟨w.heap.size + 1, 0, none⟩ v0).setCell ⟨w.heap.size + 1, 1, none⟩ v1)) := fun W hW => by
    have hX := hb1.trans (hW.mono hb1.size)
    exact ⟨⟨(hW.cell (p := ⟨w.heap.size, 0, none⟩) (by show w.heap.size < _; omega)).trans n0, (hW.cell (p := ⟨w.heap.size, 1, none⟩) (by show w.heap.size < _; omega)).trans n1⟩, ⟨(hW.cell (p := ⟨w.heap.size + 1, 0, none⟩) (by show w.heap.size + 1 < _; omega)).trans r0, (hW.cell (p := ⟨w.heap.size + 1, 1, none⟩) (by show w.heap.size + 1 < _; omega)).trans r1, (hW.frozen (p := ⟨w.heap.size + 1, 0, none⟩) (by show w.heap.size + 1 < _; omega)).trans f0, (hW.frozen (p := ⟨w.heap.size + 1, 1, none⟩) (by show w.heap.size + 1 < _; omega)).trans f1⟩, fun v0 v1 => (hX.setCell (by show w.heap.size ≤ w.heap.size + 1; omega) _).setCell (by show w.heap.size ≤ w.heap.size + 1; omega) _⟩
  cases hgb : graphB p l with
  | false =>
    have hno : instT p l t bs = none := by unfold instT; rw [hgb]; rfl
    rw [hno]
    rw [hgb] at HG
    clear h hl ht hv hb1 hT HGt hs1 r0 r1 f0 f1
    go_enter Tryz.func30, Tryz.ntmps30
    go_wp2_with fail
    (try rw [hW1])
    refine Calls.mono HG.out ?_
    rintro e w2 ⟨rfl, hb2⟩
    obtain ⟨-, ⟨y0, y1, y2, y3⟩, hfin⟩ := HC.out w2 hb2
    have HF := (show Hid _ from hfin)
    clear HG hW1 HC hb2 hfin
    go_wp2
    refine bodyPost_ret (v := .tuple #[.agg #[.slice none 0 0, .slice none 0 0], .int .i64 0, .bool false]) ?_ ?_ ?_
    · simp [results, Tryz.results30, go_sem, *]
    · rfl
    · exact ⟨_, _, rfl, .inl ⟨rfl, rfl, rfl⟩, HF.out _ _⟩
  | true =>
    rw [hgb] at HG
    cases hgt : patB t with
    | false =>
      have hno : instT p l t bs = none := by unfold instT; rw [hgb, hgt]; rfl
      rw [hno]
      rw [hgt] at HGt
      clear h hl ht hv hb1 hT hs1 r0 r1 f0 f1
      go_enter Tryz.func30, Tryz.ntmps30
      go_wp2_with fail
      (try rw [hW1])
      refine Calls.mono HG.out ?_
      rintro e w2 ⟨rfl, hb2⟩
      have HT2 := (show Hid _ from HGt.out w2 hb2)
      have HB2 := (show Hid _ from hb2)
      clear HG hW1 HGt hb2
      go_wp2_with fail
      refine Calls.mono HT2.out ?_
      rintro e w3 ⟨rfl, hb3⟩
      obtain ⟨-, ⟨y0, y1, y2, y3⟩, hfin⟩ := HC.out w3 (HB2.out.trans (hb3.mono HB2.out.size))
      have HF := (show Hid _ from hfin)
      clear HT2 HC hb3 hfin
      go_wp2
      refine bodyPost_ret (v := .tuple #[.agg #[.slice none 0 0, .slice none 0 0], .int .i64 0, .bool false]) ?_ ?_ ?_
      · simp [results, Tryz.results30, go_sem, *]
      · rfl
      · exact ⟨_, _, rfl, .inl ⟨rfl, rfl, rfl⟩, HF.out _ _⟩
    | true =>
      rw [hgt] at HGt
      obtain ⟨h120, hgood⟩ := (graphB_good p l).1 hgb
      have hgT : goodB t = true := by unfold patB at hgt; simp only [Bool.and_eq_true] at hgt; exact hgt.1
      obtain ⟨hp, ht1, ht40⟩ := good_pile hgT
      have hlp := hgood.2.1
      simp only at hlp
      have hl1 := hl.1
      obtain rfl : lb = len := by omega
      have HV : Hid (∀ W, Below W1.heap.size W1 W → Calls Tryz.prog 54 #[.agg #[.slice a lb cap, .slice b lb cb], .slice ba bl bc] W fun e w' => e = .returned (.bool (bindB l bs)) ∧ Below W.heap.size W w') := fun W hW => implBind_any a b ba lb cap cb bl bc l bs W ((hl.keep hb1).keep hW) ((hv.keep hb1).keep hW) (by omega) hm4
      cases hbb : bindB l bs with
      | false =>
        have hno : instT p l t bs = none := by unfold instT; rw [hgb, hgt, hbb]; rfl
        rw [hno]
        rw [hbb] at HV
        clear h hl ht hv hb1 hT hs1 r0 r1 f0 f1 hgood hp hgb hgt hgT hI hIt hlp hl1
        go_enter Tryz.func30, Tryz.ntmps30
        go_wp2_with fail
        (try rw [hW1])
        refine Calls.mono HG.out ?_
        rintro e w2 ⟨rfl, hb2⟩
        have HT2 := (show Hid _ from HGt.out w2 hb2)
        have HB2 := (show Hid _ from hb2)
        clear HG hW1 HGt hb2
        go_wp2_with fail
        refine Calls.mono HT2.out ?_
        rintro e w3 ⟨rfl, hb3⟩
        have hB3 := HB2.out.trans (hb3.mono HB2.out.size)
        obtain ⟨⟨g0, g1⟩, -, -⟩ := HC.out w3 hB3
        have HV3 := (show Hid _ from HV.out w3 hB3)
        have HB3 := (show Hid _ from hB3)
        clear HT2 hb3 HB2 HV hB3
        go_wp2_with fail
        refine Calls.mono HV3.out ?_
        rintro e w4 ⟨rfl, hb4⟩
        obtain ⟨-, ⟨y0, y1, y2, y3⟩, hfin⟩ := HC.out w4 (HB3.out.trans (hb4.mono HB3.out.size))
        have HF := (show Hid _ from hfin)
        clear HV3 HC hb4 hfin HB3 g0 g1
        go_wp2
        refine bodyPost_ret (v := .tuple #[.agg #[.slice none 0 0, .slice none 0 0], .int .i64 0, .bool false]) ?_ ?_ ?_
        · simp [results, Tryz.results30, go_sem, *]
        · rfl
        · exact ⟨_, _, rfl, .inl ⟨rfl, rfl, rfl⟩, HF.out _ _⟩
      | true =>
        rw [hbb] at HV
        obtain ⟨tb, tof, rfl, htb, _⟩ := ht.at (by omega)
        have hb4 := bindB_len hbb
        obtain rfl : bl = 4 := by omega
        obtain ⟨vb, vo, rfl, hvb, hvc⟩ : ∃ b off, ba = some ⟨b, off, none⟩ ∧ b < w.heap.size ∧ ∀ i, i < 4 → w.cell? ⟨b, off + i, none⟩ = some (.int .i64 (bs.getD i 0)) := by
          rcases hv.2 with h0 | h0
          · omega
          · exact h0
        have hgd := @instT_good p l bs t
        have hfw := @instT_few p l bs t
        rw [instT_run hgb hgt hbb] at hgd hfw ⊢
        have hcl : ∀ c ∈ bs, c = -1 ∨ IsCl (p, l) c := fun c hc => by
          rcases bindB_each hbb c hc with h | h
          · exact .inl h
          · exact .inr ((isCl_iff hgood c).1 h)
        have HS : Hid (∀ W, Below W1.heap.size W1 W → Calls Tryz.prog 57 #[.agg #[.slice a lb cap, .slice b lb cb]] W fun e w' => ∃ s m, e = .returned (.pointer (some ⟨s, 0, none⟩)) ∧ Shelf w' (fun b => W.heap.size ≤ b) s m (p, l) ∧ Below W.heap.size W w') := fun W hW => shelfOf_any a b lb cap cb p l W ((h.keep hb1).keep hW) ((hl.keep hb1).keep hW) hgood (by omega) hI
        have HCl : Hid (∀ (W3 W4 W : World) (s m : Nat), Below W1.heap.size W1 W3 → Below W3.heap.size W3 W4 → Shelf W4 (fun b => W3.heap.size ≤ b) s m (p, l) → Below W4.heap.size W4 W → W.heap.size = W4.heap.size + 2 → W.cell? ⟨W4.heap.size, 0, none⟩ = some (.slice (some ⟨vb, vo, none⟩) 4 bc) → W.cell? ⟨W4.heap.size + 1, 0, none⟩ = some (.func (.func 59) #[.pointer (some ⟨s, 0, none⟩)] #[]) → Calls Tryz.prog 55 #[.slice (some ⟨tb, tof, none⟩) tl tc, .func (.func 82) #[] #[.pointer (some ⟨W4.heap.size, 0, none⟩), .pointer (some ⟨W4.heap.size + 1, 0, none⟩)]] W fun e w' => e = .returned (.tuple #[.int .i64 (((runO (clsBp bs) t ((p, l), [])).map (fun r => r.2.getD 0 0)).getD 0), .bool (runO (clsBp bs) t ((p, l), [])).isSome]) ∧ Below W3.heap.size W3 w' ∧ AllR (runO (clsBp bs) t ((p, l), [])) (fun g' => Shelf w' (fun b => W3.heap.size ≤ b) s m g')) := fun W3 W4 W s m h13 h34 hSh h4W hsz hc0 hc1 => by
          have h3W := h34.trans (h4W.mono h34.size)
          have hB := h13.trans (h3W.mono h13.size)
          have z1 := h13.size
          have z2 := h34.size
          have hSB : ShelfB W.heap.size s m W4.heap.size (W4.heap.size + 1) vb vo bc (.func (.func 59) #[.pointer (some ⟨s, 0, none⟩)] #[]) bs W (fun b => W3.heap.size ≤ b) (p, l) := by
            refine ⟨fun b => W3.heap.size ≤ b ∧ b < W4.heap.size, hSh.map h4W.size (fun b _ hl => h4W.block b hl) (fun b hl h => ⟨h, hl⟩), fun b hb => ?_, ⟨hc0, hc1, fun i hi => ?_, ⟨by omega, by omega, by omega⟩, Nat.le_refl _⟩, hcl⟩
            · have h1 := hb.1
              have h2 := hb.2
              exact ⟨by omega, h1, by omega, by omega, by omega⟩
            · exact ((hb1.trans (hB.mono hb1.size)).cell (p := ⟨vb, vo + i, none⟩) hvb).trans (hvc i hi)
          refine (clsW_any W4.heap.size (W4.heap.size + 1) W.heap.size dflB (clsBp bs) (clsBp_keeps bs) (fun W' S g => ShelfB W.heap.size s m W4.heap.size (W4.heap.size + 1) vb vo bc (.func (.func 59) #[.pointer (some ⟨s, 0, none⟩)] #[]) bs W' S g) (fun W W' S S' g hR hs hk hN hS => hR.map hs hk hN hS) (fun W' S g n a m' cap kids hR hg h120 hk ha hf => withPut_any W.heap.size s m W4.heap.size (W4.heap.size + 1) vb vo bc bs hb4 W' S g n a m' cap kids hR hg h120 hk ha hf) hp hIt tb tof tl tc (by omega) (by omega) W (fun b => W3.heap.size ≤ b) (p, l) ((ht.keep hb1).keep hB) hSB hgood h120 (by omega) (Nat.le_refl _) (fun W' hW' => ?_)).mono ?_
          · have hb3 : Below W3.heap.size W3 W' := h3W.trans (hW'.below (fun x _ h => h) h3W.size)
            exact ((hT.keeps hb1).keeps h13).keeps hb3
          · rintro e w' ⟨h1, h2, h3⟩
            refine ⟨h1, h3W.trans (h2.below (fun x _ h => h) h3W.size), fun r hr => ?_⟩
            obtain ⟨S0, k1, k2, -⟩ := h3 r hr
            refine k1.sets (fun b _ hb => ?_)
            rcases (k2 b hb).2.1 with h | h
            · exact h
            · have := h3W.size; omega
        have HW1 : Hid (W1.heap.size = w.heap.size + 2) := hs1
        clear h hl ht hv hb1 hT hgood hp hgb hgt hgT hbb hcl hvc hI hIt hlp hl1 htb hs1 r0 r1 f0 f1 h120 hb4 hvb hvl
        cases hO : runO (clsBp bs) t ((p, l), []) with
        | none =>
          rw [hO] at HCl
          simp only [Option.map_none, Option.getD_none, Option.isSome_none] at HCl
          have HTo : Hid (∀ W v, Calls Tryz.prog 60 #[v, .int .i64 0, .bool false] W fun e w' => e = .returned (.tuple #[.agg #[.slice none 0 0, .slice none 0 0], .int .i64 0, .bool false]) ∧ Below W.heap.size W w') := fun W v => told_no v 0 W
          clear hgd hfw hO
          go_enter Tryz.func30, Tryz.ntmps30
          go_wp2_with fail
          (try rw [hW1])
          refine Calls.mono HG.out ?_
          rintro e w2 ⟨rfl, hb2⟩
          have HT2 := (show Hid _ from HGt.out w2 hb2)
          have HB2 := (show Hid _ from hb2)
          clear HG hW1 HGt hb2
          go_wp2_with fail
          refine Calls.mono HT2.out ?_
          rintro e w3 ⟨rfl, hb3⟩
          have hB3 := HB2.out.trans (hb3.mono HB2.out.size)
          obtain ⟨⟨g0, g1⟩, -, -⟩ := HC.out w3 hB3
          have HV3 := (show Hid _ from HV.out w3 hB3)
          have HB3' := (show Hid _ from hB3)
          clear HT2 hb3 HB2 HV hB3
          go_wp2_with fail
          refine Calls.mono HV3.out ?_
          rintro e w4 ⟨rfl, hb4⟩
          have hB4 := HB3'.out.trans (hb4.mono HB3'.out.size)
          clear g0 g1
          obtain ⟨⟨g0, g1⟩, -, -⟩ := HC.out w4 hB4
          have HS4 := (show Hid _ from HS.out w4 hB4)
          have HB3 := (show Hid _ from hB4)
          clear HV3 hb4 HB3' HS hB4
          go_wp2_with fail
          refine Calls.mono HS4.out ?_
          rintro e w5 ⟨s, m, rfl, hSh, hb5⟩
          have HW5 := (show Hid _ from withBind_any (some ⟨vb, vo, none⟩) 4 bc (.func 59) #[.pointer (some ⟨s, 0, none⟩)] #[] w5)
          have HC5 := (show Hid _ from HCl.out w4 w5)
          have HH5 := (show Hid _ from And.intro hSh hb5)
          clear HS4 HCl hSh hb5 g0 g1
          go_wp2_with fail
          refine Calls.mono HW5.out ?_
          rintro e w6 ⟨rfl, hb6, hz6, hx6, hy6⟩
          have HC6 := (show Hid _ from HC5.out w6 s m HB3.out HH5.out.2 HH5.out.1 hb6 hz6 hx6 hy6)
          clear HW5 HC5 HH5 hb6 hz6 hx6 hy6
          go_wp2_with fail
          refine Calls.mono HC6.out ?_
          rintro e w7 ⟨rfl, hb7, -⟩
          have HB7 := (show Hid _ from HB3.out.trans (hb7.mono HB3.out.size))
          clear HC6 hb7 HB3
          go_wp2_with fail
          refine Calls.mono (HTo.out _ _) ?_
          rintro e w8 ⟨rfl, hb8⟩
          obtain ⟨-, ⟨y0, y1, y2, y3⟩, hfin⟩ := HC.out w8 (HB7.out.trans (hb8.mono HB7.out.size))
          have HF := (show Hid _ from hfin)
          clear HTo HC hb8 hfin HB7
          go_wp2
          refine bodyPost_ret (v := .tuple #[.agg #[.slice none 0 0, .slice none 0 0], .int .i64 0, .bool false]) ?_ ?_ ?_
          · simp [results, Tryz.results30, go_sem, *]
          · rfl
          · exact ⟨_, _, rfl, .inl ⟨rfl, rfl, rfl⟩, HF.out _ _⟩
        | some r =>
          rw [hO] at HCl hgd hfw
          simp only [Option.map_some, Option.getD_some, Option.isSome_some] at HCl
          obtain ⟨d1, d3⟩ := hgd (r := (r.1, r.2.getD 0 0)) rfl
          have d2 := hfw (r := (r.1, r.2.getD 0 0)) rfl
          simp only at d1 d2 d3
          have HD : Hid (GoodG r.1 ∧ 0 < r.1.1.length ∧ r.1.1.length ≤ 120) := ⟨d1, d2, d3⟩
          have e1 : ansC (Option.map (fun r => (r.1, r.2.getD 0 0)) (some r)) = r.2.getD 0 0 := rfl
          have e2 : ansG (Option.map (fun r => (r.1, r.2.getD 0 0)) (some r)) = r.1 := rfl
          have e3 : (Option.map (fun r : GS × List Int => (r.1, r.2.getD 0 0)) (some r)).isSome = true := rfl
          rw [e1, e2, e3]
          obtain ⟨C, hCr⟩ : ∃ C, r.2.getD 0 0 = C := ⟨_, rfl⟩
          rw [hCr] at HCl ⊢
          obtain ⟨rg, rq⟩ := r
          simp only at HD ⊢
          clear hgd hfw hO d1 d2 d3 e1 e2 e3 hCr
          go_enter Tryz.func30, Tryz.ntmps30
          go_wp2_with fail
          (try rw [hW1])
          refine Calls.mono HG.out ?_
          rintro e w2 ⟨rfl, hb2⟩
          have HT2 := (show Hid _ from HGt.out w2 hb2)
          have HB2 := (show Hid _ from hb2)
          clear HG hW1 HGt hb2
          go_wp2_with fail
          refine Calls.mono HT2.out ?_
          rintro e w3 ⟨rfl, hb3⟩
          have hB3 := HB2.out.trans (hb3.mono HB2.out.size)
          obtain ⟨⟨g0, g1⟩, -, -⟩ := HC.out w3 hB3
          have HV3 := (show Hid _ from HV.out w3 hB3)
          have HB3' := (show Hid _ from hB3)
          clear HT2 hb3 HB2 HV hB3
          go_wp2_with fail
          refine Calls.mono HV3.out ?_
          rintro e w4 ⟨rfl, hb4⟩
          have hB4 := HB3'.out.trans (hb4.mono HB3'.out.size)
          clear g0 g1
          obtain ⟨⟨g0, g1⟩, -, -⟩ := HC.out w4 hB4
          have HS4 := (show Hid _ from HS.out w4 hB4)
          have HB3 := (show Hid _ from hB4)
          clear HV3 hb4 HB3' HS hB4
          go_wp2_with fail
          refine Calls.mono HS4.out ?_
          rintro e w5 ⟨s, m, rfl, hSh, hb5⟩
          have HW5 := (show Hid _ from withBind_any (some ⟨vb, vo, none⟩) 4 bc (.func 59) #[.pointer (some ⟨s, 0, none⟩)] #[] w5)
          have HC5 := (show Hid _ from HCl.out w4 w5)
          have HH5 := (show Hid _ from And.intro hSh hb5)
          clear HS4 HCl hSh hb5 g0 g1
          go_wp2_with fail
          refine Calls.mono HW5.out ?_
          rintro e w6 ⟨rfl, hb6, hz6, hx6, hy6⟩
          have HC6 := (show Hid _ from HC5.out w6 s m HB3.out HH5.out.2 HH5.out.1 hb6 hz6 hx6 hy6)
          clear HW5 HC5 HH5 hb6 hz6 hx6 hy6
          go_wp2_with fail
          refine Calls.mono HC6.out ?_
          rintro e w7 ⟨rfl, hb7, hall⟩
          have hSh7 := hall (rg, rq) rfl
          simp only at hSh7
          obtain ⟨va, vb, f, k1, k2, k3, k4, k5, k6, k7, k8, k9, k10, k11, k12, k13⟩ := hSh7
          obtain ⟨a6, ca6, b6, cb6, rfl, rfl, _, _⟩ := k8.reads
          have HTo := (show Hid _ from told_yes s C a6 b6 rg.1.length ca6 rg.2.length cb6 w7 k1 k2 k12)
          have HB7 := (show Hid _ from HB3.out.trans (hb7.mono HB3.out.size))
          have hs3 := HB3.out.size
          have HFN : Hid (∀ W, Below w7.heap.size w7 W → (W.cell? ⟨w.heap.size + 1, 0, none⟩ = some (.slice none 0 0) ∧ W.cell? ⟨w.heap.size + 1, 1, none⟩ = some (.slice none 0 0) ∧ W.frozen? ⟨w.heap.size + 1, 0, none⟩ = false ∧ W.frozen? ⟨w.heap.size + 1, 1, none⟩ = false) ∧ ∀ v0 v1, AnsI ((W.setCell ⟨w.heap.size + 1, 0, none⟩ v0).setCell ⟨w.heap.size + 1, 1, none⟩ v1) (fun x => w.heap.size ≤ x) (.slice a6 rg.1.length ca6) (.slice b6 rg.2.length cb6) rg ∧ Below w.heap.size w ((W.setCell ⟨w.heap.size + 1, 0, none⟩ v0).setCell ⟨w.heap.size + 1, 1, none⟩ v1)) := fun W hW => by
            obtain ⟨-, y, z⟩ := HC.out W (HB7.out.trans (hW.mono HB7.out.size))
            refine ⟨y, fun v0 v1 => ⟨.inr ⟨(k8.keep hW).map (by rw [setCell_size, setCell_size]; exact Nat.le_refl _) (fun b' hb' hl => ?_) (fun b' hl hb' => ?_), HD.out.2.1, HD.out.2.2, HD.out.1.2.1, good_few HD.out.1⟩, z v0 v1⟩⟩
            · have hne : w.heap.size + 1 ≠ b' := by have := hb'.1; have := HW1.out; omega
              rw [setCell_block _ _ _ hne, setCell_block _ _ _ hne]
            · have := hb'.1; have := HW1.out; omega
          clear HC6 hb7 HB3 hall k1 k2 k3 k4 k5 k6 k7 k8 k9 k10 k11 k12 k13 HC HB7 hs3
          go_wp2_with fail
          refine Calls.mono HTo.out ?_
          rintro e w8 ⟨rfl, hb8⟩
          obtain ⟨⟨y0, y1, y2, y3⟩, hfin⟩ := HFN.out w8 hb8
          have HF := (show Hid _ from hfin)
          clear HTo hb8 hfin HFN
          go_wp2
          refine bodyPost_ret (v := .tuple #[.agg #[.slice a6 rg.1.length ca6, .slice b6 rg.2.length cb6], .int .i64 C, .bool true]) ?_ ?_ ?_
          · simp [results, Tryz.results30, go_sem, *]
          · rfl
          · exact ⟨_, _, rfl, (HF.out _ _).1, (HF.out _ _).2⟩
end Go.Proofs.YtobgkfpjokfbaaaGreatDoor
