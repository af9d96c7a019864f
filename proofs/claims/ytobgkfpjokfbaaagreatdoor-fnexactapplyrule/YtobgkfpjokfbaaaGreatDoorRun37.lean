/-
  PROVED HERE: what the program's ApplyRule answers, at every graph, rule and place; the table of arities is laid. No other condition. what the model's l9Bind answers, at every bind of a graph. No other condition. plain facts on a pattern with a bind that is found in a graph: what the model asks of a node and its parts is that nothing is put. No condition.
-/
import Derived.Test.YtobgkfpjokfbaaaGreatDoorRun36
import Derived.Test.YtobgkfpjokfbaaaGreatDoorRun9
import Derived.Lib.SmallJoins
import Derived.Test.YtobgkfpjokfbaaaGreatDoorRun27
namespace Go.Proofs.YtobgkfpjokfbaaaGreatDoor
open Go.ChangeShapes Go.WideShapes Go.ChangeAt Go.RowKit
set_option linter.unusedVariables false

theorem putL_in {g : GS} {x : EN} (h : InE g.1) (hx : InI x.2.1) : InE (putL g x).1.1 := by
  cases hf : findL g.1 g.2 x with
  | some v => rw [putL_some hf]; exact h
  | none =>
    rw [putL_none hf]
    intro i hi
    show InI ((g.1 ++ [x]).getD i e0).2.1
    have hi' : i < g.1.length + 1 := by simpa using hi
    by_cases e : i < g.1.length
    · rw [getD_old _ _ _ e]; exact h i e
    · obtain rfl : i = g.1.length := by omega
      rw [getD_new]; exact hx
theorem runA_in (b : Option (List Int)) : ∀ (t : List (Int × Int)) (s : GS × List Int), InE s.1.1 → (∀ n ∈ t, InI n.2) → InE (runA b t s).1.1
  | [], s, h, _ => h
  | n :: t, s, h, hn => by
    show InE (runA b t (stepA b s n)).1.1
    refine runA_in b t _ ?_ (fun m hm => hn m (List.mem_cons_of_mem _ hm))
    show InE (classA b s.1 n _).1.1
    unfold classA
    cases b with
    | none => exact putL_in h (hn n List.mem_cons_self)
    | some bs =>
      simp only
      split
      · exact h
      · exact putL_in h (hn n List.mem_cons_self)
theorem instT_in {p : List EN} {l bs : List Int} {t : List (Int × Int)} {r : GS × Int} (hI : InE p) (hIt : ∀ k, k < t.length → InI (t.getD k (0, 0)).2) (h : instT p l t bs = some r) : InE r.1.1 := by
  have hn : ∀ n ∈ t, InI n.2 := fun n hn => by
    obtain ⟨k, hk, rfl⟩ := List.getElem_of_mem hn
    have := hIt k hk
    rwa [List.getD_eq_getElem?_getD, List.getElem?_eq_getElem hk] at this
  have hr := runA_in (some bs) t ((p, l), []) hI hn
  unfold instT roomA at h
  split at h
  · split at h
    · cases h; exact hr
    · cases h
  · cases h
set_option maxHeartbeats 6400000 in
set_option maxRecDepth 20000 in
theorem implApply_any (a b : Option Addr) (len cap lb cb : Nat) (p : List EN) (l : List Int) (sa : Option Addr) (sl sc : Nat) (s : List (Int × Int)) (ta : Option Addr) (tl tc : Nat) (t : List (Int × Int)) (c : Int) (ba : Option Addr) (bl bc : Nat) (bs : List Int) (w : World) (hT : Tab w) (h : ESl w a len p) (hl : Sl w b lb l) (hs : NSl w sa sl s) (ht : NSl w ta tl t) (hv : Sl w ba bl bs) (hI : InE p) (hIs : ∀ k, k < s.length → InI (s.getD k (0, 0)).2) (hIt : ∀ k, k < t.length → InI (t.getD k (0, 0)).2) (hm2 : lb ≤ 9223372036854775807) (hm3 : sl ≤ 9223372036854775807) (hm4 : tl ≤ 9223372036854775807) (hm5 : bl ≤ 9223372036854775807) :
    Calls Tryz.prog 11 #[.agg #[.slice a len cap, .slice b lb cb], .agg #[.slice sa sl sc, .slice ta tl tc], .agg #[.int .i64 c, .slice ba bl bc]] w fun e w' => ∃ va vb, e = .returned (.tuple #[.agg #[va, vb], .bool (appOk p l s t c bs)]) ∧ AnsI w' (fun b => w.heap.size ≤ b) va vb (appR p l s t c bs) ∧ Below w.heap.size w w' := by
  obtain ⟨W1, hW1⟩ : ∃ W1, (((w.alloc (.cells #[.slice a len cap, .slice b lb cb] 36)).alloc (.cells #[.slice sa sl sc, .slice ta tl tc] 42)).alloc (.cells #[.int .i64 c, .slice ba bl bc] 44)).alloc (.cells #[.slice none 0 0, .slice none 0 0] 36) = W1 := ⟨_, rfl⟩
  have hb1 : Below w.heap.size w W1 := by rw [← hW1]; exact ((((Below.refl _ _).alloc (Nat.le_refl _) _).alloc (by simp) _).alloc (by simp; omega) _).alloc (by simp; omega) _
  have hs1 : W1.heap.size = w.heap.size + 4 := by rw [← hW1]; simp
  have n0 : W1.cell? ⟨w.heap.size, 0, none⟩ = some (.slice a len cap) := by rw [← hW1]; simp [go_sem]
  have n1 : W1.cell? ⟨w.heap.size, 1, none⟩ = some (.slice b lb cb) := by rw [← hW1]; simp [go_sem]
  have n2 : W1.cell? ⟨w.heap.size + 1, 0, none⟩ = some (.slice sa sl sc) := by rw [← hW1]; simp [go_sem]
  have n3 : W1.cell? ⟨w.heap.size + 1, 1, none⟩ = some (.slice ta tl tc) := by rw [← hW1]; simp [go_sem]
  have n4 : W1.cell? ⟨w.heap.size + 2, 0, none⟩ = some (.int .i64 c) := by rw [← hW1]; simp [go_sem]
  have n5 : W1.cell? ⟨w.heap.size + 2, 1, none⟩ = some (.slice ba bl bc) := by rw [← hW1]; simp [go_sem]
  have r0 : W1.cell? ⟨w.heap.size + 3, 0, none⟩ = some (.slice none 0 0) := by rw [← hW1]; simp [go_sem]
  have r1 : W1.cell? ⟨w.heap.size + 3, 1, none⟩ = some (.slice none 0 0) := by rw [← hW1]; simp [go_sem]
  have f0 : W1.frozen? ⟨w.heap.size + 3, 0, none⟩ = false := by rw [← hW1]; simp [go_sem]
  have f1 : W1.frozen? ⟨w.heap.size + 3, 1, none⟩ = false := by rw [← hW1]; simp [go_sem]
  have HX : Hid (∀ W, Below W1.heap.size W1 W → (W.cell? ⟨w.heap.size, 0, none⟩ = some (.slice a len cap) ∧ W.cell? ⟨w.heap.size, 1, none⟩ = some (.slice b lb cb) ∧ W.cell? ⟨w.heap.size + 1, 0, none⟩ = some (.slice sa sl sc) ∧ W.cell? ⟨w.heap.size + 1, 1, none⟩ = some (.slice ta tl tc) ∧ W.cell? ⟨w.heap.size + 2, 0, none⟩ = some (.int .i64 c) ∧ W.cell? ⟨w.heap.size + 2, 1, none⟩ = some (.slice ba bl bc)) ∧ (W.cell? ⟨w.heap.size + 3, 0, none⟩ = some (.slice none 0 0) ∧ W.cell? ⟨w.heap.size + 3, 1, none⟩ = some (.slice none 0 0) ∧ W.frozen? ⟨w.heap.size + 3, 0, none⟩ = false ∧ W.frozen? ⟨w.heap.size + 3, 1, none⟩ = false) ∧ Below w.heap.size w W) := fun W hW => ⟨⟨(hW.cell (p := ⟨w.heap.size, 0, none⟩) (by show w.heap.size < _; omega)).trans n0, (hW.cell (p := ⟨w.heap.size, 1, none⟩) (by show w.heap.size < _; omega)).trans n1, (hW.cell (p := ⟨w.heap.size + 1, 0, none⟩) (by show w.heap.size + 1 < _; omega)).trans n2, (hW.cell (p := ⟨w.heap.size + 1, 1, none⟩) (by show w.heap.size + 1 < _; omega)).trans n3, (hW.cell (p := ⟨w.heap.size + 2, 0, none⟩) (by show w.heap.size + 2 < _; omega)).trans n4, (hW.cell (p := ⟨w.heap.size + 2, 1, none⟩) (by show w.heap.size + 2 < _; omega)).trans n5⟩, ⟨(hW.cell (p := ⟨w.heap.size + 3, 0, none⟩) (by show w.heap.size + 3 < _; omega)).trans r0, (hW.cell (p := ⟨w.heap.size + 3, 1, none⟩) (by show w.heap.size + 3 < _; omega)).trans r1, (hW.frozen (p := ⟨w.heap.size + 3, 0, none⟩) (by show w.heap.size + 3 < _; omega)).trans f0, (hW.frozen (p := ⟨w.heap.size + 3, 1, none⟩) (by show w.heap.size + 3 < _; omega)).trans f1⟩, hb1.trans (hW.mono hb1.size)⟩
  have HS : Hid (∀ W, Below w.heap.size w W → ∀ v0 v1, Below w.heap.size w ((W.setCell ⟨w.heap.size + 3, 0, none⟩ v0).setCell ⟨w.heap.size + 3, 1, none⟩ v1)) := fun W hW v0 v1 => (hW.setCell (by show w.heap.size ≤ w.heap.size + 3; omega) _).setCell (by show w.heap.size ≤ w.heap.size + 3; omega) _
  have hT1 := hT.keeps hb1
  have HI := (show Hid _ from implIsMatch_any a b len cap lb cb p l sa sl sc s c ba bl bc bs W1 hT1 (h.keep hb1) (hl.keep hb1) (hs.keep hb1) (hv.keep hb1) hI hIs hm2 hm3 hm5)
  have HR : Hid (∀ W, Below W1.heap.size W1 W → Calls Tryz.prog 29 #[.agg #[.slice sa sl sc, .slice ta tl tc]] W fun e w' => e = .returned (.bool (ruleB s t)) ∧ Below W.heap.size W w') := fun W hW => implRule_any sa ta sl sc tl tc s t W (hT1.keeps hW) ((hs.keep hb1).keep hW) ((ht.keep hb1).keep hW) hm3 hm4
  have HN : Hid (∀ W, Below W1.heap.size W1 W → Calls Tryz.prog 30 #[.agg #[.slice a len cap, .slice b lb cb], .slice ta tl tc, .slice ba bl bc] W fun e w' => ∃ va vb, e = .returned (.tuple #[.agg #[va, vb], .int .i64 (ansC (instT p l t bs)), .bool (instT p l t bs).isSome]) ∧ AnsI w' (fun x => W.heap.size ≤ x) va vb (ansG (instT p l t bs)) ∧ Below W.heap.size W w') := fun W hW => implInstOf_any a b len cap lb cb p l ta tl tc t ba bl bc bs W (hT1.keeps hW) ((h.keep hb1).keep hW) ((hl.keep hb1).keep hW) ((ht.keep hb1).keep hW) ((hv.keep hb1).keep hW) hI hIt hm2 hm4 hm5
  cases hmt : isM p l s c bs with
  | false =>
    have hno : appOk p l s t c bs = false := by unfold appOk; rw [hmt]; rfl
    have hnr : appR p l s t c bs = ([], []) := by unfold appR; rw [hno]; rfl
    rw [hno, hnr]
    rw [hmt] at HI
    clear h hl hb1 hno hnr hs1 hT hT1 hI hIs hIt hs ht hv HN HR
    go_enter Tryz.func11, Tryz.ntmps11
    go_wp2_with fail
    (try rw [hW1])
    refine Calls.mono HI.out ?_
    rintro e w2 ⟨rfl, hb2⟩
    obtain ⟨⟨q0, q1, q2, q3, q4, q5⟩, ⟨u0, u1, g0, g1⟩, hw2⟩ := HX.out w2 hb2
    have HB := (show Hid _ from HS.out w2 hw2)
    clear HI hW1 HX HS hb2 hw2 n0 n1 n2 n3 n4 n5 r0 r1 f0 f1
    go_wp2
    refine bodyPost_ret (v := .tuple #[.agg #[.slice none 0 0, .slice none 0 0], .bool false]) ?_ ?_ ?_
    · simp [results, Tryz.results11, go_sem, *]
    · rfl
    · exact ⟨_, _, rfl, .inl ⟨rfl, rfl, rfl⟩, HB.out _ _⟩
  | true =>
    rw [hmt] at HI
    cases hrt : ruleB s t with
    | false =>
      have hno : appOk p l s t c bs = false := by unfold appOk; rw [hmt, hrt]; rfl
      have hnr : appR p l s t c bs = ([], []) := by unfold appR; rw [hno]; rfl
      rw [hno, hnr]
      rw [hrt] at HR
      clear h hl hb1 hno hnr hs1 hT hT1 hI hIs hIt hs ht hv HN
      go_enter Tryz.func11, Tryz.ntmps11
      go_wp2_with fail
      (try rw [hW1])
      refine Calls.mono HI.out ?_
      rintro e w2 ⟨rfl, hb2⟩
      obtain ⟨⟨q0, q1, q2, q3, q4, q5⟩, ⟨u0, u1, g0, g1⟩, hw2⟩ := HX.out w2 hb2
      have HR2 := (show Hid _ from HR.out w2 hb2)
      have H2 := (show Hid _ from hb2)
      clear HI HR hW1 hb2 hw2 n0 n1 n2 n3 n4 n5 r0 r1 f0 f1
      go_wp2_with fail
      refine Calls.mono HR2.out ?_
      rintro e w3 ⟨rfl, hb3⟩
      clear q0 q1 q2 q3 q4 q5 u0 u1 g0 g1
      obtain ⟨⟨q0, q1, q2, q3, q4, q5⟩, ⟨u0, u1, g0, g1⟩, hw3⟩ := HX.out w3 (H2.out.trans (hb3.mono H2.out.size))
      have HB := (show Hid _ from HS.out w3 hw3)
      clear HR2 H2 HX HS hb3 hw3
      go_wp2
      refine bodyPost_ret (v := .tuple #[.agg #[.slice none 0 0, .slice none 0 0], .bool false]) ?_ ?_ ?_
      · simp [results, Tryz.results11, go_sem, *]
      · rfl
      · exact ⟨_, _, rfl, .inl ⟨rfl, rfl, rfl⟩, HB.out _ _⟩
    | true =>
      rw [hrt] at HR
      cases hin : instT p l t bs with
      | none =>
        have hno : appOk p l s t c bs = false := by unfold appOk; rw [hmt, hrt, hin]; rfl
        have hnr : appR p l s t c bs = ([], []) := by unfold appR; rw [hno]; rfl
        rw [hno, hnr]
        rw [hin] at HN
        clear h hl hb1 hno hnr hs1 hT hT1 hI hIs hIt hs ht hv hin
        go_enter Tryz.func11, Tryz.ntmps11
        go_wp2_with fail
        (try rw [hW1])
        refine Calls.mono HI.out ?_
        rintro e w2 ⟨rfl, hb2⟩
        obtain ⟨⟨q0, q1, q2, q3, q4, q5⟩, ⟨u0, u1, g0, g1⟩, hw2⟩ := HX.out w2 hb2
        have HR2 := (show Hid _ from HR.out w2 hb2)
        have H2 := (show Hid _ from hb2)
        clear HI HR hW1 hb2 hw2 n0 n1 n2 n3 n4 n5 r0 r1 f0 f1
        go_wp2_with fail
        refine Calls.mono HR2.out ?_
        rintro e w3 ⟨rfl, hb3⟩
        have hB3 := H2.out.trans (hb3.mono H2.out.size)
        clear q0 q1 q2 q3 q4 q5 u0 u1 g0 g1
        obtain ⟨⟨q0, q1, q2, q3, q4, q5⟩, ⟨u0, u1, g0, g1⟩, hw3⟩ := HX.out w3 hB3
        have HN3 := (show Hid _ from HN.out w3 hB3)
        have H3 := (show Hid _ from hB3)
        clear HR2 H2 HN hb3 hw3 hB3
        go_wp2_with fail
        refine Calls.mono HN3.out ?_
        rintro e w4 ⟨va, vb, rfl, hA4, hb4⟩
        have hB4 := H3.out.trans (hb4.mono H3.out.size)
        obtain ⟨W5, hW5⟩ : ∃ W5, w4.alloc (.cells #[va, vb] 36) = W5 := ⟨_, rfl⟩
        have hb5 : Below w4.heap.size w4 W5 := by rw [← hW5]; exact (Below.refl _ _).alloc (Nat.le_refl _) _
        clear q0 q1 q2 q3 q4 q5 u0 u1 g0 g1
        obtain ⟨⟨q0, q1, q2, q3, q4, q5⟩, ⟨u0, u1, g0, g1⟩, hw5⟩ := HX.out W5 (hB4.trans (hb5.mono hB4.size))
        have HB := (show Hid _ from HS.out W5 hw5)
        obtain ⟨ga, ca, gb, cb2, rfl, rfl, -⟩ := hA4.reads
        clear HN3 H3 hA4 hb4 hB4 hb5 hw5 HX HS
        go_wp2
        refine bodyPost_ret (v := .tuple #[.agg #[.slice none 0 0, .slice none 0 0], .bool false]) ?_ ?_ ?_
        · simp [results, Tryz.results11, go_sem, *]
        · rfl
        · exact ⟨_, _, rfl, .inl ⟨rfl, rfl, rfl⟩, HB.out _ _⟩
      | some r =>
        have hyes : appOk p l s t c bs = true := by unfold appOk; rw [hmt, hrt, hin]; rfl
        have hyr : appR p l s t c bs = mergeR r.1.1 r.1.2 c r.2 := by unfold appR; rw [hyes, hin]; rfl
        rw [hyes, hyr]
        have hmk := app_merge hmt hin
        have hIr := instT_in hI hIt hin
        have h120 := (instT_class hin).2.1
        have hl120 : r.1.2.length = r.1.1.length := (instT_class hin).1.2.1
        rw [hin] at HN
        obtain ⟨⟨P, L⟩, C⟩ := r
        have HM : Hid (∀ W, Below W1.heap.size W1 W → ∀ ga ca gb cb2, ESl W ga P.length P → Sl W gb L.length L → Calls Tryz.prog 31 #[.agg #[.slice ga P.length ca, .slice gb L.length cb2], .int .i64 c, .int .i64 C] W fun e w' => ∃ va vb, e = .returned (.tuple #[.agg #[va, vb], .bool (mergeOk P L c C)]) ∧ AnsI w' (fun b => W.heap.size ≤ b) va vb (mergeR P L c C) ∧ Below W.heap.size W w') := fun W hW ga ca gb cb2 h1 h2 => implMerge_any ga gb P.length ca L.length cb2 P L c C W (hT1.keeps hW) h1 h2 hIr (by show P.length ≤ _; have h120' : P.length ≤ 120 := h120; omega) (by have h120' : P.length ≤ 120 := h120; have hll' : L.length = P.length := hl120; omega)
        rw [show mergeOk P L c C = true from hmk] at HM
        have HL : Hid (W1.heap.size = w.heap.size + 4) := hs1
        show Calls _ _ _ _ fun e w' => ∃ va vb, e = .returned (.tuple #[.agg #[va, vb], .bool true]) ∧ AnsI w' (fun b => w.heap.size ≤ b) va vb (mergeR P L c C) ∧ Below w.heap.size w w'
        generalize mergeR P L c C = M at HM ⊢
        clear h hl hb1 hyes hyr hs1 hT hT1 hI hIs hIt hs ht hv hin hmk hIr h120 hl120
        simp only [ansC, ansG, Option.isSome] at HN
        go_enter Tryz.func11, Tryz.ntmps11
        go_wp2_with fail
        (try rw [hW1])
        refine Calls.mono HI.out ?_
        rintro e w2 ⟨rfl, hb2⟩
        obtain ⟨⟨q0, q1, q2, q3, q4, q5⟩, ⟨u0, u1, g0, g1⟩, hw2⟩ := HX.out w2 hb2
        have HR2 := (show Hid _ from HR.out w2 hb2)
        have H2 := (show Hid _ from hb2)
        clear HI HR hW1 hb2 hw2 n0 n1 n2 n3 n4 n5 r0 r1 f0 f1
        go_wp2_with fail
        refine Calls.mono HR2.out ?_
        rintro e w3 ⟨rfl, hb3⟩
        have hB3 := H2.out.trans (hb3.mono H2.out.size)
        clear q0 q1 q2 q3 q4 q5 u0 u1 g0 g1
        obtain ⟨⟨q0, q1, q2, q3, q4, q5⟩, ⟨u0, u1, g0, g1⟩, hw3⟩ := HX.out w3 hB3
        have HN3 := (show Hid _ from HN.out w3 hB3)
        have H3 := (show Hid _ from hB3)
        clear HR2 H2 HN hb3 hw3 hB3
        go_wp2_with fail
        refine Calls.mono HN3.out ?_
        rintro e w4 ⟨va, vb, rfl, hA4, hb4⟩
        have hB4 := H3.out.trans (hb4.mono H3.out.size)
        obtain ⟨ga, ca, gb, cb2, rfl, rfl, hE4, hL4, -⟩ := hA4.reads
        obtain ⟨W5, hW5⟩ : ∃ W5, w4.alloc (.cells #[.slice ga P.length ca, .slice gb L.length cb2] 36) = W5 := ⟨_, rfl⟩
        have hb5 : Below w4.heap.size w4 W5 := by rw [← hW5]; exact (Below.refl _ _).alloc (Nat.le_refl _) _
        have x0 : W5.cell? ⟨w4.heap.size, 0, none⟩ = some (.slice ga P.length ca) := by rw [← hW5]; simp [go_sem]
        have x1 : W5.cell? ⟨w4.heap.size, 1, none⟩ = some (.slice gb L.length cb2) := by rw [← hW5]; simp [go_sem]
        have hB5 := hB4.trans (hb5.mono hB4.size)
        clear q0 q1 q2 q3 q4 q5 u0 u1 g0 g1
        obtain ⟨⟨q0, q1, q2, q3, q4, q5⟩, ⟨u0, u1, g0, g1⟩, hw5⟩ := HX.out W5 hB5
        have HM5 := (show Hid _ from HM.out W5 hB5 ga ca gb cb2 (hE4.keep hb5) (hL4.keep hb5))
        have H5 := (show Hid _ from hB5)
        clear HN3 H3 hA4 hb4 hB4 hb5 hw5 HM hE4 hL4 hB5
        go_wp2_with fail
        (try rw [hW5])
        refine Calls.mono HM5.out ?_
        rintro e w6 ⟨va, vb, rfl, hG6, hb6⟩
        have hB6 := H5.out.trans (hb6.mono H5.out.size)
        have hs5 : W1.heap.size ≤ W5.heap.size := H5.out.size
        clear q0 q1 q2 q3 q4 q5 u0 u1 g0 g1
        obtain ⟨⟨q0, q1, q2, q3, q4, q5⟩, ⟨u0, u1, g0, g1⟩, hw6⟩ := HX.out w6 hB6
        have hsz1 := HL.out
        have HF : Hid (∀ v0 v1, AnsI ((w6.setCell ⟨w.heap.size + 3, 0, none⟩ v0).setCell ⟨w.heap.size + 3, 1, none⟩ v1) (fun b => w.heap.size ≤ b) va vb M ∧ Below w.heap.size w ((w6.setCell ⟨w.heap.size + 3, 0, none⟩ v0).setCell ⟨w.heap.size + 3, 1, none⟩ v1)) := fun v0 v1 => by
          refine ⟨hG6.map (by rw [setCell_size, setCell_size]; exact Nat.le_refl _) (fun b hb hl => ?_) (fun b _ hb => by omega), HS.out w6 hw6 v0 v1⟩
          rw [setCell_block _ _ _ (show w.heap.size + 3 ≠ b by omega), setCell_block _ _ _ (show w.heap.size + 3 ≠ b by omega)]
        obtain ⟨ga2, ca2, gb2, cb3, rfl, rfl, -⟩ := hG6.reads
        clear HM5 H5 hb6 hB6 hs5 hw6 hG6 HX HS HL hsz1 x0 x1 hW5
        go_wp2
        refine bodyPost_ret (v := .tuple #[.agg #[.slice ga2 M.1.length ca2, .slice gb2 M.2.length cb3], .bool true]) ?_ ?_ ?_
        · simp [results, Tryz.results11, go_sem, *]
        · rfl
        · exact ⟨_, _, rfl, (HF.out _ _).1, (HF.out _ _).2⟩
end Go.Proofs.YtobgkfpjokfbaaaGreatDoor
namespace Go.Proofs.YtobgkfpjokfbaaaGreatDoor
open Go.ChangeShapes Go.WideShapes Go.ChangeAt Go.RowKit
set_option linter.unusedVariables false

def nowL (l bs : List Int) : List Int := bs.map fun k => if 0 ≤ k then l.getD k.toNat 0 else k
theorem nowL_take (l bs : List Int) (k : Nat) (h : k < bs.length) : (nowL l bs).take (k + 1) = (nowL l bs).take k ++ [if 0 ≤ bs.getD k 0 then l.getD (bs.getD k 0).toNat 0 else bs.getD k 0] := by
  have hk : k < (nowL l bs).length := by simp [nowL]; exact h
  rw [List.take_succ_eq_append_getElem hk]
  congr 2
  simp [nowL, List.getD_eq_getElem?_getD, List.getElem?_eq_getElem h]
set_option maxHeartbeats 1600000 in
theorem spL9Bind_any (a b : Option Addr) (la ca : Nat) (g : Value) (c : Option Addr) (lb cb : Nat) (l bs : List Int) (w : World) (h : Sl w a la l) (hb : Sl w b lb bs) (hm : lb ≤ 200) (hk : ∀ i, i < lb → 0 ≤ bs.getD i 0 → ∃ y : Nat, bs.getD i 0 = y ∧ y < la) :
    Calls Tryz.prog 47 #[.agg #[g, .slice a la ca], .slice b lb cb] w fun e w' => ∃ v : Value, e = .returned v ∧ w'.ownsRow w.heap.size 3 1 v lb (vals (nowL l bs)) ∧ Below w.heap.size w w' := by
  have hll := h.1
  have hbl := hb.1
  obtain ⟨i0, hi, hz0, hz1, hz2⟩ := info_parts infoInt
  obtain ⟨W1, hW1⟩ : ∃ W1, w.alloc (.cells #[g, .slice a la ca] 36) = W1 := ⟨_, rfl⟩
  have hb1 : Below w.heap.size w W1 := by rw [← hW1]; exact (Below.refl _ _).alloc (Nat.le_refl _) _
  have n1 : W1.cell? ⟨w.heap.size, 1, none⟩ = some (.slice a la ca) := by rw [← hW1]; simp [go_sem]
  have hs1 : W1.heap.size = w.heap.size + 1 := by rw [← hW1]; simp
  have HS : Hid (Sl W1 a la l ∧ Sl W1 b lb bs) := ⟨h.keep hb1, hb.keep hb1⟩
  have HB1 : Hid (∀ W, Below W1.heap.size W1 W → Below w.heap.size w W ∧ W.cell? ⟨w.heap.size, 1, none⟩ = some (.slice a la ca)) := fun W hW => ⟨hb1.trans (hW.mono hb1.size), (hW.cell (p := ⟨w.heap.size, 1, none⟩) (by show w.heap.size < _; omega)).trans n1⟩
  obtain ⟨U, hU⟩ : ∃ U : Nat → List Int, U = fun k => (nowL l bs).take k := ⟨_, rfl⟩
  have HU' : Hid (∀ k, k < lb → U (k + 1) = U k ++ [if 0 ≤ bs.getD k 0 then l.getD (bs.getD k 0).toNat 0 else bs.getD k 0]) := fun k hk => by rw [hU]; exact nowL_take l bs k (by omega)
  have HL' : Hid (∀ k, k ≤ lb → (U k).length = k) := fun k hk => by rw [hU]; show ((nowL l bs).take k).length = k; rw [List.length_take]; simp [nowL]; omega
  have HE' : Hid (U lb = nowL l bs) := by show _ = _; rw [hU]; exact List.take_of_length_le (by simp [nowL]; omega)
  have H0' : Hid (U 0 = []) := by show _ = _; rw [hU]; rfl
  have HK := (show Hid _ from hk)
  clear h hb hk hU hb1
  go_enter Tryz.func47, Tryz.ntmps47
  go_wp2_with fail
  (try rw [hW1])
  clear hW1
  go_loopw [5, 10] (fun x i wr => ∃ (k : Nat), k ≤ lb ∧ i = .int .i64 k ∧ wr.ownsRow W1.heap.size 3 1 x k (vals (U k)) ∧ Below W1.heap.size W1 wr) (fun _ i _ => lb - (intOf i).toNat)
  case atStart => exact ⟨0, Nat.zero_le _, rfl, by rw [H0'.out]; exact World.ownsRow_nil _ _ _ _, Below.refl _ _⟩
  case round =>
    obtain ⟨k, hk, rfl, hrow, hbr⟩ := hrel
    have qg := (HB1.out _ hbr).2
    by_cases hlt : k < lb
    · obtain ⟨bb, ob, rfl, hbb, hcb⟩ : ∃ b' off, b = some ⟨b', off, none⟩ ∧ b' < W1.heap.size ∧ ∀ i, i < lb → W1.cell? ⟨b', off + i, none⟩ = some (.int .i64 (bs.getD i 0)) := by
        rcases HS.out.2.2 with h0 | h0
        · omega
        · exact h0
      have ck := (hbr.cell (p := ⟨bb, ob + k, none⟩) hbb).trans (hcb k hlt)
      have hU := HU'.out k hlt
      have hLk := HL'.out k hk
      have hsz := hbr.size
      have hkk := HK.out k hlt
      obtain ⟨z, hz⟩ : ∃ z, bs.getD k 0 = z := ⟨_, rfl⟩
      rw [hz] at ck hU hkk
      by_cases hz0' : 0 ≤ z
      · obtain ⟨y, hy, hyl⟩ := hkk hz0'
        subst hy
        obtain ⟨ba, oa, rfl, hba, hca⟩ : ∃ b' off, a = some ⟨b', off, none⟩ ∧ b' < W1.heap.size ∧ ∀ i, i < la → W1.cell? ⟨b', off + i, none⟩ = some (.int .i64 (l.getD i 0)) := by
          rcases HS.out.1.2 with h0 | h0
          · omega
          · exact h0
        have cy := (hbr.cell (p := ⟨ba, oa + y, none⟩) hba).trans (hca y hyl)
        have hyl' : (y : Int) < la := by omega
        rw [if_pos hz0', Int.toNat_natCast] at hU
        have HU2 := (show Hid _ from hU)
        obtain ⟨z2, hz2'⟩ : ∃ z2, l.getD y 0 = z2 := ⟨_, rfl⟩
        rw [hz2'] at cy HU2
        obtain ⟨P, hP⟩ : ∃ P, U k = P := ⟨_, rfl⟩
        rw [hP] at hrow HU2 hLk
        have hge : ((y : Int) ≥ 0) := hz0'
        clear hcb hca hU hz hz2' hP hkk
        go_wp2_with (at_builtin; refine wpList_append_own _ rfl _ _ 23 rfl W1.heap.size 3 i0 (.int .i64 0) 1 8 Tryz.underlying23 hi hz0 hz1 hz2 rfl (by decide) _ _ _ rfl (hrow.alloc _) ⟨wr.heap.size, 0, none⟩ 1 1 [_] rfl rfl (cell_new1 _ _ _ _) (one_cell1 _ _) (by unfold maxLen; omega) (by omega) (by simp; omega) ?_; intro v' w4 hown4 hg4 _)
        have hB : Below W1.heap.size W1 w4 := (hbr.alloc hbr.size _).grown hg4 (by simp; omega) (own_ge hrow)
        have hown5 : w4.ownsRow W1.heap.size 3 1 v' (k + 1) (vals (U (k + 1))) := by rw [HU2.out, vals_append]; exact hown4
        clear hg4 hbr hrow hown4 HU2
        go_roundw
        case rel => exact ⟨k + 1, by omega, by go_num, hown5, hB⟩
        case measure => simp [intOf]; omega
      · rw [if_neg hz0'] at hU
        have HU2 := (show Hid _ from hU)
        obtain ⟨P, hP⟩ : ∃ P, U k = P := ⟨_, rfl⟩
        rw [hP] at hrow HU2 hLk
        have hge : ¬ (z ≥ 0) := hz0'
        clear hcb hU hz hP hkk
        go_wp2_with (at_builtin; refine wpList_append_own _ rfl _ _ 23 rfl W1.heap.size 3 i0 (.int .i64 0) 1 8 Tryz.underlying23 hi hz0 hz1 hz2 rfl (by decide) _ _ _ rfl (hrow.alloc _) ⟨wr.heap.size, 0, none⟩ 1 1 [_] rfl rfl (cell_new1 _ _ _ _) (one_cell1 _ _) (by unfold maxLen; omega) (by omega) (by simp; omega) ?_; intro v' w4 hown4 hg4 _)
        have hB : Below W1.heap.size W1 w4 := (hbr.alloc hbr.size _).grown hg4 (by simp; omega) (own_ge hrow)
        have hown5 : w4.ownsRow W1.heap.size 3 1 v' (k + 1) (vals (U (k + 1))) := by rw [HU2.out, vals_append]; exact hown4
        clear hg4 hbr hrow hown4 HU2
        go_roundw
        case rel => exact ⟨k + 1, by omega, by go_num, hown5, hB⟩
        case measure => simp [intOf]; omega
    · obtain rfl : k = lb := by omega
      rw [HE'.out] at hrow
      have HB := (show Hid _ from (HB1.out _ hbr).1)
      have HR : Hid (wr.ownsRow w.heap.size 3 1 _ k (vals (nowL l bs))) := Go.Joins.ownsRow_le hrow (by omega)
      clear hrow hbr qg
      go_wp2
      go_ret
      exact ⟨_, rfl, HR.out, HB.out⟩
end Go.Proofs.YtobgkfpjokfbaaaGreatDoor
namespace Go.Proofs.YtobgkfpjokfbaaaGreatDoor
open Go.ChangeShapes Go.WideShapes Go.ChangeAt Go.RowKit
set_option linter.unusedVariables false

theorem stepB_same (bs : List Int) (s : GS × List Int) (n : Int × Int) : (stepA (some bs) s n).1 = s.1 ∨ s.1.1.length < (stepA (some bs) s n).1.1.length := by
  show (classA (some bs) s.1 n (s.2.drop (s.2.length - (ar n.1).toNat))).1 = s.1 ∨ s.1.1.length < (classA (some bs) s.1 n (s.2.drop (s.2.length - (ar n.1).toNat))).1.1.length
  unfold classA
  simp only
  split
  · exact .inl rfl
  · cases hf : findL s.1.1 s.1.2 (n.1, n.2, s.2.drop (s.2.length - (ar n.1).toNat)) with
    | some v => rw [putL_some hf]; exact .inl rfl
    | none => rw [putL_none hf]; exact .inr (by simp)
theorem runB_same (bs : List Int) : ∀ (t : List (Int × Int)) (s : GS × List Int), (runA (some bs) t s).1.1.length ≤ s.1.1.length → (runA (some bs) t s).1 = s.1
  | [], s, _ => rfl
  | n :: t, s, h => by
    have hge := runB_ge bs t (stepA (some bs) s n)
    have h' : (runA (some bs) t (stepA (some bs) s n)).1.1.length ≤ s.1.1.length := h
    rcases stepB_same bs s n with e | e
    · have ih := runB_same bs t (stepA (some bs) s n) (by rw [e]; exact h')
      show (runA (some bs) t (stepA (some bs) s n)).1 = s.1
      rw [ih, e]
    · omega
/-- The parts of a node come to classes of the graph as it is, each for itself. -/
theorem kids_iff {t : List (Int × Int)} {q : Int} (h : pile t 0 = some q) (bs : List Int) (g : GS) {k : Nat} (hk : k < t.length) (xs : List Int) (hx : xs.length = (ar (t.getD k (0, 0)).1).toNat) : ∀ j, j ≤ (ar (t.getD k (0, 0)).1).toNat → (kidsA (some bs) t g k j = (g, xs.take j) ↔ ∀ i, i < j → treeA (some bs) t g ((roots t (ar (t.getD k (0, 0)).1).toNat k).getD i 0) = (g, [xs.getD i 0]))
  | 0, _ => by
    rw [kidsA_zero h (some bs) g hk]
    exact ⟨fun _ i hi => absurd hi (Nat.not_lt_zero _), fun _ => by simp⟩
  | j + 1, hj => by
    have ih := kids_iff h bs g hk xs hx j (by omega)
    have ch := (chain_of h hk).2.2 j (by omega)
    have etk : xs.take (j + 1) = xs.take j ++ [xs.getD j 0] := by
      rw [List.take_succ_eq_append_getElem (by omega), getI_lt (by omega)]
    constructor
    · intro e
      obtain ⟨g1, ks, e1⟩ : ∃ g1 ks, kidsA (some bs) t g k j = (g1, ks) := ⟨_, _, rfl⟩
      obtain ⟨c, e2⟩ := treeA_len h (some bs) g1 (k := (roots t (ar (t.getD k (0, 0)).1).toNat k).getD j 0) (by omega)
      have es := kidsA_succ h (some bs) g hk (by omega) e1 e2
      rw [e] at es
      obtain ⟨eg, ek⟩ := Prod.mk.inj es
      rw [etk] at ek
      have hlast := List.append_inj' ek rfl
      obtain ⟨ek1, ek2⟩ := hlast
      have hc := (List.cons.inj ek2).1
      have l1 : g.1.length ≤ g1.1.length := by
        have := runB_ge bs (seg t (start t k) (endAt t (ar (t.getD k (0, 0)).1).toNat k j)) (g, [])
        have e1' : runA (some bs) (seg t (start t k) (endAt t (ar (t.getD k (0, 0)).1).toNat k j)) (g, []) = (g1, ks) := e1
        rw [e1'] at this
        exact this
      have l2 : g1.1.length ≤ g.1.length := by
        have := runB_ge bs (seg t (start t ((roots t (ar (t.getD k (0, 0)).1).toNat k).getD j 0)) ((roots t (ar (t.getD k (0, 0)).1).toNat k).getD j 0 + 1)) (g1, [])
        have e2' : (runA (some bs) (seg t (start t ((roots t (ar (t.getD k (0, 0)).1).toNat k).getD j 0)) ((roots t (ar (t.getD k (0, 0)).1).toNat k).getD j 0 + 1)) (g1, [])).1 = (treeA (some bs) t g1 ((roots t (ar (t.getD k (0, 0)).1).toNat k).getD j 0)).1 := rfl
        rw [e2', ← eg] at this
        exact this
      have hg1 : g1 = g := by
        have := runB_same bs (seg t (start t k) (endAt t (ar (t.getD k (0, 0)).1).toNat k j)) (g, [])
        have e1' : runA (some bs) (seg t (start t k) (endAt t (ar (t.getD k (0, 0)).1).toNat k j)) (g, []) = (g1, ks) := e1
        rw [e1'] at this
        exact this l2
      subst hg1
      rw [← ek1] at e1
      intro i hi
      by_cases hij : i = j
      · subst hij
        rw [e2, ← eg, hc]
      · exact ih.1 e1 i (by omega)
    · intro e
      have e1 := ih.2 (fun i hi => e i (by omega))
      rw [kidsA_succ h (some bs) g hk (by omega) e1 (e j (by omega)), etk]
/-- A node alike is in the class that is found. -/
theorem find_alike {g : GS} (hg : GoodG g) {i : Nat} (hi : i < g.1.length) : findL g.1 g.2 (g.1.getD i e0) = some (g.2.getD i 0) := by
  cases hf : findL g.1 g.2 (g.1.getD i e0) with
  | none => exact absurd rfl (findL_none hf i hi)
  | some v =>
    obtain ⟨k, h1, h2, h3, h4⟩ := findL_some hf
    rw [← h3]
    congr 1
    by_cases hik : k = i
    · rw [hik]
    · have hlt : k < i := by
        rcases Nat.lt_or_ge i k with h | h
        · exact absurd rfl (h4 i h)
        · omega
      exact (hg.2.2.2.2 i hi).2 k hlt h2.symm
theorem tree_var {t : List (Int × Int)} {q : Int} (h : pile t 0 = some q) (bs : List Int) (g : GS) {k : Nat} (hk : k < t.length) (h2 : (t.getD k (0, 0)).1 = 2) : treeA (some bs) t g k = (g, [bs.getD (t.getD k (0, 0)).2.toNat 0]) := by
  have e0 : kidsA (some bs) t g k (ar (t.getD k (0, 0)).1).toNat = (g, []) := by
    have ha : (ar (t.getD k (0, 0)).1).toNat = 0 := by rw [h2]; rfl
    rw [ha]
    exact kidsA_zero h (some bs) g hk
  rw [(treeA_node h (some bs) g hk e0).1]
  unfold classA
  rw [h2]
  rfl
theorem tree_node {t : List (Int × Int)} {q : Int} (h : pile t 0 = some q) (bs : List Int) {g : GS} (hg : GoodG g) {k : Nat} (hk : k < t.length) (h2 : (t.getD k (0, 0)).1 ≠ 2) (c : Int) : treeA (some bs) t g k = (g, [c]) ↔ ∃ i, i < g.1.length ∧ (g.1.getD i e0).1 = (t.getD k (0, 0)).1 ∧ (g.1.getD i e0).2.1 = (t.getD k (0, 0)).2 ∧ g.2.getD i 0 = c ∧ ∀ j, j < (ar (t.getD k (0, 0)).1).toNat → treeA (some bs) t g ((roots t (ar (t.getD k (0, 0)).1).toNat k).getD j 0) = (g, [(g.1.getD i e0).2.2.getD j 0]) := by
  have hcl : ∀ g1 ks, classA (some bs) g1 (t.getD k (0, 0)) ks = putL g1 ((t.getD k (0, 0)).1, (t.getD k (0, 0)).2, ks) := fun g1 ks => by
    unfold classA
    simp only
    rw [if_neg h2]
  constructor
  · intro e
    obtain ⟨g1, ks, e1⟩ : ∃ g1 ks, kidsA (some bs) t g k (ar (t.getD k (0, 0)).1).toNat = (g1, ks) := ⟨_, _, rfl⟩
    obtain ⟨en, hl⟩ := treeA_node h (some bs) g hk e1
    rw [hcl] at en
    rw [e] at en
    obtain ⟨eg, ec⟩ := Prod.mk.inj en
    have ec := (List.cons.inj ec).1
    have hge := putL_ge g1 ((t.getD k (0, 0)).1, (t.getD k (0, 0)).2, ks)
    rw [← eg] at hge
    have hg1 : g1 = g := by
      have := runB_same bs (seg t (start t k) (endAt t (ar (t.getD k (0, 0)).1).toNat k (ar (t.getD k (0, 0)).1).toNat)) (g, [])
      have e1' : runA (some bs) (seg t (start t k) (endAt t (ar (t.getD k (0, 0)).1).toNat k (ar (t.getD k (0, 0)).1).toNat)) (g, []) = (g1, ks) := e1
      rw [e1'] at this
      exact this hge
    subst hg1
    cases hf : findL g1.1 g1.2 ((t.getD k (0, 0)).1, (t.getD k (0, 0)).2, ks) with
    | none =>
      rw [putL_none hf] at eg
      have := congrArg (fun x : GS => x.1.length) eg
      simp at this
    | some v =>
      rw [putL_some hf] at ec
      obtain ⟨i, h1, h3, h4, _⟩ := findL_some hf
      have hk2 : (g1.1.getD i e0).2.2 = ks := by rw [h3]
      have e2 : kidsA (some bs) t g1 k (ar (t.getD k (0, 0)).1).toNat = (g1, ks.take (ar (t.getD k (0, 0)).1).toNat) := by rw [e1, ← hl, List.take_length]
      refine ⟨i, h1, by rw [h3], by rw [h3], by rw [h4]; exact ec.symm, ?_⟩
      rw [hk2]
      exact (kids_iff h bs g1 hk ks hl _ (Nat.le_refl _)).1 e2
  · rintro ⟨i, h1, h3, h4, h5, h6⟩
    have hlen : (g.1.getD i e0).2.2.length = (ar (t.getD k (0, 0)).1).toNat := by
      have := (fit_node (hg.1 i h1)).2.1
      rw [h3] at this
      omega
    have e2 := (kids_iff h bs g hk _ hlen _ (Nat.le_refl _)).2 h6
    rw [← hlen, List.take_length] at e2
    rw [hlen] at e2
    rw [(treeA_node h (some bs) g hk e2).1, hcl]
    have hx : ((t.getD k (0, 0)).1, (t.getD k (0, 0)).2, (g.1.getD i e0).2.2) = g.1.getD i e0 := by rw [← h3, ← h4]
    rw [hx, putL_some (find_alike hg h1), h5]
/-- What no class is stays on the pile, or something is put. -/
theorem bad_stays (bs : List Int) {g : GS} (hg : GoodG g) : ∀ (t : List (Int × Int)) (Q : List Int), -1 ∈ Q → g.1.length < (runA (some bs) t (g, Q)).1.1.length ∨ -1 ∈ (runA (some bs) t (g, Q)).2
  | [], Q, h => .inr h
  | n :: t, Q, h => by
    have hge := runB_ge bs t (stepA (some bs) (g, Q) n)
    show g.1.length < (runA (some bs) t (stepA (some bs) (g, Q) n)).1.1.length ∨ -1 ∈ (runA (some bs) t (stepA (some bs) (g, Q) n)).2
    rcases stepB_same bs (g, Q) n with e | e
    · have e2 : stepA (some bs) (g, Q) n = (g, (stepA (some bs) (g, Q) n).2) := Prod.ext e rfl
      rw [e2]
      refine bad_stays bs hg t _ ?_
      show -1 ∈ Q.take (Q.length - (ar n.1).toNat) ++ [_]
      rw [← List.take_append_drop (Q.length - (ar n.1).toNat) Q, List.mem_append] at h
      rcases h with h | h
      · exact List.mem_append_left _ h
      · refine List.mem_append_right _ ?_
        by_cases h2 : n.1 = 2
        · have h20 : (ar n.1).toNat = 0 := by rw [h2]; rfl
          rw [h20, Nat.sub_zero, List.drop_length] at h
          cases h
        · exfalso
          have e' : (classA (some bs) g n (Q.drop (Q.length - (ar n.1).toNat))).1 = g := e
          unfold classA at e'
          simp only at e'
          rw [if_neg h2] at e'
          cases hf : findL g.1 g.2 (n.1, n.2, Q.drop (Q.length - (ar n.1).toNat)) with
          | none =>
            rw [putL_none hf] at e'
            have := congrArg (fun x : GS => x.1.length) e'
            simp at this
          | some v =>
            obtain ⟨i, h1, h3, _, _⟩ := findL_some hf
            have hk := (fit_node (hg.1 i h1)).2.2.2 (-1) (by rw [h3]; exact h)
            omega
    · exact .inl (Nat.lt_of_lt_of_le e hge)
theorem findB_run (bs : List Int) {g : GS} (hg : GoodG g) : ∀ (t : List (Int × Int)) (Q : List Int), (∀ n ∈ t, n.1 = 2 → bs.getD n.2.toNat 0 = -1 ∨ clB g.2 (bs.getD n.2.toNat 0) = true) → (runO (clsBf bs) t (g, Q) = some (runA (some bs) t (g, Q)) ∧ (runA (some bs) t (g, Q)).1 = g) ∨ (runO (clsBf bs) t (g, Q) = none ∧ (g.1.length < (runA (some bs) t (g, Q)).1.1.length ∨ -1 ∈ (runA (some bs) t (g, Q)).2))
  | [], Q, _ => .inl ⟨rfl, rfl⟩
  | n :: t, Q, hv => by
    show ((stepO (clsBf bs) (g, Q) n).bind (runO (clsBf bs) t) = some (runA (some bs) t (stepA (some bs) (g, Q) n)) ∧ (runA (some bs) t (stepA (some bs) (g, Q) n)).1 = g) ∨ ((stepO (clsBf bs) (g, Q) n).bind (runO (clsBf bs) t) = none ∧ (g.1.length < (runA (some bs) t (stepA (some bs) (g, Q) n)).1.1.length ∨ -1 ∈ (runA (some bs) t (stepA (some bs) (g, Q) n)).2))
    have hvt : ∀ n ∈ t, n.1 = 2 → bs.getD n.2.toNat 0 = -1 ∨ clB g.2 (bs.getD n.2.toNat 0) = true := fun m hm => hv m (List.mem_cons_of_mem _ hm)
    by_cases h2 : n.1 = 2
    · have e2 : stepA (some bs) (g, Q) n = (g, Q.take (Q.length - (ar n.1).toNat) ++ [bs.getD n.2.toNat 0]) := by
        unfold stepA classA
        simp only [h2, if_true]
      rcases hv n List.mem_cons_self h2 with hb | hb
      · have hc : clsBf bs g n (Q.drop (Q.length - (ar n.1).toNat)) = none := by
          unfold clsBf
          have e1 : clB g.2 (-1) = false := (by unfold clB hasB; rfl)
          rw [if_pos h2, hb, e1, if_neg (by decide)]
        rw [stepO_none (cls := clsBf bs) hc, e2]
        refine .inr ⟨rfl, bad_stays bs hg t _ ?_⟩
        rw [hb]
        exact List.mem_append_right _ (List.mem_singleton.2 rfl)
      · have hc : clsBf bs g n (Q.drop (Q.length - (ar n.1).toNat)) = some (g, bs.getD n.2.toNat 0) := by
          unfold clsBf
          rw [if_pos h2, if_pos hb]
        rw [stepO_some (cls := clsBf bs) hc, e2]
        exact findB_run bs hg t _ hvt
    · have hcl : clsBf bs g n (Q.drop (Q.length - (ar n.1).toNat)) = clsFi g n (Q.drop (Q.length - (ar n.1).toNat)) := by
        unfold clsBf
        rw [if_neg h2]
      cases hf : findL g.1 g.2 (n.1, n.2, Q.drop (Q.length - (ar n.1).toNat)) with
      | some v =>
        have e1 : stepO (clsBf bs) (g, Q) n = some (g, Q.take (Q.length - (ar n.1).toNat) ++ [v]) := stepO_some (r := (g, v)) (by rw [hcl]; unfold clsFi; rw [hf]; rfl)
        have e2 : stepA (some bs) (g, Q) n = (g, Q.take (Q.length - (ar n.1).toNat) ++ [v]) := by
          unfold stepA classA
          simp only [h2, if_false]
          rw [putL_some hf]
        rw [e1, e2]
        exact findB_run bs hg t _ hvt
      | none =>
        have e1 : stepO (clsBf bs) (g, Q) n = none := stepO_none (by rw [hcl]; unfold clsFi; rw [hf]; rfl)
        rw [e1]
        refine .inr ⟨rfl, .inl ?_⟩
        have hge := runB_ge bs t (stepA (some bs) (g, Q) n)
        have h3 : (stepA (some bs) (g, Q) n).1.1.length = g.1.length + 1 := by
          unfold stepA classA
          simp only [h2, if_false]
          rw [putL_none hf]; simp
        omega
/-- What is found is a class just where nothing is put. -/
theorem found_iff {p : List EN} {l bs : List Int} {t : List (Int × Int)} (hg : GoodG (p, l)) (ht : goodB t = true) (hb : bindB l bs = true) {c : Int} (hc : clB l c = true) : foundM p l t bs = some c ↔ treeA (some bs) t (p, l) (t.length - 1) = ((p, l), [c]) := by
  rw [treeA_root ht]
  obtain ⟨hp, ht1, ht40⟩ := good_pile ht
  have hfr := (runA_frame (some bs) [] t (p, l) [] 1 hp).2
  have hv : ∀ n ∈ t, n.1 = 2 → bs.getD n.2.toNat 0 = -1 ∨ clB l (bs.getD n.2.toNat 0) = true := fun n hn h2 => by
    have h4 := good_var ht n hn h2
    have hl := bindB_len hb
    refine bindB_each hb _ ?_
    rw [List.getD_eq_getElem?_getD, List.getElem?_eq_getElem (by omega)]
    exact List.getElem_mem _
  have hc0 : 0 ≤ c := ((isCl_iff hg c).1 hc).1
  unfold foundM
  rcases findB_run bs hg t [] hv with ⟨h1, h2⟩ | ⟨h1, h2⟩
  · rw [h1]
    match e : (runA (some bs) t ((p, l), [])).2, hfr with
    | [d], _ =>
      have er : runA (some bs) t ((p, l), []) = ((p, l), [d]) := Prod.ext h2 e
      rw [er]
      constructor
      · intro h
        have : d = c := by simpa using h
        rw [this]
      · intro h
        have := (Prod.mk.inj h).2
        have := (List.cons.inj this).1
        simp [this]
  · rw [h1]
    constructor
    · intro h; cases h
    · intro h
      rw [h] at h2
      rcases h2 with h2 | h2
      · exact absurd h2 (Nat.lt_irrefl _)
      · have := List.mem_singleton.1 h2
        omega
end Go.Proofs.YtobgkfpjokfbaaaGreatDoor
