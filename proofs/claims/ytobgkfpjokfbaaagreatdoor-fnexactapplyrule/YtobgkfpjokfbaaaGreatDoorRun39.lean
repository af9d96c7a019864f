/-
  PROVED HERE: what the model's l1Put leaves, at every row of numbers. No other condition. which variables the model tells of a term, at every list of nodes. No other condition. what the model's InstOf answers, at every graph, list of nodes and bind. No other condition.
-/
import Derived.Test.YtobgkfpjokfbaaaGreatDoorRun38
import Derived.Test.YtobgkfpjokfbaaaGreatDoorRun1
import Derived.Test.YtobgkfpjokfbaaaGreatDoorRun26
namespace Go.Proofs.YtobgkfpjokfbaaaGreatDoor
open Go.ChangeShapes Go.WideShapes Go.ChangeAt Go.RowKit
set_option linter.unusedVariables false

/-- Whatever the row is. -/
theorem putV_any (base : Nat) (v : Value) (len : Nat) (l : List Int) (n : Int) (w : World) (h : w.ownsRow base 3 1 v len (vals l)) (hb : base ≤ w.heap.size) (hn : len ≤ 1048576) :
    Calls Tryz.prog 95 #[v, .int .i64 n] w fun e w' => ∃ v' : Value, e = .returned v' ∧ w'.ownsRow base 3 1 v' (insL l n).length (vals (insL l n)) ∧ Below w.heap.size w w' := by
  have hll : l.length = len := by have := h.1; rw [vals_len] at this; omega
  rcases h.2 with ⟨rfl, rfl⟩ | ⟨g, cap, cur, rfl, hg, hgs, hc, _⟩
  · obtain rfl : l = [] := List.eq_nil_of_length_eq_zero hll
    refine (put_nil n w).mono ?_
    rintro e w' ⟨v', rfl, hown, hb'⟩
    exact ⟨v', rfl, own_base hown hb, hb'⟩
  · obtain ⟨a, cap', e, hs⟩ := Sl.vals h
    cases e
    refine (put_some g cap len l n w hs hc hn).mono ?_
    rintro e w' (⟨hp, rfl, rfl⟩ | ⟨v', rfl, hown, hb'⟩)
    · refine ⟨_, rfl, ?_, Below.refl _ _⟩
      rw [hp, hll]
      exact h
    · exact ⟨v', rfl, own_base hown hb, hb'⟩

theorem insL_len (l : List Int) (n : Int) : (insL l n).length ≤ l.length + 1 := by
  unfold insL
  split
  · omega
  · have := place_le l n
    simp only [List.length_append, List.length_take, List.length_drop, List.length_cons, List.length_nil]; omega
end Go.Proofs.YtobgkfpjokfbaaaGreatDoor
namespace Go.Proofs.YtobgkfpjokfbaaaGreatDoor
open Go.ChangeShapes Go.WideShapes Go.ChangeAt Go.RowKit
set_option linter.unusedVariables false

/-- The variables of a list of nodes, ahead of which those of a row stood. -/
def varsF : List (Int × Int) → List Int → List Int
  | [], o => o
  | x :: l, o => if x.1 = 2 then varsF l (insL o x.2) else varsF l o
theorem varsF_drop (l : List (Int × Int)) (k : Nat) (o : List Int) (h : k < l.length) : varsF (l.drop k) o = if (l.getD k (0, 0)).1 = 2 then varsF (l.drop (k + 1)) (insL o (l.getD k (0, 0)).2) else varsF (l.drop (k + 1)) o := by
  have e : l.getD k (0, 0) = l[k] := by rw [List.getD_eq_getElem?_getD, List.getElem?_eq_getElem h]; rfl
  rw [List.drop_eq_getElem_cons h, e]
  rfl

set_option maxHeartbeats 1600000 in
theorem vars_any (a : Option Addr) (len cap : Nat) (l : List (Int × Int)) (w : World) (h : NSl w a len l) (hn : len ≤ 524288) :
    Calls Tryz.prog 71 #[.slice a len cap] w fun e w' => ∃ v : Value, e = .returned v ∧ w'.ownsRow w.heap.size 3 1 v (varsF l []).length (vals (varsF l [])) ∧ Below w.heap.size w w' := by
  have hll := h.1
  have HS : Hid (NSl w a len l) := h
  obtain ⟨O, hO⟩ : ∃ O, varsF l [] = O := ⟨_, rfl⟩
  rw [hO]
  have HO : Hid (varsF (l.drop 0) [] = O) := by rw [List.drop_zero]; exact hO
  clear hO h
  go_enter Tryz.func71, Tryz.ntmps71
  go_wp2_with fail
  go_loopw [3, 8] (fun x i wr => ∃ (k : Nat) (o : List Int), k ≤ len ∧ i = .int .i64 k ∧ o.length ≤ k ∧ wr.ownsRow w.heap.size 3 1 x o.length (vals o) ∧ Hid (varsF (l.drop k) o = O) ∧ Below w.heap.size w wr) (fun _ i _ => len - (intOf i).toNat)
  case atStart => exact ⟨0, [], Nat.zero_le _, rfl, Nat.le_refl _, World.ownsRow_nil _ _ _ _, HO, Below.refl _ _⟩
  case round =>
    obtain ⟨k, o, hk, rfl, hok, hrow, hO, hbr⟩ := hrel
    by_cases hlt : k < len
    · obtain ⟨b, off, rfl, hbl, hc⟩ := HS.out.at (by omega)
      have c1 := (hbr.cell (p := ⟨b, off + k * 2, none⟩) hbl).trans (hc k hlt).1
      have c2 := (hbr.cell (p := ⟨b, off + k * 2 + 1, none⟩) hbl).trans (hc k hlt).2
      have hstep := varsF_drop l k o (by omega)
      rw [hO.out] at hstep
      clear hc hO
      generalize (l.getD k (0, 0)).1 = x at c1 hstep
      generalize (l.getD k (0, 0)).2 = y at c2 hstep
      have hbr' := hbr.alloc hbr.size (.cells #[.int .i64 x, .int .i64 y] 83)
      have hrow' := hrow.alloc (.cells #[.int .i64 x, .int .i64 y] 83)
      by_cases hx : x = 2
      · subst hx
        rw [if_pos rfl] at hstep
        have HN := (show Hid _ from hstep.symm)
        have hl2 := insL_len o y
        have HP := (show Hid _ from putV_any w.heap.size u3 o.length o y _ hrow' hbr'.size (by omega))
        generalize insL o y = o' at HP HN hl2
        clear hstep hrow hrow' hbr
        go_wp2_with fail
        refine Calls.mono HP.out ?_
        rintro e w2 ⟨v', rfl, hown, hb2⟩
        have hB2 := hbr'.trans (hb2.mono hbr'.size)
        clear hb2 hbr' HP
        go_wp2
        go_roundw
        case rel => exact ⟨k + 1, o', by omega, by go_num, by omega, hown, HN, hB2⟩
        case measure => simp [intOf]; omega
      · rw [if_neg hx] at hstep
        have HN := (show Hid _ from hstep.symm)
        have hx2 : (x == 2) = false := by simpa using hx
        clear hstep hrow hbr hx
        go_wp2
        go_roundw
        case rel => exact ⟨k + 1, o, by omega, by go_num, by omega, hrow', HN, hbr'⟩
        case measure => simp [intOf]; omega
    · obtain rfl : k = len := by omega
      have e : o = O := by
        have := hO.out
        rwa [List.drop_of_length_le (by omega)] at this
      subst e
      clear hO HO
      go_wp2
      go_ret
      exact ⟨_, rfl, hrow, hbr⟩

def varsL (l : List (Int × Int)) : List Int := if goodB l = true then varsF l [] else []
end Go.Proofs.YtobgkfpjokfbaaaGreatDoor
namespace Go.Proofs.YtobgkfpjokfbaaaGreatDoor
open Go.ChangeShapes Go.WideShapes Go.ChangeAt Go.RowKit
set_option linter.unusedVariables false

theorem mem_insL (l : List Int) (n v : Int) : v ∈ insL l n ↔ v ∈ l ∨ v = n := by
  unfold insL
  split
  · next h =>
    constructor
    · exact fun h => .inl h
    · rintro (h1 | rfl)
      · exact h1
      · obtain ⟨q, e2⟩ := h
        have e : l[place l v]'q = v := by
          rw [List.getD_eq_getElem?_getD, List.getElem?_eq_getElem q] at e2
          exact e2
        exact (congrArg (· ∈ l) e).mp (List.getElem_mem q)
  · rw [List.mem_append, List.mem_append, List.mem_singleton]
    constructor
    · rintro ((h | h) | h)
      · exact .inl (List.mem_of_mem_take h)
      · exact .inr h
      · exact .inl (List.mem_of_mem_drop h)
    · rintro (h | h)
      · rw [← List.take_append_drop (place l n) l, List.mem_append] at h
        rcases h with h | h
        · exact .inl (.inl h)
        · exact .inr h
      · exact .inl (.inr h)
theorem varsF_len : ∀ (t : List (Int × Int)) (o : List Int), (varsF t o).length ≤ o.length + t.length
  | [], o => Nat.le_refl _
  | x :: t, o => by
    unfold varsF
    split
    · have := varsF_len t (insL o x.2)
      have := insL_len o x.2
      rw [List.length_cons]
      omega
    · have := varsF_len t o
      rw [List.length_cons]
      omega
theorem mem_varsF : ∀ (t : List (Int × Int)) (o : List Int) (v : Int), v ∈ varsF t o ↔ v ∈ o ∨ ∃ n ∈ t, n.1 = 2 ∧ n.2 = v
  | [], o, v => by simp [varsF]
  | x :: t, o, v => by
    unfold varsF
    by_cases h2 : x.1 = 2
    · rw [if_pos h2, mem_varsF t _ v, mem_insL]
      constructor
      · rintro ((h | h) | ⟨n, hn, h⟩)
        · exact .inl h
        · exact .inr ⟨x, List.mem_cons_self, h2, h.symm⟩
        · exact .inr ⟨n, List.mem_cons_of_mem _ hn, h⟩
      · rintro (h | ⟨n, hn, h, e⟩)
        · exact .inl (.inl h)
        · rcases List.mem_cons.1 hn with rfl | hn
          · exact .inl (.inr e.symm)
          · exact .inr ⟨n, hn, h, e⟩
    · rw [if_neg h2, mem_varsF t _ v]
      constructor
      · rintro (h | ⟨n, hn, h⟩)
        · exact .inl h
        · exact .inr ⟨n, List.mem_cons_of_mem _ hn, h⟩
      · rintro (h | ⟨n, hn, h, e⟩)
        · exact .inl h
        · rcases List.mem_cons.1 hn with rfl | hn
          · exact absurd h h2
          · exact .inr ⟨n, hn, h, e⟩
set_option maxHeartbeats 3200000 in
set_option maxRecDepth 20000 in
theorem specInstOf_any (a b : Option Addr) (len cap lb cb : Nat) (p : List EN) (l : List Int) (ta : Option Addr) (tl tc : Nat) (t : List (Int × Int)) (w : World) (h : ESl w a len p) (hl : Sl w b lb l) (ht : NSl w ta tl t) (ba : Option Addr) (bl bc : Nat) (bs : List Int) (hv : Sl w ba bl bs) (hm : len ≤ 9223372036854775807) (hm2 : lb ≤ 9223372036854775807) (hm3 : tl ≤ 9223372036854775807) (hm4 : bl ≤ 9223372036854775807) :
    Calls Tryz.prog 46 #[.agg #[.slice a len cap, .slice b lb cb], .slice ta tl tc, .slice ba bl bc] w fun e w' => ∃ va vb, e = .returned (.tuple #[.agg #[va, vb], .int .i64 (ansC (instT p l t bs)), .bool (instT p l t bs).isSome]) ∧ GOwn w' false (fun x => w.heap.size ≤ x) va vb (ansG (instT p l t bs)) ∧ Below w.heap.size w w' := by
  have hll := h.1
  have hl1 := hl.1
  have htl := ht.1
  obtain ⟨W1, hW1⟩ : ∃ W1, (w.alloc (.cells #[.slice a len cap, .slice b lb cb] 36)).alloc (.cells #[.slice none 0 0, .slice none 0 0] 36) = W1 := ⟨_, rfl⟩
  have hb1 : Below w.heap.size w W1 := by rw [← hW1]; exact ((Below.refl _ _).alloc (Nat.le_refl _) _).alloc (by simp) _
  have hs1 : W1.heap.size = w.heap.size + 2 := by rw [← hW1]; simp
  have n0 : W1.cell? ⟨w.heap.size, 0, none⟩ = some (.slice a len cap) := by rw [← hW1]; simp [go_sem]
  have n1 : W1.cell? ⟨w.heap.size, 1, none⟩ = some (.slice b lb cb) := by rw [← hW1]; simp [go_sem]
  have r0 : W1.cell? ⟨w.heap.size + 1, 0, none⟩ = some (.slice none 0 0) := by rw [← hW1]; simp [go_sem]
  have r1 : W1.cell? ⟨w.heap.size + 1, 1, none⟩ = some (.slice none 0 0) := by rw [← hW1]; simp [go_sem]
  have f0 : W1.frozen? ⟨w.heap.size + 1, 0, none⟩ = false := by rw [← hW1]; simp [go_sem]
  have f1 : W1.frozen? ⟨w.heap.size + 1, 1, none⟩ = false := by rw [← hW1]; simp [go_sem]
  have HG := (show Hid _ from specGraph_any a b len cap lb cb p l W1 (h.keep hb1) (hl.keep hb1) hm hm2)
  have HT : Hid (∀ W, Below W1.heap.size W1 W → Calls Tryz.prog 41 #[.slice ta tl tc] W fun e w' => e = .returned (.bool (patB t)) ∧ Below W.heap.size W w') := fun W hW => specPat_any ta tl tc t W ((ht.keep hb1).keep hW) hm3
  have HBi : Hid (lb = len → len ≤ 120 → ∀ W, Below W1.heap.size W1 W → Calls Tryz.prog 44 #[.agg #[.slice a len cap, .slice b lb cb], .slice ba bl bc] W fun e w' => e = .returned (.bool (bindB l bs)) ∧ Below W.heap.size W w') := fun e h120 W hW => by
    subst e
    exact specBind_any a b ba lb cap cb bl bc l bs W ((hl.keep hb1).keep hW) ((hv.keep hb1).keep hW) (by omega) hm4
  have HC : Hid (∀ W, Below W1.heap.size W1 W → (W.cell? ⟨w.heap.size, 0, none⟩ = some (.slice a len cap) ∧ W.cell? ⟨w.heap.size, 1, none⟩ = some (.slice b lb cb)) ∧ (W.cell? ⟨w.heap.size + 1, 0, none⟩ = some (.slice none 0 0) ∧ W.cell? ⟨w.heap.size + 1, 1, none⟩ = some (.slice none 0 0) ∧ W.frozen? ⟨w.heap.size + 1, 0, none⟩ = false ∧ W.frozen? ⟨w.heap.size + 1, 1, none⟩ = false) ∧ ∀ v0 v1, Below w.heap.size w ((W.setCell ⟨w.heap.size + 1, 0, none⟩ v0).setCell ⟨w.heap.size + 1, 1, none⟩ v1)) := fun W hW => by
    have hX := hb1.trans (hW.mono hb1.size)
    exact ⟨⟨(hW.cell (p := ⟨w.heap.size, 0, none⟩) (by show w.heap.size < _; omega)).trans n0, (hW.cell (p := ⟨w.heap.size, 1, none⟩) (by show w.heap.size < _; omega)).trans n1⟩, ⟨(hW.cell (p := ⟨w.heap.size + 1, 0, none⟩) (by show w.heap.size + 1 < _; omega)).trans r0, (hW.cell (p := ⟨w.heap.size + 1, 1, none⟩) (by show w.heap.size + 1 < _; omega)).trans r1, (hW.frozen (p := ⟨w.heap.size + 1, 0, none⟩) (by show w.heap.size + 1 < _; omega)).trans f0, (hW.frozen (p := ⟨w.heap.size + 1, 1, none⟩) (by show w.heap.size + 1 < _; omega)).trans f1⟩, fun v0 v1 => (hX.setCell (by show w.heap.size ≤ w.heap.size + 1; omega) _).setCell (by show w.heap.size ≤ w.heap.size + 1; omega) _⟩
  unfold instT
  cases hgb : graphB p l with
  | false =>
    rw [hgb] at HG
    rw [Bool.false_and, Bool.false_and, Bool.false_and, if_neg (by decide)]
    clear h hl ht hb1 hs1 r0 r1 f0 f1 HT hv HBi
    go_enter Tryz.func46, Tryz.ntmps46
    go_wp2_with fail
    (try rw [hW1])
    refine Calls.mono HG.out ?_
    rintro e w2 ⟨rfl, hb2⟩
    obtain ⟨-, ⟨y0, y1, y2, y3⟩, hfin⟩ := HC.out w2 hb2
    have HF := (show Hid _ from hfin)
    clear HG hW1 HC hb2 hfin
    go_wp2
    refine bodyPost_ret (v := .tuple #[.agg #[.slice none 0 0, .slice none 0 0], .int .i64 0, .bool false]) ?_ ?_ ?_
    · simp [results, Tryz.results46, go_sem, *]
    · rfl
    · exact ⟨_, _, rfl, gown_nil _ _ _, HF.out _ _⟩
  | true =>
    rw [hgb] at HG
    rw [Bool.true_and]
    cases hpt : patB t with
    | false =>
      rw [hpt] at HT
      rw [Bool.false_and, Bool.false_and, if_neg (by decide)]
      clear h hl ht hb1 hs1 r0 r1 f0 f1 hv HBi
      go_enter Tryz.func46, Tryz.ntmps46
      go_wp2_with fail
      (try rw [hW1])
      refine Calls.mono HG.out ?_
      rintro e w2 ⟨rfl, hb2⟩
      have HT2 := (show Hid _ from HT.out w2 hb2)
      have HB2 := (show Hid _ from hb2)
      clear HG hW1 HT hb2
      go_wp2_with fail
      refine Calls.mono HT2.out ?_
      rintro e w3 ⟨rfl, hb3⟩
      obtain ⟨-, ⟨y0, y1, y2, y3⟩, hfin⟩ := HC.out w3 (HB2.out.trans (hb3.mono HB2.out.size))
      have HF := (show Hid _ from hfin)
      clear HT2 HC hb3 hfin
      go_wp2
      refine bodyPost_ret (v := .tuple #[.agg #[.slice none 0 0, .slice none 0 0], .int .i64 0, .bool false]) ?_ ?_ ?_
      · simp [results, Tryz.results46, go_sem, *]
      · rfl
      · exact ⟨_, _, rfl, gown_nil _ _ _, HF.out _ _⟩
    | true =>
      rw [hpt] at HT
      rw [Bool.true_and]
      obtain ⟨h120, hgood⟩ := (graphB_good p l).1 hgb
      have hgt : goodB t = true := by unfold patB at hpt; simp only [Bool.and_eq_true] at hpt; exact hpt.1
      obtain ⟨hp, ht1, ht40⟩ := good_pile hgt
      have hlp := hgood.2.1
      simp only at hlp
      have HBi := (show Hid _ from HBi.out (by omega) (by omega))
      cases hbd : bindB l bs with
      | false =>
        rw [hbd] at HBi
        rw [Bool.false_and, if_neg (by decide)]
        clear h hl ht hb1 hs1 r0 r1 f0 f1 hv hgood hp
        go_enter Tryz.func46, Tryz.ntmps46
        go_wp2_with fail
        (try rw [hW1])
        refine Calls.mono HG.out ?_
        rintro e w2 ⟨rfl, hb2⟩
        have HT2 := (show Hid _ from HT.out w2 hb2)
        have HB2 := (show Hid _ from hb2)
        clear HG hW1 HT hb2
        go_wp2_with fail
        refine Calls.mono HT2.out ?_
        rintro e w3 ⟨rfl, hb3⟩
        have hB3 := HB2.out.trans (hb3.mono HB2.out.size)
        obtain ⟨⟨g0, g1⟩, -, -⟩ := HC.out w3 hB3
        have HBi3 := (show Hid _ from HBi.out w3 hB3)
        have HB3 := (show Hid _ from hB3)
        clear HT2 hb3 HB2 hB3 HBi
        go_wp2_with fail
        refine Calls.mono HBi3.out ?_
        rintro e w4 ⟨rfl, hb4⟩
        obtain ⟨-, ⟨y0, y1, y2, y3⟩, hfin⟩ := HC.out w4 (HB3.out.trans (hb4.mono HB3.out.size))
        have HF := (show Hid _ from hfin)
        clear HBi3 HC hb4 hfin g0 g1
        go_wp2
        refine bodyPost_ret (v := .tuple #[.agg #[.slice none 0 0, .slice none 0 0], .int .i64 0, .bool false]) ?_ ?_ ?_
        · simp [results, Tryz.results46, go_sem, *]
        · rfl
        · exact ⟨_, _, rfl, gown_nil _ _ _, HF.out _ _⟩
      | true =>
        rw [hbd] at HBi
        rw [Bool.true_and]
        have hb4 := bindB_len hbd
        obtain ⟨bb, bo, rfl, hbbl, _⟩ : ∃ bb bo, ba = some ⟨bb, bo, none⟩ ∧ bb < w.heap.size ∧ ∀ i, i < bl → w.cell? ⟨bb, bo + i, none⟩ = some (.int .i64 (bs.getD i 0)) := by
          rcases hv.2 with h0 | h0
          · have := hv.1; omega
          · exact h0
        obtain rfl : bl = 4 := by have := hv.1; omega
        have HV : Hid (∀ W, Below W1.heap.size W1 W → Sl W (some ⟨bb, bo, none⟩) 4 bs) := fun W hW => (hv.keep hb1).keep hW
        have HVa : Hid (∀ W, Below W1.heap.size W1 W → Calls Tryz.prog 71 #[.slice ta tl tc] W fun e w' => ∃ v : Value, e = .returned v ∧ w'.ownsRow W.heap.size 3 1 v (varsF t []).length (vals (varsF t [])) ∧ Below W.heap.size W w') := fun W hW => vars_any ta tl tc t W ((ht.keep hb1).keep hW) (by omega)
        have HMem : Hid ((∀ v ∈ varsF t [], 0 ≤ v ∧ v < 4) ∧ (boundB t bs = true ↔ ∀ v ∈ varsF t [], 0 ≤ bs.getD v.toNat 0)) := ⟨fun v hv => by
          obtain ⟨n, hn, h2, rfl⟩ := (mem_varsF t [] v).1 hv |>.resolve_left (by simp)
          exact good_var hgt n hn h2, by
          rw [boundB_iff]
          constructor
          · intro h v hv
            obtain ⟨n, hn, h2, rfl⟩ := (mem_varsF t [] v).1 hv |>.resolve_left (by simp)
            exact h n hn h2
          · intro h n hn h2
            exact h n.2 ((mem_varsF t [] n.2).2 (.inr ⟨n, hn, h2, rfl⟩))⟩
        cases hbb : boundB t bs with
        | false =>
          rw [hbb] at HMem
          rw [if_neg (by decide)]
          clear h hl ht hb1 hs1 r0 r1 f0 f1 hv hgood hp htl hll hl1 hgb hpt hgt hbd hbb
          go_enter Tryz.func46, Tryz.ntmps46
          go_wp2_with fail
          (try rw [hW1])
          refine Calls.mono HG.out ?_
          rintro e w2 ⟨rfl, hb2⟩
          have HT2 := (show Hid _ from HT.out w2 hb2)
          have HB2 := (show Hid _ from hb2)
          clear HG hW1 HT hb2
          go_wp2_with fail
          refine Calls.mono HT2.out ?_
          rintro e w3a ⟨rfl, hb3⟩
          have hB3 := HB2.out.trans (hb3.mono HB2.out.size)
          obtain ⟨⟨g0, g1⟩, -, -⟩ := HC.out w3a hB3
          have HBi3 := (show Hid _ from HBi.out w3a hB3)
          have HB3a := (show Hid _ from hB3)
          clear HT2 hb3 HB2 hB3 HBi
          go_wp2_with fail
          refine Calls.mono HBi3.out ?_
          rintro e w3b ⟨rfl, hb4⟩
          have hB4 := HB3a.out.trans (hb4.mono HB3a.out.size)
          have HVa3 := (show Hid _ from HVa.out w3b hB4)
          have HB3b := (show Hid _ from hB4)
          clear HBi3 hb4 hB4 HB3a HVa g0 g1
          go_wp2_with fail
          refine Calls.mono HVa3.out ?_
          rintro e w3 ⟨vv, rfl, hown, hb5⟩
          obtain ⟨av, cv, rfl, _⟩ := row_slice hown
          have hB5 := HB3b.out.trans (hb5.mono HB3b.out.size)
          have hvr := HV.out w3 hB5
          have HRow : Hid (∀ k, k < (varsF t []).length → ∃ gv ov : Nat, av = some ⟨gv, ov, none⟩ ∧ w3.cell? ⟨gv, ov + k, none⟩ = some (.int .i64 ((varsF t []).getD k 0))) := fun k hk => by
            rcases hown.2 with ⟨_, h0⟩ | ⟨gv, cp, cur, e, _⟩
            · omega
            · injection e with e1 e2 e3
              subst e1
              refine ⟨gv, 0, rfl, ?_⟩
              rw [Nat.zero_add, hown.cellAt k (by omega)]
              simp [vals, List.getD_eq_getElem?_getD, hk]
          have HB3 := (show Hid _ from hB5)
          obtain ⟨bb', bo', e', hbl', hbc⟩ : ∃ bb' bo', (some ⟨bb, bo, none⟩ : Option Addr) = some ⟨bb', bo', none⟩ ∧ bb' < w3.heap.size ∧ ∀ i, i < 4 → w3.cell? ⟨bb', bo' + i, none⟩ = some (.int .i64 (bs.getD i 0)) := by
            rcases hvr.2 with h0 | h0
            · omega
            · exact h0
          cases e'
          obtain ⟨V, hVe⟩ : ∃ V, varsF t [] = V := ⟨_, rfl⟩
          have hVl : V.length ≤ 40 := by rw [← hVe]; have := varsF_len t []; simp at this; omega
          rw [hVe] at HRow HMem
          rw [hVe]
          clear HVa3 hown hb5 HB3b hB5 hvr HV hVe
          go_wp2_with fail
          go_loopw [31] (fun i wr => w3 = wr ∧ ∃ (k : Nat), k ≤ V.length ∧ i = .int .i64 k ∧ Hid (∀ j, j < k → 0 ≤ bs.getD (V.getD j 0).toNat 0)) (fun i _ => V.length - (intOf i).toNat)
          case atStart => exact ⟨by first | trivial | rfl, 0, Nat.zero_le _, rfl, fun j hj => absurd hj (Nat.not_lt_zero _)⟩
          case round =>
            obtain ⟨rfl, k, hk, rfl, hall⟩ := hrel
            by_cases hlt : k < V.length
            · obtain ⟨gv, ov, rfl, c0⟩ := HRow.out k hlt
              have hmv := HMem.out.1 (V.getD k 0) (by rw [List.getD_eq_getElem?_getD, List.getElem?_eq_getElem hlt]; exact List.getElem_mem _)
              obtain ⟨m, hm⟩ : ∃ m : Nat, V.getD k 0 = m := ⟨(V.getD k 0).toNat, by omega⟩
              have hkl : (k : Int) < V.length := by omega
              have hm4 : m < 4 := by omega
              have i0 : (0 : Int) ≤ m := by omega
              have i4 : (m : Int) < 4 := by omega
              have c1 := hbc m hm4
              rw [hm] at c0
              obtain ⟨x, hx⟩ : ∃ x, bs.getD m 0 = x := ⟨_, rfl⟩
              rw [hx] at c1
              have HX : Hid (bs.getD (V.getD k 0).toNat 0 = x) := by show _ = _; rw [hm, Int.toNat_natCast, hx]
              have HMm : Hid (V.getD k 0 ∈ V) := by show _ ∈ _; rw [List.getD_eq_getElem?_getD, List.getElem?_eq_getElem hlt]; exact List.getElem_mem _
              clear hm hx hmv hbc
              by_cases hneg : x < 0
              · obtain ⟨-, ⟨y0, y1, y2, y3⟩, hfin⟩ := HC.out _ HB3.out
                have HF := (show Hid _ from hfin)
                clear hall HX HMm HC hfin HRow HMem
                go_wp2
                refine bodyPost_ret (v := .tuple #[.agg #[.slice none 0 0, .slice none 0 0], .int .i64 0, .bool false]) ?_ ?_ ?_
                · simp [results, Tryz.results46, go_sem, *]
                · rfl
                · exact ⟨_, _, rfl, gown_nil _ _ _, HF.out _ _⟩
              · have HA2 : Hid (∀ j, j < k + 1 → 0 ≤ bs.getD (V.getD j 0).toNat 0) := fun j hj => by
                  by_cases e : j = k
                  · rw [e, HX.out]; omega
                  · exact hall.out j (by omega)
                clear hall HX HMm
                go_wp2
                go_roundw
                case rel => exact ⟨by first | trivial | rfl, k + 1, by omega, by go_num, HA2⟩
                case measure => simp [intOf]; omega
            · exfalso
              have : false = true := HMem.out.2.2 fun v hv => by
                obtain ⟨j, hj, rfl⟩ := List.getElem_of_mem hv
                have := hall.out j (by omega)
                have e : V.getD j 0 = V[j] := by rw [List.getD_eq_getElem?_getD, List.getElem?_eq_getElem hj]; rfl
                rw [e] at this
                exact this
              cases this
        | true =>
          rw [hbb] at HMem
          rw [if_pos rfl]
          have hBok := bind_cl hgood hbd hgt hbb
          obtain ⟨tb, tof, rfl, htb, _⟩ := ht.at (by omega)
          have hroot := treeA_root hgt (some bs) (p, l)
          have hst := start_root hp ht1
          have hr := runA_good (b := some bs) t (p, l) [] 1 hp hgood (fun c hc => by cases hc) hBok
          have hrl := runA_len (some bs) t ((p, l), [])
          obtain ⟨R, hR⟩ : ∃ R, runA (some bs) t ((p, l), []) = R := ⟨_, rfl⟩
          rw [hR] at hroot hr hrl ⊢
          have hgr := graphB_of hr.1
          simp only at hrl
          have HO : Hid (∀ W, Below W1.heap.size W1 W → Calls Tryz.prog 73 #[.agg #[.slice a len cap, .slice b lb cb]] W fun e w' => ∃ va vb, e = .returned (.agg #[va, vb]) ∧ GOwn w' false (fun x => W.heap.size ≤ x) va vb (p, l) ∧ Below W.heap.size W w') := fun W hW => l6Own_any a b len cap lb cb p l W ((h.keep hb1).keep hW) ((hl.keep hb1).keep hW) (by omega) (by omega) (fun i hi => good_few hgood i (by simp only; omega))
          have HA : Hid (∀ (W3 W : World) (va vb : Value), Below W1.heap.size W1 W3 → Below W3.heap.size W3 W → GOwn W false (fun x => W3.heap.size ≤ x) va vb (p, l) → Calls Tryz.prog 72 #[.agg #[va, vb], .slice (some ⟨tb, tof, none⟩) tl tc, .int .i64 ((tl - 1 : Nat) : Int), .slice (some ⟨bb, bo, none⟩) 4 bc] W (AddR W (fun x => W3.heap.size ≤ x) R)) := fun W3 W va vb h13 h3W hG => by
            have hB := h13.trans (h3W.mono h13.size)
            have := l6Add_any hp (some bs) tb tof tl tc (some ⟨bb, bo, none⟩) 4 bc (by omega) (tl - 1) (by omega) W (fun x => W3.heap.size ≤ x) va vb (p, l) ((ht.keep hb1).keep hB) hG hgood hBok (.inr ⟨bs, rfl, rfl, (hv.keep hb1).keep hB⟩) (by rw [← htl, hst]; simp only; omega) (by have := h13.size; omega) (fun x hx h => by cases hx; have h : W3.heap.size ≤ bb := h; have := h13.size; omega) (fun x hx => by cases hx; show bb < _; have := hB.size; omega)
            rw [← htl, hroot] at this
            rw [← htl]
            exact this
          have HG2 : Hid (∀ (W : World) (a6 b6 : Option Addr) (ca6 cb6 : Nat), ESl W a6 R.1.1.length R.1.1 → Sl W b6 R.1.2.length R.1.2 → Calls Tryz.prog 42 #[.agg #[.slice a6 R.1.1.length ca6, .slice b6 R.1.2.length cb6]] W fun e w' => e = .returned (.bool (decide (R.1.1.length ≤ 120))) ∧ Below W.heap.size W w') := fun W a6 b6 ca6 cb6 e1 e2 => by
            have := specGraph_any a6 b6 R.1.1.length ca6 R.1.2.length cb6 R.1.1 R.1.2 W e1 e2 (by omega) (by have := hr.1.2.1; omega)
            rw [hgr] at this
            exact this
          have hk1 : (tl : Int) - 1 = ((tl - 1 : Nat) : Int) := by omega
          have HZ : Hid (w.heap.size + 2 = W1.heap.size) := hs1.symm
          obtain ⟨K, hK⟩ : ∃ K, tl - 1 = K := ⟨_, rfl⟩
          rw [hK] at HA hk1
          clear h hl ht hb1 hs1 r0 r1 f0 f1 hv hroot hBok hst hr hgr hR hgood hp hlp hgb hgt hK hrl htb
          unfold roomA
          by_cases h00 : R.1.1.length ≤ 120
          · rw [if_pos h00]
            rw [decide_eq_true h00] at HG2
            go_enter Tryz.func46, Tryz.ntmps46
            go_wp2_with fail
            (try rw [hW1])
            refine Calls.mono HG.out ?_
            rintro e w2 ⟨rfl, hb2⟩
            have HT2 := (show Hid _ from HT.out w2 hb2)
            have HB2 := (show Hid _ from hb2)
            clear HG hW1 HT hb2
            go_wp2_with fail
            refine Calls.mono HT2.out ?_
            rintro e w3a ⟨rfl, hb3⟩
            have hB3 := HB2.out.trans (hb3.mono HB2.out.size)
            obtain ⟨⟨g0, g1⟩, -, -⟩ := HC.out w3a hB3
            have HBi3 := (show Hid _ from HBi.out w3a hB3)
            have HB3a := (show Hid _ from hB3)
            clear HT2 hb3 HB2 hB3 HBi
            go_wp2_with fail
            refine Calls.mono HBi3.out ?_
            rintro e w3b ⟨rfl, hb4⟩
            have hB4 := HB3a.out.trans (hb4.mono HB3a.out.size)
            have HVa3 := (show Hid _ from HVa.out w3b hB4)
            have HB3b := (show Hid _ from hB4)
            clear HBi3 hb4 hB4 HB3a HVa g0 g1
            go_wp2_with fail
            refine Calls.mono HVa3.out ?_
            rintro e w3 ⟨vv, rfl, hown, hb5⟩
            obtain ⟨av, cv, rfl, _⟩ := row_slice hown
            have hB5 := HB3b.out.trans (hb5.mono HB3b.out.size)
            have hvr := HV.out w3 hB5
            have HRow : Hid (∀ k, k < (varsF t []).length → ∃ gv ov : Nat, av = some ⟨gv, ov, none⟩ ∧ w3.cell? ⟨gv, ov + k, none⟩ = some (.int .i64 ((varsF t []).getD k 0))) := fun k hk => by
              rcases hown.2 with ⟨_, h0⟩ | ⟨gv, cp, cur, e, _⟩
              · omega
              · injection e with e1 e2 e3
                subst e1
                refine ⟨gv, 0, rfl, ?_⟩
                rw [Nat.zero_add, hown.cellAt k (by omega)]
                simp [vals, List.getD_eq_getElem?_getD, hk]
            have HB3 := (show Hid _ from hB5)
            obtain ⟨bb', bo', e', hbl', hbc⟩ : ∃ bb' bo', (some ⟨bb, bo, none⟩ : Option Addr) = some ⟨bb', bo', none⟩ ∧ bb' < w3.heap.size ∧ ∀ i, i < 4 → w3.cell? ⟨bb', bo' + i, none⟩ = some (.int .i64 (bs.getD i 0)) := by
              rcases hvr.2 with h0 | h0
              · omega
              · exact h0
            cases e'
            obtain ⟨V, hVe⟩ : ∃ V, varsF t [] = V := ⟨_, rfl⟩
            have hVl : V.length ≤ 40 := by rw [← hVe]; have := varsF_len t []; simp at this; omega
            rw [hVe] at HRow HMem
            rw [hVe]
            clear HVa3 hown hb5 HB3b hB5 hvr HV hVe
            go_wp2_with fail
            go_loopw [31] (fun i wr => w3 = wr ∧ ∃ (k : Nat), k ≤ V.length ∧ i = .int .i64 k ∧ Hid (∀ j, j < k → 0 ≤ bs.getD (V.getD j 0).toNat 0)) (fun i _ => V.length - (intOf i).toNat)
            case atStart => exact ⟨by first | trivial | rfl, 0, Nat.zero_le _, rfl, fun j hj => absurd hj (Nat.not_lt_zero _)⟩
            case round =>
              obtain ⟨rfl, k, hk, rfl, hall⟩ := hrel
              by_cases hlt : k < V.length
              · obtain ⟨gv, ov, rfl, c0⟩ := HRow.out k hlt
                have hmv := HMem.out.1 (V.getD k 0) (by rw [List.getD_eq_getElem?_getD, List.getElem?_eq_getElem hlt]; exact List.getElem_mem _)
                obtain ⟨m, hm⟩ : ∃ m : Nat, V.getD k 0 = m := ⟨(V.getD k 0).toNat, by omega⟩
                have hkl : (k : Int) < V.length := by omega
                have hm4 : m < 4 := by omega
                have i0 : (0 : Int) ≤ m := by omega
                have i4 : (m : Int) < 4 := by omega
                have c1 := hbc m hm4
                rw [hm] at c0
                obtain ⟨x, hx⟩ : ∃ x, bs.getD m 0 = x := ⟨_, rfl⟩
                rw [hx] at c1
                have HX : Hid (bs.getD (V.getD k 0).toNat 0 = x) := by show _ = _; rw [hm, Int.toNat_natCast, hx]
                have HMm : Hid (V.getD k 0 ∈ V) := by show _ ∈ _; rw [List.getD_eq_getElem?_getD, List.getElem?_eq_getElem hlt]; exact List.getElem_mem _
                clear hm hx hmv hbc
                by_cases hneg : x < 0
                · exfalso
                  have := HMem.out.2.1 (by first | trivial | rfl) (V.getD k 0) HMm.out
                  rw [HX.out] at this
                  omega
                · have HA2 : Hid (∀ j, j < k + 1 → 0 ≤ bs.getD (V.getD j 0).toNat 0) := fun j hj => by
                    by_cases e : j = k
                    · rw [e, HX.out]; omega
                    · exact hall.out j (by omega)
                  clear hall HX HMm
                  go_wp2
                  go_roundw
                  case rel => exact ⟨by first | trivial | rfl, k + 1, by omega, by go_num, HA2⟩
                  case measure => simp [intOf]; omega
              · obtain rfl : k = V.length := by omega
                obtain ⟨⟨g0, g1⟩, -, -⟩ := HC.out _ HB3.out
                have HO3 := (show Hid _ from HO.out _ HB3.out)
                clear HO hall HRow HMem hbc hlt hk
                go_wp2_with fail
                refine Calls.mono HO3.out ?_
                rintro e w4 ⟨va, vb, rfl, hG4, hb4⟩
                have HA4 := (show Hid _ from HA.out w3 w4 va vb HB3.out hb4 hG4)
                have HB4 := (show Hid _ from hb4)
                clear HO3 HA hG4 hb4 g0 g1
                go_wp2_with fail
                refine Calls.mono HA4.out ?_
                rintro e w5 ⟨va5, vb5, c5, rfl, hc5, hG5, hk5⟩
                obtain ⟨a6, ca6, b6, cb6, rfl, rfl, hE6, hL6⟩ := hG5.reads
                have hs34 := HB4.out.size
                have hb35 : Below w3.heap.size w3 w5 := HB4.out.trans (hk5.below (fun x _ h => h) hs34)
                have hb36 : Below w3.heap.size w3 (w5.alloc (.cells #[.slice a6 R.1.1.length ca6, .slice b6 R.1.2.length cb6] 36)) := hb35.alloc hb35.size _
                have hbal : Below w5.heap.size w5 (w5.alloc (.cells #[.slice a6 R.1.1.length ca6, .slice b6 R.1.2.length cb6] 36)) := (Below.refl _ _).alloc (Nat.le_refl _) _
                obtain ⟨w6, hw6⟩ : ∃ w6, w5.alloc (.cells #[.slice a6 R.1.1.length ca6, .slice b6 R.1.2.length cb6] 36) = w6 := ⟨_, rfl⟩
                have x0 : w6.cell? ⟨w5.heap.size, 0, none⟩ = some (.slice a6 R.1.1.length ca6) := by rw [← hw6]; simp [go_sem]
                have x1 : w6.cell? ⟨w5.heap.size, 1, none⟩ = some (.slice b6 R.1.2.length cb6) := by rw [← hw6]; simp [go_sem]
                have hs6 : w5.heap.size < w6.heap.size := by rw [← hw6]; simp
                rw [hw6] at hb36 hbal
                have HG6 := (show Hid _ from HG2.out w6 a6 b6 ca6 cb6 (hE6.keep hbal) (hL6.keep hbal))
                have HFN : Hid (∀ W, Below w6.heap.size w6 W → (W.cell? ⟨w.heap.size + 1, 0, none⟩ = some (.slice none 0 0) ∧ W.cell? ⟨w.heap.size + 1, 1, none⟩ = some (.slice none 0 0) ∧ W.frozen? ⟨w.heap.size + 1, 0, none⟩ = false ∧ W.frozen? ⟨w.heap.size + 1, 1, none⟩ = false) ∧ W.cell? ⟨w5.heap.size, 0, none⟩ = some (.slice a6 R.1.1.length ca6) ∧ W.cell? ⟨w5.heap.size, 1, none⟩ = some (.slice b6 R.1.2.length cb6) ∧ ∀ v0 v1, GOwn ((W.setCell ⟨w.heap.size + 1, 0, none⟩ v0).setCell ⟨w.heap.size + 1, 1, none⟩ v1) false (fun x => w.heap.size ≤ x) (.slice a6 R.1.1.length ca6) (.slice b6 R.1.2.length cb6) R.1 ∧ Below w.heap.size w ((W.setCell ⟨w.heap.size + 1, 0, none⟩ v0).setCell ⟨w.heap.size + 1, 1, none⟩ v1)) := fun W hW => by
                  have hX : Below w3.heap.size w3 W := hb36.trans (hW.mono hb36.size)
                  obtain ⟨-, y, z⟩ := HC.out W (HB3.out.trans (hX.mono HB3.out.size))
                  have hs3 := HB3.out.size
                  have hz := HZ.out
                  refine ⟨y, (hW.cell (p := ⟨w5.heap.size, 0, none⟩) hs6).trans x0, (hW.cell (p := ⟨w5.heap.size, 1, none⟩) hs6).trans x1, fun v0 v1 => ⟨?_, z v0 v1⟩⟩
                  refine ((hG5.keep hbal).keep hW).map (by rw [setCell_size, setCell_size]; exact Nat.le_refl _) (fun b' hb' hl => ?_) (fun b' hl hb' => ?_)
                  · have hne : w.heap.size + 1 ≠ b' := by
                      rcases hb' with h | h
                      · omega
                      · omega
                    rw [setCell_block _ _ _ hne, setCell_block _ _ _ hne]
                  · rcases hb' with h | h
                    · omega
                    · omega
                have HC5 : Hid (R.2.getD 0 0 = c5) := by show _ = _; rw [hc5]; rfl
                clear HA4 hG5 hk5 hE6 hL6 hb35 hb36 hbal HG2 HB3 HB4 hc5 hs34 HC
                go_wp2_with fail
                (try rw [hw6])
                refine Calls.mono HG6.out ?_
                rintro e w7 ⟨rfl, hb7⟩
                obtain ⟨⟨y0, y1, y2, y3⟩, y4, y5, hfin⟩ := HFN.out w7 hb7
                have HF := (show Hid _ from hfin)
                clear HG6 HFN hb7 hfin hw6
                go_wp2
                refine bodyPost_ret (v := .tuple #[.agg #[.slice a6 R.1.1.length ca6, .slice b6 R.1.2.length cb6], .int .i64 c5, .bool true]) ?_ ?_ ?_
                · simp [results, Tryz.results46, go_sem, *]
                · rfl
                · refine ⟨_, _, ?_, (HF.out _ _).1, (HF.out _ _).2⟩
                  show Ending.returned _ = Ending.returned (.tuple #[_, .int .i64 (R.2.getD 0 0), .bool true])
                  rw [HC5.out]
          · rw [if_neg h00]
            rw [decide_eq_false h00] at HG2
            go_enter Tryz.func46, Tryz.ntmps46
            go_wp2_with fail
            (try rw [hW1])
            refine Calls.mono HG.out ?_
            rintro e w2 ⟨rfl, hb2⟩
            have HT2 := (show Hid _ from HT.out w2 hb2)
            have HB2 := (show Hid _ from hb2)
            clear HG hW1 HT hb2
            go_wp2_with fail
            refine Calls.mono HT2.out ?_
            rintro e w3a ⟨rfl, hb3⟩
            have hB3 := HB2.out.trans (hb3.mono HB2.out.size)
            obtain ⟨⟨g0, g1⟩, -, -⟩ := HC.out w3a hB3
            have HBi3 := (show Hid _ from HBi.out w3a hB3)
            have HB3a := (show Hid _ from hB3)
            clear HT2 hb3 HB2 hB3 HBi
            go_wp2_with fail
            refine Calls.mono HBi3.out ?_
            rintro e w3b ⟨rfl, hb4⟩
            have hB4 := HB3a.out.trans (hb4.mono HB3a.out.size)
            have HVa3 := (show Hid _ from HVa.out w3b hB4)
            have HB3b := (show Hid _ from hB4)
            clear HBi3 hb4 hB4 HB3a HVa g0 g1
            go_wp2_with fail
            refine Calls.mono HVa3.out ?_
            rintro e w3 ⟨vv, rfl, hown, hb5⟩
            obtain ⟨av, cv, rfl, _⟩ := row_slice hown
            have hB5 := HB3b.out.trans (hb5.mono HB3b.out.size)
            have hvr := HV.out w3 hB5
            have HRow : Hid (∀ k, k < (varsF t []).length → ∃ gv ov : Nat, av = some ⟨gv, ov, none⟩ ∧ w3.cell? ⟨gv, ov + k, none⟩ = some (.int .i64 ((varsF t []).getD k 0))) := fun k hk => by
              rcases hown.2 with ⟨_, h0⟩ | ⟨gv, cp, cur, e, _⟩
              · omega
              · injection e with e1 e2 e3
                subst e1
                refine ⟨gv, 0, rfl, ?_⟩
                rw [Nat.zero_add, hown.cellAt k (by omega)]
                simp [vals, List.getD_eq_getElem?_getD, hk]
            have HB3 := (show Hid _ from hB5)
            obtain ⟨bb', bo', e', hbl', hbc⟩ : ∃ bb' bo', (some ⟨bb, bo, none⟩ : Option Addr) = some ⟨bb', bo', none⟩ ∧ bb' < w3.heap.size ∧ ∀ i, i < 4 → w3.cell? ⟨bb', bo' + i, none⟩ = some (.int .i64 (bs.getD i 0)) := by
              rcases hvr.2 with h0 | h0
              · omega
              · exact h0
            cases e'
            obtain ⟨V, hVe⟩ : ∃ V, varsF t [] = V := ⟨_, rfl⟩
            have hVl : V.length ≤ 40 := by rw [← hVe]; have := varsF_len t []; simp at this; omega
            rw [hVe] at HRow HMem
            rw [hVe]
            clear HVa3 hown hb5 HB3b hB5 hvr HV hVe
            go_wp2_with fail
            go_loopw [31] (fun i wr => w3 = wr ∧ ∃ (k : Nat), k ≤ V.length ∧ i = .int .i64 k ∧ Hid (∀ j, j < k → 0 ≤ bs.getD (V.getD j 0).toNat 0)) (fun i _ => V.length - (intOf i).toNat)
            case atStart => exact ⟨by first | trivial | rfl, 0, Nat.zero_le _, rfl, fun j hj => absurd hj (Nat.not_lt_zero _)⟩
            case round =>
              obtain ⟨rfl, k, hk, rfl, hall⟩ := hrel
              by_cases hlt : k < V.length
              · obtain ⟨gv, ov, rfl, c0⟩ := HRow.out k hlt
                have hmv := HMem.out.1 (V.getD k 0) (by rw [List.getD_eq_getElem?_getD, List.getElem?_eq_getElem hlt]; exact List.getElem_mem _)
                obtain ⟨m, hm⟩ : ∃ m : Nat, V.getD k 0 = m := ⟨(V.getD k 0).toNat, by omega⟩
                have hkl : (k : Int) < V.length := by omega
                have hm4 : m < 4 := by omega
                have i0 : (0 : Int) ≤ m := by omega
                have i4 : (m : Int) < 4 := by omega
                have c1 := hbc m hm4
                rw [hm] at c0
                obtain ⟨x, hx⟩ : ∃ x, bs.getD m 0 = x := ⟨_, rfl⟩
                rw [hx] at c1
                have HX : Hid (bs.getD (V.getD k 0).toNat 0 = x) := by show _ = _; rw [hm, Int.toNat_natCast, hx]
                have HMm : Hid (V.getD k 0 ∈ V) := by show _ ∈ _; rw [List.getD_eq_getElem?_getD, List.getElem?_eq_getElem hlt]; exact List.getElem_mem _
                clear hm hx hmv hbc
                by_cases hneg : x < 0
                · exfalso
                  have := HMem.out.2.1 (by first | trivial | rfl) (V.getD k 0) HMm.out
                  rw [HX.out] at this
                  omega
                · have HA2 : Hid (∀ j, j < k + 1 → 0 ≤ bs.getD (V.getD j 0).toNat 0) := fun j hj => by
                    by_cases e : j = k
                    · rw [e, HX.out]; omega
                    · exact hall.out j (by omega)
                  clear hall HX HMm
                  go_wp2
                  go_roundw
                  case rel => exact ⟨by first | trivial | rfl, k + 1, by omega, by go_num, HA2⟩
                  case measure => simp [intOf]; omega
              · obtain rfl : k = V.length := by omega
                obtain ⟨⟨g0, g1⟩, -, -⟩ := HC.out _ HB3.out
                have HO3 := (show Hid _ from HO.out _ HB3.out)
                clear HO hall HRow HMem hbc hlt hk
                go_wp2_with fail
                refine Calls.mono HO3.out ?_
                rintro e w4 ⟨va, vb, rfl, hG4, hb4⟩
                have HA4 := (show Hid _ from HA.out w3 w4 va vb HB3.out hb4 hG4)
                have HB4 := (show Hid _ from hb4)
                clear HO3 HA hG4 hb4 g0 g1
                go_wp2_with fail
                refine Calls.mono HA4.out ?_
                rintro e w5 ⟨va5, vb5, c5, rfl, hc5, hG5, hk5⟩
                obtain ⟨a6, ca6, b6, cb6, rfl, rfl, hE6, hL6⟩ := hG5.reads
                have hs34 := HB4.out.size
                have hb35 : Below w3.heap.size w3 w5 := HB4.out.trans (hk5.below (fun x _ h => h) hs34)
                have hb36 : Below w3.heap.size w3 (w5.alloc (.cells #[.slice a6 R.1.1.length ca6, .slice b6 R.1.2.length cb6] 36)) := hb35.alloc hb35.size _
                have hbal : Below w5.heap.size w5 (w5.alloc (.cells #[.slice a6 R.1.1.length ca6, .slice b6 R.1.2.length cb6] 36)) := (Below.refl _ _).alloc (Nat.le_refl _) _
                obtain ⟨w6, hw6⟩ : ∃ w6, w5.alloc (.cells #[.slice a6 R.1.1.length ca6, .slice b6 R.1.2.length cb6] 36) = w6 := ⟨_, rfl⟩
                have x0 : w6.cell? ⟨w5.heap.size, 0, none⟩ = some (.slice a6 R.1.1.length ca6) := by rw [← hw6]; simp [go_sem]
                have x1 : w6.cell? ⟨w5.heap.size, 1, none⟩ = some (.slice b6 R.1.2.length cb6) := by rw [← hw6]; simp [go_sem]
                have hs6 : w5.heap.size < w6.heap.size := by rw [← hw6]; simp
                rw [hw6] at hb36 hbal
                have HG6 := (show Hid _ from HG2.out w6 a6 b6 ca6 cb6 (hE6.keep hbal) (hL6.keep hbal))
                have HFN : Hid (∀ W, Below w6.heap.size w6 W → (W.cell? ⟨w.heap.size + 1, 0, none⟩ = some (.slice none 0 0) ∧ W.cell? ⟨w.heap.size + 1, 1, none⟩ = some (.slice none 0 0) ∧ W.frozen? ⟨w.heap.size + 1, 0, none⟩ = false ∧ W.frozen? ⟨w.heap.size + 1, 1, none⟩ = false) ∧ W.cell? ⟨w5.heap.size, 0, none⟩ = some (.slice a6 R.1.1.length ca6) ∧ W.cell? ⟨w5.heap.size, 1, none⟩ = some (.slice b6 R.1.2.length cb6) ∧ ∀ v0 v1, GOwn ((W.setCell ⟨w.heap.size + 1, 0, none⟩ v0).setCell ⟨w.heap.size + 1, 1, none⟩ v1) false (fun x => w.heap.size ≤ x) (.slice a6 R.1.1.length ca6) (.slice b6 R.1.2.length cb6) R.1 ∧ Below w.heap.size w ((W.setCell ⟨w.heap.size + 1, 0, none⟩ v0).setCell ⟨w.heap.size + 1, 1, none⟩ v1)) := fun W hW => by
                  have hX : Below w3.heap.size w3 W := hb36.trans (hW.mono hb36.size)
                  obtain ⟨-, y, z⟩ := HC.out W (HB3.out.trans (hX.mono HB3.out.size))
                  have hs3 := HB3.out.size
                  have hz := HZ.out
                  refine ⟨y, (hW.cell (p := ⟨w5.heap.size, 0, none⟩) hs6).trans x0, (hW.cell (p := ⟨w5.heap.size, 1, none⟩) hs6).trans x1, fun v0 v1 => ⟨?_, z v0 v1⟩⟩
                  refine ((hG5.keep hbal).keep hW).map (by rw [setCell_size, setCell_size]; exact Nat.le_refl _) (fun b' hb' hl => ?_) (fun b' hl hb' => ?_)
                  · have hne : w.heap.size + 1 ≠ b' := by
                      rcases hb' with h | h
                      · omega
                      · omega
                    rw [setCell_block _ _ _ hne, setCell_block _ _ _ hne]
                  · rcases hb' with h | h
                    · omega
                    · omega
                have HC5 : Hid (R.2.getD 0 0 = c5) := by show _ = _; rw [hc5]; rfl
                clear HA4 hG5 hk5 hE6 hL6 hb35 hb36 hbal HG2 HB3 HB4 hc5 hs34 HC
                go_wp2_with fail
                (try rw [hw6])
                refine Calls.mono HG6.out ?_
                rintro e w7 ⟨rfl, hb7⟩
                obtain ⟨⟨y0, y1, y2, y3⟩, y4, y5, hfin⟩ := HFN.out w7 hb7
                have HF := (show Hid _ from hfin)
                clear HG6 HFN hb7 hfin hw6
                go_wp2
                refine bodyPost_ret (v := .tuple #[.agg #[.slice none 0 0, .slice none 0 0], .int .i64 0, .bool false]) ?_ ?_ ?_
                · simp [results, Tryz.results46, go_sem, *]
                · rfl
                · exact ⟨_, _, rfl, gown_nil _ _ _, (HF.out _ _).2⟩
end Go.Proofs.YtobgkfpjokfbaaaGreatDoor
