/-
  PROVED HERE: what the program's comparing of powers answers, the least and the greatest of four numbers, and its look at a product. No other condition. what cloning four numbers leaves. No other condition. what the library's sort, with the program's comparing, leaves of a row of products. No other condition. how the program's products lie when they are taken out of the map, and what a step of a range over the map gives. No condition.
-/
import Derived.Test.YtkadanagmahhgaaGreatDoorRun25
import Derived.Test.YtkadanagmahhgaaGreatDoorRun1
import Derived.Lib.SliceRun
import Derived.Shelf.SlSortCmp.NoneTotal
import Derived.Shelf.Lay
import Derived.Ground.SlsfProg
import Derived.Test.YtkadanagmahhgaaGreatDoorRun28
import Derived.Test.YtkadanagmahhgaaGreatDoorRun24
namespace Go.Proofs.YtkadanagmahhgaaGreatDoor
open Go.ChangeShapes Go.WideShapes Go.ChangeAt Go.RowKit
set_option linter.unusedVariables false

def cmp1 (x y : Int) : Int := if x < y then -1 else if y < x then 1 else 0
theorem cmp1_any (x y : Int) (w : World) :
    Calls Tryz.prog 171 #[.int .i64 x, .int .i64 y] w fun e w' => e = .returned (.int .i64 (cmp1 x y)) ∧ w' = w := by
  have hx : (x != x) = false := by simp
  have hy : (y != y) = false := by simp
  unfold cmp1
  by_cases h1 : x < y
  · rw [if_pos h1]
    go_enter Tryz.func171, Tryz.ntmps171
    go_wp2
    go_ret
    exact ⟨rfl, rfl⟩
  · rw [if_neg h1]
    by_cases h2 : y < x
    · rw [if_pos h2]
      go_enter Tryz.func171, Tryz.ntmps171
      go_wp2
      go_ret
      exact ⟨rfl, rfl⟩
    · rw [if_neg h2]
      go_enter Tryz.func171, Tryz.ntmps171
      go_wp2
      go_ret
      exact ⟨rfl, rfl⟩
set_option maxHeartbeats 1600000 in
theorem slcmp_any (a b : Option Addr) (len ca cb : Nat) (ea eb : List Int) (w : World) (ha : Sl w a len ea) (hb : Sl w b len eb) (hm : len ≤ 1048576) :
    Calls Tryz.prog 159 #[.slice a len ca, .slice b len cb] w fun e w' => e = .returned (.int .i64 (cmpL ea eb)) ∧ w' = w := by
  have hla := ha.1
  have hlb := hb.1
  go_enter Tryz.func159, Tryz.ntmps159
  go_wp2_with fail
  go_loopw [11] (fun i wr => ∃ k : Nat, k ≤ len ∧ i = .int .i64 (k : Int) ∧ wr = w ∧ Hid (cmpL (ea.drop k) (eb.drop k) = cmpL ea eb)) (fun i _ => len - (intOf i).toNat)
  case atStart => exact ⟨0, Nat.zero_le _, rfl, rfl, rfl⟩
  case round =>
    obtain ⟨k, hk, rfl, rfl, hT⟩ := hrel
    by_cases hlt : k < len
    · obtain ⟨b1, o1, rfl, hc1⟩ := cells_of ha (by omega)
      obtain ⟨b2, o2, rfl, hc2⟩ := cells_of hb (by omega)
      have c1 := hc1 k hlt
      have c2 := hc2 k hlt
      have hst := cmp_drop ea eb k (by omega) (by omega)
      rw [hT.out] at hst
      have HS : Hid (cmpL ea eb = if ea.getD k 0 < eb.getD k 0 then -1 else if eb.getD k 0 < ea.getD k 0 then 1 else cmpL (ea.drop (k + 1)) (eb.drop (k + 1))) := hst
      clear hst hT hc1 hc2 ha hb
      generalize ea.getD k 0 = x at c1 HS
      generalize eb.getD k 0 = y at c2 HS
      have i1 : (k : Int) < len := by omega
      have i2 : ¬ (len : Int) ≤ k := by omega
      have HC : Hid (∀ W, Calls Tryz.prog 171 #[.int .i64 x, .int .i64 y] W fun e w' => e = .returned (.int .i64 (cmp1 x y)) ∧ w' = W) := fun W => cmp1_any x y W
      obtain ⟨c, hc⟩ : ∃ c, cmp1 x y = c := ⟨_, rfl⟩
      rw [hc] at HC
      by_cases h0 : c = 0
      · have HN : Hid (cmpL (ea.drop (k + 1)) (eb.drop (k + 1)) = cmpL ea eb) := by
          have := HS.out
          show _ = _
          rw [this]
          unfold cmp1 at hc
          split at hc
          · omega
          · split at hc
            · omega
            · rw [if_neg ‹_›, if_neg ‹_›]
        have hz : (c != 0) = false := by simp [h0]
        clear HS h0 hc
        go_wp2_with fail
        refine Calls.mono (HC.out _) ?_
        rintro e w1 ⟨rfl, rfl⟩
        clear HC
        go_wp2
        exact ⟨⟨k + 1, by omega, by go_num, by first | trivial | rfl, HN⟩, by simp [intOf]; omega⟩
      · have HN : Hid (cmpL ea eb = c) := by
          have := HS.out
          show _ = _
          rw [this]
          unfold cmp1 at hc
          split at hc
          · rw [if_pos ‹_›]; exact hc
          · split at hc
            · rw [if_neg ‹_›, if_pos ‹_›]; exact hc
            · omega
        have hz : (c != 0) = true := by simpa using h0
        clear HS h0 hc
        go_wp2_with fail
        refine Calls.mono (HC.out _) ?_
        rintro e w1 ⟨rfl, rfl⟩
        clear HC
        go_wp2
        go_ret
        exact ⟨by rw [HN.out]; rfl, rfl⟩
    · obtain rfl : k = len := by omega
      have e0 : cmpL ea eb = 0 := by rw [← hT.out, ← hla]; exact cmp_end ea _
      clear hT
      have hll : ¬ (k : Int) < k := by omega
      go_wp2
      go_ret
      exact ⟨by first | rfl | (rw [e0]; rfl), rfl⟩
theorem min4_any (b off c : Nat) (x0 x1 x2 x3 : Int) (w : World) (h0 : w.cell? ⟨b, off, none⟩ = some (.int .i64 x0)) (h1 : w.cell? ⟨b, off + 1, none⟩ = some (.int .i64 x1)) (h2 : w.cell? ⟨b, off + 2, none⟩ = some (.int .i64 x2)) (h3 : w.cell? ⟨b, off + 3, none⟩ = some (.int .i64 x3)) :
    Calls Tryz.prog 194 #[.slice (some ⟨b, off, none⟩) 4 c] w fun e w' => e = .returned (.int .i64 (min (min (min x0 x1) x2) x3)) ∧ w' = w := by
  go_enter Tryz.func194, Tryz.ntmps194
  go_wp2_with fail
  refine wp_loop_rounds 4 ?_
  rw [rounds_succ]; go_wp2
  all_goals (rw [rounds_succ]; go_wp2)
  all_goals (rw [rounds_succ]; go_wp2)
  all_goals (rw [rounds_succ]; go_wp2)
  all_goals (go_ret; exact ⟨ret_int (by omega), rfl⟩)
theorem max4_any (b off c : Nat) (x0 x1 x2 x3 : Int) (w : World) (h0 : w.cell? ⟨b, off, none⟩ = some (.int .i64 x0)) (h1 : w.cell? ⟨b, off + 1, none⟩ = some (.int .i64 x1)) (h2 : w.cell? ⟨b, off + 2, none⟩ = some (.int .i64 x2)) (h3 : w.cell? ⟨b, off + 3, none⟩ = some (.int .i64 x3)) :
    Calls Tryz.prog 195 #[.slice (some ⟨b, off, none⟩) 4 c] w fun e w' => e = .returned (.int .i64 (max (max (max x0 x1) x2) x3)) ∧ w' = w := by
  go_enter Tryz.func195, Tryz.ntmps195
  go_wp2_with fail
  refine wp_loop_rounds 4 ?_
  rw [rounds_succ]; go_wp2
  all_goals (rw [rounds_succ]; go_wp2)
  all_goals (rw [rounds_succ]; go_wp2)
  all_goals (rw [rounds_succ]; go_wp2)
  all_goals (go_ret; exact ⟨ret_int (by omega), rfl⟩)
/-- Is a product good by itself? -/
def goodM (m : Mon) : Bool := powB m.1 && (m.2 != 0)
theorem fit_goodM (prev : Option (List Int)) (m : Mon) : fitM prev m = (goodM m && (match prev with | some e => decide (0 < cmpL e m.1) | none => true)) := rfl
theorem four (e : List Int) (h : e.length = 4) : e = [e.getD 0 0, e.getD 1 0, e.getD 2 0, e.getD 3 0] := by
  match e, h with
  | [a, b, c, d], _ => rfl
set_option maxHeartbeats 1600000 in
theorem goodM_any (a : Option Addr) (la ca : Nat) (e : List Int) (n : Int) (w : World) (ha : Sl w a la e) (hm : la ≤ 9223372036854775807) :
    Calls Tryz.prog 172 #[.agg #[.slice a la ca, .int .i64 n]] w fun r w' => r = .returned (.bool (goodM (e, n))) ∧ Below w.heap.size w w' := by
  have hla := ha.1
  by_cases h4 : la = 4
  · subst h4
    by_cases hn : n = 0
    · have e0 : goodM (e, n) = false := by unfold goodM; rw [hn]; simp
      rw [e0]
      subst hn
      go_enter Tryz.func172, Tryz.ntmps172
      go_wp2
      go_ret
      exact ⟨rfl, by go_grown⟩
    · have hz : (n == 0) = false := by simpa using hn
      obtain ⟨b, off, rfl, hc⟩ := cells_of ha (by omega)
      obtain ⟨W1, hW1⟩ : ∃ W1, w.alloc (.cells #[.slice (some ⟨b, off, none⟩) 4 ca, .int .i64 n] 100) = W1 := ⟨_, rfl⟩
      have hb1 : Below w.heap.size w W1 := by rw [← hW1]; exact (Below.refl _ _).alloc (Nat.le_refl _) _
      have n0 : W1.cell? ⟨w.heap.size, 0, none⟩ = some (.slice (some ⟨b, off, none⟩) 4 ca) := by rw [← hW1]; simp [go_sem]
      have n1 : W1.cell? ⟨w.heap.size, 1, none⟩ = some (.int .i64 n) := by rw [← hW1]; simp [go_sem]
      have hS := ha.keep hb1
      obtain ⟨b', off', e', hc'⟩ := cells_of hS (by omega)
      cases e'
      have H0 := hc' 0 (by omega)
      have H1 := hc' 1 (by omega)
      have H2 := hc' 2 (by omega)
      have H3 := hc' 3 (by omega)
      have h4e := four e hla
      have hG : goodM (e, n) = (decide (0 ≤ min (min (min (e.getD 0 0) (e.getD 1 0)) (e.getD 2 0)) (e.getD 3 0)) && decide (max (max (max (e.getD 0 0) (e.getD 1 0)) (e.getD 2 0)) (e.getD 3 0) ≤ 9)) := by
        unfold goodM powB
        rw [hla, show (n != 0) = true from by simpa using hn]
        conv => lhs; rw [h4e]
        generalize e.getD 0 0 = x0
        generalize e.getD 1 0 = x1
        generalize e.getD 2 0 = x2
        generalize e.getD 3 0 = x3
        rw [Bool.eq_iff_iff]
        simp [allB]
        omega
      rw [hG]
      generalize e.getD 0 0 = x0 at H0
      generalize e.getD 1 0 = x1 at H1
      generalize e.getD 2 0 = x2 at H2
      generalize e.getD 3 0 = x3 at H3
      rw [Nat.add_zero] at H0
      have HMi : Hid (Calls Tryz.prog 194 #[.slice (some ⟨b, off, none⟩) 4 ca] W1 fun e w' => e = .returned (.int .i64 (min (min (min x0 x1) x2) x3)) ∧ w' = W1) := min4_any b off ca x0 x1 x2 x3 _ H0 H1 H2 H3
      have HMa : Hid (Calls Tryz.prog 195 #[.slice (some ⟨b, off, none⟩) 4 ca] W1 fun e w' => e = .returned (.int .i64 (max (max (max x0 x1) x2) x3)) ∧ w' = W1) := max4_any b off ca x0 x1 x2 x3 _ H0 H1 H2 H3
      generalize min (min (min x0 x1) x2) x3 = mi at HMi ⊢
      generalize max (max (max x0 x1) x2) x3 = ma at HMa ⊢
      clear H0 H1 H2 H3 hG h4e hc hc' hS ha hn
      by_cases h0 : 0 ≤ mi
      · have q0 : decide (0 ≤ mi) = true := decide_eq_true h0
        by_cases h9 : ma ≤ 9
        · have q9 : decide (ma ≤ 9) = true := decide_eq_true h9
          rw [q0, q9]
          go_enter Tryz.func172, Tryz.ntmps172
          go_wp2_with fail
          (try rw [hW1])
          refine Calls.mono HMi.out ?_
          rintro e w1 ⟨rfl, rfl⟩
          go_wp2_with fail
          refine Calls.mono HMa.out ?_
          rintro e w1 ⟨rfl, rfl⟩
          go_wp2
          go_ret
          exact ⟨by first | rfl | simp [q0, q9], hb1⟩
        · have q9 : decide (ma ≤ 9) = false := decide_eq_false h9
          rw [q0, q9]
          go_enter Tryz.func172, Tryz.ntmps172
          go_wp2_with fail
          (try rw [hW1])
          refine Calls.mono HMi.out ?_
          rintro e w1 ⟨rfl, rfl⟩
          go_wp2_with fail
          refine Calls.mono HMa.out ?_
          rintro e w1 ⟨rfl, rfl⟩
          go_wp2
          go_ret
          exact ⟨by first | rfl | simp [q0, q9], hb1⟩
      · have q0 : decide (0 ≤ mi) = false := decide_eq_false h0
        rw [q0]
        go_enter Tryz.func172, Tryz.ntmps172
        go_wp2_with fail
        (try rw [hW1])
        refine Calls.mono HMi.out ?_
        rintro e w1 ⟨rfl, rfl⟩
        go_wp2
        go_ret
        exact ⟨rfl, hb1⟩
  · have e0 : goodM (e, n) = false := by unfold goodM powB; rw [hla, decide_eq_false h4]; rfl
    rw [e0]
    have h' : ((la : Int) != 4) = true := by simp; omega
    go_enter Tryz.func172, Tryz.ntmps172
    go_wp2
    go_ret
    exact ⟨rfl, by go_grown⟩
end Go.Proofs.YtkadanagmahhgaaGreatDoor
namespace Go.Proofs.YtkadanagmahhgaaGreatDoor
open Go.ChangeShapes Go.WideShapes Go.ChangeAt Go.RowKit
set_option linter.unusedVariables false

/-- Four numbers in a block of their own. -/
def Pow4 (w : World) (g : Nat) (e : List Int) : Prop := e.length = 4 ∧ ∀ i, i < 4 → w.cell? ⟨g, i, none⟩ = some (.int .i64 (e.getD i 0)) ∧ w.frozen? ⟨g, i, none⟩ = false
theorem Pow4.block {w w' : World} {g : Nat} {e : List Int} (h : Pow4 w g e) (hb : w'.heap[g]? = w.heap[g]?) : Pow4 w' g e :=
  ⟨h.1, fun i hi => ⟨(World.cell?_of_block (a := ⟨g, i, none⟩) hb).trans (h.2 i hi).1, (World.frozen?_of_block (a := ⟨g, i, none⟩) hb).trans (h.2 i hi).2⟩⟩
theorem empty4 (w : World) : (w.alloc (.cells #[] 3)).ownsRow w.heap.size 3 1 (.slice (some ⟨w.heap.size, 0, none⟩) 0 0) 0 [] :=
  ⟨rfl, .inr ⟨w.heap.size, 0, #[], rfl, Nat.le_refl _, by unfold World.alloc; exact Array.getElem?_push_size, by omega, by unfold maxLen; omega, rfl, rfl⟩⟩
theorem clone4_any (b off c : Nat) (e : List Int) (w : World) (h : Sl w (some ⟨b, off, none⟩) 4 e) :
    Calls Tryz.prog 156 #[.slice (some ⟨b, off, none⟩) 4 c] w fun r w' => ∃ g cap, r = .returned (.slice (some ⟨g, 0, none⟩) 4 cap) ∧ 4 ≤ cap ∧ w.heap.size ≤ g ∧ g < w'.heap.size ∧ Pow4 w' g e ∧ Below w.heap.size w w' := by
  obtain ⟨i0, hi, hz0, hz1, hz2⟩ := info_parts infoInt
  have h4 := h.1
  have hb0 : Below w.heap.size w (w.alloc (.cells #[] 3)) := (Below.refl _ _).alloc (Nat.le_refl _) _
  have hcs := sl_cells (h.keep hb0) 0 4 (by omega)
  rw [List.drop_zero, List.take_of_length_le (by omega), Nat.add_zero] at hcs
  have HC := (show Hid _ from hcs)
  have H1 : Hid (∀ u ∈ vals e, u.oneCell' = true) := vals_one e
  have hvl : (vals e).length = 4 * 1 := by rw [vals_len]; omega
  have q : ∀ (w : World) (a : Option Addr) (n c n' c' : Nat), (binOp .eql 62 (.slice a n c) (.slice none n' c')).run Tryz.prog w = .ok (.bool a.isNone) w := fun w a n c n' c' => Lib.run_eql_slice_nil w _ _ a n c n' c' Tryz.underlying62
  clear hcs h
  go_enter Tryz.func156, Tryz.ntmps156
  go_wp2_with (at_builtin; refine wpList_append_own _ rfl _ _ 62 rfl w.heap.size 3 i0 (.int .i64 0) 1 8 Tryz.underlying62 hi hz0 hz1 hz2 rfl (by decide) _ _ _ rfl (empty4 w) ⟨b, off, none⟩ 4 c (vals e) rfl hvl HC.out H1.out (by unfold maxLen; omega) (by omega) (by simp) ?_; intro v' w4 hown4 hg4 _)
  go_ret
  rw [Nat.zero_add, List.nil_append] at hown4
  rcases hown4.2 with ⟨_, h00⟩ | ⟨g, cap, cur, hv, hbg, hg, hcap, _⟩
  · omega
  · subst hv
    refine ⟨g, cap, rfl, hcap, hbg, Array.getElem?_eq_some_iff.1 hg |>.1, ⟨h4, fun i hi => ⟨?_, hown4.frozenAt i⟩⟩, hb0.grown hg4 (by simp) (fun r hr => by cases hr; exact Nat.le_refl _)⟩
    rw [hown4.cellAt i (by omega)]
    simp [vals, List.getD_eq_getElem?_getD, List.getElem?_eq_getElem (show i < e.length by omega)]
end Go.Proofs.YtkadanagmahhgaaGreatDoor
namespace Go.Proofs
open Go.Shelf Go.RowKit Go.Lib Go.Sort
shelf_lay_g SlLaysF0.n6 Slsf 6 at Tryz 157 as Tryz.sortMono
end Go.Proofs
namespace Go.Proofs.YtkadanagmahhgaaGreatDoor
open Go.Shelf Go.RowKit Go.Lib Go.Sort
set_option linter.unusedVariables false

/-- A product in a row: the block of its powers, how much room there is, the powers, the number. -/
abbrev Cel := Nat × Nat × List Int × Int
def encT (t : Cel) : List Value := [.slice (some ⟨t.1, 0, none⟩) 4 t.2.1, .int .i64 t.2.2.2]
def ElP (W : World) (g lo : Nat) (t : Cel) : Prop := lo ≤ t.1 ∧ t.1 < W.heap.size ∧ t.1 ≠ g ∧ 4 ≤ t.2.1 ∧ Pow4 W t.1 t.2.2.1
def El (W : World) (g lo : Nat) : Type := {t : Cel // ElP W g lo t}
def encE {W : World} {g lo : Nat} (x : El W g lo) : List Value := encT x.1
def cfE {W : World} {g lo : Nat} (x y : El W g lo) : Int := cmpL y.1.2.2.1 x.1.2.2.1
theorem lt_iff {W : World} {g lo : Nat} (x y : El W g lo) : ltOf cfE x y = decide (cmpL x.1.2.2.1 y.1.2.2.1 = 1) := by
  unfold ltOf cfE
  rw [cmp_swap]
  rcases cmp_range x.1.2.2.1 y.1.2.2.1 with h | h | h <;> rw [h] <;> rfl
theorem swoE (W : World) (g lo : Nat) : SWO (ltOf (cfE (W := W) (g := g) (lo := lo))) where
  irrefl x := by rw [lt_iff, cmp_self]; rfl
  trans x y z h1 h2 := by
    rw [lt_iff] at *
    have l : ∀ v : El W g lo, v.1.2.2.1.length = 4 := fun v => v.2.2.2.2.2.1
    exact decide_eq_true (cmp_trans (by rw [l x, l y]) (by rw [l y, l z]) (of_decide_eq_true h1) (of_decide_eq_true h2))
  ntrans x y z h1 h2 := by
    rw [lt_iff] at *
    have l : ∀ v : El W g lo, v.1.2.2.1.length = 4 := fun v => v.2.2.2.2.2.1
    have h1' := of_decide_eq_false h1
    have h2' := of_decide_eq_false h2
    refine decide_eq_false fun h => ?_
    rcases cmp_range x.1.2.2.1 y.1.2.2.1 with c | c | c
    · have : cmpL y.1.2.2.1 x.1.2.2.1 = 1 := by rw [cmp_swap, c]; rfl
      exact h2' (cmp_trans (by rw [l y, l x]) (by rw [l x, l z]) this h)
    · rw [cmp_eq (by rw [l x, l y]) c] at h
      exact h2' h
    · exact h1' c
theorem sortW_block {α : Type} [Inhabited α] (enc : α → List Value) (w : World) (g m : Nat) (d : Array α) (os : Array Obj) (x : Nat) (hx : x < w.heap.size) (hne : x ≠ g) : (sortWorldK enc 2 w g 0 m d os).heap[x]? = w.heap[x]? := by
  unfold sortWorldK
  rw [Go.Sort.heap_grow_old _ _ (by unfold putRowK; rw [Go.Sort.size_putRow]; exact hx)]
  unfold putRowK putRow mapBlock Go.Sort.ahead
  simp [Array.getElem?_modify, Ne.symm hne]
theorem sortW_size {α : Type} [Inhabited α] (enc : α → List Value) (w : World) (g m : Nat) (d : Array α) (os : Array Obj) : w.heap.size ≤ (sortWorldK enc 2 w g 0 m d os).heap.size := by
  unfold sortWorldK putRowK
  have : (putRow id (Go.Sort.ahead w m) g 0 (flatK enc 2 d)).heap.size = w.heap.size := by rw [Go.Sort.size_putRow]; rfl
  unfold grow
  simp only [Array.size_append]
  omega
theorem sortW_grown {α : Type} [Inhabited α] (enc : α → List Value) (w : World) (g m : Nat) (d : Array α) (os : Array Obj) : w.grownBy (sortWorldK enc 2 w g 0 m d os) (some g) :=
  ⟨rfl, rfl, rfl, sortW_size enc w g m d os, fun k hk hne => sortW_block enc w g m d os k hk (fun e => hne (by rw [e]))⟩
set_option maxHeartbeats 1000000 in
theorem closure_any (b1 c1 b2 c2 : Nat) (e f : List Int) (n m : Int) (W : World) (h1 : Pow4 W b1 e) (h2 : Pow4 W b2 f) :
    Calls Tryz.prog 158 #[.agg #[.slice (some ⟨b1, 0, none⟩) 4 c1, .int .i64 n], .agg #[.slice (some ⟨b2, 0, none⟩) 4 c2, .int .i64 m]] W fun r w' => r = .returned (.int .i64 (cmpL f e)) ∧ ∃ q os', w' = grow (W.drewN q) os' := by
  have hl1 : b1 < W.heap.size := World.block_lt_of_cell? W _ (h1.2 0 (by omega)).1
  have hl2 : b2 < W.heap.size := World.block_lt_of_cell? W _ (h2.2 0 (by omega)).1
  obtain ⟨W2, hW2⟩ : ∃ W2, (W.alloc (.cells #[.slice (some ⟨b1, 0, none⟩) 4 c1, .int .i64 n] 100)).alloc (.cells #[.slice (some ⟨b2, 0, none⟩) 4 c2, .int .i64 m] 100) = W2 := ⟨_, rfl⟩
  have hb : Below W.heap.size W W2 := by rw [← hW2]; exact ((Below.refl _ _).alloc (Nat.le_refl _) _).alloc (by simp) _
  have hs : ∀ {b : Nat} {e : List Int}, Pow4 W b e → b < W.heap.size → Sl W2 (some ⟨b, 0, none⟩) 4 e := fun {b e} h hl => (show Sl W (some ⟨b, 0, none⟩) 4 e from ⟨h.1, .inr ⟨b, 0, rfl, hl, fun i hi => by rw [Nat.zero_add]; exact (h.2 i hi).1⟩⟩).keep hb
  have n0 : W2.cell? ⟨W.heap.size, 0, none⟩ = some (.slice (some ⟨b1, 0, none⟩) 4 c1) := by rw [← hW2]; simp [go_sem]
  have m0 : W2.cell? ⟨W.heap.size + 1, 0, none⟩ = some (.slice (some ⟨b2, 0, none⟩) 4 c2) := by rw [← hW2]; simp [go_sem]
  have HC := (show Hid _ from slcmp_any (some ⟨b2, 0, none⟩) (some ⟨b1, 0, none⟩) 4 c2 c1 f e W2 (hs h2 hl2) (hs h1 hl1) (by omega))
  have HG : Hid (W2 = grow (W.drewN 0) (#[.cells #[.slice (some ⟨b1, 0, none⟩) 4 c1, .int .i64 n] 100] ++ #[.cells #[.slice (some ⟨b2, 0, none⟩) 4 c2, .int .i64 m] 100])) := by
    show _ = _
    rw [← hW2, alloc_eq_grow, alloc_eq_grow, grow_grow]; rfl
  generalize cmpL f e = C at HC
  clear hs hb h1 h2
  go_enter Tryz.func158, Tryz.ntmps158
  go_wp2_with fail
  (try rw [hW2])
  refine Calls.mono HC.out ?_
  rintro r w' ⟨rfl, rfl⟩
  clear HC
  go_wp2
  go_ret
  exact ⟨rfl, 0, _, HG.out⟩
theorem cmpLaysE (W : World) (g lo size : Nat) [Inhabited (El W g lo)] : CmpLays Tryz.prog 158 #[] (encE (W := W) (g := g) (lo := lo)) 2 cfE g 0 size W := by
  intro m os dk hs x y
  have key : ∀ v : El W g lo, Pow4 (sortWorldK encE 2 W g 0 m dk os) v.1.1 v.1.2.2.1 := fun v => v.2.2.2.2.2.block (sortW_block encE W g m dk os v.1.1 v.2.2.1 v.2.2.2.1)
  exact closure_any x.1.1 x.1.2.1 y.1.1 y.1.2.1 x.1.2.2.1 y.1.2.2.1 x.1.2.2.2 y.1.2.2.2 _ (key x) (key y)
/-- A row of products in block g: its cells may be written. -/
def RowT (w : World) (g : Nat) (T : List Cel) : Prop := ∀ i t, T[i]? = some t → w.cell? ⟨g, i * 2, none⟩ = some (.slice (some ⟨t.1, 0, none⟩) 4 t.2.1) ∧ w.cell? ⟨g, i * 2 + 1, none⟩ = some (.int .i64 t.2.2.2) ∧ w.frozen? ⟨g, i * 2, none⟩ = false ∧ w.frozen? ⟨g, i * 2 + 1, none⟩ = false
def mk {W : World} {g lo : Nat} : (T : List Cel) → (∀ t ∈ T, ElP W g lo t) → List (El W g lo)
  | [], _ => []
  | t :: r, h => ⟨t, h t (List.mem_cons_self ..)⟩ :: mk r (fun x hx => h x (List.mem_cons_of_mem _ hx))
theorem mk_map {W : World} {g lo : Nat} : ∀ (T : List Cel) (h : ∀ t ∈ T, ElP W g lo t), (mk T h).map (·.1) = T
  | [], _ => rfl
  | t :: r, h => congrArg (t :: ·) (mk_map r (fun x hx => h x (List.mem_cons_of_mem _ hx)))
theorem get_bang {α : Type} [Inhabited α] (d : Array α) (i : Nat) (x : α) (h : d.toList[i]? = some x) : d[i]! = x := by
  have h' : d[i]? = some x := by simpa using h
  obtain ⟨hl, e⟩ := Array.getElem?_eq_some_iff.1 h'
  rw [getElem!_pos d i hl, e]
theorem holds_of {W : World} {g lo : Nat} [Inhabited (El W g lo)] {w : World} {d : Array (El W g lo)} (h : RowT w g (d.toList.map (·.1))) : HoldsK encE 2 w g 0 d := by
  intro j hj
  rw [size_flatK] at hj
  rw [get_flatK _ _ _ _ hj, Nat.zero_add]
  have hlt : j / 2 < d.size := by omega
  obtain ⟨x, hx⟩ : ∃ x, d.toList[j / 2]? = some x := ⟨_, List.getElem?_eq_getElem (by simpa using hlt)⟩
  rw [get_bang d _ x hx]
  obtain ⟨c1, c2, c3, c4⟩ := h (j / 2) x.1 (by rw [List.getElem?_map, hx]; rfl)
  rcases Nat.mod_two_eq_zero_or_one j with h2 | h2
  · rw [show j / 2 * 2 = j from by omega] at c1 c3
    rw [h2]
    exact ⟨c1, c3⟩
  · rw [show j / 2 * 2 + 1 = j from by omega] at c2 c4
    rw [h2]
    exact ⟨c2, c4⟩
theorem row_of {W : World} {g lo : Nat} [Inhabited (El W g lo)] {w : World} {d : Array (El W g lo)} (h : HoldsK encE 2 w g 0 d) : RowT w g (d.toList.map (·.1)) := by
  intro i t ht
  rw [List.getElem?_map] at ht
  cases hx : d.toList[i]? with
  | none => rw [hx] at ht; cases ht
  | some x =>
    rw [hx] at ht
    have ht' : x.1 = t := Option.some.inj ht
    subst ht'
    have hlt : i < d.size := by have := (List.getElem?_eq_some_iff.1 hx).1; simpa using this
    have h1 := h (i * 2) (by rw [size_flatK]; omega)
    have h2 := h (i * 2 + 1) (by rw [size_flatK]; omega)
    rw [get_flatK _ _ _ _ (by omega), Nat.zero_add, show i * 2 / 2 = i from by omega, show i * 2 % 2 = 0 from by omega, get_bang d i x hx] at h1
    rw [get_flatK _ _ _ _ (by omega), Nat.zero_add, show (i * 2 + 1) / 2 = i from by omega, show (i * 2 + 1) % 2 = 1 from by omega, get_bang d i x hx] at h2
    exact ⟨h1.1, h2.1, h1.2, h2.2⟩
set_option maxHeartbeats 1000000 in
theorem sort_any (g lo cap : Nat) (T : List Cel) (W : World) (hg : g < W.heap.size) (h0 : 0 < T.length) (hl : T.length ≤ 1048576) (hT : ∀ t ∈ T, ElP W g lo t) (hR : RowT W g T) :
    Calls Tryz.prog 157 #[.slice (some ⟨g, 0, none⟩) T.length cap, .func (.func 158) #[] #[]] W fun e w' => e = .returned (.tuple #[]) ∧ W.grownBy w' (some g) ∧ ∃ T', T'.Perm T ∧ RowT w' g T' ∧ T'.Pairwise (fun x y => cmpL y.2.2.1 x.2.2.1 ≠ 1) := by
  obtain ⟨x0, hx0⟩ : ∃ x, x ∈ T := ⟨T[0], List.getElem_mem _⟩
  haveI : Inhabited (El W g lo) := ⟨⟨x0, hT x0 hx0⟩⟩
  have eg : ∀ args w, (callFunc 158 args).run Tryz.prog w = .ok (.enter 158 args) w := enters_of Tryz.func158 (by kernel_rfl) rfl
  have hmap := mk_map T hT
  have hsz : (mk T hT).toArray.size = T.length := by
    have := congrArg List.length hmap
    simpa using this
  have hH : HoldsK encE 2 W g 0 (mk T hT).toArray := holds_of (by simpa [hmap] using hR)
  have hcon := AnyQ.slices_SortFunc Tryz.sortMono 2 Tryz.isAgg100 Tryz.sizeOf100 encE (fun _ => rfl) (fun x v hv => by simp [encE, encT] at hv; rcases hv with rfl | rfl <;> rfl) cfE (swoE W g lo) 158 #[] g 0 cap (mk T hT).toArray W eg (cmpLaysE W g lo _) hH hg (by omega)
  rw [hsz] at hcon
  change Calls Tryz.prog 157 _ _ _ at hcon
  refine hcon.mono ?_
  rintro e w' ⟨rfl, d', n, os, hp, hs, rfl⟩
  have hsize : d'.size = T.length := hp.1.trans hsz
  refine ⟨rfl, sortW_grown encE W g n d' os, d'.toList.map (·.1), ?_, row_of (holdsK_sortWorldK_c encE 2 W g 0 (mk T hT).toArray d' n os hH hg (by rw [hsize, hsz])), ?_⟩
  · have h3 := hp.2.2
    have e1 : (d'.extract 0 T.length).toList = d'.toList := by rw [← hsize]; simp
    have e2 : ((mk T hT).toArray.extract 0 T.length).toList = mk T hT := by rw [← hsz]; simp
    rw [e1, e2] at h3
    have := h3.map (·.1)
    rwa [hmap] at this
  · rw [List.pairwise_map]
    refine List.pairwise_iff_getElem.2 fun i j hi hj hij => ?_
    have hi' : i < d'.size := by simpa using hi
    have hj' : j < d'.size := by simpa using hj
    have := hs i j (Nat.zero_le _) hij (by omega)
    rw [lt_iff, getElem!_pos d' j hj', getElem!_pos d' i hi'] at this
    have := of_decide_eq_false this
    simpa using this
theorem sort_none (p : Option Addr) (cap : Nat) (fv : Value) (W : World) : Calls Tryz.prog 157 #[.slice p 0 cap, fv] W fun e w' => e = .returned (.tuple #[]) ∧ w' = W :=
  AnyF.slices_SortFunc_none Tryz.sortMono p cap fv W
end Go.Proofs.YtkadanagmahhgaaGreatDoor
namespace Go.Proofs.YtkadanagmahhgaaGreatDoor
open Go.ChangeShapes Go.WideShapes Go.ChangeAt Go.RowKit
open Go.MapKept Go.ChangeMaps
set_option linter.unusedVariables false

def flatT (T : List Cel) : List Value := T.flatMap encT
theorem flatT_len (T : List Cel) : (flatT T).length = T.length * 2 := by
  induction T with
  | nil => rfl
  | cons t r ih => simp only [flatT, List.flatMap_cons, List.length_append, List.length_cons] at *; rw [ih]; simp [encT]; omega
theorem flatT_append (T U : List Cel) : flatT (T ++ U) = flatT T ++ flatT U := by simp [flatT]
theorem flatT_get : ∀ (T : List Cel) (i : Nat) (t : Cel), T[i]? = some t → (flatT T)[i * 2]? = some (.slice (some ⟨t.1, 0, none⟩) 4 t.2.1) ∧ (flatT T)[i * 2 + 1]? = some (.int .i64 t.2.2.2)
  | [], _, _, h => by simp at h
  | x :: l, 0, t, h => by simp at h; subst h; exact ⟨rfl, rfl⟩
  | x :: l, i + 1, t, h => by
    have := flatT_get l i t (by simpa using h)
    rw [show (i + 1) * 2 = i * 2 + 1 + 1 from by omega]
    simpa [flatT, encT] using this
/-- Products that have been taken out, in a row of one's own. -/
def CollR (w : World) (lo : Nat) (v : Value) (T : List Cel) : Prop :=
  w.ownsRow lo 100 2 v T.length (flatT T) ∧ T.Pairwise (fun x y => x.1 ≠ y.1) ∧ ∀ t ∈ T, lo ≤ t.1 ∧ t.1 < w.heap.size ∧ v.ownBlock ≠ some t.1 ∧ 4 ≤ t.2.1 ∧ Pow4 w t.1 t.2.2.1
theorem CollR.nil (w : World) (lo : Nat) : CollR w lo (.slice none 0 0) [] := ⟨World.ownsRow_nil _ _ _ _, List.Pairwise.nil, fun t ht => by cases ht⟩
theorem own_same {w w' : World} {base e size n : Nat} {v : Value} {xs : List Value} (h : w.ownsRow base e size v n xs) (hk : ∀ x, base ≤ x → x < w.heap.size → w'.heap[x]? = w.heap[x]?) : w'.ownsRow base e size v n xs := by
  refine ⟨h.1, ?_⟩
  rcases h.2 with h0 | ⟨g, cap, cur, rfl, hb, hg, hr⟩
  · exact .inl h0
  · exact .inr ⟨g, cap, cur, rfl, hb, (hk g hb (Array.getElem?_eq_some_iff.1 hg).1).trans hg, hr⟩
theorem CollR.same {w w' : World} {lo : Nat} {v : Value} {T : List Cel} (h : CollR w lo v T) (hs : w.heap.size ≤ w'.heap.size) (hk : ∀ x, lo ≤ x → x < w.heap.size → w'.heap[x]? = w.heap[x]?) : CollR w' lo v T := by
  obtain ⟨h1, h2, h3⟩ := h
  refine ⟨own_same h1 hk, h2, fun t ht => ?_⟩
  obtain ⟨a, b, c, d, e⟩ := h3 t ht
  exact ⟨a, Nat.lt_of_lt_of_le b hs, c, d, e.block (hk _ a b)⟩
theorem CollR.keep {w w' : World} {lo : Nat} {v : Value} {T : List Cel} (h : CollR w lo v T) (hb : Below w.heap.size w w') : CollR w' lo v T := h.same hb.size (fun x _ hx => hb.block x hx)
theorem own_inC {w : World} {base e size n : Nat} {v : Value} {xs : List Value} (h : w.ownsRow base e size v n xs) : ∀ x, v.ownBlock = some x → x < w.heap.size := by
  intro x hx
  rcases h.2 with ⟨rfl, _⟩ | ⟨g, cap, cur, rfl, _, hg, _⟩
  · cases hx
  · cases hx; exact Array.getElem?_eq_some_iff.1 hg |>.1
/-- Behind an append. -/
theorem CollR.push {w wa w5 : World} {lo : Nat} {v v5 : Value} {T : List Cel} {t : Cel} (h : CollR w lo v T) (hb : Below w.heap.size w wa) (hg : wa.grownBy w5 v.ownBlock) (hown : w5.ownsRow lo 100 2 v5 (T.length + 1) (flatT T ++ encT t)) (hat : v5.ownBlock = v.ownBlock ∨ v5.ownBlock = some wa.heap.size)
    (t1 : lo ≤ t.1) (t2 : w.heap.size ≤ t.1) (t3 : t.1 < wa.heap.size) (t4 : 4 ≤ t.2.1) (t5 : Pow4 wa t.1 t.2.2.1) : CollR w5 lo v5 (T ++ [t]) := by
  have ha := h.keep hb
  obtain ⟨h1, h2, h3⟩ := ha
  have hvt : v.ownBlock ≠ some t.1 := fun e => by have := own_inC h.1 t.1 e; omega
  have hmov : ∀ {x : Nat} {e : List Int}, x < wa.heap.size → v.ownBlock ≠ some x → Pow4 wa x e → Pow4 w5 x e ∧ v5.ownBlock ≠ some x := fun {x e} hx hne hp => ⟨hp.block (hg.block x hx (fun e' => hne e'.symm)), by
    rcases hat with e' | e'
    · rw [e']; exact hne
    · rw [e']; intro e''; have := Option.some.inj e''; omega⟩
  refine ⟨by rw [List.length_append, flatT_append]; simpa [flatT] using hown, List.pairwise_append.2 ⟨h2, List.pairwise_singleton _ _, fun x hx y hy => ?_⟩, fun x hx => ?_⟩
  · rw [List.mem_singleton.1 hy]
    have := (h.2.2 x hx).2.1
    omega
  · rcases List.mem_append.1 hx with hx | hx
    · obtain ⟨a, b, c, d, e⟩ := h3 x hx
      obtain ⟨m1, m2⟩ := hmov b c e
      exact ⟨a, Nat.lt_of_lt_of_le b hg.size, m2, d, m1⟩
    · rw [List.mem_singleton.1 hx]
      obtain ⟨m1, m2⟩ := hmov t3 hvt t5
      exact ⟨t1, Nat.lt_of_lt_of_le t3 hg.size, m2, t4, m1⟩
/-- What an entry says. -/
def decK : Value → List Int
  | .agg cs => cs.toList.map intOf
  | _ => []
def decode (x : MapEntry) : Mon := (decK x.key, intOf x.val)
theorem decode_of {x : MapEntry} {m : Mon} (h1 : x.key = keyV m.1) (h2 : x.val = .int .i64 m.2) : decode x = m := by
  unfold decode
  rw [h1, h2]
  unfold keyV decK
  simp only [List.map_map]
  refine Prod.ext ?_ rfl
  show m.1.map _ = m.1
  have : (intOf ∘ Value.int .i64) = id := rfl
  rw [this, List.map_id]
theorem decode_all {l : List MapEntry} {M : List Mon} (h : l.map (fun x => (x.key, x.val)) = M.map entM) : l.map decode = M := by
  apply List.ext_getElem?
  intro i
  rw [List.getElem?_map]
  cases hx : l[i]? with
  | none =>
    have : M.length ≤ i := by
      have := entries_len h
      have := List.getElem?_eq_none_iff.1 hx
      omega
    rw [List.getElem?_eq_none this]; rfl
  | some x =>
    obtain ⟨m, hm, k1, k2⟩ := entries_at h hx
    rw [hm, Option.map_some, decode_of k1 k2]
theorem wpList_next4 {P : Program} (w : World) {ops : Array Oper} {rest : List Oper} {o : Oper} {a : Act} {Q : Exit → Act → World → Prop} (hg : o.guard = none) (it : Operand) (hop : o.op = Op.next it false) (r bm since c0 : Nat) (seen : Array Nat) (es : Array MapEntry) (clock : Nat) (hit : a.eval it = .pointer (some ⟨r, 0, none⟩))
    (hr : w.heap[r]? = some (.mapIter (some bm) since seen c0)) (hb : w.heap[bm]? = some (.map es clock)) (hold : ∀ x ∈ es.toList, x.born < since) (hsc : since ≤ c0)
    (hDone : (leftOf es seen).size = 0 → wpList P ops Q rest (a.put o.dst (.tuple #[.bool false])) w)
    (hMore : ∀ e ∈ (leftOf es seen).toList, ∀ w1 : World, Hid (w1 = w ∨ w1 = w.drew) → wpList P ops Q rest (a.put o.dst (.tuple #[.bool true, e.key, e.val])) (setBlock w1 r (.mapIter (some bm) since (seen.push e.born) clock))) :
    wpList P ops Q (o :: rest) a w := by
  refine wpList_plain hg fun K' hK' => ?_
  unfold Oper.wp
  rcases run_next_at (P := P) w o.type r bm since c0 seen es clock hr hb hold hsc with ⟨h0, hrun⟩ | ⟨e, he, w1, hw1, hrun⟩
  · simp [execOp, hop, hit, hrun, Result.andThen]
    exact hK' _ _ (hDone h0)
  · simp [execOp, hop, hit, hrun, Result.andThen]
    exact hK' _ _ (hMore e he w1 hw1)
theorem nodup_of_map {α β : Type} (f : α → β) : ∀ l : List α, (l.map f).Nodup → l.Nodup
  | [], _ => List.Pairwise.nil
  | a :: l, h => by
    rw [List.map_cons, List.nodup_cons] at h
    exact List.nodup_cons.2 ⟨fun hm => h.1 (List.mem_map.2 ⟨a, hm, rfl⟩), nodup_of_map f l h.2⟩
theorem map_inj_nodup {α β : Type} (f : α → β) : ∀ (l : List α), (l.map f).Nodup → ∀ x ∈ l, ∀ y ∈ l, f x = f y → x = y
  | [], _, _, hx, _, _, _ => by cases hx
  | a :: l, h, x, hx, y, hy, e => by
    rw [List.map_cons, List.nodup_cons] at h
    rcases List.mem_cons.1 hx with rfl | hx'
    · rcases List.mem_cons.1 hy with rfl | hy'
      · rfl
      · exact absurd (List.mem_map.2 ⟨y, hy', e.symm⟩) h.1
    · rcases List.mem_cons.1 hy with rfl | hy'
      · exact absurd (List.mem_map.2 ⟨x, hx', e⟩) h.1
      · exact map_inj_nodup f l h.2 x hx' y hy' e
theorem nodup_le {α : Type} : ∀ (l k : List α), l.Nodup → (∀ x ∈ l, x ∈ k) → l.length ≤ k.length
  | [], _, _, _ => Nat.zero_le _
  | a :: r, k, h, hs => by
    obtain ⟨h1, h2⟩ := List.nodup_cons.1 h
    obtain ⟨s, t, rfl⟩ := List.append_of_mem (hs a (List.mem_cons_self ..))
    have := nodup_le r (s ++ t) h2 (fun x hx => by
      have := hs x (List.mem_cons_of_mem _ hx)
      rcases List.mem_append.1 this with h' | h'
      · exact List.mem_append.2 (.inl h')
      · rcases List.mem_cons.1 h' with rfl | h'
        · exact absurd hx h1
        · exact List.mem_append.2 (.inr h'))
    simp only [List.length_append, List.length_cons] at *
    omega
/-- What has been met so far. -/
def Met (es : Array MapEntry) (seen : Array Nat) (L : List MapEntry) : Prop := seen.toList = L.map (·.born) ∧ (∀ x ∈ L, x ∈ es.toList) ∧ (L.map (·.born)).Nodup
theorem Met.more {es : Array MapEntry} {seen : Array Nat} {L : List MapEntry} (h : Met es seen L) {e : MapEntry} (he : e ∈ (leftOf es seen).toList) : Met es (seen.push e.born) (L ++ [e]) := by
  obtain ⟨h1, h2, h3⟩ := h
  unfold leftOf at he
  simp only [Array.toList_filter, List.mem_filter] at he
  obtain ⟨e1, e2⟩ := he
  have hn : e.born ∉ L.map (·.born) := by
    rw [← h1]
    intro hm
    have : seen.contains e.born = true := by simpa using hm
    rw [this] at e2
    cases e2
  refine ⟨by rw [Array.toList_push, h1, List.map_append]; rfl, fun x hx => ?_, ?_⟩
  · rcases List.mem_append.1 hx with hx | hx
    · exact h2 x hx
    · rw [List.mem_singleton.1 hx]; exact e1
  · rw [List.map_append]
    refine List.nodup_append.2 ⟨h3, by simp, fun a ha c hc e' => ?_⟩
    have e2' : a = e.born := e'.trans (List.mem_singleton.1 hc)
    exact hn (e2' ▸ ha)
theorem Met.fin {es : Array MapEntry} {seen : Array Nat} {L : List MapEntry} (h : Met es seen L) (hs : (es.toList.map (·.born)).Nodup) (h0 : (leftOf es seen).size = 0) : L.Perm es.toList := by
  obtain ⟨h1, h2, h3⟩ := h
  have hL : L.Nodup := nodup_of_map _ _ h3
  have hE : es.toList.Nodup := nodup_of_map _ _ hs
  refine (List.perm_ext_iff_of_nodup hL hE).2 fun x => ⟨h2 x, fun hx => ?_⟩
  have hin : x.born ∈ seen.toList := by
    by_cases hc : seen.contains x.born = true
    · simpa using hc
    · exfalso
      have : x ∈ (leftOf es seen).toList := by
        unfold leftOf
        simp only [Array.toList_filter, List.mem_filter]
        exact ⟨hx, by simpa using hc⟩
      have hl : 0 < (leftOf es seen).size := by
        rw [← Array.length_toList]
        exact List.length_pos_of_mem this
      omega
  rw [h1] at hin
  obtain ⟨y, hy, hb⟩ := List.mem_map.1 hin
  have hy' := h2 y hy
  have : y = x := map_inj_nodup _ _ hs y hy' x hx hb
  rw [← this]; exact hy
/-- How many are still to come. -/
def stillIn (b r : Nat) (w : World) : Nat :=
  match w.heap[b]?, w.heap[r]? with
  | some (.map es _), some (.mapIter _ _ seen _) => (leftOf es seen).size
  | _, _ => 0
theorem left_less {es : Array MapEntry} {seen : Array Nat} {e : MapEntry} (he : e ∈ (leftOf es seen).toList) : (leftOf es (seen.push e.born)).size < (leftOf es seen).size := by
  have h1 : leftOf es (seen.push e.born) = (leftOf es seen).filter fun x => !(x.born == e.born) := by
    unfold leftOf
    rw [Array.filter_filter]
    congr 1
    funext x
    by_cases hx : x.born = e.born <;> simp [hx]
  have h2 : ∀ (A : Array MapEntry) (f : MapEntry → Bool), (A.filter f).size = (A.toList.filter f).length := fun A f => by rw [← Array.length_toList, Array.toList_filter]
  rw [h1, h2, ← Array.length_toList]
  exact List.length_filter_lt_length_iff_exists.2 ⟨e, he, by simp⟩
end Go.Proofs.YtkadanagmahhgaaGreatDoor
