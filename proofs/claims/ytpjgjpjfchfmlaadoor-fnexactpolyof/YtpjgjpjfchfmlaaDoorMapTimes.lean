/-
  PROVED HERE: what the program's putting of a whole sum into a map does. No other condition.
-/
import Derived.Test.YtpjgjpjfchfmlaaDoorMapPut
import Derived.Test.YtpjgjpjfchfmlaaDoorPolyGood
import Derived.Laws.IdiomCopy
import Derived.Deep.RegionLaw
namespace Go.Proofs.YtpjgjpjfchfmlaaDoor
open Go.ChangeShapes Go.WideShapes Go.ChangeAt Go.RowKit
open Go.MapKept Go.ChangeMaps
set_option linter.unusedVariables false

theorem step_copy4 {P : Program} {ops : Array Oper} {o : Oper} {a : Act} {w : World} {K : Act → World → Prop} {Q : Exit → Act → World → Prop} {E : Prop}
    (hg : o.guard = none) (d x : Operand) (dT sT : TypeId) (hop : o.op = Op.call { callee := Callee.builtin Builtin.copy, args := #[d, x], argTypes := #[dT, sT] })
    (v u : Value) (hd : a.eval d = v) (hx : a.eval x = u) {v' : Value} {w' : World} (hr : (Builtin.copy_ #[dT, sT] o.type #[v, u]).run P w = .ok v' w') (hK : K (a.put o.dst v') w') :
    if Region.wanted o (yielded ops a.tmps) = true then Oper.wp P o a w K Q else E := by
  have hw : Region.wanted o (yielded ops a.tmps) = true := by simp [Region.wanted, hg]
  rw [if_pos hw]
  unfold Oper.wp
  simp [execOp, hop, resolve, invoke, builtin, hd, hx, hr, Result.andThen]
  exact hK
theorem infoInt4 : (Tryd.prog.info? 3).map (·.size) = some 1 := by kernel_rfl
/-- Adding a product, to 64 bits. -/
theorem put_acc (b : Nat) (M : List Mon) (d : List Int → Int) (a0 a1 a2 a3 n : Int) (w : World) (h : PMap w b M) (hs : SumM M) (he : Key4 [a0, a1, a2, a3]) (hd : ∀ e', Like (coef M e') (d e')) :
    Calls Tryd.prog 53 #[.map (some b), .agg #[.int .i64 a0, .int .i64 a1, .int .i64 a2, .int .i64 a3], .int .i64 n] w fun r w' => r = .returned (.tuple #[]) ∧ w.grownBy w' (some b) ∧ ∃ M', PMap w' b M' ∧ SumM M' ∧ M'.length ≤ M.length + 1 ∧ ∀ e', Like (coef M' e') (d e' + if [a0, a1, a2, a3] = e' then n else 0) := by
  refine (put_any b M a0 a1 a2 a3 n w h hs he).mono ?_
  rintro r w' ⟨h1, h2, M', h3, h4, h5, h6⟩
  refine ⟨h1, h2, M', h3, h4, h5, fun e' => ?_⟩
  rw [h6]
  by_cases h : [a0, a1, a2, a3] = e'
  · rw [if_pos h, if_pos h, ← h]
    exact (like_wrap _).trans ((hd _).add (Like.refl n))
  · rw [if_neg h, if_neg h]
    have := hd e'
    unfold Like at *
    omega
theorem coef_take (p : List Mon) (k : Nat) (h : k < p.length) (e : List Int) : coef (p.take (k + 1)) e = coef (p.take k) e + if (p.getD k ([], 0)).1 = e then (p.getD k ([], 0)).2 else 0 := by
  have e1 : p.getD k ([], 0) = p[k] := by rw [List.getD_eq_getElem?_getD, List.getElem?_eq_getElem h]; rfl
  rw [List.take_succ_eq_append_getElem h, coef_append, coef_cons, coef_nil, e1]
  omega
theorem four' (e : List Int) (h : e.length = 4) : e = [e.getD 0 0, e.getD 1 0, e.getD 2 0, e.getD 3 0] := by
  match e, h with
  | [a, b, c, d], _ => rfl
theorem add_zero_addr (b o j : Nat) : (⟨b, o, none⟩ : Addr).add j = ⟨b, o + j, none⟩ := add_to b o j
theorem below_cells {B g : Nat} {a : World} (hg : B ≤ g) : ∀ (vs : List Value) (o : Nat) (w : World), Below B a w → Below B a (w.setCells g o vs)
  | [], _, _, h => h
  | v :: r, o, w, h => by rw [World.setCells]; exact below_cells hg r (o + 1) _ (h.setCell hg v)
/-- How the four numbers of a key are written. -/
theorem copy_key (w : World) (g bs os : Nat) (c : Nat) (e : List Int) (ty : TypeId) (h4 : e.length = 4) (hs : ∀ i, i < 4 → w.cell? ⟨bs, os + i, none⟩ = some (.int .i64 (e.getD i 0))) (hg : ∀ i, i < 4 → (w.cell? ⟨g, i, none⟩).isSome = true ∧ w.frozen? ⟨g, i, none⟩ = false) :
    (Builtin.copy_ #[49, 49] ty #[.slice (some ⟨g, 0, none⟩) 4 4, .slice (some ⟨bs, os, none⟩) 4 c]).run Tryd.prog w = .ok (goInt 4) (w.setCells g 0 (vals e)) := by
  have hl : (vals e).length = 4 := by rw [vals_len]; exact h4
  have := run_copy_cells (P := Tryd.prog) w 49 49 ty 3 g 0 4 4 ⟨bs, os, none⟩ 4 c (vals e) Tryd.underlying49 infoInt4 (by rw [hl]; rfl) (fun j v hj => by
    rw [add_zero_addr]
    have hlt : j < (vals e).length := by
      rcases Nat.lt_or_ge j (vals e).length with h0 | h0
      · exact h0
      · rw [List.getElem?_eq_none h0] at hj; cases hj
    rw [hs j (by omega), ← hj]
    simp [vals, List.getElem?_map, List.getD_eq_getElem?_getD, List.getElem?_eq_getElem (show j < e.length by omega)]) (fun j hj => by rw [Nat.zero_add]; exact (hg j (by omega)).1) (fun j hj => by rw [Nat.zero_add]; exact (hg j (by omega)).2) (vals_one e)
  rw [hl] at this
  exact this
set_option maxHeartbeats 3200000 in
set_option maxRecDepth 20000 in
theorem times_any (b : Nat) (M : List Mon) (d : List Int → Int) (a : Option Addr) (len cap : Nat) (p : List Mon) (n : Int) (w0 w : World) (hp : PSl w0 a len p) (hw : Below w0.heap.size w0 w) (hb : w0.heap.size ≤ b) (hm : len ≤ 1048576) (h4 : ∀ x ∈ p, Key4 x.1) (h : PMap w b M) (hs : SumM M) (hd : ∀ e', Like (coef M e') (d e')) :
    Calls Tryd.prog 67 #[.map (some b), .slice a len cap, .int .i64 n] w fun r w' => r = .returned (.tuple #[]) ∧ Below w0.heap.size w0 w' ∧ ∃ M', PMap w' b M' ∧ SumM M' ∧ M'.length ≤ M.length + len ∧ ∀ e', Like (coef M' e') (d e' + n * coef p e') := by
  have hll := hp.1
  go_enter Tryd.func67, Tryd.ntmps67
  go_wp2_with fail
  go_loopw [11] (fun i wr => ∃ k : Nat, k ≤ len ∧ i = .int .i64 (k : Int) ∧ Hid (Below w0.heap.size w0 wr ∧ ∃ M', PMap wr b M' ∧ SumM M' ∧ M'.length ≤ M.length + k ∧ ∀ e', Like (coef M' e') (d e' + n * coef (p.take k) e'))) (fun i _ => len - (intOf i).toNat)
  case atStart => exact ⟨0, Nat.zero_le _, rfl, hw, M, h, hs, by omega, fun e' => by rw [List.take_zero, coef_nil]; have := hd e'; rw [Int.mul_zero]; unfold Like at *; omega⟩
  case round =>
    obtain ⟨k, hk, rfl, HR⟩ := hrel
    clear h hs hd hw
    by_cases hlt : k < len
    · obtain ⟨hbr, M1, hP1, hS1, hl1, hc1⟩ := HR.out
      obtain ⟨bp, off, rfl, hbl, hc⟩ := hp.at (by omega)
      obtain ⟨ai, li, ci, c1, hli, hci, hS, c2⟩ := hc k hlt
      have hmem : p.getD k ([], 0) ∈ p := by
        have e1 : p.getD k ([], 0) = p[k]'(by omega) := by rw [List.getD_eq_getElem?_getD, List.getElem?_eq_getElem (by omega)]; rfl
        rw [e1]; exact List.getElem_mem _
      have hk4 := h4 _ hmem
      have hct := fun e' => coef_take p k (by omega) e'
      obtain ⟨m, hmm⟩ : ∃ m, p.getD k ([], 0) = m := ⟨_, rfl⟩
      rw [hmm] at c2 hS hk4
      obtain ⟨e, y⟩ := m
      simp only at c2 hS hk4
      obtain rfl : li = 4 := by have := hS.1; have := hk4.1; omega
      obtain ⟨bs, os, rfl, hbs⟩ := cells_of hS (by omega)
      have hbsl : bs < w0.heap.size := by
        rcases hS.2 with h0 | ⟨b', o', e', hl', _⟩
        · omega
        · cases e'; exact hl'
      have d1 := (hbr.cell (p := ⟨bp, off + k * 2, none⟩) hbl).trans c1
      have d2 := (hbr.cell (p := ⟨bp, off + k * 2 + 1, none⟩) hbl).trans c2
      have hsz := hbr.size
      obtain ⟨W1, hW1⟩ : ∃ W1, wr.alloc (.cells #[.slice (some ⟨bs, os, none⟩) 4 ci, .int .i64 y] 51) = W1 := ⟨_, rfl⟩
      obtain ⟨W2, hW2⟩ : ∃ W2, W1.alloc (.cells #[.int .i64 0, .int .i64 0, .int .i64 0, .int .i64 0] 69) = W2 := ⟨_, rfl⟩
      have hs1 : W1.heap.size = wr.heap.size + 1 := by rw [← hW1]; simp
      have hb1 : Below wr.heap.size wr W1 := by rw [← hW1]; exact (Below.refl _ _).alloc (Nat.le_refl _) _
      have hb12 : Below W1.heap.size W1 W2 := by rw [← hW2]; exact (Below.refl _ _).alloc (Nat.le_refl _) _
      have hb2 : Below wr.heap.size wr W2 := hb1.trans (hb12.mono hb1.size)
      have n0 : W1.cell? ⟨wr.heap.size, 0, none⟩ = some (.slice (some ⟨bs, os, none⟩) 4 ci) := by rw [← hW1]; simp [go_sem]
      have n1 : W1.cell? ⟨wr.heap.size, 1, none⟩ = some (.int .i64 y) := by rw [← hW1]; simp [go_sem]
      have n0' := (hb12.cell (p := ⟨wr.heap.size, 0, none⟩) (by show wr.heap.size < _; omega)).trans n0
      have n1' := (hb12.cell (p := ⟨wr.heap.size, 1, none⟩) (by show wr.heap.size < _; omega)).trans n1
      have hz : ∀ i, i < 4 → W2.cell? ⟨wr.heap.size + 1, i, none⟩ = some (.int .i64 0) ∧ W2.frozen? ⟨wr.heap.size + 1, i, none⟩ = false := fun i hi => by
        rw [← hW2, ← hs1]
        match i, hi with
        | 0, _ => exact ⟨by simp [go_sem], by simp [go_sem]⟩
        | 1, _ => exact ⟨by simp [go_sem], by simp [go_sem]⟩
        | 2, _ => exact ⟨by simp [go_sem], by simp [go_sem]⟩
        | 3, _ => exact ⟨by simp [go_sem], by simp [go_sem]⟩
      have hcp := fun ty => copy_key W2.drew (wr.heap.size + 1) bs os ci e ty hk4.1 (fun i hi => ((hbr.trans (hb2.mono hbr.size)).cell (p := ⟨bs, os + i, none⟩) hbsl).trans (hbs i hi)) (fun i hi => ⟨by show (W2.cell? _).isSome = true; rw [(hz i hi).1]; rfl, (hz i hi).2⟩)
      obtain ⟨W3, hW3⟩ : ∃ W3, W2.drew.setCells (wr.heap.size + 1) 0 (vals e) = W3 := ⟨_, rfl⟩
      rw [hW3] at hcp
      have HCp := (show Hid _ from hcp)
      have hvl : (vals e).length = 4 := by rw [vals_len]; exact hk4.1
      have hin : ∀ i, i < 4 → W3.cell? ⟨wr.heap.size + 1, i, none⟩ = some (.int .i64 (e.getD i 0)) := fun i hi => by
        rw [← hW3]
        have := World.cell?_setCells_in (wr.heap.size + 1) (vals e) 0 W2.drew (fun j hj => by rw [Nat.zero_add]; show (W2.cell? _).isSome = true; rw [(hz j (by omega)).1]; rfl) i (by omega)
        rw [Nat.zero_add] at this
        rw [this]
        simp [vals, List.getD_eq_getElem?_getD, List.getElem?_eq_getElem (show i < e.length by have := hk4.1; omega)]
      have hout : ∀ x o, x ≠ wr.heap.size + 1 → W3.cell? ⟨x, o, none⟩ = W2.cell? ⟨x, o, none⟩ := fun x o hx => by
        rw [← hW3]
        exact (World.cell?_setCells_out (wr.heap.size + 1) (vals e) 0 W2.drew ⟨x, o, none⟩ (fun hb' _ => absurd hb' hx)).trans rfl
      have hb3 : Below wr.heap.size wr W3 := by rw [← hW3]; exact below_cells (by omega) _ _ _ hb2.drew
      have hP3 : PMap W3 b M1 := hP1.keep hb3
      have q1 : W3.cell? ⟨wr.heap.size, 1, none⟩ = some (.int .i64 y) := (hout _ _ (by omega)).trans n1'
      have k0 := hin 0 (by omega)
      have k1 := hin 1 (by omega)
      have k2 := hin 2 (by omega)
      have k3 := hin 3 (by omega)
      have hfour := four' e hk4.1
      have hk4' : Key4 [e.getD 0 0, e.getD 1 0, e.getD 2 0, e.getD 3 0] := by rw [← hfour]; exact hk4
      have HPut := (show Hid _ from put_acc b M1 _ (e.getD 0 0) (e.getD 1 0) (e.getD 2 0) (e.getD 3 0) (wrap64 (n * y)) W3 hP3 hS1 hk4' hc1)
      have HFin : Hid (∀ w' M', W3.grownBy w' (some b) → PMap w' b M' → SumM M' → M'.length ≤ M1.length + 1 → (∀ e', Like (coef M' e') (d e' + n * coef (p.take k) e' + if [e.getD 0 0, e.getD 1 0, e.getD 2 0, e.getD 3 0] = e' then wrap64 (n * y) else 0)) → (Below w0.heap.size w0 w' ∧ ∃ M', PMap w' b M' ∧ SumM M' ∧ M'.length ≤ M.length + (k + 1) ∧ ∀ e', Like (coef M' e') (d e' + n * coef (p.take (k + 1)) e'))) := fun w' M' g' p' s' l' c' => by
        have hB3 := hbr.trans (hb3.mono hbr.size)
        refine ⟨hB3.grown g' hB3.size (fun r hr => by cases hr; exact hb), M', p', s', by omega, fun e' => ?_⟩
        have := c' e'
        rw [hct e', hmm]
        rw [← hfour] at this
        simp only
        refine this.trans ?_
        by_cases he' : e = e'
        · rw [if_pos he', if_pos he']
          have hm2 := like_wrap (n * y)
          have : n * (coef (p.take k) e' + y) = n * coef (p.take k) e' + n * y := Int.mul_add _ _ _
          unfold Like at *
          omega
        · rw [if_neg he', if_neg he', Int.add_zero, Int.add_zero]; exact Like.refl _
      have hik : (k : Int) < len := by omega
      have hbne : ¬ bp = wr.heap.size := by omega
      generalize e.getD 0 0 = e0 at k0 HPut HFin
      generalize e.getD 1 0 = e1 at k1 HPut HFin
      generalize e.getD 2 0 = e2 at k2 HPut HFin
      generalize e.getD 3 0 = e3 at k3 HPut HFin
      obtain ⟨ny, hny⟩ : ∃ ny, wrap64 (n * y) = ny := ⟨_, rfl⟩
      rw [hny] at HPut HFin
      clear hcp hin hout hz hfour hk4' hk4 hct hmm hbs hS hP1 hS1 hc1 c1 c2 HR n0 n1 hc hb1 hb12 hb2 hb3 hP3
      go_wp2_with fail
      (try rw [hW1])
      (try rw [hs1])
      (try rw [hW2])
      go_region_law (refine step_copy4 rfl _ _ _ _ rfl (.slice (some ⟨wr.heap.size + 1, 0, none⟩) 4 4) (.slice (some ⟨bs, os, none⟩) 4 ci) rfl rfl (HCp.out _) ?_)
      all_goals
        go_wp2_with fail
        refine Calls.mono HPut.out ?_
        rintro r w5 ⟨rfl, g5, M5, p5, s5, l5, c5⟩
        have HR5 := (show Hid _ from HFin.out w5 M5 g5 p5 s5 l5 c5)
        clear g5 p5 s5 c5 HFin HPut
        go_wp2
        go_roundw
        case rel => exact ⟨k + 1, by omega, by go_num, HR5⟩
        case measure => simp [intOf]; omega
    · obtain rfl : k = len := by omega
      obtain ⟨hbr, M1, hP1, hS1, hl1, hc1⟩ := HR.out
      go_wp2
      go_end0
      exact ⟨rfl, hbr, M1, hP1, hS1, hl1, fun e' => by have := hc1 e'; rwa [List.take_of_length_le (by omega)] at this⟩
end Go.Proofs.YtpjgjpjfchfmlaaDoor
