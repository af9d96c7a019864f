/-
  PROVED HERE: what the model's l6Own answers, at every graph of at most a thousand nodes and numbers. No other condition. what the model's l6Add answers, at every good term and every good graph in memory of its own, variables standing for classes where they are given. No other condition.
-/
import Derived.Test.YthkjmgjajmghmaaDoorRun17
import Derived.Test.YthkjmgjajmghmaaDoorRun20
import Derived.Test.YthkjmgjajmghmaaDoorRun19
import Derived.Deep.RegionHeld3
import Derived.Laws.AppendOwnNone
namespace Go.Proofs.YthkjmgjajmghmaaDoor
open Go.ChangeShapes Go.WideShapes Go.ChangeAt Go.RowKit
set_option linter.unusedVariables false

theorem ownZ_any (a : Option Addr) (cap : Nat) (w : World) :
    Calls Tryd.prog 49 #[.slice a 0 cap] w fun e w' => ∃ v : Value, e = .returned v ∧ w'.ownsRow w.heap.size 3 1 v 0 (vals []) ∧ Below w.heap.size w w' := by
  obtain ⟨i0, hi, hz0, hz1, hz2⟩ := info_parts infoInt
  have hb0 : Below w.heap.size w (w.alloc (.cells #[] 3)) := (Below.refl _ _).alloc (Nat.le_refl _) _
  have hcs : (empty5 w) = (empty5 w) := rfl
  cases a with
  | none =>
    go_enter Tryd.func49, Tryd.ntmps49
    go_wp2
    go_ret
    exact ⟨_, rfl, empty5 w, hb0⟩
  | some x =>
    go_enter Tryd.func49, Tryd.ntmps49
    go_wp2_with (at_builtin; refine wpList_append_own _ rfl _ _ 23 rfl w.heap.size 3 i0 (.int .i64 0) 1 8 Tryd.underlying23 hi hz0 hz1 hz2 rfl (by decide) _ _ _ rfl (empty5 w) x 0 cap (vals []) rfl rfl (fun j u hj => by simp [vals] at hj) (fun u hu => by simp [vals] at hu) (by unfold maxLen; omega) (by omega) (by simp) ?_; intro v' w4 hown4 hg4 _)
    go_ret
    rw [Nat.zero_add, List.nil_append] at hown4
    exact ⟨_, rfl, hown4, hb0.grown hg4 (by simp) (fun r hr => by cases hr; exact Nat.le_refl _)⟩
theorem ownI_any (a : Option Addr) (len cap : Nat) (l : List Int) (w : World) (h : Sl w a len l) (hn : len ≤ 1048576) :
    Calls Tryd.prog 49 #[.slice a len cap] w fun e w' => ∃ v : Value, e = .returned v ∧ w'.ownsRow w.heap.size 3 1 v len (vals l) ∧ Below w.heap.size w w' := by
  by_cases h0 : len = 0
  · subst h0
    have : l = [] := List.length_eq_zero_iff.1 h.1
    subst this
    exact ownZ_any a cap w
  · exact own5_any a len cap l w h (by omega) hn
/-- A row of its own as kids. -/
theorem kid_of {w : World} {lo : Nat} {v : Value} {l : List Int} (h : w.ownsRow lo 3 1 v l.length (vals l)) (hl : l.length ≤ 9223372036854775807) : KidAt w false (fun b => lo ≤ b) v l := by
  obtain ⟨a, c, rfl, hs⟩ := Sl.vals h
  obtain ⟨a', c', e, hc⟩ := row_slice h
  cases e
  exact ⟨_, _, rfl, hc, hl, hs, fun x hx => h.lt x hx, fun e => by cases e⟩
theorem take_snoc (p : List EN) {k : Nat} (h : k < p.length) : p.take (k + 1) = p.take k ++ [p.getD k e0] := by
  rw [List.take_succ_eq_append_getElem h, getDE_lt h]
set_option maxHeartbeats 3200000 in
set_option maxRecDepth 20000 in
theorem l6Own_any (a b : Option Addr) (len cap lb cb : Nat) (p : List EN) (l : List Int) (w : World) (h : ESl w a len p) (hl : Sl w b lb l) (hm : len ≤ 1000) (hm2 : lb ≤ 1000) (h3 : ∀ i, i < len → (p.getD i e0).2.2.length ≤ 3) :
    Calls Tryd.prog 39 #[.agg #[.slice a len cap, .slice b lb cb]] w fun e w' => ∃ va vb, e = .returned (.agg #[va, vb]) ∧ GOwn w' false (fun x => w.heap.size ≤ x) va vb (p, l) ∧ Below w.heap.size w w' := by
  obtain ⟨j0, hj, jz0, jz1, jz2⟩ := info_parts infoENode
  have hll := h.1
  have hl1 := hl.1
  obtain ⟨W1, hW1⟩ : ∃ W1, (w.alloc (.cells #[.slice a len cap, .slice b lb cb] 29)).alloc (.cells #[.slice none 0 0, .slice none 0 0] 29) = W1 := ⟨_, rfl⟩
  have hb1 : Below w.heap.size w W1 := by rw [← hW1]; exact ((Below.refl _ _).alloc (Nat.le_refl _) _).alloc (by simp) _
  have hs1 : W1.heap.size = w.heap.size + 2 := by rw [← hW1]; simp
  have n0 : W1.cell? ⟨w.heap.size, 0, none⟩ = some (.slice a len cap) := by rw [← hW1]; simp [go_sem]
  have n1 : W1.cell? ⟨w.heap.size, 1, none⟩ = some (.slice b lb cb) := by rw [← hW1]; simp [go_sem]
  have r0 : W1.cell? ⟨w.heap.size + 1, 0, none⟩ = some (.slice none 0 0) := by rw [← hW1]; simp [go_sem]
  have r1 : W1.cell? ⟨w.heap.size + 1, 1, none⟩ = some (.slice none 0 0) := by rw [← hW1]; simp [go_sem]
  have f0 : W1.frozen? ⟨w.heap.size + 1, 0, none⟩ = false := by rw [← hW1]; simp [go_sem]
  have f1 : W1.frozen? ⟨w.heap.size + 1, 1, none⟩ = false := by rw [← hW1]; simp [go_sem]
  have HO := (show Hid _ from ownI_any b lb cb l W1 (hl.keep hb1) (by omega))
  have HE : Hid (ESl W1 a len p ∧ Below w.heap.size w W1 ∧ W1.heap.size = w.heap.size + 2 ∧ p.length = len ∧ l.length = lb ∧ (∀ i, i < len → (p.getD i e0).2.2.length ≤ 3)) := ⟨h.keep hb1, hb1, hs1, hll, hl1, h3⟩
  have L0 : w.heap.size < W1.heap.size := by omega
  have L1 : w.heap.size + 1 < W1.heap.size := by omega
  clear h hl hb1 hs1 hll hl1 h3
  go_enter Tryd.func39, Tryd.ntmps39
  go_wp2_with fail
  (try rw [hW1])
  refine Calls.mono HO.out ?_
  rintro e w2 ⟨vb, rfl, hrow, hb2⟩
  obtain ⟨bb, cbb, rfl, _⟩ := row_slice hrow
  have q0 := (hb2.cell (p := ⟨w.heap.size, 0, none⟩) L0).trans n0
  have q0' : ∀ o, (w2.alloc o).cell? ⟨w.heap.size, 0, none⟩ = some (.slice a len cap) := fun o => ((hb2.alloc hb2.size o).cell (p := ⟨w.heap.size, 0, none⟩) L0).trans n0
  have hs2 := hb2.size
  have HB3 : Hid (Below W1.heap.size W1 (w2.alloc (.cells #[.slice none 0 0, .slice bb lb cbb] 29)) ∧ (w2.alloc (.cells #[.slice none 0 0, .slice bb lb cbb] 29)).cell? ⟨w2.heap.size, 0, none⟩ = some (.slice none 0 0) ∧ (w2.alloc (.cells #[.slice none 0 0, .slice bb lb cbb] 29)).cell? ⟨w2.heap.size, 1, none⟩ = some (.slice bb lb cbb) ∧ (w2.alloc (.cells #[.slice none 0 0, .slice bb lb cbb] 29)).frozen? ⟨w2.heap.size, 0, none⟩ = false ∧ w2.heap.size < (w2.alloc (.cells #[.slice none 0 0, .slice bb lb cbb] 29)).heap.size ∧ GOwn (w2.alloc (.cells #[.slice none 0 0, .slice bb lb cbb] 29)) false (fun x => W1.heap.size ≤ x ∧ x ≠ w2.heap.size) (.slice none 0 0) (.slice bb lb cbb) ([], l) ∧ W1.heap.size ≤ w2.heap.size) := by
    refine ⟨hb2.alloc hb2.size _, by simp [go_sem], by simp [go_sem], by simp [go_sem], by simp, ⟨[], fun _ => undef, World.ownsRow_nil _ _ _ _, ?_, (fun x hx => by cases hx), fun x hx => ?_, fun i hi => absurd hi (Nat.not_lt_zero _)⟩, hs2⟩
    · show (w2.alloc _).ownsRow 0 3 1 _ l.length (vals l)
      rw [HE.out.2.2.2.2.1]
      exact own_base (hrow.alloc _) (Nat.zero_le _)
    · have := hrow.lt x hx; exact ⟨this.1, by omega⟩
  clear HO hW1 hrow
  go_wp2_with fail
  obtain ⟨B3, hB3⟩ : ∃ B3, w2.heap.size = B3 := ⟨_, rfl⟩
  obtain ⟨W3, hW3⟩ : ∃ W3, w2.alloc (.cells #[.slice none 0 0, .slice bb lb cbb] 29) = W3 := ⟨_, rfl⟩
  rw [hW3, hB3] at HB3
  (try rw [hW3])
  (try rw [hB3])
  clear hb2 q0 q0' hs2
  go_loopw [13] (fun i wr => ∃ (k : Nat) (ak : Option Addr) (ck : Nat), k ≤ len ∧ i = .int .i64 k ∧ wr.cell? ⟨B3, 0, none⟩ = some (.slice ak k ck) ∧ wr.cell? ⟨B3, 1, none⟩ = some (.slice bb lb cbb) ∧ Hid (wr.frozen? ⟨B3, 0, none⟩ = false ∧ B3 < wr.heap.size ∧ GOwn wr false (fun x => W1.heap.size ≤ x ∧ x ≠ B3) (.slice ak k ck) (.slice bb lb cbb) (p.take k, l)) ∧ Below W1.heap.size W1 wr) (fun i _ => len - (intOf i).toNat)
  case atStart => exact ⟨0, none, 0, Nat.zero_le _, rfl, HB3.out.2.1, HB3.out.2.2.1, ⟨HB3.out.2.2.2.1, HB3.out.2.2.2.2.1, HB3.out.2.2.2.2.2.1⟩, HB3.out.1⟩
  case round =>
    obtain ⟨k, ak, ck, hk, rfl, s0, s1, hT, hbr⟩ := hrel
    obtain ⟨wo, rfl⟩ : ∃ x, x = wr := ⟨_, rfl⟩
    clear hW3 hB3
    have hB3W := HB3.out.2.2.2.2.2.2
    by_cases hlt : k < len
    · obtain ⟨bn, on, rfl, hbl, hc⟩ := HE.out.1.at (by omega)
      obtain ⟨ai, li, ci, c1', c2', c3', hli, hci, hS⟩ := hc k hlt
      have c1 := (hbr.cell (p := ⟨bn, on + k * 3, none⟩) hbl).trans c1'
      have c2 := (hbr.cell (p := ⟨bn, on + k * 3 + 1, none⟩) hbl).trans c2'
      have c3 := (hbr.cell (p := ⟨bn, on + k * 3 + 2, none⟩) hbl).trans c3'
      obtain ⟨y, hy⟩ : ∃ y, p.getD k e0 = y := ⟨_, rfl⟩
      have h3k := HE.out.2.2.2.2.2 k hlt
      have hS1 := hS.1
      rw [hy] at c1 c2 hS h3k hS1
      obtain ⟨yo, yn, yk⟩ := y
      simp only at c1 c2 hS h3k hS1
      have hpl := HE.out.2.2.2.1
      have htk := take_snoc p (show k < p.length by omega)
      rw [hy] at htk
      have hsz : ¬ bn = wo.heap.size := by have := hbr.size; omega
      have hkl : (k : Int) < len := by omega
      obtain ⟨W2, hW2⟩ : ∃ W2, wo.alloc (.cells #[.int .i64 yo, .int .i64 yn, .slice ai li ci] 57) = W2 := ⟨_, rfl⟩
      have hb2 : Below wo.heap.size wo W2 := by rw [← hW2]; exact (Below.refl _ _).alloc (Nat.le_refl _) _
      have hs2 : W2.heap.size = wo.heap.size + 1 := by rw [← hW2]; simp
      have o0 : W2.cell? ⟨wo.heap.size, 0, none⟩ = some (.int .i64 yo) := by rw [← hW2]; simp [go_sem]
      have o1 : W2.cell? ⟨wo.heap.size, 1, none⟩ = some (.int .i64 yn) := by rw [← hW2]; simp [go_sem]
      have o2 : W2.cell? ⟨wo.heap.size, 2, none⟩ = some (.slice ai li ci) := by rw [← hW2]; simp [go_sem]
      obtain ⟨hfz, hB3l, hGO⟩ := hT.out
      have hB2 : Below W1.heap.size W1 W2 := hbr.trans (hb2.mono hbr.size)
      obtain ⟨B5, hB5⟩ : ∃ B5, wo.heap.size = B5 := ⟨_, rfl⟩
      rw [hB5] at o0 o1 o2 hs2
      have hne : B5 ≠ B3 := by omega
      -- what holds in all worlds ahead of W2
      have HC : Hid (∀ W, Below W2.heap.size W2 W → (W.cell? ⟨B5, 0, none⟩ = some (.int .i64 yo) ∧ W.cell? ⟨B5, 1, none⟩ = some (.int .i64 yn) ∧ W.cell? ⟨B5, 2, none⟩ = some (.slice ai li ci)) ∧ W.cell? ⟨B3, 0, none⟩ = some (.slice ak k ck)) := fun W hW => by
        have hX := hb2.trans (hW.mono hb2.size)
        exact ⟨⟨(hW.cell (p := ⟨B5, 0, none⟩) (by show B5 < _; omega)).trans o0, (hW.cell (p := ⟨B5, 1, none⟩) (by show B5 < _; omega)).trans o1, (hW.cell (p := ⟨B5, 2, none⟩) (by show B5 < _; omega)).trans o2⟩, (hX.cell (p := ⟨B3, 0, none⟩) hB3l).trans s0⟩
      have HO : Hid (∀ W, Below W2.heap.size W2 W → Calls Tryd.prog 49 #[.slice ai li ci] W fun e w' => ∃ v : Value, e = .returned v ∧ w'.ownsRow W.heap.size 3 1 v li (vals yk) ∧ Below W.heap.size W w') := fun W hW => ownI_any ai li ci yk W ((hS.keep hB2).keep hW) (by omega)
      -- the step
      have HR : Hid (∀ (W : World) (kv : Value), Below W2.heap.size W2 W → W.ownsRow W2.heap.size 3 1 kv li (vals yk) →
          ∃ xs, W.ownsRow 0 57 3 (.slice ak k ck) k xs ∧ ∀ w6 v6, w6.ownsRow 0 57 3 v6 (k + 1) (xs ++ [.int .i64 yo, .int .i64 yn, kv]) → W.grownBy w6 (Value.slice ak k ck).ownBlock → (v6.ownBlock = (Value.slice ak k ck).ownBlock ∨ v6.ownBlock = some W.heap.size) →
            (w6.cell? ⟨B5, 0, none⟩ = some (.int .i64 yo) ∧ w6.cell? ⟨B5, 1, none⟩ = some (.int .i64 yn) ∧ w6.cell? ⟨B5, 2, none⟩ = some (.slice ai li ci)) ∧ w6.cell? ⟨B3, 0, none⟩ = some (.slice ak k ck) ∧ w6.frozen? ⟨B3, 0, none⟩ = false ∧
            (∀ v, (w6.setCell ⟨B3, 0, none⟩ v).cell? ⟨B5, 0, none⟩ = some (.int .i64 yo) ∧ (w6.setCell ⟨B3, 0, none⟩ v).cell? ⟨B5, 1, none⟩ = some (.int .i64 yn) ∧ (w6.setCell ⟨B3, 0, none⟩ v).cell? ⟨B5, 2, none⟩ = some (.slice ai li ci)) ∧
            Hid (∃ a6 c6, v6 = .slice a6 (k + 1) c6 ∧ (w6.setCell ⟨B3, 0, none⟩ v6).cell? ⟨B3, 0, none⟩ = some v6 ∧ (w6.setCell ⟨B3, 0, none⟩ v6).cell? ⟨B3, 1, none⟩ = some (.slice bb lb cbb) ∧ (w6.setCell ⟨B3, 0, none⟩ v6).frozen? ⟨B3, 0, none⟩ = false ∧ B3 < (w6.setCell ⟨B3, 0, none⟩ v6).heap.size ∧ GOwn (w6.setCell ⟨B3, 0, none⟩ v6) false (fun x => W1.heap.size ≤ x ∧ x ≠ B3) v6 (.slice bb lb cbb) (p.take (k + 1), l) ∧ Below W1.heap.size W1 (w6.setCell ⟨B3, 0, none⟩ v6))) := fun W kv hW hkv => by
        have hX : Below wo.heap.size wo W := hb2.trans (hW.mono hb2.size)
        have hGW := hGO.keep hX
        obtain ⟨⟨xs, hxs⟩, _, hsa, _⟩ := hGW.row
        have htl : (p.take k).length = k := by rw [List.length_take]; omega
        simp only [htl] at hxs
        refine ⟨xs, hxs, fun w6 v6 h1 h2 h3 => ?_⟩
        have hWs := hW.size
        have old : ∀ q : Addr, q.block = B5 ∨ q.block = B3 → w6.cell? q = W.cell? q ∧ w6.frozen? q = W.frozen? q := fun q hq => by
          have hbk : w6.heap[q.block]? = W.heap[q.block]? := h2.block q.block (by rcases hq with e | e <;> rw [e] <;> omega) (fun e => by
            have hl5 := (hxs.lt q.block e.symm).2
            have hlo : q.block < wo.heap.size := by
              have hgo := hGO.row.1
              obtain ⟨xs', hx'⟩ := hgo
              exact (hx'.lt q.block e.symm).2
            have := (hsa q.block e.symm).2
            rcases hq with e' | e'
            · omega
            · exact this e')
          exact ⟨World.cell?_of_block hbk, World.frozen?_of_block hbk⟩
        obtain ⟨⟨x0, x1, x2⟩, x3⟩ := HC.out W hW
        have y0 := (old ⟨B5, 0, none⟩ (.inl rfl)).1.trans x0
        have y1 := (old ⟨B5, 1, none⟩ (.inl rfl)).1.trans x1
        have y2 := (old ⟨B5, 2, none⟩ (.inl rfl)).1.trans x2
        have y3 := (old ⟨B3, 0, none⟩ (.inr rfl)).1.trans x3
        have y4 : w6.cell? ⟨B3, 1, none⟩ = some (.slice bb lb cbb) := (old ⟨B3, 1, none⟩ (.inr rfl)).1.trans ((hX.cell (p := ⟨B3, 1, none⟩) hB3l).trans s1)
        have y5 : w6.frozen? ⟨B3, 0, none⟩ = false := (old ⟨B3, 0, none⟩ (.inr rfl)).2.trans ((hX.frozen (p := ⟨B3, 0, none⟩) hB3l).trans hfz)
        have nq : ∀ o o', (⟨B3, o, none⟩ : Addr) ≠ ⟨B5, o', none⟩ := fun o o' e => by injection e; omega
        have nq2 : (⟨B3, 0, none⟩ : Addr) ≠ ⟨B3, 1, none⟩ := fun e => by injection e; omega
        have hs6 := h2.size
        obtain ⟨a6, c6, e6, _⟩ := row_slice h1
        have hin : KidAt W false (fun b => ¬ ((W1.heap.size ≤ b ∧ b ≠ B3) ∧ b < wo.heap.size)) kv yk := by
          have := kid_of (lo := W2.heap.size) (l := yk) (w := W) (v := kv) (by rw [hS1]; exact hkv) (by omega)
          exact this.map (Nat.le_refl _) (fun _ _ _ => rfl) (fun x hx hl h0 h1 => by omega)
        have hG6 := (hGO.sets (S' := fun b => (W1.heap.size ≤ b ∧ b ≠ B3) ∧ b < wo.heap.size) (fun b hb h => ⟨h, hb⟩)).keep hX
        have hG7 := hG6.addNode (x := (yo, yn, yk)) (by simp only [htl]; exact hxs) (by simp only [htl]; exact h1) h2 h3 hin
        refine ⟨⟨y0, y1, y2⟩, y3, y5, fun v => ⟨by rw [World.cell?_setCell_other _ _ _ _ (nq _ _)]; exact y0, by rw [World.cell?_setCell_other _ _ _ _ (nq _ _)]; exact y1, by rw [World.cell?_setCell_other _ _ _ _ (nq _ _)]; exact y2⟩, a6, c6, e6, ?_, by rw [World.cell?_setCell_other _ _ _ _ nq2]; exact y4, by simpa [go_sem] using y5, by rw [setCell_size]; omega, ?_, ?_⟩
        · rw [e6]; simp [go_sem, *]
        · rw [htk]
          refine hG7.map (by rw [setCell_size]; exact Nat.le_refl _) (fun b hb hl => setCell_block _ _ _ (fun e => ?_)) (fun b hl hb => ?_)
          · have e' : B3 = b := e
            rcases hb with h | h | h
            · exact h.1.2 e'.symm
            · omega
            · have := hkv.lt b h; omega
          · rcases hb with h | h | h
            · exact h.1
            · exact ⟨by have := hbr.size; omega, by omega⟩
            · have := hkv.lt b h; exact ⟨by have := hbr.size; omega, by omega⟩
        · have hB6 : Below W1.heap.size W1 w6 := ((hbr.trans (hX.mono hbr.size))).grown h2 (Nat.le_trans hbr.size hX.size) (fun r hr => (hsa r hr).1)
          exact hB6.setCell (by show W1.heap.size ≤ B3; omega) _
      have zA := HC.out W2 (Below.refl _ _)
      have zD := HC.out W2.drew (Go.below_drewN (Below.refl _ _) 1)
      obtain ⟨⟨zD0, zD1, zD2⟩, zD3⟩ := zD
      clear hT hc hy hS c1' c2' c3' hfz hGO o0 o1 o2 zA
      go_wp2_with fail
      (try rw [hW2])
      (try rw [hB5])
      clear hW2 c1 c2 c3 hb2
      have hkm : k ≤ 999 := by omega
      go_region_law (first
        | (obtain ⟨xs, hxs, hnext⟩ := HV.out; refine step_append rfl _ _ 27 rfl 0 57 j0 (.agg #[.int .i64 0, .int .i64 0, .slice none 0 0]) 3 40 Tryd.underlying27 hj jz0 jz1 jz2 rfl (by decide) _ _ _ rfl hxs ⟨w4.heap.size, 0, none⟩ 1 1 [_, _, _] rfl rfl (cell_new3 _ _ _ _ _) (one_cell3 _ _ _ _ _) (by unfold maxLen; omega) (by omega) (Nat.zero_le _) ?_; intro v6 w6 k1 k2 k3; obtain ⟨a6, c6, rfl, _⟩ := row_slice k1; obtain ⟨t0, t1, t2, sS, HN⟩ := hnext w6 _ k1 k2 k3; clear hnext hxs k1 k2 k3 HV)
        | (go_simp; go_at_call 49; refine Calls.mono (HO.out W2.drew (Go.below_drewN (Below.refl _ _) 1)) ?_; rintro r w4 ⟨kv, rfl, hkv, hb4⟩; obtain ⟨ka, kc, rfl, _⟩ := row_slice hkv
           have hB4 : Below W2.heap.size W2 w4 := (Go.below_drewN (Below.refl _ _) 1).trans hb4
           obtain ⟨⟨z40, z41, z42⟩, z43⟩ := HC.out w4 hB4
           have zB := fun o => (HC.out (w4.alloc o) (hB4.alloc hB4.size o)).2
           have HV := (show Hid _ from HR.out (w4.alloc (.cells #[.int .i64 yo, .int .i64 yn, .slice ka li kc] 57)) (.slice ka li kc) (hB4.alloc hB4.size _) (hkv.alloc _))
           clear hb4 hB4 hkv))
      all_goals
        clear HO HC HR zB sS
        go_wp2
        go_roundw
        case rel =>
          obtain ⟨a7, c7, e7, h1, h2, h3, h4, h5, h6⟩ := HN.out
          exact ⟨k + 1, a6, c6, by omega, by go_num, h1, h2, ⟨h3, h4, h5⟩, h6⟩
        case measure => simp [intOf]; omega
    · obtain rfl : k = len := by omega
      have hpl := HE.out.2.2.2.1
      have hb0 := HE.out.2.1
      have hs0 := HE.out.2.2.1
      have HX : Hid (∀ v0 v1, GOwn ((wo.setCell ⟨w.heap.size + 1, 0, none⟩ v0).setCell ⟨w.heap.size + 1, 1, none⟩ v1) false (fun x => w.heap.size ≤ x) (.slice ak k ck) (.slice bb lb cbb) (p, l) ∧ Below w.heap.size w ((wo.setCell ⟨w.heap.size + 1, 0, none⟩ v0).setCell ⟨w.heap.size + 1, 1, none⟩ v1)) := fun v0 v1 => by
        have hg := hT.out.2.2
        rw [List.take_of_length_le (by omega)] at hg
        refine ⟨hg.map (by rw [setCell_size, setCell_size]; exact Nat.le_refl _) (fun b hb hl => ?_) (fun b hl hb => by omega), ((hb0.trans (hbr.mono hb0.size)).setCell (by show w.heap.size ≤ w.heap.size + 1; omega) _).setCell (by show w.heap.size ≤ w.heap.size + 1; omega) _⟩
        rw [setCell_block _ _ _ (show w.heap.size + 1 ≠ b by omega), setCell_block _ _ _ (show w.heap.size + 1 ≠ b by omega)]
      have t0 := (hbr.cell (p := ⟨w.heap.size + 1, 0, none⟩) L1).trans r0
      have t1 := (hbr.cell (p := ⟨w.heap.size + 1, 1, none⟩) L1).trans r1
      have u0 := (hbr.frozen (p := ⟨w.heap.size + 1, 0, none⟩) L1).trans f0
      have u1 := (hbr.frozen (p := ⟨w.heap.size + 1, 1, none⟩) L1).trans f1
      clear hT hbr HE HB3 hpl hb0 hs0 hB3W
      go_wp2
      refine bodyPost_ret (v := .agg #[.slice ak k ck, .slice bb lb cbb]) ?_ ?_ ?_
      · simp [results, Tryd.results39, go_sem, *]
      · rfl
      · exact ⟨_, _, rfl, (HX.out _ _).1, (HX.out _ _).2⟩
end Go.Proofs.YthkjmgjajmghmaaDoor
namespace Go.Proofs.YthkjmgjajmghmaaDoor
open Go.ChangeShapes Go.WideShapes Go.ChangeAt Go.RowKit
set_option linter.unusedVariables false

theorem putL_len (g : GS) (x : EN) : (putL g x).1.1.length ≤ g.1.length + 1 := by
  cases hf : findL g.1 g.2 x with
  | some v => rw [putL_some hf]; simp only; omega
  | none => rw [putL_none hf]; simp
theorem classA_len (b : Option (List Int)) (g : GS) (n : Int × Int) (kids : List Int) : (classA b g n kids).1.1.length ≤ g.1.length + 1 := by
  unfold classA
  cases b with
  | none => exact putL_len _ _
  | some bs =>
    simp only
    by_cases e : n.1 = 2
    · rw [if_pos e]; simp only; omega
    · rw [if_neg e]; exact putL_len _ _
theorem runA_len (b : Option (List Int)) : ∀ (t : List (Int × Int)) (s : GS × List Int), (runA b t s).1.1.length ≤ s.1.1.length + t.length
  | [], s => Nat.le_refl _
  | n :: t, s => by
    have ih := runA_len b t (stepA b s n)
    have h := classA_len b s.1 n (s.2.drop (s.2.length - (ar n.1).toNat))
    show (runA b t (stepA b s n)).1.1.length ≤ _
    have e : (stepA b s n).1 = (classA b s.1 n (s.2.drop (s.2.length - (ar n.1).toNat))).1 := rfl
    rw [e] at ih
    simp only [List.length_cons]
    omega
theorem seg_len (l : List (Int × Int)) (a b : Nat) (h : b ≤ l.length) : (seg l a b).length ≤ b - a := by
  unfold seg; rw [List.length_take]; omega
theorem kids_pile {t : List (Int × Int)} {q : Int} (h : pile t 0 = some q) {k : Nat} (hk : k < t.length) : ∀ j, j ≤ (ar (t.getD k (0, 0)).1).toNat → pile (seg t (start t k) (endAt t (ar (t.getD k (0, 0)).1).toNat k j)) 0 = some (j : Int)
  | 0, _ => by rw [(chain_of h hk).2.1, seg_self]; rfl
  | j + 1, hj => by
    have ch := (chain_of h hk).2.2 j (by omega)
    have ih := kids_pile h hk j (by omega)
    have hge := endAt_ge h hk j (by omega)
    have es : endAt t (ar (t.getD k (0, 0)).1).toNat k (j + 1) = (roots t (ar (t.getD k (0, 0)).1).toNat k).getD j 0 + 1 := by unfold endAt; rw [if_neg (by omega)]; rfl
    rw [es, seg_append t _ (endAt t (ar (t.getD k (0, 0)).1).toNat k j) _ hge (by omega), pile_append, ih]
    have hp := seg_pile h k _ ch.2.2 (by omega) (j : Int) (by omega)
    rw [ch.1] at hp
    show pile _ (j : Int) = _
    rw [hp]
    congr 1
theorem seg_mem (t : List (Int × Int)) (a b : Nat) : ∀ n ∈ seg t a b, n ∈ t := fun n hn => List.mem_of_mem_drop (List.mem_of_mem_take hn)
theorem kidsA_good {t : List (Int × Int)} {q : Int} (h : pile t 0 = some q) {b : Option (List Int)} {g : GS} (hg : GoodG g) (hB : BOk b g t) {k : Nat} (hk : k < t.length) {j : Nat} (hj : j ≤ (ar (t.getD k (0, 0)).1).toNat) {g1 : GS} {ks : List Int} (e : kidsA b t g k j = (g1, ks)) (hl : endAt t (ar (t.getD k (0, 0)).1).toNat k j ≤ t.length) :
    GoodG g1 ∧ (∀ c ∈ ks, IsCl g1 c) ∧ BOk b g1 t ∧ g1.1.length ≤ g.1.length + (endAt t (ar (t.getD k (0, 0)).1).toNat k j - start t k) ∧ ks.length = j := by
  have hp := kids_pile h hk j hj
  unfold kidsA at e
  have hgd := runA_good (b := b) _ g [] _ hp hg (fun c hc => by cases hc) (hB.step (seg_mem t _ _) (fun c hc => hc))
  have hlen := runA_len b (seg t (start t k) (endAt t (ar (t.getD k (0, 0)).1).toNat k j)) (g, [])
  have hfr := (runA_frame b [] _ g [] _ hp).2
  have hsl := seg_len t (start t k) (endAt t (ar (t.getD k (0, 0)).1).toNat k j) hl
  rw [e] at hgd hlen hfr
  simp only at hgd hlen hfr
  exact ⟨hgd.1, hgd.2.1, hB.step (fun _ h => h) hgd.2.2.1, by omega, by omega⟩
/-- What is handed over as a bind. -/
def BindIs (W : World) (b : Option (List Int)) (ba : Option Addr) (bl : Nat) : Prop := (b = none ∧ bl = 0) ∨ ∃ bs, b = some bs ∧ bl = 4 ∧ Sl W ba 4 bs
/-- What l6Add leaves. -/
def AddR (W : World) (S : Nat → Prop) (r : GS × List Int) (e : Ending) (w' : World) : Prop := ∃ va vb c, e = .returned (.tuple #[.agg #[va, vb], .int .i64 c]) ∧ r.2 = [c] ∧ GOwn w' false (fun b => S b ∨ W.heap.size ≤ b) va vb r.1 ∧ KB S W w'
/-- A node of a term while its parts are put. -/
structure LoopJ (W w3 wr : World) (S : Nat → Prop) (v : Value) (g1 : GS) (va vb kv : Value) (ks : List Int) (xo xn : Int) : Prop where
  own : GOwn wr false (fun y => (S y ∨ W.heap.size + 3 ≤ y) ∧ y ≠ W.heap.size ∧ y ≠ W.heap.size + 1 ∧ y ≠ W.heap.size + 2 ∧ v.ownBlock ≠ some y ∧ kv.ownBlock ≠ some y) va vb g1
  kids : wr.ownsRow 0 3 1 kv ks.length (vals ks)
  kin : ∀ y, kv.ownBlock = some y → W.heap.size + 3 ≤ y ∧ v.ownBlock ≠ some y
  vin : ∀ y, v.ownBlock = some y → W.heap.size + 3 ≤ y ∧ y < w3.heap.size
  kb : KB S W wr
  c0 : wr.cell? ⟨W.heap.size, 0, none⟩ = some va
  c1 : wr.cell? ⟨W.heap.size, 1, none⟩ = some vb
  x0 : wr.cell? ⟨W.heap.size + 2, 0, none⟩ = some (.int .i64 xo)
  x1 : wr.cell? ⟨W.heap.size + 2, 1, none⟩ = some (.int .i64 xn)
  x2 : wr.cell? ⟨W.heap.size + 2, 2, none⟩ = some kv
  z0 : wr.frozen? ⟨W.heap.size, 0, none⟩ = false
  z1 : wr.frozen? ⟨W.heap.size, 1, none⟩ = false
  z2 : wr.frozen? ⟨W.heap.size + 2, 2, none⟩ = false
  part : ∀ y, v.ownBlock = some y → wr.heap[y]? = w3.heap[y]?
  res : wr.heap[W.heap.size + 1]? = w3.heap[W.heap.size + 1]?
  size : w3.heap.size ≤ wr.heap.size
  big : W.heap.size + 3 ≤ w3.heap.size
/-- The part's answer is stored. -/
theorem LoopJ.mid {W w3 wr w4 : World} {S : Nat → Prop} {v : Value} {g1 g2 : GS} {va vb va' vb' kv : Value} {ks : List Int} {xo xn : Int} (h : LoopJ W w3 wr S v g1 va vb kv ks xo xn) (hv : ∃ a n c, va' = .slice a n c) (hv2 : ∃ a n c, vb' = .slice a n c)
    (hG : GOwn w4 false (fun b => ((S b ∨ W.heap.size + 3 ≤ b) ∧ b ≠ W.heap.size ∧ b ≠ W.heap.size + 1 ∧ b ≠ W.heap.size + 2 ∧ v.ownBlock ≠ some b ∧ kv.ownBlock ≠ some b) ∨ wr.heap.size ≤ b) va' vb' g2)
    (hk : KB (fun b => (S b ∨ W.heap.size + 3 ≤ b) ∧ b ≠ W.heap.size ∧ b ≠ W.heap.size + 1 ∧ b ≠ W.heap.size + 2 ∧ v.ownBlock ≠ some b ∧ kv.ownBlock ≠ some b) wr w4) (o : Obj) :
    (w4.alloc o).cell? ⟨W.heap.size, 0, none⟩ = some va ∧ (w4.alloc o).cell? ⟨W.heap.size, 1, none⟩ = some vb ∧ (w4.alloc o).frozen? ⟨W.heap.size, 0, none⟩ = false ∧ (w4.alloc o).frozen? ⟨W.heap.size, 1, none⟩ = false ∧ LoopJ W w3 (((w4.alloc o).setCell ⟨W.heap.size, 0, none⟩ va').setCell ⟨W.heap.size, 1, none⟩ vb') S v g2 va' vb' kv ks xo xn := by
  obtain ⟨A1, A2, A3, rfl⟩ := hv
  obtain ⟨C1, C2, C3, rfl⟩ := hv2
  have hsz := h.size
  have hbig := h.big
  have hal : ∀ b, b < w4.heap.size → (w4.alloc o).heap[b]? = w4.heap[b]? := fun b hb => (World.grownBy_alloc w4 o none).block b hb (by simp)
  have hk4 := hk.size
  have keep : ∀ b, b < wr.heap.size → (b = W.heap.size ∨ b = W.heap.size + 1 ∨ b = W.heap.size + 2 ∨ v.ownBlock = some b ∨ kv.ownBlock = some b) → (w4.alloc o).heap[b]? = wr.heap[b]? := fun b hb hc => (hal b (by omega)).trans (hk.block b hb (fun hs => by
    rcases hc with e | e | e | e | e
    · exact hs.2.1 e
    · exact hs.2.2.1 e
    · exact hs.2.2.2.1 e
    · exact hs.2.2.2.2.1 e
    · exact hs.2.2.2.2.2 e))
  have k0 := keep W.heap.size (by omega) (.inl rfl)
  have k1 := keep (W.heap.size + 1) (by omega) (.inr (.inl rfl))
  have k2 := keep (W.heap.size + 2) (by omega) (.inr (.inr (.inl rfl)))
  have e0 := (World.cell?_of_block (a := ⟨W.heap.size, 0, none⟩) k0).trans h.c0
  have e1 := (World.cell?_of_block (a := ⟨W.heap.size, 1, none⟩) k0).trans h.c1
  have e2 := (World.frozen?_of_block (a := ⟨W.heap.size, 0, none⟩) k0).trans h.z0
  have e3 := (World.frozen?_of_block (a := ⟨W.heap.size, 1, none⟩) k0).trans h.z1
  have two : ∀ b, b ≠ W.heap.size → (((w4.alloc o).setCell ⟨W.heap.size, 0, none⟩ (.slice A1 A2 A3)).setCell ⟨W.heap.size, 1, none⟩ (.slice C1 C2 C3)).heap[b]? = (w4.alloc o).heap[b]? := fun b hb => by
    rw [setCell_block _ _ _ (show W.heap.size ≠ b from Ne.symm hb), setCell_block _ _ _ (show W.heap.size ≠ b from Ne.symm hb)]
  have hsz2 : (((w4.alloc o).setCell ⟨W.heap.size, 0, none⟩ (.slice A1 A2 A3)).setCell ⟨W.heap.size, 1, none⟩ (.slice C1 C2 C3)).heap.size = w4.heap.size + 1 := by rw [setCell_size, setCell_size]; simp
  refine ⟨e0, e1, e2, e3, ?_⟩
  refine ⟨?_, ?_, h.kin, h.vin, ?_, ?_, ?_, ?_, ?_, ?_, ?_, ?_, ?_, fun y hy => ?_, ?_, by omega, hbig⟩
  · refine (hG.sets (S' := fun y => (S y ∨ W.heap.size + 3 ≤ y) ∧ y ≠ W.heap.size ∧ y ≠ W.heap.size + 1 ∧ y ≠ W.heap.size + 2 ∧ v.ownBlock ≠ some y ∧ kv.ownBlock ≠ some y) (fun b hl hb => ?_)).map (by omega) (fun b hb hl => (two b hb.2.1).trans (hal b hl)) (fun _ _ h => h)
    rcases hb with hb | hb
    · exact hb
    · refine ⟨.inr (by omega), by omega, by omega, by omega, fun e => ?_, fun e => ?_⟩
      · have := (h.vin b e).2; omega
      · have := (h.kids.lt b e).2; omega
  · exact row_map h.kids (fun y hy hl => (two y (fun e => by have := (h.kin y hy).1; omega)).trans (keep y hl (.inr (.inr (.inr (.inr hy))))))
  · refine ((h.kb.trans hk (fun b hb hs => ?_)).trans (T := fun _ => False) (KB.of ((Below.refl _ _).alloc (Nat.le_refl _) o)) (fun _ _ h => h.elim)).setCell (p := ⟨W.heap.size, 0, none⟩) (fun hlt => absurd hlt (Nat.lt_irrefl _)) _ |>.setCell (p := ⟨W.heap.size, 1, none⟩) (fun hlt => absurd hlt (Nat.lt_irrefl _)) _
    rcases hs.1 with h | h
    · exact h
    · omega
  · rw [World.cell?_setCell_other _ _ _ _ (fun e => by injection e; omega)]; simp [go_sem, *]
  · simp [go_sem, *]
  · exact (World.cell?_of_block (a := ⟨W.heap.size + 2, 0, none⟩) ((two _ (by show W.heap.size + 2 ≠ _; omega)).trans k2)).trans h.x0
  · exact (World.cell?_of_block (a := ⟨W.heap.size + 2, 1, none⟩) ((two _ (by show W.heap.size + 2 ≠ _; omega)).trans k2)).trans h.x1
  · exact (World.cell?_of_block (a := ⟨W.heap.size + 2, 2, none⟩) ((two _ (by show W.heap.size + 2 ≠ _; omega)).trans k2)).trans h.x2
  · simpa [go_sem] using e2
  · simpa [go_sem] using e3
  · exact (World.frozen?_of_block (a := ⟨W.heap.size + 2, 2, none⟩) ((two _ (by show W.heap.size + 2 ≠ _; omega)).trans k2)).trans h.z2
  · have hv := h.vin y hy
    exact (two y (by omega)).trans ((keep y (by omega) (.inr (.inr (.inr (.inl hy))))).trans (h.part y hy))
  · exact (two _ (by omega)).trans (k1.trans h.res)
/-- The class is laid to the kids. -/
theorem LoopJ.next {W w3 w5 : World} {S : Nat → Prop} {v : Value} {g2 : GS} {va vb kv : Value} {ks : List Int} {xo xn : Int} (h : LoopJ W w3 w5 S v g2 va vb kv ks xo xn) (c : Int) :
    (w5.alloc (.cells #[.int .i64 c] 3)).ownsRow 0 3 1 kv ks.length (vals ks) ∧ ∀ w6 kv', w6.ownsRow 0 3 1 kv' (ks.length + 1) (vals ks ++ [.int .i64 c]) → (w5.alloc (.cells #[.int .i64 c] 3)).grownBy w6 kv.ownBlock → (kv'.ownBlock = kv.ownBlock ∨ kv'.ownBlock = some (w5.alloc (.cells #[.int .i64 c] 3)).heap.size) →
      w6.cell? ⟨W.heap.size + 2, 2, none⟩ = some kv ∧ w6.frozen? ⟨W.heap.size + 2, 2, none⟩ = false ∧ LoopJ W w3 (w6.setCell ⟨W.heap.size + 2, 2, none⟩ kv') S v g2 va vb kv' (ks ++ [c]) xo xn := by
  have hsz := h.size
  have hbig := h.big
  refine ⟨h.kids.alloc _, fun w6 kv' k1 k2 k3 => ?_⟩
  obtain ⟨A1, A2, rfl, _⟩ := row_slice k1
  have hs5 : (w5.alloc (.cells #[.int .i64 c] 3)).heap.size = w5.heap.size + 1 := by simp
  have hs6 := k2.size
  have keep : ∀ b, b < w5.heap.size → kv.ownBlock ≠ some b → w6.heap[b]? = w5.heap[b]? := fun b hb hn => (k2.block b (by omega) (fun e => hn e.symm)).trans ((World.grownBy_alloc w5 _ none).block b hb (by simp))
  have kb : ∀ b, b = W.heap.size ∨ b = W.heap.size + 1 ∨ b = W.heap.size + 2 → w6.heap[b]? = w5.heap[b]? := fun b hb => keep b (by omega) (fun e => by have := (h.kin b e).1; omega)
  have q0 := kb W.heap.size (.inl rfl)
  have q1 := kb (W.heap.size + 1) (.inr (.inl rfl))
  have q2 := kb (W.heap.size + 2) (.inr (.inr rfl))
  have x2 := (World.cell?_of_block (a := ⟨W.heap.size + 2, 2, none⟩) q2).trans h.x2
  have z2 := (World.frozen?_of_block (a := ⟨W.heap.size + 2, 2, none⟩) q2).trans h.z2
  have one : ∀ b, b ≠ W.heap.size + 2 → (w6.setCell ⟨W.heap.size + 2, 2, none⟩ (.slice A1 (ks.length + 1) A2)).heap[b]? = w6.heap[b]? := fun b hb => setCell_block _ _ _ (show W.heap.size + 2 ≠ b from Ne.symm hb)
  have kn : ∀ y, (Value.slice A1 (ks.length + 1) A2).ownBlock = some y → kv.ownBlock = some y ∨ y = w5.heap.size + 1 := fun y hy => by
    rcases k3 with e | e
    · left; rw [← e]; exact hy
    · right; rw [e] at hy; injection hy; omega
  refine ⟨x2, z2, ?_, ?_, fun y hy => ?_, h.vin, ?_, ?_, ?_, ?_, ?_, ?_, ?_, ?_, ?_, fun y hy => ?_, ?_, by rw [setCell_size]; omega, hbig⟩
  · refine h.own.map (by rw [setCell_size]; omega) (fun b hb hl => (one b hb.2.2.2.1).trans (keep b hl hb.2.2.2.2.2)) (fun b hl hb => ⟨hb.1, hb.2.1, hb.2.2.1, hb.2.2.2.1, hb.2.2.2.2.1, fun e => ?_⟩)
    rcases kn b e with e | e
    · exact hb.2.2.2.2.2 e
    · omega
  · rw [List.length_append, vals_append]
    exact row_map k1 (fun y hy hl => one y (fun e => by
      rcases kn y hy with e' | e'
      · have := (h.kin y e').1; omega
      · omega))
  · rcases kn y hy with e | e
    · exact h.kin y e
    · exact ⟨by omega, fun e2 => by have := (h.vin y e2).2; omega⟩
  · refine (((h.kb.trans (T := fun _ => False) (KB.of ((Below.refl _ _).alloc (Nat.le_refl _) _)) (fun _ _ h => h.elim)).grown k2 (fun y hy hl => ?_))).setCell (p := ⟨W.heap.size + 2, 2, none⟩) (fun hlt => absurd hlt (by show ¬ W.heap.size + 2 < W.heap.size; omega)) _
    have := (h.kin y hy).1; omega
  · exact (World.cell?_of_block (a := ⟨W.heap.size, 0, none⟩) ((one _ (by show W.heap.size ≠ _; omega)).trans q0)).trans h.c0
  · exact (World.cell?_of_block (a := ⟨W.heap.size, 1, none⟩) ((one _ (by show W.heap.size ≠ _; omega)).trans q0)).trans h.c1
  · rw [World.cell?_setCell_other _ _ _ _ (fun e => by injection e; omega)]; exact (World.cell?_of_block (a := ⟨W.heap.size + 2, 0, none⟩) q2).trans h.x0
  · rw [World.cell?_setCell_other _ _ _ _ (fun e => by injection e; omega)]; exact (World.cell?_of_block (a := ⟨W.heap.size + 2, 1, none⟩) q2).trans h.x1
  · simp [go_sem, *]
  · exact (World.frozen?_of_block (a := ⟨W.heap.size, 0, none⟩) ((one _ (by show W.heap.size ≠ _; omega)).trans q0)).trans h.z0
  · exact (World.frozen?_of_block (a := ⟨W.heap.size, 1, none⟩) ((one _ (by show W.heap.size ≠ _; omega)).trans q0)).trans h.z1
  · simpa [go_sem] using z2
  · have hv := h.vin y hy
    exact (one y (by omega)).trans ((keep y (by omega) (fun e => (h.kin y e).2 hy)).trans (h.part y hy))
  · exact (one _ (by omega)).trans (q1.trans h.res)
theorem nsl_kb {w w' : World} {S : Nat → Prop} {b off len : Nat} {l : List (Int × Int)} (h : NSl w (some ⟨b, off, none⟩) len l) (hk : KB S w w') (hS : ¬ S b) : NSl w' (some ⟨b, off, none⟩) len l := by
  refine ⟨h.1, ?_⟩
  rcases h.2 with h0 | ⟨b', off', e, hlt, hc⟩
  · exact .inl h0
  · cases e
    exact .inr ⟨b, off, rfl, Nat.lt_of_lt_of_le hlt hk.size, fun i hi => ⟨(hk.cell (p := ⟨b, off + i * 2, none⟩) hlt hS).trans (hc i hi).1, (hk.cell (p := ⟨b, off + i * 2 + 1, none⟩) hlt hS).trans (hc i hi).2⟩⟩
theorem bind_kb {w w' : World} {S : Nat → Prop} {b : Option (List Int)} {ba : Option Addr} {bl : Nat} (h : BindIs w b ba bl) (hk : KB S w w') (hS : ∀ x, (Value.slice ba bl bl).ownBlock = some x → ¬ S x) : BindIs w' b ba bl := by
  rcases h with h | ⟨bs, h1, h2, h3⟩
  · exact .inl h
  · exact .inr ⟨bs, h1, h2, sl_block h3 (fun x hx hl => hk.block x hl (hS x (by rw [own_slice ba _ _ _ _]; exact hx))) hk.size⟩
theorem own_apart {W : World} {s : Bool} {S T : Nat → Prop} {va vb : Value} {g : GS} (h : GOwn W s S va vb g) (hT : ∀ b, b < W.heap.size → S b → T b) : GOwn W s T va vb g := h.sets hT
end Go.Proofs.YthkjmgjajmghmaaDoor
