/-
  PROVED HERE: what the model's l6Own answers, at every graph of at most a thousand nodes and numbers. No other condition.
-/
import Derived.Test.YtobgkfpjokfbaaaGreatDoorRun13
import Derived.Test.YtobgkfpjokfbaaaGreatDoorRun14
import Derived.Test.YtobgkfpjokfbaaaGreatDoorSteps
import Derived.Deep.RegionHeld3
import Derived.Laws.AppendOwnNone
namespace Go.Proofs.YtobgkfpjokfbaaaGreatDoor
open Go.ChangeShapes Go.WideShapes Go.ChangeAt Go.RowKit
set_option linter.unusedVariables false

theorem ownZ_any (a : Option Addr) (cap : Nat) (w : World) :
    Calls Tryz.prog 97 #[.slice a 0 cap] w fun e w' => ∃ v : Value, e = .returned v ∧ w'.ownsRow w.heap.size 3 1 v 0 (vals []) ∧ Below w.heap.size w w' := by
  obtain ⟨i0, hi, hz0, hz1, hz2⟩ := info_parts infoInt
  have hb0 : Below w.heap.size w (w.alloc (.cells #[] 3)) := (Below.refl _ _).alloc (Nat.le_refl _) _
  have hcs : (empty5 w) = (empty5 w) := rfl
  cases a with
  | none =>
    go_enter Tryz.func97, Tryz.ntmps97
    go_wp2
    go_ret
    exact ⟨_, rfl, empty5 w, hb0⟩
  | some x =>
    go_enter Tryz.func97, Tryz.ntmps97
    go_wp2_with (at_builtin; refine wpList_append_own _ rfl _ _ 23 rfl w.heap.size 3 i0 (.int .i64 0) 1 8 Tryz.underlying23 hi hz0 hz1 hz2 rfl (by decide) _ _ _ rfl (empty5 w) x 0 cap (vals []) rfl rfl (fun j u hj => by simp [vals] at hj) (fun u hu => by simp [vals] at hu) (by unfold maxLen; omega) (by omega) (by simp) ?_; intro v' w4 hown4 hg4 _)
    go_ret
    rw [Nat.zero_add, List.nil_append] at hown4
    exact ⟨_, rfl, hown4, hb0.grown hg4 (by simp) (fun r hr => by cases hr; exact Nat.le_refl _)⟩
theorem ownI_any (a : Option Addr) (len cap : Nat) (l : List Int) (w : World) (h : Sl w a len l) (hn : len ≤ 1048576) :
    Calls Tryz.prog 97 #[.slice a len cap] w fun e w' => ∃ v : Value, e = .returned v ∧ w'.ownsRow w.heap.size 3 1 v len (vals l) ∧ Below w.heap.size w w' := by
  by_cases h0 : len = 0
  · subst h0
    have : l = [] := List.length_eq_zero_iff.1 h.1
    subst this
    exact ownZ_any a cap w
  · exact own5_any a len cap l w h (by omega) hn
/-- A row of its own as kids. -/
theorem kid_of {w : World} {lo : Nat} {v : Value} {l : List Int} (h : w.ownsRow lo 3 1 v l.length (vals l)) (hl : l.length ≤ 9223372036854775807) : KidAt w false (fun b => lo ≤ b) v l := by
  obtain ⟨a, c, rfl, hs⟩ := Sl.vals h
  obtain ⟨a', c', e, hc⟩ := row_slice h
  cases e
  exact ⟨_, _, rfl, hc, hl, hs, fun x hx => h.lt x hx, fun e => by cases e⟩
theorem take_snoc (p : List EN) {k : Nat} (h : k < p.length) : p.take (k + 1) = p.take k ++ [p.getD k e0] := by
  rw [List.take_succ_eq_append_getElem h, getDE_lt h]
set_option maxHeartbeats 3200000 in
set_option maxRecDepth 20000 in
theorem l6Own_any (a b : Option Addr) (len cap lb cb : Nat) (p : List EN) (l : List Int) (w : World) (h : ESl w a len p) (hl : Sl w b lb l) (hm : len ≤ 1000) (hm2 : lb ≤ 1000) (h3 : ∀ i, i < len → (p.getD i e0).2.2.length ≤ 3) :
    Calls Tryz.prog 73 #[.agg #[.slice a len cap, .slice b lb cb]] w fun e w' => ∃ va vb, e = .returned (.agg #[va, vb]) ∧ GOwn w' false (fun x => w.heap.size ≤ x) va vb (p, l) ∧ Below w.heap.size w w' := by
  obtain ⟨j0, hj, jz0, jz1, jz2⟩ := info_parts infoENode
  have hll := h.1
  have hl1 := hl.1
  obtain ⟨W1, hW1⟩ : ∃ W1, (w.alloc (.cells #[.slice a len cap, .slice b lb cb] 36)).alloc (.cells #[.slice none 0 0, .slice none 0 0] 36) = W1 := ⟨_, rfl⟩
  have hb1 : Below w.heap.size w W1 := by rw [← hW1]; exact ((Below.refl _ _).alloc (Nat.le_refl _) _).alloc (by simp) _
  have hs1 : W1.heap.size = w.heap.size + 2 := by rw [← hW1]; simp
  have n0 : W1.cell? ⟨w.heap.size, 0, none⟩ = some (.slice a len cap) := by rw [← hW1]; simp [go_sem]
  have n1 : W1.cell? ⟨w.heap.size, 1, none⟩ = some (.slice b lb cb) := by rw [← hW1]; simp [go_sem]
  have r0 : W1.cell? ⟨w.heap.size + 1, 0, none⟩ = some (.slice none 0 0) := by rw [← hW1]; simp [go_sem]
  have r1 : W1.cell? ⟨w.heap.size + 1, 1, none⟩ = some (.slice none 0 0) := by rw [← hW1]; simp [go_sem]
  have f0 : W1.frozen? ⟨w.heap.size + 1, 0, none⟩ = false := by rw [← hW1]; simp [go_sem]
  have f1 : W1.frozen? ⟨w.heap.size + 1, 1, none⟩ = false := by rw [← hW1]; simp [go_sem]
  have HO := (show Hid _ from ownI_any b lb cb l W1 (hl.keep hb1) (by omega))
  have HE : Hid (ESl W1 a len p ∧ Below w.heap.size w W1 ∧ W1.heap.size = w.heap.size + 2 ∧ p.length = len ∧ l.length = lb ∧ (∀ i, i < len → (p.getD i e0).2.2.length ≤ 3)) := ⟨h.keep hb1, hb1, hs1, hll, hl1, h3⟩
  have L0 : w.heap.size < W1.heap.size := by omega
  have L1 : w.heap.size + 1 < W1.heap.size := by omega
  clear h hl hb1 hs1 hll hl1 h3
  go_enter Tryz.func73, Tryz.ntmps73
  go_wp2_with fail
  (try rw [hW1])
  refine Calls.mono HO.out ?_
  rintro e w2 ⟨vb, rfl, hrow, hb2⟩
  obtain ⟨bb, cbb, rfl, _⟩ := row_slice hrow
  have q0 := (hb2.cell (p := ⟨w.heap.size, 0, none⟩) L0).trans n0
  have q0' : ∀ o, (w2.alloc o).cell? ⟨w.heap.size, 0, none⟩ = some (.slice a len cap) := fun o => ((hb2.alloc hb2.size o).cell (p := ⟨w.heap.size, 0, none⟩) L0).trans n0
  have hs2 := hb2.size
  have HB3 : Hid (Below W1.heap.size W1 (w2.alloc (.cells #[.slice none 0 0, .slice bb lb cbb] 36)) ∧ (w2.alloc (.cells #[.slice none 0 0, .slice bb lb cbb] 36)).cell? ⟨w2.heap.size, 0, none⟩ = some (.slice none 0 0) ∧ (w2.alloc (.cells #[.slice none 0 0, .slice bb lb cbb] 36)).cell? ⟨w2.heap.size, 1, none⟩ = some (.slice bb lb cbb) ∧ (w2.alloc (.cells #[.slice none 0 0, .slice bb lb cbb] 36)).frozen? ⟨w2.heap.size, 0, none⟩ = false ∧ w2.heap.size < (w2.alloc (.cells #[.slice none 0 0, .slice bb lb cbb] 36)).heap.size ∧ GOwn (w2.alloc (.cells #[.slice none 0 0, .slice bb lb cbb] 36)) false (fun x => W1.heap.size ≤ x ∧ x ≠ w2.heap.size) (.slice none 0 0) (.slice bb lb cbb) ([], l) ∧ W1.heap.size ≤ w2.heap.size) := by
    refine ⟨hb2.alloc hb2.size _, by simp [go_sem], by simp [go_sem], by simp [go_sem], by simp, ⟨[], fun _ => undef, World.ownsRow_nil _ _ _ _, ?_, (fun x hx => by cases hx), fun x hx => ?_, fun i hi => absurd hi (Nat.not_lt_zero _)⟩, hs2⟩
    · show (w2.alloc _).ownsRow 0 3 1 _ l.length (vals l)
      rw [HE.out.2.2.2.2.1]
      exact own_base (hrow.alloc _) (Nat.zero_le _)
    · have := hrow.lt x hx; exact ⟨this.1, by omega⟩
  clear HO hW1 hrow
  go_wp2_with fail
  obtain ⟨B3, hB3⟩ : ∃ B3, w2.heap.size = B3 := ⟨_, rfl⟩
  obtain ⟨W3, hW3⟩ : ∃ W3, w2.alloc (.cells #[.slice none 0 0, .slice bb lb cbb] 36) = W3 := ⟨_, rfl⟩
  rw [hW3, hB3] at HB3
  (try rw [hW3])
  (try rw [hB3])
  clear hb2 q0 q0' hs2
  go_loopw [13] (fun i wr => ∃ (k : Nat) (ak : Option Addr) (ck : Nat), k ≤ len ∧ i = .int .i64 k ∧ wr.cell? ⟨B3, 0, none⟩ = some (.slice ak k ck) ∧ wr.cell? ⟨B3, 1, none⟩ = some (.slice bb lb cbb) ∧ Hid (wr.frozen? ⟨B3, 0, none⟩ = false ∧ B3 < wr.heap.size ∧ GOwn wr false (fun x => W1.heap.size ≤ x ∧ x ≠ B3) (.slice ak k ck) (.slice bb lb cbb) (p.take k, l)) ∧ Below W1.heap.size W1 wr) (fun i _ => len - (intOf i).toNat)
  case atStart => exact ⟨0, none, 0, Nat.zero_le _, rfl, HB3.out.2.1, HB3.out.2.2.1, ⟨HB3.out.2.2.2.1, HB3.out.2.2.2.2.1, HB3.out.2.2.2.2.2.1⟩, HB3.out.1⟩
  case round =>
    obtain ⟨k, ak, ck, hk, rfl, s0, s1, hT, hbr⟩ := hrel
    obtain ⟨wo, rfl⟩ : ∃ x, x = wr := ⟨_, rfl⟩
    clear hW3 hB3
    have hB3W := HB3.out.2.2.2.2.2.2
    by_cases hlt : k < len
    · obtain ⟨bn, on, rfl, hbl, hc⟩ := HE.out.1.at (by omega)
      obtain ⟨ai, li, ci, c1', c2', c3', hli, hci, hS⟩ := hc k hlt
      have c1 := (hbr.cell (p := ⟨bn, on + k * 3, none⟩) hbl).trans c1'
      have c2 := (hbr.cell (p := ⟨bn, on + k * 3 + 1, none⟩) hbl).trans c2'
      have c3 := (hbr.cell (p := ⟨bn, on + k * 3 + 2, none⟩) hbl).trans c3'
      obtain ⟨y, hy⟩ : ∃ y, p.getD k e0 = y := ⟨_, rfl⟩
      have h3k := HE.out.2.2.2.2.2 k hlt
      have hS1 := hS.1
      rw [hy] at c1 c2 hS h3k hS1
      obtain ⟨yo, yn, yk⟩ := y
      simp only at c1 c2 hS h3k hS1
      have hpl := HE.out.2.2.2.1
      have htk := take_snoc p (show k < p.length by omega)
      rw [hy] at htk
      have hsz : ¬ bn = wo.heap.size := by have := hbr.size; omega
      have hkl : (k : Int) < len := by omega
      obtain ⟨W2, hW2⟩ : ∃ W2, wo.alloc (.cells #[.int .i64 yo, .int .i64 yn, .slice ai li ci] 80) = W2 := ⟨_, rfl⟩
      have hb2 : Below wo.heap.size wo W2 := by rw [← hW2]; exact (Below.refl _ _).alloc (Nat.le_refl _) _
      have hs2 : W2.heap.size = wo.heap.size + 1 := by rw [← hW2]; simp
      have o0 : W2.cell? ⟨wo.heap.size, 0, none⟩ = some (.int .i64 yo) := by rw [← hW2]; simp [go_sem]
      have o1 : W2.cell? ⟨wo.heap.size, 1, none⟩ = some (.int .i64 yn) := by rw [← hW2]; simp [go_sem]
      have o2 : W2.cell? ⟨wo.heap.size, 2, none⟩ = some (.slice ai li ci) := by rw [← hW2]; simp [go_sem]
      obtain ⟨hfz, hB3l, hGO⟩ := hT.out
      have hB2 : Below W1.heap.size W1 W2 := hbr.trans (hb2.mono hbr.size)
      obtain ⟨B5, hB5⟩ : ∃ B5, wo.heap.size = B5 := ⟨_, rfl⟩
      rw [hB5] at o0 o1 o2 hs2
      have hne : B5 ≠ B3 := by omega
      -- what holds in all worlds ahead of W2
      have HC : Hid (∀ W, Below W2.heap.size W2 W → (W.cell? ⟨B5, 0, none⟩ = some (.int .i64 yo) ∧ W.cell? ⟨B5, 1, none⟩ = some (.int .i64 yn) ∧ W.cell? ⟨B5, 2, none⟩ = some (.slice ai li ci)) ∧ W.cell? ⟨B3, 0, none⟩ = some (.slice ak k ck)) := fun W hW => by
        have hX := hb2.trans (hW.mono hb2.size)
        exact ⟨⟨(hW.cell (p := ⟨B5, 0, none⟩) (by show B5 < _; omega)).trans o0, (hW.cell (p := ⟨B5, 1, none⟩) (by show B5 < _; omega)).trans o1, (hW.cell (p := ⟨B5, 2, none⟩) (by show B5 < _; omega)).trans o2⟩, (hX.cell (p := ⟨B3, 0, none⟩) hB3l).trans s0⟩
      have HO : Hid (∀ W, Below W2.heap.size W2 W → Calls Tryz.prog 97 #[.slice ai li ci] W fun e w' => ∃ v : Value, e = .returned v ∧ w'.ownsRow W.heap.size 3 1 v li (vals yk) ∧ Below W.heap.size W w') := fun W hW => ownI_any ai li ci yk W ((hS.keep hB2).keep hW) (by omega)
      -- the step
      have HR : Hid (∀ (W : World) (kv : Value), Below W2.heap.size W2 W → W.ownsRow W2.heap.size 3 1 kv li (vals yk) →
          ∃ xs, W.ownsRow 0 80 3 (.slice ak k ck) k xs ∧ ∀ w6 v6, w6.ownsRow 0 80 3 v6 (k + 1) (xs ++ [.int .i64 yo, .int .i64 yn, kv]) → W.grownBy w6 (Value.slice ak k ck).ownBlock → (v6.ownBlock = (Value.slice ak k ck).ownBlock ∨ v6.ownBlock = some W.heap.size) →
            (w6.cell? ⟨B5, 0, none⟩ = some (.int .i64 yo) ∧ w6.cell? ⟨B5, 1, none⟩ = some (.int .i64 yn) ∧ w6.cell? ⟨B5, 2, none⟩ = some (.slice ai li ci)) ∧ w6.cell? ⟨B3, 0, none⟩ = some (.slice ak k ck) ∧ w6.frozen? ⟨B3, 0, none⟩ = false ∧
            (∀ v, (w6.setCell ⟨B3, 0, none⟩ v).cell? ⟨B5, 0, none⟩ = some (.int .i64 yo) ∧ (w6.setCell ⟨B3, 0, none⟩ v).cell? ⟨B5, 1, none⟩ = some (.int .i64 yn) ∧ (w6.setCell ⟨B3, 0, none⟩ v).cell? ⟨B5, 2, none⟩ = some (.slice ai li ci)) ∧
            Hid (∃ a6 c6, v6 = .slice a6 (k + 1) c6 ∧ (w6.setCell ⟨B3, 0, none⟩ v6).cell? ⟨B3, 0, none⟩ = some v6 ∧ (w6.setCell ⟨B3, 0, none⟩ v6).cell? ⟨B3, 1, none⟩ = some (.slice bb lb cbb) ∧ (w6.setCell ⟨B3, 0, none⟩ v6).frozen? ⟨B3, 0, none⟩ = false ∧ B3 < (w6.setCell ⟨B3, 0, none⟩ v6).heap.size ∧ GOwn (w6.setCell ⟨B3, 0, none⟩ v6) false (fun x => W1.heap.size ≤ x ∧ x ≠ B3) v6 (.slice bb lb cbb) (p.take (k + 1), l) ∧ Below W1.heap.size W1 (w6.setCell ⟨B3, 0, none⟩ v6))) := fun W kv hW hkv => by
        have hX : Below wo.heap.size wo W := hb2.trans (hW.mono hb2.size)
        have hGW := hGO.keep hX
        obtain ⟨⟨xs, hxs⟩, _, hsa, _⟩ := hGW.row
        have htl : (p.take k).length = k := by rw [List.length_take]; omega
        simp only [htl] at hxs
        refine ⟨xs, hxs, fun w6 v6 h1 h2 h3 => ?_⟩
        have hWs := hW.size
        have old : ∀ q : Addr, q.block = B5 ∨ q.block = B3 → w6.cell? q = W.cell? q ∧ w6.frozen? q = W.frozen? q := fun q hq => by
          have hbk : w6.heap[q.block]? = W.heap[q.block]? := h2.block q.block (by rcases hq with e | e <;> rw [e] <;> omega) (fun e => by
            have hl5 := (hxs.lt q.block e.symm).2
            have hlo : q.block < wo.heap.size := by
              have hgo := hGO.row.1
              obtain ⟨xs', hx'⟩ := hgo
              exact (hx'.lt q.block e.symm).2
            have := (hsa q.block e.symm).2
            rcases hq with e' | e'
            · omega
            · exact this e')
          exact ⟨World.cell?_of_block hbk, World.frozen?_of_block hbk⟩
        obtain ⟨⟨x0, x1, x2⟩, x3⟩ := HC.out W hW
        have y0 := (old ⟨B5, 0, none⟩ (.inl rfl)).1.trans x0
        have y1 := (old ⟨B5, 1, none⟩ (.inl rfl)).1.trans x1
        have y2 := (old ⟨B5, 2, none⟩ (.inl rfl)).1.trans x2
        have y3 := (old ⟨B3, 0, none⟩ (.inr rfl)).1.trans x3
        have y4 : w6.cell? ⟨B3, 1, none⟩ = some (.slice bb lb cbb) := (old ⟨B3, 1, none⟩ (.inr rfl)).1.trans ((hX.cell (p := ⟨B3, 1, none⟩) hB3l).trans s1)
        have y5 : w6.frozen? ⟨B3, 0, none⟩ = false := (old ⟨B3, 0, none⟩ (.inr rfl)).2.trans ((hX.frozen (p := ⟨B3, 0, none⟩) hB3l).trans hfz)
        have nq : ∀ o o', (⟨B3, o, none⟩ : Addr) ≠ ⟨B5, o', none⟩ := fun o o' e => by injection e; omega
        have nq2 : (⟨B3, 0, none⟩ : Addr) ≠ ⟨B3, 1, none⟩ := fun e => by injection e; omega
        have hs6 := h2.size
        obtain ⟨a6, c6, e6, _⟩ := row_slice h1
        have hin : KidAt W false (fun b => ¬ ((W1.heap.size ≤ b ∧ b ≠ B3) ∧ b < wo.heap.size)) kv yk := by
          have := kid_of (lo := W2.heap.size) (l := yk) (w := W) (v := kv) (by rw [hS1]; exact hkv) (by omega)
          exact this.map (Nat.le_refl _) (fun _ _ _ => rfl) (fun x hx hl h0 h1 => by omega)
        have hG6 := (hGO.sets (S' := fun b => (W1.heap.size ≤ b ∧ b ≠ B3) ∧ b < wo.heap.size) (fun b hb h => ⟨h, hb⟩)).keep hX
        have hG7 := hG6.addNode (x := (yo, yn, yk)) (by simp only [htl]; exact hxs) (by simp only [htl]; exact h1) h2 h3 hin
        refine ⟨⟨y0, y1, y2⟩, y3, y5, fun v => ⟨by rw [World.cell?_setCell_other _ _ _ _ (nq _ _)]; exact y0, by rw [World.cell?_setCell_other _ _ _ _ (nq _ _)]; exact y1, by rw [World.cell?_setCell_other _ _ _ _ (nq _ _)]; exact y2⟩, a6, c6, e6, ?_, by rw [World.cell?_setCell_other _ _ _ _ nq2]; exact y4, by simpa [go_sem] using y5, by rw [setCell_size]; omega, ?_, ?_⟩
        · rw [e6]; simp [go_sem, *]
        · rw [htk]
          refine hG7.map (by rw [setCell_size]; exact Nat.le_refl _) (fun b hb hl => setCell_block _ _ _ (fun e => ?_)) (fun b hl hb => ?_)
          · have e' : B3 = b := e
            rcases hb with h | h | h
            · exact h.1.2 e'.symm
            · omega
            · have := hkv.lt b h; omega
          · rcases hb with h | h | h
            · exact h.1
            · exact ⟨by have := hbr.size; omega, by omega⟩
            · have := hkv.lt b h; exact ⟨by have := hbr.size; omega, by omega⟩
        · have hB6 : Below W1.heap.size W1 w6 := ((hbr.trans (hX.mono hbr.size))).grown h2 (Nat.le_trans hbr.size hX.size) (fun r hr => (hsa r hr).1)
          exact hB6.setCell (by show W1.heap.size ≤ B3; omega) _
      have zA := HC.out W2 (Below.refl _ _)
      have zD := HC.out W2.drew (Go.below_drewN (Below.refl _ _) 1)
      obtain ⟨⟨zD0, zD1, zD2⟩, zD3⟩ := zD
      clear hT hc hy hS c1' c2' c3' hfz hGO o0 o1 o2 zA
      go_wp2_with fail
      (try rw [hW2])
      (try rw [hB5])
      clear hW2 c1 c2 c3 hb2
      have hkm : k ≤ 999 := by omega
      go_region_law (first
        | (obtain ⟨xs, hxs, hnext⟩ := HV.out; refine step_append rfl _ _ 34 rfl 0 80 j0 (.agg #[.int .i64 0, .int .i64 0, .slice none 0 0]) 3 40 Tryz.underlying34 hj jz0 jz1 jz2 rfl (by decide) _ _ _ rfl hxs ⟨w4.heap.size, 0, none⟩ 1 1 [_, _, _] rfl rfl (cell_new3 _ _ _ _ _) (one_cell3 _ _ _ _ _) (by unfold maxLen; omega) (by omega) (Nat.zero_le _) ?_; intro v6 w6 k1 k2 k3; obtain ⟨a6, c6, rfl, _⟩ := row_slice k1; obtain ⟨t0, t1, t2, sS, HN⟩ := hnext w6 _ k1 k2 k3; clear hnext hxs k1 k2 k3 HV)
        | (go_simp; go_at_call 97; refine Calls.mono (HO.out W2.drew (Go.below_drewN (Below.refl _ _) 1)) ?_; rintro r w4 ⟨kv, rfl, hkv, hb4⟩; obtain ⟨ka, kc, rfl, _⟩ := row_slice hkv
           have hB4 : Below W2.heap.size W2 w4 := (Go.below_drewN (Below.refl _ _) 1).trans hb4
           obtain ⟨⟨z40, z41, z42⟩, z43⟩ := HC.out w4 hB4
           have zB := fun o => (HC.out (w4.alloc o) (hB4.alloc hB4.size o)).2
           have HV := (show Hid _ from HR.out (w4.alloc (.cells #[.int .i64 yo, .int .i64 yn, .slice ka li kc] 80)) (.slice ka li kc) (hB4.alloc hB4.size _) (hkv.alloc _))
           clear hb4 hB4 hkv))
      all_goals
        clear HO HC HR zB sS
        go_wp2
        go_roundw
        case rel =>
          obtain ⟨a7, c7, e7, h1, h2, h3, h4, h5, h6⟩ := HN.out
          exact ⟨k + 1, a6, c6, by omega, by go_num, h1, h2, ⟨h3, h4, h5⟩, h6⟩
        case measure => simp [intOf]; omega
    · obtain rfl : k = len := by omega
      have hpl := HE.out.2.2.2.1
      have hb0 := HE.out.2.1
      have hs0 := HE.out.2.2.1
      have HX : Hid (∀ v0 v1, GOwn ((wo.setCell ⟨w.heap.size + 1, 0, none⟩ v0).setCell ⟨w.heap.size + 1, 1, none⟩ v1) false (fun x => w.heap.size ≤ x) (.slice ak k ck) (.slice bb lb cbb) (p, l) ∧ Below w.heap.size w ((wo.setCell ⟨w.heap.size + 1, 0, none⟩ v0).setCell ⟨w.heap.size + 1, 1, none⟩ v1)) := fun v0 v1 => by
        have hg := hT.out.2.2
        rw [List.take_of_length_le (by omega)] at hg
        refine ⟨hg.map (by rw [setCell_size, setCell_size]; exact Nat.le_refl _) (fun b hb hl => ?_) (fun b hl hb => by omega), ((hb0.trans (hbr.mono hb0.size)).setCell (by show w.heap.size ≤ w.heap.size + 1; omega) _).setCell (by show w.heap.size ≤ w.heap.size + 1; omega) _⟩
        rw [setCell_block _ _ _ (show w.heap.size + 1 ≠ b by omega), setCell_block _ _ _ (show w.heap.size + 1 ≠ b by omega)]
      have t0 := (hbr.cell (p := ⟨w.heap.size + 1, 0, none⟩) L1).trans r0
      have t1 := (hbr.cell (p := ⟨w.heap.size + 1, 1, none⟩) L1).trans r1
      have u0 := (hbr.frozen (p := ⟨w.heap.size + 1, 0, none⟩) L1).trans f0
      have u1 := (hbr.frozen (p := ⟨w.heap.size + 1, 1, none⟩) L1).trans f1
      clear hT hbr HE HB3 hpl hb0 hs0 hB3W
      go_wp2
      refine bodyPost_ret (v := .agg #[.slice ak k ck, .slice bb lb cbb]) ?_ ?_ ?_
      · simp [results, Tryz.results73, go_sem, *]
      · rfl
      · exact ⟨_, _, rfl, (HX.out _ _).1, (HX.out _ _).2⟩
end Go.Proofs.YtobgkfpjokfbaaaGreatDoor
