/-
  PROVED HERE: what the model's l6Put answers, at every good graph of at most nine hundred nodes in memory of its own. No other condition. which lists are good parents and good parts, to the model and to the program, at every list. No other condition.
-/
import Derived.Test.YtemlghfcfploaaaDoorRun17
import Derived.Test.YtemlghfcfploaaaDoorRun4
import Derived.Test.YtemlghfcfploaaaDoorRun16
namespace Go.Proofs.YtemlghfcfploaaaDoor
open Go.ChangeShapes Go.WideShapes Go.ChangeAt Go.RowKit
set_option linter.unusedVariables false

theorem setCell_size (w : World) (q : Addr) (v : Value) : (w.setCell q v).heap.size = w.heap.size := by simp [World.setCell]
theorem setCell_block (w : World) (q : Addr) (v : Value) {b : Nat} (h : q.block ≠ b) : (w.setCell q v).heap[b]? = w.heap[b]? := by simp [World.setCell, Array.getElem?_modify, h]
/-- A node is laid beside the graph, behind a store elsewhere. -/
theorem put5 {S T : Nat → Prop} {w w4 : World} {va vb v1 : Value} {g : GS} {q : Addr} {o : Obj} (h : GOwn w4 false T va vb g) (hk : KB S w w4) (hq : w.heap.size ≤ q.block) (hT : ¬ T q.block) : GOwn ((w4.setCell q v1).alloc o) false T va vb g ∧ KB S w ((w4.setCell q v1).alloc o) ∧ ((w4.setCell q v1).alloc o).heap.size = w4.heap.size + 1 :=
  ⟨(h.map (by rw [setCell_size]; exact Nat.le_refl _) (fun b hb hl => setCell_block _ _ _ (fun e => hT (by rw [e]; exact hb))) (fun _ _ h => h)).keep ((Below.refl _ _).alloc (Nat.le_refl _) _), (hk.setCell (fun h => absurd h (by omega)) _).trans (T := fun _ => False) (KB.of ((Below.refl _ _).alloc (Nat.le_refl _) _)) (fun _ _ h => h.elim), by simp [World.setCell]⟩
theorem new5 (w : World) (q : Addr) (v x y z : Value) (t : TypeId) : ∀ j u, [x, y, z][j]? = some u → ((w.setCell q v).alloc (.cells #[x, y, z] t)).cell? ((⟨w.heap.size, 0, none⟩ : Addr).add j) = some u := by
  have := cell_new3 (w.setCell q v) x y z t
  rwa [setCell_size] at this
/-- What is old stays so, behind a row that grew. -/
theorem old6 {w4 w6 : World} {q q1 : Addr} {v1 : Value} {o : Obj} {r : Option Nat} (hg : ((w4.setCell q1 v1).alloc o).grownBy w6 r) (hq : q.block < w4.heap.size) (hr : ∀ y, r = some y → y ≠ q.block) : w6.cell? q = (w4.setCell q1 v1).cell? q ∧ w6.frozen? q = (w4.setCell q1 v1).frozen? q := by
  have hbk : w6.heap[q.block]? = (w4.setCell q1 v1).heap[q.block]? := (hg.block q.block (by simp [World.setCell]; omega) (fun e => hr _ e.symm rfl)).trans ((World.grownBy_alloc _ _ none).block q.block (by rw [setCell_size]; exact hq) (by simp))
  exact ⟨World.cell?_of_block hbk, World.frozen?_of_block hbk⟩
set_option maxHeartbeats 3200000 in
set_option maxRecDepth 20000 in
theorem l6Put_any (va vb kn : Value) (g : GS) (x : EN) (S : Nat → Prop) (w : World) (hG : GOwn w false S va vb g) (hg : GoodG g) (hk : KidAt w false (fun b => ¬ S b) kn x.2.2) (hm : g.1.length ≤ 900) :
    Calls Tryd.prog 64 #[.agg #[va, vb], .agg #[.int .i64 x.1, .int .i64 x.2.1, kn]] w fun e w' => ∃ va' vb', e = .returned (.tuple #[.agg #[va', vb'], .int .i64 (putL g x).2]) ∧ GOwn w' false (fun b => S b ∨ w.heap.size ≤ b ∨ kn.ownBlock = some b) va' vb' (putL g x).1 ∧ KB S w w' := by
  obtain ⟨p, l⟩ := g
  obtain ⟨i0, hi, hz0, hz1, hz2⟩ := info_parts infoInt
  obtain ⟨j0, hj, jz0, jz1, jz2⟩ := info_parts infoENode
  obtain ⟨a, ca, b, cb, hva, hvb, hE, hL⟩ := hG.reads
  obtain ⟨⟨xs, hra⟩, hrb, hSa, hSb⟩ := hG.row
  obtain ⟨ka, kc, hkn, hks⟩ := kid_slice hk
  simp only at hva hvb hE hL hra hrb hm
  subst hva
  subst hvb
  subst hkn
  have hlen := hg.2.1
  simp only at hlen
  obtain ⟨W1, hW1⟩ : ∃ W1, ((w.alloc (.cells #[(.slice a p.length ca), (.slice b l.length cb)] 41)).alloc (.cells #[.int .i64 x.1, .int .i64 x.2.1, (.slice ka x.2.2.length kc)] 70)).alloc (.cells #[.slice none 0 0, .slice none 0 0] 41) = W1 := ⟨_, rfl⟩
  have hb1 : Below w.heap.size w W1 := by rw [← hW1]; exact (((Below.refl _ _).alloc (Nat.le_refl _) _).alloc (by simp) _).alloc (by simp; omega) _
  have hs1 : W1.heap.size = w.heap.size + 3 := by rw [← hW1]; simp
  have n0 : W1.cell? ⟨w.heap.size, 0, none⟩ = some (.slice a p.length ca) := by rw [← hW1]; simp [go_sem]
  have n1 : W1.cell? ⟨w.heap.size, 1, none⟩ = some (.slice b l.length cb) := by rw [← hW1]; simp [go_sem]
  have m0 : W1.cell? ⟨w.heap.size + 1, 0, none⟩ = some (.int .i64 x.1) := by rw [← hW1]; simp [go_sem]
  have m1 : W1.cell? ⟨w.heap.size + 1, 1, none⟩ = some (.int .i64 x.2.1) := by rw [← hW1]; simp [go_sem]
  have m2 : W1.cell? ⟨w.heap.size + 1, 2, none⟩ = some (.slice ka x.2.2.length kc) := by rw [← hW1]; simp [go_sem]
  have r0 : W1.cell? ⟨w.heap.size + 1 + 1, 0, none⟩ = some (.slice none 0 0) := by rw [← hW1]; simp [go_sem]
  have r1 : W1.cell? ⟨w.heap.size + 1 + 1, 1, none⟩ = some (.slice none 0 0) := by rw [← hW1]; simp [go_sem]
  have f0 : W1.frozen? ⟨w.heap.size, 0, none⟩ = false := by rw [← hW1]; simp [go_sem]
  have f1 : W1.frozen? ⟨w.heap.size, 1, none⟩ = false := by rw [← hW1]; simp [go_sem]
  have f2 : W1.frozen? ⟨w.heap.size + 1 + 1, 0, none⟩ = false := by rw [← hW1]; simp [go_sem]
  have f3 : W1.frozen? ⟨w.heap.size + 1 + 1, 1, none⟩ = false := by rw [← hW1]; simp [go_sem]
  have HF := (show Hid _ from l6Find_any a b p.length ca l.length cb p l x ka kc W1 (hE.keep hb1) (hL.keep hb1) (hks.keep hb1) (by omega) (by omega))
  have HG1 : Hid (GOwn W1 false S (.slice a p.length ca) (.slice b l.length cb) (p, l) ∧ Below w.heap.size w W1 ∧ KidAt W1 false (fun b => ¬ S b) (.slice ka x.2.2.length kc) x.2.2) := ⟨hG.keep hb1, hb1, hk.map hb1.size (fun y _ hl => hb1.block y hl) (fun _ _ _ hy => hy)⟩
  have HLn : Hid (l.length = p.length ∧ W1.heap.size = w.heap.size + 3) := ⟨hlen, hs1⟩
  have HFr : Hid (∀ W (q : Addr), Below W1.heap.size W1 W → w.heap.size ≤ q.block → q.block < w.heap.size + 3 → W.cell? q = W1.cell? q ∧ W.frozen? q = W1.frozen? q) := fun W q hW h1 h2 => ⟨hW.cell (by omega), hW.frozen (by omega)⟩
  cases hf : findL p l x with
  | some v =>
    have hv : 0 ≤ v := found_no hg hf
    have hput : putL (p, l) x = ((p, l), v) := putL_some hf
    rw [hput]
    rw [hf] at HF
    simp only [foundI, Option.getD_some] at HF
    have HR : Hid (∀ W, Below W1.heap.size W1 W → GOwn ((W.setCell ⟨w.heap.size + 1 + 1, 0, none⟩ (.slice a p.length ca)).setCell ⟨w.heap.size + 1 + 1, 1, none⟩ (.slice b l.length cb)) false (fun b => S b ∨ w.heap.size ≤ b ∨ (Value.slice ka x.2.2.length kc).ownBlock = some b) (.slice a p.length ca) (.slice b l.length cb) (p, l) ∧ KB S w ((W.setCell ⟨w.heap.size + 1 + 1, 0, none⟩ (.slice a p.length ca)).setCell ⟨w.heap.size + 1 + 1, 1, none⟩ (.slice b l.length cb))) := fun W hW => by
      have hB : Below w.heap.size w ((W.setCell ⟨w.heap.size + 1 + 1, 0, none⟩ (.slice a p.length ca)).setCell ⟨w.heap.size + 1 + 1, 1, none⟩ (.slice b l.length cb)) := ((hb1.trans (hW.mono hb1.size)).setCell (by show w.heap.size ≤ w.heap.size + 1 + 1; omega) _).setCell (by show w.heap.size ≤ w.heap.size + 1 + 1; omega) _
      exact ⟨(hG.keep hB).sets (fun b _ h => .inl h), KB.of hB⟩
    have lt0 : w.heap.size < W1.heap.size := by omega
    have lt2 : w.heap.size + 1 + 1 < W1.heap.size := by omega
    clear hG hE hL hra hrb hk hks hb1 hf hg HG1 hput hlen hs1
    go_enter Tryd.func64, Tryd.ntmps64
    go_wp2_with fail
    (try rw [hW1])
    refine Calls.mono HF.out ?_
    rintro e w2 ⟨rfl, hb2⟩
    have q0 := (hb2.cell (p := ⟨w.heap.size, 0, none⟩) lt0).trans n0
    have q1 := (hb2.cell (p := ⟨w.heap.size, 1, none⟩) lt0).trans n1
    have t0 := (hb2.cell (p := ⟨w.heap.size + 1 + 1, 0, none⟩) lt2).trans r0
    have t1 := (hb2.cell (p := ⟨w.heap.size + 1 + 1, 1, none⟩) lt2).trans r1
    have u0 := (hb2.frozen (p := ⟨w.heap.size + 1 + 1, 0, none⟩) lt2).trans f2
    have u1 := (hb2.frozen (p := ⟨w.heap.size + 1 + 1, 1, none⟩) lt2).trans f3
    have HR2 := (show Hid _ from HR.out w2 hb2)
    clear HF hW1 HR hb2 n0 n1 m0 m1 m2 r0 r1 f0 f1 f2 f3 HFr
    go_wp2
    refine bodyPost_ret (v := .tuple #[.agg #[(.slice a p.length ca), (.slice b l.length cb)], .int .i64 v]) ?_ ?_ ?_
    · simp [results, Tryd.results64, go_sem, *]
    · rfl
    · exact ⟨(.slice a p.length ca), (.slice b l.length cb), rfl, HR2.out.1, HR2.out.2⟩
  | none =>
    have hput : putL (p, l) x = ((p ++ [x], l ++ [(p.length : Int)]), (p.length : Int)) := putL_none hf
    rw [hput]
    rw [hf] at HF
    simp only [foundI, Option.getD_none] at HF
    have HLb : Hid (∀ y, (Value.slice b l.length cb).ownBlock = some y → y < w.heap.size) := fun y hy => (hrb.lt y hy).2
    have HLa : Hid (∀ y, (Value.slice a p.length ca).ownBlock = some y → y < w.heap.size) := fun y hy => (hra.lt y hy).2
    have HLk : Hid (∀ y, (Value.slice ka x.2.2.length kc).ownBlock = some y → y < w.heap.size ∧ ¬ S y) := fun y hy => by
      obtain ⟨_, _, _, _, _, _, h3, _⟩ := hk
      exact ⟨(h3 y hy).2, (h3 y hy).1⟩
    have HS := (show Hid _ from And.intro hSa hSb)
    have hlb : l.length ≤ 900 := by omega
    have HG0 : Hid (GOwn w false (fun b => S b ∧ b < w.heap.size) (.slice a p.length ca) (.slice b l.length cb) (p, l) ∧ KidAt w false (fun b => ¬ S b) (.slice ka x.2.2.length kc) x.2.2) := ⟨hG.sets (fun b hb h => ⟨h, hb⟩), hk⟩
    have HB1 := (show Hid _ from hb1)
    clear hG hE hL hra hrb hk hks hb1 hf hg hput hSa hSb HG1 HFr hlen hs1
    go_enter Tryd.func64, Tryd.ntmps64
    go_wp2_with fail
    (try rw [hW1])
    refine Calls.mono HF.out ?_
    rintro e w2 ⟨rfl, hb2⟩
    have hs2 := hb2.size
    have hs1 := HLn.out.2
    have q0 := (hb2.cell (p := ⟨w.heap.size, 0, none⟩) (by show w.heap.size < _; omega)).trans n0
    have q1 := (hb2.cell (p := ⟨w.heap.size, 1, none⟩) (by show w.heap.size < _; omega)).trans n1
    have hB2 : Below w.heap.size w w2 := HB1.out.trans (hb2.mono HB1.out.size)
    have g2 : GOwn (w2.alloc (.cells #[.int .i64 (p.length : Int)] 3)) false (fun b => S b ∧ b < w.heap.size) (.slice a p.length ca) (.slice b l.length cb) (p, l) := (HG0.out.1.keep hB2).keep ((Below.refl _ _).alloc (Nat.le_refl _) _)
    have hrb2 := g2.row.2.1
    have hsz2 : (w2.alloc (.cells #[.int .i64 (p.length : Int)] 3)).heap.size = w2.heap.size + 1 := by simp
    have HG2 := (show Hid _ from And.intro g2 hB2)
    have HFr2 : Hid (∀ w4 (q : Addr), (w2.alloc (.cells #[.int .i64 (p.length : Int)] 3)).grownBy w4 (Value.slice b l.length cb).ownBlock → w.heap.size ≤ q.block → q.block < w.heap.size + 3 → w4.cell? q = W1.cell? q ∧ w4.frozen? q = W1.frozen? q) := fun w4 q hg4 h1 h2 => by
      have hne : some q.block ≠ (Value.slice b l.length cb).ownBlock := fun e => by have := HLb.out q.block e.symm; omega
      have hbk : w4.heap[q.block]? = w2.heap[q.block]? := (hg4.block q.block (by simp; omega) hne).trans ((World.grownBy_alloc w2 _ none).block q.block (by omega) (by simp))
      exact ⟨(World.cell?_of_block hbk).trans (hb2.cell (by omega)), (World.frozen?_of_block hbk).trans (hb2.frozen (by omega))⟩
    have HN := (show Hid _ from And.intro n0 (And.intro n1 (And.intro m0 (And.intro m1 (And.intro m2 (And.intro r0 (And.intro r1 (And.intro f0 (And.intro f1 (And.intro f2 f3))))))))))
    have HSz2 := (show Hid _ from hsz2)
    have HSz : Hid (w.heap.size + 3 ≤ w2.heap.size) := by show _ ≤ _; omega
    clear HF hW1 g2 hB2 hb2 hs2 hs1 hsz2 n0 n1 m0 m1 m2 r0 r1 f0 f1 f2 f3
    go_wp2_with (first
      | (at_builtin
         refine wpList_append_own_at _ rfl _ _ 33 rfl 0 3 i0 (.int .i64 0) 1 8 Tryd.underlying33 hi hz0 hz1 hz2 rfl (by decide) _ _ _ rfl hrb2 ⟨w2.heap.size, 0, none⟩ 1 1 [_] rfl rfl (cell_new1 _ _ _ _) (one_cell1 _ _) (by unfold maxLen; omega) (by omega) (Nat.zero_le _) ?_
         intro vb' w4 hown4 hg4 _ hat4
         obtain ⟨b4, cb4, rfl, _⟩ := row_slice hown4
         have HX4 : Hid (GOwn w4 false (fun b => (S b ∧ b < w.heap.size) ∨ w2.heap.size ≤ b) (.slice a p.length ca) (.slice b4 (l.length + 1) cb4) (p, l ++ [(p.length : Int)]) ∧ KB S w w4 ∧ w2.heap.size ≤ w4.heap.size) := by
           refine ⟨(HG2.out.1.addPart hown4 hg4 hat4).sets (fun b hb h => ?_), ?_, ?_⟩
           · rcases h with h | h
             · exact .inl h
             · right; rw [HSz2.out] at h; omega
           · exact ((KB.of HG2.out.2).trans (T := fun _ => False) (KB.of ((Below.refl _ _).alloc (Nat.le_refl _) _)) (fun _ _ h => h.elim)).grown hg4 (fun y hy _ => HS.out.2 y hy)
           · have := hg4.size; rw [HSz2.out] at this; omega
         obtain ⟨n0, n1, m0, m1, m2, r0, r1, f0, f1, f2, f3⟩ := HN.out
         have e0 := (HFr2.out w4 ⟨w.heap.size, 0, none⟩ hg4 (by show w.heap.size ≤ w.heap.size; omega) (by show w.heap.size < _; omega)).1.trans n0
         have e1 := (HFr2.out w4 ⟨w.heap.size, 1, none⟩ hg4 (by show w.heap.size ≤ w.heap.size; omega) (by show w.heap.size < _; omega)).1.trans n1
         have e2 := (HFr2.out w4 ⟨w.heap.size + 1, 0, none⟩ hg4 (by show w.heap.size ≤ w.heap.size + 1; omega) (by show w.heap.size + 1 < _; omega)).1.trans m0
         have e3 := (HFr2.out w4 ⟨w.heap.size + 1, 1, none⟩ hg4 (by show w.heap.size ≤ w.heap.size + 1; omega) (by show w.heap.size + 1 < _; omega)).1.trans m1
         have e4 := (HFr2.out w4 ⟨w.heap.size + 1, 2, none⟩ hg4 (by show w.heap.size ≤ w.heap.size + 1; omega) (by show w.heap.size + 1 < _; omega)).1.trans m2
         have e5 := (HFr2.out w4 ⟨w.heap.size + 1 + 1, 0, none⟩ hg4 (by show w.heap.size ≤ w.heap.size + 1 + 1; omega) (by show w.heap.size + 1 + 1 < _; omega)).1.trans r0
         have e6 := (HFr2.out w4 ⟨w.heap.size + 1 + 1, 1, none⟩ hg4 (by show w.heap.size ≤ w.heap.size + 1 + 1; omega) (by show w.heap.size + 1 + 1 < _; omega)).1.trans r1
         have h0 := (HFr2.out w4 ⟨w.heap.size, 0, none⟩ hg4 (by show w.heap.size ≤ w.heap.size; omega) (by show w.heap.size < _; omega)).2.trans f0
         have h1 := (HFr2.out w4 ⟨w.heap.size, 1, none⟩ hg4 (by show w.heap.size ≤ w.heap.size; omega) (by show w.heap.size < _; omega)).2.trans f1
         have h2 := (HFr2.out w4 ⟨w.heap.size + 1 + 1, 0, none⟩ hg4 (by show w.heap.size ≤ w.heap.size + 1 + 1; omega) (by show w.heap.size + 1 + 1 < _; omega)).2.trans f2
         have h3 := (HFr2.out w4 ⟨w.heap.size + 1 + 1, 1, none⟩ hg4 (by show w.heap.size ≤ w.heap.size + 1 + 1; omega) (by show w.heap.size + 1 + 1 < _; omega)).2.trans f3
         clear hown4 hg4 hat4 q0 q1 hrb2 HG2 HFr2 HN n0 n1 m0 m1 m2 r0 r1 f0 f1 f2 f3)
      | (at_builtin
         obtain ⟨x5, y5, z5⟩ := put5 (q := ⟨w.heap.size, 1, none⟩) (v1 := .slice b4 (l.length + 1) cb4) (o := .cells #[.int .i64 x.1, .int .i64 x.2.1, .slice ka x.2.2.length kc] 70) HX4.out.1 HX4.out.2.1 (by show w.heap.size ≤ w.heap.size; omega) (by have := HSz.out; show ¬ ((S w.heap.size ∧ w.heap.size < w.heap.size) ∨ w2.heap.size ≤ w.heap.size); omega)
         have HX5 := (show Hid _ from And.intro x5 y5)
         have HX5s := (show Hid _ from z5)
         obtain ⟨⟨xs5, hx5⟩, _, hsa5, _⟩ := x5.row
         simp only at hx5
         clear x5 y5 z5
         refine wpList_append_own_at _ rfl _ _ 39 rfl 0 70 j0 (.agg #[.int .i64 0, .int .i64 0, .slice none 0 0]) 3 40 Tryd.underlying39 hj jz0 jz1 jz2 rfl (by decide) _ _ _ rfl hx5 ⟨w4.heap.size, 0, none⟩ 1 1 [_, _, _] rfl rfl (new5 _ _ _ _ _ _ _) (one_cell3 _ _ _ _ _) (by unfold maxLen; omega) (by omega) (Nat.zero_le _) ?_
         intro va' w6 hown6 hg6 _ hat6
         obtain ⟨a6, ca6, rfl, _⟩ := row_slice hown6
         have HX6 : Hid (GOwn w6 false (fun b' => ((S b' ∧ b' < w.heap.size) ∨ w2.heap.size ≤ b') ∨ (Value.slice ka x.2.2.length kc).ownBlock = some b') (.slice a6 (p.length + 1) ca6) (.slice b4 (l.length + 1) cb4) (p ++ [x], l ++ [(p.length : Int)]) ∧ KB S w w6 ∧ w4.heap.size ≤ w6.heap.size) := by
           have hz := HSz.out
           have h5s := HX5s.out
           have h24 := HX4.out.2.2
           refine ⟨(HX5.out.1.addNode hx5 hown6 hg6 hat6 ?_).sets (fun b' hb' h => ?_), HX5.out.2.grown hg6 (fun y hy hl => ?_), ?_⟩
           · refine HG0.out.2.map (Nat.le_trans HX5.out.2.size (Nat.le_refl _)) (fun y hy hl => HX5.out.2.block y hl (HLk.out y hy).2) (fun y hy hl hn h => ?_)
             rcases h with h | h
             · exact hn h.1
             · omega
           · rcases h with h | h | h
             · exact .inl h
             · left; right; omega
             · exact .inr h
           · exact HS.out.1 y hy
           · have := hg6.size; omega
         have hz3 := HSz.out
         have h24 := HX4.out.2.2
         have HE5 : ∀ (q : Addr), w.heap.size ≤ q.block → q.block < w.heap.size + 3 → w6.cell? q = (w4.setCell ⟨w.heap.size, 1, none⟩ (.slice b4 (l.length + 1) cb4)).cell? q ∧ w6.frozen? q = (w4.setCell ⟨w.heap.size, 1, none⟩ (.slice b4 (l.length + 1) cb4)).frozen? q := fun q h1 h2 => old6 hg6 (by omega) (fun y hy => by have := HLa.out y hy; omega)
         have d0 : w6.cell? ⟨w.heap.size, 0, none⟩ = some (.slice a p.length ca) := (HE5 ⟨w.heap.size, 0, none⟩ (by show w.heap.size ≤ w.heap.size; omega) (by show w.heap.size < _; omega)).1.trans (by simp [go_sem, *])
         have d1 : w6.cell? ⟨w.heap.size, 1, none⟩ = some (.slice b4 (l.length + 1) cb4) := (HE5 ⟨w.heap.size, 1, none⟩ (by show w.heap.size ≤ w.heap.size; omega) (by show w.heap.size < _; omega)).1.trans (by simp [go_sem, *])
         have d2 : w6.cell? ⟨w.heap.size + 1 + 1, 0, none⟩ = some (.slice none 0 0) := (HE5 ⟨w.heap.size + 1 + 1, 0, none⟩ (by show w.heap.size ≤ w.heap.size + 1 + 1; omega) (by show w.heap.size + 1 + 1 < _; omega)).1.trans (by simp [go_sem, *])
         have d3 : w6.cell? ⟨w.heap.size + 1 + 1, 1, none⟩ = some (.slice none 0 0) := (HE5 ⟨w.heap.size + 1 + 1, 1, none⟩ (by show w.heap.size ≤ w.heap.size + 1 + 1; omega) (by show w.heap.size + 1 + 1 < _; omega)).1.trans (by simp [go_sem, *])
         have k0 : w6.frozen? ⟨w.heap.size, 0, none⟩ = false := (HE5 ⟨w.heap.size, 0, none⟩ (by show w.heap.size ≤ w.heap.size; omega) (by show w.heap.size < _; omega)).2.trans (by simp [go_sem, *])
         have k2 : w6.frozen? ⟨w.heap.size + 1 + 1, 0, none⟩ = false := (HE5 ⟨w.heap.size + 1 + 1, 0, none⟩ (by show w.heap.size ≤ w.heap.size + 1 + 1; omega) (by show w.heap.size + 1 + 1 < _; omega)).2.trans (by simp [go_sem, *])
         have k3 : w6.frozen? ⟨w.heap.size + 1 + 1, 1, none⟩ = false := (HE5 ⟨w.heap.size + 1 + 1, 1, none⟩ (by show w.heap.size ≤ w.heap.size + 1 + 1; omega) (by show w.heap.size + 1 + 1 < _; omega)).2.trans (by simp [go_sem, *])
         clear hz3 h24 HE5 hx5 hown6 hg6 hat6 HX5 HX5s hsa5 e0 e1 e2 e3 e4 e5 e6 h0 h1 h2 h3)
      | fail)
    have HR : Hid (∀ (v0 v1 v2 : Value), GOwn (((w6.setCell ⟨w.heap.size, 0, none⟩ v0).setCell ⟨w.heap.size + 1 + 1, 0, none⟩ v1).setCell ⟨w.heap.size + 1 + 1, 1, none⟩ v2) false (fun b' => S b' ∨ w.heap.size ≤ b' ∨ (Value.slice ka x.2.2.length kc).ownBlock = some b') (.slice a6 (p.length + 1) ca6) (.slice b4 (l.length + 1) cb4) (p ++ [x], l ++ [(p.length : Int)]) ∧ KB S w (((w6.setCell ⟨w.heap.size, 0, none⟩ v0).setCell ⟨w.heap.size + 1 + 1, 0, none⟩ v1).setCell ⟨w.heap.size + 1 + 1, 1, none⟩ v2)) := fun v0 v1 v2 => by
      have hz := HSz.out
      refine ⟨HX6.out.1.map (by simp [World.setCell]) (fun b' hb' hl => ?_) (fun b' hl h => ?_), ((HX6.out.2.1.setCell (p := ⟨w.heap.size, 0, none⟩) (fun h => absurd h (Nat.lt_irrefl _)) _).setCell (p := ⟨w.heap.size + 1 + 1, 0, none⟩) (fun h => absurd h (by show ¬ w.heap.size + 1 + 1 < w.heap.size; omega)) _).setCell (p := ⟨w.heap.size + 1 + 1, 1, none⟩) (fun h => absurd h (by show ¬ w.heap.size + 1 + 1 < w.heap.size; omega)) _⟩
      · have n1 : w.heap.size ≠ b' ∧ w.heap.size + 1 + 1 ≠ b' := by
          rcases hb' with (h | h) | h
          · omega
          · omega
          · have := (HLk.out b' h).1; omega
        simp [World.setCell, Array.getElem?_modify, n1.1, n1.2]
      · rcases h with (h | h) | h
        · exact .inl h.1
        · right; left; omega
        · exact .inr (.inr h)
    clear HX4 HX6 HG0 HS HLa HLb HLk HSz HB1
    have hsub : IntKind.i64.wrap (((p.length + 1 : Nat) : Int) - 1) = (p.length : Int) := by rw [IntKind.wrap_i64]; omega
    go_region
    all_goals
      go_wp2
      refine bodyPost_ret (v := .tuple #[.agg #[.slice a6 (p.length + 1) ca6, .slice b4 (l.length + 1) cb4], .int .i64 (p.length : Int)]) ?_ ?_ ?_
      · simp [results, Tryd.results64, go_sem, *]
      · rfl
      · have hR := HR.out (.slice a6 (p.length + 1) ca6) (.slice a6 (p.length + 1) ca6) (.slice b4 (l.length + 1) cb4)
        exact ⟨_, _, rfl, hR.1, ⟨hR.2.os, hR.2.tape, hR.2.output, hR.2.size, hR.2.block⟩⟩
end Go.Proofs.YtemlghfcfploaaaDoor
namespace Go.Proofs.YtemlghfcfploaaaDoor
open Go.ChangeShapes Go.WideShapes Go.ChangeAt Go.RowKit
set_option linter.unusedVariables false

theorem par_no {l : List Int} {k : Nat} (hk : k < l.length) (h : l.getD k 0 < 0 ∨ (k : Int) < l.getD k 0) : ¬ Par l := fun hp => by
  have := hp k hk
  omega
theorem implIsGood_any (a : Option Addr) (len cap : Nat) (l : List Int) (w : World) (h : Sl w a len l) (hm : len ≤ 9223372036854775807) :
    Calls Tryd.prog 72 #[.slice a len cap] w fun e w' => e = .returned (.bool (decide (Par l))) ∧ w' = w := by
  have hll := h.1
  obtain ⟨B, hB⟩ : ∃ B, decide (Par l) = B := ⟨_, rfl⟩
  rw [hB]
  have HB := (show Hid _ from hB)
  have HS := (show Hid _ from h)
  clear hB h
  go_enter Tryd.func72, Tryd.ntmps72
  go_wp2_with fail
  go_loopw [7] (fun i wr => ∃ (k : Nat), k ≤ len ∧ i = .int .i64 k ∧ Hid (∀ j, j < k → 0 ≤ l.getD j 0 ∧ l.getD j 0 ≤ (j : Int)) ∧ wr = w) (fun i _ => len - (intOf i).toNat)
  case atStart => exact ⟨0, Nat.zero_le _, rfl, fun j hj => absurd hj (Nat.not_lt_zero _), rfl⟩
  case round =>
    obtain ⟨k, hk, rfl, hd, rfl⟩ := hrel
    by_cases hlt : k < len
    · obtain ⟨b, off, rfl, hc⟩ := cells_of HS.out (by omega)
      have c1 := hc k hlt
      clear hc
      by_cases hy : 0 ≤ l.getD k 0
      · by_cases hz : l.getD k 0 ≤ (k : Int)
        · have HD : Hid (∀ j, j < k + 1 → 0 ≤ l.getD j 0 ∧ l.getD j 0 ≤ (j : Int)) := fun j hj => by
            by_cases e : j = k
            · subst e; exact ⟨hy, hz⟩
            · exact hd.out j (by omega)
          have hy' : ¬ l.getD k 0 < 0 := by omega
          have hz' : ¬ (k : Int) < l.getD k 0 := by omega
          clear hd
          generalize l.getD k 0 = z at c1 hy hy' hz hz'
          go_wp2
          go_roundw
          case rel => exact ⟨k + 1, by omega, by go_num, HD, (by first | trivial | rfl)⟩
          case measure => simp [intOf]; omega
        · have e : B = false := by
            rw [← HB.out]
            exact decide_eq_false (par_no (k := k) (by omega) (by omega))
          subst e
          have hy' : ¬ l.getD k 0 < 0 := by omega
          have hz' : (k : Int) < l.getD k 0 := by omega
          clear hd
          generalize l.getD k 0 = z at c1 hy hy' hz hz'
          go_wp2
          go_ret
          exact ⟨rfl, rfl⟩
      · have e : B = false := by
          rw [← HB.out]
          exact decide_eq_false (par_no (k := k) (by omega) (by omega))
        subst e
        have hy' : l.getD k 0 < 0 := by omega
        clear hd
        generalize l.getD k 0 = z at c1 hy hy'
        go_wp2
        go_ret
        exact ⟨rfl, rfl⟩
    · obtain rfl : k = len := by omega
      have e : B = true := by
        rw [← HB.out]
        exact decide_eq_true (fun j hj => hd.out j (by omega))
      subst e
      clear hd HB
      go_wp2
      go_ret
      exact ⟨rfl, rfl⟩

theorem implParents_any (a : Option Addr) (len cap : Nat) (l : List Int) (w : World) (h : Sl w a len l) (hm : len ≤ 9223372036854775807) :
    Calls Tryd.prog 66 #[.slice a len cap] w fun e w' => e = .returned (.bool (parB l)) ∧ w' = w := by
  have hll := h.1
  by_cases h2 : len ≤ 200
  · have HG := (show Hid _ from implIsGood_any a len cap l w h hm)
    have e : parB l = decide (Par l) := by unfold parB; rw [decide_eq_true (by omega), Bool.true_and]
    rw [e]
    generalize decide (Par l) = B at HG
    have h2' : (len : Int) ≤ 200 := by omega
    clear h e hll
    go_enter Tryd.func66, Tryd.ntmps66
    go_wp2_with fail
    refine Calls.mono HG.out ?_
    rintro e w2 ⟨rfl, rfl⟩
    go_wp2
    go_ret
    exact ⟨rfl, rfl⟩
  · have e : parB l = false := by unfold parB; rw [decide_eq_false (by omega), Bool.false_and]
    rw [e]
    have h2' : ¬ (len : Int) ≤ 200 := by omega
    clear h e hll
    go_enter Tryd.func66, Tryd.ntmps66
    go_wp2
    go_ret
    exact ⟨rfl, rfl⟩

theorem specParts_any (a : Option Addr) (len cap : Nat) (l : List Int) (w : World) (h : Sl w a len l) (hm : len ≤ 9223372036854775807) :
    Calls Tryd.prog 42 #[.slice a len cap] w fun e w' => e = .returned (.bool (partB l)) ∧ w' = w := by
  have hll := h.1
  obtain ⟨B, hB⟩ : ∃ B, partB l = B := ⟨_, rfl⟩
  rw [hB]
  have HB := (show Hid _ from hB)
  have HS := (show Hid _ from h)
  clear hB h
  by_cases h2 : len ≤ 200
  · have h2' : ¬ (200 : Int) < len := by omega
    go_enter Tryd.func42, Tryd.ntmps42
    go_wp2_with fail
    go_loopw [10] (fun i wr => ∃ (k : Nat), k ≤ len ∧ i = .int .i64 k ∧ Hid (∀ j, j < k → (0 ≤ l.getD j 0 ∧ l.getD j 0 ≤ (j : Int)) ∧ l.getD (l.getD j 0).toNat 0 = l.getD j 0) ∧ wr = w) (fun i _ => len - (intOf i).toNat)
    case atStart => exact ⟨0, Nat.zero_le _, rfl, fun j hj => absurd hj (Nat.not_lt_zero _), rfl⟩
    case round =>
      obtain ⟨k, hk, rfl, hd, rfl⟩ := hrel
      by_cases hlt : k < len
      · obtain ⟨b, off, rfl, hc⟩ := cells_of HS.out (by omega)
        have c1 := hc k hlt
        by_cases hy : 0 ≤ l.getD k 0 ∧ l.getD k 0 ≤ (k : Int)
        · have HI := (show Hid _ from in_yes (l.getD k 0) 0 k wr hy.1 hy.2)
          have c2 := hc (l.getD k 0).toNat (by omega)
          have HD : Hid (l.getD (l.getD k 0).toNat 0 = l.getD k 0 → ∀ j, j < k + 1 → (0 ≤ l.getD j 0 ∧ l.getD j 0 ≤ (j : Int)) ∧ l.getD (l.getD j 0).toNat 0 = l.getD j 0) := fun hh j hj => by
            by_cases e : j = k
            · subst e; exact ⟨hy, hh⟩
            · exact hd.out j (by omega)
          have HN : Hid (l.getD (l.getD k 0).toNat 0 ≠ l.getD k 0 → B = false) := fun hh => by
            rw [← HB.out]
            refine Bool.eq_false_iff.2 fun ht => hh ?_
            exact ((partB_iff l).1 ht).2.2 k (by omega)
          obtain ⟨z, hz⟩ : ∃ z : Nat, l.getD k 0 = z := ⟨_, (Int.toNat_of_nonneg hy.1).symm⟩
          rw [hz] at c1 HI c2 HD HN hy
          rw [Int.toNat_natCast] at c2 HD HN
          have hz1 : z < len := by omega
          clear hd hc hz
          generalize l.getD z 0 = y at c2 HD HN
          by_cases e : y = z
          · have HD' := (show Hid _ from HD.out e)
            clear HD HN hy
            subst e
            go_wp2_with fail
            refine Calls.mono HI.out ?_
            rintro e w2 ⟨rfl, rfl⟩
            go_wp2
            go_roundw
            case rel => exact ⟨k + 1, by omega, by go_num, HD', (by first | trivial | rfl)⟩
            case measure => simp [intOf]; omega
          · have eb := HN.out e
            subst eb
            have e' : (y != (z : Int)) = true := by simpa using e
            clear HD HN hy e
            go_wp2_with fail
            refine Calls.mono HI.out ?_
            rintro e w2 ⟨rfl, rfl⟩
            go_wp2
            go_ret
            exact ⟨rfl, rfl⟩
        · have HI := (show Hid _ from in_no (l.getD k 0) 0 k wr (by omega))
          have e : B = false := by
            rw [← HB.out]
            refine Bool.eq_false_iff.2 fun ht => hy ?_
            exact ((partB_iff l).1 ht).2.1 k (by omega)
          subst e
          clear hy hd hc
          generalize l.getD k 0 = z at c1 HI
          go_wp2_with fail
          refine Calls.mono HI.out ?_
          rintro e w2 ⟨rfl, rfl⟩
          go_wp2
          go_ret
          exact ⟨rfl, rfl⟩
      · obtain rfl : k = len := by omega
        have e : B = true := by
          rw [← HB.out, partB_iff]
          exact ⟨by omega, fun j hj => (hd.out j (by omega)).1, fun j hj => (hd.out j (by omega)).2⟩
        subst e
        clear hd HB
        go_wp2
        go_ret
        exact ⟨rfl, rfl⟩
  · have h2' : (200 : Int) < len := by omega
    have e : B = false := by
      rw [← HB.out]
      exact Bool.eq_false_iff.2 fun ht => by have := ((partB_iff l).1 ht).1; omega
    subst e
    go_enter Tryd.func42, Tryd.ntmps42
    go_wp2
    go_ret
    exact ⟨rfl, rfl⟩

theorem implIsFlat_any (a : Option Addr) (len cap : Nat) (l : List Int) (w : World) (h : Sl w a len l) (hp : Par l) (hm : len ≤ 200) :
    Calls Tryd.prog 67 #[.slice a len cap] w fun e w' => e = .returned (.bool (decide (Flat l))) ∧ w' = w := by
  have hll := h.1
  obtain ⟨B, hB⟩ : ∃ B, decide (Flat l) = B := ⟨_, rfl⟩
  rw [hB]
  have HB := (show Hid _ from hB)
  have HS := (show Hid _ from h)
  have HP := (show Hid _ from hp)
  clear hB h hp
  go_enter Tryd.func67, Tryd.ntmps67
  go_wp2_with fail
  go_loopw [7] (fun i wr => ∃ (k : Nat), k ≤ len ∧ i = .int .i64 k ∧ Hid (∀ j, j < k → l.getD (l.getD j 0).toNat 0 = l.getD j 0) ∧ wr = w) (fun i _ => len - (intOf i).toNat)
  case atStart => exact ⟨0, Nat.zero_le _, rfl, fun j hj => absurd hj (Nat.not_lt_zero _), rfl⟩
  case round =>
    obtain ⟨k, hk, rfl, hd, rfl⟩ := hrel
    by_cases hlt : k < len
    · obtain ⟨b, off, rfl, hc⟩ := cells_of HS.out (by omega)
      have c1 := hc k hlt
      have hy := HP.out k (by omega)
      have c2 := hc (l.getD k 0).toNat (by omega)
      have HD : Hid (l.getD (l.getD k 0).toNat 0 = l.getD k 0 → ∀ j, j < k + 1 → l.getD (l.getD j 0).toNat 0 = l.getD j 0) := fun hh j hj => by
        by_cases e : j = k
        · subst e; exact hh
        · exact hd.out j (by omega)
      have HN : Hid (l.getD (l.getD k 0).toNat 0 ≠ l.getD k 0 → B = false) := fun hh => by
        rw [← HB.out]
        exact decide_eq_false fun ht => hh (ht k (by omega))
      obtain ⟨z, hz⟩ : ∃ z : Nat, l.getD k 0 = z := ⟨_, (Int.toNat_of_nonneg hy.1).symm⟩
      rw [hz] at c1 c2 HD HN hy
      rw [Int.toNat_natCast] at c2 HD HN
      have hz1 : z < len := by omega
      clear hd hc hz
      generalize l.getD z 0 = y at c2 HD HN
      by_cases e : y = z
      · have HD' := (show Hid _ from HD.out e)
        clear HD HN hy
        subst e
        go_wp2
        go_roundw
        case rel => exact ⟨k + 1, by omega, by go_num, HD', (by first | trivial | rfl)⟩
        case measure => simp [intOf]; omega
      · have eb := HN.out e
        subst eb
        have e' : (y != (z : Int)) = true := by simpa using e
        clear HD HN hy e
        go_wp2
        go_ret
        exact ⟨rfl, rfl⟩
    · obtain rfl : k = len := by omega
      have e : B = true := by
        rw [← HB.out]
        exact decide_eq_true (fun j hj => hd.out j (by omega))
      subst e
      clear hd HB
      go_wp2
      go_ret
      exact ⟨rfl, rfl⟩

theorem implParts_any (a : Option Addr) (len cap : Nat) (l : List Int) (w : World) (h : Sl w a len l) (hm : len ≤ 9223372036854775807) :
    Calls Tryd.prog 59 #[.slice a len cap] w fun e w' => e = .returned (.bool (partB l)) ∧ w' = w := by
  have hll := h.1
  have HG := (show Hid _ from implParents_any a len cap l w h hm)
  by_cases hp : parB l = true
  · obtain ⟨h2, hP⟩ := (parB_iff l).1 hp
    have HF := (show Hid _ from implIsFlat_any a len cap l w h hP (by omega))
    have e : partB l = decide (Flat l) := by unfold partB; rw [hp, Bool.true_and]
    rw [e]
    rw [hp] at HG
    generalize decide (Flat l) = B at HF
    clear h e hll hp hP
    go_enter Tryd.func59, Tryd.ntmps59
    go_wp2_with fail
    refine Calls.mono HG.out ?_
    rintro e w2 ⟨rfl, rfl⟩
    go_wp2_with fail
    refine Calls.mono HF.out ?_
    rintro e w2 ⟨rfl, rfl⟩
    go_wp2
    go_ret
    exact ⟨rfl, rfl⟩
  · have hp' : parB l = false := by simpa using hp
    have e : partB l = false := by unfold partB; rw [hp', Bool.false_and]
    rw [e]
    rw [hp'] at HG
    clear h e hll hp hp'
    go_enter Tryd.func59, Tryd.ntmps59
    go_wp2_with fail
    refine Calls.mono HG.out ?_
    rintro e w2 ⟨rfl, rfl⟩
    go_wp2
    go_ret
    exact ⟨rfl, rfl⟩
end Go.Proofs.YtemlghfcfploaaaDoor
