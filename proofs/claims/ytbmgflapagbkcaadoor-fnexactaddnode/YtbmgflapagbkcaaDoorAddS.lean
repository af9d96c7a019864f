/-
  PROVED HERE: what the model's l6Add answers, at every good term and every good graph in memory of its own, variables standing for classes where they are given. No other condition. what the model's AddTerm and FindTerm answer, at every graph and every list of nodes. No other condition.
-/
import Derived.Test.YtbmgflapagbkcaaDoorA6Put
import Derived.Test.YtbmgflapagbkcaaDoorA6OwnS
import Derived.Test.YtbmgflapagbkcaaDoorSteps
import Derived.Deep.RegionHeld3
import Derived.Test.YtbmgflapagbkcaaDoorGraphS
import Derived.Test.YtbmgflapagbkcaaDoorGood
namespace Go.Proofs.YtbmgflapagbkcaaDoor
open Go.ChangeShapes Go.WideShapes Go.ChangeAt Go.RowKit
set_option linter.unusedVariables false

theorem putL_len (g : GS) (x : EN) : (putL g x).1.1.length ≤ g.1.length + 1 := by
  cases hf : findL g.1 g.2 x with
  | some v => rw [putL_some hf]; simp only; omega
  | none => rw [putL_none hf]; simp
theorem classA_len (b : Option (List Int)) (g : GS) (n : Int × Int) (kids : List Int) : (classA b g n kids).1.1.length ≤ g.1.length + 1 := by
  unfold classA
  cases b with
  | none => exact putL_len _ _
  | some bs =>
    simp only
    by_cases e : n.1 = 2
    · rw [if_pos e]; simp only; omega
    · rw [if_neg e]; exact putL_len _ _
theorem runA_len (b : Option (List Int)) : ∀ (t : List (Int × Int)) (s : GS × List Int), (runA b t s).1.1.length ≤ s.1.1.length + t.length
  | [], s => Nat.le_refl _
  | n :: t, s => by
    have ih := runA_len b t (stepA b s n)
    have h := classA_len b s.1 n (s.2.drop (s.2.length - (ar n.1).toNat))
    show (runA b t (stepA b s n)).1.1.length ≤ _
    have e : (stepA b s n).1 = (classA b s.1 n (s.2.drop (s.2.length - (ar n.1).toNat))).1 := rfl
    rw [e] at ih
    simp only [List.length_cons]
    omega
theorem seg_len (l : List (Int × Int)) (a b : Nat) (h : b ≤ l.length) : (seg l a b).length ≤ b - a := by
  unfold seg; rw [List.length_take]; omega
theorem kids_pile {t : List (Int × Int)} {q : Int} (h : pile t 0 = some q) {k : Nat} (hk : k < t.length) : ∀ j, j ≤ (ar (t.getD k (0, 0)).1).toNat → pile (seg t (start t k) (endAt t (ar (t.getD k (0, 0)).1).toNat k j)) 0 = some (j : Int)
  | 0, _ => by rw [(chain_of h hk).2.1, seg_self]; rfl
  | j + 1, hj => by
    have ch := (chain_of h hk).2.2 j (by omega)
    have ih := kids_pile h hk j (by omega)
    have hge := endAt_ge h hk j (by omega)
    have es : endAt t (ar (t.getD k (0, 0)).1).toNat k (j + 1) = (roots t (ar (t.getD k (0, 0)).1).toNat k).getD j 0 + 1 := by unfold endAt; rw [if_neg (by omega)]; rfl
    rw [es, seg_append t _ (endAt t (ar (t.getD k (0, 0)).1).toNat k j) _ hge (by omega), pile_append, ih]
    have hp := seg_pile h k _ ch.2.2 (by omega) (j : Int) (by omega)
    rw [ch.1] at hp
    show pile _ (j : Int) = _
    rw [hp]
    congr 1
theorem seg_mem (t : List (Int × Int)) (a b : Nat) : ∀ n ∈ seg t a b, n ∈ t := fun n hn => List.mem_of_mem_drop (List.mem_of_mem_take hn)
theorem kidsA_good {t : List (Int × Int)} {q : Int} (h : pile t 0 = some q) {b : Option (List Int)} {g : GS} (hg : GoodG g) (hB : BOk b g t) {k : Nat} (hk : k < t.length) {j : Nat} (hj : j ≤ (ar (t.getD k (0, 0)).1).toNat) {g1 : GS} {ks : List Int} (e : kidsA b t g k j = (g1, ks)) (hl : endAt t (ar (t.getD k (0, 0)).1).toNat k j ≤ t.length) :
    GoodG g1 ∧ (∀ c ∈ ks, IsCl g1 c) ∧ BOk b g1 t ∧ g1.1.length ≤ g.1.length + (endAt t (ar (t.getD k (0, 0)).1).toNat k j - start t k) ∧ ks.length = j := by
  have hp := kids_pile h hk j hj
  unfold kidsA at e
  have hgd := runA_good (b := b) _ g [] _ hp hg (fun c hc => by cases hc) (hB.step (seg_mem t _ _) (fun c hc => hc))
  have hlen := runA_len b (seg t (start t k) (endAt t (ar (t.getD k (0, 0)).1).toNat k j)) (g, [])
  have hfr := (runA_frame b [] _ g [] _ hp).2
  have hsl := seg_len t (start t k) (endAt t (ar (t.getD k (0, 0)).1).toNat k j) hl
  rw [e] at hgd hlen hfr
  simp only at hgd hlen hfr
  exact ⟨hgd.1, hgd.2.1, hB.step (fun _ h => h) hgd.2.2.1, by omega, by omega⟩
/-- What is handed over as a bind. -/
def BindIs (W : World) (b : Option (List Int)) (ba : Option Addr) (bl : Nat) : Prop := (b = none ∧ bl = 0) ∨ ∃ bs, b = some bs ∧ bl = 4 ∧ Sl W ba 4 bs
/-- What l6Add leaves. -/
def AddR (W : World) (S : Nat → Prop) (r : GS × List Int) (e : Ending) (w' : World) : Prop := ∃ va vb c, e = .returned (.tuple #[.agg #[va, vb], .int .i64 c]) ∧ r.2 = [c] ∧ GOwn w' false (fun b => S b ∨ W.heap.size ≤ b) va vb r.1 ∧ KB S W w'
/-- A node of a term while its parts are put. -/
structure LoopJ (W w3 wr : World) (S : Nat → Prop) (v : Value) (g1 : GS) (va vb kv : Value) (ks : List Int) (xo xn : Int) : Prop where
  own : GOwn wr false (fun y => (S y ∨ W.heap.size + 3 ≤ y) ∧ y ≠ W.heap.size ∧ y ≠ W.heap.size + 1 ∧ y ≠ W.heap.size + 2 ∧ v.ownBlock ≠ some y ∧ kv.ownBlock ≠ some y) va vb g1
  kids : wr.ownsRow 0 3 1 kv ks.length (vals ks)
  kin : ∀ y, kv.ownBlock = some y → W.heap.size + 3 ≤ y ∧ v.ownBlock ≠ some y
  vin : ∀ y, v.ownBlock = some y → W.heap.size + 3 ≤ y ∧ y < w3.heap.size
  kb : KB S W wr
  c0 : wr.cell? ⟨W.heap.size, 0, none⟩ = some va
  c1 : wr.cell? ⟨W.heap.size, 1, none⟩ = some vb
  x0 : wr.cell? ⟨W.heap.size + 2, 0, none⟩ = some (.int .i64 xo)
  x1 : wr.cell? ⟨W.heap.size + 2, 1, none⟩ = some (.int .i64 xn)
  x2 : wr.cell? ⟨W.heap.size + 2, 2, none⟩ = some kv
  z0 : wr.frozen? ⟨W.heap.size, 0, none⟩ = false
  z1 : wr.frozen? ⟨W.heap.size, 1, none⟩ = false
  z2 : wr.frozen? ⟨W.heap.size + 2, 2, none⟩ = false
  part : ∀ y, v.ownBlock = some y → wr.heap[y]? = w3.heap[y]?
  res : wr.heap[W.heap.size + 1]? = w3.heap[W.heap.size + 1]?
  size : w3.heap.size ≤ wr.heap.size
  big : W.heap.size + 3 ≤ w3.heap.size
/-- The part's answer is stored. -/
theorem LoopJ.mid {W w3 wr w4 : World} {S : Nat → Prop} {v : Value} {g1 g2 : GS} {va vb va' vb' kv : Value} {ks : List Int} {xo xn : Int} (h : LoopJ W w3 wr S v g1 va vb kv ks xo xn) (hv : ∃ a n c, va' = .slice a n c) (hv2 : ∃ a n c, vb' = .slice a n c)
    (hG : GOwn w4 false (fun b => ((S b ∨ W.heap.size + 3 ≤ b) ∧ b ≠ W.heap.size ∧ b ≠ W.heap.size + 1 ∧ b ≠ W.heap.size + 2 ∧ v.ownBlock ≠ some b ∧ kv.ownBlock ≠ some b) ∨ wr.heap.size ≤ b) va' vb' g2)
    (hk : KB (fun b => (S b ∨ W.heap.size + 3 ≤ b) ∧ b ≠ W.heap.size ∧ b ≠ W.heap.size + 1 ∧ b ≠ W.heap.size + 2 ∧ v.ownBlock ≠ some b ∧ kv.ownBlock ≠ some b) wr w4) (o : Obj) :
    (w4.alloc o).cell? ⟨W.heap.size, 0, none⟩ = some va ∧ (w4.alloc o).cell? ⟨W.heap.size, 1, none⟩ = some vb ∧ (w4.alloc o).frozen? ⟨W.heap.size, 0, none⟩ = false ∧ (w4.alloc o).frozen? ⟨W.heap.size, 1, none⟩ = false ∧ LoopJ W w3 (((w4.alloc o).setCell ⟨W.heap.size, 0, none⟩ va').setCell ⟨W.heap.size, 1, none⟩ vb') S v g2 va' vb' kv ks xo xn := by
  obtain ⟨A1, A2, A3, rfl⟩ := hv
  obtain ⟨C1, C2, C3, rfl⟩ := hv2
  have hsz := h.size
  have hbig := h.big
  have hal : ∀ b, b < w4.heap.size → (w4.alloc o).heap[b]? = w4.heap[b]? := fun b hb => (World.grownBy_alloc w4 o none).block b hb (by simp)
  have hk4 := hk.size
  have keep : ∀ b, b < wr.heap.size → (b = W.heap.size ∨ b = W.heap.size + 1 ∨ b = W.heap.size + 2 ∨ v.ownBlock = some b ∨ kv.ownBlock = some b) → (w4.alloc o).heap[b]? = wr.heap[b]? := fun b hb hc => (hal b (by omega)).trans (hk.block b hb (fun hs => by
    rcases hc with e | e | e | e | e
    · exact hs.2.1 e
    · exact hs.2.2.1 e
    · exact hs.2.2.2.1 e
    · exact hs.2.2.2.2.1 e
    · exact hs.2.2.2.2.2 e))
  have k0 := keep W.heap.size (by omega) (.inl rfl)
  have k1 := keep (W.heap.size + 1) (by omega) (.inr (.inl rfl))
  have k2 := keep (W.heap.size + 2) (by omega) (.inr (.inr (.inl rfl)))
  have e0 := (World.cell?_of_block (a := ⟨W.heap.size, 0, none⟩) k0).trans h.c0
  have e1 := (World.cell?_of_block (a := ⟨W.heap.size, 1, none⟩) k0).trans h.c1
  have e2 := (World.frozen?_of_block (a := ⟨W.heap.size, 0, none⟩) k0).trans h.z0
  have e3 := (World.frozen?_of_block (a := ⟨W.heap.size, 1, none⟩) k0).trans h.z1
  have two : ∀ b, b ≠ W.heap.size → (((w4.alloc o).setCell ⟨W.heap.size, 0, none⟩ (.slice A1 A2 A3)).setCell ⟨W.heap.size, 1, none⟩ (.slice C1 C2 C3)).heap[b]? = (w4.alloc o).heap[b]? := fun b hb => by
    rw [setCell_block _ _ _ (show W.heap.size ≠ b from Ne.symm hb), setCell_block _ _ _ (show W.heap.size ≠ b from Ne.symm hb)]
  have hsz2 : (((w4.alloc o).setCell ⟨W.heap.size, 0, none⟩ (.slice A1 A2 A3)).setCell ⟨W.heap.size, 1, none⟩ (.slice C1 C2 C3)).heap.size = w4.heap.size + 1 := by rw [setCell_size, setCell_size]; simp
  refine ⟨e0, e1, e2, e3, ?_⟩
  refine ⟨?_, ?_, h.kin, h.vin, ?_, ?_, ?_, ?_, ?_, ?_, ?_, ?_, ?_, fun y hy => ?_, ?_, by omega, hbig⟩
  · refine (hG.sets (S' := fun y => (S y ∨ W.heap.size + 3 ≤ y) ∧ y ≠ W.heap.size ∧ y ≠ W.heap.size + 1 ∧ y ≠ W.heap.size + 2 ∧ v.ownBlock ≠ some y ∧ kv.ownBlock ≠ some y) (fun b hl hb => ?_)).map (by omega) (fun b hb hl => (two b hb.2.1).trans (hal b hl)) (fun _ _ h => h)
    rcases hb with hb | hb
    · exact hb
    · refine ⟨.inr (by omega), by omega, by omega, by omega, fun e => ?_, fun e => ?_⟩
      · have := (h.vin b e).2; omega
      · have := (h.kids.lt b e).2; omega
  · exact row_map h.kids (fun y hy hl => (two y (fun e => by have := (h.kin y hy).1; omega)).trans (keep y hl (.inr (.inr (.inr (.inr hy))))))
  · refine ((h.kb.trans hk (fun b hb hs => ?_)).trans (T := fun _ => False) (KB.of ((Below.refl _ _).alloc (Nat.le_refl _) o)) (fun _ _ h => h.elim)).setCell (p := ⟨W.heap.size, 0, none⟩) (fun hlt => absurd hlt (Nat.lt_irrefl _)) _ |>.setCell (p := ⟨W.heap.size, 1, none⟩) (fun hlt => absurd hlt (Nat.lt_irrefl _)) _
    rcases hs.1 with h | h
    · exact h
    · omega
  · rw [World.cell?_setCell_other _ _ _ _ (fun e => by injection e; omega)]; simp [go_sem, *]
  · simp [go_sem, *]
  · exact (World.cell?_of_block (a := ⟨W.heap.size + 2, 0, none⟩) ((two _ (by show W.heap.size + 2 ≠ _; omega)).trans k2)).trans h.x0
  · exact (World.cell?_of_block (a := ⟨W.heap.size + 2, 1, none⟩) ((two _ (by show W.heap.size + 2 ≠ _; omega)).trans k2)).trans h.x1
  · exact (World.cell?_of_block (a := ⟨W.heap.size + 2, 2, none⟩) ((two _ (by show W.heap.size + 2 ≠ _; omega)).trans k2)).trans h.x2
  · simpa [go_sem] using e2
  · simpa [go_sem] using e3
  · exact (World.frozen?_of_block (a := ⟨W.heap.size + 2, 2, none⟩) ((two _ (by show W.heap.size + 2 ≠ _; omega)).trans k2)).trans h.z2
  · have hv := h.vin y hy
    exact (two y (by omega)).trans ((keep y (by omega) (.inr (.inr (.inr (.inl hy))))).trans (h.part y hy))
  · exact (two _ (by omega)).trans (k1.trans h.res)
/-- The class is laid to the kids. -/
theorem LoopJ.next {W w3 w5 : World} {S : Nat → Prop} {v : Value} {g2 : GS} {va vb kv : Value} {ks : List Int} {xo xn : Int} (h : LoopJ W w3 w5 S v g2 va vb kv ks xo xn) (c : Int) :
    (w5.alloc (.cells #[.int .i64 c] 3)).ownsRow 0 3 1 kv ks.length (vals ks) ∧ ∀ w6 kv', w6.ownsRow 0 3 1 kv' (ks.length + 1) (vals ks ++ [.int .i64 c]) → (w5.alloc (.cells #[.int .i64 c] 3)).grownBy w6 kv.ownBlock → (kv'.ownBlock = kv.ownBlock ∨ kv'.ownBlock = some (w5.alloc (.cells #[.int .i64 c] 3)).heap.size) →
      w6.cell? ⟨W.heap.size + 2, 2, none⟩ = some kv ∧ w6.frozen? ⟨W.heap.size + 2, 2, none⟩ = false ∧ LoopJ W w3 (w6.setCell ⟨W.heap.size + 2, 2, none⟩ kv') S v g2 va vb kv' (ks ++ [c]) xo xn := by
  have hsz := h.size
  have hbig := h.big
  refine ⟨h.kids.alloc _, fun w6 kv' k1 k2 k3 => ?_⟩
  obtain ⟨A1, A2, rfl, _⟩ := row_slice k1
  have hs5 : (w5.alloc (.cells #[.int .i64 c] 3)).heap.size = w5.heap.size + 1 := by simp
  have hs6 := k2.size
  have keep : ∀ b, b < w5.heap.size → kv.ownBlock ≠ some b → w6.heap[b]? = w5.heap[b]? := fun b hb hn => (k2.block b (by omega) (fun e => hn e.symm)).trans ((World.grownBy_alloc w5 _ none).block b hb (by simp))
  have kb : ∀ b, b = W.heap.size ∨ b = W.heap.size + 1 ∨ b = W.heap.size + 2 → w6.heap[b]? = w5.heap[b]? := fun b hb => keep b (by omega) (fun e => by have := (h.kin b e).1; omega)
  have q0 := kb W.heap.size (.inl rfl)
  have q1 := kb (W.heap.size + 1) (.inr (.inl rfl))
  have q2 := kb (W.heap.size + 2) (.inr (.inr rfl))
  have x2 := (World.cell?_of_block (a := ⟨W.heap.size + 2, 2, none⟩) q2).trans h.x2
  have z2 := (World.frozen?_of_block (a := ⟨W.heap.size + 2, 2, none⟩) q2).trans h.z2
  have one : ∀ b, b ≠ W.heap.size + 2 → (w6.setCell ⟨W.heap.size + 2, 2, none⟩ (.slice A1 (ks.length + 1) A2)).heap[b]? = w6.heap[b]? := fun b hb => setCell_block _ _ _ (show W.heap.size + 2 ≠ b from Ne.symm hb)
  have kn : ∀ y, (Value.slice A1 (ks.length + 1) A2).ownBlock = some y → kv.ownBlock = some y ∨ y = w5.heap.size + 1 := fun y hy => by
    rcases k3 with e | e
    · left; rw [← e]; exact hy
    · right; rw [e] at hy; injection hy; omega
  refine ⟨x2, z2, ?_, ?_, fun y hy => ?_, h.vin, ?_, ?_, ?_, ?_, ?_, ?_, ?_, ?_, ?_, fun y hy => ?_, ?_, by rw [setCell_size]; omega, hbig⟩
  · refine h.own.map (by rw [setCell_size]; omega) (fun b hb hl => (one b hb.2.2.2.1).trans (keep b hl hb.2.2.2.2.2)) (fun b hl hb => ⟨hb.1, hb.2.1, hb.2.2.1, hb.2.2.2.1, hb.2.2.2.2.1, fun e => ?_⟩)
    rcases kn b e with e | e
    · exact hb.2.2.2.2.2 e
    · omega
  · rw [List.length_append, vals_append]
    exact row_map k1 (fun y hy hl => one y (fun e => by
      rcases kn y hy with e' | e'
      · have := (h.kin y e').1; omega
      · omega))
  · rcases kn y hy with e | e
    · exact h.kin y e
    · exact ⟨by omega, fun e2 => by have := (h.vin y e2).2; omega⟩
  · refine (((h.kb.trans (T := fun _ => False) (KB.of ((Below.refl _ _).alloc (Nat.le_refl _) _)) (fun _ _ h => h.elim)).grown k2 (fun y hy hl => ?_))).setCell (p := ⟨W.heap.size + 2, 2, none⟩) (fun hlt => absurd hlt (by show ¬ W.heap.size + 2 < W.heap.size; omega)) _
    have := (h.kin y hy).1; omega
  · exact (World.cell?_of_block (a := ⟨W.heap.size, 0, none⟩) ((one _ (by show W.heap.size ≠ _; omega)).trans q0)).trans h.c0
  · exact (World.cell?_of_block (a := ⟨W.heap.size, 1, none⟩) ((one _ (by show W.heap.size ≠ _; omega)).trans q0)).trans h.c1
  · rw [World.cell?_setCell_other _ _ _ _ (fun e => by injection e; omega)]; exact (World.cell?_of_block (a := ⟨W.heap.size + 2, 0, none⟩) q2).trans h.x0
  · rw [World.cell?_setCell_other _ _ _ _ (fun e => by injection e; omega)]; exact (World.cell?_of_block (a := ⟨W.heap.size + 2, 1, none⟩) q2).trans h.x1
  · simp [go_sem, *]
  · exact (World.frozen?_of_block (a := ⟨W.heap.size, 0, none⟩) ((one _ (by show W.heap.size ≠ _; omega)).trans q0)).trans h.z0
  · exact (World.frozen?_of_block (a := ⟨W.heap.size, 1, none⟩) ((one _ (by show W.heap.size ≠ _; omega)).trans q0)).trans h.z1
  · simpa [go_sem] using z2
  · have hv := h.vin y hy
    exact (one y (by omega)).trans ((keep y (by omega) (fun e => (h.kin y e).2 hy)).trans (h.part y hy))
  · exact (one _ (by omega)).trans (q1.trans h.res)
theorem nsl_kb {w w' : World} {S : Nat → Prop} {b off len : Nat} {l : List (Int × Int)} (h : NSl w (some ⟨b, off, none⟩) len l) (hk : KB S w w') (hS : ¬ S b) : NSl w' (some ⟨b, off, none⟩) len l := by
  refine ⟨h.1, ?_⟩
  rcases h.2 with h0 | ⟨b', off', e, hlt, hc⟩
  · exact .inl h0
  · cases e
    exact .inr ⟨b, off, rfl, Nat.lt_of_lt_of_le hlt hk.size, fun i hi => ⟨(hk.cell (p := ⟨b, off + i * 2, none⟩) hlt hS).trans (hc i hi).1, (hk.cell (p := ⟨b, off + i * 2 + 1, none⟩) hlt hS).trans (hc i hi).2⟩⟩
theorem bind_kb {w w' : World} {S : Nat → Prop} {b : Option (List Int)} {ba : Option Addr} {bl : Nat} (h : BindIs w b ba bl) (hk : KB S w w') (hS : ∀ x, (Value.slice ba bl bl).ownBlock = some x → ¬ S x) : BindIs w' b ba bl := by
  rcases h with h | ⟨bs, h1, h2, h3⟩
  · exact .inl h
  · exact .inr ⟨bs, h1, h2, sl_block h3 (fun x hx hl => hk.block x hl (hS x (by rw [own_slice ba _ _ _ _]; exact hx))) hk.size⟩
theorem own_apart {W : World} {s : Bool} {S T : Nat → Prop} {va vb : Value} {g : GS} (h : GOwn W s S va vb g) (hT : ∀ b, b < W.heap.size → S b → T b) : GOwn W s T va vb g := h.sets hT
end Go.Proofs.YtbmgflapagbkcaaDoor
namespace Go.Proofs.YtbmgflapagbkcaaDoor
open Go.ChangeShapes Go.WideShapes Go.ChangeAt Go.RowKit
set_option linter.unusedVariables false

/-- What comes of a graph that was put into, where it has room. -/
def roomA (r : GS × List Int) : Option (GS × Int) := if r.1.1.length ≤ 120 then some (r.1, r.2.getD 0 0) else none
def addT (p : List EN) (l : List Int) (t : List (Int × Int)) : Option (GS × Int) := if graphB p l && goodB t then roomA (runA none t ((p, l), [])) else none
def ansG (o : Option (GS × Int)) : GS := (o.map (fun r => r.1)).getD ([], [])
def ansC (o : Option (GS × Int)) : Int := (o.map (fun r => r.2)).getD 0
theorem gown_nil (w : World) (s : Bool) (S : Nat → Prop) : GOwn w s S (.slice none 0 0) (.slice none 0 0) ([], []) :=
  ⟨[], fun _ => undef, World.ownsRow_nil _ _ _ _, World.ownsRow_nil _ _ _ _, (fun x hx => by cases hx), (fun x hx => by cases hx), fun i hi => absurd hi (Nat.not_lt_zero _)⟩
theorem good_few {g : GS} (hg : GoodG g) : ∀ i, i < g.1.length → (g.1.getD i e0).2.2.length ≤ 3 := fun i hi => fit_few (hg.1 i hi)
theorem bok_none (g : GS) (t : List (Int × Int)) : BOk none g t := fun bs h => by cases h
/-- What FindTerm tells. -/
def findT (p : List EN) (l : List Int) (t : List (Int × Int)) : Option Int := match addT p l t with
  | some r => if p.length < r.1.1.length then none else some r.2
  | none => none
end Go.Proofs.YtbmgflapagbkcaaDoor
