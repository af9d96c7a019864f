/-
  PROVED HERE: what the model's l6Add answers, at every good term and every good graph in memory of its own, variables standing for classes where they are given. No other condition. what the program's classOfTerm answers at every good term, once the function of classes that is handed over is known (a premise here; a theorem where it is used). No other condition. what the program's classOfTerm answers at every good term, once the function of classes that is handed over is known (a premise here; a theorem where it is used). No other condition.
-/
import Derived.Test.YtobgkfpjokfbaaaGreatDoorRun13
import Derived.Test.YtobgkfpjokfbaaaGreatDoorA6OwnS
import Derived.Test.YtobgkfpjokfbaaaGreatDoorSteps
import Derived.Deep.RegionHeld3
import Derived.Test.YtobgkfpjokfbaaaGreatDoorRun12
import Derived.Test.YtobgkfpjokfbaaaGreatDoorRun2
namespace Go.Proofs.YtobgkfpjokfbaaaGreatDoor
open Go.ChangeShapes Go.WideShapes Go.ChangeAt Go.RowKit
set_option linter.unusedVariables false

theorem putL_len (g : GS) (x : EN) : (putL g x).1.1.length ≤ g.1.length + 1 := by
  cases hf : findL g.1 g.2 x with
  | some v => rw [putL_some hf]; simp only; omega
  | none => rw [putL_none hf]; simp
theorem classA_len (b : Option (List Int)) (g : GS) (n : Int × Int) (kids : List Int) : (classA b g n kids).1.1.length ≤ g.1.length + 1 := by
  unfold classA
  cases b with
  | none => exact putL_len _ _
  | some bs =>
    simp only
    by_cases e : n.1 = 2
    · rw [if_pos e]; simp only; omega
    · rw [if_neg e]; exact putL_len _ _
theorem runA_len (b : Option (List Int)) : ∀ (t : List (Int × Int)) (s : GS × List Int), (runA b t s).1.1.length ≤ s.1.1.length + t.length
  | [], s => Nat.le_refl _
  | n :: t, s => by
    have ih := runA_len b t (stepA b s n)
    have h := classA_len b s.1 n (s.2.drop (s.2.length - (ar n.1).toNat))
    show (runA b t (stepA b s n)).1.1.length ≤ _
    have e : (stepA b s n).1 = (classA b s.1 n (s.2.drop (s.2.length - (ar n.1).toNat))).1 := rfl
    rw [e] at ih
    simp only [List.length_cons]
    omega
theorem seg_len (l : List (Int × Int)) (a b : Nat) (h : b ≤ l.length) : (seg l a b).length ≤ b - a := by
  unfold seg; rw [List.length_take]; omega
theorem kids_pile {t : List (Int × Int)} {q : Int} (h : pile t 0 = some q) {k : Nat} (hk : k < t.length) : ∀ j, j ≤ (ar (t.getD k (0, 0)).1).toNat → pile (seg t (start t k) (endAt t (ar (t.getD k (0, 0)).1).toNat k j)) 0 = some (j : Int)
  | 0, _ => by rw [(chain_of h hk).2.1, seg_self]; rfl
  | j + 1, hj => by
    have ch := (chain_of h hk).2.2 j (by omega)
    have ih := kids_pile h hk j (by omega)
    have hge := endAt_ge h hk j (by omega)
    have es : endAt t (ar (t.getD k (0, 0)).1).toNat k (j + 1) = (roots t (ar (t.getD k (0, 0)).1).toNat k).getD j 0 + 1 := by unfold endAt; rw [if_neg (by omega)]; rfl
    rw [es, seg_append t _ (endAt t (ar (t.getD k (0, 0)).1).toNat k j) _ hge (by omega), pile_append, ih]
    have hp := seg_pile h k _ ch.2.2 (by omega) (j : Int) (by omega)
    rw [ch.1] at hp
    show pile _ (j : Int) = _
    rw [hp]
    congr 1
theorem seg_mem (t : List (Int × Int)) (a b : Nat) : ∀ n ∈ seg t a b, n ∈ t := fun n hn => List.mem_of_mem_drop (List.mem_of_mem_take hn)
theorem kidsA_good {t : List (Int × Int)} {q : Int} (h : pile t 0 = some q) {b : Option (List Int)} {g : GS} (hg : GoodG g) (hB : BOk b g t) {k : Nat} (hk : k < t.length) {j : Nat} (hj : j ≤ (ar (t.getD k (0, 0)).1).toNat) {g1 : GS} {ks : List Int} (e : kidsA b t g k j = (g1, ks)) (hl : endAt t (ar (t.getD k (0, 0)).1).toNat k j ≤ t.length) :
    GoodG g1 ∧ (∀ c ∈ ks, IsCl g1 c) ∧ BOk b g1 t ∧ g1.1.length ≤ g.1.length + (endAt t (ar (t.getD k (0, 0)).1).toNat k j - start t k) ∧ ks.length = j := by
  have hp := kids_pile h hk j hj
  unfold kidsA at e
  have hgd := runA_good (b := b) _ g [] _ hp hg (fun c hc => by cases hc) (hB.step (seg_mem t _ _) (fun c hc => hc))
  have hlen := runA_len b (seg t (start t k) (endAt t (ar (t.getD k (0, 0)).1).toNat k j)) (g, [])
  have hfr := (runA_frame b [] _ g [] _ hp).2
  have hsl := seg_len t (start t k) (endAt t (ar (t.getD k (0, 0)).1).toNat k j) hl
  rw [e] at hgd hlen hfr
  simp only at hgd hlen hfr
  exact ⟨hgd.1, hgd.2.1, hB.step (fun _ h => h) hgd.2.2.1, by omega, by omega⟩
/-- What is handed over as a bind. -/
def BindIs (W : World) (b : Option (List Int)) (ba : Option Addr) (bl : Nat) : Prop := (b = none ∧ bl = 0) ∨ ∃ bs, b = some bs ∧ bl = 4 ∧ Sl W ba 4 bs
/-- What l6Add leaves. -/
def AddR (W : World) (S : Nat → Prop) (r : GS × List Int) (e : Ending) (w' : World) : Prop := ∃ va vb c, e = .returned (.tuple #[.agg #[va, vb], .int .i64 c]) ∧ r.2 = [c] ∧ GOwn w' false (fun b => S b ∨ W.heap.size ≤ b) va vb r.1 ∧ KB S W w'
/-- A node of a term while its parts are put. -/
structure LoopJ (W w3 wr : World) (S : Nat → Prop) (v : Value) (g1 : GS) (va vb kv : Value) (ks : List Int) (xo xn : Int) : Prop where
  own : GOwn wr false (fun y => (S y ∨ W.heap.size + 3 ≤ y) ∧ y ≠ W.heap.size ∧ y ≠ W.heap.size + 1 ∧ y ≠ W.heap.size + 2 ∧ v.ownBlock ≠ some y ∧ kv.ownBlock ≠ some y) va vb g1
  kids : wr.ownsRow 0 3 1 kv ks.length (vals ks)
  kin : ∀ y, kv.ownBlock = some y → W.heap.size + 3 ≤ y ∧ v.ownBlock ≠ some y
  vin : ∀ y, v.ownBlock = some y → W.heap.size + 3 ≤ y ∧ y < w3.heap.size
  kb : KB S W wr
  c0 : wr.cell? ⟨W.heap.size, 0, none⟩ = some va
  c1 : wr.cell? ⟨W.heap.size, 1, none⟩ = some vb
  x0 : wr.cell? ⟨W.heap.size + 2, 0, none⟩ = some (.int .i64 xo)
  x1 : wr.cell? ⟨W.heap.size + 2, 1, none⟩ = some (.int .i64 xn)
  x2 : wr.cell? ⟨W.heap.size + 2, 2, none⟩ = some kv
  z0 : wr.frozen? ⟨W.heap.size, 0, none⟩ = false
  z1 : wr.frozen? ⟨W.heap.size, 1, none⟩ = false
  z2 : wr.frozen? ⟨W.heap.size + 2, 2, none⟩ = false
  part : ∀ y, v.ownBlock = some y → wr.heap[y]? = w3.heap[y]?
  res : wr.heap[W.heap.size + 1]? = w3.heap[W.heap.size + 1]?
  size : w3.heap.size ≤ wr.heap.size
  big : W.heap.size + 3 ≤ w3.heap.size
/-- The part's answer is stored. -/
theorem LoopJ.mid {W w3 wr w4 : World} {S : Nat → Prop} {v : Value} {g1 g2 : GS} {va vb va' vb' kv : Value} {ks : List Int} {xo xn : Int} (h : LoopJ W w3 wr S v g1 va vb kv ks xo xn) (hv : ∃ a n c, va' = .slice a n c) (hv2 : ∃ a n c, vb' = .slice a n c)
    (hG : GOwn w4 false (fun b => ((S b ∨ W.heap.size + 3 ≤ b) ∧ b ≠ W.heap.size ∧ b ≠ W.heap.size + 1 ∧ b ≠ W.heap.size + 2 ∧ v.ownBlock ≠ some b ∧ kv.ownBlock ≠ some b) ∨ wr.heap.size ≤ b) va' vb' g2)
    (hk : KB (fun b => (S b ∨ W.heap.size + 3 ≤ b) ∧ b ≠ W.heap.size ∧ b ≠ W.heap.size + 1 ∧ b ≠ W.heap.size + 2 ∧ v.ownBlock ≠ some b ∧ kv.ownBlock ≠ some b) wr w4) (o : Obj) :
    (w4.alloc o).cell? ⟨W.heap.size, 0, none⟩ = some va ∧ (w4.alloc o).cell? ⟨W.heap.size, 1, none⟩ = some vb ∧ (w4.alloc o).frozen? ⟨W.heap.size, 0, none⟩ = false ∧ (w4.alloc o).frozen? ⟨W.heap.size, 1, none⟩ = false ∧ LoopJ W w3 (((w4.alloc o).setCell ⟨W.heap.size, 0, none⟩ va').setCell ⟨W.heap.size, 1, none⟩ vb') S v g2 va' vb' kv ks xo xn := by
  obtain ⟨A1, A2, A3, rfl⟩ := hv
  obtain ⟨C1, C2, C3, rfl⟩ := hv2
  have hsz := h.size
  have hbig := h.big
  have hal : ∀ b, b < w4.heap.size → (w4.alloc o).heap[b]? = w4.heap[b]? := fun b hb => (World.grownBy_alloc w4 o none).block b hb (by simp)
  have hk4 := hk.size
  have keep : ∀ b, b < wr.heap.size → (b = W.heap.size ∨ b = W.heap.size + 1 ∨ b = W.heap.size + 2 ∨ v.ownBlock = some b ∨ kv.ownBlock = some b) → (w4.alloc o).heap[b]? = wr.heap[b]? := fun b hb hc => (hal b (by omega)).trans (hk.block b hb (fun hs => by
    rcases hc with e | e | e | e | e
    · exact hs.2.1 e
    · exact hs.2.2.1 e
    · exact hs.2.2.2.1 e
    · exact hs.2.2.2.2.1 e
    · exact hs.2.2.2.2.2 e))
  have k0 := keep W.heap.size (by omega) (.inl rfl)
  have k1 := keep (W.heap.size + 1) (by omega) (.inr (.inl rfl))
  have k2 := keep (W.heap.size + 2) (by omega) (.inr (.inr (.inl rfl)))
  have e0 := (World.cell?_of_block (a := ⟨W.heap.size, 0, none⟩) k0).trans h.c0
  have e1 := (World.cell?_of_block (a := ⟨W.heap.size, 1, none⟩) k0).trans h.c1
  have e2 := (World.frozen?_of_block (a := ⟨W.heap.size, 0, none⟩) k0).trans h.z0
  have e3 := (World.frozen?_of_block (a := ⟨W.heap.size, 1, none⟩) k0).trans h.z1
  have two : ∀ b, b ≠ W.heap.size → (((w4.alloc o).setCell ⟨W.heap.size, 0, none⟩ (.slice A1 A2 A3)).setCell ⟨W.heap.size, 1, none⟩ (.slice C1 C2 C3)).heap[b]? = (w4.alloc o).heap[b]? := fun b hb => by
    rw [setCell_block _ _ _ (show W.heap.size ≠ b from Ne.symm hb), setCell_block _ _ _ (show W.heap.size ≠ b from Ne.symm hb)]
  have hsz2 : (((w4.alloc o).setCell ⟨W.heap.size, 0, none⟩ (.slice A1 A2 A3)).setCell ⟨W.heap.size, 1, none⟩ (.slice C1 C2 C3)).heap.size = w4.heap.size + 1 := by rw [setCell_size, setCell_size]; simp
  refine ⟨e0, e1, e2, e3, ?_⟩
  refine ⟨?_, ?_, h.kin, h.vin, ?_, ?_, ?_, ?_, ?_, ?_, ?_, ?_, ?_, fun y hy => ?_, ?_, by omega, hbig⟩
  · refine (hG.sets (S' := fun y => (S y ∨ W.heap.size + 3 ≤ y) ∧ y ≠ W.heap.size ∧ y ≠ W.heap.size + 1 ∧ y ≠ W.heap.size + 2 ∧ v.ownBlock ≠ some y ∧ kv.ownBlock ≠ some y) (fun b hl hb => ?_)).map (by omega) (fun b hb hl => (two b hb.2.1).trans (hal b hl)) (fun _ _ h => h)
    rcases hb with hb | hb
    · exact hb
    · refine ⟨.inr (by omega), by omega, by omega, by omega, fun e => ?_, fun e => ?_⟩
      · have := (h.vin b e).2; omega
      · have := (h.kids.lt b e).2; omega
  · exact row_map h.kids (fun y hy hl => (two y (fun e => by have := (h.kin y hy).1; omega)).trans (keep y hl (.inr (.inr (.inr (.inr hy))))))
  · refine ((h.kb.trans hk (fun b hb hs => ?_)).trans (T := fun _ => False) (KB.of ((Below.refl _ _).alloc (Nat.le_refl _) o)) (fun _ _ h => h.elim)).setCell (p := ⟨W.heap.size, 0, none⟩) (fun hlt => absurd hlt (Nat.lt_irrefl _)) _ |>.setCell (p := ⟨W.heap.size, 1, none⟩) (fun hlt => absurd hlt (Nat.lt_irrefl _)) _
    rcases hs.1 with h | h
    · exact h
    · omega
  · rw [World.cell?_setCell_other _ _ _ _ (fun e => by injection e; omega)]; simp [go_sem, *]
  · simp [go_sem, *]
  · exact (World.cell?_of_block (a := ⟨W.heap.size + 2, 0, none⟩) ((two _ (by show W.heap.size + 2 ≠ _; omega)).trans k2)).trans h.x0
  · exact (World.cell?_of_block (a := ⟨W.heap.size + 2, 1, none⟩) ((two _ (by show W.heap.size + 2 ≠ _; omega)).trans k2)).trans h.x1
  · exact (World.cell?_of_block (a := ⟨W.heap.size + 2, 2, none⟩) ((two _ (by show W.heap.size + 2 ≠ _; omega)).trans k2)).trans h.x2
  · simpa [go_sem] using e2
  · simpa [go_sem] using e3
  · exact (World.frozen?_of_block (a := ⟨W.heap.size + 2, 2, none⟩) ((two _ (by show W.heap.size + 2 ≠ _; omega)).trans k2)).trans h.z2
  · have hv := h.vin y hy
    exact (two y (by omega)).trans ((keep y (by omega) (.inr (.inr (.inr (.inl hy))))).trans (h.part y hy))
  · exact (two _ (by omega)).trans (k1.trans h.res)
/-- The class is laid to the kids. -/
theorem LoopJ.next {W w3 w5 : World} {S : Nat → Prop} {v : Value} {g2 : GS} {va vb kv : Value} {ks : List Int} {xo xn : Int} (h : LoopJ W w3 w5 S v g2 va vb kv ks xo xn) (c : Int) :
    (w5.alloc (.cells #[.int .i64 c] 3)).ownsRow 0 3 1 kv ks.length (vals ks) ∧ ∀ w6 kv', w6.ownsRow 0 3 1 kv' (ks.length + 1) (vals ks ++ [.int .i64 c]) → (w5.alloc (.cells #[.int .i64 c] 3)).grownBy w6 kv.ownBlock → (kv'.ownBlock = kv.ownBlock ∨ kv'.ownBlock = some (w5.alloc (.cells #[.int .i64 c] 3)).heap.size) →
      w6.cell? ⟨W.heap.size + 2, 2, none⟩ = some kv ∧ w6.frozen? ⟨W.heap.size + 2, 2, none⟩ = false ∧ LoopJ W w3 (w6.setCell ⟨W.heap.size + 2, 2, none⟩ kv') S v g2 va vb kv' (ks ++ [c]) xo xn := by
  have hsz := h.size
  have hbig := h.big
  refine ⟨h.kids.alloc _, fun w6 kv' k1 k2 k3 => ?_⟩
  obtain ⟨A1, A2, rfl, _⟩ := row_slice k1
  have hs5 : (w5.alloc (.cells #[.int .i64 c] 3)).heap.size = w5.heap.size + 1 := by simp
  have hs6 := k2.size
  have keep : ∀ b, b < w5.heap.size → kv.ownBlock ≠ some b → w6.heap[b]? = w5.heap[b]? := fun b hb hn => (k2.block b (by omega) (fun e => hn e.symm)).trans ((World.grownBy_alloc w5 _ none).block b hb (by simp))
  have kb : ∀ b, b = W.heap.size ∨ b = W.heap.size + 1 ∨ b = W.heap.size + 2 → w6.heap[b]? = w5.heap[b]? := fun b hb => keep b (by omega) (fun e => by have := (h.kin b e).1; omega)
  have q0 := kb W.heap.size (.inl rfl)
  have q1 := kb (W.heap.size + 1) (.inr (.inl rfl))
  have q2 := kb (W.heap.size + 2) (.inr (.inr rfl))
  have x2 := (World.cell?_of_block (a := ⟨W.heap.size + 2, 2, none⟩) q2).trans h.x2
  have z2 := (World.frozen?_of_block (a := ⟨W.heap.size + 2, 2, none⟩) q2).trans h.z2
  have one : ∀ b, b ≠ W.heap.size + 2 → (w6.setCell ⟨W.heap.size + 2, 2, none⟩ (.slice A1 (ks.length + 1) A2)).heap[b]? = w6.heap[b]? := fun b hb => setCell_block _ _ _ (show W.heap.size + 2 ≠ b from Ne.symm hb)
  have kn : ∀ y, (Value.slice A1 (ks.length + 1) A2).ownBlock = some y → kv.ownBlock = some y ∨ y = w5.heap.size + 1 := fun y hy => by
    rcases k3 with e | e
    · left; rw [← e]; exact hy
    · right; rw [e] at hy; injection hy; omega
  refine ⟨x2, z2, ?_, ?_, fun y hy => ?_, h.vin, ?_, ?_, ?_, ?_, ?_, ?_, ?_, ?_, ?_, fun y hy => ?_, ?_, by rw [setCell_size]; omega, hbig⟩
  · refine h.own.map (by rw [setCell_size]; omega) (fun b hb hl => (one b hb.2.2.2.1).trans (keep b hl hb.2.2.2.2.2)) (fun b hl hb => ⟨hb.1, hb.2.1, hb.2.2.1, hb.2.2.2.1, hb.2.2.2.2.1, fun e => ?_⟩)
    rcases kn b e with e | e
    · exact hb.2.2.2.2.2 e
    · omega
  · rw [List.length_append, vals_append]
    exact row_map k1 (fun y hy hl => one y (fun e => by
      rcases kn y hy with e' | e'
      · have := (h.kin y e').1; omega
      · omega))
  · rcases kn y hy with e | e
    · exact h.kin y e
    · exact ⟨by omega, fun e2 => by have := (h.vin y e2).2; omega⟩
  · refine (((h.kb.trans (T := fun _ => False) (KB.of ((Below.refl _ _).alloc (Nat.le_refl _) _)) (fun _ _ h => h.elim)).grown k2 (fun y hy hl => ?_))).setCell (p := ⟨W.heap.size + 2, 2, none⟩) (fun hlt => absurd hlt (by show ¬ W.heap.size + 2 < W.heap.size; omega)) _
    have := (h.kin y hy).1; omega
  · exact (World.cell?_of_block (a := ⟨W.heap.size, 0, none⟩) ((one _ (by show W.heap.size ≠ _; omega)).trans q0)).trans h.c0
  · exact (World.cell?_of_block (a := ⟨W.heap.size, 1, none⟩) ((one _ (by show W.heap.size ≠ _; omega)).trans q0)).trans h.c1
  · rw [World.cell?_setCell_other _ _ _ _ (fun e => by injection e; omega)]; exact (World.cell?_of_block (a := ⟨W.heap.size + 2, 0, none⟩) q2).trans h.x0
  · rw [World.cell?_setCell_other _ _ _ _ (fun e => by injection e; omega)]; exact (World.cell?_of_block (a := ⟨W.heap.size + 2, 1, none⟩) q2).trans h.x1
  · simp [go_sem, *]
  · exact (World.frozen?_of_block (a := ⟨W.heap.size, 0, none⟩) ((one _ (by show W.heap.size ≠ _; omega)).trans q0)).trans h.z0
  · exact (World.frozen?_of_block (a := ⟨W.heap.size, 1, none⟩) ((one _ (by show W.heap.size ≠ _; omega)).trans q0)).trans h.z1
  · simpa [go_sem] using z2
  · have hv := h.vin y hy
    exact (one y (by omega)).trans ((keep y (by omega) (fun e => (h.kin y e).2 hy)).trans (h.part y hy))
  · exact (one _ (by omega)).trans (q1.trans h.res)
theorem nsl_kb {w w' : World} {S : Nat → Prop} {b off len : Nat} {l : List (Int × Int)} (h : NSl w (some ⟨b, off, none⟩) len l) (hk : KB S w w') (hS : ¬ S b) : NSl w' (some ⟨b, off, none⟩) len l := by
  refine ⟨h.1, ?_⟩
  rcases h.2 with h0 | ⟨b', off', e, hlt, hc⟩
  · exact .inl h0
  · cases e
    exact .inr ⟨b, off, rfl, Nat.lt_of_lt_of_le hlt hk.size, fun i hi => ⟨(hk.cell (p := ⟨b, off + i * 2, none⟩) hlt hS).trans (hc i hi).1, (hk.cell (p := ⟨b, off + i * 2 + 1, none⟩) hlt hS).trans (hc i hi).2⟩⟩
theorem bind_kb {w w' : World} {S : Nat → Prop} {b : Option (List Int)} {ba : Option Addr} {bl : Nat} (h : BindIs w b ba bl) (hk : KB S w w') (hS : ∀ x, (Value.slice ba bl bl).ownBlock = some x → ¬ S x) : BindIs w' b ba bl := by
  rcases h with h | ⟨bs, h1, h2, h3⟩
  · exact .inl h
  · exact .inr ⟨bs, h1, h2, sl_block h3 (fun x hx hl => hk.block x hl (hS x (by rw [own_slice ba _ _ _ _]; exact hx))) hk.size⟩
theorem own_apart {W : World} {s : Bool} {S T : Nat → Prop} {va vb : Value} {g : GS} (h : GOwn W s S va vb g) (hT : ∀ b, b < W.heap.size → S b → T b) : GOwn W s T va vb g := h.sets hT
set_option maxHeartbeats 6400000 in
set_option maxRecDepth 20000 in
theorem l6Add_node {t : List (Int × Int)} {q : Int} (hp : pile t 0 = some q) (b : Option (List Int)) (tb to tl tc : Nat) (ba : Option Addr) (bl bc : Nat) (k : Nat) (hk : k < tl) (ht40 : tl ≤ 40) (W : World) (S : Nat → Prop) (va vb : Value) (g : GS)
    (hN : NSl W (some ⟨tb, to, none⟩) tl t) (hG : GOwn W false S va vb g) (hg : GoodG g) (hB : BOk b g t) (hbi : BindIs W b ba bl) (hnb : b = none ∨ (t.getD k (0, 0)).1 ≠ 2) (hm : g.1.length + (k + 1 - start t k) ≤ 900) (hSt : ¬ S tb) (hSb : ∀ x, (Value.slice ba bl bl).ownBlock = some x → ¬ S x) (hSb0 : ∀ x, (Value.slice ba bl bl).ownBlock = some x → x < W.heap.size)
    (IH : ∀ j, j < k → ∀ (W' : World) (S' : Nat → Prop) (va' vb' : Value) (g' : GS), NSl W' (some ⟨tb, to, none⟩) tl t → GOwn W' false S' va' vb' g' → GoodG g' → BOk b g' t → BindIs W' b ba bl → g'.1.length + (j + 1 - start t j) ≤ 900 → ¬ S' tb → (∀ x, (Value.slice ba bl bl).ownBlock = some x → ¬ S' x) → (∀ x, (Value.slice ba bl bl).ownBlock = some x → x < W'.heap.size) → Calls Tryz.prog 72 #[.agg #[va', vb'], .slice (some ⟨tb, to, none⟩) tl tc, .int .i64 (j : Int), .slice ba bl bc] W' (AddR W' S' (treeA b t g' j))) :
    Calls Tryz.prog 72 #[.agg #[va, vb], .slice (some ⟨tb, to, none⟩) tl tc, .int .i64 (k : Int), .slice ba bl bc] W (AddR W S (treeA b t g k)) := by
  obtain ⟨i0, hi, hz0, hz1, hz2⟩ := info_parts infoInt
  have hll := hN.1
  obtain ⟨ga, ca, gb, cb, rfl, rfl, _, _⟩ := hG.reads
  obtain ⟨h1, h2⟩ := cnt_step hp k (by omega)
  obtain ⟨a1, a2, a3, _⟩ := fits_iff _ _ _ _ h1
  obtain ⟨b', off', e, hbl, hc⟩ := hN.at (by omega)
  cases e
  have c1 := (hc k hk).1
  have c2 := (hc k hk).2
  obtain ⟨m, hm0⟩ : ∃ m : Nat, ar (t.getD k (0, 0)).1 = m := ⟨(ar (t.getD k (0, 0)).1).toNat, by omega⟩
  have hm3 := (ar_range (t.getD k (0, 0)).1).2
  have hm3' : m ≤ 3 := by omega
  have hstl := start_le hp k (show k < t.length by omega)
  have ch := chain_of hp (show k < t.length by omega)
  have HPt : Hid (∀ W', NSl W' (some ⟨tb, to, none⟩) tl t → Calls Tryz.prog 70 #[.slice (some ⟨tb, to, none⟩) tl tc, .int .i64 (k : Int)] W' fun e w' => ∃ v : Value, e = .returned v ∧ w'.ownsRow W'.heap.size 3 1 v (ar (t.getD k (0, 0)).1).toNat (ints (roots t (ar (t.getD k (0, 0)).1).toNat k)) ∧ Below W'.heap.size W' w') := fun W' hW' => parts_any hp _ tl tc W' hW' (by omega) k hk
  -- plain facts on the parts
  have HK0 := (show Hid _ from kidsA_zero hp b g (show k < t.length by omega))
  have HKs : Hid (∀ (j : Nat) (g1 : GS) (ks : List Int), j < m → kidsA b t g k j = (g1, ks) → ∀ (g2 : GS) (c : Int), treeA b t g1 ((roots t m k).getD j 0) = (g2, [c]) → kidsA b t g k (j + 1) = (g2, ks ++ [c])) := fun j g1 ks hj e1 g2 c e2 => by
    have := kidsA_succ hp b g (show k < t.length by omega) (j := j) (by rw [hm0]; simpa using hj) e1 (g2 := g2) (c := c)
    rw [hm0, Int.toNat_natCast] at this
    exact this e2
  have HKn : Hid (∀ (g1 : GS) (ks : List Int), kidsA b t g k m = (g1, ks) → treeA b t g k = ((putL g1 ((t.getD k (0, 0)).1, (t.getD k (0, 0)).2, ks)).1, [(putL g1 ((t.getD k (0, 0)).1, (t.getD k (0, 0)).2, ks)).2]) ∧ ks.length = m) := fun g1 ks e => by
    have := treeA_node hp b g (show k < t.length by omega) (g1 := g1) (ks := ks) (by rw [hm0, Int.toNat_natCast]; exact e)
    rw [hm0, Int.toNat_natCast] at this
    have hcl : classA b g1 (t.getD k (0, 0)) ks = putL g1 ((t.getD k (0, 0)).1, (t.getD k (0, 0)).2, ks) := by
      unfold classA
      rcases hnb with e2 | e2
      · rw [e2]
      · cases b with
        | none => rfl
        | some bs => simp only; rw [if_neg e2]
    rw [hcl] at this
    exact this
  have HGd : Hid (∀ (j : Nat) (g1 : GS) (ks : List Int), j ≤ m → kidsA b t g k j = (g1, ks) → GoodG g1 ∧ (∀ c ∈ ks, IsCl g1 c) ∧ BOk b g1 t ∧ g1.1.length ≤ g.1.length + (endAt t m k j - start t k) ∧ ks.length = j) := fun j g1 ks hj e => by
    have he : endAt t (ar (t.getD k (0, 0)).1).toNat k j ≤ t.length := by
      rcases Nat.eq_zero_or_pos j with h0 | h0
      · rw [h0, ch.2.1]; omega
      · have := ch.2.2 (j - 1) (by rw [hm0]; simp; omega)
        have e' : endAt t (ar (t.getD k (0, 0)).1).toNat k j = (roots t (ar (t.getD k (0, 0)).1).toNat k).getD (j - 1) 0 + 1 := by unfold endAt; rw [if_neg (by omega)]
        omega
    have := kidsA_good hp hg hB (show k < t.length by omega) (j := j) (by rw [hm0]; simpa using hj) e he
    rw [hm0, Int.toNat_natCast] at this
    exact this
  have HRt : Hid (∀ j, j < m → (roots t m k).getD j 0 < k ∧ start t ((roots t m k).getD j 0) = endAt t m k j ∧ endAt t m k j ≤ (roots t m k).getD j 0 ∧ endAt t m k (j + 1) = (roots t m k).getD j 0 + 1 ∧ start t k ≤ endAt t m k j) := fun j hj => by
    rw [hm0, Int.toNat_natCast] at ch
    have := ch.2.2 j hj
    have hge := endAt_ge hp (show k < t.length by omega) j (by rw [hm0]; simp; omega)
    rw [hm0, Int.toNat_natCast] at hge
    exact ⟨this.2.2, this.1, this.2.1, by unfold endAt; rw [if_neg (by omega)]; rfl, hge⟩
  rw [hm0, Int.toNat_natCast] at HPt
  have HEm : Hid (endAt t m k m = k) := by
    have := ch.1
    rw [hm0, Int.toNat_natCast] at this
    exact this
  -- the boxes
  obtain ⟨x, hx⟩ : ∃ x, t.getD k (0, 0) = x := ⟨_, rfl⟩
  rw [hx] at c1 c2 HKn hnb
  obtain ⟨xo, xn⟩ := x
  simp only at c1 c2 HKn hnb
  obtain ⟨W1, hW1⟩ : ∃ W1, (W.alloc (.cells #[.slice ga g.1.length ca, .slice gb g.2.length cb] 36)).alloc (.cells #[.slice none 0 0, .slice none 0 0] 36) = W1 := ⟨_, rfl⟩
  have hb1 : Below W.heap.size W W1 := by rw [← hW1]; exact ((Below.refl _ _).alloc (Nat.le_refl _) _).alloc (by simp) _
  have hs1 : W1.heap.size = W.heap.size + 2 := by rw [← hW1]; simp
  have n0 : W1.cell? ⟨W.heap.size, 0, none⟩ = some (.slice ga g.1.length ca) := by rw [← hW1]; simp [go_sem]
  have n1 : W1.cell? ⟨W.heap.size, 1, none⟩ = some (.slice gb g.2.length cb) := by rw [← hW1]; simp [go_sem]
  have r0 : W1.cell? ⟨W.heap.size + 1, 0, none⟩ = some (.slice none 0 0) := by rw [← hW1]; simp [go_sem]
  have r1 : W1.cell? ⟨W.heap.size + 1, 1, none⟩ = some (.slice none 0 0) := by rw [← hW1]; simp [go_sem]
  have f0 : W1.frozen? ⟨W.heap.size, 0, none⟩ = false := by rw [← hW1]; simp [go_sem]
  have f1 : W1.frozen? ⟨W.heap.size, 1, none⟩ = false := by rw [← hW1]; simp [go_sem]
  have f2 : W1.frozen? ⟨W.heap.size + 1, 0, none⟩ = false := by rw [← hW1]; simp [go_sem]
  have f3 : W1.frozen? ⟨W.heap.size + 1, 1, none⟩ = false := by rw [← hW1]; simp [go_sem]
  have hkl : (k : Int) < tl := by omega
  have t1 : W1.cell? ⟨tb, to + k * 2, none⟩ = some (.int .i64 xo) := (hb1.cell (p := ⟨tb, to + k * 2, none⟩) hbl).trans c1
  have t2 : W1.cell? ⟨tb, to + k * 2 + 1, none⟩ = some (.int .i64 xn) := (hb1.cell (p := ⟨tb, to + k * 2 + 1, none⟩) hbl).trans c2
  have hguard : (if xo == 2 then decide ((0 : Int) < bl) else false) = false := by
    rcases hnb with e | e
    · rcases hbi with ⟨_, h0⟩ | ⟨bs, h0, _⟩
      · rw [h0]; simp
      · rw [e] at h0; cases h0
    · rw [if_neg (by simpa using e)]
  have hq : (xo == 2) = false ∨ ((xo == 2) = true ∧ ¬ (0 : Int) < (bl : Int)) := by
    rcases hnb with e | e
    · rcases hbi with ⟨_, h0⟩ | ⟨bs, h0, _⟩
      · by_cases e2 : xo = 2
        · exact .inr ⟨by simpa using e2, by omega⟩
        · exact .inl (by simpa using e2)
      · rw [e] at h0; cases h0
    · exact .inl (by simpa using e)
  have hlt0 : tb < W1.heap.size := by omega
  have sD : W1.drew.cell? ⟨tb, to + k * 2, none⟩ = some (.int .i64 xo) ∧ W1.drew.cell? ⟨tb, to + k * 2 + 1, none⟩ = some (.int .i64 xn) := ⟨t1, t2⟩
  have sA : ∀ o, (W1.drew.alloc o).cell? ⟨tb, to + k * 2, none⟩ = some (.int .i64 xo) ∧ (W1.drew.alloc o).cell? ⟨tb, to + k * 2 + 1, none⟩ = some (.int .i64 xn) := fun o => by
    have hb : Below W1.heap.size W1 (W1.drew.alloc o) := (below_drawn (Below.refl _ _) 1).alloc (Nat.le_refl _) o
    exact ⟨(hb.cell (p := ⟨tb, to + k * 2, none⟩) hlt0).trans t1, (hb.cell (p := ⟨tb, to + k * 2 + 1, none⟩) hlt0).trans t2⟩
  obtain ⟨hqa⟩ : Nonempty (Hid (g.1.length = g.1.length)) := ⟨rfl⟩
  clear hc c1 c2 hguard
  have hfull : GOwn W false S (.slice ga g.1.length ca) (.slice gb g.2.length cb) g := hG
  obtain ⟨W2, hW2⟩ : ∃ W2, (W1.alloc (.cells #[.int .i64 xo, .int .i64 xn, .slice none 0 0] 80)).drew = W2 := ⟨_, rfl⟩
  have hb2 : Below W1.heap.size W1 W2 := by rw [← hW2]; exact ((Below.refl _ _).alloc (Nat.le_refl _) _).drew
  have hs2 : W2.heap.size = W.heap.size + 3 := by rw [← hW2]; show (W1.alloc _).heap.size = _; simp; omega
  have hB2 : Below W.heap.size W W2 := hb1.trans (hb2.mono hb1.size)
  have o0 : W2.cell? ⟨W.heap.size + 2, 0, none⟩ = some (.int .i64 xo) := by rw [← hW2, ← hs1]; simp [go_sem]
  have o1 : W2.cell? ⟨W.heap.size + 2, 1, none⟩ = some (.int .i64 xn) := by rw [← hW2, ← hs1]; simp [go_sem]
  have o2 : W2.cell? ⟨W.heap.size + 2, 2, none⟩ = some (.slice none 0 0) := by rw [← hW2, ← hs1]; simp [go_sem]
  have o3 : W2.frozen? ⟨W.heap.size + 2, 2, none⟩ = false := by rw [← hW2, ← hs1]; simp [go_sem]
  have HP2 := (show Hid _ from HPt.out W2 (hN.keep hB2))
  have HJ0 : Hid (∀ (w3 : World) (v : Value), w3.ownsRow W2.heap.size 3 1 v m (ints (roots t m k)) → Below W2.heap.size W2 w3 → LoopJ W w3 w3 S v g (.slice ga g.1.length ca) (.slice gb g.2.length cb) (.slice none 0 0) [] xo xn ∧ w3.cell? ⟨W.heap.size + 1, 0, none⟩ = some (.slice none 0 0) ∧ w3.cell? ⟨W.heap.size + 1, 1, none⟩ = some (.slice none 0 0) ∧ w3.frozen? ⟨W.heap.size + 1, 0, none⟩ = false ∧ w3.frozen? ⟨W.heap.size + 1, 1, none⟩ = false) := fun w3 v hv hb3 => by
    have hB3 : Below W.heap.size W w3 := hB2.trans (hb3.mono hB2.size)
    have hB13 : Below W1.heap.size W1 w3 := hb2.trans (hb3.mono hb2.size)
    have hs3 := hb3.size
    have hvl : ∀ y, v.ownBlock = some y → W.heap.size + 3 ≤ y ∧ y < w3.heap.size := fun y hy => by have := hv.lt y hy; exact ⟨by omega, this.2⟩
    refine ⟨⟨(hfull.sets (fun b hl hb => ⟨.inl hb, by omega, by omega, by omega, fun e => by have := (hvl b e).1; omega, fun e => by cases e⟩)).keep hB3, World.ownsRow_nil _ _ _ _, (fun y hy => by cases hy), hvl, KB.of hB3, (hB13.cell (p := ⟨W.heap.size, 0, none⟩) (by show W.heap.size < _; omega)).trans n0, (hB13.cell (p := ⟨W.heap.size, 1, none⟩) (by show W.heap.size < _; omega)).trans n1, (hb3.cell (p := ⟨W.heap.size + 2, 0, none⟩) (by show W.heap.size + 2 < _; omega)).trans o0, (hb3.cell (p := ⟨W.heap.size + 2, 1, none⟩) (by show W.heap.size + 2 < _; omega)).trans o1, (hb3.cell (p := ⟨W.heap.size + 2, 2, none⟩) (by show W.heap.size + 2 < _; omega)).trans o2, (hB13.frozen (p := ⟨W.heap.size, 0, none⟩) (by show W.heap.size < _; omega)).trans f0, (hB13.frozen (p := ⟨W.heap.size, 1, none⟩) (by show W.heap.size < _; omega)).trans f1, (hb3.frozen (p := ⟨W.heap.size + 2, 2, none⟩) (by show W.heap.size + 2 < _; omega)).trans o3, fun _ _ => rfl, rfl, Nat.le_refl _, by omega⟩, (hB13.cell (p := ⟨W.heap.size + 1, 0, none⟩) (by show W.heap.size + 1 < _; omega)).trans r0, (hB13.cell (p := ⟨W.heap.size + 1, 1, none⟩) (by show W.heap.size + 1 < _; omega)).trans r1, (hB13.frozen (p := ⟨W.heap.size + 1, 0, none⟩) (by show W.heap.size + 1 < _; omega)).trans f2, (hB13.frozen (p := ⟨W.heap.size + 1, 1, none⟩) (by show W.heap.size + 1 < _; omega)).trans f3⟩
  -- one part more
  have HST : Hid (∀ (w3 wr : World) (v : Value) (j : Nat) (g1 : GS) (ks : List Int) (va' vb' kv : Value), j < m → w3.ownsRow W2.heap.size 3 1 v m (ints (roots t m k)) → kidsA b t g k j = (g1, ks) → LoopJ W w3 wr S v g1 va' vb' kv ks xo xn →
      Calls Tryz.prog 72 #[.agg #[va', vb'], .slice (some ⟨tb, to, none⟩) tl tc, .int .i64 (((roots t m k).getD j 0 : Nat) : Int), .slice ba bl bc] wr (AddR wr (fun y => (S y ∨ W.heap.size + 3 ≤ y) ∧ y ≠ W.heap.size ∧ y ≠ W.heap.size + 1 ∧ y ≠ W.heap.size + 2 ∧ v.ownBlock ≠ some y ∧ kv.ownBlock ≠ some y) (treeA b t g1 ((roots t m k).getD j 0)))) := fun w3 wr v j g1 ks va' vb' kv hj hv hk hJ => by
    obtain ⟨d1, d2, d3, d4, d5⟩ := HRt.out j hj
    obtain ⟨e1, e2, e3, e4, e5⟩ := HGd.out j g1 ks (by omega) hk
    refine IH _ d1 wr _ va' vb' g1 (nsl_kb hN hJ.kb hSt) hJ.own e1 e3 (bind_kb hbi hJ.kb hSb) (by rw [d2]; omega) (fun h => ?_) (fun x hx h => ?_) (fun x hx => ?_)
    · rcases h.1 with h | h
      · exact hSt h
      · omega
    · rcases h.1 with h' | h'
      · exact hSb x hx h'
      · rcases hbi with ⟨_, h0⟩ | ⟨bs, _, h4, hs⟩
        · have := hSb0 x hx; omega
        · have := hSb0 x hx; omega
    · exact Nat.lt_of_lt_of_le (hSb0 x hx) hJ.kb.size
  have HS1 := (show Hid _ from hs1)
  have HW2 := (show Hid _ from hW2)
  clear hG hfull hN hbi hB hg hnb IH hs1 hW2 hs2
  rcases hq with hq | ⟨hq, hq2⟩
  · go_enter Tryz.func72, Tryz.ntmps72
    go_wp2_with fail
    (try rw [hW1])
    go_region_held3 (fun w' => w'.cell? ⟨tb, to + k * 2, none⟩ = some (.int .i64 xo) ∧ w'.cell? ⟨tb, to + k * 2 + 1, none⟩ = some (.int .i64 xn))
      (first | assumption | exact sA _)
      (fail)
    (try rw [HW2.out])
    (try rw [HS1.out])
    clear hW1 HW2 sA sD t1 t2 HS1
    go_wp2_with fail
    refine Calls.mono HP2.out ?_
    rintro e w3 ⟨v, rfl, hv, hb3⟩
    obtain ⟨pa, pc, rfl, _⟩ := row_slice hv
    obtain ⟨hJ0, y0, y1, y2, y3⟩ := HJ0.out w3 _ hv hb3
    have HJ := (show Hid _ from hJ0)
    have HV := (show Hid _ from And.intro hv (And.intro y0 (And.intro y1 (And.intro y2 y3))))
    clear HP2 HJ0 hJ0 hv hb3 y0 y1 y2 y3
    go_wp2_with fail
    go_loopw [54] (fun i wr => ∃ (j : Nat) (g1 : GS) (ks : List Int) (aj : Option Addr) (caj : Nat) (bj : Option Addr) (cbj : Nat) (kj : Option Addr) (kcj : Nat), j ≤ m ∧ i = .int .i64 j ∧ Hid (kidsA b t g k j = (g1, ks) ∧ ks.length = j) ∧ Hid (LoopJ W w3 wr S (.slice pa m pc) g1 (.slice aj g1.1.length caj) (.slice bj g1.2.length cbj) (.slice kj j kcj) ks xo xn)) (fun i _ => m - (intOf i).toNat)
    case atStart => exact ⟨0, g, [], ga, ca, gb, cb, none, 0, Nat.zero_le _, rfl, ⟨HK0.out, rfl⟩, HJ.out⟩
    case round =>
      obtain ⟨j, g1, ks, aj, caj, bj, cbj, kj, kcj, hj, rfl, hKA, hJ⟩ := hrel
      obtain ⟨wo, rfl⟩ : ∃ x, x = wr := ⟨_, rfl⟩
      clear HJ
      by_cases hlt : j < m
      · have HC := (show Hid _ from HST.out w3 wo _ j g1 ks _ _ _ hlt HV.out.1 hKA.out.1 hJ.out)
        obtain ⟨gp, cp, e, hgl, hcp⟩ := own_row HV.out.1 (by omega)
        cases e
        have cj : wo.cell? ⟨gp, j, none⟩ = some (.int .i64 (((roots t m k).getD j 0 : Nat) : Int)) := (World.cell?_of_block (a := ⟨gp, j, none⟩) (hJ.out.part gp rfl)).trans (hcp j hlt)
        have d0 := hJ.out.c0
        have d1 := hJ.out.c1
        have hjm : (j : Int) < m := by omega
        obtain ⟨r, hr⟩ : ∃ r, (roots t m k).getD j 0 = r := ⟨_, rfl⟩
        rw [hr] at HC cj
        have HR := (show Hid _ from hr)
        clear hr hcp
        go_wp2_with fail
        refine Calls.mono HC.out ?_
        rintro e w4 ⟨va', vb', c, rfl, hrc, hG4, hk4⟩
        obtain ⟨a4, ca4, b4, cb4, rfl, rfl, _, _⟩ := hG4.reads
        have htree : treeA b t g1 ((roots t m k).getD j 0) = ((treeA b t g1 r).1, [c]) := by rw [HR.out, ← hrc]
        have hnk := HKs.out j g1 ks hlt hKA.out.1 _ c htree
        obtain ⟨g2, hg2⟩ : ∃ g2, (treeA b t g1 r).1 = g2 := ⟨_, rfl⟩
        rw [hg2] at hnk hG4 ⊢
        obtain ⟨u0, u1, u2, u3, hJ5⟩ := hJ.out.mid ⟨_, _, _, rfl⟩ ⟨_, _, _, rfl⟩ hG4 hk4 (.cells #[.slice a4 g2.1.length ca4, .slice b4 g2.2.length cb4] 36)
        obtain ⟨W5, hW5⟩ : ∃ W5, (((w4.alloc (.cells #[.slice a4 g2.1.length ca4, .slice b4 g2.2.length cb4] 36)).setCell ⟨W.heap.size, 0, none⟩ (.slice a4 g2.1.length ca4)).setCell ⟨W.heap.size, 1, none⟩ (.slice b4 g2.2.length cb4)) = W5 := ⟨_, rfl⟩
        rw [hW5] at hJ5
        have v2 := hJ5.x2
        have hnx := hJ5.next c
        rw [hKA.out.2] at hnx
        obtain ⟨hr6, hn6⟩ := hnx
        have HN6 := (show Hid _ from hn6)
        have HNK : Hid (kidsA b t g k (j + 1) = (g2, ks ++ [c]) ∧ (ks ++ [c]).length = j + 1) := ⟨hnk, by rw [List.length_append]; have := hKA.out.2; simp; omega⟩
        clear HC hG4 hk4 hrc htree hnk hn6 hJ5 hg2 hKA hJ d0 d1 cj
        go_wp2_with (at_builtin; refine wpList_append_own_at _ rfl _ _ 23 rfl 0 3 i0 (.int .i64 0) 1 8 Tryz.underlying23 hi hz0 hz1 hz2 rfl (by decide) _ _ _ rfl hr6 ⟨W5.heap.size, 0, none⟩ 1 1 [_] rfl rfl (cell_new1 _ _ _ _) (one_cell1 _ _) (by unfold maxLen; omega) (by omega) (Nat.zero_le _) ?_; intro kv' w6 k1 k2 _ k3; obtain ⟨k6, c6, rfl, _⟩ := row_slice k1; obtain ⟨u5, u6, hJ7⟩ := HN6.out w6 _ k1 k2 k3; have HJ7 := (show Hid _ from hJ7); clear hJ7 k1 k2 k3 hr6 HN6 u0 u1 u2 u3 v2 hW5)
        go_roundw
        case rel => exact ⟨j + 1, g2, ks ++ [c], a4, ca4, b4, cb4, k6, c6, by omega, by go_num, HNK, HJ7⟩
        case measure => simp [intOf]; omega
      · obtain rfl : j = m := by omega
        have HPu := (show Hid _ from l6Put_any (.slice aj g1.1.length caj) (.slice bj g1.2.length cbj) (.slice kj j kcj) g1 (xo, xn, ks) _ wo hJ.out.own (HGd.out j g1 ks (Nat.le_refl _) hKA.out.1).1 (by
          have hkd := hJ.out.kids
          have := kid_of (lo := 0) (l := ks) hkd (by have := hKA.out.2; omega)
          exact this.map (Nat.le_refl _) (fun _ _ _ => rfl) (fun y hy hl h0 h1 => h1.2.2.2.2.2 hy)) (by
          have := (HGd.out j g1 ks (Nat.le_refl _) hKA.out.1).2.2.2.1
          have := HEm.out
          omega))
        have HTn := (show Hid _ from (HKn.out g1 ks hKA.out.1).1)
        have d0 := hJ.out.c0
        have d1 := hJ.out.c1
        have d2 := hJ.out.x0
        have d3 := hJ.out.x1
        have d4 := hJ.out.x2
        have HX : Hid (∀ w' va' vb', GOwn w' false (fun b' => ((S b' ∨ W.heap.size + 3 ≤ b') ∧ b' ≠ W.heap.size ∧ b' ≠ W.heap.size + 1 ∧ b' ≠ W.heap.size + 2 ∧ (Value.slice pa j pc).ownBlock ≠ some b' ∧ (Value.slice kj j kcj).ownBlock ≠ some b') ∨ wo.heap.size ≤ b' ∨ (Value.slice kj j kcj).ownBlock = some b') va' vb' (putL g1 (xo, xn, ks)).1 → KB (fun y => (S y ∨ W.heap.size + 3 ≤ y) ∧ y ≠ W.heap.size ∧ y ≠ W.heap.size + 1 ∧ y ≠ W.heap.size + 2 ∧ (Value.slice pa j pc).ownBlock ≠ some y ∧ (Value.slice kj j kcj).ownBlock ≠ some y) wo w' →
            w'.cell? ⟨W.heap.size + 1, 0, none⟩ = some (.slice none 0 0) ∧ w'.cell? ⟨W.heap.size + 1, 1, none⟩ = some (.slice none 0 0) ∧ w'.frozen? ⟨W.heap.size + 1, 0, none⟩ = false ∧ w'.frozen? ⟨W.heap.size + 1, 1, none⟩ = false ∧ ∀ v0 v1, GOwn ((w'.setCell ⟨W.heap.size + 1, 0, none⟩ v0).setCell ⟨W.heap.size + 1, 1, none⟩ v1) false (fun b' => S b' ∨ W.heap.size ≤ b') va' vb' (putL g1 (xo, xn, ks)).1 ∧ KB S W ((w'.setCell ⟨W.heap.size + 1, 0, none⟩ v0).setCell ⟨W.heap.size + 1, 1, none⟩ v1)) := fun w' va' vb' hg' hk' => by
          have hsz := hJ.out.size
          have hbig := hJ.out.big
          have hb1' : w'.heap[W.heap.size + 1]? = w3.heap[W.heap.size + 1]? := (hk'.block _ (by omega) (fun h => h.2.2.1 rfl)).trans hJ.out.res
          obtain ⟨_, y0, y1, y2, y3⟩ := HV.out
          refine ⟨(World.cell?_of_block (a := ⟨W.heap.size + 1, 0, none⟩) hb1').trans y0, (World.cell?_of_block (a := ⟨W.heap.size + 1, 1, none⟩) hb1').trans y1, (World.frozen?_of_block (a := ⟨W.heap.size + 1, 0, none⟩) hb1').trans y2, (World.frozen?_of_block (a := ⟨W.heap.size + 1, 1, none⟩) hb1').trans y3, fun v0 v1 => ⟨hg'.map (by rw [setCell_size, setCell_size]; exact Nat.le_refl _) (fun b' hb' hl => ?_) (fun b' hl hb' => ?_), ?_⟩⟩
          · have hne : W.heap.size + 1 ≠ b' := fun e => by
              rcases hb' with h | h | h
              · exact h.2.2.1 e.symm
              · omega
              · have := (hJ.out.kin b' h).1; omega
            rw [setCell_block _ _ _ hne, setCell_block _ _ _ hne]
          · rcases hb' with h | h | h
            · rcases h.1 with h | h
              · exact .inl h
              · right; omega
            · right; omega
            · have := (hJ.out.kin b' h).1; right; omega
          · refine ((hJ.out.kb.trans hk' (fun b' hb' hs => ?_)).setCell (p := ⟨W.heap.size + 1, 0, none⟩) (fun h => absurd h (by show ¬ W.heap.size + 1 < W.heap.size; omega)) _).setCell (p := ⟨W.heap.size + 1, 1, none⟩) (fun h => absurd h (by show ¬ W.heap.size + 1 < W.heap.size; omega)) _
            rcases hs.1 with h | h
            · exact h
            · omega
        clear hJ hKA HKs HGd HRt HST HKn HV HEm HK0
        go_wp2_with fail
        refine Calls.mono HPu.out ?_
        rintro e w4 ⟨va', vb', rfl, hg4, hk4⟩
        obtain ⟨a4, ca4, b4, cb4, rfl, rfl, _, _⟩ := hg4.reads
        obtain ⟨u0, u1, u2, u3, hfin⟩ := HX.out w4 _ _ hg4 hk4
        have HFN := (show Hid _ from hfin)
        clear HPu HX hg4 hk4 hfin d0 d1 d2 d3 d4
        obtain ⟨PG, hPG⟩ : ∃ PG, putL g1 (xo, xn, ks) = PG := ⟨_, rfl⟩
        rw [hPG] at HFN HTn ⊢
        go_wp2
        refine bodyPost_ret (v := .tuple #[.agg #[.slice a4 PG.1.1.length ca4, .slice b4 PG.1.2.length cb4], .int .i64 PG.2]) ?_ ?_ ?_
        · simp [results, Tryz.results72, go_sem, *]
        · rfl
        · refine ⟨_, _, _, rfl, ?_, ?_, (HFN.out _ _).2⟩
          · rw [HTn.out]
          · rw [HTn.out]; exact (HFN.out _ _).1
  · go_enter Tryz.func72, Tryz.ntmps72
    go_wp2_with fail
    (try rw [hW1])
    go_region_held3 (fun w' => w'.cell? ⟨tb, to + k * 2, none⟩ = some (.int .i64 xo) ∧ w'.cell? ⟨tb, to + k * 2 + 1, none⟩ = some (.int .i64 xn))
      (first | assumption | exact sA _)
      (fail)
    (try rw [HW2.out])
    (try rw [HS1.out])
    clear hW1 HW2 sA sD t1 t2 HS1
    go_wp2_with fail
    refine Calls.mono HP2.out ?_
    rintro e w3 ⟨v, rfl, hv, hb3⟩
    obtain ⟨pa, pc, rfl, _⟩ := row_slice hv
    obtain ⟨hJ0, y0, y1, y2, y3⟩ := HJ0.out w3 _ hv hb3
    have HJ := (show Hid _ from hJ0)
    have HV := (show Hid _ from And.intro hv (And.intro y0 (And.intro y1 (And.intro y2 y3))))
    clear HP2 HJ0 hJ0 hv hb3 y0 y1 y2 y3
    go_wp2_with fail
    go_loopw [54] (fun i wr => ∃ (j : Nat) (g1 : GS) (ks : List Int) (aj : Option Addr) (caj : Nat) (bj : Option Addr) (cbj : Nat) (kj : Option Addr) (kcj : Nat), j ≤ m ∧ i = .int .i64 j ∧ Hid (kidsA b t g k j = (g1, ks) ∧ ks.length = j) ∧ Hid (LoopJ W w3 wr S (.slice pa m pc) g1 (.slice aj g1.1.length caj) (.slice bj g1.2.length cbj) (.slice kj j kcj) ks xo xn)) (fun i _ => m - (intOf i).toNat)
    case atStart => exact ⟨0, g, [], ga, ca, gb, cb, none, 0, Nat.zero_le _, rfl, ⟨HK0.out, rfl⟩, HJ.out⟩
    case round =>
      obtain ⟨j, g1, ks, aj, caj, bj, cbj, kj, kcj, hj, rfl, hKA, hJ⟩ := hrel
      obtain ⟨wo, rfl⟩ : ∃ x, x = wr := ⟨_, rfl⟩
      clear HJ
      by_cases hlt : j < m
      · have HC := (show Hid _ from HST.out w3 wo _ j g1 ks _ _ _ hlt HV.out.1 hKA.out.1 hJ.out)
        obtain ⟨gp, cp, e, hgl, hcp⟩ := own_row HV.out.1 (by omega)
        cases e
        have cj : wo.cell? ⟨gp, j, none⟩ = some (.int .i64 (((roots t m k).getD j 0 : Nat) : Int)) := (World.cell?_of_block (a := ⟨gp, j, none⟩) (hJ.out.part gp rfl)).trans (hcp j hlt)
        have d0 := hJ.out.c0
        have d1 := hJ.out.c1
        have hjm : (j : Int) < m := by omega
        obtain ⟨r, hr⟩ : ∃ r, (roots t m k).getD j 0 = r := ⟨_, rfl⟩
        rw [hr] at HC cj
        have HR := (show Hid _ from hr)
        clear hr hcp
        go_wp2_with fail
        refine Calls.mono HC.out ?_
        rintro e w4 ⟨va', vb', c, rfl, hrc, hG4, hk4⟩
        obtain ⟨a4, ca4, b4, cb4, rfl, rfl, _, _⟩ := hG4.reads
        have htree : treeA b t g1 ((roots t m k).getD j 0) = ((treeA b t g1 r).1, [c]) := by rw [HR.out, ← hrc]
        have hnk := HKs.out j g1 ks hlt hKA.out.1 _ c htree
        obtain ⟨g2, hg2⟩ : ∃ g2, (treeA b t g1 r).1 = g2 := ⟨_, rfl⟩
        rw [hg2] at hnk hG4 ⊢
        obtain ⟨u0, u1, u2, u3, hJ5⟩ := hJ.out.mid ⟨_, _, _, rfl⟩ ⟨_, _, _, rfl⟩ hG4 hk4 (.cells #[.slice a4 g2.1.length ca4, .slice b4 g2.2.length cb4] 36)
        obtain ⟨W5, hW5⟩ : ∃ W5, (((w4.alloc (.cells #[.slice a4 g2.1.length ca4, .slice b4 g2.2.length cb4] 36)).setCell ⟨W.heap.size, 0, none⟩ (.slice a4 g2.1.length ca4)).setCell ⟨W.heap.size, 1, none⟩ (.slice b4 g2.2.length cb4)) = W5 := ⟨_, rfl⟩
        rw [hW5] at hJ5
        have v2 := hJ5.x2
        have hnx := hJ5.next c
        rw [hKA.out.2] at hnx
        obtain ⟨hr6, hn6⟩ := hnx
        have HN6 := (show Hid _ from hn6)
        have HNK : Hid (kidsA b t g k (j + 1) = (g2, ks ++ [c]) ∧ (ks ++ [c]).length = j + 1) := ⟨hnk, by rw [List.length_append]; have := hKA.out.2; simp; omega⟩
        clear HC hG4 hk4 hrc htree hnk hn6 hJ5 hg2 hKA hJ d0 d1 cj
        go_wp2_with (at_builtin; refine wpList_append_own_at _ rfl _ _ 23 rfl 0 3 i0 (.int .i64 0) 1 8 Tryz.underlying23 hi hz0 hz1 hz2 rfl (by decide) _ _ _ rfl hr6 ⟨W5.heap.size, 0, none⟩ 1 1 [_] rfl rfl (cell_new1 _ _ _ _) (one_cell1 _ _) (by unfold maxLen; omega) (by omega) (Nat.zero_le _) ?_; intro kv' w6 k1 k2 _ k3; obtain ⟨k6, c6, rfl, _⟩ := row_slice k1; obtain ⟨u5, u6, hJ7⟩ := HN6.out w6 _ k1 k2 k3; have HJ7 := (show Hid _ from hJ7); clear hJ7 k1 k2 k3 hr6 HN6 u0 u1 u2 u3 v2 hW5)
        go_roundw
        case rel => exact ⟨j + 1, g2, ks ++ [c], a4, ca4, b4, cb4, k6, c6, by omega, by go_num, HNK, HJ7⟩
        case measure => simp [intOf]; omega
      · obtain rfl : j = m := by omega
        have HPu := (show Hid _ from l6Put_any (.slice aj g1.1.length caj) (.slice bj g1.2.length cbj) (.slice kj j kcj) g1 (xo, xn, ks) _ wo hJ.out.own (HGd.out j g1 ks (Nat.le_refl _) hKA.out.1).1 (by
          have hkd := hJ.out.kids
          have := kid_of (lo := 0) (l := ks) hkd (by have := hKA.out.2; omega)
          exact this.map (Nat.le_refl _) (fun _ _ _ => rfl) (fun y hy hl h0 h1 => h1.2.2.2.2.2 hy)) (by
          have := (HGd.out j g1 ks (Nat.le_refl _) hKA.out.1).2.2.2.1
          have := HEm.out
          omega))
        have HTn := (show Hid _ from (HKn.out g1 ks hKA.out.1).1)
        have d0 := hJ.out.c0
        have d1 := hJ.out.c1
        have d2 := hJ.out.x0
        have d3 := hJ.out.x1
        have d4 := hJ.out.x2
        have HX : Hid (∀ w' va' vb', GOwn w' false (fun b' => ((S b' ∨ W.heap.size + 3 ≤ b') ∧ b' ≠ W.heap.size ∧ b' ≠ W.heap.size + 1 ∧ b' ≠ W.heap.size + 2 ∧ (Value.slice pa j pc).ownBlock ≠ some b' ∧ (Value.slice kj j kcj).ownBlock ≠ some b') ∨ wo.heap.size ≤ b' ∨ (Value.slice kj j kcj).ownBlock = some b') va' vb' (putL g1 (xo, xn, ks)).1 → KB (fun y => (S y ∨ W.heap.size + 3 ≤ y) ∧ y ≠ W.heap.size ∧ y ≠ W.heap.size + 1 ∧ y ≠ W.heap.size + 2 ∧ (Value.slice pa j pc).ownBlock ≠ some y ∧ (Value.slice kj j kcj).ownBlock ≠ some y) wo w' →
            w'.cell? ⟨W.heap.size + 1, 0, none⟩ = some (.slice none 0 0) ∧ w'.cell? ⟨W.heap.size + 1, 1, none⟩ = some (.slice none 0 0) ∧ w'.frozen? ⟨W.heap.size + 1, 0, none⟩ = false ∧ w'.frozen? ⟨W.heap.size + 1, 1, none⟩ = false ∧ ∀ v0 v1, GOwn ((w'.setCell ⟨W.heap.size + 1, 0, none⟩ v0).setCell ⟨W.heap.size + 1, 1, none⟩ v1) false (fun b' => S b' ∨ W.heap.size ≤ b') va' vb' (putL g1 (xo, xn, ks)).1 ∧ KB S W ((w'.setCell ⟨W.heap.size + 1, 0, none⟩ v0).setCell ⟨W.heap.size + 1, 1, none⟩ v1)) := fun w' va' vb' hg' hk' => by
          have hsz := hJ.out.size
          have hbig := hJ.out.big
          have hb1' : w'.heap[W.heap.size + 1]? = w3.heap[W.heap.size + 1]? := (hk'.block _ (by omega) (fun h => h.2.2.1 rfl)).trans hJ.out.res
          obtain ⟨_, y0, y1, y2, y3⟩ := HV.out
          refine ⟨(World.cell?_of_block (a := ⟨W.heap.size + 1, 0, none⟩) hb1').trans y0, (World.cell?_of_block (a := ⟨W.heap.size + 1, 1, none⟩) hb1').trans y1, (World.frozen?_of_block (a := ⟨W.heap.size + 1, 0, none⟩) hb1').trans y2, (World.frozen?_of_block (a := ⟨W.heap.size + 1, 1, none⟩) hb1').trans y3, fun v0 v1 => ⟨hg'.map (by rw [setCell_size, setCell_size]; exact Nat.le_refl _) (fun b' hb' hl => ?_) (fun b' hl hb' => ?_), ?_⟩⟩
          · have hne : W.heap.size + 1 ≠ b' := fun e => by
              rcases hb' with h | h | h
              · exact h.2.2.1 e.symm
              · omega
              · have := (hJ.out.kin b' h).1; omega
            rw [setCell_block _ _ _ hne, setCell_block _ _ _ hne]
          · rcases hb' with h | h | h
            · rcases h.1 with h | h
              · exact .inl h
              · right; omega
            · right; omega
            · have := (hJ.out.kin b' h).1; right; omega
          · refine ((hJ.out.kb.trans hk' (fun b' hb' hs => ?_)).setCell (p := ⟨W.heap.size + 1, 0, none⟩) (fun h => absurd h (by show ¬ W.heap.size + 1 < W.heap.size; omega)) _).setCell (p := ⟨W.heap.size + 1, 1, none⟩) (fun h => absurd h (by show ¬ W.heap.size + 1 < W.heap.size; omega)) _
            rcases hs.1 with h | h
            · exact h
            · omega
        clear hJ hKA HKs HGd HRt HST HKn HV HEm HK0
        go_wp2_with fail
        refine Calls.mono HPu.out ?_
        rintro e w4 ⟨va', vb', rfl, hg4, hk4⟩
        obtain ⟨a4, ca4, b4, cb4, rfl, rfl, _, _⟩ := hg4.reads
        obtain ⟨u0, u1, u2, u3, hfin⟩ := HX.out w4 _ _ hg4 hk4
        have HFN := (show Hid _ from hfin)
        clear HPu HX hg4 hk4 hfin d0 d1 d2 d3 d4
        obtain ⟨PG, hPG⟩ : ∃ PG, putL g1 (xo, xn, ks) = PG := ⟨_, rfl⟩
        rw [hPG] at HFN HTn ⊢
        go_wp2
        refine bodyPost_ret (v := .tuple #[.agg #[.slice a4 PG.1.1.length ca4, .slice b4 PG.1.2.length cb4], .int .i64 PG.2]) ?_ ?_ ?_
        · simp [results, Tryz.results72, go_sem, *]
        · rfl
        · refine ⟨_, _, _, rfl, ?_, ?_, (HFN.out _ _).2⟩
          · rw [HTn.out]
          · rw [HTn.out]; exact (HFN.out _ _).1
set_option maxHeartbeats 1600000 in
set_option maxRecDepth 20000 in
theorem l6Add_var {t : List (Int × Int)} {q : Int} (hp : pile t 0 = some q) (bs : List Int) (tb to tl tc : Nat) (ba : Option Addr) (bc : Nat) (k : Nat) (hk : k < tl) (ht40 : tl ≤ 40) (W : World) (S : Nat → Prop) (va vb : Value) (g : GS)
    (hN : NSl W (some ⟨tb, to, none⟩) tl t) (hG : GOwn W false S va vb g) (hg : GoodG g) (hB : BOk (some bs) g t) (hbs : Sl W ba 4 bs) (hv : (t.getD k (0, 0)).1 = 2) :
    Calls Tryz.prog 72 #[.agg #[va, vb], .slice (some ⟨tb, to, none⟩) tl tc, .int .i64 (k : Int), .slice ba 4 bc] W (AddR W S (treeA (some bs) t g k)) := by
  have hll := hN.1
  obtain ⟨ga, ca, gb, cb, rfl, rfl, _, hL⟩ := hG.reads
  obtain ⟨h1, h2⟩ := cnt_step hp k (by omega)
  obtain ⟨a1, a2, a3, _⟩ := fits_iff _ _ _ _ h1
  obtain ⟨b', off', e, hbl, hc⟩ := hN.at (by omega)
  cases e
  have c1 := (hc k hk).1
  have c2 := (hc k hk).2
  have hmem : t.getD k (0, 0) ∈ t := by
    have : t.getD k (0, 0) = t[k]'(by omega) := by rw [List.getD_eq_getElem?_getD, List.getElem?_eq_getElem (by omega)]; rfl
    rw [this]; exact List.getElem_mem _
  have hcl := hB bs rfl _ hmem hv
  obtain ⟨z0, z4⟩ := a3 hv
  have hm0 : (ar (t.getD k (0, 0)).1).toNat = 0 := by rw [hv]; rfl
  have htr : treeA (some bs) t g k = (g, [bs.getD (t.getD k (0, 0)).2.toNat 0]) := by
    have := (treeA_node hp (some bs) g (show k < t.length by omega) (g1 := g) (ks := []) (by rw [hm0]; exact kidsA_zero hp (some bs) g (by omega))).1
    rw [this]
    unfold classA
    simp only [if_pos hv]
  rw [htr]
  obtain ⟨nv, hnv⟩ : ∃ nv : Nat, (t.getD k (0, 0)).2 = nv := ⟨(t.getD k (0, 0)).2.toNat, by omega⟩
  rw [hv] at c1
  rw [hnv] at c2 z4 hcl ⊢
  rw [Int.toNat_natCast] at hcl ⊢
  have hn4 : nv < 4 := by omega
  obtain ⟨bb, bo, rfl, hbb, hcb⟩ : ∃ b' off, ba = some ⟨b', off, none⟩ ∧ b' < W.heap.size ∧ ∀ i, i < 4 → W.cell? ⟨b', off + i, none⟩ = some (.int .i64 (bs.getD i 0)) := by
    rcases hbs.2 with h0 | h0
    · omega
    · exact h0
  have cb1 := hcb nv hn4
  obtain ⟨cl, hcl0⟩ : ∃ cl : Nat, bs.getD nv 0 = cl := ⟨(bs.getD nv 0).toNat, by have := hcl.1; omega⟩
  rw [hcl0] at cb1 hcl ⊢
  have hclt : cl < g.2.length := by have := hcl.2.1; have := hg.2.1; omega
  obtain ⟨gp, go, rfl, hgl, hgc⟩ : ∃ b' off, gb = some ⟨b', off, none⟩ ∧ b' < W.heap.size ∧ ∀ i, i < g.2.length → W.cell? ⟨b', off + i, none⟩ = some (.int .i64 (g.2.getD i 0)) := by
    rcases hL.2 with h0 | h0
    · omega
    · exact h0
  have cg := hgc cl hclt
  have hcl2 := hcl.2.2
  rw [Int.toNat_natCast] at hcl2
  rw [hcl2] at cg
  obtain ⟨W1, hW1⟩ : ∃ W1, (W.alloc (.cells #[.slice ga g.1.length ca, .slice (some ⟨gp, go, none⟩) g.2.length cb] 36)).alloc (.cells #[.slice none 0 0, .slice none 0 0] 36) = W1 := ⟨_, rfl⟩
  have hb1 : Below W.heap.size W W1 := by rw [← hW1]; exact ((Below.refl _ _).alloc (Nat.le_refl _) _).alloc (by simp) _
  have hs1 : W1.heap.size = W.heap.size + 2 := by rw [← hW1]; simp
  have n0 : W1.cell? ⟨W.heap.size, 0, none⟩ = some (.slice ga g.1.length ca) := by rw [← hW1]; simp [go_sem]
  have n1 : W1.cell? ⟨W.heap.size, 1, none⟩ = some (.slice (some ⟨gp, go, none⟩) g.2.length cb) := by rw [← hW1]; simp [go_sem]
  have r0 : W1.cell? ⟨W.heap.size + 1, 0, none⟩ = some (.slice none 0 0) := by rw [← hW1]; simp [go_sem]
  have r1 : W1.cell? ⟨W.heap.size + 1, 1, none⟩ = some (.slice none 0 0) := by rw [← hW1]; simp [go_sem]
  have f2 : W1.frozen? ⟨W.heap.size + 1, 0, none⟩ = false := by rw [← hW1]; simp [go_sem]
  have f3 : W1.frozen? ⟨W.heap.size + 1, 1, none⟩ = false := by rw [← hW1]; simp [go_sem]
  have t1 := (hb1.cell (p := ⟨tb, to + k * 2, none⟩) hbl).trans c1
  have t2 := (hb1.cell (p := ⟨tb, to + k * 2 + 1, none⟩) hbl).trans c2
  have t3 := (hb1.cell (p := ⟨bb, bo + nv, none⟩) hbb).trans cb1
  have t4 := (hb1.cell (p := ⟨gp, go + cl, none⟩) hgl).trans cg
  have hkl : (k : Int) < tl := by omega
  have hn4' : (nv : Int) < 4 := by omega
  have hclt' : (cl : Int) < g.2.length := by omega
  have HX : Hid (∀ v0 v1, GOwn ((W1.setCell ⟨W.heap.size + 1, 0, none⟩ v0).setCell ⟨W.heap.size + 1, 1, none⟩ v1) false (fun b' => S b' ∨ W.heap.size ≤ b') (.slice ga g.1.length ca) (.slice (some ⟨gp, go, none⟩) g.2.length cb) g ∧ KB S W ((W1.setCell ⟨W.heap.size + 1, 0, none⟩ v0).setCell ⟨W.heap.size + 1, 1, none⟩ v1)) := fun v0 v1 => by
    have hB : Below W.heap.size W ((W1.setCell ⟨W.heap.size + 1, 0, none⟩ v0).setCell ⟨W.heap.size + 1, 1, none⟩ v1) := (hb1.setCell (by show W.heap.size ≤ W.heap.size + 1; omega) _).setCell (by show W.heap.size ≤ W.heap.size + 1; omega) _
    exact ⟨(hG.keep hB).sets (fun b _ h => .inl h), KB.of hB⟩
  clear hG hL hN hc c1 c2 hcb hgc hbs cb1 cg hcl hcl2 hb1 hs1 h1 h2 a2 a1 a3 hv hnv hcl0 htr hm0 hmem
  go_enter Tryz.func72, Tryz.ntmps72
  go_wp2_with fail
  (try rw [hW1])
  clear hW1
  go_region
  all_goals
    go_wp2
    refine bodyPost_ret (v := .tuple #[.agg #[.slice ga g.1.length ca, .slice (some ⟨gp, go, none⟩) g.2.length cb], .int .i64 (cl : Int)]) ?_ ?_ ?_
    · simp [results, Tryz.results72, go_sem, *]
    · rfl
    · have hR := HX.out (.slice ga g.1.length ca) (.slice (some ⟨gp, go, none⟩) g.2.length cb)
      exact ⟨_, _, _, rfl, rfl, hR.1, ⟨hR.2.os, hR.2.tape, hR.2.output, hR.2.size, hR.2.block⟩⟩
theorem l6Add_any {t : List (Int × Int)} {q : Int} (hp : pile t 0 = some q) (b : Option (List Int)) (tb to tl tc : Nat) (ba : Option Addr) (bl bc : Nat) (ht40 : tl ≤ 40) : ∀ (k : Nat), k < tl → ∀ (W : World) (S : Nat → Prop) (va vb : Value) (g : GS),
    NSl W (some ⟨tb, to, none⟩) tl t → GOwn W false S va vb g → GoodG g → BOk b g t → BindIs W b ba bl → g.1.length + (k + 1 - start t k) ≤ 900 → ¬ S tb → (∀ x, (Value.slice ba bl bl).ownBlock = some x → ¬ S x) → (∀ x, (Value.slice ba bl bl).ownBlock = some x → x < W.heap.size) →
    Calls Tryz.prog 72 #[.agg #[va, vb], .slice (some ⟨tb, to, none⟩) tl tc, .int .i64 (k : Int), .slice ba bl bc] W (AddR W S (treeA b t g k)) := by
  intro k
  induction k using Nat.strongRecOn with
  | _ k ih =>
    intro hk W S va vb g hN hG hg hB hbi hm hSt hSb hSb0
    have go : (b = none ∨ (t.getD k (0, 0)).1 ≠ 2) → Calls Tryz.prog 72 #[.agg #[va, vb], .slice (some ⟨tb, to, none⟩) tl tc, .int .i64 (k : Int), .slice ba bl bc] W (AddR W S (treeA b t g k)) := fun hnb =>
      l6Add_node hp b tb to tl tc ba bl bc k hk ht40 W S va vb g hN hG hg hB hbi hnb hm hSt hSb hSb0 (fun j hj W' S' va' vb' g' a1 a2 a3 a4 a5 a6 a7 a8 a9 => ih j hj (by omega) W' S' va' vb' g' a1 a2 a3 a4 a5 a6 a7 a8 a9)
    rcases hbi with ⟨h0, h1⟩ | ⟨bs, h0, h1, h2⟩
    · exact go (.inl h0)
    · by_cases hv : (t.getD k (0, 0)).1 = 2
      · subst h0
        subst h1
        exact l6Add_var hp bs tb to tl tc ba bc k hk ht40 W S va vb g hN hG hg hB h2 hv
      · exact go (.inr hv)
end Go.Proofs.YtobgkfpjokfbaaaGreatDoor
namespace Go.Proofs.YtobgkfpjokfbaaaGreatDoor
open Go.ChangeShapes Go.WideShapes Go.ChangeAt Go.RowKit
set_option linter.unusedVariables false

set_option maxHeartbeats 3200000 in
set_option maxRecDepth 20000 in
theorem clsP_any (s : Nat) (cls : Cls) (hK : Keeps cls) (R : World → (Nat → Prop) → GS → Prop) (hRs : ∀ (W W' : World) S S' g, R W S g → W.heap.size ≤ W'.heap.size → (∀ b, S b → b < W.heap.size → W'.heap[b]? = W.heap[b]?) → (∀ b, b < W.heap.size → S b → S' b) → R W' S' g)
    (hcall : ∀ (W : World) S g n (a : Option Addr) (m cap : Nat) (kids : List Int), R W S g → GoodG g → g.1.length ≤ 120 → Sl W a m kids → (∀ x, (Value.slice a m m).ownBlock = some x → ¬ S x) → NFits g n kids →
      Calls Tryz.prog 59 #[.pointer (some ⟨s, 0, none⟩), .agg #[.int .i64 n.1, .int .i64 n.2, .slice a m cap]] W fun e w' => e = .returned (.tuple #[.int .i64 (((cls g n kids).map (fun r => r.2)).getD 0), .bool (cls g n kids).isSome]) ∧ KB S W w' ∧ ∀ r, cls g n kids = some r → R w' (fun b => S b ∨ W.heap.size ≤ b) r.1)
    {t : List (Int × Int)} (hp : pile t 0 = some 1) (hI : ∀ k, k < t.length → InI (t.getD k (0, 0)).2) (tb to tl tc : Nat) (ht40 : tl ≤ 40) (ht1 : 1 ≤ tl) (w : World) (S : Nat → Prop) (g : GS) (hN : NSl w (some ⟨tb, to, none⟩) tl t) (hR : R w S g) (hg : GoodG g) (h120 : g.1.length ≤ 120) (hSt : ¬ S tb) (hT : ∀ W, KB S w W → Tab W) :
    Calls Tryz.prog 55 #[.slice (some ⟨tb, to, none⟩) tl tc, .func (.func 59) #[.pointer (some ⟨s, 0, none⟩)] #[]] w fun e w' => e = .returned (.tuple #[.int .i64 (((runO cls t (g, [])).map (fun r => r.2.getD 0 0)).getD 0), .bool (runO cls t (g, [])).isSome]) ∧ KB S w w' ∧ AllR (runO cls t (g, [])) (fun g' => R w' (fun b => S b ∨ w.heap.size ≤ b) g') := by
  obtain ⟨i0, hi, hz0, hz1, hz2⟩ := info_parts infoInt
  have hll := hN.1
  have HN : Hid (NSl w (some ⟨tb, to, none⟩) tl t ∧ ¬ S tb ∧ t.length = tl ∧ pile t 0 = some 1 ∧ ∀ k, k < t.length → InI (t.getD k (0, 0)).2) := ⟨hN, hSt, hll, hp, hI⟩
  have HT := (show Hid _ from hT)
  have HC := (show Hid _ from hcall)
  have HRS := (show Hid _ from hRs)
  have HK := (show Hid _ from hK)
  have H0 : Hid (R w S g ∧ GoodG g ∧ g.1.length ≤ 120) := ⟨hR, hg, h120⟩
  have hbt : tb < w.heap.size := by
    obtain ⟨b', off', e, hbl, _⟩ := hN.at (by omega)
    cases e; exact hbl
  clear hN hR hg h120 hSt hT hcall hRs hK hll hp hI
  go_enter Tryz.func55, Tryz.ntmps55
  go_wp2_with fail
  go_loopw [6, 16] (fun p i wr => ∃ (k : Nat) (g1 : GS) (Q : List Int) (pa : Option Addr) (pc : Nat), k ≤ tl ∧ i = .int .i64 k ∧ p = .slice pa Q.length pc ∧ Hid (runO cls t (g, []) = runO cls (t.drop k) (g1, Q) ∧ R wr (fun b => (S b ∨ w.heap.size ≤ b) ∧ (Value.slice pa Q.length pc).ownBlock ≠ some b) g1 ∧ GoodG g1 ∧ g1.1.length ≤ 120 ∧ (∀ c ∈ Q, IsCl g1 c) ∧ (Q.length : Int) = cnt t k ∧ wr.ownsRow 0 3 1 (.slice pa Q.length pc) Q.length (vals Q) ∧ (∀ x, (Value.slice pa Q.length pc).ownBlock = some x → w.heap.size ≤ x) ∧ KB S w wr)) (fun _ i _ => tl - (intOf i).toNat)
  case atStart => exact ⟨0, g, [], none, 0, Nat.zero_le _, rfl, rfl, rfl, HRS.out w w _ _ g H0.out.1 (Nat.le_refl _) (fun _ _ _ => rfl) (fun b _ h => ⟨.inl h, fun e => by cases e⟩), H0.out.2.1, H0.out.2.2, (fun c hc => by cases hc), by rw [cnt_zero]; rfl, World.ownsRow_nil _ _ _ _, (fun x hx => by cases hx), KB.refl _ _⟩
  case round =>
    obtain ⟨k, g1, Q, pa, pc, hk, rfl, rfl, hH⟩ := hrel
    obtain ⟨wo, rfl⟩ : ∃ x, x = wr := ⟨_, rfl⟩
    by_cases hlt : k < tl
    · obtain ⟨q1, q2, q3, q4, q5, q6, q7, q8, q9⟩ := hH.out
      obtain ⟨hN, hSt, hll, hp, hI⟩ := HN.out
      obtain ⟨s1, s2⟩ := cnt_step hp k (by omega)
      obtain ⟨a1, a2, a3, _⟩ := fits_iff _ _ _ _ s1
      have hno := node_fits (m := (ar (t.getD k (0, 0)).1).toNat) s1 (by omega)
      have hIk := hI k (by omega)
      obtain ⟨b', off', e, hbl, hc⟩ := (nsl_kb hN q9 hSt).at (by omega)
      cases e
      have c1 := (hc k hlt).1
      have c2 := (hc k hlt).2
      have hdr := runO_drop cls t k (g1, Q) (by omega)
      have HA := implArity_any (t.getD k (0, 0)).1 (wo.alloc (.cells #[.int .i64 (t.getD k (0, 0)).1, .int .i64 (t.getD k (0, 0)).2] 83)) (HT.out _ (q9.trans (T := fun _ => False) (KB.of ((Below.refl _ _).alloc (Nat.le_refl _) _)) (fun _ _ h => h.elim)))
      rw [decide_eq_true a1, show arN (t.getD k (0, 0)).1 = ar (t.getD k (0, 0)).1 from by unfold arN; rw [if_pos a1]] at HA
      obtain ⟨m, hm⟩ : ∃ m : Nat, ar (t.getD k (0, 0)).1 = m := ⟨(ar (t.getD k (0, 0)).1).toNat, by omega⟩
      rw [hm] at HA a2 hno s2
      rw [Int.toNat_natCast] at hno
      have hmn : m ≤ Q.length := by omega
      obtain ⟨L, hL⟩ : ∃ L, Q.length = L + m := ⟨Q.length - m, by omega⟩
      have hQ40 : Q.length ≤ 40 := by have := (cnt_le hp k (by omega)).2; omega
      obtain ⟨x, hx⟩ : ∃ x, t.getD k (0, 0) = x := ⟨_, rfl⟩
      rw [hx] at c1 c2 HA hno hIk hdr hm
      obtain ⟨xo, xn⟩ := x
      simp only at c1 c2 HA hno hIk hm
      have hsub : (Q.length : Int) - m = (L : Int) := by omega
      have hdl : Q.length - (ar (xo, xn).1).toNat = L := by simp only; rw [hm, Int.toNat_natCast]; omega
      have hkids : (Q.drop L).length = m := by rw [List.length_drop]; omega
      have hnf : NFits g1 (xo, xn) (Q.drop L) := ⟨by simp only; rw [hkids]; exact hno, hIk, fun c hc => q5 c (List.mem_of_mem_drop hc)⟩
      obtain ⟨W2, hW2⟩ : ∃ W2, wo.alloc (.cells #[.int .i64 xo, .int .i64 xn] 83) = W2 := ⟨_, rfl⟩
      have hb2 : Below wo.heap.size wo W2 := by rw [← hW2]; exact (Below.refl _ _).alloc (Nat.le_refl _) _
      have hs2 : W2.heap.size = wo.heap.size + 1 := by rw [← hW2]; simp
      have o0 : W2.cell? ⟨wo.heap.size, 0, none⟩ = some (.int .i64 xo) := by rw [← hW2]; simp [go_sem]
      have o1 : W2.cell? ⟨wo.heap.size, 1, none⟩ = some (.int .i64 xn) := by rw [← hW2]; simp [go_sem]
      rw [hW2] at HA
      have HA2 := (show Hid _ from HA)
      have hkl : (k : Int) < tl := by omega
      have hsz : ¬ tb = wo.heap.size := by have := q9.size; omega
      have HRD : Hid (R W2.drew (fun b => ((S b ∨ w.heap.size ≤ b) ∧ (Value.slice pa Q.length pc).ownBlock ≠ some b) ∧ b < wo.heap.size) g1) := HRS.out wo W2.drew _ _ g1 q2 (by show wo.heap.size ≤ W2.heap.size; omega) (fun b _ hl => hb2.block b hl) (fun b hl h => ⟨h, hl⟩)
      have hkbD : KB S w W2.drew := q9.trans (T := fun _ => False) (KB.of (below_drawn hb2 1)) (fun _ _ h => h.elim)
      have hrowD : W2.drew.ownsRow 0 3 1 (.slice pa Q.length pc) Q.length (vals Q) := row_keep q7 (below_drawn hb2 1)
      have hbx : ∀ W', KB (fun b => ((S b ∨ w.heap.size ≤ b) ∧ (Value.slice pa Q.length pc).ownBlock ≠ some b) ∧ b < wo.heap.size) W2.drew W' → W'.cell? ⟨wo.heap.size, 0, none⟩ = some (.int .i64 xo) ∧ W'.cell? ⟨wo.heap.size, 1, none⟩ = some (.int .i64 xn) := fun W' h => ⟨(h.cell (p := ⟨wo.heap.size, 0, none⟩) (by show wo.heap.size < W2.heap.size; omega) (fun h => Nat.lt_irrefl _ h.2)).trans o0, (h.cell (p := ⟨wo.heap.size, 1, none⟩) (by show wo.heap.size < W2.heap.size; omega) (fun h => Nat.lt_irrefl _ h.2)).trans o1⟩
      have HBX := (show Hid _ from hbx)
      have HFIN : Hid (∀ w4, KB (fun b => ((S b ∨ w.heap.size ≤ b) ∧ (Value.slice pa Q.length pc).ownBlock ≠ some b) ∧ b < wo.heap.size) W2.drew w4 → KB S w w4 ∧ w4.ownsRow 0 3 1 (.slice pa Q.length pc) Q.length (vals Q)) := fun w4 h4 => ⟨hkbD.trans h4 (fun b hb h => by
          rcases h.1.1 with h | h
          · exact h
          · omega), row_map hrowD (fun x hx hl => h4.block x hl (fun h => h.1.2 hx))⟩
      have HNEXT : Hid (∀ (w4 : World) (r : GS × Int) (w6 : World) (v6 : Value) (c6 : Nat), cls g1 (xo, xn) (Q.drop L) = some r → KB (fun b => ((S b ∨ w.heap.size ≤ b) ∧ (Value.slice pa Q.length pc).ownBlock ≠ some b) ∧ b < wo.heap.size) W2.drew w4 → R w4 (fun b => (((S b ∨ w.heap.size ≤ b) ∧ (Value.slice pa Q.length pc).ownBlock ≠ some b) ∧ b < wo.heap.size) ∨ W2.drew.heap.size ≤ b) r.1 →
          w6.ownsRow 0 3 1 v6 (L + 1) (vals (Q.take L) ++ [.int .i64 r.2]) → (w4.alloc (.cells #[.int .i64 r.2] 3)).grownBy w6 (Value.slice pa Q.length pc).ownBlock → (v6.ownBlock = (Value.slice pa Q.length pc).ownBlock ∨ v6.ownBlock = some (w4.alloc (.cells #[.int .i64 r.2] 3)).heap.size) →
          runO cls (t.drop (k + 1)) (r.1, Q.take L ++ [r.2]) = runO cls (t.drop (k + 1)) (r.1, Q.take L ++ [r.2]) ∧ R w6 (fun b => (S b ∨ w.heap.size ≤ b) ∧ v6.ownBlock ≠ some b) r.1 ∧ GoodG r.1 ∧ r.1.1.length ≤ 120 ∧ (∀ c ∈ Q.take L ++ [r.2], IsCl r.1 c) ∧ ((Q.take L ++ [r.2]).length : Int) = cnt t (k + 1) ∧ w6.ownsRow 0 3 1 v6 (Q.take L ++ [r.2]).length (vals (Q.take L ++ [r.2])) ∧ (∀ x, v6.ownBlock = some x → w.heap.size ≤ x) ∧ KB S w w6) := fun w4 r w6 v6 c6 hr h4 hR4 k1 k2 k3 => by
        obtain ⟨e1, e2, e3, e4⟩ := HK.out.good g1 (xo, xn) (Q.drop L) r q3 q4 hnf hr
        have hw9 := q9.size
        have hs4 := h4.size
        have hs4' : W2.heap.size ≤ w4.heap.size := hs4
        have htk : (Q.take L ++ [r.2]).length = L + 1 := by rw [List.length_append, List.length_take]; simp; omega
        have hps : ∀ x, (Value.slice pa Q.length pc).ownBlock = some x → x < wo.heap.size := fun x hx => (q7.lt x hx).2
        refine ⟨rfl, HRS.out w4 w6 _ _ r.1 hR4 (by have := k2.size; simp at this; omega) (fun b hb hl => ?_) (fun b hl hb => ⟨?_, fun e => ?_⟩), e1, e4, fun c hc => ?_, by rw [htk, s2, ← q6]; omega, by rw [htk, vals_append]; exact k1, fun x hx => ?_, ?_⟩
        · refine (k2.block b (by simp; omega) (fun e => ?_)).trans ((World.grownBy_alloc w4 _ none).block b hl (by simp))
          rcases hb with h | h
          · exact h.1.2 e.symm
          · have := hps b e.symm
            have : W2.heap.size ≤ b := h
            omega
        · rcases hb with h | h
          · exact h.1.1
          · have : W2.heap.size ≤ b := h
            right; omega
        · rcases k3 with e' | e'
          · rw [e'] at e
            rcases hb with h | h
            · exact h.1.2 e
            · have := hps b e
              have : W2.heap.size ≤ b := h
              omega
          · rw [e'] at e; injection e; simp at *; omega
        · rcases List.mem_append.1 hc with h | h
          · exact e3 c (q5 c (List.mem_of_mem_take h))
          · rw [List.mem_singleton.1 h]; exact e2
        · rcases k3 with e' | e'
          · exact q8 x (by rw [← e']; exact hx)
          · rw [e'] at hx; injection hx with hx; simp at hx; omega
        · exact (((HFIN.out w4 h4).1).trans (T := fun _ => False) (KB.of ((Below.refl _ _).alloc (Nat.le_refl _) _)) (fun _ _ h => h.elim)).grown k2 (fun y hy hl => by have := q8 y hy; omega)
      have hst := @stepO_none cls g1 Q (xo, xn)
      have hst2 := @stepO_some cls g1 Q (xo, xn)
      rw [hdl] at hst hst2
      have HCL : Hid (∀ (pg : Nat), pa = some ⟨pg, 0, none⟩ → Calls Tryz.prog 59 #[.pointer (some ⟨s, 0, none⟩), .agg #[.int .i64 xo, .int .i64 xn, .slice (if pc = L then some ⟨pg, 0, none⟩ else some ⟨pg, L, none⟩) (Q.length - L) (pc - L)]] W2.drew fun e w' => e = .returned (.tuple #[.int .i64 (((cls g1 (xo, xn) (Q.drop L)).map (fun r => r.2)).getD 0), .bool (cls g1 (xo, xn) (Q.drop L)).isSome]) ∧ KB (fun b => ((S b ∨ w.heap.size ≤ b) ∧ (Value.slice pa Q.length pc).ownBlock ≠ some b) ∧ b < wo.heap.size) W2.drew w' ∧ ∀ r, cls g1 (xo, xn) (Q.drop L) = some r → R w' (fun b => (((S b ∨ w.heap.size ≤ b) ∧ (Value.slice pa Q.length pc).ownBlock ≠ some b) ∧ b < wo.heap.size) ∨ W2.drew.heap.size ≤ b) r.1) := fun pg hpg => by
        subst hpg
        rw [show Q.length - L = m from by omega]
        refine HC.out W2.drew _ g1 (xo, xn) _ m (pc - L) (Q.drop L) HRD.out q3 q4 (sl_last hrowD hL) (fun x hx h => ?_) hnf
        have : x = pg := by
          by_cases e : pc = L
          · rw [if_pos e] at hx; injection hx with hx; exact hx.symm
          · rw [if_neg e] at hx; injection hx with hx; exact hx.symm
        subst this
        exact h.1.2 rfl
      have HCN : Hid (pa = none → Q = [] ∧ L = 0 ∧ m = 0 ∧ Calls Tryz.prog 59 #[.pointer (some ⟨s, 0, none⟩), .agg #[.int .i64 xo, .int .i64 xn, .slice none 0 0]] W2.drew fun e w' => e = .returned (.tuple #[.int .i64 (((cls g1 (xo, xn) (Q.drop L)).map (fun r => r.2)).getD 0), .bool (cls g1 (xo, xn) (Q.drop L)).isSome]) ∧ KB (fun b => ((S b ∨ w.heap.size ≤ b) ∧ (Value.slice pa Q.length pc).ownBlock ≠ some b) ∧ b < wo.heap.size) W2.drew w' ∧ ∀ r, cls g1 (xo, xn) (Q.drop L) = some r → R w' (fun b => (((S b ∨ w.heap.size ≤ b) ∧ (Value.slice pa Q.length pc).ownBlock ≠ some b) ∧ b < wo.heap.size) ∨ W2.drew.heap.size ≤ b) r.1) := fun hpa => by
        subst hpa
        have hq0 : Q.length = 0 := by
          rcases q7.2 with ⟨_, h0⟩ | ⟨_, _, _, e, _⟩
          · exact h0
          · cases e
        have hQ : Q = [] := List.eq_nil_of_length_eq_zero hq0
        refine ⟨hQ, by omega, by omega, HC.out W2.drew _ g1 (xo, xn) none 0 0 (Q.drop L) HRD.out q3 q4 ⟨by rw [hkids]; omega, .inl rfl⟩ (fun x hx => by cases hx) hnf⟩
      have HZ : Hid (runO cls t (g, []) = (stepO cls (g1, Q) (xo, xn)).bind (runO cls (t.drop (k + 1)))) := by show _ = _; rw [q1, hdr]
      have hL40 : L ≤ 40 := by omega
      rcases hrowD.2 with ⟨e, h00⟩ | ⟨pg, cp, cur, e, _, _, hnc, _⟩
      · injection e with e1 e2 e3
        subst e1
        subst e3
        obtain ⟨hQ, hL0, hm0, hcl⟩ := HCN.out rfl
        subst hQ
        subst hL0
        subst hm0
        have HCC := (show Hid _ from hcl)
        clear hcl
        cases ho : cls g1 (xo, xn) (([] : List Int).drop 0) with
        | none =>
          rw [ho] at HCC
          have hz := HZ.out
          rw [hst ho] at hz
          have HZ2 : Hid (runO cls t (g, []) = none) := hz
          simp only [Option.map_none, Option.getD_none, Option.isSome_none] at HCC
          clear hz
          clear HN HK HRS HC HT HA q1 q2 q3 q4 q5 q6 q7 q8 q9 hN hSt hll hp hI s1 a1 a2 a3 hno hIk hc hdr hx hm hL hmn hnf hkids hb2 hs2 hkbD hrowD hbx HRD HCL HCN hst hst2 hdl HZ hH H0
          go_wp2_with fail
          (try rw [hW2])
          refine Calls.mono HA2.out ?_
          rintro e w1 ⟨rfl, rfl⟩
          have zD := HBX.out w1.drew (KB.refl _ _)
          clear HA2 hW2 o0 o1
          go_wp2_with fail
          (try rw [hsub])
          go_region_held3 (fun w' => w'.cell? ⟨wo.heap.size, 0, none⟩ = some (.int .i64 xo) ∧ w'.cell? ⟨wo.heap.size, 1, none⟩ = some (.int .i64 xn))
            (assumption)
            (first
            | (go_at_call 59; refine Calls.mono HCC.out ?_; rintro r w4 ⟨rfl, hk4, hR4⟩; have z4 := HBX.out w4 hk4))
          all_goals
            have HE : Hid (KB S w w4) := (HFIN.out w4 hk4).1
            clear HCC hk4 hR4 z4 zD HBX HFIN HNEXT
            go_wp2
            go_ret2
            exact ⟨by rw [HZ2.out] <;> rfl, HE.out, by rw [HZ2.out]; exact fun r hr => by cases hr⟩
        | some rr =>
          rw [ho] at HCC
          have hz := HZ.out
          rw [hst2 ho] at hz
          have HZ2 : Hid (runO cls t (g, []) = runO cls (t.drop (k + 1)) (rr.1, ([] : List Int).take 0 ++ [rr.2])) := hz
          simp only [Option.map_some, Option.getD_some, Option.isSome_some] at HCC
          clear hz
          clear HN HK HRS HC HT HA q1 q2 q3 q4 q5 q6 q7 q8 q9 hN hSt hll hp hI s1 a1 a2 a3 hno hIk hc hdr hx hm hL hmn hnf hkids hb2 hs2 hkbD hrowD hbx HRD HCL HCN hst hst2 hdl HZ hH H0
          go_wp2_with fail
          (try rw [hW2])
          refine Calls.mono HA2.out ?_
          rintro e w1 ⟨rfl, rfl⟩
          have zD := HBX.out w1.drew (KB.refl _ _)
          clear HA2 hW2 o0 o1
          go_wp2_with fail
          (try rw [hsub])
          go_region_held3 (fun w' => w'.cell? ⟨wo.heap.size, 0, none⟩ = some (.int .i64 xo) ∧ w'.cell? ⟨wo.heap.size, 1, none⟩ = some (.int .i64 xn))
            (assumption)
            (first
            | (go_at_call 59; refine Calls.mono HCC.out ?_; rintro r w4 ⟨rfl, hk4, hR4⟩; have z4 := HBX.out w4 hk4))
          all_goals
            have hrow4 := (HFIN.out w4 hk4).2
            have HNX := (show Hid _ from fun w6 v6 => HNEXT.out w4 rr w6 v6 0 ho hk4 (hR4 rr rfl))
            clear HCC hk4 hR4 z4 zD HBX HFIN HNEXT
            go_wp2_with (at_builtin; refine wpList_append_own_at _ rfl _ _ 23 rfl 0 3 i0 (.int .i64 0) 1 8 Tryz.underlying23 hi hz0 hz1 hz2 rfl (by decide) _ _ _ rfl (hrow4.alloc _) ⟨w4.heap.size, 0, none⟩ 1 1 [_] rfl rfl (cell_new1 _ _ _ _) (one_cell1 _ _) (by unfold maxLen; omega) (by omega) (Nat.zero_le _) ?_; intro v6 w6 k1 k2 _ k3; obtain ⟨a6, c6, rfl, _⟩ := row_slice k1; have HN6 := (show Hid _ from HNX.out w6 _ k1 k2 k3); clear HNX hrow4 k1 k2 k3)
            have htk : ([] : List Int).length + 1 = (([] : List Int).take 0 ++ [rr.2]).length := rfl
            go_roundw
            case rel =>
              obtain ⟨-, y2, y3, y4, y5, y6, y7, y8, y9⟩ := HN6.out
              rw [htk] at y2 y7 y8
              exact ⟨k + 1, rr.1, ([] : List Int).take 0 ++ [rr.2], a6, c6, by omega, by go_num, by first | rfl | rw [← htk], HZ2.out, y2, y3, y4, y5, y6, y7, y8, y9⟩
            case measure => simp [intOf]; omega
      · injection e with e1 e2 e3
        subst e1
        subst e3
        have hcl := HCL.out pg rfl
        obtain ⟨ka, hka⟩ : ∃ ka, (if pc = L then some (⟨pg, 0, none⟩ : Addr) else some ⟨pg, L, none⟩) = ka := ⟨_, rfl⟩
        rw [hka] at hcl
        have HCC := (show Hid _ from hcl)
        clear hcl
        have j0 : (L : Int) ≤ pc := by omega
        have j1 : (L : Int) ≤ Q.length := by omega
        have hLm : L ≤ Q.length := by omega
        cases ho : cls g1 (xo, xn) (Q.drop L) with
        | none =>
          rw [ho] at HCC
          have hz := HZ.out
          rw [hst ho] at hz
          have HZ2 : Hid (runO cls t (g, []) = none) := hz
          simp only [Option.map_none, Option.getD_none, Option.isSome_none] at HCC
          clear hz
          clear HN HK HRS HC HT HA q1 q2 q3 q4 q5 q6 q7 q8 q9 hN hSt hll hp hI s1 a1 a2 a3 hno hIk hc hdr hx hm hL hmn hnf hkids hb2 hs2 hkbD hrowD hbx HRD HCL HCN hst hst2 hdl HZ hH H0
          go_wp2_with fail
          (try rw [hW2])
          refine Calls.mono HA2.out ?_
          rintro e w1 ⟨rfl, rfl⟩
          have zD := HBX.out w1.drew (KB.refl _ _)
          clear HA2 hW2 o0 o1
          go_wp2_with fail
          (try rw [hsub])
          go_region_held3 (fun w' => w'.cell? ⟨wo.heap.size, 0, none⟩ = some (.int .i64 xo) ∧ w'.cell? ⟨wo.heap.size, 1, none⟩ = some (.int .i64 xn))
            (assumption)
            (first
            | (go_at_call 59; refine Calls.mono HCC.out ?_; rintro r w4 ⟨rfl, hk4, hR4⟩; have z4 := HBX.out w4 hk4))
          all_goals
            have HE : Hid (KB S w w4) := (HFIN.out w4 hk4).1
            clear HCC hk4 hR4 z4 zD HBX HFIN HNEXT
            go_wp2
            go_ret2
            exact ⟨by rw [HZ2.out] <;> rfl, HE.out, by rw [HZ2.out]; exact fun r hr => by cases hr⟩
        | some rr =>
          rw [ho] at HCC
          have hz := HZ.out
          rw [hst2 ho] at hz
          have HZ2 : Hid (runO cls t (g, []) = runO cls (t.drop (k + 1)) (rr.1, Q.take L ++ [rr.2])) := hz
          simp only [Option.map_some, Option.getD_some, Option.isSome_some] at HCC
          clear hz
          clear HN HK HRS HC HT HA q1 q2 q3 q4 q5 q6 q7 q8 q9 hN hSt hll hp hI s1 a1 a2 a3 hno hIk hc hdr hx hm hL hmn hnf hkids hb2 hs2 hkbD hrowD hbx HRD HCL HCN hst hst2 hdl HZ hH H0
          go_wp2_with fail
          (try rw [hW2])
          refine Calls.mono HA2.out ?_
          rintro e w1 ⟨rfl, rfl⟩
          have zD := HBX.out w1.drew (KB.refl _ _)
          clear HA2 hW2 o0 o1
          go_wp2_with fail
          (try rw [hsub])
          go_region_held3 (fun w' => w'.cell? ⟨wo.heap.size, 0, none⟩ = some (.int .i64 xo) ∧ w'.cell? ⟨wo.heap.size, 1, none⟩ = some (.int .i64 xn))
            (assumption)
            (first
            | (go_at_call 59; refine Calls.mono HCC.out ?_; rintro r w4 ⟨rfl, hk4, hR4⟩; have z4 := HBX.out w4 hk4))
          all_goals
            have hrow4 := own_cut (HFIN.out w4 hk4).2 hLm
            have HNX := (show Hid _ from fun w6 v6 => HNEXT.out w4 rr w6 v6 0 ho hk4 (hR4 rr rfl))
            clear HCC hk4 hR4 z4 zD HBX HFIN HNEXT
            go_wp2_with (at_builtin; refine wpList_append_own_at _ rfl _ _ 23 rfl 0 3 i0 (.int .i64 0) 1 8 Tryz.underlying23 hi hz0 hz1 hz2 rfl (by decide) _ _ _ rfl (hrow4.alloc _) ⟨w4.heap.size, 0, none⟩ 1 1 [_] rfl rfl (cell_new1 _ _ _ _) (one_cell1 _ _) (by unfold maxLen; omega) (by omega) (Nat.zero_le _) ?_; intro v6 w6 k1 k2 _ k3; obtain ⟨a6, c6, rfl, _⟩ := row_slice k1; have HN6 := (show Hid _ from HNX.out w6 _ (by rw [vals_take]; exact k1) k2 k3); clear HNX hrow4 k1 k2 k3)
            have htk : L + 1 = (Q.take L ++ [rr.2]).length := by rw [List.length_append, List.length_take]; simp; omega
            go_roundw
            case rel =>
              obtain ⟨-, y2, y3, y4, y5, y6, y7, y8, y9⟩ := HN6.out
              rw [htk] at y2 y7 y8
              exact ⟨k + 1, rr.1, Q.take L ++ [rr.2], a6, c6, by omega, by go_num, by first | rfl | rw [← htk], HZ2.out, y2, y3, y4, y5, y6, y7, y8, y9⟩
            case measure => simp [intOf]; omega
    · obtain rfl : k = tl := by omega
      obtain ⟨q1, q2, q3, q4, q5, q6, q7, q8, q9⟩ := hH.out
      obtain ⟨hN, hSt, hll, hp, hI⟩ := HN.out
      have hc1 : cnt t k = 1 := by unfold cnt; rw [List.take_of_length_le (by omega), hp]; rfl
      have hQ1 : Q.length = 1 := by omega
      rw [List.drop_of_length_le (by omega)] at q1
      have HZ2 : Hid (runO cls t (g, []) = some (g1, Q)) := q1
      have hrow := q7
      rw [hQ1] at hrow
      obtain ⟨pg, cp, e, hgl, hcp⟩ : ∃ pg cp, (Value.slice pa 1 pc) = .slice (some ⟨pg, 0, none⟩) 1 cp ∧ pg < wo.heap.size ∧ wo.cell? ⟨pg, 0, none⟩ = some (.int .i64 (Q.getD 0 0)) := by
        rcases hrow.2 with ⟨_, h0⟩ | ⟨pg, cp, cur, e, _, hg, _⟩
        · omega
        · refine ⟨pg, cp, e, (Array.getElem?_eq_some_iff.1 hg).1, ?_⟩
          injection e with e1 e2 e3
          subst e1
          rw [hrow.cellAt 0 (by omega)]
          simp [vals, List.getD_eq_getElem?_getD, show 0 < Q.length by omega]
      injection e with e1 e2 e3
      subst e1
      subst e3
      have HE : Hid (KB S w wo ∧ R wo (fun b => S b ∨ w.heap.size ≤ b) g1) := ⟨q9, HRS.out wo wo _ _ g1 q2 (Nat.le_refl _) (fun _ _ _ => rfl) (fun b _ h => h.1)⟩
      obtain ⟨z, hz⟩ : ∃ z, Q.getD 0 0 = z := ⟨_, rfl⟩
      rw [hz] at hcp
      have HZz := (show Hid _ from hz)
      rw [hQ1]
      clear q1 q2 q3 q4 q5 q6 q7 q8 q9 hN hSt hll hp hI hrow hz hH H0 HN HK HRS HC HT
      go_wp2
      go_ret2
      refine ⟨?_, HE.out.1, ?_⟩
      · rw [HZ2.out]
        show _ = Ending.returned (.tuple #[.int .i64 (Q.getD 0 0), .bool true])
        rw [HZz.out] <;> rfl
      · rw [HZ2.out]
        exact fun r hr => by cases hr; exact HE.out.2
end Go.Proofs.YtobgkfpjokfbaaaGreatDoor
namespace Go.Proofs.YtobgkfpjokfbaaaGreatDoor
open Go.ChangeShapes Go.WideShapes Go.ChangeAt Go.RowKit
set_option linter.unusedVariables false

set_option maxHeartbeats 3200000 in
set_option maxRecDepth 20000 in
theorem clsF_any (s : Nat) (cls : Cls) (hK : Keeps cls) (R : World → (Nat → Prop) → GS → Prop) (hRs : ∀ (W W' : World) S S' g, R W S g → W.heap.size ≤ W'.heap.size → (∀ b, S b → b < W.heap.size → W'.heap[b]? = W.heap[b]?) → (∀ b, b < W.heap.size → S b → S' b) → R W' S' g)
    (hcall : ∀ (W : World) S g n (a : Option Addr) (m cap : Nat) (kids : List Int), R W S g → GoodG g → g.1.length ≤ 120 → Sl W a m kids → (∀ x, (Value.slice a m m).ownBlock = some x → ¬ S x) → NFits g n kids →
      Calls Tryz.prog 58 #[.pointer (some ⟨s, 0, none⟩), .agg #[.int .i64 n.1, .int .i64 n.2, .slice a m cap]] W fun e w' => e = .returned (.tuple #[.int .i64 (((cls g n kids).map (fun r => r.2)).getD 0), .bool (cls g n kids).isSome]) ∧ KB S W w' ∧ ∀ r, cls g n kids = some r → R w' (fun b => S b ∨ W.heap.size ≤ b) r.1)
    {t : List (Int × Int)} (hp : pile t 0 = some 1) (hI : ∀ k, k < t.length → InI (t.getD k (0, 0)).2) (tb to tl tc : Nat) (ht40 : tl ≤ 40) (ht1 : 1 ≤ tl) (w : World) (S : Nat → Prop) (g : GS) (hN : NSl w (some ⟨tb, to, none⟩) tl t) (hR : R w S g) (hg : GoodG g) (h120 : g.1.length ≤ 120) (hSt : ¬ S tb) (hT : ∀ W, KB S w W → Tab W) :
    Calls Tryz.prog 55 #[.slice (some ⟨tb, to, none⟩) tl tc, .func (.func 58) #[.pointer (some ⟨s, 0, none⟩)] #[]] w fun e w' => e = .returned (.tuple #[.int .i64 (((runO cls t (g, [])).map (fun r => r.2.getD 0 0)).getD 0), .bool (runO cls t (g, [])).isSome]) ∧ KB S w w' ∧ AllR (runO cls t (g, [])) (fun g' => R w' (fun b => S b ∨ w.heap.size ≤ b) g') := by
  obtain ⟨i0, hi, hz0, hz1, hz2⟩ := info_parts infoInt
  have hll := hN.1
  have HN : Hid (NSl w (some ⟨tb, to, none⟩) tl t ∧ ¬ S tb ∧ t.length = tl ∧ pile t 0 = some 1 ∧ ∀ k, k < t.length → InI (t.getD k (0, 0)).2) := ⟨hN, hSt, hll, hp, hI⟩
  have HT := (show Hid _ from hT)
  have HC := (show Hid _ from hcall)
  have HRS := (show Hid _ from hRs)
  have HK := (show Hid _ from hK)
  have H0 : Hid (R w S g ∧ GoodG g ∧ g.1.length ≤ 120) := ⟨hR, hg, h120⟩
  have hbt : tb < w.heap.size := by
    obtain ⟨b', off', e, hbl, _⟩ := hN.at (by omega)
    cases e; exact hbl
  clear hN hR hg h120 hSt hT hcall hRs hK hll hp hI
  go_enter Tryz.func55, Tryz.ntmps55
  go_wp2_with fail
  go_loopw [6, 16] (fun p i wr => ∃ (k : Nat) (g1 : GS) (Q : List Int) (pa : Option Addr) (pc : Nat), k ≤ tl ∧ i = .int .i64 k ∧ p = .slice pa Q.length pc ∧ Hid (runO cls t (g, []) = runO cls (t.drop k) (g1, Q) ∧ R wr (fun b => (S b ∨ w.heap.size ≤ b) ∧ (Value.slice pa Q.length pc).ownBlock ≠ some b) g1 ∧ GoodG g1 ∧ g1.1.length ≤ 120 ∧ (∀ c ∈ Q, IsCl g1 c) ∧ (Q.length : Int) = cnt t k ∧ wr.ownsRow 0 3 1 (.slice pa Q.length pc) Q.length (vals Q) ∧ (∀ x, (Value.slice pa Q.length pc).ownBlock = some x → w.heap.size ≤ x) ∧ KB S w wr)) (fun _ i _ => tl - (intOf i).toNat)
  case atStart => exact ⟨0, g, [], none, 0, Nat.zero_le _, rfl, rfl, rfl, HRS.out w w _ _ g H0.out.1 (Nat.le_refl _) (fun _ _ _ => rfl) (fun b _ h => ⟨.inl h, fun e => by cases e⟩), H0.out.2.1, H0.out.2.2, (fun c hc => by cases hc), by rw [cnt_zero]; rfl, World.ownsRow_nil _ _ _ _, (fun x hx => by cases hx), KB.refl _ _⟩
  case round =>
    obtain ⟨k, g1, Q, pa, pc, hk, rfl, rfl, hH⟩ := hrel
    obtain ⟨wo, rfl⟩ : ∃ x, x = wr := ⟨_, rfl⟩
    by_cases hlt : k < tl
    · obtain ⟨q1, q2, q3, q4, q5, q6, q7, q8, q9⟩ := hH.out
      obtain ⟨hN, hSt, hll, hp, hI⟩ := HN.out
      obtain ⟨s1, s2⟩ := cnt_step hp k (by omega)
      obtain ⟨a1, a2, a3, _⟩ := fits_iff _ _ _ _ s1
      have hno := node_fits (m := (ar (t.getD k (0, 0)).1).toNat) s1 (by omega)
      have hIk := hI k (by omega)
      obtain ⟨b', off', e, hbl, hc⟩ := (nsl_kb hN q9 hSt).at (by omega)
      cases e
      have c1 := (hc k hlt).1
      have c2 := (hc k hlt).2
      have hdr := runO_drop cls t k (g1, Q) (by omega)
      have HA := implArity_any (t.getD k (0, 0)).1 (wo.alloc (.cells #[.int .i64 (t.getD k (0, 0)).1, .int .i64 (t.getD k (0, 0)).2] 83)) (HT.out _ (q9.trans (T := fun _ => False) (KB.of ((Below.refl _ _).alloc (Nat.le_refl _) _)) (fun _ _ h => h.elim)))
      rw [decide_eq_true a1, show arN (t.getD k (0, 0)).1 = ar (t.getD k (0, 0)).1 from by unfold arN; rw [if_pos a1]] at HA
      obtain ⟨m, hm⟩ : ∃ m : Nat, ar (t.getD k (0, 0)).1 = m := ⟨(ar (t.getD k (0, 0)).1).toNat, by omega⟩
      rw [hm] at HA a2 hno s2
      rw [Int.toNat_natCast] at hno
      have hmn : m ≤ Q.length := by omega
      obtain ⟨L, hL⟩ : ∃ L, Q.length = L + m := ⟨Q.length - m, by omega⟩
      have hQ40 : Q.length ≤ 40 := by have := (cnt_le hp k (by omega)).2; omega
      obtain ⟨x, hx⟩ : ∃ x, t.getD k (0, 0) = x := ⟨_, rfl⟩
      rw [hx] at c1 c2 HA hno hIk hdr hm
      obtain ⟨xo, xn⟩ := x
      simp only at c1 c2 HA hno hIk hm
      have hsub : (Q.length : Int) - m = (L : Int) := by omega
      have hdl : Q.length - (ar (xo, xn).1).toNat = L := by simp only; rw [hm, Int.toNat_natCast]; omega
      have hkids : (Q.drop L).length = m := by rw [List.length_drop]; omega
      have hnf : NFits g1 (xo, xn) (Q.drop L) := ⟨by simp only; rw [hkids]; exact hno, hIk, fun c hc => q5 c (List.mem_of_mem_drop hc)⟩
      obtain ⟨W2, hW2⟩ : ∃ W2, wo.alloc (.cells #[.int .i64 xo, .int .i64 xn] 83) = W2 := ⟨_, rfl⟩
      have hb2 : Below wo.heap.size wo W2 := by rw [← hW2]; exact (Below.refl _ _).alloc (Nat.le_refl _) _
      have hs2 : W2.heap.size = wo.heap.size + 1 := by rw [← hW2]; simp
      have o0 : W2.cell? ⟨wo.heap.size, 0, none⟩ = some (.int .i64 xo) := by rw [← hW2]; simp [go_sem]
      have o1 : W2.cell? ⟨wo.heap.size, 1, none⟩ = some (.int .i64 xn) := by rw [← hW2]; simp [go_sem]
      rw [hW2] at HA
      have HA2 := (show Hid _ from HA)
      have hkl : (k : Int) < tl := by omega
      have hsz : ¬ tb = wo.heap.size := by have := q9.size; omega
      have HRD : Hid (R W2.drew (fun b => ((S b ∨ w.heap.size ≤ b) ∧ (Value.slice pa Q.length pc).ownBlock ≠ some b) ∧ b < wo.heap.size) g1) := HRS.out wo W2.drew _ _ g1 q2 (by show wo.heap.size ≤ W2.heap.size; omega) (fun b _ hl => hb2.block b hl) (fun b hl h => ⟨h, hl⟩)
      have hkbD : KB S w W2.drew := q9.trans (T := fun _ => False) (KB.of (below_drawn hb2 1)) (fun _ _ h => h.elim)
      have hrowD : W2.drew.ownsRow 0 3 1 (.slice pa Q.length pc) Q.length (vals Q) := row_keep q7 (below_drawn hb2 1)
      have hbx : ∀ W', KB (fun b => ((S b ∨ w.heap.size ≤ b) ∧ (Value.slice pa Q.length pc).ownBlock ≠ some b) ∧ b < wo.heap.size) W2.drew W' → W'.cell? ⟨wo.heap.size, 0, none⟩ = some (.int .i64 xo) ∧ W'.cell? ⟨wo.heap.size, 1, none⟩ = some (.int .i64 xn) := fun W' h => ⟨(h.cell (p := ⟨wo.heap.size, 0, none⟩) (by show wo.heap.size < W2.heap.size; omega) (fun h => Nat.lt_irrefl _ h.2)).trans o0, (h.cell (p := ⟨wo.heap.size, 1, none⟩) (by show wo.heap.size < W2.heap.size; omega) (fun h => Nat.lt_irrefl _ h.2)).trans o1⟩
      have HBX := (show Hid _ from hbx)
      have HFIN : Hid (∀ w4, KB (fun b => ((S b ∨ w.heap.size ≤ b) ∧ (Value.slice pa Q.length pc).ownBlock ≠ some b) ∧ b < wo.heap.size) W2.drew w4 → KB S w w4 ∧ w4.ownsRow 0 3 1 (.slice pa Q.length pc) Q.length (vals Q)) := fun w4 h4 => ⟨hkbD.trans h4 (fun b hb h => by
          rcases h.1.1 with h | h
          · exact h
          · omega), row_map hrowD (fun x hx hl => h4.block x hl (fun h => h.1.2 hx))⟩
      have HNEXT : Hid (∀ (w4 : World) (r : GS × Int) (w6 : World) (v6 : Value) (c6 : Nat), cls g1 (xo, xn) (Q.drop L) = some r → KB (fun b => ((S b ∨ w.heap.size ≤ b) ∧ (Value.slice pa Q.length pc).ownBlock ≠ some b) ∧ b < wo.heap.size) W2.drew w4 → R w4 (fun b => (((S b ∨ w.heap.size ≤ b) ∧ (Value.slice pa Q.length pc).ownBlock ≠ some b) ∧ b < wo.heap.size) ∨ W2.drew.heap.size ≤ b) r.1 →
          w6.ownsRow 0 3 1 v6 (L + 1) (vals (Q.take L) ++ [.int .i64 r.2]) → (w4.alloc (.cells #[.int .i64 r.2] 3)).grownBy w6 (Value.slice pa Q.length pc).ownBlock → (v6.ownBlock = (Value.slice pa Q.length pc).ownBlock ∨ v6.ownBlock = some (w4.alloc (.cells #[.int .i64 r.2] 3)).heap.size) →
          runO cls (t.drop (k + 1)) (r.1, Q.take L ++ [r.2]) = runO cls (t.drop (k + 1)) (r.1, Q.take L ++ [r.2]) ∧ R w6 (fun b => (S b ∨ w.heap.size ≤ b) ∧ v6.ownBlock ≠ some b) r.1 ∧ GoodG r.1 ∧ r.1.1.length ≤ 120 ∧ (∀ c ∈ Q.take L ++ [r.2], IsCl r.1 c) ∧ ((Q.take L ++ [r.2]).length : Int) = cnt t (k + 1) ∧ w6.ownsRow 0 3 1 v6 (Q.take L ++ [r.2]).length (vals (Q.take L ++ [r.2])) ∧ (∀ x, v6.ownBlock = some x → w.heap.size ≤ x) ∧ KB S w w6) := fun w4 r w6 v6 c6 hr h4 hR4 k1 k2 k3 => by
        obtain ⟨e1, e2, e3, e4⟩ := HK.out.good g1 (xo, xn) (Q.drop L) r q3 q4 hnf hr
        have hw9 := q9.size
        have hs4 := h4.size
        have hs4' : W2.heap.size ≤ w4.heap.size := hs4
        have htk : (Q.take L ++ [r.2]).length = L + 1 := by rw [List.length_append, List.length_take]; simp; omega
        have hps : ∀ x, (Value.slice pa Q.length pc).ownBlock = some x → x < wo.heap.size := fun x hx => (q7.lt x hx).2
        refine ⟨rfl, HRS.out w4 w6 _ _ r.1 hR4 (by have := k2.size; simp at this; omega) (fun b hb hl => ?_) (fun b hl hb => ⟨?_, fun e => ?_⟩), e1, e4, fun c hc => ?_, by rw [htk, s2, ← q6]; omega, by rw [htk, vals_append]; exact k1, fun x hx => ?_, ?_⟩
        · refine (k2.block b (by simp; omega) (fun e => ?_)).trans ((World.grownBy_alloc w4 _ none).block b hl (by simp))
          rcases hb with h | h
          · exact h.1.2 e.symm
          · have := hps b e.symm
            have : W2.heap.size ≤ b := h
            omega
        · rcases hb with h | h
          · exact h.1.1
          · have : W2.heap.size ≤ b := h
            right; omega
        · rcases k3 with e' | e'
          · rw [e'] at e
            rcases hb with h | h
            · exact h.1.2 e
            · have := hps b e
              have : W2.heap.size ≤ b := h
              omega
          · rw [e'] at e; injection e; simp at *; omega
        · rcases List.mem_append.1 hc with h | h
          · exact e3 c (q5 c (List.mem_of_mem_take h))
          · rw [List.mem_singleton.1 h]; exact e2
        · rcases k3 with e' | e'
          · exact q8 x (by rw [← e']; exact hx)
          · rw [e'] at hx; injection hx with hx; simp at hx; omega
        · exact (((HFIN.out w4 h4).1).trans (T := fun _ => False) (KB.of ((Below.refl _ _).alloc (Nat.le_refl _) _)) (fun _ _ h => h.elim)).grown k2 (fun y hy hl => by have := q8 y hy; omega)
      have hst := @stepO_none cls g1 Q (xo, xn)
      have hst2 := @stepO_some cls g1 Q (xo, xn)
      rw [hdl] at hst hst2
      have HCL : Hid (∀ (pg : Nat), pa = some ⟨pg, 0, none⟩ → Calls Tryz.prog 58 #[.pointer (some ⟨s, 0, none⟩), .agg #[.int .i64 xo, .int .i64 xn, .slice (if pc = L then some ⟨pg, 0, none⟩ else some ⟨pg, L, none⟩) (Q.length - L) (pc - L)]] W2.drew fun e w' => e = .returned (.tuple #[.int .i64 (((cls g1 (xo, xn) (Q.drop L)).map (fun r => r.2)).getD 0), .bool (cls g1 (xo, xn) (Q.drop L)).isSome]) ∧ KB (fun b => ((S b ∨ w.heap.size ≤ b) ∧ (Value.slice pa Q.length pc).ownBlock ≠ some b) ∧ b < wo.heap.size) W2.drew w' ∧ ∀ r, cls g1 (xo, xn) (Q.drop L) = some r → R w' (fun b => (((S b ∨ w.heap.size ≤ b) ∧ (Value.slice pa Q.length pc).ownBlock ≠ some b) ∧ b < wo.heap.size) ∨ W2.drew.heap.size ≤ b) r.1) := fun pg hpg => by
        subst hpg
        rw [show Q.length - L = m from by omega]
        refine HC.out W2.drew _ g1 (xo, xn) _ m (pc - L) (Q.drop L) HRD.out q3 q4 (sl_last hrowD hL) (fun x hx h => ?_) hnf
        have : x = pg := by
          by_cases e : pc = L
          · rw [if_pos e] at hx; injection hx with hx; exact hx.symm
          · rw [if_neg e] at hx; injection hx with hx; exact hx.symm
        subst this
        exact h.1.2 rfl
      have HCN : Hid (pa = none → Q = [] ∧ L = 0 ∧ m = 0 ∧ Calls Tryz.prog 58 #[.pointer (some ⟨s, 0, none⟩), .agg #[.int .i64 xo, .int .i64 xn, .slice none 0 0]] W2.drew fun e w' => e = .returned (.tuple #[.int .i64 (((cls g1 (xo, xn) (Q.drop L)).map (fun r => r.2)).getD 0), .bool (cls g1 (xo, xn) (Q.drop L)).isSome]) ∧ KB (fun b => ((S b ∨ w.heap.size ≤ b) ∧ (Value.slice pa Q.length pc).ownBlock ≠ some b) ∧ b < wo.heap.size) W2.drew w' ∧ ∀ r, cls g1 (xo, xn) (Q.drop L) = some r → R w' (fun b => (((S b ∨ w.heap.size ≤ b) ∧ (Value.slice pa Q.length pc).ownBlock ≠ some b) ∧ b < wo.heap.size) ∨ W2.drew.heap.size ≤ b) r.1) := fun hpa => by
        subst hpa
        have hq0 : Q.length = 0 := by
          rcases q7.2 with ⟨_, h0⟩ | ⟨_, _, _, e, _⟩
          · exact h0
          · cases e
        have hQ : Q = [] := List.eq_nil_of_length_eq_zero hq0
        refine ⟨hQ, by omega, by omega, HC.out W2.drew _ g1 (xo, xn) none 0 0 (Q.drop L) HRD.out q3 q4 ⟨by rw [hkids]; omega, .inl rfl⟩ (fun x hx => by cases hx) hnf⟩
      have HZ : Hid (runO cls t (g, []) = (stepO cls (g1, Q) (xo, xn)).bind (runO cls (t.drop (k + 1)))) := by show _ = _; rw [q1, hdr]
      have hL40 : L ≤ 40 := by omega
      rcases hrowD.2 with ⟨e, h00⟩ | ⟨pg, cp, cur, e, _, _, hnc, _⟩
      · injection e with e1 e2 e3
        subst e1
        subst e3
        obtain ⟨hQ, hL0, hm0, hcl⟩ := HCN.out rfl
        subst hQ
        subst hL0
        subst hm0
        have HCC := (show Hid _ from hcl)
        clear hcl
        cases ho : cls g1 (xo, xn) (([] : List Int).drop 0) with
        | none =>
          rw [ho] at HCC
          have hz := HZ.out
          rw [hst ho] at hz
          have HZ2 : Hid (runO cls t (g, []) = none) := hz
          simp only [Option.map_none, Option.getD_none, Option.isSome_none] at HCC
          clear hz
          clear HN HK HRS HC HT HA q1 q2 q3 q4 q5 q6 q7 q8 q9 hN hSt hll hp hI s1 a1 a2 a3 hno hIk hc hdr hx hm hL hmn hnf hkids hb2 hs2 hkbD hrowD hbx HRD HCL HCN hst hst2 hdl HZ hH H0
          go_wp2_with fail
          (try rw [hW2])
          refine Calls.mono HA2.out ?_
          rintro e w1 ⟨rfl, rfl⟩
          have zD := HBX.out w1.drew (KB.refl _ _)
          clear HA2 hW2 o0 o1
          go_wp2_with fail
          (try rw [hsub])
          go_region_held3 (fun w' => w'.cell? ⟨wo.heap.size, 0, none⟩ = some (.int .i64 xo) ∧ w'.cell? ⟨wo.heap.size, 1, none⟩ = some (.int .i64 xn))
            (assumption)
            (first
            | (go_at_call 58; refine Calls.mono HCC.out ?_; rintro r w4 ⟨rfl, hk4, hR4⟩; have z4 := HBX.out w4 hk4))
          all_goals
            have HE : Hid (KB S w w4) := (HFIN.out w4 hk4).1
            clear HCC hk4 hR4 z4 zD HBX HFIN HNEXT
            go_wp2
            go_ret2
            exact ⟨by rw [HZ2.out] <;> rfl, HE.out, by rw [HZ2.out]; exact fun r hr => by cases hr⟩
        | some rr =>
          rw [ho] at HCC
          have hz := HZ.out
          rw [hst2 ho] at hz
          have HZ2 : Hid (runO cls t (g, []) = runO cls (t.drop (k + 1)) (rr.1, ([] : List Int).take 0 ++ [rr.2])) := hz
          simp only [Option.map_some, Option.getD_some, Option.isSome_some] at HCC
          clear hz
          clear HN HK HRS HC HT HA q1 q2 q3 q4 q5 q6 q7 q8 q9 hN hSt hll hp hI s1 a1 a2 a3 hno hIk hc hdr hx hm hL hmn hnf hkids hb2 hs2 hkbD hrowD hbx HRD HCL HCN hst hst2 hdl HZ hH H0
          go_wp2_with fail
          (try rw [hW2])
          refine Calls.mono HA2.out ?_
          rintro e w1 ⟨rfl, rfl⟩
          have zD := HBX.out w1.drew (KB.refl _ _)
          clear HA2 hW2 o0 o1
          go_wp2_with fail
          (try rw [hsub])
          go_region_held3 (fun w' => w'.cell? ⟨wo.heap.size, 0, none⟩ = some (.int .i64 xo) ∧ w'.cell? ⟨wo.heap.size, 1, none⟩ = some (.int .i64 xn))
            (assumption)
            (first
            | (go_at_call 58; refine Calls.mono HCC.out ?_; rintro r w4 ⟨rfl, hk4, hR4⟩; have z4 := HBX.out w4 hk4))
          all_goals
            have hrow4 := (HFIN.out w4 hk4).2
            have HNX := (show Hid _ from fun w6 v6 => HNEXT.out w4 rr w6 v6 0 ho hk4 (hR4 rr rfl))
            clear HCC hk4 hR4 z4 zD HBX HFIN HNEXT
            go_wp2_with (at_builtin; refine wpList_append_own_at _ rfl _ _ 23 rfl 0 3 i0 (.int .i64 0) 1 8 Tryz.underlying23 hi hz0 hz1 hz2 rfl (by decide) _ _ _ rfl (hrow4.alloc _) ⟨w4.heap.size, 0, none⟩ 1 1 [_] rfl rfl (cell_new1 _ _ _ _) (one_cell1 _ _) (by unfold maxLen; omega) (by omega) (Nat.zero_le _) ?_; intro v6 w6 k1 k2 _ k3; obtain ⟨a6, c6, rfl, _⟩ := row_slice k1; have HN6 := (show Hid _ from HNX.out w6 _ k1 k2 k3); clear HNX hrow4 k1 k2 k3)
            have htk : ([] : List Int).length + 1 = (([] : List Int).take 0 ++ [rr.2]).length := rfl
            go_roundw
            case rel =>
              obtain ⟨-, y2, y3, y4, y5, y6, y7, y8, y9⟩ := HN6.out
              rw [htk] at y2 y7 y8
              exact ⟨k + 1, rr.1, ([] : List Int).take 0 ++ [rr.2], a6, c6, by omega, by go_num, by first | rfl | rw [← htk], HZ2.out, y2, y3, y4, y5, y6, y7, y8, y9⟩
            case measure => simp [intOf]; omega
      · injection e with e1 e2 e3
        subst e1
        subst e3
        have hcl := HCL.out pg rfl
        obtain ⟨ka, hka⟩ : ∃ ka, (if pc = L then some (⟨pg, 0, none⟩ : Addr) else some ⟨pg, L, none⟩) = ka := ⟨_, rfl⟩
        rw [hka] at hcl
        have HCC := (show Hid _ from hcl)
        clear hcl
        have j0 : (L : Int) ≤ pc := by omega
        have j1 : (L : Int) ≤ Q.length := by omega
        have hLm : L ≤ Q.length := by omega
        cases ho : cls g1 (xo, xn) (Q.drop L) with
        | none =>
          rw [ho] at HCC
          have hz := HZ.out
          rw [hst ho] at hz
          have HZ2 : Hid (runO cls t (g, []) = none) := hz
          simp only [Option.map_none, Option.getD_none, Option.isSome_none] at HCC
          clear hz
          clear HN HK HRS HC HT HA q1 q2 q3 q4 q5 q6 q7 q8 q9 hN hSt hll hp hI s1 a1 a2 a3 hno hIk hc hdr hx hm hL hmn hnf hkids hb2 hs2 hkbD hrowD hbx HRD HCL HCN hst hst2 hdl HZ hH H0
          go_wp2_with fail
          (try rw [hW2])
          refine Calls.mono HA2.out ?_
          rintro e w1 ⟨rfl, rfl⟩
          have zD := HBX.out w1.drew (KB.refl _ _)
          clear HA2 hW2 o0 o1
          go_wp2_with fail
          (try rw [hsub])
          go_region_held3 (fun w' => w'.cell? ⟨wo.heap.size, 0, none⟩ = some (.int .i64 xo) ∧ w'.cell? ⟨wo.heap.size, 1, none⟩ = some (.int .i64 xn))
            (assumption)
            (first
            | (go_at_call 58; refine Calls.mono HCC.out ?_; rintro r w4 ⟨rfl, hk4, hR4⟩; have z4 := HBX.out w4 hk4))
          all_goals
            have HE : Hid (KB S w w4) := (HFIN.out w4 hk4).1
            clear HCC hk4 hR4 z4 zD HBX HFIN HNEXT
            go_wp2
            go_ret2
            exact ⟨by rw [HZ2.out] <;> rfl, HE.out, by rw [HZ2.out]; exact fun r hr => by cases hr⟩
        | some rr =>
          rw [ho] at HCC
          have hz := HZ.out
          rw [hst2 ho] at hz
          have HZ2 : Hid (runO cls t (g, []) = runO cls (t.drop (k + 1)) (rr.1, Q.take L ++ [rr.2])) := hz
          simp only [Option.map_some, Option.getD_some, Option.isSome_some] at HCC
          clear hz
          clear HN HK HRS HC HT HA q1 q2 q3 q4 q5 q6 q7 q8 q9 hN hSt hll hp hI s1 a1 a2 a3 hno hIk hc hdr hx hm hL hmn hnf hkids hb2 hs2 hkbD hrowD hbx HRD HCL HCN hst hst2 hdl HZ hH H0
          go_wp2_with fail
          (try rw [hW2])
          refine Calls.mono HA2.out ?_
          rintro e w1 ⟨rfl, rfl⟩
          have zD := HBX.out w1.drew (KB.refl _ _)
          clear HA2 hW2 o0 o1
          go_wp2_with fail
          (try rw [hsub])
          go_region_held3 (fun w' => w'.cell? ⟨wo.heap.size, 0, none⟩ = some (.int .i64 xo) ∧ w'.cell? ⟨wo.heap.size, 1, none⟩ = some (.int .i64 xn))
            (assumption)
            (first
            | (go_at_call 58; refine Calls.mono HCC.out ?_; rintro r w4 ⟨rfl, hk4, hR4⟩; have z4 := HBX.out w4 hk4))
          all_goals
            have hrow4 := own_cut (HFIN.out w4 hk4).2 hLm
            have HNX := (show Hid _ from fun w6 v6 => HNEXT.out w4 rr w6 v6 0 ho hk4 (hR4 rr rfl))
            clear HCC hk4 hR4 z4 zD HBX HFIN HNEXT
            go_wp2_with (at_builtin; refine wpList_append_own_at _ rfl _ _ 23 rfl 0 3 i0 (.int .i64 0) 1 8 Tryz.underlying23 hi hz0 hz1 hz2 rfl (by decide) _ _ _ rfl (hrow4.alloc _) ⟨w4.heap.size, 0, none⟩ 1 1 [_] rfl rfl (cell_new1 _ _ _ _) (one_cell1 _ _) (by unfold maxLen; omega) (by omega) (Nat.zero_le _) ?_; intro v6 w6 k1 k2 _ k3; obtain ⟨a6, c6, rfl, _⟩ := row_slice k1; have HN6 := (show Hid _ from HNX.out w6 _ (by rw [vals_take]; exact k1) k2 k3); clear HNX hrow4 k1 k2 k3)
            have htk : L + 1 = (Q.take L ++ [rr.2]).length := by rw [List.length_append, List.length_take]; simp; omega
            go_roundw
            case rel =>
              obtain ⟨-, y2, y3, y4, y5, y6, y7, y8, y9⟩ := HN6.out
              rw [htk] at y2 y7 y8
              exact ⟨k + 1, rr.1, Q.take L ++ [rr.2], a6, c6, by omega, by go_num, by first | rfl | rw [← htk], HZ2.out, y2, y3, y4, y5, y6, y7, y8, y9⟩
            case measure => simp [intOf]; omega
    · obtain rfl : k = tl := by omega
      obtain ⟨q1, q2, q3, q4, q5, q6, q7, q8, q9⟩ := hH.out
      obtain ⟨hN, hSt, hll, hp, hI⟩ := HN.out
      have hc1 : cnt t k = 1 := by unfold cnt; rw [List.take_of_length_le (by omega), hp]; rfl
      have hQ1 : Q.length = 1 := by omega
      rw [List.drop_of_length_le (by omega)] at q1
      have HZ2 : Hid (runO cls t (g, []) = some (g1, Q)) := q1
      have hrow := q7
      rw [hQ1] at hrow
      obtain ⟨pg, cp, e, hgl, hcp⟩ : ∃ pg cp, (Value.slice pa 1 pc) = .slice (some ⟨pg, 0, none⟩) 1 cp ∧ pg < wo.heap.size ∧ wo.cell? ⟨pg, 0, none⟩ = some (.int .i64 (Q.getD 0 0)) := by
        rcases hrow.2 with ⟨_, h0⟩ | ⟨pg, cp, cur, e, _, hg, _⟩
        · omega
        · refine ⟨pg, cp, e, (Array.getElem?_eq_some_iff.1 hg).1, ?_⟩
          injection e with e1 e2 e3
          subst e1
          rw [hrow.cellAt 0 (by omega)]
          simp [vals, List.getD_eq_getElem?_getD, show 0 < Q.length by omega]
      injection e with e1 e2 e3
      subst e1
      subst e3
      have HE : Hid (KB S w wo ∧ R wo (fun b => S b ∨ w.heap.size ≤ b) g1) := ⟨q9, HRS.out wo wo _ _ g1 q2 (Nat.le_refl _) (fun _ _ _ => rfl) (fun b _ h => h.1)⟩
      obtain ⟨z, hz⟩ : ∃ z, Q.getD 0 0 = z := ⟨_, rfl⟩
      rw [hz] at hcp
      have HZz := (show Hid _ from hz)
      rw [hQ1]
      clear q1 q2 q3 q4 q5 q6 q7 q8 q9 hN hSt hll hp hI hrow hz hH H0 HN HK HRS HC HT
      go_wp2
      go_ret2
      refine ⟨?_, HE.out.1, ?_⟩
      · rw [HZ2.out]
        show _ = Ending.returned (.tuple #[.int .i64 (Q.getD 0 0), .bool true])
        rw [HZz.out] <;> rfl
      · rw [HZ2.out]
        exact fun r hr => by cases hr; exact HE.out.2
end Go.Proofs.YtobgkfpjokfbaaaGreatDoor
