/-
  PROVED HERE: what the program's find and put answer at a shelf of a good graph. No other condition. what the program's put answers at a shelf of a good graph. No other condition.
-/
import Derived.Test.YthkjmgjajmghmaaDoorRun22
namespace Go.Proofs.YthkjmgjajmghmaaDoor
open Go.ChangeShapes Go.WideShapes Go.ChangeAt Go.RowKit
open Go.MapKept Go.ChangeMaps
set_option linter.unusedVariables false

/-- A node whose kids are numbers of the graph. -/
structure Fits (g : GS) (op n : Int) (kids : List Int) : Prop where
  ok : nodeOk op n kids.length = true
  num : InI n
  rng : ∀ i, i < kids.length → ∃ y : Nat, kids.getD i 0 = y ∧ y < g.1.length
theorem nodeOk_ar {op n : Int} {m : Nat} (h : nodeOk op n m = true) : 0 ≤ ar op ∧ (m : Int) = ar op ∧ m ≤ 3 := by
  unfold nodeOk at h
  simp only [Bool.and_eq_true, decide_eq_true_eq] at h
  have := (ar_range op).2
  exact ⟨h.1.1, h.1.2, by omega⟩
theorem shO_kidsL {g : GS} (hg : GoodG g) {op n : Int} {kids : List Int} (h : Fits g op n kids) : shO g.2 (op, n, kidsL g.2 kids) = shO g.2 (op, n, kids) := by
  have one : ∀ t, partOf g.2 (kidsL g.2 kids) t = partOf g.2 kids t := fun t => by
    unfold partOf
    rw [kidsL_len]
    by_cases ht : t < kids.length
    · rw [if_pos ht, if_pos ht, kidsL_get g.2 kids ht]
      obtain ⟨y, h1, h2⟩ := h.rng t ht
      rw [h1, Int.toNat_natCast]
      exact hg.2.2.2.1 y (by rw [hg.2.1]; exact h2)
    · rw [if_neg ht, if_neg ht]
  simp only [shO, one]
theorem kidsL_cl {g : GS} (hg : GoodG g) {op n : Int} {kids : List Int} (h : Fits g op n kids) : ∀ c ∈ kidsL g.2 kids, IsCl g c := fun c hc => by
  obtain ⟨x, hx, rfl⟩ := List.mem_map.1 hc
  obtain ⟨i, hi, rfl⟩ := List.getElem_of_mem hx
  obtain ⟨y, h1, h2⟩ := h.rng i hi
  rw [getI_lt hi] at h1
  rw [h1, Int.toNat_natCast]
  have hp := hg.2.2.1 y (by rw [hg.2.1]; exact h2)
  exact ⟨hp.1, by omega, hg.2.2.2.1 y (by rw [hg.2.1]; exact h2)⟩
theorem fits_ok {g : GS} {op n : Int} {kids : List Int} (h : Fits g op n kids) : nodeOk (op, n, kidsL g.2 kids).1 (op, n, kidsL g.2 kids).2.1 (op, n, kidsL g.2 kids).2.2.length = true := by
  simp only [kidsL_len]; exact h.ok
theorem held_find {g : GS} (hg : GoodG g) {f : Sh → Option Int} (hh : Held g.1 g.2 g.1.length f) {op n : Int} {kids : List Int} (h : Fits g op n kids) : f (shO g.2 (op, n, kids)) = findL g.1 g.2 (op, n, kidsL g.2 kids) := by
  rw [← shO_kidsL hg h]
  have hcl := kidsL_cl hg h
  have hfit : fitE g.1.length (op, n, kidsL g.2 kids) = true := by
    unfold fitE
    rw [fits_ok h, Bool.true_and, kidsB_iff]
    intro c hc
    have := hcl c hc
    exact ⟨this.1, by have := this.2.1; omega⟩
  have hkc : KidsCl g.2 (kidsL g.2 kids) := fun c hc => (hcl c hc).2.2
  have same : ∀ i, i < g.1.length → shO g.2 (g.1.getD i e0) = shO g.2 (op, n, kidsL g.2 kids) → g.1.getD i e0 = (op, n, kidsL g.2 kids) := fun i hi e => sh_same (hg.1 i hi) hfit (hg.2.2.2.2 i hi).1 hkc e
  cases hfe : f (shO g.2 (op, n, kidsL g.2 kids)) with
  | none =>
    refine (findL_no fun j hj e => ?_).symm
    have := hh.1 j hj
    rw [e, hfe] at this
    cases this
  | some v =>
    obtain ⟨i, h1, h2, h3⟩ := hh.2 _ v hfe
    have e := same i h1 h2
    cases hfl : findL g.1 g.2 (op, n, kidsL g.2 kids) with
    | none => exact absurd e (findL_none hfl i h1)
    | some u =>
      obtain ⟨k, k1, k2, k3, k4⟩ := findL_some hfl
      have : g.2.getD k 0 = g.2.getD i 0 := by
        rcases Nat.lt_trichotomy i k with hlt | heq | hgt
        · exact absurd e (k4 i hlt)
        · rw [heq]
        · exact (hg.2.2.2.2 i h1).2 k hgt (by rw [e, k2])
      rw [← k3, this, h3]
theorem fits_sh {g : GS} (hg : GoodG g) (hl : g.1.length ≤ 1000) {op n : Int} {kids : List Int} (h : Fits g op n kids) : ShIn (shO g.2 (op, n, kids)) := sh_inG (by have := hg.2.1; omega) hg.2.2.1 (nodeOk_ar h.ok).1 h.num
end Go.Proofs.YthkjmgjajmghmaaDoor
namespace Go.Proofs.YthkjmgjajmghmaaDoor
open Go.ChangeShapes Go.WideShapes Go.ChangeAt Go.RowKit
open Go.MapKept Go.ChangeMaps
set_option linter.unusedVariables false

theorem partOf_add {l kids : List Int} {c : Int} (h : ∀ i, i < kids.length → ∃ y : Nat, kids.getD i 0 = y ∧ y < l.length) (t : Nat) : partOf (l ++ [c]) kids t = partOf l kids t := by
  unfold partOf
  by_cases ht : t < kids.length
  · rw [if_pos ht, if_pos ht]
    obtain ⟨y, h1, h2⟩ := h t ht
    rw [h1, Int.toNat_natCast, getD_old _ _ _ h2]
  · rw [if_neg ht, if_neg ht]
theorem shO_add {l : List Int} {x : EN} {c : Int} (h : ∀ i, i < x.2.2.length → ∃ y : Nat, x.2.2.getD i 0 = y ∧ y < l.length) : shO (l ++ [c]) x = shO l x := by
  simp only [shO, partOf_add h]
theorem held_add {g : GS} (hg : GoodG g) {f : Sh → Option Int} (hh : Held g.1 g.2 g.1.length f) {op n : Int} {kids : List Int} (h : Fits g op n kids) (hf : findL g.1 g.2 (op, n, kidsL g.2 kids) = none) :
    Held (g.1 ++ [(op, n, kidsL g.2 kids)]) (g.2 ++ [(g.1.length : Int)]) (g.1.length + 1) (setS f (shO g.2 (op, n, kids)) (some (g.1.length : Int))) := by
  have hl := hg.2.1
  have hcl := kidsL_cl hg h
  have e1 : shO (g.2 ++ [(g.1.length : Int)]) (op, n, kidsL g.2 kids) = shO g.2 (op, n, kids) := by
    rw [shO_add (x := (op, n, kidsL g.2 kids)) (fun i hi => ?_), shO_kidsL hg h]
    simp only at hi ⊢
    have := hcl _ (show (kidsL g.2 kids).getD i 0 ∈ kidsL g.2 kids by rw [getI_lt hi]; exact List.getElem_mem _)
    have h1 := this.1
    have h2 := this.2.1
    exact ⟨((kidsL g.2 kids).getD i 0).toNat, by omega, by omega⟩
  have old : ∀ i, i < g.1.length → shO (g.2 ++ [(g.1.length : Int)]) ((g.1 ++ [(op, n, kidsL g.2 kids)]).getD i e0) = shO g.2 (g.1.getD i e0) := fun i hi => by
    rw [getD_old _ _ _ hi]
    exact shO_add (fun j hj => (good_kids hg hi).2 j hj)
  have hfe : f (shO g.2 (op, n, kids)) = none := by rw [held_find hg hh h]; exact hf
  refine ⟨fun i hi => ?_, fun e v he => ?_⟩
  · unfold setS
    by_cases e : i < g.1.length
    · rw [old i e, getD_old _ _ _ (by omega)]
      have hhi := hh.1 i e
      rw [if_neg (fun e2 => ?_)]
      · exact hhi
      · rw [e2, hfe] at hhi; cases hhi
    · obtain rfl : i = g.1.length := by omega
      rw [getD_new, e1, if_pos rfl]
      have : (g.2 ++ [(g.1.length : Int)]).getD g.1.length 0 = (g.1.length : Int) := by rw [← hl]; exact getD_new _ _ _
      rw [this]
  · unfold setS at he
    by_cases e2 : e = shO g.2 (op, n, kids)
    · rw [if_pos e2] at he
      refine ⟨g.1.length, by omega, by rw [getD_new, e1, e2], ?_⟩
      have : (g.2 ++ [(g.1.length : Int)]).getD g.1.length 0 = (g.1.length : Int) := by rw [← hl]; exact getD_new _ _ _
      rw [this]; exact Option.some.inj he
    · rw [if_neg e2] at he
      obtain ⟨i, h1, h2, h3⟩ := hh.2 e v he
      exact ⟨i, by omega, by rw [old i h1]; exact h2, by rw [getD_old _ _ _ (by omega)]; exact h3⟩
/-- What the program's put tells. -/
def clsP (g : GS) (x : EN) : Option (GS × Int) := if findL g.1 g.2 x = none ∧ g.1.length = 120 then none else some (putL g x)
/-- The shelf while a node is put. -/
def Mid (w W : World) (S : Nat → Prop) (s m : Nat) (va vb : Value) (p : List EN) (l : List Int) (f : Sh → Option Int) : Prop :=
  W.cell? ⟨s, 0, none⟩ = some va ∧ W.cell? ⟨s, 1, none⟩ = some vb ∧ W.cell? ⟨s, 2, none⟩ = some (.map (some m)) ∧ W.frozen? ⟨s, 0, none⟩ = false ∧ W.frozen? ⟨s, 1, none⟩ = false ∧ SMap W m f ∧ GOwn W true (fun b => (S b ∧ b ≠ s ∧ b ≠ m ∧ b < w.heap.size) ∨ w.heap.size + 1 ≤ b) va vb (p, l) ∧ KB S w W
theorem Mid.keep {w W W' : World} {S : Nat → Prop} {s m : Nat} {va vb : Value} {p : List EN} {l : List Int} {f : Sh → Option Int} (h : Mid w W S s m va vb p l f) (hs : s < W.heap.size) (hm : m < W.heap.size) (hb : Below W.heap.size W W') : Mid w W' S s m va vb p l f := by
  obtain ⟨h1, h2, h3, h4, h5, h6, h7, h8⟩ := h
  exact ⟨(hb.cell (p := ⟨s, 0, none⟩) hs).trans h1, (hb.cell (p := ⟨s, 1, none⟩) hs).trans h2, (hb.cell (p := ⟨s, 2, none⟩) hs).trans h3, (hb.frozen (p := ⟨s, 0, none⟩) hs).trans h4, (hb.frozen (p := ⟨s, 1, none⟩) hs).trans h5, h6.keep hb, h7.keep hb, h8.trans (T := fun _ => False) (KB.of hb) (fun _ _ h => h.elim)⟩
/-- Nodes grew, and the shelf tells so. -/
theorem Mid.nodes {w W w7 : World} {S : Nat → Prop} {s m : Nat} {va va' vb kn : Value} {p : List EN} {l : List Int} {f : Sh → Option Int} {x : EN} {xs : List Value} (h : Mid w W S s m va vb p l f) (hsm : s ≠ m) (hS : S s ∧ S m ∧ s < w.heap.size ∧ m < w.heap.size) (hown : W.ownsRow 0 57 3 va p.length xs) (hrow : w7.ownsRow 0 57 3 va' (p.length + 1) (xs ++ [.int .i64 x.1, .int .i64 x.2.1, kn])) (hg : W.grownBy w7 va.ownBlock) (hat : va'.ownBlock = va.ownBlock ∨ va'.ownBlock = some W.heap.size) (hk : KidAt W true (fun b => w.heap.size + 1 ≤ b) kn x.2.2)
    (hkn : ∀ b, kn.ownBlock = some b → ∃ W0 : World, GOwn W0 true (fun b => (S b ∧ b ≠ s ∧ b ≠ m ∧ b < w.heap.size) ∨ w.heap.size + 1 ≤ b) va vb (p, l) ∧ Below W0.heap.size W0 W ∧ W0.heap.size ≤ b) (hsz : w.heap.size + 1 ≤ W.heap.size) :
    Mid w (w7.setCell ⟨s, 0, none⟩ va') S s m va' vb (p ++ [x]) l f ∧ w7.cell? ⟨s, 0, none⟩ = some va ∧ w7.cell? ⟨s, 1, none⟩ = some vb ∧ w7.frozen? ⟨s, 0, none⟩ = false := by
  obtain ⟨h1, h2, h3, h4, h5, h6, h7, h8⟩ := h
  have hra := h7.row.2.2.1
  have hne : ∀ b, va.ownBlock = some b → b ≠ s ∧ b ≠ m := fun b hb => by
    rcases hra b hb with h | h
    · exact ⟨h.2.1, h.2.2.1⟩
    · omega
  have hss : w7.heap[s]? = W.heap[s]? := hg.block s (by omega) (fun e => (hne s e.symm).1 rfl)
  have hmm : w7.heap[m]? = W.heap[m]? := hg.block m (by omega) (fun e => (hne m e.symm).2 rfl)
  have c0 := (World.cell?_of_block (a := ⟨s, 0, none⟩) hss).trans h1
  have c1 := (World.cell?_of_block (a := ⟨s, 1, none⟩) hss).trans h2
  have c2 := (World.cell?_of_block (a := ⟨s, 2, none⟩) hss).trans h3
  have f0 := (World.frozen?_of_block (a := ⟨s, 0, none⟩) hss).trans h4
  have f1 := (World.frozen?_of_block (a := ⟨s, 1, none⟩) hss).trans h5
  obtain ⟨a', c', rfl, _⟩ := row_slice hrow
  -- the kids' block is none of the graph's
  have hG : GOwn W true (fun b => ((S b ∧ b ≠ s ∧ b ≠ m ∧ b < w.heap.size) ∨ w.heap.size + 1 ≤ b) ∧ kn.ownBlock ≠ some b) va vb (p, l) := by
    obtain ⟨ka, kc, e, _, _, _, hin, hfz⟩ := hk
    obtain ⟨b0, hb0, _⟩ := hfz rfl
    have hob : kn.ownBlock = some b0 := by rw [e, hb0]; rfl
    obtain ⟨W0, g0, hb, hle⟩ := hkn b0 hob
    exact (g0.sets (S' := fun b => ((S b ∧ b ≠ s ∧ b ≠ m ∧ b < w.heap.size) ∨ w.heap.size + 1 ≤ b) ∧ kn.ownBlock ≠ some b) (fun b hl h => ⟨h, fun e2 => by rw [hob] at e2; injection e2; omega⟩)).keep hb
  have hGN := hG.addNode hown hrow hg hat (hk.map (Nat.le_refl _) (fun _ _ _ => rfl) (fun y hy hl h0 h1 => h1.2 hy))
  have hkin : ∀ b, kn.ownBlock = some b → w.heap.size + 1 ≤ b := fun b hb => by
    obtain ⟨ka, kc, e, _, _, _, hin, _⟩ := hk
    exact (hin b hb).1
  refine ⟨⟨?_, ?_, ?_, by simpa [go_sem] using f0, by simpa [go_sem] using f1, h6.block ?_, ?_, ?_⟩, c0, c1, f0⟩
  · simp [go_sem, *]
  · rw [World.cell?_setCell_other _ _ _ _ (fun e => by injection e; omega)]; exact c1
  · rw [World.cell?_setCell_other _ _ _ _ (fun e => by injection e; omega)]; exact c2
  · rw [setCell_block _ _ _ (show s ≠ m from hsm)]; exact hmm
  · refine hGN.map (by rw [setCell_size]; exact Nat.le_refl _) (fun b hb hl => setCell_block _ _ _ (fun e => ?_)) (fun b hl hb => ?_)
    · have e' : s = b := e
      rcases hb with hb | hb | hb
      · rcases hb.1 with hb | hb
        · exact hb.2.1 e'.symm
        · omega
      · omega
      · have := hkin b hb; omega
    · rcases hb with hb | hb | hb
      · exact hb.1
      · right; omega
      · right; exact hkin b hb
  · exact (h8.grown hg (fun y hy hl => by
      rcases hra y hy with h | h
      · exact h.1
      · omega)).setCell (p := ⟨s, 0, none⟩) (fun _ => hS.1) _
/-- Parts grew, and the shelf tells so. -/
theorem Mid.parts {w W w9 : World} {S : Nat → Prop} {s m : Nat} {va vb vb' : Value} {p : List EN} {l : List Int} {f : Sh → Option Int} {c : Int} (h : Mid w W S s m va vb p l f) (hsm : s ≠ m) (hS : S s ∧ S m ∧ s < w.heap.size ∧ m < w.heap.size) (hrow : w9.ownsRow 0 3 1 vb' (l.length + 1) (vals l ++ [.int .i64 c])) (hg : W.grownBy w9 vb.ownBlock) (hat : vb'.ownBlock = vb.ownBlock ∨ vb'.ownBlock = some W.heap.size) (hsz : w.heap.size + 1 ≤ W.heap.size) :
    Mid w (w9.setCell ⟨s, 1, none⟩ vb') S s m va vb' p (l ++ [c]) f ∧ w9.cell? ⟨s, 1, none⟩ = some vb ∧ w9.frozen? ⟨s, 1, none⟩ = false := by
  obtain ⟨h1, h2, h3, h4, h5, h6, h7, h8⟩ := h
  have hrb := h7.row.2.2.2
  have hne : ∀ b, vb.ownBlock = some b → b ≠ s ∧ b ≠ m := fun b hb => by
    rcases hrb b hb with h | h
    · exact ⟨h.2.1, h.2.2.1⟩
    · omega
  have hss : w9.heap[s]? = W.heap[s]? := hg.block s (by omega) (fun e => (hne s e.symm).1 rfl)
  have hmm : w9.heap[m]? = W.heap[m]? := hg.block m (by omega) (fun e => (hne m e.symm).2 rfl)
  have c0 := (World.cell?_of_block (a := ⟨s, 0, none⟩) hss).trans h1
  have c1 := (World.cell?_of_block (a := ⟨s, 1, none⟩) hss).trans h2
  have c2 := (World.cell?_of_block (a := ⟨s, 2, none⟩) hss).trans h3
  have f0 := (World.frozen?_of_block (a := ⟨s, 0, none⟩) hss).trans h4
  have f1 := (World.frozen?_of_block (a := ⟨s, 1, none⟩) hss).trans h5
  obtain ⟨b', c', rfl, _⟩ := row_slice hrow
  have hGP := h7.addPart hrow hg hat
  refine ⟨⟨?_, ?_, ?_, by simpa [go_sem] using f0, by simpa [go_sem] using f1, h6.block ?_, ?_, ?_⟩, c1, f1⟩
  · rw [World.cell?_setCell_other _ _ _ _ (fun e => by injection e; omega)]; exact c0
  · simp [go_sem, *]
  · rw [World.cell?_setCell_other _ _ _ _ (fun e => by injection e; omega)]; exact c2
  · rw [setCell_block _ _ _ (show s ≠ m from hsm)]; exact hmm
  · refine hGP.map (by rw [setCell_size]; exact Nat.le_refl _) (fun b hb hl => setCell_block _ _ _ (fun e => ?_)) (fun b hl hb => ?_)
    · have e' : s = b := e
      rcases hb with (hb | hb) | hb
      · exact hb.2.1 e'.symm
      · omega
      · omega
    · rcases hb with hb | hb
      · exact hb
      · right; omega
  · exact (h8.grown hg (fun y hy hl => by
      rcases hrb y hy with h | h
      · exact h.1
      · omega)).setCell (p := ⟨s, 1, none⟩) (fun _ => hS.1) _
end Go.Proofs.YthkjmgjajmghmaaDoor
