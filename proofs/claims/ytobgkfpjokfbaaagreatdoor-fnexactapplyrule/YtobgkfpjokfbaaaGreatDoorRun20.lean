/-
  PROVED HERE: what the model's AddTerm and FindTerm answer, at every graph and every list of nodes. No other condition. what the program's FindTerm answers, at every graph and every list of nodes, in a world whose table of arities is laid. No other condition. what the program's put answers at a shelf of a good graph. No other condition.
-/
import Derived.Test.YtobgkfpjokfbaaaGreatDoorRun16
import Derived.Test.YtobgkfpjokfbaaaGreatDoorRun19
import Derived.Test.YtobgkfpjokfbaaaGreatDoorRun1
import Derived.Test.YtobgkfpjokfbaaaGreatDoorRun18
namespace Go.Proofs.YtobgkfpjokfbaaaGreatDoor
open Go.ChangeShapes Go.WideShapes Go.ChangeAt Go.RowKit
set_option linter.unusedVariables false

/-- What comes of a graph that was put into, where it has room. -/
def roomA (r : GS × List Int) : Option (GS × Int) := if r.1.1.length ≤ 120 then some (r.1, r.2.getD 0 0) else none
def addT (p : List EN) (l : List Int) (t : List (Int × Int)) : Option (GS × Int) := if graphB p l && goodB t then roomA (runA none t ((p, l), [])) else none
def ansG (o : Option (GS × Int)) : GS := (o.map (fun r => r.1)).getD ([], [])
def ansC (o : Option (GS × Int)) : Int := (o.map (fun r => r.2)).getD 0
theorem gown_nil (w : World) (s : Bool) (S : Nat → Prop) : GOwn w s S (.slice none 0 0) (.slice none 0 0) ([], []) :=
  ⟨[], fun _ => undef, World.ownsRow_nil _ _ _ _, World.ownsRow_nil _ _ _ _, (fun x hx => by cases hx), (fun x hx => by cases hx), fun i hi => absurd hi (Nat.not_lt_zero _)⟩
theorem good_few {g : GS} (hg : GoodG g) : ∀ i, i < g.1.length → (g.1.getD i e0).2.2.length ≤ 3 := fun i hi => fit_few (hg.1 i hi)
theorem bok_none (g : GS) (t : List (Int × Int)) : BOk none g t := fun bs h => by cases h
/-- What FindTerm tells. -/
def findT (p : List EN) (l : List Int) (t : List (Int × Int)) : Option Int := match addT p l t with
  | some r => if p.length < r.1.1.length then none else some r.2
  | none => none
end Go.Proofs.YtobgkfpjokfbaaaGreatDoor
namespace Go.Proofs.YtobgkfpjokfbaaaGreatDoor
open Go.ChangeShapes Go.WideShapes Go.ChangeAt Go.RowKit
set_option linter.unusedVariables false

/-- The class that is found. -/
def clsFi : Cls := fun g n kids => (findL g.1 g.2 (n.1, n.2, kids)).map fun v => (g, v)
theorem clsFi_keeps : Keeps clsFi := ⟨fun g n kids r hg h120 hf hr => by
  unfold clsFi at hr
  cases hfl : findL g.1 g.2 (n.1, n.2, kids) with
  | none => rw [hfl] at hr; cases hr
  | some v =>
    rw [hfl] at hr
    cases hr
    have := putL_good hg (x := (n.1, n.2, kids)) hf.ok hf.cl
    rw [putL_some hfl] at this
    exact ⟨this.1, this.2.1, this.2.2.1, h120⟩⟩
theorem nfits_fits {g : GS} {n : Int × Int} {kids : List Int} (h : NFits g n kids) : Fits g n.1 n.2 kids ∧ kidsL g.2 kids = kids := by
  refine ⟨⟨h.ok, h.num, fun i hi => ?_⟩, kidsL_same (fun c hc => (h.cl c hc).2.2)⟩
  have := h.cl _ (show kids.getD i 0 ∈ kids by rw [getI_lt hi]; exact List.getElem_mem _)
  have h1 := this.1
  have h2 := this.2.1
  exact ⟨(kids.getD i 0).toNat, by omega, by omega⟩
theorem putL_ge (g : GS) (x : EN) : g.1.length ≤ (putL g x).1.1.length := by
  cases hf : findL g.1 g.2 x with
  | some v => rw [putL_some hf]; exact Nat.le_refl _
  | none => rw [putL_none hf]; simp
theorem runA_ge : ∀ (t : List (Int × Int)) (s : GS × List Int), s.1.1.length ≤ (runA none t s).1.1.length
  | [], s => Nat.le_refl _
  | n :: t, s => Nat.le_trans (putL_ge s.1 (n.1, n.2, s.2.drop (s.2.length - (ar n.1).toNat))) (runA_ge t (stepA none s n))
theorem find_run (g : GS) : ∀ (t : List (Int × Int)) (Q : List Int), (runO clsFi t (g, Q) = some (runA none t (g, Q)) ∧ (runA none t (g, Q)).1 = g) ∨ (runO clsFi t (g, Q) = none ∧ g.1.length < (runA none t (g, Q)).1.1.length)
  | [], Q => .inl ⟨rfl, rfl⟩
  | n :: t, Q => by
    cases hf : findL g.1 g.2 (n.1, n.2, Q.drop (Q.length - (ar n.1).toNat)) with
    | some v =>
      have e1 : stepO clsFi (g, Q) n = some (g, Q.take (Q.length - (ar n.1).toNat) ++ [v]) := stepO_some (r := (g, v)) (by unfold clsFi; rw [hf]; rfl)
      have e2 : stepA none (g, Q) n = (g, Q.take (Q.length - (ar n.1).toNat) ++ [v]) := by
        unfold stepA classA
        simp only
        rw [putL_some hf]
      have ih := find_run g t (Q.take (Q.length - (ar n.1).toNat) ++ [v])
      show ((stepO clsFi (g, Q) n).bind (runO clsFi t) = some (runA none t (stepA none (g, Q) n)) ∧ (runA none t (stepA none (g, Q) n)).1 = g) ∨ ((stepO clsFi (g, Q) n).bind (runO clsFi t) = none ∧ g.1.length < (runA none t (stepA none (g, Q) n)).1.1.length)
      rw [e1, e2]
      exact ih
    | none =>
      have e1 : stepO clsFi (g, Q) n = none := stepO_none (by unfold clsFi; rw [hf]; rfl)
      refine .inr ⟨?_, ?_⟩
      · show (stepO clsFi (g, Q) n).bind (runO clsFi t) = none
        rw [e1]; rfl
      · have h1 := runA_ge t (stepA none (g, Q) n)
        have h2 : (stepA none (g, Q) n).1.1.length = g.1.length + 1 := by
          unfold stepA classA
          simp only
          rw [putL_none hf]; simp
        show g.1.length < (runA none t (stepA none (g, Q) n)).1.1.length
        omega
theorem findT_run {p : List EN} {l : List Int} {t : List (Int × Int)} (hg : graphB p l = true) (ht : goodB t = true) : findT p l t = (runO clsFi t ((p, l), [])).map (fun r => r.2.getD 0 0) := by
  have h120 := ((graphB_good p l).1 hg).1
  unfold findT addT
  rw [hg, ht]
  simp only [Bool.and_self, if_pos]
  rcases find_run (p, l) t [] with ⟨h1, h2⟩ | ⟨h1, h2⟩
  · rw [h1]
    unfold roomA
    rw [h2]
    simp only
    rw [if_pos h120]
    simp
  · rw [h1]
    simp only at h2
    unfold roomA
    by_cases h00 : (runA none t ((p, l), [])).1.1.length ≤ 120
    · rw [if_pos h00]; simp only; rw [if_pos h2]; rfl
    · rw [if_neg h00]; rfl
end Go.Proofs.YtobgkfpjokfbaaaGreatDoor
namespace Go.Proofs.YtobgkfpjokfbaaaGreatDoor
open Go.ChangeShapes Go.WideShapes Go.ChangeAt Go.RowKit
open Go.MapKept Go.ChangeMaps
set_option linter.unusedVariables false

theorem partOf_add {l kids : List Int} {c : Int} (h : ∀ i, i < kids.length → ∃ y : Nat, kids.getD i 0 = y ∧ y < l.length) (t : Nat) : partOf (l ++ [c]) kids t = partOf l kids t := by
  unfold partOf
  by_cases ht : t < kids.length
  · rw [if_pos ht, if_pos ht]
    obtain ⟨y, h1, h2⟩ := h t ht
    rw [h1, Int.toNat_natCast, getD_old _ _ _ h2]
  · rw [if_neg ht, if_neg ht]
theorem shO_add {l : List Int} {x : EN} {c : Int} (h : ∀ i, i < x.2.2.length → ∃ y : Nat, x.2.2.getD i 0 = y ∧ y < l.length) : shO (l ++ [c]) x = shO l x := by
  simp only [shO, partOf_add h]
theorem held_add {g : GS} (hg : GoodG g) {f : Sh → Option Int} (hh : Held g.1 g.2 g.1.length f) {op n : Int} {kids : List Int} (h : Fits g op n kids) (hf : findL g.1 g.2 (op, n, kidsL g.2 kids) = none) :
    Held (g.1 ++ [(op, n, kidsL g.2 kids)]) (g.2 ++ [(g.1.length : Int)]) (g.1.length + 1) (setS f (shO g.2 (op, n, kids)) (some (g.1.length : Int))) := by
  have hl := hg.2.1
  have hcl := kidsL_cl hg h
  have e1 : shO (g.2 ++ [(g.1.length : Int)]) (op, n, kidsL g.2 kids) = shO g.2 (op, n, kids) := by
    rw [shO_add (x := (op, n, kidsL g.2 kids)) (fun i hi => ?_), shO_kidsL hg h]
    simp only at hi ⊢
    have := hcl _ (show (kidsL g.2 kids).getD i 0 ∈ kidsL g.2 kids by rw [getI_lt hi]; exact List.getElem_mem _)
    have h1 := this.1
    have h2 := this.2.1
    exact ⟨((kidsL g.2 kids).getD i 0).toNat, by omega, by omega⟩
  have old : ∀ i, i < g.1.length → shO (g.2 ++ [(g.1.length : Int)]) ((g.1 ++ [(op, n, kidsL g.2 kids)]).getD i e0) = shO g.2 (g.1.getD i e0) := fun i hi => by
    rw [getD_old _ _ _ hi]
    exact shO_add (fun j hj => (good_kids hg hi).2 j hj)
  have hfe : f (shO g.2 (op, n, kids)) = none := by rw [held_find hg hh h]; exact hf
  refine ⟨fun i hi => ?_, fun e v he => ?_⟩
  · unfold setS
    by_cases e : i < g.1.length
    · rw [old i e, getD_old _ _ _ (by omega)]
      have hhi := hh.1 i e
      rw [if_neg (fun e2 => ?_)]
      · exact hhi
      · rw [e2, hfe] at hhi; cases hhi
    · obtain rfl : i = g.1.length := by omega
      rw [getD_new, e1, if_pos rfl]
      have : (g.2 ++ [(g.1.length : Int)]).getD g.1.length 0 = (g.1.length : Int) := by rw [← hl]; exact getD_new _ _ _
      rw [this]
  · unfold setS at he
    by_cases e2 : e = shO g.2 (op, n, kids)
    · rw [if_pos e2] at he
      refine ⟨g.1.length, by omega, by rw [getD_new, e1, e2], ?_⟩
      have : (g.2 ++ [(g.1.length : Int)]).getD g.1.length 0 = (g.1.length : Int) := by rw [← hl]; exact getD_new _ _ _
      rw [this]; exact Option.some.inj he
    · rw [if_neg e2] at he
      obtain ⟨i, h1, h2, h3⟩ := hh.2 e v he
      exact ⟨i, by omega, by rw [old i h1]; exact h2, by rw [getD_old _ _ _ (by omega)]; exact h3⟩
/-- What the program's put tells. -/
def clsP (g : GS) (x : EN) : Option (GS × Int) := if findL g.1 g.2 x = none ∧ g.1.length = 120 then none else some (putL g x)
/-- The shelf while a node is put. -/
def Mid (w W : World) (S : Nat → Prop) (s m : Nat) (va vb : Value) (p : List EN) (l : List Int) (f : Sh → Option Int) : Prop :=
  W.cell? ⟨s, 0, none⟩ = some va ∧ W.cell? ⟨s, 1, none⟩ = some vb ∧ W.cell? ⟨s, 2, none⟩ = some (.map (some m)) ∧ W.frozen? ⟨s, 0, none⟩ = false ∧ W.frozen? ⟨s, 1, none⟩ = false ∧ SMap W m f ∧ GOwn W true (fun b => (S b ∧ b ≠ s ∧ b ≠ m ∧ b < w.heap.size) ∨ w.heap.size + 1 ≤ b) va vb (p, l) ∧ KB S w W
theorem Mid.keep {w W W' : World} {S : Nat → Prop} {s m : Nat} {va vb : Value} {p : List EN} {l : List Int} {f : Sh → Option Int} (h : Mid w W S s m va vb p l f) (hs : s < W.heap.size) (hm : m < W.heap.size) (hb : Below W.heap.size W W') : Mid w W' S s m va vb p l f := by
  obtain ⟨h1, h2, h3, h4, h5, h6, h7, h8⟩ := h
  exact ⟨(hb.cell (p := ⟨s, 0, none⟩) hs).trans h1, (hb.cell (p := ⟨s, 1, none⟩) hs).trans h2, (hb.cell (p := ⟨s, 2, none⟩) hs).trans h3, (hb.frozen (p := ⟨s, 0, none⟩) hs).trans h4, (hb.frozen (p := ⟨s, 1, none⟩) hs).trans h5, h6.keep hb, h7.keep hb, h8.trans (T := fun _ => False) (KB.of hb) (fun _ _ h => h.elim)⟩
/-- Nodes grew, and the shelf tells so. -/
theorem Mid.nodes {w W w7 : World} {S : Nat → Prop} {s m : Nat} {va va' vb kn : Value} {p : List EN} {l : List Int} {f : Sh → Option Int} {x : EN} {xs : List Value} (h : Mid w W S s m va vb p l f) (hsm : s ≠ m) (hS : S s ∧ S m ∧ s < w.heap.size ∧ m < w.heap.size) (hown : W.ownsRow 0 80 3 va p.length xs) (hrow : w7.ownsRow 0 80 3 va' (p.length + 1) (xs ++ [.int .i64 x.1, .int .i64 x.2.1, kn])) (hg : W.grownBy w7 va.ownBlock) (hat : va'.ownBlock = va.ownBlock ∨ va'.ownBlock = some W.heap.size) (hk : KidAt W true (fun b => w.heap.size + 1 ≤ b) kn x.2.2)
    (hkn : ∀ b, kn.ownBlock = some b → ∃ W0 : World, GOwn W0 true (fun b => (S b ∧ b ≠ s ∧ b ≠ m ∧ b < w.heap.size) ∨ w.heap.size + 1 ≤ b) va vb (p, l) ∧ Below W0.heap.size W0 W ∧ W0.heap.size ≤ b) (hsz : w.heap.size + 1 ≤ W.heap.size) :
    Mid w (w7.setCell ⟨s, 0, none⟩ va') S s m va' vb (p ++ [x]) l f ∧ w7.cell? ⟨s, 0, none⟩ = some va ∧ w7.cell? ⟨s, 1, none⟩ = some vb ∧ w7.frozen? ⟨s, 0, none⟩ = false := by
  obtain ⟨h1, h2, h3, h4, h5, h6, h7, h8⟩ := h
  have hra := h7.row.2.2.1
  have hne : ∀ b, va.ownBlock = some b → b ≠ s ∧ b ≠ m := fun b hb => by
    rcases hra b hb with h | h
    · exact ⟨h.2.1, h.2.2.1⟩
    · omega
  have hss : w7.heap[s]? = W.heap[s]? := hg.block s (by omega) (fun e => (hne s e.symm).1 rfl)
  have hmm : w7.heap[m]? = W.heap[m]? := hg.block m (by omega) (fun e => (hne m e.symm).2 rfl)
  have c0 := (World.cell?_of_block (a := ⟨s, 0, none⟩) hss).trans h1
  have c1 := (World.cell?_of_block (a := ⟨s, 1, none⟩) hss).trans h2
  have c2 := (World.cell?_of_block (a := ⟨s, 2, none⟩) hss).trans h3
  have f0 := (World.frozen?_of_block (a := ⟨s, 0, none⟩) hss).trans h4
  have f1 := (World.frozen?_of_block (a := ⟨s, 1, none⟩) hss).trans h5
  obtain ⟨a', c', rfl, _⟩ := row_slice hrow
  -- the kids' block is none of the graph's
  have hG : GOwn W true (fun b => ((S b ∧ b ≠ s ∧ b ≠ m ∧ b < w.heap.size) ∨ w.heap.size + 1 ≤ b) ∧ kn.ownBlock ≠ some b) va vb (p, l) := by
    obtain ⟨ka, kc, e, _, _, _, hin, hfz⟩ := hk
    obtain ⟨b0, hb0, _⟩ := hfz rfl
    have hob : kn.ownBlock = some b0 := by rw [e, hb0]; rfl
    obtain ⟨W0, g0, hb, hle⟩ := hkn b0 hob
    exact (g0.sets (S' := fun b => ((S b ∧ b ≠ s ∧ b ≠ m ∧ b < w.heap.size) ∨ w.heap.size + 1 ≤ b) ∧ kn.ownBlock ≠ some b) (fun b hl h => ⟨h, fun e2 => by rw [hob] at e2; injection e2; omega⟩)).keep hb
  have hGN := hG.addNode hown hrow hg hat (hk.map (Nat.le_refl _) (fun _ _ _ => rfl) (fun y hy hl h0 h1 => h1.2 hy))
  have hkin : ∀ b, kn.ownBlock = some b → w.heap.size + 1 ≤ b := fun b hb => by
    obtain ⟨ka, kc, e, _, _, _, hin, _⟩ := hk
    exact (hin b hb).1
  refine ⟨⟨?_, ?_, ?_, by simpa [go_sem] using f0, by simpa [go_sem] using f1, h6.block ?_, ?_, ?_⟩, c0, c1, f0⟩
  · simp [go_sem, *]
  · rw [World.cell?_setCell_other _ _ _ _ (fun e => by injection e; omega)]; exact c1
  · rw [World.cell?_setCell_other _ _ _ _ (fun e => by injection e; omega)]; exact c2
  · rw [setCell_block _ _ _ (show s ≠ m from hsm)]; exact hmm
  · refine hGN.map (by rw [setCell_size]; exact Nat.le_refl _) (fun b hb hl => setCell_block _ _ _ (fun e => ?_)) (fun b hl hb => ?_)
    · have e' : s = b := e
      rcases hb with hb | hb | hb
      · rcases hb.1 with hb | hb
        · exact hb.2.1 e'.symm
        · omega
      · omega
      · have := hkin b hb; omega
    · rcases hb with hb | hb | hb
      · exact hb.1
      · right; omega
      · right; exact hkin b hb
  · exact (h8.grown hg (fun y hy hl => by
      rcases hra y hy with h | h
      · exact h.1
      · omega)).setCell (p := ⟨s, 0, none⟩) (fun _ => hS.1) _
/-- Parts grew, and the shelf tells so. -/
theorem Mid.parts {w W w9 : World} {S : Nat → Prop} {s m : Nat} {va vb vb' : Value} {p : List EN} {l : List Int} {f : Sh → Option Int} {c : Int} (h : Mid w W S s m va vb p l f) (hsm : s ≠ m) (hS : S s ∧ S m ∧ s < w.heap.size ∧ m < w.heap.size) (hrow : w9.ownsRow 0 3 1 vb' (l.length + 1) (vals l ++ [.int .i64 c])) (hg : W.grownBy w9 vb.ownBlock) (hat : vb'.ownBlock = vb.ownBlock ∨ vb'.ownBlock = some W.heap.size) (hsz : w.heap.size + 1 ≤ W.heap.size) :
    Mid w (w9.setCell ⟨s, 1, none⟩ vb') S s m va vb' p (l ++ [c]) f ∧ w9.cell? ⟨s, 1, none⟩ = some vb ∧ w9.frozen? ⟨s, 1, none⟩ = false := by
  obtain ⟨h1, h2, h3, h4, h5, h6, h7, h8⟩ := h
  have hrb := h7.row.2.2.2
  have hne : ∀ b, vb.ownBlock = some b → b ≠ s ∧ b ≠ m := fun b hb => by
    rcases hrb b hb with h | h
    · exact ⟨h.2.1, h.2.2.1⟩
    · omega
  have hss : w9.heap[s]? = W.heap[s]? := hg.block s (by omega) (fun e => (hne s e.symm).1 rfl)
  have hmm : w9.heap[m]? = W.heap[m]? := hg.block m (by omega) (fun e => (hne m e.symm).2 rfl)
  have c0 := (World.cell?_of_block (a := ⟨s, 0, none⟩) hss).trans h1
  have c1 := (World.cell?_of_block (a := ⟨s, 1, none⟩) hss).trans h2
  have c2 := (World.cell?_of_block (a := ⟨s, 2, none⟩) hss).trans h3
  have f0 := (World.frozen?_of_block (a := ⟨s, 0, none⟩) hss).trans h4
  have f1 := (World.frozen?_of_block (a := ⟨s, 1, none⟩) hss).trans h5
  obtain ⟨b', c', rfl, _⟩ := row_slice hrow
  have hGP := h7.addPart hrow hg hat
  refine ⟨⟨?_, ?_, ?_, by simpa [go_sem] using f0, by simpa [go_sem] using f1, h6.block ?_, ?_, ?_⟩, c1, f1⟩
  · rw [World.cell?_setCell_other _ _ _ _ (fun e => by injection e; omega)]; exact c0
  · simp [go_sem, *]
  · rw [World.cell?_setCell_other _ _ _ _ (fun e => by injection e; omega)]; exact c2
  · rw [setCell_block _ _ _ (show s ≠ m from hsm)]; exact hmm
  · refine hGP.map (by rw [setCell_size]; exact Nat.le_refl _) (fun b hb hl => setCell_block _ _ _ (fun e => ?_)) (fun b hl hb => ?_)
    · have e' : s = b := e
      rcases hb with (hb | hb) | hb
      · exact hb.2.1 e'.symm
      · omega
      · omega
    · rcases hb with hb | hb
      · exact hb
      · right; omega
  · exact (h8.grown hg (fun y hy hl => by
      rcases hrb y hy with h | h
      · exact h.1
      · omega)).setCell (p := ⟨s, 1, none⟩) (fun _ => hS.1) _
end Go.Proofs.YtobgkfpjokfbaaaGreatDoor
