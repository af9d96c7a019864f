/-
  PROVED HERE: the laws' own drawn sums of products: some list of products, not too long, in new memory, whatever the bytes. No condition. what PowerOf answers, the program's and the model's, at every number. No condition. what EvalPoly answers, the program's and the model's, at every list of products and every list of values. No other condition. what PowerOf answers, the program's and the model's, at every number. No condition.
-/
import Derived.Test.YtkadanagmahhgaaGreatDoorTail2
import Derived.Test.YtkadanagmahhgaaGreatDoorRun28
import Derived.Deep.RegionHeld3
import Derived.Test.YtkadanagmahhgaaGreatDoorRows
import Derived.WalkKit
import Derived.ProofKit
import Derived.OpenShut
import Derived.Handy
import Derived.Test.YtkadanagmahhgaaGreatDoorRun30
namespace Go.Proofs.YtkadanagmahhgaaGreatDoor
open Go.ChangeShapes Go.WideShapes Go.ChangeAt Go.RowKit
set_option linter.unusedVariables false

theorem chooseL {α : Type} (d : α) {n : Nat} {P : Nat → α → Prop} (h : ∀ i, i < n → ∃ x, P i x) : ∃ f : Nat → α, ∀ i, i < n → P i (f i) :=
  ⟨fun i => if h' : i < n then (h i h').choose else d, fun i hi => by show P i (if h' : i < n then (h i h').choose else d); rw [dif_pos hi]; exact (h i hi).choose_spec⟩
/-- Some numbers, some products, in blocks from B on. -/
def AnyI (w : World) (B : Nat) (a : Option Addr) (l : Nat) : Prop := l = 0 ∨ ∃ b o, a = some ⟨b, o, none⟩ ∧ B ≤ b ∧ b < w.heap.size ∧ ∀ j, j < l → ∃ z : Int, w.cell? ⟨b, o + j, none⟩ = some (.int .i64 z)
def AnyQ (w : World) (B : Nat) (v : Value) (n : Nat) : Prop := ∃ a cap, v = .slice a n cap ∧ (n = 0 ∨ ∃ b off, a = some ⟨b, off, none⟩ ∧ B ≤ b ∧ b < w.heap.size ∧ ∀ i, i < n → ∃ ai li ci, w.cell? ⟨b, off + i * 2, none⟩ = some (.slice ai li ci) ∧ li ≤ 9223372036854775807 ∧ li ≤ ci ∧ AnyI w B ai li ∧ ∃ z : Int, w.cell? ⟨b, off + i * 2 + 1, none⟩ = some (.int .i64 z) ∧ InI z)
theorem AnyI.list {w : World} {B : Nat} {a : Option Addr} {l : Nat} (h : AnyI w B a l) : ∃ e, Sl w a l e := by
  rcases h with rfl | ⟨b, o, rfl, _, hb, hc⟩
  · exact ⟨[], rfl, .inl rfl⟩
  · obtain ⟨f, hf⟩ := chooseL (0 : Int) hc
    refine ⟨(List.range l).map f, by simp, .inr ⟨b, o, rfl, hb, fun i hi => ?_⟩⟩
    have e : ((List.range l).map f).getD i 0 = f i := by simp [List.getD_eq_getElem?_getD, hi]
    rw [e]
    exact hf i hi
theorem AnyQ.list {w : World} {B : Nat} {v : Value} {n : Nat} (h : AnyQ w B v n) : ∃ q, SpecV w v q ∧ (∀ x ∈ q, InI x.2) ∧ q.length = n := by
  obtain ⟨a, cap, rfl, h⟩ := h
  rcases h with rfl | ⟨b, off, rfl, _, hb, hc⟩
  · exact ⟨[], ⟨a, cap, rfl, rfl, .inl rfl⟩, (fun x hx => by cases hx), rfl⟩
  · have hc' : ∀ i, i < n → ∃ m : Mon, ∃ ai li ci, w.cell? ⟨b, off + i * 2, none⟩ = some (.slice ai li ci) ∧ li ≤ 9223372036854775807 ∧ li ≤ ci ∧ Sl w ai li m.1 ∧ w.cell? ⟨b, off + i * 2 + 1, none⟩ = some (.int .i64 m.2) ∧ InI m.2 := fun i hi => by
      obtain ⟨ai, li, ci, h1, h2, h3, h4, z, h5, h6⟩ := hc i hi
      obtain ⟨e, he⟩ := h4.list
      exact ⟨(e, z), ai, li, ci, h1, h2, h3, he, h5, h6⟩
    obtain ⟨f, hf⟩ := chooseL (([], 0) : Mon) hc'
    refine ⟨(List.range n).map f, ⟨some ⟨b, off, none⟩, cap, by simp, by simp, ?_⟩, fun x hx => ?_, by simp⟩
    · by_cases h0 : n = 0
      · exact .inl (by simp [h0])
      · refine .inr ⟨b, off, rfl, hb, fun i hi => ?_⟩
        have hi' : i < n := by simpa using hi
        have e : ((List.range n).map f).getD i ([], 0) = f i := by simp [List.getD_eq_getElem?_getD, hi']
        rw [e]
        obtain ⟨ai, li, ci, h1, h2, h3, h4, h5, _⟩ := hf i hi'
        exact ⟨ai, li, ci, h1, h2, h3, h4, h5⟩
    · simp only [List.mem_map, List.mem_range] at hx
      obtain ⟨i, hi, rfl⟩ := hx
      obtain ⟨ai, li, ci, _, _, _, _, _, h6⟩ := hf i hi
      exact h6
theorem AnyI.map {w w' : World} {B : Nat} {a : Option Addr} {l : Nat} (h : AnyI w B a l) (hs : w.heap.size ≤ w'.heap.size) (hk : ∀ b o, B ≤ b → b < w.heap.size → ∀ z : Int, w.cell? ⟨b, o, none⟩ = some (.int .i64 z) → ∃ z' : Int, w'.cell? ⟨b, o, none⟩ = some (.int .i64 z')) : AnyI w' B a l := by
  rcases h with rfl | ⟨b, o, rfl, h1, hb, hc⟩
  · exact .inl rfl
  · exact .inr ⟨b, o, rfl, h1, by omega, fun j hj => by obtain ⟨z, hz⟩ := hc j hj; exact hk b _ h1 hb z hz⟩
theorem AnyQ.map {w w' : World} {B : Nat} {v : Value} {n : Nat} (h : AnyQ w B v n) (hs : w.heap.size ≤ w'.heap.size) (hk : ∀ b o, B ≤ b → b < w.heap.size → ∀ z : Int, w.cell? ⟨b, o, none⟩ = some (.int .i64 z) → ∃ z' : Int, w'.cell? ⟨b, o, none⟩ = some (.int .i64 z') ∧ (InI z → InI z')) (hl : ∀ b o, B ≤ b → b < w.heap.size → ∀ a l c, w.cell? ⟨b, o, none⟩ = some (.slice a l c) → w'.cell? ⟨b, o, none⟩ = some (.slice a l c)) : AnyQ w' B v n := by
  obtain ⟨a, cap, rfl, h⟩ := h
  refine ⟨a, cap, rfl, ?_⟩
  rcases h with rfl | ⟨b, off, rfl, h1, hb, hc⟩
  · exact .inl rfl
  · refine .inr ⟨b, off, rfl, h1, by omega, fun i hi => ?_⟩
    obtain ⟨ai, li, ci, k1, k2, k3, k4, z, k5, k6⟩ := hc i hi
    obtain ⟨z', k7, k8⟩ := hk b _ h1 hb z k5
    exact ⟨ai, li, ci, hl b _ h1 hb _ _ _ k1, k2, k3, k4.map hs (fun b o g1 g2 z hz => by obtain ⟨z', q1, _⟩ := hk b o g1 g2 z hz; exact ⟨z', q1⟩), z', k7, k8 k6⟩
theorem AnyQ.blocks {w w' : World} {B : Nat} {v : Value} {n : Nat} (h : AnyQ w B v n) (hs : w.heap.size ≤ w'.heap.size) (hk : ∀ b, B ≤ b → b < w.heap.size → w'.heap[b]? = w.heap[b]?) : AnyQ w' B v n :=
  h.map hs (fun b o h1 h2 z hz => ⟨z, (World.cell?_of_block (a := ⟨b, o, none⟩) (hk b h1 h2)).trans hz, id⟩) (fun b o h1 h2 a l c hz => (World.cell?_of_block (a := ⟨b, o, none⟩) (hk b h1 h2)).trans hz)
theorem AnyQ.keep {w w' : World} {B : Nat} {v : Value} {n : Nat} (h : AnyQ w B v n) (hb : Below w.heap.size w w') : AnyQ w' B v n := h.blocks hb.size (fun b _ hs => hb.block b hs)
theorem AnyQ.grown {w w' : World} {B c : Nat} {v : Value} {n : Nat} (h : AnyQ w B v n) (hg : w.grownBy w' (some c)) (hc : c < B) : AnyQ w' B v n := h.blocks hg.size (fun b h1 hs => hg.block b hs (fun e => by cases e; omega))
theorem AnyQ.base {w : World} {B B' : Nat} {v : Value} {n : Nat} (h : AnyQ w B v n) (hb : B' ≤ B) : AnyQ w B' v n := by
  obtain ⟨a, cap, rfl, h⟩ := h
  refine ⟨a, cap, rfl, ?_⟩
  rcases h with rfl | ⟨b, off, rfl, h1, hbl, hc⟩
  · exact .inl rfl
  · refine .inr ⟨b, off, rfl, by omega, hbl, fun i hi => ?_⟩
    obtain ⟨ai, li, ci, k1, k2, k3, k4, k5⟩ := hc i hi
    refine ⟨ai, li, ci, k1, k2, k3, ?_, k5⟩
    rcases k4 with rfl | ⟨b', o', rfl, g1, g2, g3⟩
    · exact .inl rfl
    · exact .inr ⟨b', o', rfl, by omega, g2, g3⟩
/-- A number is written where a number was. -/
theorem AnyQ.set {w : World} {B : Nat} {v : Value} {n : Nat} (h : AnyQ w B v n) (p : Addr) (y x : Int) (hy : w.cell? p = some (.int .i64 y)) (hx : InI x) : AnyQ (w.setCell p (.int .i64 x)) B v n := by
  refine h.map (by simp [World.setCell]) (fun b o _ _ z hz => ?_) (fun b o _ _ a l c hz => ?_)
  · by_cases e : p = ⟨b, o, none⟩
    · subst e
      exact ⟨x, World.cell?_setCell_same _ _ _ hy, fun _ => hx⟩
    · exact ⟨z, by rw [World.cell?_setCell_other _ _ _ _ e]; exact hz, id⟩
  · have e : p ≠ ⟨b, o, none⟩ := fun e => by subst e; rw [hz] at hy; cases hy
    rw [World.cell?_setCell_other _ _ _ _ e]; exact hz
theorem AnyQ.row {w : World} {B : Nat} {v : Value} {vs : List (Value × Int)} {q : List Mon} (h : PRow w B (fun b => B ≤ b) v vs q) (hq : ∀ x ∈ q, InI x.2) : AnyQ w B v q.length := by
  obtain ⟨h1, h2, h3⟩ := h
  rcases h1.2 with ⟨rfl, h0⟩ | ⟨g, cap, cur, rfl, hb, hg, _⟩
  · exact ⟨none, 0, by rw [h0], .inl h0⟩
  · refine ⟨_, _, rfl, .inr ⟨g, 0, rfl, hb, Array.getElem?_eq_some_iff.1 hg |>.1, fun i hi => ?_⟩⟩
    obtain ⟨k1, k2⟩ := flatV_get vs i (by omega)
    obtain ⟨⟨b', o', l', c', e1, e2, e3, e4, e5, e6, e7⟩, e8⟩ := h3 i hi
    rw [e1] at k1
    rw [Nat.zero_add]
    refine ⟨_, l', c', (h1.cellAt (i * 2) (by omega)).trans k1, by omega, e2, .inr ⟨b', o', rfl, e4.1, e5, fun j hj => ⟨_, e7 j hj⟩⟩, _, (h1.cellAt (i * 2 + 1) (by omega)).trans k2, ?_⟩
    rw [e8]
    exact hq _ (by rw [List.getD_eq_getElem?_getD, List.getElem?_eq_getElem hi]; exact List.getElem_mem hi)

end Go.Proofs.YtkadanagmahhgaaGreatDoor
namespace Go.Proofs.YtkadanagmahhgaaGreatDoor
open Go.ChangeShapes Go.WideShapes Go.ChangeAt Go.RowKit
set_option linter.unusedVariables false

/-- The power, reckoned step by step, wrapped at each. -/
def pw (a : Int) : Nat → Int
  | 0 => 1
  | n + 1 => wrap64 (pw a n * a)
end Go.Proofs.YtkadanagmahhgaaGreatDoor
namespace Go.Proofs.YtkadanagmahhgaaGreatDoor
open Go.ChangeShapes Go.WideShapes Go.ChangeAt Go.RowKit
set_option linter.unusedVariables false

/-- A product's value, power by power. -/
def monF : Int → List Int → List Int → Int
  | x, n :: r, v :: env => monF (wrap64 (x * pw v n.toNat)) r env
  | x, _, _ => x
/-- A sum's value, product by product. -/
def sumF (env : List Int) : Int → List Mon → Int
  | s, [] => s
  | s, m :: r => sumF env (wrap64 (s + monF m.2 m.1 env)) r
def evalPok (p : List Mon) (env : List Int) : Bool := polyB p && decide (env.length = 4)
def evalPV (p : List Mon) (env : List Int) : Int := if evalPok p env = true then sumF env 0 p else 0
theorem gpF_all : ∀ (prev : Option (List Int)) (p : List Mon), gpF prev p = true → ∀ x ∈ p, powB x.1 = true ∧ x.2 ≠ 0
  | _, [], _, _, hx => by cases hx
  | prev, m :: r, h, x, hx => by
    rw [gpF, Bool.and_eq_true] at h
    rcases List.mem_cons.1 hx with rfl | hx
    · have h1 := h.1
      unfold fitM at h1
      rw [Bool.and_eq_true, Bool.and_eq_true] at h1
      exact ⟨h1.1.1, by simpa using h1.1.2⟩
    · exact gpF_all _ r h.2 x hx
theorem polyB_all {p : List Mon} (h : polyB p = true) : ∀ x ∈ p, powB x.1 = true ∧ x.2 ≠ 0 := by
  unfold polyB at h
  rw [Bool.and_eq_true] at h
  exact gpF_all _ p h.1
theorem polyB_len {p : List Mon} (h : polyB p = true) : p.length ≤ 40 := by
  unfold polyB at h
  rw [Bool.and_eq_true] at h
  exact of_decide_eq_true h.2
theorem powB_get {e : List Int} (h : powB e = true) (k : Nat) (hk : k < 4) : 0 ≤ e.getD k 0 ∧ e.getD k 0 ≤ 9 := by
  have h4 := pow_len h
  unfold powB allB at h
  rw [Bool.and_eq_true, List.all_eq_true] at h
  have e1 : e.getD k 0 = e[k] := by rw [List.getD_eq_getElem?_getD, List.getElem?_eq_getElem (by omega)]; rfl
  have := h.2 e[k] (List.getElem_mem _)
  rw [Bool.and_eq_true] at this
  rw [e1]
  exact ⟨of_decide_eq_true this.1, of_decide_eq_true this.2⟩
theorem getD_mem {α : Type} (p : List α) (d : α) (k : Nat) (h : k < p.length) : p.getD k d ∈ p := by
  have e1 : p.getD k d = p[k] := by rw [List.getD_eq_getElem?_getD, List.getElem?_eq_getElem h]; rfl
  rw [e1]; exact List.getElem_mem _
theorem drop_cons {α : Type} (p : List α) (d : α) (k : Nat) (h : k < p.length) : p.drop k = p.getD k d :: p.drop (k + 1) := by
  rw [List.drop_eq_getElem_cons h]
  have e1 : p.getD k d = p[k] := by rw [List.getD_eq_getElem?_getD, List.getElem?_eq_getElem h]; rfl
  rw [e1]
theorem monF_drop (x : Int) (e env : List Int) (k : Nat) (h1 : k < e.length) (h2 : k < env.length) : monF x (e.drop k) (env.drop k) = monF (wrap64 (x * pw (env.getD k 0) (e.getD k 0).toNat)) (e.drop (k + 1)) (env.drop (k + 1)) := by
  rw [drop_cons e 0 k h1, drop_cons env 0 k h2]; rfl
theorem monF_end (x : Int) (e env : List Int) (k : Nat) (h : e.length ≤ k) : monF x (e.drop k) env = x := by
  rw [List.drop_of_length_le h]; cases env <;> rfl
theorem sumF_drop (env : List Int) (s : Int) (p : List Mon) (k : Nat) (h : k < p.length) : sumF env s (p.drop k) = sumF env (wrap64 (s + monF (p.getD k ([], 0)).2 (p.getD k ([], 0)).1 env)) (p.drop (k + 1)) := by
  rw [drop_cons p ([], 0) k h]; rfl

end Go.Proofs.YtkadanagmahhgaaGreatDoor
namespace Go.Proofs.YtkadanagmahhgaaGreatDoor
open Go.ChangeShapes Go.WideShapes Go.ChangeAt Go.RowKit
set_option linter.unusedVariables false

end Go.Proofs.YtkadanagmahhgaaGreatDoor
