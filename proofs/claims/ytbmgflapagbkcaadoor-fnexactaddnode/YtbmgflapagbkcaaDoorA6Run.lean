/-
  PROVED HERE: plain facts on terms that are gone through by a part of a function of classes. No condition.
-/
import Derived.Test.YtbmgflapagbkcaaDoorA6Plain
import Derived.Test.YtbmgflapagbkcaaDoorA6Own
namespace Go.Proofs.YtbmgflapagbkcaaDoor
set_option linter.unusedVariables false

/-- What a node comes to: none where it comes to nothing. -/
abbrev Cls := GS → Int × Int → List Int → Option (GS × Int)
def stepO (cls : Cls) (s : GS × List Int) (n : Int × Int) : Option (GS × List Int) := (cls s.1 n (s.2.drop (s.2.length - (ar n.1).toNat))).map fun r => (r.1, s.2.take (s.2.length - (ar n.1).toNat) ++ [r.2])
def runO (cls : Cls) : List (Int × Int) → GS × List Int → Option (GS × List Int)
  | [], s => some s
  | n :: t, s => (stepO cls s n).bind (runO cls t)
theorem runO_drop (cls : Cls) (t : List (Int × Int)) (k : Nat) (s : GS × List Int) (h : k < t.length) : runO cls (t.drop k) s = (stepO cls s (t.getD k (0, 0))).bind (runO cls (t.drop (k + 1))) := by
  have e : t.getD k (0, 0) = t[k] := by rw [List.getD_eq_getElem?_getD, List.getElem?_eq_getElem h]; rfl
  rw [List.drop_eq_getElem_cons h, e]; rfl
/-- What holds of the graph that comes out. -/
def AllR (o : Option (GS × List Int)) (P : GS → Prop) : Prop := ∀ r, o = some r → P r.1
/-- A node fits a graph and its kids are classes. -/
structure NFits (g : GS) (n : Int × Int) (kids : List Int) : Prop where
  ok : nodeOk n.1 n.2 kids.length = true
  num : InI n.2
  cl : ∀ c ∈ kids, IsCl g c
/-- A part of a function that keeps graphs good. -/
structure Keeps (cls : Cls) : Prop where
  good : ∀ g n kids r, GoodG g → g.1.length ≤ 120 → NFits g n kids → cls g n kids = some r → GoodG r.1 ∧ IsCl r.1 r.2 ∧ (∀ c, IsCl g c → IsCl r.1 c) ∧ r.1.1.length ≤ 120
theorem stepO_none {cls : Cls} {g : GS} {Q : List Int} {n : Int × Int} (h : cls g n (Q.drop (Q.length - (ar n.1).toNat)) = none) : stepO cls (g, Q) n = none := by unfold stepO; simp only; rw [h]; rfl
theorem stepO_some {cls : Cls} {g : GS} {Q : List Int} {n : Int × Int} {r : GS × Int} (h : cls g n (Q.drop (Q.length - (ar n.1).toNat)) = some r) : stepO cls (g, Q) n = some (r.1, Q.take (Q.length - (ar n.1).toNat) ++ [r.2]) := by unfold stepO; simp only; rw [h]; rfl
theorem vals_take (l : List Int) (n : Nat) : vals (l.take n) = (vals l).take n := by simp [vals, List.map_take]
theorem own_cut {w : World} {base e g n n' cap : Nat} {xs : List Value} (h : w.ownsRow base e 1 (.slice (some ⟨g, 0, none⟩) n cap) n xs) (hn : n' ≤ n) : w.ownsRow base e 1 (.slice (some ⟨g, 0, none⟩) n' cap) n' (xs.take n') := by
  have hl := h.1
  refine ⟨by rw [List.length_take]; omega, ?_⟩
  rcases h.2 with ⟨e', _⟩ | ⟨g', cap', cur, e', hb, hg, hc, hm, hs, ht⟩
  · cases e'
  · cases e'
    refine .inr ⟨g, cap, cur, rfl, hb, hg, by omega, hm, hs, ?_⟩
    rw [← ht, List.take_take]
    congr 1
    omega
/-- The last of a pile as a slice of its own. -/
theorem sl_last {w : World} {g n cp L m : Nat} {Q : List Int} (h : w.ownsRow 0 3 1 (.slice (some ⟨g, 0, none⟩) n cp) n (vals Q)) (hL : n = L + m) : Sl w (if cp = L then some ⟨g, 0, none⟩ else some ⟨g, L, none⟩) m (Q.drop L) := by
  have hl := h.1
  rw [vals_len] at hl
  refine ⟨by rw [List.length_drop]; omega, ?_⟩
  by_cases hm : m = 0
  · exact .inl hm
  · have hc : n ≤ cp := by
      rcases h.2 with ⟨e', _⟩ | ⟨g', cap', cur, e', hb, hg, hc, _⟩
      · cases e'
      · cases e'; exact hc
    rw [if_neg (by omega)]
    refine .inr ⟨g, L, rfl, (h.lt g rfl).2, fun i hi => ?_⟩
    rw [h.cellAt (L + i) (by omega)]
    simp [vals, List.getD_eq_getElem?_getD, List.getElem?_drop, show L + i < Q.length by omega]
end Go.Proofs.YtbmgflapagbkcaaDoor
