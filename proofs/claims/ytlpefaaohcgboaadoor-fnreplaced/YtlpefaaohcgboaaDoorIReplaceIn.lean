/-
  PROVED HERE: what the program says of a term whose part at a node is replaced, at every two lists of nodes and every number, in a world whose table of arities is laid. No other condition.
-/
import Derived.Test.YtlpefaaohcgboaaDoorIConcat
import Derived.Test.YtlpefaaohcgboaaDoorIFirst
import Derived.Test.YtlpefaaohcgboaaDoorIAll
import Derived.Test.YtlpefaaohcgboaaDoorReplaceAt
namespace Go.Proofs.YtlpefaaohcgboaaDoor
open Go.ChangeShapes Go.WideShapes Go.ChangeAt Go.RowKit
set_option linter.unusedVariables false

/-- Three lists in a new row. -/
theorem three_lay (w : World) (x0 x1 x2 : Addr) (c0 c1 c2 : Nat) (l0 l1 l2 : List (Int × Int)) (h0 : ∀ j u, (flat l0)[j]? = some u → w.cell? (x0.add j) = some u) (h1 : ∀ j u, (flat l1)[j]? = some u → w.cell? (x1.add j) = some u) (h2 : ∀ j u, (flat l2)[j]? = some u → w.cell? (x2.add j) = some u) :
    Lay (w.alloc (.cells #[.slice (some x0) l0.length c0, .slice (some x1) l1.length c1, .slice (some x2) l2.length c2] 24)) (some ⟨w.heap.size, 0, none⟩) 3 [l0, l1, l2] := by
  have hb : Below w.heap.size w (w.alloc (.cells #[.slice (some x0) l0.length c0, .slice (some x1) l1.length c1, .slice (some x2) l2.length c2] 24)) := (Below.refl _ _).alloc (Nat.le_refl _) _
  have up : ∀ (x : Addr) (l : List (Int × Int)), (∀ j u, (flat l)[j]? = some u → w.cell? (x.add j) = some u) → ∀ j u, (flat l)[j]? = some u → (w.alloc (.cells #[.slice (some x0) l0.length c0, .slice (some x1) l1.length c1, .slice (some x2) l2.length c2] 24)).cell? (x.add j) = some u := fun x l h j u hj => by
    have := h j u hj
    exact (hb.cell (World.block_lt_of_cell? w _ this)).trans this
  refine ⟨rfl, w.heap.size, 0, rfl, by simp, fun i hi => ?_⟩
  have : i = 0 ∨ i = 1 ∨ i = 2 := by omega
  rcases this with rfl | rfl | rfl
  · exact ⟨x0, c0, by simp [go_sem], up x0 l0 h0⟩
  · exact ⟨x1, c1, by simp [go_sem], up x1 l1 h1⟩
  · exact ⟨x2, c2, by simp [go_sem], up x2 l2 h2⟩

set_option maxHeartbeats 1600000 in
set_option maxRecDepth 20000 in
theorem implReplace_in (b off len cap : Nat) (l : List (Int × Int)) (kn : Nat) (b' off' lu cu : Nat) (u : List (Int × Int)) (w : World) (hT : Tab w) (h : NSl w (some ⟨b, off, none⟩) len l) (hu : NSl w (some ⟨b', off', none⟩) lu u) (hcap : len ≤ cap)
    (hg : goodB l = true) (hgu : goodB u = true) (hkn : kn < len) :
    Calls Tryd.prog 21 #[.slice (some ⟨b, off, none⟩) len cap, .int .i64 kn, .slice (some ⟨b', off', none⟩) lu cu] w fun e w' => ∃ v : Value, e = .returned (.tuple #[v, .bool (goodB (replAll l kn u))]) ∧ w'.ownsRow w.heap.size 69 2 v (madeL (replAll l kn u)).length (flat (madeL (replAll l kn u))) ∧ Below w.heap.size w w' := by
  obtain ⟨hp, g1, g2⟩ := good_pile hg
  obtain ⟨_, g3, g4⟩ := good_pile hgu
  have hll := h.1
  have hlu := hu.1
  have HT : Hid (Tab w) := hT
  have HS : Hid (NSl w (some ⟨b, off, none⟩) len l) := h
  have HU : Hid (NSl w (some ⟨b', off', none⟩) lu u) := hu
  have HG1 : Hid (Calls Tryd.prog 15 #[.slice (some ⟨b, off, none⟩) len cap] w fun e w' => e = .returned (.bool true) ∧ Below w.heap.size w w') := by
    have := implGood_any _ len cap l w hT h (by omega)
    rwa [hg] at this
  have HG2 : Hid (∀ W, Tab W → NSl W (some ⟨b', off', none⟩) lu u → Calls Tryd.prog 15 #[.slice (some ⟨b', off', none⟩) lu cu] W fun e w' => e = .returned (.bool true) ∧ Below W.heap.size W w') := fun W hT hW => by
    have := implGood_any _ lu cu u W hT hW (by omega)
    rwa [hgu] at this
  have hsk := start_le hp kn (by omega)
  have HF : Hid (∀ W, Tab W → NSl W (some ⟨b, off, none⟩) len l → Calls Tryd.prog 55 #[.slice (some ⟨b, off, none⟩) len cap, .int .i64 kn] W fun e w' => e = .returned (.int .i64 (start l kn)) ∧ w' = W) := fun W hT hW => implFirst_any hp _ len cap W hT hW (by omega) kn hkn
  have eL : replAll l kn u = l.take (start l kn) ++ u ++ l.drop (kn + 1) := rfl
  rw [eL]
  clear eL
  generalize start l kn = s at HF hsk ⊢
  obtain ⟨L, hL⟩ : ∃ L, l.take s ++ u ++ l.drop (kn + 1) = L := ⟨_, rfl⟩
  rw [hL]
  have hl0 : (l.take s).length = s := by rw [List.length_take]; omega
  have hl2 : (l.drop (kn + 1)).length = len - (kn + 1) := by rw [List.length_drop]; omega
  have hcat : cat [l.take s, u, l.drop (kn + 1)] 3 = L := by rw [← hL]; simp [cat]
  have hLl : L.length ≤ 100 := by rw [← hL, List.length_append, List.length_append]; omega
  have htot : tot [l.take s, u, l.drop (kn + 1)] 3 = L.length := by unfold tot; rw [hcat]
  have HW : Hid (∀ (v : Value) (W : World), W.ownsRow w.heap.size 69 2 v L.length (flat L) → Below w.heap.size w W → Calls Tryd.prog 42 #[v] W fun e w' => ∃ v' : Value, e = .returned (.tuple #[v', .bool (goodB L)]) ∧ w'.ownsRow w.heap.size 69 2 v' (madeL L).length (flat (madeL L)) ∧ Below W.heap.size W w') := fun v W hr hbW => implWhere_any _ v _ _ W (hT.keeps hbW) hr hbW.size (by omega)
  have HLay : Hid (∀ (W : World) (x2 : Addr) (c2 : Nat), Below w.heap.size w W → (∀ j v, (flat (l.drop (kn + 1)))[j]? = some v → W.cell? (x2.add j) = some v) → Calls Tryd.prog 54 #[.slice (some ⟨W.heap.size, 0, none⟩) 3 3] (W.alloc (.cells #[.slice (some ⟨b, off, none⟩) s cap, .slice (some ⟨b', off', none⟩) lu cu, .slice (some x2) (len - (kn + 1)) c2] 24)) fun e w' => ∃ v : Value, e = .returned v ∧ w'.ownsRow w.heap.size 69 2 v L.length (flat L) ∧ Below W.heap.size W w') := fun W x2 c2 hb hx => by
    have hb0 : Below W.heap.size W (W.alloc (.cells #[.slice (some ⟨b, off, none⟩) s cap, .slice (some ⟨b', off', none⟩) lu cu, .slice (some x2) (len - (kn + 1)) c2] 24)) := (Below.refl _ _).alloc (Nat.le_refl _) _
    have t := three_lay W ⟨b, off, none⟩ ⟨b', off', none⟩ x2 cap cu c2 (l.take s) u (l.drop (kn + 1)) (by
      have hS := (HS.out.keep hb).sub 0 s (by omega)
      rw [Nat.zero_mul, Nat.add_zero, List.drop_zero] at hS
      exact flat_cells hS) (flat_cells (HU.out.keep hb)) hx
    rw [hl0, hlu, hl2] at t
    refine (concat_any _ 3 3 _ _ t (by omega) (by rw [htot]; omega)).mono ?_
    rintro e w' ⟨v, rfl, hown, hb'⟩
    rw [htot, hcat] at hown
    exact ⟨v, rfl, own_base hown (by have := hb.size; have := hb0.size; omega), hb0.trans (hb'.mono hb0.size)⟩
  clear hL hcat htot hl0 hl2
  generalize madeL L = ML at HW ⊢
  generalize goodB L = G at HW ⊢
  have i1 : ¬ (kn : Int) < 0 := by omega
  have i2 : ¬ (len : Int) ≤ kn := by omega
  have i3 : (s : Int) ≤ cap := by omega
  have i4 : (kn : Int) + 1 ≤ len := by omega
  have i5 : kn + 1 ≤ len := by omega
  have hwr : IntKind.i64.wrap ((kn : Int) + 1) = ((kn + 1 : Nat) : Int) := by rw [IntKind.wrap_i64]; omega
  have hcell : ∀ W, Below w.heap.size w W → ∀ j v, (flat (l.drop (kn + 1)))[j]? = some v → W.cell? ((⟨b, off + (kn + 1) * 2, none⟩ : Addr).add j) = some v := fun W hW => by
    have hS := (HS.out.keep hW).sub (kn + 1) (len - (kn + 1)) (by omega)
    rw [List.take_of_length_le (by rw [List.length_drop]; omega)] at hS
    exact flat_cells hS
  clear h hu hp hg hgu hT
  by_cases hcc : cap = kn + 1
  · obtain rfl : len = kn + 1 := by omega
    subst hcc
    have HCC : Hid (∀ W, Below w.heap.size w W → Calls Tryd.prog 54 #[.slice (some ⟨W.heap.size, 0, none⟩) 3 3] (W.alloc (.cells #[.slice (some ⟨b, off, none⟩) s (kn + 1), .slice (some ⟨b', off', none⟩) lu cu, .slice (some ⟨b, off, none⟩) 0 0] 24)) fun e w' => ∃ v : Value, e = .returned v ∧ w'.ownsRow w.heap.size 69 2 v L.length (flat L) ∧ Below W.heap.size W w') := fun W hW => by
      have := HLay.out W ⟨b, off, none⟩ 0 hW (by
        rw [List.drop_of_length_le (by omega)]
        intro j v hj
        simp [flat] at hj)
      rwa [Nat.sub_self] at this
    clear HLay hcell
    go_enter Tryd.func21, Tryd.ntmps21
    go_wp2_with fail
    refine Calls.mono HG1.out ?_
    rintro e w1 ⟨rfl, hb1⟩
    clear HG1
    go_wp2_with fail
    refine Calls.mono (HG2.out _ (HT.out.keeps hb1) (HU.out.keep hb1)) ?_
    rintro e w2 ⟨rfl, hb2⟩
    clear HG2
    have hB2 := hb1.trans (hb2.mono hb1.size)
    go_wp2_with fail
    go_region_with (first
      | (go_at_call 55; refine Calls.mono (HF.out _ (HT.out.keeps hB2.drew) (HS.out.keep hB2.drew)) ?_; rintro e w3 ⟨rfl, rfl⟩)
      | (go_at_call 54; refine Calls.mono (HCC.out _ hB2.drew) ?_; rintro e w4 ⟨v4, rfl, hown4, hb4⟩; have hB4 := hB2.drew.trans (hb4.mono hB2.drew.size))
      | (go_at_call 42; refine Calls.mono (HW.out _ _ hown4 hB4) ?_; rintro e w5 ⟨v5, rfl, hown5, hb5⟩; have hB5 := hB4.trans (hb5.mono hB4.size)))
    all_goals
      go_wp2
      go_ret2
      exact ⟨_, rfl, hown5, hB5⟩
  · have HCC : Hid (∀ W, Below w.heap.size w W → Calls Tryd.prog 54 #[.slice (some ⟨W.heap.size, 0, none⟩) 3 3] (W.alloc (.cells #[.slice (some ⟨b, off, none⟩) s cap, .slice (some ⟨b', off', none⟩) lu cu, .slice (some ⟨b, off + (kn + 1) * 2, none⟩) (len - (kn + 1)) (cap - (kn + 1))] 24)) fun e w' => ∃ v : Value, e = .returned v ∧ w'.ownsRow w.heap.size 69 2 v L.length (flat L) ∧ Below W.heap.size W w') := fun W hW => HLay.out W _ _ hW (hcell W hW)
    clear HLay hcell
    go_enter Tryd.func21, Tryd.ntmps21
    go_wp2_with fail
    refine Calls.mono HG1.out ?_
    rintro e w1 ⟨rfl, hb1⟩
    clear HG1
    go_wp2_with fail
    refine Calls.mono (HG2.out _ (HT.out.keeps hb1) (HU.out.keep hb1)) ?_
    rintro e w2 ⟨rfl, hb2⟩
    clear HG2
    have hB2 := hb1.trans (hb2.mono hb1.size)
    go_wp2_with fail
    go_region_with (first
      | (go_at_call 55; refine Calls.mono (HF.out _ (HT.out.keeps hB2.drew) (HS.out.keep hB2.drew)) ?_; rintro e w3 ⟨rfl, rfl⟩)
      | (go_at_call 54; refine Calls.mono (HCC.out _ hB2.drew) ?_; rintro e w4 ⟨v4, rfl, hown4, hb4⟩; have hB4 := hB2.drew.trans (hb4.mono hB2.drew.size))
      | (go_at_call 42; refine Calls.mono (HW.out _ _ hown4 hB4) ?_; rintro e w5 ⟨v5, rfl, hown5, hb5⟩; have hB5 := hB4.trans (hb5.mono hB4.size)))
    all_goals
      go_wp2
      go_ret2
      exact ⟨_, rfl, hown5, hB5⟩

end Go.Proofs.YtlpefaaohcgboaaDoor
