/-
  PROVED HERE: what the program answers of two rules, whether they are the same but for names. No other condition than that their sides are not empty, and their variables lie within 0..3.
-/
import Derived.Test.YtkadanagmahhgaaGreatDoorRun20
import Derived.Deep.RegionWith
import Derived.Deep.RegionHeld3
namespace Go.Proofs.YtkadanagmahhgaaGreatDoor
open Go.ChangeShapes Go.WideShapes Go.ChangeAt Go.RowKit
set_option linter.unusedVariables false

theorem Nmg.new (w : World) : Nmg (w.alloc (.cells #[.int .i64 0, .int .i64 0, .int .i64 0, .int .i64 0, .bool false, .bool false, .bool false, .bool false, .int .i64 0] 149)) w.heap.size [] := by
  refine ⟨by simp, fun i hi => ?_, by simp [go_sem], fun i hi => by simp [go_sem]⟩
  have : i = 0 ∨ i = 1 ∨ i = 2 ∨ i = 3 := by omega
  rcases this with rfl | rfl | rfl | rfl <;> exact ⟨by simp [go_sem], by simp [go_sem]⟩
set_option maxHeartbeats 6400000 in
set_option maxRecDepth 20000 in
theorem implNames_any (a b a' b' : Option Addr) (n c m d n' c' m' d' : Nat) (p r p' r' : List (Int × Int)) (w : World) (h1 : NSl w a n p) (h2 : NSl w b m r) (h3 : NSl w a' n' p') (h4 : NSl w b' m' r') (v1 : VR p) (v2 : VR r) (v3 : VR p') (v4 : VR r')
    (l1 : 1 ≤ n ∧ n ≤ 40) (l2 : 1 ≤ m ∧ m ≤ 40) (l3 : 1 ≤ n' ∧ n' ≤ 40) (l4 : 1 ≤ m' ∧ m' ≤ 40) :
    Calls Tryz.prog 73 #[.agg #[.slice a n c, .slice b m d], .agg #[.slice a' n' c', .slice b' m' d']] w fun e w' => e = .returned (.bool (sameI p r p' r')) ∧ Below w.heap.size w w' := by
  obtain ⟨e1, o1, rfl, -, -⟩ := h1.at (by omega)
  obtain ⟨e2, o2, rfl, -, -⟩ := h2.at (by omega)
  obtain ⟨e3, o3, rfl, -, -⟩ := h3.at (by omega)
  obtain ⟨e4, o4, rfl, -, -⟩ := h4.at (by omega)
  obtain ⟨W1, hW1⟩ : ∃ W1, (((w.alloc (.cells #[.slice (some ⟨e1, o1, none⟩) n c, .slice (some ⟨e2, o2, none⟩) m d] 26)).alloc (.cells #[.slice (some ⟨e3, o3, none⟩) n' c', .slice (some ⟨e4, o4, none⟩) m' d'] 26)).alloc (.cells #[.int .i64 0, .int .i64 0, .int .i64 0, .int .i64 0, .bool false, .bool false, .bool false, .bool false, .int .i64 0] 149)).alloc (.cells #[.int .i64 0, .int .i64 0, .int .i64 0, .int .i64 0, .bool false, .bool false, .bool false, .bool false, .int .i64 0] 149) = W1 := ⟨_, rfl⟩
  have hb1 : Below w.heap.size w W1 := by rw [← hW1]; exact ((((Below.refl _ _).alloc (Nat.le_refl _) _).alloc (by simp) _).alloc (by simp; omega) _).alloc (by simp; omega) _
  have hs1 : W1.heap.size = w.heap.size + 4 := by rw [← hW1]; simp
  have n0 : W1.cell? ⟨w.heap.size, 0, none⟩ = some (.slice (some ⟨e1, o1, none⟩) n c) := by rw [← hW1]; simp [go_sem]
  have n1 : W1.cell? ⟨w.heap.size, 1, none⟩ = some (.slice (some ⟨e2, o2, none⟩) m d) := by rw [← hW1]; simp [go_sem]
  have n2 : W1.cell? ⟨w.heap.size + 1, 0, none⟩ = some (.slice (some ⟨e3, o3, none⟩) n' c') := by rw [← hW1]; simp [go_sem]
  have n3 : W1.cell? ⟨w.heap.size + 1, 1, none⟩ = some (.slice (some ⟨e4, o4, none⟩) m' d') := by rw [← hW1]; simp [go_sem]
  have k1 : Nmg W1 (w.heap.size + 2) [] := by
    rw [← hW1]
    have := Nmg.new ((w.alloc (.cells #[.slice (some ⟨e1, o1, none⟩) n c, .slice (some ⟨e2, o2, none⟩) m d] 26)).alloc (.cells #[.slice (some ⟨e3, o3, none⟩) n' c', .slice (some ⟨e4, o4, none⟩) m' d'] 26))
    rw [show ((w.alloc (.cells #[.slice (some ⟨e1, o1, none⟩) n c, .slice (some ⟨e2, o2, none⟩) m d] 26)).alloc (.cells #[.slice (some ⟨e3, o3, none⟩) n' c', .slice (some ⟨e4, o4, none⟩) m' d'] 26)).heap.size = w.heap.size + 2 from by simp] at this
    exact this.keep ((Below.refl _ _).alloc (Nat.le_refl _) _)
  have k2 : Nmg W1 (w.heap.size + 3) [] := by
    rw [← hW1]
    have := Nmg.new (((w.alloc (.cells #[.slice (some ⟨e1, o1, none⟩) n c, .slice (some ⟨e2, o2, none⟩) m d] 26)).alloc (.cells #[.slice (some ⟨e3, o3, none⟩) n' c', .slice (some ⟨e4, o4, none⟩) m' d'] 26)).alloc (.cells #[.int .i64 0, .int .i64 0, .int .i64 0, .int .i64 0, .bool false, .bool false, .bool false, .bool false, .int .i64 0] 149))
    rw [show (((w.alloc (.cells #[.slice (some ⟨e1, o1, none⟩) n c, .slice (some ⟨e2, o2, none⟩) m d] 26)).alloc (.cells #[.slice (some ⟨e3, o3, none⟩) n' c', .slice (some ⟨e4, o4, none⟩) m' d'] 26)).alloc (.cells #[.int .i64 0, .int .i64 0, .int .i64 0, .int .i64 0, .bool false, .bool false, .bool false, .bool false, .int .i64 0] 149)).heap.size = w.heap.size + 3 from by simp] at this
    exact this
  have HQ : Hid (∀ W, Below (w.heap.size + 2) W1 W → (W.cell? ⟨w.heap.size, 0, none⟩ = some (.slice (some ⟨e1, o1, none⟩) n c) ∧ W.cell? ⟨w.heap.size, 1, none⟩ = some (.slice (some ⟨e2, o2, none⟩) m d) ∧ W.cell? ⟨w.heap.size + 1, 0, none⟩ = some (.slice (some ⟨e3, o3, none⟩) n' c') ∧ W.cell? ⟨w.heap.size + 1, 1, none⟩ = some (.slice (some ⟨e4, o4, none⟩) m' d')) ∧ NSl W (some ⟨e1, o1, none⟩) n p ∧ NSl W (some ⟨e2, o2, none⟩) m r ∧ NSl W (some ⟨e3, o3, none⟩) n' p' ∧ NSl W (some ⟨e4, o4, none⟩) m' r' ∧ Below w.heap.size w W) := fun W hW => by
    have hw : Below w.heap.size w W := hb1.trans (hW.mono (by omega))
    exact ⟨⟨(hW.cell (p := ⟨w.heap.size, 0, none⟩) (by show w.heap.size < _; omega)).trans n0, (hW.cell (p := ⟨w.heap.size, 1, none⟩) (by show w.heap.size < _; omega)).trans n1, (hW.cell (p := ⟨w.heap.size + 1, 0, none⟩) (by show w.heap.size + 1 < _; omega)).trans n2, (hW.cell (p := ⟨w.heap.size + 1, 1, none⟩) (by show w.heap.size + 1 < _; omega)).trans n3⟩, h1.keep hw, h2.keep hw, h3.keep hw, h4.keep hw, hw⟩
  have HG : Hid (∀ W W' q, Below (w.heap.size + 2) W1 W → W.grownBy W' (some q) → w.heap.size + 2 ≤ q → Below (w.heap.size + 2) W1 W') := fun W W' q hW hg hq => hW.grown hg (by have := hW.size; omega) (fun k hk => by cases hk; exact hq)
  have HR : Hid (∀ W q ms b off n c l, Nmg W q ms → NSl W (some ⟨b, off, none⟩) n l → VR l → (1 ≤ n ∧ n ≤ 40) → ms.length ≤ 100 → Calls Tryz.prog 111 #[.pointer (some ⟨q, 0, none⟩), .slice (some ⟨b, off, none⟩) n c] W fun e w' => ∃ (g c : Nat), e = .returned (.slice (some ⟨g, 0, none⟩) n c) ∧ Wr8 w' g n (renL ms l) ∧ W.heap.size ≤ g ∧ Nmg w' q (metL ms l) ∧ W.grownBy w' (some q)) := fun W q ms b off n c l h1 h2 h3 h4 h5 => renamed_any q ms b off n c l W h1 h2 h3 h4.1 h4.2 h5
  have hBd : Below (w.heap.size + 2) W1 W1.drew := (Below.refl _ _).drew
  have hm1 : (metL [] p).length ≤ 100 := by have := metL_len p []; have := h1.1; simp at *; omega
  have hm3 : (metL [] p').length ≤ 100 := by have := metL_len p' []; have := h3.1; simp at *; omega
  have H9 := (show Hid _ from HR.out W1.drew (w.heap.size + 2) [] e1 o1 n c p (k1.of_block (Nat.le_refl _) rfl) (HQ.out _ hBd).2.1 v1 l1 (by simp))
  have K2 : Hid (Nmg W1.drew (w.heap.size + 3) []) := k2.of_block (Nat.le_refl _) rfl
  have hsd : w.heap.size + 4 = W1.drew.heap.size := hs1.symm
  obtain ⟨⟨z0, z1, z2, z3⟩, -⟩ := HQ.out W1.drew hBd
  have HV : Hid (VR p' ∧ VR r ∧ VR r' ∧ (1 ≤ m ∧ m ≤ 40) ∧ (1 ≤ n' ∧ n' ≤ 40) ∧ (1 ≤ m' ∧ m' ≤ 40) ∧ (metL [] p).length ≤ 100 ∧ (metL [] p').length ≤ 100 ∧ n ≤ 40) := ⟨v3, v2, v4, l2, l3, l4, hm1, hm3, l1.2⟩
  clear h1 h2 h3 h4 v1 v2 v3 v4 l1 l2 l3 l4 hm1 hm3 k1 k2 hb1 hs1 n0 n1 n2 n3
  unfold sameI
  by_cases hE : (renL [] p == renL [] p') = true
  · rw [hE, Bool.true_and]
    go_enter Tryz.func73, Tryz.ntmps73
    go_wp2_with fail
    (try rw [hW1])
    go_region_with (first
      | (go_at_call 111; first
          | (refine Calls.mono H9.out ?_; rintro e v9 ⟨g9, c9, rfl, hX9, hg9, hN9, hr9⟩; have hB9 := HG.out _ _ _ hBd hr9 (Nat.le_refl _); have K9 : Hid (Wr8 v9 g9 n (renL [] p) ∧ w.heap.size + 4 ≤ g9 ∧ Nmg v9 (w.heap.size + 2) (metL [] p) ∧ Nmg v9 (w.heap.size + 3) [] ∧ w.heap.size + 4 ≤ v9.heap.size) := ⟨hX9, Nat.le_trans (Nat.le_of_eq hsd) hg9, hN9, K2.out.of_block hr9.size (hr9.block _ K2.out.1 (by simp)), Nat.le_trans (Nat.le_of_eq hsd) hr9.size⟩; obtain ⟨⟨x0, x1, x2, x3⟩, -, -, hl3, -⟩ := HQ.out v9 hB9; have H12 := (show Hid _ from HR.out v9 (w.heap.size + 3) [] e3 o3 n' c' p' K9.out.2.2.2.1 hl3 HV.out.1 HV.out.2.2.2.2.1 (by simp)); clear H9 hX9 hg9 hN9 hr9 hl3)
          | (refine Calls.mono H12.out ?_; rintro e v12 ⟨g12, c12, rfl, hX12, hg12, hN12, hr12⟩; have hB12 := HG.out _ _ _ hB9 hr12 (Nat.le_succ _); have K12 : Hid (Wr8 v12 g9 n (renL [] p) ∧ Wr8 v12 g12 n' (renL [] p') ∧ Nmg v12 (w.heap.size + 2) (metL [] p) ∧ Nmg v12 (w.heap.size + 3) (metL [] p') ∧ w.heap.size + 4 ≤ v12.heap.size) := ⟨K9.out.1.of_block hr12.size (hr12.block _ K9.out.1.2.1 (by have := K9.out.2.1; intro e; have := Option.some.inj e; omega)), hX12, K9.out.2.2.1.of_block hr12.size (hr12.block _ K9.out.2.2.1.1 (by simp)), hN12, Nat.le_trans K9.out.2.2.2.2 hr12.size⟩; obtain ⟨⟨y0, y1, y2, y3⟩, -⟩ := HQ.out v12 hB12; have H13 := (show Hid _ from eqT_any _ _ n c9 n' c12 _ _ v12 K12.out.1.nsl K12.out.2.1.nsl (by have := HV.out.2.2.2.2.2.2.2.2; omega) (by have := HV.out.2.2.2.2.1.2; omega)); rw [hE] at H13; clear H12 hX12 hg12 hN12 hr12)
          | (refine Calls.mono H17.out ?_; rintro e v17 ⟨g17, c17, rfl, hX17, hg17, hN17, hr17⟩; have hB17 := HG.out _ _ _ hB13 hr17 (Nat.le_refl _); have K17 : Hid (Wr8 v17 g17 m (renL (metL [] p) r) ∧ w.heap.size + 4 ≤ g17 ∧ Nmg v17 (w.heap.size + 3) (metL [] p')) := ⟨hX17, Nat.le_trans K13.out.2.2 hg17, K13.out.2.1.of_block hr17.size (hr17.block _ K13.out.2.1.1 (by simp))⟩; obtain ⟨⟨u0, u1, u2, u3⟩, -, -, -, hl4, -⟩ := HQ.out v17 hB17; have H20 := (show Hid _ from HR.out v17 (w.heap.size + 3) (metL [] p') e4 o4 m' d' r' K17.out.2.2 hl4 HV.out.2.2.1 HV.out.2.2.2.2.2.1 HV.out.2.2.2.2.2.2.2.1); clear H17 hX17 hg17 hN17 hr17 hl4)
          | (refine Calls.mono H20.out ?_; rintro e v20 ⟨g20, c20, rfl, hX20, hg20, hN20, hr20⟩; have hB20 := HG.out _ _ _ hB17 hr20 (Nat.le_succ _); have H21 := (show Hid _ from eqT_any _ _ m c17 m' c20 _ _ v20 (K17.out.1.of_block hr20.size (hr20.block _ K17.out.1.2.1 (by have := K17.out.2.1; intro e; have := Option.some.inj e; omega))).nsl hX20.nsl (by have := HV.out.2.2.2.1.2; omega) (by have := HV.out.2.2.2.2.2.1.2; omega)); clear H20 hX20 hg20 hN20 hr20))
      | (go_at_call 110; first
          | (refine Calls.mono H13.out ?_; rintro e v13 ⟨rfl, hb13⟩; have hB13 := hB12.trans (hb13.mono (by have := hB12.size; have := K12.out.2.2.2.2; omega)); have K13 : Hid (Nmg v13 (w.heap.size + 2) (metL [] p) ∧ Nmg v13 (w.heap.size + 3) (metL [] p') ∧ w.heap.size + 4 ≤ v13.heap.size) := ⟨K12.out.2.2.1.keep hb13, K12.out.2.2.2.1.keep hb13, Nat.le_trans K12.out.2.2.2.2 hb13.size⟩; obtain ⟨⟨t0, t1, t2, t3⟩, -, hl2, -⟩ := HQ.out v13 hB13; have H17 := (show Hid _ from HR.out v13 (w.heap.size + 2) (metL [] p) e2 o2 m d r K13.out.1 hl2 HV.out.2.1 HV.out.2.2.2.1 HV.out.2.2.2.2.2.2.1); clear H13 hb13 hl2)
          | (refine Calls.mono H21.out ?_; rintro e v21 ⟨rfl, hb21⟩; have h20s : w.heap.size + 4 ≤ v20.heap.size := Nat.le_trans (Nat.le_of_eq hsd) hB20.size; have HE21 : Hid (Below w.heap.size w v21) := (HQ.out v21 (hB20.trans (hb21.mono (by omega)))).2.2.2.2.2; clear H21)))
    all_goals
      go_wp2
      go_ret
      exact ⟨rfl, HE21.out⟩
  · rw [Bool.not_eq_true] at hE
    rw [hE, Bool.false_and]
    go_enter Tryz.func73, Tryz.ntmps73
    go_wp2_with fail
    (try rw [hW1])
    first | (go_region_with (first
      | (go_at_call 111; first
          | (refine Calls.mono H9.out ?_; rintro e v9 ⟨g9, c9, rfl, hX9, hg9, hN9, hr9⟩; have hB9 := HG.out _ _ _ hBd hr9 (Nat.le_refl _); have K9 : Hid (Wr8 v9 g9 n (renL [] p) ∧ w.heap.size + 4 ≤ g9 ∧ Nmg v9 (w.heap.size + 2) (metL [] p) ∧ Nmg v9 (w.heap.size + 3) [] ∧ w.heap.size + 4 ≤ v9.heap.size) := ⟨hX9, Nat.le_trans (Nat.le_of_eq hsd) hg9, hN9, K2.out.of_block hr9.size (hr9.block _ K2.out.1 (by simp)), Nat.le_trans (Nat.le_of_eq hsd) hr9.size⟩; obtain ⟨⟨x0, x1, x2, x3⟩, -⟩ := HQ.out v9 hB9; have H12 := (show Hid _ from HR.out v9 (w.heap.size + 3) [] e3 o3 n' c' p' K9.out.2.2.2.1 (HQ.out v9 hB9).2.2.2.1 HV.out.1 HV.out.2.2.2.2.1 (by simp)); clear H9 hX9 hg9 hN9 hr9)
          | (refine Calls.mono H12.out ?_; rintro e v12 ⟨g12, c12, rfl, hX12, hg12, hN12, hr12⟩; have hB12 := HG.out _ _ _ hB9 hr12 (Nat.le_succ _); have K12 : Hid (Wr8 v12 g9 n (renL [] p) ∧ Wr8 v12 g12 n' (renL [] p')) := ⟨K9.out.1.of_block hr12.size (hr12.block _ K9.out.1.2.1 (by have := K9.out.2.1; intro e; have := Option.some.inj e; omega)), hX12⟩; have h12s : w.heap.size + 4 ≤ v12.heap.size := Nat.le_trans K9.out.2.2.2.2 hr12.size; obtain ⟨⟨y0, y1, y2, y3⟩, -⟩ := HQ.out v12 hB12; have H13 := (show Hid _ from eqT_any _ _ n c9 n' c12 _ _ v12 K12.out.1.nsl K12.out.2.nsl (by have := HV.out.2.2.2.2.2.2.2.2; omega) (by have := HV.out.2.2.2.2.1.2; omega)); rw [hE] at H13; clear H12 hX12 hg12 hN12 hr12))
      | (go_at_call 110; refine Calls.mono H13.out ?_; rintro e v13 ⟨rfl, hb13⟩; have hB13 := hB12.trans (hb13.mono (by omega)); have HE13 : Hid (Below w.heap.size w v13) := (HQ.out v13 hB13).2.2.2.2.2; obtain ⟨⟨t0, t1, t2, t3⟩, -⟩ := HQ.out v13 hB13; clear H13))) | fail
    all_goals
      go_wp2
      go_ret
      exact ⟨rfl, HE13.out⟩
end Go.Proofs.YtkadanagmahhgaaGreatDoor
