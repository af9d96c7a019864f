/-
  PROVED HERE: the law FnExactAxiomAt's own run. The tables are laid, and the library's bound on short searches holds some number. No other condition.
-/
import Derived.Test.YtbchehpggoampaaDoorAxRows
namespace Go.Proofs.YtbchehpggoampaaDoor
open Go.ChangeShapes Go.WideShapes Go.ChangeAt Go.RowKit
set_option linter.unusedVariables false

set_option maxHeartbeats 3200000 in
theorem axiomLaw_any (k : Int) (w : World) (hE : Env w) (hT : Tab w) (hM : MaxL w) :
    Calls Tryd.prog 4 #[.int .i64 k] w fun e w' => e = .returned (.bool true) ∧ Below w.heap.size w w' := by
  have HSp : Hid (∀ W, Calls Tryd.prog 14 #[.int .i64 k] W fun e w' => AxR W w' k e) := fun W => specAxiom_any k W
  have HIm : Hid (∀ W, Below w.heap.size w W → Calls Tryd.prog 15 #[.int .i64 k] W fun e w' => AxR W w' k e) := fun W hW => implAxiom_any k W (hE.keep hW) (hT.keeps hW) (hM.keep hW)
  unfold AxR at HSp HIm
  have hP := axP_len k
  have hQ := axQ_len k
  generalize axIs k = G at HSp HIm
  generalize axP k = P at HSp HIm hP
  generalize axQ k = Q at HSp HIm hQ
  have HQ : Hid (∀ W (v u v' u' : Value) (b b' : Nat), TwoR W b v u P Q → TwoR W b' v' u' P Q → Calls Tryd.prog 13 #[.agg #[v, u], .agg #[v', u']] W fun e w' => e = .returned (.bool true) ∧ Below W.heap.size W w') := fun W v u v' u' b b' h1 h2 => eqTwo_any b b' v u v' u' P Q W h1 h2 (by omega) (by omega)
  have HMI : Hid (∀ W (v u : Value) lo, TwoR W lo v u P Q → lo ≤ W.heap.size → Calls Tryd.prog 16 #[.agg #[v, u], .int .i64 1] W fun e w' => e = .returned (.int .i64 (1 + 2 * P.length + 2 * Q.length : Nat)) ∧ Below lo W w' ∧ HeldR w' 1 v u P.length Q.length ∧ ∀ b, b < W.heap.size → v.ownBlock ≠ some b → u.ownBlock ≠ some b → w'.heap[b]? = W.heap[b]?) := fun W v u lo h hlo => markR_any lo 1 v u P Q W h hlo (by omega) (by omega) (by omega)
  have HH : Hid (∀ W (v u : Value), HeldR W 1 v u P.length Q.length → Calls Tryd.prog 17 #[.agg #[v, u], .int .i64 1] W fun e w' => e = .returned (.int .i64 (1 + 2 * P.length + 2 * Q.length : Nat)) ∧ Below W.heap.size W w') := fun W v u h => heldR_any 1 v u _ _ W h (by omega) (by omega) (by omega)
  have hGG : (G != G) = false := by simp
  have hq1 : ¬ ((1 + 2 * P.length + 2 * Q.length : Nat) : Int) < 0 := by omega
  generalize ((1 + 2 * P.length + 2 * Q.length : Nat) : Int) = zq at HMI HH hq1
  have hqq : (zq != zq) = false := by simp
  clear hE hT hM
  go_enter Tryd.func4, Tryd.ntmps4
  go_wp2_with fail
  refine (HSp.out _).mono ?_
  rintro e w3 ⟨vW, uW, rfl, rW3, hb3⟩
  obtain ⟨av, cv, rfl⟩ := own_shape rW3.1
  obtain ⟨au, cu, rfl⟩ := own_shape rW3.2.1
  obtain ⟨X3, hX3⟩ : ∃ X, w3.alloc (.cells #[.slice av P.length cv, .slice au Q.length cu] 29) = X := ⟨_, rfl⟩
  have hbX3 : Below w3.heap.size w3 X3 := by rw [← hX3]; exact (Below.refl _ _).alloc (Nat.le_refl _) _
  have hsX3 : X3.heap.size = w3.heap.size + 1 := by rw [← hX3]; simp
  have c0 : X3.cell? ⟨w3.heap.size, 0, none⟩ = some (.slice av P.length cv) := by rw [← hX3]; simp [go_sem]
  have c1 : X3.cell? ⟨w3.heap.size, 1, none⟩ = some (.slice au Q.length cu) := by rw [← hX3]; simp [go_sem]
  have hWin : Hid ((∀ x, (Value.slice av P.length cv).ownBlock = some x → x < X3.heap.size) ∧ ∀ x, (Value.slice au Q.length cu).ownBlock = some x → x < X3.heap.size) := ⟨fun x hx => by have := own_in rW3.1 x hx; omega, fun x hx => by have := own_in rW3.2.1 x hx; omega⟩
  have HC3 : Hid (∀ W, Below X3.heap.size X3 W → W.cell? ⟨w3.heap.size, 0, none⟩ = some (.slice av P.length cv) ∧ W.cell? ⟨w3.heap.size, 1, none⟩ = some (.slice au Q.length cu)) := fun W hW => ⟨(hW.cell (p := ⟨w3.heap.size, 0, none⟩) (by show w3.heap.size < _; omega)).trans c0, (hW.cell (p := ⟨w3.heap.size, 1, none⟩) (by show w3.heap.size < _; omega)).trans c1⟩
  have hB3 : Below w.heap.size w X3 := hb3.trans (hbX3.mono hb3.size)
  have HF : Hid (∀ W, Below X3.heap.size X3 W → Below w.heap.size w W) := fun W hW => hB3.trans (hW.mono hB3.size)
  have rX3 := rW3.keep hbX3
  have HI5 := (show Hid _ from HIm.out X3 hB3)
  clear hb3 HSp rW3 hbX3 hsX3 hB3
  go_wp2_with fail
  (try rw [hX3])
  refine Calls.mono HI5.out ?_
  rintro e w5 ⟨vG, uG, rfl, rG5, hb5⟩
  obtain ⟨bv, dv, rfl⟩ := own_shape rG5.1
  obtain ⟨bu, du, rfl⟩ := own_shape rG5.2.1
  obtain ⟨X5, hX5⟩ : ∃ X, w5.alloc (.cells #[.slice bv P.length dv, .slice bu Q.length du] 29) = X := ⟨_, rfl⟩
  have hbX5 : Below w5.heap.size w5 X5 := by rw [← hX5]; exact (Below.refl _ _).alloc (Nat.le_refl _) _
  have hsX5 : X5.heap.size = w5.heap.size + 1 := by rw [← hX5]; simp
  have d0 : X5.cell? ⟨w5.heap.size, 0, none⟩ = some (.slice bv P.length dv) := by rw [← hX5]; simp [go_sem]
  have d1 : X5.cell? ⟨w5.heap.size, 1, none⟩ = some (.slice bu Q.length du) := by rw [← hX5]; simp [go_sem]
  have hGin : Hid ((Value.slice bv P.length dv).ownBlock ≠ some w5.heap.size ∧ (Value.slice bu Q.length du).ownBlock ≠ some w5.heap.size ∧ w5.heap.size < X5.heap.size) := ⟨fun e => Nat.lt_irrefl _ (own_in rG5.1 _ e), fun e => Nat.lt_irrefl _ (own_in rG5.2.1 _ e), by omega⟩
  have hB5 : Below X3.heap.size X3 X5 := hb5.trans (hbX5.mono hb5.size)
  have rW5 := rX3.keep hB5
  have rG6 := rG5.keep hbX5
  obtain ⟨x0, x1⟩ := HC3.out X5 hB5
  have HQ5 := (show Hid _ from HQ.out X5 _ _ _ _ _ _ rG6 rW5)
  have HR5 : Hid (TwoR X5 X3.heap.size _ _ P Q ∧ TwoR X5 w.heap.size _ _ P Q ∧ Below X3.heap.size X3 X5) := ⟨rG6, rW5, hB5⟩
  clear hb5 rX3 rG5 hbX5 hsX5 HI5 hX3 c0 c1 hB5 rW5 rG6
  go_wp2_with fail
  (try rw [hX5])
  refine Calls.mono HQ5.out ?_
  rintro e w6 ⟨rfl, hb6⟩
  have hB6 := HR5.out.2.2.trans (hb6.mono HR5.out.2.2.size)
  have rG10 := HR5.out.1.keep hb6
  have HW10 : Hid (TwoR w6 w.heap.size _ _ P Q) := HR5.out.2.1.keep hb6
  have y0 := (hb6.cell (p := ⟨w5.heap.size, 0, none⟩) hGin.out.2.2).trans d0
  have y1 := (hb6.cell (p := ⟨w5.heap.size, 1, none⟩) hGin.out.2.2).trans d1
  have hs56 : w5.heap.size < w6.heap.size := Nat.lt_of_lt_of_le hGin.out.2.2 hb6.size
  have HM6 := (show Hid _ from HMI.out w6 _ _ _ rG10 hB6.size)
  have HB6 := (show Hid _ from hB6)
  clear hb6 HQ5 HR5 hX5 d0 d1 x0 x1 hB6 rG10 HMI
  go_wp2_with fail
  refine Calls.mono HM6.out ?_
  rintro e w11 ⟨rfl, hg11, hsG11, hk11⟩
  have hB11 : Below X3.heap.size X3 w11 := HB6.out.trans hg11
  have hblk := hk11 w5.heap.size hs56 hGin.out.1 hGin.out.2.1
  have z0 := (World.cell?_of_block (a := ⟨w5.heap.size, 0, none⟩) hblk).trans y0
  have z1 := (World.cell?_of_block (a := ⟨w5.heap.size, 1, none⟩) hblk).trans y1
  have hs511 : w5.heap.size < w11.heap.size := Nat.lt_of_lt_of_le hs56 hg11.size
  have HW11 : Hid (TwoR w11 w.heap.size _ _ P Q) := HW10.out.under hg11 hWin.out.1 hWin.out.2
  have HH11 := (show Hid _ from HH.out _ _ _ hsG11)
  have HS11 : Hid (HeldR w11 1 _ _ _ _) := hsG11
  have HB11 := (show Hid _ from hB11)
  clear hg11 HM6 HB6 hB11 hblk hk11 y0 y1 hs56 HW10 hsG11
  go_wp2_with fail
  refine Calls.mono HH11.out ?_
  rintro e w12 ⟨rfl, hb12⟩
  have hB12 := HB11.out.trans (hb12.mono HB11.out.size)
  have HW12 : Hid (TwoR w12 w.heap.size _ _ P Q) := HW11.out.keep hb12
  have HS12 : Hid (HeldR w12 1 _ _ _ _) := HS11.out.keep hb12
  have u0 := (hb12.cell (p := ⟨w5.heap.size, 0, none⟩) hs511).trans z0
  have u1 := (hb12.cell (p := ⟨w5.heap.size, 1, none⟩) hs511).trans z1
  have hs512 : w5.heap.size < w12.heap.size := Nat.lt_of_lt_of_le hs511 hb12.size
  have HI12 := (show Hid _ from HIm.out w12 (HF.out _ hB12))
  have HB12 := (show Hid _ from hB12)
  clear hb12 HW11 HS11 HB11 hB12 z0 z1 hs511 HH11
  go_wp2_with fail
  refine Calls.mono HI12.out ?_
  rintro e w14 ⟨vH, uH, rfl, rH14, hb14⟩
  obtain ⟨ev, fv, rfl⟩ := own_shape rH14.1
  obtain ⟨eu, fu, rfl⟩ := own_shape rH14.2.1
  obtain ⟨X14, hX14⟩ : ∃ X, w14.alloc (.cells #[.slice ev P.length fv, .slice eu Q.length fu] 29) = X := ⟨_, rfl⟩
  have hbX14 : Below w14.heap.size w14 X14 := by rw [← hX14]; exact (Below.refl _ _).alloc (Nat.le_refl _) _
  have hb14' : Below w12.heap.size w12 X14 := hb14.trans (hbX14.mono hb14.size)
  have g0 : X14.cell? ⟨w14.heap.size, 0, none⟩ = some (.slice ev P.length fv) := by rw [← hX14]; simp [go_sem]
  have g1 : X14.cell? ⟨w14.heap.size, 1, none⟩ = some (.slice eu Q.length fu) := by rw [← hX14]; simp [go_sem]
  have hB14 := HB12.out.trans (hb14'.mono HB12.out.size)
  obtain ⟨x0, x1⟩ := HC3.out X14 hB14
  have v0 := (hb14'.cell (p := ⟨w5.heap.size, 0, none⟩) hs512).trans u0
  have v1 := (hb14'.cell (p := ⟨w5.heap.size, 1, none⟩) hs512).trans u1
  have hs514 : w5.heap.size < X14.heap.size := Nat.lt_of_lt_of_le hs512 hb14'.size
  have HQ14 := (show Hid _ from HQ.out X14 _ _ _ _ _ _ (rH14.keep hbX14) (HW12.out.keep hb14'))
  have HS14 : Hid (HeldR X14 1 _ _ _ _) := HS12.out.keep hb14'
  have HB14 := (show Hid _ from hB14)
  clear hb14 hb14' hbX14 HW12 HS12 HB12 hB14 rH14 HI12 u0 u1 hs512
  go_wp2_with fail
  (try rw [hX14])
  refine Calls.mono HQ14.out ?_
  rintro e w15 ⟨rfl, hb15⟩
  have hB15 := HB14.out.trans (hb15.mono HB14.out.size)
  have hsG15 : HeldR w15 1 _ _ _ _ := HS14.out.keep hb15
  have m0 := (hb15.cell (p := ⟨w5.heap.size, 0, none⟩) hs514).trans v0
  have m1 := (hb15.cell (p := ⟨w5.heap.size, 1, none⟩) hs514).trans v1
  have HH15 := (show Hid _ from HH.out _ _ _ hsG15)
  have HB15 := (show Hid _ from hB15)
  clear hb15 HQ14 HS14 HB14 hB15 hsG15 hX14 v0 v1 g0 g1 x0 x1
  go_wp2_with fail
  refine Calls.mono HH15.out ?_
  rintro e w16 ⟨rfl, hb16⟩
  have HB16 := (show Hid _ from HF.out _ (HB15.out.trans (hb16.mono HB15.out.size)))
  clear hb16
  go_wp2
  go_ret
  exact ⟨rfl, HB16.out⟩
end Go.Proofs.YtbchehpggoampaaDoor
