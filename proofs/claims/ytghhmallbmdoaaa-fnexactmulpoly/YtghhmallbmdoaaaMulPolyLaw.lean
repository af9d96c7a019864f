/-
  PROVED HERE: the law FnExactMulPoly's own run, at every two lists of products. No other condition.
-/
import Derived.Test.YtghhmallbmdoaaaPolyMulI
import Derived.Test.YtghhmallbmdoaaaMonoOwn
import Derived.Test.YtghhmallbmdoaaaMonoIn
namespace Go.Proofs.Ytghhmallbmdoaaa
open Go.ChangeShapes Go.WideShapes Go.ChangeAt Go.RowKit
set_option linter.unusedVariables false

theorem fewMul (p q : List Mon) : Few4 (mulR p q) := by
  unfold mulR
  split
  · rename_i h
    unfold mulOk at h
    rw [Bool.and_eq_true] at h
    exact few_of h.2
  · exact few_nil
theorem turn_belowMul {lo hi B : Nat} {a b c : World} (h : Below B a b) (k : TurnIn lo hi b c) (h1 : B ≤ lo) (h2 : B ≤ b.heap.size) : Below B a c := by
  obtain ⟨a1, a2, a3, a4, a5⟩ := k.all
  exact ⟨a1.trans h.os, a2.trans h.tape, a3.trans h.output, Nat.le_trans h.size a4, fun x hx => (a5 x (by omega) (.inl (by omega))).trans (h.block x hx)⟩
set_option maxHeartbeats 6400000 in
set_option maxRecDepth 20000 in
theorem mulPolyLaw_any (a : Option Addr) (la ca : Nat) (p : List Mon) (b : Option Addr) (lb cb : Nat) (q : List Mon) (w : World) (ha : PSl w a la p) (hb : PSl w b lb q) (hla : la ≤ 9223372036854775807) (hlb : lb ≤ 9223372036854775807) (hp : InM p) (hq : InM q) :
    Calls Try.prog 5 #[.slice a la ca, .slice b lb cb] w fun e w' => e = .returned (.bool true) ∧ Below w.heap.size w w' := by
  have hal := ha.1
  have hbl := hb.1
  have HZ := (show Hid _ from szP_any a la ca p 1048576 w ha ⟨by omega, by omega⟩ hla)
  have HZ2 : Hid (∀ W (n : Int), Below w.heap.size w W → (0 ≤ n ∧ n ≤ 1048576) → Calls Try.prog 7 #[.slice b lb cb, .int .i64 n] W fun e w' => ∃ z : Int, e = .returned (.int .i64 z) ∧ Below W.heap.size W w' ∧ (z < 0 ∨ (0 ≤ z ∧ z ≤ n ∧ (lb : Int) + lensUp q lb + z = n))) := fun W n hW hn => szP_any b lb cb q n W (hb.keep hW) hn hlb
  have HSp : Hid (∀ W (g g' : Option Addr), PSl W g la p → PSl W g' lb q → Calls Try.prog 16 #[.slice g la la, .slice g' lb lb] W fun r w' => ∃ v, r = .returned (.tuple #[v, .bool (mulOk p q)]) ∧ SpecV w' v (mulR p q) ∧ Below W.heap.size W w') := fun W g g' h1 h2 => specMul_any g la la p g' lb lb q W h1 h2 hla hlb hp hq
  have HIm : Hid (∀ W (g g' : Option Addr), PSl W g la p → PSl W g' lb q → Calls Try.prog 17 #[.slice g la la, .slice g' lb lb] W fun r w' => ∃ v, r = .returned (.tuple #[v, .bool (mulOk p q)]) ∧ OwnIn w' W.heap.size w'.heap.size v (mulR p q) ∧ Below W.heap.size W w') := fun W g g' h1 h2 => (implMul_any g la la p g' lb lb q W h1 h2 hla hlb hp hq).mono fun r w' ⟨v, t1, t2, t3⟩ => ⟨v, t1, t2.within, t3⟩
  have hF := fewMul p q
  generalize mulOk p q = G at HSp HIm
  generalize mulR p q = R at HSp HIm hF
  have HF := (show Hid _ from hF)
  have HQ : Hid (∀ W (u v : Value), SpecV W u R → SpecV W v R → Calls Try.prog 11 #[u, v] W fun e w' => e = .returned (.bool true) ∧ Below W.heap.size W w') := fun W u v h1 h2 => eqV_same u v R W h1 h2 hF
  have HMI : Hid (∀ W lo hi (v : Value), OwnIn W lo hi v R → Calls Try.prog 14 #[v, .int .i64 1] W fun e w' => e = .returned (.int .i64 (stN 1 R R.length : Nat)) ∧ TurnIn lo hi W w' ∧ SpecV w' v (marksP 1 R)) := fun W lo hi v hW => markV_any lo hi v R W hW hF
  have HH : Hid (∀ W (v : Value), SpecV W v (marksP 1 R) → Calls Try.prog 15 #[v, .int .i64 1] W fun e w' => e = .returned (.int .i64 (stN 1 R R.length : Nat)) ∧ w' = W) := fun W v hW => heldV_any v R W hW hF
  have hGG : (G != G) = false := by simp
  have hq1 : ¬ ((stN 1 R R.length : Nat) : Int) < 0 := by omega
  generalize ((stN 1 R R.length : Nat) : Int) = zq at HMI HH hq1
  have hqq : (zq != zq) = false := by simp
  clear hF
  go_enter Try.func5, Try.ntmps5
  go_wp2_with fail
  refine Calls.mono HZ.out ?_
  rintro e w1 ⟨z, rfl, hb1, hz⟩
  clear HZ
  rcases hz with hz | ⟨hz, hz1, hz2⟩
  · go_wp2
    go_ret
    exact ⟨rfl, hb1⟩
  · have hz' : ¬ z < 0 := by omega
    go_wp2_with fail
    refine Calls.mono (HZ2.out _ z hb1 ⟨hz, hz1⟩) ?_
    rintro e w1' ⟨y, rfl, hb1', hy⟩
    have hB1 := hb1.trans (hb1'.mono hb1.size)
    clear HZ2 hb1 hb1'
    rcases hy with hy | ⟨hy, hy1, hy2⟩
    · go_wp2
      go_ret
      exact ⟨rfl, hB1⟩
    · have hna : la ≤ 1048576 := by unfold lensUp at hz2; omega
      have hnb : lb ≤ 1048576 := by unfold lensUp at hy2; omega
      have hpa : ∀ i, i < la → (p.getD i ([], 0)).1.length ≤ 1048576 := fun i hi => by have := lens_le p la i hi hal; omega
      have hpb : ∀ i, i < lb → (q.getD i ([], 0)).1.length ≤ 1048576 := fun i hi => by have := lens_le q lb i hi hbl; omega
      have hst : stN (stN 1 p la) q lb ≤ 1048577 := by
        unfold lensUp at hz2 hy2
        unfold stN
        omega
      have hst1 : stN 1 p la ≤ 1048577 := by unfold stN at hst ⊢; omega
      have hst0 : 1 ≤ stN 1 p la := by unfold stN; omega
      have HU : Hid (∀ W, PSl W a la p → Calls Try.prog 9 #[.slice a la ca] W fun e w' => e = .returned (.slice (some ⟨W.heap.size, 0, none⟩) la la) ∧ Below W.heap.size W w' ∧ PSl w' (some ⟨W.heap.size, 0, none⟩) la p ∧ PMine w' W.heap.size w'.heap.size W.heap.size la p) := fun W hW => (copyP_mine a la ca p W hW hna hpa).mono fun e w' ⟨h1, h2, h3⟩ => ⟨h1, h2, h3.psl (fun i hi => by have := hpa i hi; omega), h3⟩
      have HV : Hid (∀ W, PSl W b lb q → Calls Try.prog 9 #[.slice b lb cb] W fun e w' => e = .returned (.slice (some ⟨W.heap.size, 0, none⟩) lb lb) ∧ Below W.heap.size W w' ∧ PSl w' (some ⟨W.heap.size, 0, none⟩) lb q ∧ PMine w' W.heap.size w'.heap.size W.heap.size lb q) := fun W hW => (copyP_mine b lb cb q W hW hnb hpb).mono fun e w' ⟨h1, h2, h3⟩ => ⟨h1, h2, h3.psl (fun i hi => by have := hpb i hi; omega), h3⟩
      have HEu : Hid (∀ W (g g' : Option Addr), PSl W g la p → PSl W g' la p → Calls Try.prog 11 #[.slice g la la, .slice g' la la] W fun e w' => e = .returned (.bool true) ∧ Below W.heap.size W w') := fun W g g' h1 h2 => eqP_same g g' la la la p W h1 h2 hna hpa
      have HEv : Hid (∀ W (g g' : Option Addr), PSl W g lb q → PSl W g' lb q → Calls Try.prog 11 #[.slice g lb lb, .slice g' lb lb] W fun e w' => e = .returned (.bool true) ∧ Below W.heap.size W w') := fun W g g' h1 h2 => eqP_same g g' lb lb lb q W h1 h2 hnb hpb
      have HMu : Hid (∀ W lo hi g, PMine W lo hi g la p → Calls Try.prog 14 #[.slice (some ⟨g, 0, none⟩) la la, .int .i64 1] W fun e w' => e = .returned (.int .i64 (stN 1 p la : Nat)) ∧ TurnIn lo hi W w') := fun W lo hi g hW => (markP_any lo hi g la la 1 p W hW (Nat.le_refl _) hst1).mono fun e w' ⟨h1, h2, _⟩ => ⟨h1, h2⟩
      obtain ⟨s1, hs1⟩ : ∃ s1, stN 1 p la = s1 := ⟨_, rfl⟩
      rw [hs1] at HMu hst hst0
      have HMv : Hid (∀ W lo hi g, PMine W lo hi g lb q → Calls Try.prog 14 #[.slice (some ⟨g, 0, none⟩) lb lb, .int .i64 (s1 : Nat)] W fun e w' => e = .returned (.int .i64 (stN s1 q lb : Nat)) ∧ TurnIn lo hi W w') := fun W lo hi g hW => (markP_any lo hi g lb lb s1 q W hW hst0 hst).mono fun e w' ⟨h1, h2, _⟩ => ⟨h1, h2⟩
      have hy' : ¬ y < 0 := by omega
      have hk1 : ¬ ((stN s1 q lb : Nat) : Int) < 0 := by omega
      generalize ((stN s1 q lb : Nat) : Int) = zk at HMv hk1
      clear hpa hpb hz2 hy2 hst hst1 hst0 hs1 hp hq
      go_wp2_with fail
      refine (HU.out _ (ha.keep hB1)).mono ?_
      rintro e w2 ⟨rfl, hb2, hu2, _⟩
      have hB2 := hB1.trans (hb2.mono hB1.size)
      clear hb2 hB1
      go_wp2_with fail
      refine (HV.out _ (hb.keep hB2)).mono ?_
      rintro e w3 ⟨rfl, hb3, hv3, _⟩
      have hu3 := hu2.keep hb3
      have hB3 := hB2.trans (hb3.mono hB2.size)
      clear hb3 hB2 hu2
      go_wp2_with fail
      refine (HSp.out _ _ _ hu3 hv3).mono ?_
      rintro e w4 ⟨vW, rfl, rW4, hb4⟩
      have hB4 := hB3.trans (hb4.mono hB3.size)
      clear hb4 hB3 hu3 hv3 HSp
      have B4 := Below.refl w4.heap.size w4
      go_wp2_with fail
      refine (HU.out _ (ha.keep hB4)).mono ?_
      rintro e w5 ⟨rfl, hb5, hu5, nu5⟩
      have hB5 := hB4.trans (hb5.mono hB4.size)
      have B5 := B4.trans hb5
      have hX5 := nu5.2.2.1
      clear hb5 B4
      go_wp2_with fail
      refine (HV.out _ (hb.keep hB5)).mono ?_
      rintro e w6 ⟨rfl, hb6, hv6, nv6⟩
      have hB6 := hB5.trans (hb6.mono hB5.size)
      have B6 := B5.trans (hb6.mono B5.size)
      have hu6 := hu5.keep hb6
      have nu6 := nu5.keep hb6
      have hX6 := nv6.2.2.1
      have hY5 := B5.size
      clear hb6 B5 hB5 hu5 nu5
      go_wp2_with fail
      refine (HIm.out _ _ _ hu6 hv6).mono ?_
      rintro e w7 ⟨vG, rfl, rG7, hb7⟩
      have hB7 := hB6.trans (hb7.mono hB6.size)
      have B7 := B6.trans (hb7.mono B6.size)
      have hu7 := hu6.keep hb7
      have nu7 := nu6.keep hb7
      have hv7 := hv6.keep hb7
      have nv7 := nv6.keep hb7
      have hY7 := hb7.size
      clear hb7 B6 hB6 hu6 nu6 hv6 nv6
      go_wp2_with fail
      refine (HQ.out _ _ _ (rG7.spec HF.out) (rW4.keep B7)).mono ?_
      rintro e w8 ⟨rfl, hb8⟩
      have hB8 := hB7.trans (hb8.mono hB7.size)
      have B8 := B7.trans (hb8.mono B7.size)
      have rG8 := rG7.keep (Nat.le_refl _) hb8
      have hu8 := hu7.keep hb8
      have nu8 := nu7.keep hb8
      have hv8 := hv7.keep hb8
      have nv8 := nv7.keep hb8
      have hY8 := hb8.size
      clear hb8 B7 hB7 hu7 nu7 hv7 nv7 rG7
      go_wp2_with fail
      refine (HU.out _ (ha.keep hB8)).mono ?_
      rintro e w9 ⟨rfl, hb9, hu9', _⟩
      have hB9 := hB8.trans (hb9.mono hB8.size)
      have B9 := B8.trans (hb9.mono B8.size)
      have rG9 := rG8.keep hY8 hb9
      have hu9 := hu8.keep hb9
      have nu9 := nu8.keep hb9
      have hv9 := hv8.keep hb9
      have nv9 := nv8.keep hb9
      have hY9 := Nat.le_trans hY8 hb9.size
      clear hb9 B8 hB8 hu8 nu8 hv8 nv8 rG8
      go_wp2_with fail
      refine (HEu.out _ _ _ hu9 hu9').mono ?_
      rintro e w10 ⟨rfl, hb10⟩
      have hB10 := hB9.trans (hb10.mono hB9.size)
      have B10 := B9.trans (hb10.mono B9.size)
      have rG10 := rG9.keep hY9 hb10
      have nu10 := nu9.keep hb10
      have hv10 := hv9.keep hb10
      have nv10 := nv9.keep hb10
      have hY10 := Nat.le_trans hY9 hb10.size
      clear hb10 B9 hB9 hu9 hu9' nu9 hv9 nv9 rG9
      go_wp2_with fail
      refine (HV.out _ (hb.keep hB10)).mono ?_
      rintro e w11 ⟨rfl, hb11, hv11', _⟩
      have hB11 := hB10.trans (hb11.mono hB10.size)
      have B11 := B10.trans (hb11.mono B10.size)
      have rG11 := rG10.keep hY10 hb11
      have nu11 := nu10.keep hb11
      have hv11 := hv10.keep hb11
      have nv11 := nv10.keep hb11
      have hY11 := Nat.le_trans hY10 hb11.size
      clear hb11 B10 hB10 nu10 hv10 nv10 rG10
      go_wp2_with fail
      refine (HEv.out _ _ _ hv11 hv11').mono ?_
      rintro e w12 ⟨rfl, hb12⟩
      have hB12 := hB11.trans (hb12.mono hB11.size)
      have B12 := B11.trans (hb12.mono B11.size)
      have rG12 := rG11.keep hY11 hb12
      have nu12 := nu11.keep hb12
      have nv12 := nv11.keep hb12
      have hY12 := Nat.le_trans hY11 hb12.size
      clear hb12 B11 hB11 hv11 hv11' nu11 nv11 rG11
      go_wp2_with fail
      refine (HMu.out _ _ _ _ nu12).mono ?_
      rintro e w13 ⟨rfl, t13⟩
      have t13a := t13.all
      have hB13 : Below w.heap.size w w13 := turn_belowMul hB12 t13 hB4.size hB12.size
      have B13 : Below w4.heap.size w4 w13 := turn_belowMul B12 t13 (Nat.le_refl _) B12.size
      have rG13 := rG12.map (Nat.le_trans hY12 t13a.2.2.2.1) (fun x h1 h2 => t13a.2.2.2.2 x (by omega) (.inr (by omega)))
      have nv13 := nv12.map (Nat.le_refl _) (Nat.le_refl _) (Nat.le_trans nv12.2.2.2.1 t13a.2.2.2.1) (fun x h1 h2 => t13a.2.2.2.2 x (by have := nv12.2.2.2.1; omega) (.inr (by omega)))
      have hY13 := Nat.le_trans hY12 t13a.2.2.2.1
      clear t13 t13a B12 hB12 nu12 nv12 rG12
      go_wp2_with fail
      refine (HMv.out _ _ _ _ nv13).mono ?_
      rintro e w14 ⟨rfl, t14⟩
      have t14a := t14.all
      have hB14 : Below w.heap.size w w14 := turn_belowMul hB13 t14 (by have := hB4.size; omega) hB13.size
      have B14 : Below w4.heap.size w4 w14 := turn_belowMul B13 t14 (by omega) B13.size
      have rG14 := rG13.map (Nat.le_trans hY13 t14a.2.2.2.1) (fun x h1 h2 => t14a.2.2.2.2 x (by omega) (.inr h1))
      have hY14 := Nat.le_trans hY13 t14a.2.2.2.1
      clear t14 t14a B13 hB13 nv13 rG13
      go_wp2_with fail
      refine (HQ.out _ _ _ (rG14.spec HF.out) (rW4.keep B14)).mono ?_
      rintro e w15 ⟨rfl, hb15⟩
      have hB15 := hB14.trans (hb15.mono hB14.size)
      have B15 := B14.trans (hb15.mono B14.size)
      have rG15 := rG14.keep hY14 hb15
      have hY15 := Nat.le_trans hY14 hb15.size
      clear hb15 B14 hB14 rG14
      go_wp2_with fail
      refine (HMI.out _ _ _ _ rG15).mono ?_
      rintro e w16 ⟨rfl, t16, sG16⟩
      have hB16 : Below w.heap.size w w16 := turn_belowMul hB15 t16 (by have := hB4.size; omega) hB15.size
      have B16 : Below w4.heap.size w4 w16 := turn_belowMul B15 t16 (by omega) B15.size
      clear t16 B15 hB15 rG15
      go_wp2_with fail
      refine (HH.out _ _ sG16).mono ?_
      rintro e w17 ⟨rfl, rfl⟩
      go_wp2_with fail
      refine (HU.out _ (ha.keep hB16)).mono ?_
      rintro e w18 ⟨rfl, hb18, hu18, _⟩
      have hB18 := hB16.trans (hb18.mono hB16.size)
      have B18 := B16.trans (hb18.mono B16.size)
      have sG18 := sG16.keep hb18
      clear hb18 B16 hB16 sG16
      go_wp2_with fail
      refine (HV.out _ (hb.keep hB18)).mono ?_
      rintro e w19 ⟨rfl, hb19, hv19, _⟩
      have hu19 := hu18.keep hb19
      have hB19 := hB18.trans (hb19.mono hB18.size)
      have B19 := B18.trans (hb19.mono B18.size)
      have sG19 := sG18.keep hb19
      clear hb19 B18 hB18 sG18 hu18
      go_wp2_with fail
      refine (HIm.out _ _ _ hu19 hv19).mono ?_
      rintro e w20 ⟨vH, rfl, rH20, hb20⟩
      have hB20 := hB19.trans (hb20.mono hB19.size)
      have B20 := B19.trans (hb20.mono B19.size)
      have sG20 := sG19.keep hb20
      clear hb20 B19 hB19 sG19 hu19 hv19
      go_wp2_with fail
      refine (HQ.out _ _ _ (rH20.spec HF.out) (rW4.keep B20)).mono ?_
      rintro e w21 ⟨rfl, hb21⟩
      have hB21 := hB20.trans (hb21.mono hB20.size)
      have sG21 := sG20.keep hb21
      clear hb21 B20 hB20 sG20 rH20
      go_wp2_with fail
      refine (HH.out _ _ sG21).mono ?_
      rintro e w22 ⟨rfl, rfl⟩
      go_wp2
      go_ret
      exact ⟨rfl, hB21⟩
end Go.Proofs.Ytghhmallbmdoaaa
