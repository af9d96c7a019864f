/-
  PROVED HERE: the law FnExactPolyOf's own run, at every list of nodes, in a world whose table of arities is laid. No other condition.
-/
import Derived.Test.YtpjgjpjfchfmlaaDoorSPolyAll
import Derived.Test.YtpjgjpjfchfmlaaDoorMonoOwns
import Derived.Test.YtpjgjpjfchfmlaaDoorKeeps
import Derived.Test.YtpjgjpjfchfmlaaDoorNodeMarks
namespace Go.Proofs.YtpjgjpjfchfmlaaDoor
open Go.ChangeShapes Go.WideShapes Go.ChangeAt Go.RowKit
set_option linter.unusedVariables false

theorem fewOf {l : List (Int × Int)} (hI : ∀ k, InI (l.getD k (0, 0)).2) : Few4 ((ofT l).getD []) := by
  unfold ofT
  by_cases h : isRingB l = true
  · rw [if_pos h]
    unfold isRingB at h
    rw [Bool.and_eq_true] at h
    have hp := (good_pile h.1).1
    cases e : ofF l l.length (l.length - 1) with
    | none => exact few_nil
    | some s => exact few_of (ofF_good (fun k _ => hI k) (vars4 hp) _ _ s e).1
  · rw [if_neg h]; exact few_nil
theorem turn_belowOf {lo hi B : Nat} {a b c : World} (h : Below B a b) (k : TurnIn lo hi b c) (h1 : B ≤ lo) (h2 : B ≤ b.heap.size) : Below B a c := by
  obtain ⟨a1, a2, a3, a4, a5⟩ := k.all
  exact ⟨a1.trans h.os, a2.trans h.tape, a3.trans h.output, Nat.le_trans h.size a4, fun x hx => (a5 x (by omega) (.inl (by omega))).trans (h.block x hx)⟩

set_option maxHeartbeats 6400000 in
set_option maxRecDepth 20000 in
theorem polyOfLaw_any (a : Option Addr) (len cap : Nat) (l : List (Int × Int)) (w : World) (hT : Tab w) (h : NSl w a len l) (hm : len ≤ 9223372036854775807) (hI : ∀ k, InI (l.getD k (0, 0)).2) :
    Calls Tryd.prog 3 #[.slice a len cap] w fun e w' => e = .returned (.bool true) ∧ Below w.heap.size w w' := by
  have hll := h.1
  have HZ := sz_any a len cap 1048576 w (Nat.le_refl _) hm
  by_cases hn : len ≤ 1048576
  · rw [if_pos hn] at HZ
    have hz0 : ¬ ((1048576 - len : Nat) : Int) < 0 := by omega
    generalize ((1048576 - len : Nat) : Int) = z at HZ hz0
    have HZ' := (show Hid _ from HZ)
    have HC : Hid (∀ W, NSl W a len l → Calls Tryd.prog 7 #[.slice a len cap] W fun e w' => e = .returned (.slice (some ⟨W.heap.size, 0, none⟩) len len) ∧ Below W.heap.size W w' ∧ NSl w' (some ⟨W.heap.size, 0, none⟩) len l ∧ Mine w' W.heap.size 0 len) := fun W hW => copyN_mine a len cap l W hW hn
    have HSp : Hid (∀ W (g : Option Addr), NSl W g len l → Calls Tryd.prog 6 #[.slice g len len] W fun r w' => ∃ v, r = .returned (.tuple #[v, .bool (ofT l).isSome]) ∧ SpecV w' v ((ofT l).getD []) ∧ Below W.heap.size W w') := fun W g hW => specPolyOf_any g len len l W hW hm hI
    have HIm : Hid (∀ W (g : Option Addr), Below w.heap.size w W → NSl W g len l → Calls Tryd.prog 8 #[.slice g len len] W fun r w' => ∃ v, r = .returned (.tuple #[v, .bool (ofT l).isSome]) ∧ OwnIn w' W.heap.size w'.heap.size v ((ofT l).getD []) ∧ Below W.heap.size W w') := fun W g hW hS => (implPolyOf_any g len len l W (hT.keeps hW) hS hm hI).mono fun r w' ⟨v, t1, t2, t3⟩ => ⟨v, t1, t2.within, t3⟩
    have HE : Hid (∀ W (g g' : Option Addr), NSl W g len l → NSl W g' len l → Calls Tryd.prog 10 #[.slice g len len, .slice g' len len] W fun e w' => e = .returned (.bool true) ∧ Below W.heap.size W w') := fun W g g' h1 h2 => eqN_same g g' len len len l W h1 h2 hn
    have hF := fewOf hI
    generalize (ofT l).isSome = G at HSp HIm
    generalize (ofT l).getD [] = R at HSp HIm hF
    have HF := (show Hid _ from hF)
    have HQ : Hid (∀ W (u v : Value), SpecV W u R → SpecV W v R → Calls Tryd.prog 9 #[u, v] W fun e w' => e = .returned (.bool true) ∧ Below W.heap.size W w') := fun W u v h1 h2 => eqV_same u v R W h1 h2 hF
    have HM : Hid (∀ W b, Mine W b 0 len → Calls Tryd.prog 11 #[.slice (some ⟨b, 0, none⟩) len len, .int .i64 1] W fun e w' => e = .returned (.int .i64 (1 + 2 * len : Nat)) ∧ W.grownBy w' (some b)) := fun W b hW => (mark_any b 0 len len 1 W hW hn (by omega)).mono fun e w' ⟨h1, h2, _⟩ => ⟨h1, h2⟩
    have HMI : Hid (∀ W lo hi (v : Value), OwnIn W lo hi v R → Calls Tryd.prog 12 #[v, .int .i64 1] W fun e w' => e = .returned (.int .i64 (stN 1 R R.length : Nat)) ∧ TurnIn lo hi W w' ∧ SpecV w' v (marksP 1 R)) := fun W lo hi v hW => markV_any lo hi v R W hW hF
    have HH : Hid (∀ W (v : Value), SpecV W v (marksP 1 R) → Calls Tryd.prog 13 #[v, .int .i64 1] W fun e w' => e = .returned (.int .i64 (stN 1 R R.length : Nat)) ∧ w' = W) := fun W v hW => heldV_any v R W hW hF
    have hGG : (G != G) = false := by simp
    have hk1 : ¬ ((1 + 2 * len : Nat) : Int) < 0 := by omega
    generalize ((1 + 2 * len : Nat) : Int) = zk at HM hk1
    have hq1 : ¬ ((stN 1 R R.length : Nat) : Int) < 0 := by omega
    generalize ((stN 1 R R.length : Nat) : Int) = zq at HMI HH hq1
    have hqq : (zq != zq) = false := by simp
    clear HZ hF hI hT
    go_enter Tryd.func3, Tryd.ntmps3
    go_wp2_with fail
    refine Calls.mono HZ'.out ?_
    rintro e w1 ⟨rfl, rfl⟩
    clear HZ'
    go_wp2_with fail
    refine (HC.out _ h).mono ?_
    rintro e w2 ⟨rfl, hb2, hs2, _⟩
    go_wp2_with fail
    refine (HSp.out _ _ hs2).mono ?_
    rintro e w4 ⟨vW, rfl, rW4, hb4⟩
    have hB4 := hb2.trans (hb4.mono hb2.size)
    clear hb2 hb4 hs2 HSp
    have B4 := Below.refl w4.heap.size w4
    go_wp2_with fail
    refine (HC.out _ (h.keep hB4)).mono ?_
    rintro e w5 ⟨rfl, hb5, hs5, hm5⟩
    have hB5 := hB4.trans (hb5.mono hB4.size)
    have B5 := B4.trans hb5
    have hX5 : w4.heap.size < w5.heap.size := hm5.1
    clear hb5 B4
    go_wp2_with fail
    refine (HIm.out _ _ hB5 hs5).mono ?_
    rintro e w7 ⟨vG, rfl, rG7, hb7⟩
    have hB7 := hB5.trans (hb7.mono hB5.size)
    have B7 := B5.trans (hb7.mono B5.size)
    have hs7 := hs5.keep hb7
    have hm7 := hm5.keep hb7
    have hY7 := hb7.size
    clear hb7 B5 hB5 hs5 hm5
    go_wp2_with fail
    refine (HQ.out _ _ _ (rG7.spec HF.out) (rW4.keep B7)).mono ?_
    rintro e w8 ⟨rfl, hb8⟩
    have hB8 := hB7.trans (hb8.mono hB7.size)
    have B8 := B7.trans (hb8.mono B7.size)
    have rG8 := rG7.keep (Nat.le_refl _) hb8
    have hs8 := hs7.keep hb8
    have hm8 := hm7.keep hb8
    have hY8 := hb8.size
    clear hb8 B7 hB7 hs7 hm7 rG7
    go_wp2_with fail
    refine (HC.out _ (h.keep hB8)).mono ?_
    rintro e w9 ⟨rfl, hb9, hs9', _⟩
    have hB9 := hB8.trans (hb9.mono hB8.size)
    have B9 := B8.trans (hb9.mono B8.size)
    have rG9 := rG8.keep hY8 hb9
    have hs9 := hs8.keep hb9
    have hm9 := hm8.keep hb9
    have hY9 := Nat.le_trans hY8 hb9.size
    clear hb9 B8 hB8 hs8 hm8 rG8
    go_wp2_with fail
    refine (HE.out _ _ _ hs9 hs9').mono ?_
    rintro e w10 ⟨rfl, hb10⟩
    have hB10 := hB9.trans (hb10.mono hB9.size)
    have B10 := B9.trans (hb10.mono B9.size)
    have rG10 := rG9.keep hY9 hb10
    have hm10 := hm9.keep hb10
    have hY10 := Nat.le_trans hY9 hb10.size
    clear hb10 B9 hB9 hs9 hs9' hm9 rG9
    go_wp2_with fail
    refine (HM.out _ _ hm10).mono ?_
    rintro e w13 ⟨rfl, g13⟩
    have hB13 : Below w1.heap.size w1 w13 := hB10.grown g13 hB10.size (fun r hr => by cases hr; exact hB4.size)
    have B13 : Below w4.heap.size w4 w13 := B10.grown g13 B10.size (fun r hr => by cases hr; exact Nat.le_refl _)
    have rG13 := rG10.map (Nat.le_trans hY10 g13.size) (fun x h1 h2 => g13.block x (by omega) (by intro e; cases e; omega))
    have hY13 := Nat.le_trans hY10 g13.size
    clear g13 B10 hB10 hm10 rG10
    go_wp2_with fail
    refine (HQ.out _ _ _ (rG13.spec HF.out) (rW4.keep B13)).mono ?_
    rintro e w15 ⟨rfl, hb15⟩
    have hB15 := hB13.trans (hb15.mono hB13.size)
    have B15 := B13.trans (hb15.mono B13.size)
    have rG15 := rG13.keep hY13 hb15
    have hY15 := Nat.le_trans hY13 hb15.size
    clear hb15 B13 hB13 rG13
    go_wp2_with fail
    refine (HMI.out _ _ _ _ rG15).mono ?_
    rintro e w16 ⟨rfl, t16, sG16⟩
    have hB16 : Below w1.heap.size w1 w16 := turn_belowOf hB15 t16 (by have := hB4.size; omega) hB15.size
    have B16 : Below w4.heap.size w4 w16 := turn_belowOf B15 t16 (by omega) B15.size
    clear t16 B15 hB15 rG15
    go_wp2_with fail
    refine (HH.out _ _ sG16).mono ?_
    rintro e w17 ⟨rfl, rfl⟩
    go_wp2_with fail
    refine (HC.out _ (h.keep hB16)).mono ?_
    rintro e w18 ⟨rfl, hb18, hs18, _⟩
    have hB18 := hB16.trans (hb18.mono hB16.size)
    have B18 := B16.trans (hb18.mono B16.size)
    have sG18 := sG16.keep hb18
    clear hb18 B16 hB16 sG16
    go_wp2_with fail
    refine (HIm.out _ _ hB18 hs18).mono ?_
    rintro e w19 ⟨vH, rfl, rH19, hb19⟩
    have hB19 := hB18.trans (hb19.mono hB18.size)
    have B19 := B18.trans (hb19.mono B18.size)
    have sG19 := sG18.keep hb19
    clear hb19 B18 hB18 sG18 hs18
    go_wp2_with fail
    refine (HQ.out _ _ _ (rH19.spec HF.out) (rW4.keep B19)).mono ?_
    rintro e w20 ⟨rfl, hb20⟩
    have hB20 := hB19.trans (hb20.mono hB19.size)
    have sG20 := sG19.keep hb20
    clear hb20 B19 hB19 sG19 rH19
    go_wp2_with fail
    refine (HH.out _ _ sG20).mono ?_
    rintro e w21 ⟨rfl, rfl⟩
    go_wp2
    go_ret
    exact ⟨rfl, hB20⟩
  · rw [if_neg hn] at HZ
    have HZ' := (show Hid _ from HZ)
    clear HZ
    go_enter Tryd.func3, Tryd.ntmps3
    go_wp2_with fail
    refine Calls.mono HZ'.out ?_
    rintro e w1 ⟨rfl, rfl⟩
    go_wp2
    go_ret
    exact ⟨rfl, Below.refl _ _⟩
end Go.Proofs.YtpjgjpjfchfmlaaDoor
