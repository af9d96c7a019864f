/-
  PROVED HERE: the law FnRing's own run, at every two rows of bytes, in a world whose table of arities is laid. No other condition.
-/
import Derived.Test.YtpjgjpjfchfmlaaGreatDoorSumDraw
import Derived.Test.YtpjgjpjfchfmlaaGreatDoorRingVal
import Derived.Test.YtpjgjpjfchfmlaaGreatDoorSamePoly
import Derived.Test.YtpjgjpjfchfmlaaGreatDoorIPolyEnd
import Derived.Test.YtpjgjpjfchfmlaaGreatDoorIEval
import Derived.Test.YtpjgjpjfchfmlaaGreatDoorRingS
import Derived.Test.YtpjgjpjfchfmlaaGreatDoorLongs
namespace Go.Proofs.YtpjgjpjfchfmlaaGreatDoor
open Go.ChangeShapes Go.WideShapes Go.ChangeAt Go.RowKit
set_option linter.unusedVariables false

theorem ofT_facts {l : List (Int × Int)} (hI : ∀ k, InI (l.getD k (0, 0)).2) {s : List Mon} (h : ofT l = some s) : isRingB l = true ∧ GoodS s ∧ ∀ env : List Int, env.length = 4 → (∀ y ∈ env, InI y) → evalOk l env = true ∧ evalTr l env = false ∧ evalPok s env = true ∧ evalV l env = evalPV s env := by
  unfold ofT at h
  by_cases hr : isRingB l = true
  · rw [if_pos hr] at h
    refine ⟨hr, ?_⟩
    unfold isRingB at hr
    rw [Bool.and_eq_true] at hr
    obtain ⟨hp, g1, g2⟩ := good_pile hr.1
    have hg := ofF_good (fun k _ => hI k) (vars4 hp) _ _ s h
    refine ⟨hg, fun env he hE => ?_⟩
    obtain ⟨x, hx1, hx2, hx3⟩ := ring_value hp hr.2 hI he hE l.length (l.length - 1) s (by omega) (by omega) h
    have hok : evalOk l env = true := by unfold evalOk; rw [hr.1, decide_eq_true he]; rfl
    obtain ⟨q1, q2⟩ := eval_is hg.1 he
    have hT : evalT l env = some x := hx1
    refine ⟨hok, ?_, q1, ?_⟩
    · unfold evalTr; rw [if_pos hok, hT]; rfl
    · unfold evalV; rw [if_pos hok, hT, q2]
      exact Like.eq hx2 (wrap_in _) (hx3.trans (like_wrap _).symm)
  · rw [if_neg hr] at h; cases h
theorem ofT_four {l : List (Int × Int)} (hI : ∀ k, InI (l.getD k (0, 0)).2) : ((ofT l).getD []).length ≤ 40 ∧ ∀ m ∈ (ofT l).getD [], m.1.length = 4 := by
  cases e : ofT l with
  | none => exact ⟨by simp, fun m hm => by cases hm⟩
  | some s =>
    have := (ofT_facts hI e).2.1
    exact ⟨poly_len this.1, this.len⟩
theorem polyOfV {W : World} {B : Nat} {v : Value} {l : List (Int × Int)} (h : NewR W B v l) (hT : Tab W) : Calls Tryz.prog 7 #[v] W fun r w' => ∃ z, r = .returned (.tuple #[z, .bool (ofT l).isSome]) ∧ SpecV w' z ((ofT l).getD []) ∧ Below W.heap.size W w' := by
  obtain ⟨a, len, cap, rfl, hs, hl, hN⟩ := h
  exact (implPolyOf_any a len cap l W hT hs (by omega) hN.at).mono fun r w' ⟨z, t1, t2, t3⟩ => ⟨z, t1, ownV_spec t2 (ofT_four hN.at).2, t3⟩
theorem specPolyOfV {W : World} {B : Nat} {v : Value} {l : List (Int × Int)} (h : NewR W B v l) : Calls Tryz.prog 8 #[v] W fun r w' => ∃ z, r = .returned (.tuple #[z, .bool (ofT l).isSome]) ∧ SpecV w' z ((ofT l).getD []) ∧ Below W.heap.size W w' := by
  obtain ⟨a, len, cap, rfl, hs, hl, hN⟩ := h
  exact specPolyOf_any a len cap l W hs (by omega) hN.at
theorem isRingV {W : World} {B : Nat} {v : Value} {l : List (Int × Int)} (h : NewR W B v l) (hT : Tab W) : Calls Tryz.prog 9 #[v] W fun e w' => e = .returned (.tuple #[.bool (isRingB l), .bool (goodB l)]) ∧ Below W.heap.size W w' := by
  obtain ⟨a, len, cap, rfl, hs, hl, hN⟩ := h
  exact implIsRing_any a len cap l W hT hs (by omega)
theorem specIsRingV {W : World} {B : Nat} {v : Value} {l : List (Int × Int)} (h : NewR W B v l) : Calls Tryz.prog 10 #[v] W fun e w' => e = .returned (.tuple #[.bool (isRingB l), .bool (goodB l)]) ∧ Below W.heap.size W w' := by
  obtain ⟨a, len, cap, rfl, hs, hl, hN⟩ := h
  exact specIsRing_any a len cap l W hs (by omega)
theorem evalTermV {W : World} {B : Nat} {v : Value} {l : List (Int × Int)} (h : NewR W B v l) (hT : Tab W) (b : Option Addr) (c : Nat) (env : List Int) (he : Sl W b 4 env) : Calls Tryz.prog 13 #[v, .slice b 4 c] W fun e w' => e = .returned (.tuple #[.int .i64 (evalV l env), .bool (evalTr l env), .bool (evalOk l env)]) ∧ Below W.heap.size W w' := by
  obtain ⟨a, len, cap, rfl, hs, hl, hN⟩ := h
  exact implEval_any a len cap l b 4 c env W hT hs he (by omega) (by omega)

set_option maxHeartbeats 12800000 in
set_option maxRecDepth 20000 in
theorem ringTop_any (a : Option Addr) (len cap : Nat) (za : List Int) (b : Option Addr) (lb cb : Nat) (zb : List Int) (w : World) (hT : Tab w) (ha : IsRow .u8 w a len cap za) (hb : IsRow .u8 w b lb cb zb) :
    Calls Tryz.prog 3 #[.slice a len cap, .slice b lb cb] w fun e w' => e = .returned (.bool true) ∧ Below w.heap.size w w' := by
  by_cases hl : len ≤ 1048576 ∧ lb ≤ 1048576 - len
  · have HB := (show Hid _ from big_no a b len cap lb cb w hl.1 hl.2)
    have hA := Bytes.of ha
    have hBy := Bytes.of hb
    have HD := (show Hid _ from drawPolyOf w a len cap hA hl.1)
    have HE : Hid (∀ W, Below w.heap.size w W → Calls Tryz.prog 16 #[.slice b lb cb] W fun e w' => ∃ (u : Value) (q : List Mon) (b : Option Addr) (m c : Nat) (ys : List Int), e = .returned (.tuple #[u, .slice b m c]) ∧ SumD w' u q ∧ Sl w' b m ys ∧ m ≤ 10 ∧ Below W.heap.size W w') := fun W hW => drawEvalP W b lb cb (hBy.keep hW) (by omega)
    have HL : Hid (∀ W, Below w.heap.size w W → Calls Tryz.prog 12 #[.slice b lb cb, .int .i64 (4 : Int)] W fun e w' => ∃ (a : Option Addr) (c : Nat) (ys : List Int), e = .returned (.slice a 4 c) ∧ Sl w' a 4 ys ∧ (∀ y ∈ ys, InI y) ∧ Below W.heap.size W w') := fun W hW => (longs_any W b lb cb 4 (hBy.keep hW) (by omega) (by omega)).mono fun e w' ⟨v, ys, t1, t2, t3, t4⟩ => by
      obtain ⟨a', c', rfl, hs⟩ := Sl.vals t2
      exact ⟨a', c', ys, t1, hs, t3, t4⟩
    have HT : Hid (∀ W, Below w.heap.size w W → Tab W) := fun W hW => hT.keeps hW
    clear ha hb hA hBy hT
    go_enter Tryz.func3, Tryz.ntmps3
    go_wp2_with fail
    refine Calls.mono HB.out ?_
    rintro e w0 ⟨rfl, rfl⟩
    go_wp2_with fail
    refine Calls.mono HD.out ?_
    rintro e w1 ⟨t, l, rfl, hN1, hb1⟩
    have hI : ∀ k, InI (l.getD k (0, 0)).2 := by obtain ⟨_, _, _, _, _, _, h4⟩ := hN1; exact h4.at
    have C1 := (show Hid _ from polyOfV hN1 (HT.out _ hb1))
    have HFa : Hid (∀ s, ofT l = some s → isRingB l = true ∧ GoodS s ∧ ∀ env : List Int, env.length = 4 → (∀ y ∈ env, InI y) → evalOk l env = true ∧ evalTr l env = false ∧ evalPok s env = true ∧ evalV l env = evalPV s env) := fun s hs => ofT_facts hI hs
    have h4 := ofT_four hI
    clear HB HD hI
    go_wp2_with fail
    refine Calls.mono C1.out ?_
    rintro e w2 ⟨p1, rfl, hp2, hb2⟩
    have hB2 := hb1.trans (hb2.mono hb1.size)
    have hN2 := hN1.keep hb2
    have C2 := (show Hid _ from specPolyOfV hN2)
    clear C1 hb1 hb2 hN1
    go_wp2_with fail
    refine Calls.mono C2.out ?_
    rintro e w3 ⟨p2, rfl, hq3, hb3⟩
    have hB3 := hB2.trans (hb3.mono hB2.size)
    have hN3 := hN2.keep hb3
    have hp3 := hp2.keep hb3
    have C3 := (show Hid _ from isRingV hN3 (HT.out _ hB3))
    clear C2 hb3 hB2 hN2 hp2
    go_wp2_with fail
    refine Calls.mono C3.out ?_
    rintro e w4 ⟨rfl, hb4⟩
    have hB4 := hB3.trans (hb4.mono hB3.size)
    have hN4 := hN3.keep hb4
    have hp4 := hp3.keep hb4
    have hq4 := hq3.keep hb4
    have C4 := (show Hid _ from specIsRingV hN4)
    clear C3 hb4 hB3 hN3 hp3 hq3
    go_wp2_with fail
    refine Calls.mono C4.out ?_
    rintro e w5 ⟨rfl, hb5⟩
    have hB5 := hB4.trans (hb5.mono hB4.size)
    have hN5 := hN4.keep hb5
    have hp5 := hp4.keep hb5
    have hq5 := hq4.keep hb5
    have C5 := (show Hid _ from samePoly_same p1 p2 _ w5 hp5 hq5 (by omega) h4.2)
    clear C4 hb5 hB4 hN4 hp4 hq4
    obtain ⟨R, hR⟩ : ∃ R, isRingB l = R := ⟨_, rfl⟩
    obtain ⟨G, hG⟩ : ∃ G, goodB l = G := ⟨_, rfl⟩
    obtain ⟨O, hO⟩ : ∃ O, ofT l = O := ⟨_, rfl⟩
    rw [hR, hO] at HFa
    rw [hO] at hp5 h4
    simp only [hR, hG, hO]
    have e1 : (O.isSome != O.isSome) = false := by simp
    have e2 : (G != G) = false := by simp
    have e3 : (R != R) = false := by simp
    clear hR hG hO hq5
    cases O with
    | none =>
      have n1 : (none : Option (List Mon)).isSome = false := rfl
      rw [n1] at e1 ⊢
      go_wp2_with fail
      refine Calls.mono C5.out ?_
      rintro e w6 ⟨rfl, hb6⟩
      have hB6 := hB5.trans (hb6.mono hB5.size)
      clear C5 hb6 hB5 hN5 hp5 h4 HFa HL HT
      go_wp2_with fail
      refine Calls.mono (HE.out _ hB6) ?_
      rintro e x1 ⟨u, q, be, m, ce, ys, rfl, hu1, he1, hm10, hb1⟩
      have hB1 := hB6.trans (hb1.mono hB6.size)
      have D1 := (show Hid _ from evalI hu1.1 (by have := hu1.2.2; omega) be m ce ys he1 (by omega))
      clear hb1 hB6 HE
      go_wp2_with fail
      refine Calls.mono D1.out ?_
      rintro e x2 ⟨rfl, hb2⟩
      have hB2 := hB1.trans (hb2.mono hB1.size)
      have D2 := (show Hid _ from evalS (hu1.keep hb2).1 (by have := hu1.2.2; omega) be m ce ys (he1.keep hb2) (by omega))
      clear hb2 hB1 D1 hu1 he1
      go_wp2_with fail
      refine Calls.mono D2.out ?_
      rintro e x3 ⟨rfl, hb3⟩
      have hB3 := hB2.trans (hb3.mono hB2.size)
      have q1 : (evalPok q ys == evalPok q ys) = true := by simp
      have q2 : (evalPV q ys == evalPV q ys) = true := by simp
      clear D2 hb3 hB2
      go_wp2
      go_ret
      exact ⟨rfl, hB3⟩
    | some s =>
      have n1 : (some s : Option (List Mon)).isSome = true := rfl
      have n2 : (some s : Option (List Mon)).getD [] = s := rfl
      rw [n1] at e1 ⊢
      rw [n2] at hp5 h4
      obtain ⟨g1, g2, g3⟩ := HFa.out s rfl
      subst g1
      have HG3 := (show Hid _ from g3)
      clear HFa g3
      go_wp2_with fail
      refine Calls.mono C5.out ?_
      rintro e w6 ⟨rfl, hb6⟩
      have hB6 := hB5.trans (hb6.mono hB5.size)
      have hN6 := hN5.keep hb6
      have hp6 := hp5.keep hb6
      clear C5 hb6 hB5 hN5 hp5 n1 n2
      go_wp2_with fail
      refine Calls.mono (HL.out _ hB6) ?_
      rintro e w7 ⟨ae, ce, env, rfl, he7, hE7, hb7⟩
      have hB7 := hB6.trans (hb7.mono hB6.size)
      have hN7 := hN6.keep hb7
      have hp7 := hp6.keep hb7
      obtain ⟨k1, k2, k3, k4⟩ := HG3.out env he7.1 hE7
      have C7 := (show Hid _ from evalTermV hN7 (HT.out _ hB7) ae ce env he7)
      rw [k1, k2, k4] at C7
      clear hb7 hB6 hN6 hp6 HL HG3 hE7 k1 k2 k4
      go_wp2_with fail
      refine Calls.mono C7.out ?_
      rintro e w8 ⟨rfl, hb8⟩
      have hB8 := hB7.trans (hb8.mono hB7.size)
      have hp8 := hp7.keep hb8
      have C8 := (show Hid _ from evalI hp8 (by omega) ae 4 ce env (he7.keep hb8) (by omega))
      rw [k3] at C8
      clear hb8 hB7 hN7 hp7 C7 he7 k3 HT
      go_wp2_with fail
      refine Calls.mono C8.out ?_
      rintro e w9 ⟨rfl, hb9⟩
      have hB9 := hB8.trans (hb9.mono hB8.size)
      have C9 := (show Hid _ from goodI (hp8.keep hb9) (by omega))
      rw [g2.1] at C9
      generalize evalPV s env = X
      have xx : (X != X) = false := by simp
      clear hb9 hB8 hp8 C8 g2
      go_wp2_with fail
      refine Calls.mono C9.out ?_
      rintro e w10 ⟨rfl, hb10⟩
      have hB10 := hB9.trans (hb10.mono hB9.size)
      clear hb10 hB9 C9 h4
      go_wp2_with fail
      refine Calls.mono (HE.out _ hB10) ?_
      rintro e x1 ⟨u, q, be, m, ce, ys, rfl, hu1, he1, hm10, hb1⟩
      have hB1 := hB10.trans (hb1.mono hB10.size)
      have D1 := (show Hid _ from evalI hu1.1 (by have := hu1.2.2; omega) be m ce ys he1 (by omega))
      clear hb1 hB10 HE
      go_wp2_with fail
      refine Calls.mono D1.out ?_
      rintro e x2 ⟨rfl, hb2⟩
      have hB2 := hB1.trans (hb2.mono hB1.size)
      have D2 := (show Hid _ from evalS (hu1.keep hb2).1 (by have := hu1.2.2; omega) be m ce ys (he1.keep hb2) (by omega))
      clear hb2 hB1 D1 hu1 he1
      go_wp2_with fail
      refine Calls.mono D2.out ?_
      rintro e x3 ⟨rfl, hb3⟩
      have hB3 := hB2.trans (hb3.mono hB2.size)
      have q1 : (evalPok q ys == evalPok q ys) = true := by simp
      have q2 : (evalPV q ys == evalPV q ys) = true := by simp
      clear D2 hb3 hB2
      go_wp2
      go_ret
      exact ⟨rfl, hB3⟩
  · have HB := (show Hid _ from big_yes a b len cap lb cb w hl ha.bound hb.bound)
    clear ha hb
    go_enter Tryz.func3, Tryz.ntmps3
    go_wp2_with fail
    refine Calls.mono HB.out ?_
    rintro e w0 ⟨rfl, rfl⟩
    go_wp2
    go_ret
    exact ⟨rfl, Below.refl _ _⟩
end Go.Proofs.YtpjgjpjfchfmlaaGreatDoor
