/-
  PROVED HERE: the law FnPolyRing's own run, at every two rows of bytes. No other condition.
-/
import Derived.Test.YtpjgjpjfchfmlaaPolyDraw
import Derived.Test.YtpjgjpjfchfmlaaRingPlain
import Derived.Test.YtpjgjpjfchfmlaaSamePoly
import Derived.Test.YtpjgjpjfchfmlaaPolyAddI
import Derived.Test.YtpjgjpjfchfmlaaPolyMulI
import Derived.Test.YtpjgjpjfchfmlaaPolyAddS
import Derived.Test.YtpjgjpjfchfmlaaPolyMulS
import Derived.Test.YtpjgjpjfchfmlaaLongs
namespace Go.Proofs.Ytpjgjpjfchfmlaa
open Go.ChangeShapes Go.WideShapes Go.ChangeAt Go.RowKit
set_option linter.unusedVariables false

/-- A drawn sum. -/
def Sum5 (w : World) (v : Value) (p : List Mon) : Prop := SpecV w v p ∧ (∀ x ∈ p, InI x.2) ∧ p.length ≤ 50
theorem Sum5.keep {w w' : World} {v : Value} {p : List Mon} (h : Sum5 w v p) (hb : Below w.heap.size w w') : Sum5 w' v p := ⟨h.1.keep hb, h.2⟩
set_option maxRecDepth 20000 in
theorem drawAddP (w : World) (a : Option Addr) (len cap : Nat) (hb : Bytes w w.heap.size a len) (hl : len ≤ 1048576) :
    Calls Try.prog 15 #[.slice a len cap] w fun e w' => ∃ (u v : Value) (p q : List Mon), e = .returned (.tuple #[u, v]) ∧ Sum5 w' u p ∧ Sum5 w' v q ∧ Below w.heap.size w w' := by
  have hc := cur_new w a len cap hb hl
  have C := (show Hid _ from poly_any _ _ _ hc (by omega))
  have hs0 : w.heap.size + 1 ≤ (w.alloc (.cells #[.slice a len cap, .int .i64 0, .int .u64 0] 58)).heap.size := by simp
  clear hc
  go_enter Try.func15, Try.ntmps15
  go_wp2_with fail
  refine Calls.mono C.out ?_
  rintro e w1 ⟨u, k, rfl, hA1, hk, ⟨n1, hn1, hc1⟩, hg1⟩
  have C1 := (show Hid _ from poly_any w1 w.heap.size n1 hc1 (by omega))
  have hA1' := hA1.base hs0
  clear C hc1 hA1
  go_wp2_with fail
  refine Calls.mono C1.out ?_
  rintro e w2 ⟨v, k2, rfl, hA2, hk2, ⟨n2, hn2, hc2⟩, hg2⟩
  have hG2 := gtrans hg1 hg2
  have hA3 := hA1'.grown hg2 (by omega)
  obtain ⟨p, hp1, hp2, hp3⟩ := hA3.list
  obtain ⟨q, hq1, hq2, hq3⟩ := hA2.list
  have HR : Hid (Sum5 w2 u p ∧ Sum5 w2 v q) := ⟨⟨hp1, hp2, by omega⟩, ⟨hq1, hq2, by omega⟩⟩
  clear C1 hA1' hA2 hA3 hp1 hq1
  go_wp2
  go_ret2
  exact ⟨_, _, p, q, rfl, HR.out.1, HR.out.2, drew_below hG2⟩
theorem drawMulP (w : World) (a : Option Addr) (len cap : Nat) (hb : Bytes w w.heap.size a len) (hl : len ≤ 1048576) :
    Calls Try.prog 5 #[.slice a len cap] w fun e w' => ∃ (u v : Value) (p q : List Mon), e = .returned (.tuple #[u, v]) ∧ Sum5 w' u p ∧ Sum5 w' v q ∧ Below w.heap.size w w' := by
  have C := (show Hid _ from drawAddP w a len cap hb hl)
  clear hb
  go_enter Try.func5, Try.ntmps5
  go_wp2_with fail
  refine Calls.mono C.out ?_
  rintro e w1 ⟨u, v, p, q, rfl, h1, h2, hb1⟩
  clear C
  go_wp2
  go_ret2
  exact ⟨_, _, p, q, rfl, h1, h2, hb1⟩

theorem four_poly {s : List Mon} (h : polyB s = true) : s.length ≤ 40 ∧ ∀ m ∈ s, m.1.length = 4 := ⟨poly_len h, fun m hm => pow_len (polyB_all h m hm).1⟩
theorem add_four (p q : List Mon) : (addR p q).length ≤ 40 ∧ ∀ m ∈ addR p q, m.1.length = 4 := by
  unfold addR
  split
  · rename_i h
    unfold addOk at h
    rw [Bool.and_eq_true] at h
    exact four_poly h.2
  · exact ⟨by simp, fun m hm => by cases hm⟩
theorem mul_four (p q : List Mon) : (mulR p q).length ≤ 40 ∧ ∀ m ∈ mulR p q, m.1.length = 4 := by
  unfold mulR
  split
  · rename_i h
    unfold mulOk at h
    rw [Bool.and_eq_true] at h
    exact four_poly h.2
  · exact ⟨by simp, fun m hm => by cases hm⟩
theorem implAddV {W : World} {u v : Value} {p q : List Mon} (hp : Sum5 W u p) (hq : Sum5 W v q) : Calls Try.prog 6 #[u, v] W fun r w' => ∃ z, r = .returned (.tuple #[z, .bool (addOk p q)]) ∧ SpecV w' z (addR p q) ∧ Below W.heap.size W w' := by
  obtain ⟨⟨a, c, rfl, h1⟩, h2, h3⟩ := hp
  obtain ⟨⟨a', c', rfl, h1'⟩, h2', h3'⟩ := hq
  exact (implAdd_any a _ c p a' _ c' q W h1 h1' (by omega) (by omega) h2 h2').mono fun r w' ⟨z, t1, t2, t3⟩ => ⟨z, t1, ownV_spec t2 (add_four p q).2, t3⟩
theorem specAddV {W : World} {u v : Value} {p q : List Mon} (hp : Sum5 W u p) (hq : Sum5 W v q) : Calls Try.prog 7 #[u, v] W fun r w' => ∃ z, r = .returned (.tuple #[z, .bool (addOk p q)]) ∧ SpecV w' z (addR p q) ∧ Below W.heap.size W w' := by
  obtain ⟨⟨a, c, rfl, h1⟩, h2, h3⟩ := hp
  obtain ⟨⟨a', c', rfl, h1'⟩, h2', h3'⟩ := hq
  exact specAdd_any a _ c p a' _ c' q W h1 h1' (by omega) (by omega) h2 h2'
theorem implMulV {W : World} {u v : Value} {p q : List Mon} (hp : Sum5 W u p) (hq : Sum5 W v q) : Calls Try.prog 8 #[u, v] W fun r w' => ∃ z, r = .returned (.tuple #[z, .bool (mulOk p q)]) ∧ SpecV w' z (mulR p q) ∧ Below W.heap.size W w' := by
  obtain ⟨⟨a, c, rfl, h1⟩, h2, h3⟩ := hp
  obtain ⟨⟨a', c', rfl, h1'⟩, h2', h3'⟩ := hq
  exact (implMul_any a _ c p a' _ c' q W h1 h1' (by omega) (by omega) h2 h2').mono fun r w' ⟨z, t1, t2, t3⟩ => ⟨z, t1, ownV_spec t2 (mul_four p q).2, t3⟩
theorem specMulV {W : World} {u v : Value} {p q : List Mon} (hp : Sum5 W u p) (hq : Sum5 W v q) : Calls Try.prog 9 #[u, v] W fun r w' => ∃ z, r = .returned (.tuple #[z, .bool (mulOk p q)]) ∧ SpecV w' z (mulR p q) ∧ Below W.heap.size W w' := by
  obtain ⟨⟨a, c, rfl, h1⟩, h2, h3⟩ := hp
  obtain ⟨⟨a', c', rfl, h1'⟩, h2', h3'⟩ := hq
  exact specMul_any a _ c p a' _ c' q W h1 h1' (by omega) (by omega) h2 h2'
theorem implGoodV {W : World} {v : Value} {p : List Mon} (hp : SpecV W v p) (hl : p.length ≤ 1048576) : Calls Try.prog 11 #[v] W fun e w' => e = .returned (.bool (polyB p)) ∧ Below W.heap.size W w' := by
  obtain ⟨a, c, rfl, h1⟩ := hp
  exact implPoly_any a _ c p W h1 (by omega)
theorem specGoodV {W : World} {v : Value} {p : List Mon} (hp : SpecV W v p) (hl : p.length ≤ 1048576) : Calls Try.prog 12 #[v] W fun e w' => e = .returned (.bool (polyB p)) ∧ Below W.heap.size W w' := by
  obtain ⟨a, c, rfl, h1⟩ := hp
  exact specPoly_any a _ c p W h1 (by omega)
theorem evalV {W : World} {v : Value} {p : List Mon} (hp : SpecV W v p) (hl : p.length ≤ 1048576) (a : Option Addr) (c : Nat) (env : List Int) (he : Sl W a 4 env) : Calls Try.prog 14 #[v, .slice a 4 c] W fun r w' => r = .returned (.tuple #[.int .i64 (evalPV p env), .bool (evalPok p env)]) ∧ Below W.heap.size W w' := by
  obtain ⟨a', c', rfl, h1⟩ := hp
  exact implEvalP_any a' _ c' p a 4 c env W h1 he (by omega) (by omega)

theorem add_facts {p q : List Mon} {env : List Int} (hp : ∀ x ∈ p, InI x.2) (hq : ∀ x ∈ q, InI x.2) (he : env.length = 4) (h : addOk p q = true) : evalPok p env = true ∧ evalPok q env = true ∧ evalPok (addR p q) env = true ∧ evalPV (addR p q) env = wrap64 (evalPV p env + evalPV q env) := by
  have e : addR p q = addP p q := by unfold addR; rw [if_pos h]
  unfold addOk at h
  rw [Bool.and_eq_true, Bool.and_eq_true] at h
  obtain ⟨⟨h1, h2⟩, h3⟩ := h
  rw [e]
  obtain ⟨a1, a2⟩ := eval_is h1 he
  obtain ⟨b1, b2⟩ := eval_is h2 he
  obtain ⟨c1, c2⟩ := eval_is h3 he
  refine ⟨a1, b1, c1, ?_⟩
  rw [a2, b2, c2]
  exact Like.wrap ((add_value env (fine_of h1 hp) (fine_of h2 hq)).trans (Like.add (like_wrap _).symm (like_wrap _).symm))
theorem mul_facts {p q : List Mon} {env : List Int} (he : env.length = 4) (h : mulOk p q = true) : evalPok p env = true ∧ evalPok q env = true ∧ evalPok (mulR p q) env = true ∧ evalPV (mulR p q) env = wrap64 (evalPV p env * evalPV q env) := by
  have e : mulR p q = mulP p q := by unfold mulR; rw [if_pos h]
  unfold mulOk at h
  rw [Bool.and_eq_true, Bool.and_eq_true] at h
  obtain ⟨⟨h1, h2⟩, h3⟩ := h
  rw [e]
  obtain ⟨a1, a2⟩ := eval_is h1 he
  obtain ⟨b1, b2⟩ := eval_is h2 he
  obtain ⟨c1, c2⟩ := eval_is h3 he
  refine ⟨a1, b1, c1, ?_⟩
  rw [a2, b2, c2]
  exact Like.wrap ((mul_value env (pow_nonneg h1) (pow_nonneg h2)).trans (Like.mul (like_wrap _).symm (like_wrap _).symm))
theorem add_turn {p q : List Mon} (hp : ∀ x ∈ p, InI x.2) (hq : ∀ x ∈ q, InI x.2) : addOk p q = addOk q p ∧ addR p q = addR q p := by
  have e : addOk p q = addOk q p := by
    unfold addOk
    cases h1 : polyB p with
    | false => cases polyB q <;> rfl
    | true =>
      cases h2 : polyB q with
      | false => rfl
      | true => rw [add_comm' (fine_of h1 hp) (fine_of h2 hq)]
  refine ⟨e, ?_⟩
  unfold addR
  rw [← e]
  by_cases h : addOk p q = true
  · rw [if_pos h, if_pos h]
    unfold addOk at h
    rw [Bool.and_eq_true, Bool.and_eq_true] at h
    exact add_comm' (fine_of h.1.1 hp) (fine_of h.1.2 hq)
  · rw [if_neg h, if_neg h]

set_option maxHeartbeats 12800000 in
set_option maxRecDepth 20000 in
theorem polyRingTop_any (a : Option Addr) (len cap : Nat) (za : List Int) (b : Option Addr) (lb cb : Nat) (zb : List Int) (w : World) (ha : IsRow .u8 w a len cap za) (hb : IsRow .u8 w b lb cb zb) :
    Calls Try.prog 3 #[.slice a len cap, .slice b lb cb] w fun e w' => e = .returned (.bool true) ∧ Below w.heap.size w w' := by
  by_cases hl : len ≤ 1048576 ∧ lb ≤ 1048576 - len
  · have HB := (show Hid _ from big_no a b len cap lb cb w hl.1 hl.2)
    have hA := Bytes.of ha
    have hBy := Bytes.of hb
    have HD := (show Hid _ from drawMulP w a len cap hA hl.1)
    have HE : Hid (∀ W, Below w.heap.size w W → Calls Try.prog 15 #[.slice b lb cb] W fun e w' => ∃ (u v : Value) (p q : List Mon), e = .returned (.tuple #[u, v]) ∧ Sum5 w' u p ∧ Sum5 w' v q ∧ Below W.heap.size W w') := fun W hW => drawAddP W b lb cb (hBy.keep hW) (by omega)
    have HL : Hid (∀ W, Below w.heap.size w W → Calls Try.prog 13 #[.slice b lb cb, .int .i64 (4 : Int)] W fun e w' => ∃ (a : Option Addr) (c : Nat) (ys : List Int), e = .returned (.slice a 4 c) ∧ Sl w' a 4 ys ∧ Below W.heap.size W w') := fun W hW => (longs_any W b lb cb 4 (hBy.keep hW) (by omega) (by omega)).mono fun e w' ⟨v, ys, t1, t2, _, t4⟩ => by
      obtain ⟨a', c', rfl, hs⟩ := Sl.vals t2
      exact ⟨a', c', ys, t1, hs, t4⟩
    clear ha hb hA hBy
    go_enter Try.func3, Try.ntmps3
    go_wp2_with fail
    refine Calls.mono HB.out ?_
    rintro e w0 ⟨rfl, rfl⟩
    go_wp2_with fail
    refine Calls.mono HD.out ?_
    rintro e w1 ⟨u, v, p, q, rfl, hp1, hq1, hb1⟩
    have C1 := (show Hid _ from implAddV hp1 hq1)
    clear HB HD
    go_wp2_with fail
    refine Calls.mono C1.out ?_
    rintro e w2 ⟨s1, rfl, hs2, hb2⟩
    have hB2 := hb1.trans (hb2.mono hb1.size)
    have hp2 := hp1.keep hb2
    have hq2 := hq1.keep hb2
    have C2 := (show Hid _ from specAddV hp2 hq2)
    clear C1 hb1 hb2 hp1 hq1
    go_wp2_with fail
    refine Calls.mono C2.out ?_
    rintro e w3 ⟨s2, rfl, ht3, hb3⟩
    have hB3 := hB2.trans (hb3.mono hB2.size)
    have hp3 := hp2.keep hb3
    have hq3 := hq2.keep hb3
    have hs3 := hs2.keep hb3
    have C3 := (show Hid _ from implMulV hp3 hq3)
    clear C2 hb3 hp2 hq2 hs2 hB2
    go_wp2_with fail
    refine Calls.mono C3.out ?_
    rintro e w4 ⟨m1, rfl, hm4, hb4⟩
    have hB4 := hB3.trans (hb4.mono hB3.size)
    have hp4 := hp3.keep hb4
    have hq4 := hq3.keep hb4
    have hs4 := hs3.keep hb4
    have ht4 := ht3.keep hb4
    have C4 := (show Hid _ from specMulV hp4 hq4)
    clear C3 hb4 hp3 hq3 hs3 ht3 hB3
    go_wp2_with fail
    refine Calls.mono C4.out ?_
    rintro e w5 ⟨m2, rfl, hn5, hb5⟩
    have hB5 := hB4.trans (hb5.mono hB4.size)
    have hp5 := hp4.keep hb5
    have hq5 := hq4.keep hb5
    have hs5 := hs4.keep hb5
    have ht5 := ht4.keep hb5
    have hm5 := hm4.keep hb5
    have C5 := (show Hid _ from samePoly_same s1 s2 (addR p q) w5 hs5 ht5 (by have := (add_four p q).1; omega) (add_four p q).2)
    have e1 : (addOk p q != addOk p q) = false := by simp
    have e2 : (mulOk p q != mulOk p q) = false := by simp
    have e3 : (polyB p != polyB p) = false := by simp
    have HAf : Hid (∀ env : List Int, env.length = 4 → addOk p q = true → evalPok p env = true ∧ evalPok q env = true ∧ evalPok (addR p q) env = true ∧ evalPV (addR p q) env = wrap64 (evalPV p env + evalPV q env)) := fun env he h => add_facts hp5.2.1 hq5.2.1 he h
    have HMf : Hid (∀ env : List Int, env.length = 4 → mulOk p q = true → evalPok p env = true ∧ evalPok q env = true ∧ evalPok (mulR p q) env = true ∧ evalPV (mulR p q) env = wrap64 (evalPV p env * evalPV q env)) := fun env he h => mul_facts he h
    clear C4 hb5 hp4 hq4 hs4 ht4 hm4 hB4
    have ea4 := (add_four p q).1
    have em4 := mul_four p q
    obtain ⟨OK, hOK⟩ : ∃ OK, addOk p q = OK := ⟨_, rfl⟩
    obtain ⟨ONE, hONE⟩ : ∃ ONE, mulOk p q = ONE := ⟨_, rfl⟩
    rw [hOK] at e1 HAf
    rw [hONE] at e2 HMf
    simp only [hOK, hONE]
    clear hOK hONE
    go_wp2_with fail
    refine Calls.mono C5.out ?_
    rintro e w6 ⟨rfl, hb6⟩
    have hB6 := hB5.trans (hb6.mono hB5.size)
    have hp6 := hp5.keep hb6
    have hq6 := hq5.keep hb6
    have hs6 := hs5.keep hb6
    have hm6 := hm5.keep hb6
    have hn6 := hn5.keep hb6
    have C6 := (show Hid _ from samePoly_same m1 m2 (mulR p q) w6 hm6 hn6 (by omega) em4.2)
    clear C5 hb6 hp5 hq5 hs5 ht5 hm5 hn5 hB5
    go_wp2_with fail
    refine Calls.mono C6.out ?_
    rintro e w7 ⟨rfl, hb7⟩
    have hB7 := hB6.trans (hb7.mono hB6.size)
    have hp7 := hp6.keep hb7
    have hq7 := hq6.keep hb7
    have hs7 := hs6.keep hb7
    have hm7 := hm6.keep hb7
    have C7 := (show Hid _ from implGoodV hp7.1 (by have := hp7.2.2; omega))
    clear C6 hb7 hp6 hq6 hs6 hm6 hn6 hB6
    go_wp2_with fail
    refine Calls.mono C7.out ?_
    rintro e w8 ⟨rfl, hb8⟩
    have hB8 := hB7.trans (hb8.mono hB7.size)
    have hp8 := hp7.keep hb8
    have hq8 := hq7.keep hb8
    have hs8 := hs7.keep hb8
    have hm8 := hm7.keep hb8
    have C8 := (show Hid _ from specGoodV hp8.1 (by have := hp8.2.2; omega))
    clear C7 hb8 hp7 hq7 hs7 hm7 hB7
    go_wp2_with fail
    refine Calls.mono C8.out ?_
    rintro e w9 ⟨rfl, hb9⟩
    have hB9 := hB8.trans (hb9.mono hB8.size)
    have hp9 := hp8.keep hb9
    have hq9 := hq8.keep hb9
    have hs9 := hs8.keep hb9
    have hm9 := hm8.keep hb9
    clear C8 hb9 hp8 hq8 hs8 hm8 hB8
    go_wp2_with fail
    refine Calls.mono (HL.out _ hB9) ?_
    rintro e w10 ⟨ae, ce, env, rfl, he10, hb10⟩
    have hB10 := hB9.trans (hb10.mono hB9.size)
    have hp10 := hp9.keep hb10
    have hq10 := hq9.keep hb10
    have hs10 := hs9.keep hb10
    have hm10 := hm9.keep hb10
    have hel : env.length = 4 := he10.1
    have C10 := (show Hid _ from evalV hp10.1 (by have := hp10.2.2; omega) ae ce env he10)
    have FA := (show Hid _ from HAf.out env hel)
    have FM := (show Hid _ from HMf.out env hel)
    clear HL HAf HMf hb10 hp9 hq9 hs9 hm9 hB9
    go_wp2_with fail
    refine Calls.mono C10.out ?_
    rintro e w11 ⟨rfl, hb11⟩
    have hB11 := hB10.trans (hb11.mono hB10.size)
    have hq11 := hq10.keep hb11
    have hs11 := hs10.keep hb11
    have hm11 := hm10.keep hb11
    have he11 := he10.keep hb11
    have C11 := (show Hid _ from evalV hq11.1 (by have := hq11.2.2; omega) ae ce env he11)
    clear C10 hb11 hp10 hq10 hs10 hm10 hB10 he10
    go_wp2_with fail
    refine Calls.mono C11.out ?_
    rintro e w12 ⟨rfl, hb12⟩
    have hB12 := hB11.trans (hb12.mono hB11.size)
    have hs12 := hs11.keep hb12
    have hm12 := hm11.keep hb12
    have he12 := he11.keep hb12
    have C12 := (show Hid _ from evalV hs12 (by omega) ae ce env he12)
    clear C11 hb12 hq11 hs11 hm11 hB11 he11
    go_wp2_with fail
    refine Calls.mono C12.out ?_
    rintro e w13 ⟨rfl, hb13⟩
    have hB13 := hB12.trans (hb13.mono hB12.size)
    have hm13 := hm12.keep hb13
    have he13 := he12.keep hb13
    have C13 := (show Hid _ from evalV hm13 (by omega) ae ce env he13)
    clear C12 hb13 hs12 hm12 hB12 he12
    go_wp2_with fail
    refine Calls.mono C13.out ?_
    rintro e w14 ⟨rfl, hb14⟩
    have hB14 := hB13.trans (hb14.mono hB13.size)
    clear C13 hb14 hm13 hB13 he13 ea4 em4 e1 e2 e3
    generalize evalPV p env = A at FA FM
    generalize evalPV q env = B at FA FM
    generalize evalPV (addR p q) env = X at FA
    generalize evalPV (mulR p q) env = Y at FM
    generalize evalPok p env = g1 at FA FM
    generalize evalPok q env = g2 at FA FM
    generalize evalPok (addR p q) env = g3 at FA
    generalize evalPok (mulR p q) env = g4 at FM
    cases OK <;> cases ONE
    case' false.false =>
      clear FA FM
      go_wp2_with fail
    case' false.true =>
      obtain ⟨rfl, rfl, rfl, rfl⟩ := FM.out rfl
      have q2 : (wrap64 (A * B) != wrap64 (A * B)) = false := by simp
      clear FA FM
      go_wp2_with fail
      clear q2
    case' true.false =>
      obtain ⟨rfl, rfl, rfl, rfl⟩ := FA.out rfl
      have q2 : (wrap64 (A + B) != wrap64 (A + B)) = false := by simp
      clear FA FM
      go_wp2_with fail
      clear q2
    case' true.true =>
      obtain ⟨rfl, rfl, rfl, rfl⟩ := FA.out rfl
      obtain ⟨_, _, rfl, rfl⟩ := FM.out rfl
      have q2 : (wrap64 (A + B) != wrap64 (A + B)) = false := by simp
      have q3 : (wrap64 (A * B) != wrap64 (A * B)) = false := by simp
      clear FA FM
      go_wp2_with fail
      clear q2 q3
    all_goals
      refine Calls.mono (HE.out _ hB14) ?_
      rintro e x1 ⟨u', v', p', q', rfl, hp1, hq1, hb1⟩
      have hB1 := hB14.trans (hb1.mono hB14.size)
      have D1 := (show Hid _ from implAddV hp1 hq1)
      obtain ⟨t1, t2⟩ := add_turn hp1.2.1 hq1.2.1
      have a4 := add_four p' q'
      clear hb1 hB14 HE
      go_wp2_with fail
      refine Calls.mono D1.out ?_
      rintro e x2 ⟨z1, rfl, hz2, hb2⟩
      have hB2 := hB1.trans (hb2.mono hB1.size)
      have D2 := (show Hid _ from implAddV (hq1.keep hb2) (hp1.keep hb2))
      rw [← t1, ← t2] at D2
      generalize addOk p' q' = G at D2 t1
      clear t1 t2 D1 hp1 hq1 hb2 hB1
      go_wp2_with fail
      refine Calls.mono D2.out ?_
      rintro e x3 ⟨z2, rfl, hz3, hb3⟩
      have hB3 := hB2.trans (hb3.mono hB2.size)
      have D3 := (show Hid _ from samePoly_same z1 z2 (addR p' q') x3 (hz2.keep hb3) hz3 (by omega) a4.2)
      have gg : (G == G) = true := by simp
      clear D2 hb3 hB2 hz2 hz3 a4
      go_wp2_with fail
      refine Calls.mono D3.out ?_
      rintro e x4 ⟨rfl, hb4⟩
      have hB4 := hB3.trans (hb4.mono hB3.size)
      clear D3 hb4 hB3
      go_wp2
      go_ret
      exact ⟨rfl, hB4⟩
  · have HB := (show Hid _ from big_yes a b len cap lb cb w hl ha.bound hb.bound)
    clear ha hb
    go_enter Try.func3, Try.ntmps3
    go_wp2_with fail
    refine Calls.mono HB.out ?_
    rintro e w0 ⟨rfl, rfl⟩
    go_wp2
    go_ret
    exact ⟨rfl, Below.refl _ _⟩
end Go.Proofs.Ytpjgjpjfchfmlaa
