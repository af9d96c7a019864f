/-
  PROVED HERE: the law FnRing's own run, at every two rows of bytes, in a world whose table of arities is laid. No other condition. two drawn terms, for SameRing, and a drawn sum, for TermOf: some lists in new memory, whatever the bytes. No other condition. the law FnSameRing's own run, at every two rows of bytes, in a world whose table of arities is laid. No other condition.
-/
import Derived.Test.YtpjgjpjfchfmlaaGreatDoorSumDraw
import Derived.Test.YtpjgjpjfchfmlaaGreatDoorRingVal
import Derived.Test.YtpjgjpjfchfmlaaGreatDoorRingSame
import Derived.Test.YtpjgjpjfchfmlaaGreatDoorIPolyEnd
import Derived.Test.YtpjgjpjfchfmlaaGreatDoorIEval
import Derived.Test.YtpjgjpjfchfmlaaGreatDoorLongs
import Derived.Test.YtpjgjpjfchfmlaaGreatDoorTerms4
import Derived.Test.YtpjgjpjfchfmlaaGreatDoorSameRs
import Derived.Test.YtpjgjpjfchfmlaaGreatDoorStackBack
import Derived.Test.YtpjgjpjfchfmlaaGreatDoorSmallBits
namespace Go.Proofs.YtpjgjpjfchfmlaaGreatDoor
open Go.ChangeShapes Go.WideShapes Go.ChangeAt Go.RowKit
set_option linter.unusedVariables false

theorem ofT_facts {l : List (Int × Int)} (hI : ∀ k, InI (l.getD k (0, 0)).2) {s : List Mon} (h : ofT l = some s) : isRingB l = true ∧ GoodS s ∧ ∀ env : List Int, env.length = 4 → (∀ y ∈ env, InI y) → evalOk l env = true ∧ evalTr l env = false ∧ evalPok s env = true ∧ evalV l env = evalPV s env := by
  unfold ofT at h
  by_cases hr : isRingB l = true
  · rw [if_pos hr] at h
    refine ⟨hr, ?_⟩
    unfold isRingB at hr
    rw [Bool.and_eq_true] at hr
    obtain ⟨hp, g1, g2⟩ := good_pile hr.1
    have hg := ofF_good (fun k _ => hI k) (vars4 hp) _ _ s h
    refine ⟨hg, fun env he hE => ?_⟩
    obtain ⟨x, hx1, hx2, hx3⟩ := ring_value hp hr.2 hI he hE l.length (l.length - 1) s (by omega) (by omega) h
    have hok : evalOk l env = true := by unfold evalOk; rw [hr.1, decide_eq_true he]; rfl
    obtain ⟨q1, q2⟩ := eval_is hg.1 he
    have hT : evalT l env = some x := hx1
    refine ⟨hok, ?_, q1, ?_⟩
    · unfold evalTr; rw [if_pos hok, hT]; rfl
    · unfold evalV; rw [if_pos hok, hT, q2]
      exact Like.eq hx2 (wrap_in _) (hx3.trans (like_wrap _).symm)
  · rw [if_neg hr] at h; cases h
theorem ofT_four {l : List (Int × Int)} (hI : ∀ k, InI (l.getD k (0, 0)).2) : ((ofT l).getD []).length ≤ 40 ∧ ∀ m ∈ (ofT l).getD [], m.1.length = 4 := by
  cases e : ofT l with
  | none => exact ⟨by simp, fun m hm => by cases hm⟩
  | some s =>
    have := (ofT_facts hI e).2.1
    exact ⟨poly_len this.1, this.len⟩
theorem polyOfV {W : World} {B : Nat} {v : Value} {l : List (Int × Int)} (h : NewR W B v l) (hT : Tab W) : Calls Tryz.prog 7 #[v] W fun r w' => ∃ z, r = .returned (.tuple #[z, .bool (ofT l).isSome]) ∧ SpecV w' z ((ofT l).getD []) ∧ Below W.heap.size W w' := by
  obtain ⟨a, len, cap, rfl, hs, hl, hN⟩ := h
  exact (implPolyOf_any a len cap l W hT hs (by omega) hN.1.at).mono fun r w' ⟨z, t1, t2, t3⟩ => ⟨z, t1, ownV_spec t2 (ofT_four hN.1.at).2, t3⟩
theorem specPolyOfV {W : World} {B : Nat} {v : Value} {l : List (Int × Int)} (h : NewR W B v l) : Calls Tryz.prog 8 #[v] W fun r w' => ∃ z, r = .returned (.tuple #[z, .bool (ofT l).isSome]) ∧ SpecV w' z ((ofT l).getD []) ∧ Below W.heap.size W w' := by
  obtain ⟨a, len, cap, rfl, hs, hl, hN⟩ := h
  exact specPolyOf_any a len cap l W hs (by omega) hN.1.at
theorem isRingV {W : World} {B : Nat} {v : Value} {l : List (Int × Int)} (h : NewR W B v l) (hT : Tab W) : Calls Tryz.prog 9 #[v] W fun e w' => e = .returned (.tuple #[.bool (isRingB l), .bool (goodB l)]) ∧ Below W.heap.size W w' := by
  obtain ⟨a, len, cap, rfl, hs, hl, hN⟩ := h
  exact implIsRing_any a len cap l W hT hs (by omega)
theorem specIsRingV {W : World} {B : Nat} {v : Value} {l : List (Int × Int)} (h : NewR W B v l) : Calls Tryz.prog 10 #[v] W fun e w' => e = .returned (.tuple #[.bool (isRingB l), .bool (goodB l)]) ∧ Below W.heap.size W w' := by
  obtain ⟨a, len, cap, rfl, hs, hl, hN⟩ := h
  exact specIsRing_any a len cap l W hs (by omega)
theorem evalTermV {W : World} {B : Nat} {v : Value} {l : List (Int × Int)} (h : NewR W B v l) (hT : Tab W) (b : Option Addr) (c : Nat) (env : List Int) (he : Sl W b 4 env) : Calls Tryz.prog 13 #[v, .slice b 4 c] W fun e w' => e = .returned (.tuple #[.int .i64 (evalV l env), .bool (evalTr l env), .bool (evalOk l env)]) ∧ Below W.heap.size W w' := by
  obtain ⟨a, len, cap, rfl, hs, hl, hN⟩ := h
  exact implEval_any a len cap l b 4 c env W hT hs he (by omega) (by omega)

set_option maxHeartbeats 12800000 in
set_option maxRecDepth 20000 in
theorem ringTop_any (a : Option Addr) (len cap : Nat) (za : List Int) (b : Option Addr) (lb cb : Nat) (zb : List Int) (w : World) (hT : Tab w) (ha : IsRow .u8 w a len cap za) (hb : IsRow .u8 w b lb cb zb) :
    Calls Tryz.prog 3 #[.slice a len cap, .slice b lb cb] w fun e w' => e = .returned (.bool true) ∧ Below w.heap.size w w' := by
  by_cases hl : len ≤ 1048576 ∧ lb ≤ 1048576 - len
  · have HB := (show Hid _ from big_no a b len cap lb cb w hl.1 hl.2)
    have hA := Bytes.of ha
    have hBy := Bytes.of hb
    have HD := (show Hid _ from drawPolyOf w a len cap hA hl.1)
    have HE : Hid (∀ W, Below w.heap.size w W → Calls Tryz.prog 16 #[.slice b lb cb] W fun e w' => ∃ (u : Value) (q : List Mon) (b : Option Addr) (m c : Nat) (ys : List Int), e = .returned (.tuple #[u, .slice b m c]) ∧ SumD w' u q ∧ Sl w' b m ys ∧ m ≤ 10 ∧ Below W.heap.size W w') := fun W hW => drawEvalP W b lb cb (hBy.keep hW) (by omega)
    have HL : Hid (∀ W, Below w.heap.size w W → Calls Tryz.prog 12 #[.slice b lb cb, .int .i64 (4 : Int)] W fun e w' => ∃ (a : Option Addr) (c : Nat) (ys : List Int), e = .returned (.slice a 4 c) ∧ Sl w' a 4 ys ∧ (∀ y ∈ ys, InI y) ∧ Below W.heap.size W w') := fun W hW => (longs_any W b lb cb 4 (hBy.keep hW) (by omega) (by omega)).mono fun e w' ⟨v, ys, t1, t2, t3, t4⟩ => by
      obtain ⟨a', c', rfl, hs⟩ := Sl.vals t2
      exact ⟨a', c', ys, t1, hs, t3, t4⟩
    have HT : Hid (∀ W, Below w.heap.size w W → Tab W) := fun W hW => hT.keeps hW
    clear ha hb hA hBy hT
    go_enter Tryz.func3, Tryz.ntmps3
    go_wp2_with fail
    refine Calls.mono HB.out ?_
    rintro e w0 ⟨rfl, rfl⟩
    go_wp2_with fail
    refine Calls.mono HD.out ?_
    rintro e w1 ⟨t, l, rfl, hN1, hb1⟩
    have hI : ∀ k, InI (l.getD k (0, 0)).2 := by obtain ⟨_, _, _, _, _, _, h4⟩ := hN1; exact h4.1.at
    have C1 := (show Hid _ from polyOfV hN1 (HT.out _ hb1))
    have HFa : Hid (∀ s, ofT l = some s → isRingB l = true ∧ GoodS s ∧ ∀ env : List Int, env.length = 4 → (∀ y ∈ env, InI y) → evalOk l env = true ∧ evalTr l env = false ∧ evalPok s env = true ∧ evalV l env = evalPV s env) := fun s hs => ofT_facts hI hs
    have h4 := ofT_four hI
    clear HB HD hI
    go_wp2_with fail
    refine Calls.mono C1.out ?_
    rintro e w2 ⟨p1, rfl, hp2, hb2⟩
    have hB2 := hb1.trans (hb2.mono hb1.size)
    have hN2 := hN1.keep hb2
    have C2 := (show Hid _ from specPolyOfV hN2)
    clear C1 hb1 hb2 hN1
    go_wp2_with fail
    refine Calls.mono C2.out ?_
    rintro e w3 ⟨p2, rfl, hq3, hb3⟩
    have hB3 := hB2.trans (hb3.mono hB2.size)
    have hN3 := hN2.keep hb3
    have hp3 := hp2.keep hb3
    have C3 := (show Hid _ from isRingV hN3 (HT.out _ hB3))
    clear C2 hb3 hB2 hN2 hp2
    go_wp2_with fail
    refine Calls.mono C3.out ?_
    rintro e w4 ⟨rfl, hb4⟩
    have hB4 := hB3.trans (hb4.mono hB3.size)
    have hN4 := hN3.keep hb4
    have hp4 := hp3.keep hb4
    have hq4 := hq3.keep hb4
    have C4 := (show Hid _ from specIsRingV hN4)
    clear C3 hb4 hB3 hN3 hp3 hq3
    go_wp2_with fail
    refine Calls.mono C4.out ?_
    rintro e w5 ⟨rfl, hb5⟩
    have hB5 := hB4.trans (hb5.mono hB4.size)
    have hN5 := hN4.keep hb5
    have hp5 := hp4.keep hb5
    have hq5 := hq4.keep hb5
    have C5 := (show Hid _ from samePoly_same p1 p2 _ w5 hp5 hq5 (by omega) h4.2)
    clear C4 hb5 hB4 hN4 hp4 hq4
    obtain ⟨R, hR⟩ : ∃ R, isRingB l = R := ⟨_, rfl⟩
    obtain ⟨G, hG⟩ : ∃ G, goodB l = G := ⟨_, rfl⟩
    obtain ⟨O, hO⟩ : ∃ O, ofT l = O := ⟨_, rfl⟩
    rw [hR, hO] at HFa
    rw [hO] at hp5 h4
    simp only [hR, hG, hO]
    have e1 : (O.isSome != O.isSome) = false := by simp
    have e2 : (G != G) = false := by simp
    have e3 : (R != R) = false := by simp
    clear hR hG hO hq5
    cases O with
    | none =>
      have n1 : (none : Option (List Mon)).isSome = false := rfl
      rw [n1] at e1 ⊢
      go_wp2_with fail
      refine Calls.mono C5.out ?_
      rintro e w6 ⟨rfl, hb6⟩
      have hB6 := hB5.trans (hb6.mono hB5.size)
      clear C5 hb6 hB5 hN5 hp5 h4 HFa HL HT
      go_wp2_with fail
      refine Calls.mono (HE.out _ hB6) ?_
      rintro e x1 ⟨u, q, be, m, ce, ys, rfl, hu1, he1, hm10, hb1⟩
      have hB1 := hB6.trans (hb1.mono hB6.size)
      have D1 := (show Hid _ from evalI hu1.1 (by have := hu1.2.2; omega) be m ce ys he1 (by omega))
      clear hb1 hB6 HE
      go_wp2_with fail
      refine Calls.mono D1.out ?_
      rintro e x2 ⟨rfl, hb2⟩
      have hB2 := hB1.trans (hb2.mono hB1.size)
      have D2 := (show Hid _ from evalS (hu1.keep hb2).1 (by have := hu1.2.2; omega) be m ce ys (he1.keep hb2) (by omega))
      clear hb2 hB1 D1 hu1 he1
      go_wp2_with fail
      refine Calls.mono D2.out ?_
      rintro e x3 ⟨rfl, hb3⟩
      have hB3 := hB2.trans (hb3.mono hB2.size)
      have q1 : (evalPok q ys == evalPok q ys) = true := by simp
      have q2 : (evalPV q ys == evalPV q ys) = true := by simp
      clear D2 hb3 hB2
      go_wp2
      go_ret
      exact ⟨rfl, hB3⟩
    | some s =>
      have n1 : (some s : Option (List Mon)).isSome = true := rfl
      have n2 : (some s : Option (List Mon)).getD [] = s := rfl
      rw [n1] at e1 ⊢
      rw [n2] at hp5 h4
      obtain ⟨g1, g2, g3⟩ := HFa.out s rfl
      subst g1
      have HG3 := (show Hid _ from g3)
      clear HFa g3
      go_wp2_with fail
      refine Calls.mono C5.out ?_
      rintro e w6 ⟨rfl, hb6⟩
      have hB6 := hB5.trans (hb6.mono hB5.size)
      have hN6 := hN5.keep hb6
      have hp6 := hp5.keep hb6
      clear C5 hb6 hB5 hN5 hp5 n1 n2
      go_wp2_with fail
      refine Calls.mono (HL.out _ hB6) ?_
      rintro e w7 ⟨ae, ce, env, rfl, he7, hE7, hb7⟩
      have hB7 := hB6.trans (hb7.mono hB6.size)
      have hN7 := hN6.keep hb7
      have hp7 := hp6.keep hb7
      obtain ⟨k1, k2, k3, k4⟩ := HG3.out env he7.1 hE7
      have C7 := (show Hid _ from evalTermV hN7 (HT.out _ hB7) ae ce env he7)
      rw [k1, k2, k4] at C7
      clear hb7 hB6 hN6 hp6 HL HG3 hE7 k1 k2 k4
      go_wp2_with fail
      refine Calls.mono C7.out ?_
      rintro e w8 ⟨rfl, hb8⟩
      have hB8 := hB7.trans (hb8.mono hB7.size)
      have hp8 := hp7.keep hb8
      have C8 := (show Hid _ from evalI hp8 (by omega) ae 4 ce env (he7.keep hb8) (by omega))
      rw [k3] at C8
      clear hb8 hB7 hN7 hp7 C7 he7 k3 HT
      go_wp2_with fail
      refine Calls.mono C8.out ?_
      rintro e w9 ⟨rfl, hb9⟩
      have hB9 := hB8.trans (hb9.mono hB8.size)
      have C9 := (show Hid _ from goodI (hp8.keep hb9) (by omega))
      rw [g2.1] at C9
      generalize evalPV s env = X
      have xx : (X != X) = false := by simp
      clear hb9 hB8 hp8 C8 g2
      go_wp2_with fail
      refine Calls.mono C9.out ?_
      rintro e w10 ⟨rfl, hb10⟩
      have hB10 := hB9.trans (hb10.mono hB9.size)
      clear hb10 hB9 C9 h4
      go_wp2_with fail
      refine Calls.mono (HE.out _ hB10) ?_
      rintro e x1 ⟨u, q, be, m, ce, ys, rfl, hu1, he1, hm10, hb1⟩
      have hB1 := hB10.trans (hb1.mono hB10.size)
      have D1 := (show Hid _ from evalI hu1.1 (by have := hu1.2.2; omega) be m ce ys he1 (by omega))
      clear hb1 hB10 HE
      go_wp2_with fail
      refine Calls.mono D1.out ?_
      rintro e x2 ⟨rfl, hb2⟩
      have hB2 := hB1.trans (hb2.mono hB1.size)
      have D2 := (show Hid _ from evalS (hu1.keep hb2).1 (by have := hu1.2.2; omega) be m ce ys (he1.keep hb2) (by omega))
      clear hb2 hB1 D1 hu1 he1
      go_wp2_with fail
      refine Calls.mono D2.out ?_
      rintro e x3 ⟨rfl, hb3⟩
      have hB3 := hB2.trans (hb3.mono hB2.size)
      have q1 : (evalPok q ys == evalPok q ys) = true := by simp
      have q2 : (evalPV q ys == evalPV q ys) = true := by simp
      clear D2 hb3 hB2
      go_wp2
      go_ret
      exact ⟨rfl, hB3⟩
  · have HB := (show Hid _ from big_yes a b len cap lb cb w hl ha.bound hb.bound)
    clear ha hb
    go_enter Tryz.func3, Tryz.ntmps3
    go_wp2_with fail
    refine Calls.mono HB.out ?_
    rintro e w0 ⟨rfl, rfl⟩
    go_wp2
    go_ret
    exact ⟨rfl, Below.refl _ _⟩
end Go.Proofs.YtpjgjpjfchfmlaaGreatDoor
namespace Go.Proofs.YtpjgjpjfchfmlaaGreatDoor
open Go.ChangeShapes Go.WideShapes Go.ChangeAt Go.RowKit
set_option linter.unusedVariables false

theorem inI_nat {n : Nat} (h : n ≤ 1000) : InI (n : Int) := by unfold InI; omega
theorem nums_nil : NumsIn [] := fun x hx => by cases hx
theorem nums_cons {x : Int × Int} {b : List (Int × Int)} (ha : InI x.2) (hb : NumsIn b) : NumsIn (x :: b) := fun y hy => by
  rcases List.mem_cons.1 hy with rfl | h
  · exact ha
  · exact hb y h
theorem nums_rep (v : Nat) (hv : v ≤ 1000) : ∀ i, NumsIn (rep i v)
  | 0 => nums_nil
  | i + 1 => nums_cons (inI_nat hv) (nums_cons (inI_nat (n := 0) (by omega)) (nums_rep v hv i))
theorem nums_pow : ∀ (e : List Int) (j : Nat), j + e.length ≤ 1000 → NumsIn (powT j e)
  | [], j, _ => nums_nil
  | n :: r, j, h => nums_app (nums_rep j (by omega) n.toNat) (nums_pow r (j + 1) (by simp only [List.length_cons] at h; omega))
theorem nums_term : ∀ (p : List Mon) (k : Nat), (∀ m ∈ p, m.1.length = 4 ∧ InI m.2) → NumsIn (termF k p)
  | [], k, _ => nums_nil
  | m :: r, k, h => nums_app (nums_cons (h m (List.mem_cons_self ..)).2 (nums_pow m.1 0 (by have := (h m (List.mem_cons_self ..)).1; omega))) (nums_app (by unfold tailT; split; exact nums_nil; exact nums_cons (inI_nat (n := 0) (by omega)) nums_nil) (nums_term r (k + 1) fun x hx => h x (List.mem_cons_of_mem _ hx)))
theorem termR_facts {p : List Mon} (hI : ∀ x ∈ p, InI x.2) : (termR p).length ≤ 100 ∧ NumsIn (termR p) := by
  unfold termR
  by_cases h : termOk p = true
  · rw [if_pos h]
    unfold termOk at h
    rw [Bool.and_eq_true] at h
    obtain ⟨_, _, g2⟩ := good_pile h.2
    refine ⟨by omega, ?_⟩
    unfold termP
    split
    · exact nums_cons (inI_nat (n := 0) (by omega)) nums_nil
    · exact nums_term p 0 (fine_of h.1 hI)
  · rw [if_neg h]; exact ⟨by simp, nums_nil⟩
theorem NewR.grown {w w' : World} {B c : Nat} {v : Value} {l : List (Int × Int)} (h : NewR w B v l) (hg : w.grownBy w' (some c)) (hc : c < B) : NewR w' B v l := by
  obtain ⟨a, len, cap, h1, h2, h3, h4, h5⟩ := h
  refine ⟨a, len, cap, h1, ⟨h2.1, ?_⟩, h3, h4, h5⟩
  rcases h2.2 with e | ⟨b, off, rfl, hb, hcs⟩
  · exact .inl e
  · have hbb := h5 _ rfl
    have hbl : w'.heap[b]? = w.heap[b]? := hg.block b hb (fun e => by cases e; simp only at hbb; omega)
    refine .inr ⟨b, off, rfl, Nat.lt_of_lt_of_le hb hg.size, fun i hi => ?_⟩
    have := hcs i hi
    have ec : ∀ j, w'.cell? ⟨b, j, none⟩ = w.cell? ⟨b, j, none⟩ := fun j => by unfold World.cell?; rw [hbl]
    rw [ec, ec]
    exact this
theorem specTermV {W : World} {v : Value} {p : List Mon} (hp : SpecV W v p) (hI : ∀ x ∈ p, InI x.2) (hl : p.length ≤ 1048576) : Calls Tryz.prog 23 #[v] W fun e w' => ∃ u : Value, e = .returned (.tuple #[u, .bool (termOk p)]) ∧ NewR w' W.heap.size u (termR p) ∧ Below W.heap.size W w' := by
  obtain ⟨a, c, rfl, h1⟩ := hp
  obtain ⟨f1, f2⟩ := termR_facts hI
  exact (specTerm_any a _ c p W h1 (by omega)).mono fun e w' ⟨u, t1, t2, t3⟩ => ⟨u, t1, NewR.of t2 f1 f2, t3⟩
theorem implTermV {W : World} {v : Value} {p : List Mon} (hT : Tab W) (hp : SpecV W v p) (hI : ∀ x ∈ p, InI x.2) (hl : p.length ≤ 1048576) : Calls Tryz.prog 22 #[v] W fun e w' => ∃ u : Value, e = .returned (.tuple #[u, .bool (termOk p)]) ∧ NewR w' W.heap.size u (termR p) ∧ Below W.heap.size W w' := by
  obtain ⟨a, c, rfl, h1⟩ := hp
  obtain ⟨f1, f2⟩ := termR_facts hI
  exact (implTerm_any a _ c p W hT h1 (by omega)).mono fun e w' ⟨u, t1, t2, t3⟩ => ⟨u, t1, NewR.of t2 f1 f2, t3⟩

set_option maxHeartbeats 3200000 in
set_option maxRecDepth 20000 in
theorem drawSameRing (w : World) (a : Option Addr) (len cap : Nat) (hb : Bytes w w.heap.size a len) (hl : len ≤ 1048576) :
    Calls Tryz.prog 18 #[.slice a len cap] w fun e w' => ∃ (v u : Value) (l m : List (Int × Int)), e = .returned (.tuple #[v, u]) ∧ NewR w' w.heap.size v l ∧ NewR w' w.heap.size u m ∧ Below w.heap.size w w' := by
  have hc := cur_new w a len cap hb hl
  have C := (show Hid _ from ring_any _ _ _ hc (by omega))
  have hs0 : w.heap.size + 1 ≤ (w.alloc (.cells #[.slice a len cap, .int .i64 0, .int .u64 0] 68)).heap.size := by simp
  clear hc
  go_enter Tryz.func18, Tryz.ntmps18
  go_wp2_with fail
  refine Calls.mono C.out ?_
  rintro e w1 ⟨t, l, rfl, hN1, ⟨n1, hn1, hc1⟩, hg1⟩
  have hN1' := hN1.base hs0
  have hI : ∀ k, InI (l.getD k (0, 0)).2 := by obtain ⟨_, _, _, _, _, _, h4, _⟩ := hN1; exact h4.at
  have C1 : Hid (Calls Tryz.prog 8 #[t] w1 fun r w' => ∃ z, r = .returned (.tuple #[z, .bool (ofT l).isSome]) ∧ SpecB w1.heap.size w' z ((ofT l).getD []) ∧ Below w1.heap.size w1 w') := by
    obtain ⟨a', len', cap', rfl, hs, hl', hN, _⟩ := hN1
    exact specPolyOf_own a' len' cap' l w1 hs (by omega) hN.at
  have HF : Hid (∀ s, ofT l = some s → (∀ x ∈ s, InI x.2) ∧ s.length ≤ 40) := fun s hs => ⟨(ofT_good hI s hs).2, poly_len (ofT_good hI s hs).1⟩
  clear C hN1 hI
  go_wp2_with fail
  refine Calls.mono C1.out ?_
  rintro e w2 ⟨z, rfl, hz2, hb2⟩
  have hN2 := hN1'.keep hb2
  have hc2 := hc1.kept (grown_of hb2) (fun r hr => by cases hr)
  have hG2 := grown_own hg1 (grown_of hb2) (fun r hr => by cases hr)
  clear C1 hb2 hN1' hc1
  have HR : Hid (∀ (W : World) (m : Nat), m ≤ 4000 → Cur W w.heap.size m → Calls Tryz.prog 43 #[.pointer (some ⟨w.heap.size, 0, none⟩)] W fun e w' => ∃ (v : Value) (l : List (Int × Int)), e = .returned v ∧ NewR w' W.heap.size v l ∧ Drew W w' w.heap.size m 3000) := fun W m hm h => ring_any W _ _ h (by omega)
  generalize ofT l = O at HF hz2 ⊢
  cases O with
  | none =>
    have n1' : (none : Option (List Mon)).isSome = false := rfl
    rw [n1']
    clear HF hz2
    go_wp2_with fail
    refine Calls.mono (HR.out w2 n1 (by omega) hc2) ?_
    rintro e w3 ⟨u, m, rfl, hM3, ⟨n3, hn3, hc3⟩, hg3⟩
    have HN : Hid (NewR w3 w.heap.size t l ∧ NewR w3 w.heap.size u m) := ⟨(hN2.grown hg3 (by omega)).base (by omega), hM3.base (by have := hG2.size; omega)⟩
    have hG3 := gtrans hG2 hg3
    clear HR hM3 hN2 hc2 hc3
    go_wp2
    go_ret2
    exact ⟨_, _, l, m, rfl, HN.out.1, HN.out.2, drew_below hG3⟩
  | some s =>
    have n1' : (some s : Option (List Mon)).isSome = true := rfl
    have n2' : (some s : Option (List Mon)).getD [] = s := rfl
    rw [n2'] at hz2
    rw [n1']
    obtain ⟨hI, hl40⟩ := HF.out s rfl
    obtain ⟨_, vs, hP, _⟩ := hz2
    have hA2 := AnyQ.row hP hI
    have C2 := (show Hid _ from once_any w2 w.heap.size n1 2 hc2 (by omega) (by decide) (by decide))
    clear HF hc2
    go_wp2_with fail
    refine Calls.mono C2.out ?_
    rintro e w3 ⟨b3, rfl, hc3, hg3⟩
    have hG3 := gtrans hG2 hg3
    have hN3 := hN2.grown hg3 (by omega)
    have hsz3 := hG3.size
    cases b3 with
    | false =>
      clear C2 hN2 hg3 hA2 hP
      go_wp2_with fail
      refine Calls.mono (HR.out w3 _ (by omega) hc3) ?_
      rintro e w4 ⟨u, m, rfl, hM4, ⟨n4, hn4, hc4⟩, hg4⟩
      have HN : Hid (NewR w4 w.heap.size t l ∧ NewR w4 w.heap.size u m) := ⟨(hN3.grown hg4 (by omega)).base (by omega), hM4.base (by omega)⟩
      have hG4 := gtrans hG3 hg4
      clear HR hM4 hN3 hc3 hc4
      go_wp2
      go_ret2
      exact ⟨_, _, l, m, rfl, HN.out.1, HN.out.2, drew_below hG4⟩
    | true =>
      obtain ⟨p, hp1, hp2, hp3⟩ := (hA2.grown hg3 (by have := hg1.size; omega)).list
      have C3 := (show Hid _ from specTermV hp1 hp2 (by omega))
      clear C2 hN2 hg3 hA2 hP hp1
      obtain ⟨B, hB⟩ : ∃ B, termOk p = B := ⟨_, rfl⟩
      rw [hB] at C3
      go_wp2_with fail
      refine Calls.mono C3.out ?_
      rintro e w4 ⟨u, rfl, hM4, hb4⟩
      have hG4 := grown_own hG3 (grown_of hb4) (fun r hr => by cases hr)
      have hN4 := hN3.keep hb4
      have hc4 := hc3.kept (grown_of hb4) (fun r hr => by cases hr)
      have hsz4 := hG4.size
      clear C3 hb4 hN3 hc3
      cases B with
      | true =>
        have HN : Hid (NewR w4 w.heap.size t l ∧ NewR w4 w.heap.size u (termR p)) := ⟨hN4.base (by omega), hM4.base (by omega)⟩
        clear HR hM4 hN4 hc4
        go_wp2
        go_ret2
        exact ⟨_, _, l, _, rfl, HN.out.1, HN.out.2, drew_below hG4⟩
      | false =>
        clear hM4
        go_wp2_with fail
        refine Calls.mono (HR.out w4 _ (by omega) hc4) ?_
        rintro e w5 ⟨u, m, rfl, hM5, ⟨n5, hn5, hc5⟩, hg5⟩
        have HN : Hid (NewR w5 w.heap.size t l ∧ NewR w5 w.heap.size u m) := ⟨(hN4.grown hg5 (by omega)).base (by omega), hM5.base (by omega)⟩
        have hG5 := gtrans hG4 hg5
        clear HR hM5 hN4 hc4 hc5
        go_wp2
        go_ret2
        exact ⟨_, _, l, m, rfl, HN.out.1, HN.out.2, drew_below hG5⟩
set_option maxRecDepth 20000 in
theorem drawTermOf (w : World) (a : Option Addr) (len cap : Nat) (hb : Bytes w w.heap.size a len) (hl : len ≤ 1048576) :
    Calls Tryz.prog 21 #[.slice a len cap] w fun e w' => ∃ (u : Value) (q : List Mon), e = .returned u ∧ SumD w' u q ∧ Below w.heap.size w w' := by
  have D : Calls Tryz.prog 48 #[.slice a len cap] w fun e w' => ∃ (u : Value) (q : List Mon), e = .returned u ∧ SumD w' u q ∧ Below w.heap.size w w' := by
    have hc := cur_new w a len cap hb hl
    have C := (show Hid _ from poly_any _ _ _ hc (by omega))
    clear hc
    go_enter Tryz.func48, Tryz.ntmps48
    go_wp2_with fail
    refine Calls.mono C.out ?_
    rintro e w1 ⟨u, k, rfl, hA1, hk, ⟨n1, hn1, hc1⟩, hg1⟩
    obtain ⟨p, hp1, hp2, hp3⟩ := hA1.list
    have HR : Hid (SumD w1 u p) := ⟨hp1, hp2, by omega⟩
    clear C hA1 hp1
    go_wp2
    go_ret
    exact ⟨_, p, rfl, HR.out, drew_below hg1⟩
  have C := (show Hid _ from D)
  clear hb D
  go_enter Tryz.func21, Tryz.ntmps21
  go_wp2_with fail
  refine Calls.mono C.out ?_
  rintro e w1 ⟨v, q, rfl, hN, hb1⟩
  have HN := (show Hid _ from hN)
  clear C hN
  go_wp2
  go_ret
  exact ⟨_, q, rfl, HN.out, hb1⟩
end Go.Proofs.YtpjgjpjfchfmlaaGreatDoor
namespace Go.Proofs.YtpjgjpjfchfmlaaGreatDoor
open Go.ChangeShapes Go.WideShapes Go.ChangeAt Go.RowKit
set_option linter.unusedVariables false

theorem sameNV {W : World} {B B' : Nat} {u v : Value} {l : List (Int × Int)} (h : NewR W B u l) (h' : NewR W B' v l) : Calls Tryz.prog 24 #[u, v] W fun e w' => e = .returned (.bool true) ∧ Below W.heap.size W w' := by
  obtain ⟨a, len, cap, rfl, hs, hl, _⟩ := h
  obtain ⟨b, len', cap', rfl, hs', hl', _⟩ := h'
  obtain rfl : len = len' := by rw [← hs.1, ← hs'.1]
  exact sameN_same a b len cap cap' l W hs hs' (by omega)
theorem sameSV {W : World} {B B' : Nat} {u v : Value} {l m : List (Int × Int)} (h : NewR W B u l) (h' : NewR W B' v m) : Calls Tryz.prog 20 #[u, v] W fun r w' => r = .returned (.tuple #[.bool (sameR l m), .bool (sameOk l m)]) ∧ Below W.heap.size W w' := by
  obtain ⟨a, len, cap, rfl, hs, hl, hN, _⟩ := h
  obtain ⟨b, len', cap', rfl, hs', hl', hN', _⟩ := h'
  exact specSame_any a len cap l b len' cap' m W hs hs' (by omega) (by omega) hN.at hN'.at
theorem sameIV {W : World} {B B' : Nat} {u v : Value} {l m : List (Int × Int)} (h : NewR W B u l) (h' : NewR W B' v m) (hT : Tab W) : Calls Tryz.prog 19 #[u, v] W fun r w' => r = .returned (.tuple #[.bool (sameR l m), .bool (sameOk l m)]) ∧ Below W.heap.size W w' := by
  obtain ⟨a, len, cap, rfl, hs, hl, hN, _⟩ := h
  obtain ⟨b, len', cap', rfl, hs', hl', hN', _⟩ := h'
  exact implSame_any a len cap l b len' cap' m W hT hs hs' (by omega) (by omega) hN.at hN'.at
/-- Two terms of the same sum have the same value. -/
theorem same_vals {l m : List (Int × Int)} (hI : ∀ k, InI (l.getD k (0, 0)).2) (hI' : ∀ k, InI (m.getD k (0, 0)).2) (h : sameR l m = true) (env : List Int) (he : env.length = 4) (hE : ∀ y ∈ env, InI y) : evalOk l env = true ∧ evalOk m env = true ∧ evalV l env = evalV m env := by
  unfold sameR sameOk at h
  cases e : ofT l with
  | none => rw [e] at h; cases h
  | some s =>
    cases e' : ofT m with
    | none => rw [e, e'] at h; cases h
    | some t =>
      rw [e, e'] at h
      have : s = t := of_decide_eq_true (by simpa using h)
      subst this
      obtain ⟨k1, _, _, k4⟩ := (ofT_facts hI e).2.2 env he hE
      obtain ⟨j1, _, _, j4⟩ := (ofT_facts hI' e').2.2 env he hE
      exact ⟨k1, j1, k4.trans j4.symm⟩
theorem same_ok {l m : List (Int × Int)} (h : sameR l m = true) : sameOk l m = true := by
  unfold sameR at h
  rw [Bool.and_eq_true] at h
  exact h.1

set_option maxHeartbeats 12800000 in
set_option maxRecDepth 20000 in
theorem sameTop_any (a : Option Addr) (len cap : Nat) (za : List Int) (b : Option Addr) (lb cb : Nat) (zb : List Int) (w : World) (hT : Tab w) (ha : IsRow .u8 w a len cap za) (hb : IsRow .u8 w b lb cb zb) :
    Calls Tryz.prog 4 #[.slice a len cap, .slice b lb cb] w fun e w' => e = .returned (.bool true) ∧ Below w.heap.size w w' := by
  by_cases hl : len ≤ 1048576 ∧ lb ≤ 1048576 - len
  · have HB := (show Hid _ from big_no a b len cap lb cb w hl.1 hl.2)
    have hA := Bytes.of ha
    have hBy := Bytes.of hb
    have HD := (show Hid _ from drawSameRing w a len cap hA hl.1)
    have HE : Hid (∀ W, Below w.heap.size w W → Calls Tryz.prog 21 #[.slice b lb cb] W fun e w' => ∃ (u : Value) (q : List Mon), e = .returned u ∧ SumD w' u q ∧ Below W.heap.size W w') := fun W hW => drawTermOf W b lb cb (hBy.keep hW) (by omega)
    have HL : Hid (∀ W, Below w.heap.size w W → Calls Tryz.prog 12 #[.slice b lb cb, .int .i64 (4 : Int)] W fun e w' => ∃ (a : Option Addr) (c : Nat) (ys : List Int), e = .returned (.slice a 4 c) ∧ Sl w' a 4 ys ∧ (∀ y ∈ ys, InI y) ∧ Below W.heap.size W w') := fun W hW => (longs_any W b lb cb 4 (hBy.keep hW) (by omega) (by omega)).mono fun e w' ⟨v, ys, t1, t2, t3, t4⟩ => by
      obtain ⟨a', c', rfl, hs⟩ := Sl.vals t2
      exact ⟨a', c', ys, t1, hs, t3, t4⟩
    have HT : Hid (∀ W, Below w.heap.size w W → Tab W) := fun W hW => hT.keeps hW
    clear ha hb hA hBy hT
    go_enter Tryz.func4, Tryz.ntmps4
    go_wp2_with fail
    refine Calls.mono HB.out ?_
    rintro e w0 ⟨rfl, rfl⟩
    go_wp2_with fail
    refine Calls.mono HD.out ?_
    rintro e w1 ⟨t, u, l, m, rfl, hN1, hM1, hb1⟩
    have hI : ∀ k, InI (l.getD k (0, 0)).2 := by obtain ⟨_, _, _, _, _, _, h4⟩ := hN1; exact h4.1.at
    have hI' : ∀ k, InI (m.getD k (0, 0)).2 := by obtain ⟨_, _, _, _, _, _, h4⟩ := hM1; exact h4.1.at
    have HV : Hid (sameR l m = true → ∀ env : List Int, env.length = 4 → (∀ y ∈ env, InI y) → evalOk l env = true ∧ evalOk m env = true ∧ evalV l env = evalV m env) := fun h => same_vals hI hI' h
    have HO : Hid (sameR l m = true → sameOk l m = true) := fun h => same_ok h
    have C1 := (show Hid _ from sameIV hN1 hM1 (HT.out _ hb1))
    clear HB HD hI hI'
    go_wp2_with fail
    refine Calls.mono C1.out ?_
    rintro e w2 ⟨rfl, hb2⟩
    have hB2 := hb1.trans (hb2.mono hb1.size)
    have hN2 := hN1.keep hb2
    have hM2 := hM1.keep hb2
    have C2 := (show Hid _ from sameSV hN2 hM2)
    clear C1 hb1 hb2 hN1 hM1
    obtain ⟨S, hS⟩ : ∃ S, sameR l m = S := ⟨_, rfl⟩
    obtain ⟨O, hO⟩ : ∃ O, sameOk l m = O := ⟨_, rfl⟩
    rw [hS, hO] at C2 HO
    rw [hS] at HV
    simp only [hS, hO]
    clear hS hO
    go_wp2_with fail
    refine Calls.mono C2.out ?_
    rintro e w3 ⟨rfl, hb3⟩
    have hB3 := hB2.trans (hb3.mono hB2.size)
    have hN3 := hN2.keep hb3
    have hM3 := hM2.keep hb3
    clear C2 hb3 hB2 hN2 hM2
    have e1 : (O != O) = false := by simp
    have e2 : (S != S) = false := by simp
    have hcase : (O = true ∧ S = true) ∨ (O = true ∧ S = false) ∨ (O = false ∧ S = false) := by
      have ho := HO.out
      cases S with
      | true => exact .inl ⟨ho rfl, rfl⟩
      | false => cases O with
        | true => exact .inr (.inl ⟨rfl, rfl⟩)
        | false => exact .inr (.inr ⟨rfl, rfl⟩)
    rcases hcase with ⟨rfl, rfl⟩ | ⟨rfl, rfl⟩ | ⟨rfl, rfl⟩
    · have HG := (show Hid _ from HV.out rfl)
      clear HV HO
      go_wp2_with fail
      refine Calls.mono (HL.out _ hB3) ?_
      rintro e w4 ⟨ae, ce, env, rfl, he4, hE4, hb4⟩
      have hB4 := hB3.trans (hb4.mono hB3.size)
      have hN4 := hN3.keep hb4
      have hM4 := hM3.keep hb4
      obtain ⟨k1, k2, k3⟩ := HG.out env he4.1 hE4
      have C4 := (show Hid _ from evalTermV hN4 (HT.out _ hB4) ae ce env he4)
      rw [k1, k3] at C4
      clear hb4 hB3 hN3 hM3 HL HG hE4 k1 k3
      go_wp2_with fail
      refine Calls.mono C4.out ?_
      rintro e w5 ⟨rfl, hb5⟩
      have hB5 := hB4.trans (hb5.mono hB4.size)
      have C5 := (show Hid _ from evalTermV (hM4.keep hb5) (HT.out _ hB5) ae ce env (he4.keep hb5))
      rw [k2] at C5
      clear hb5 hB4 hN4 hM4 C4 he4 k2
      go_wp2_with fail
      refine Calls.mono C5.out ?_
      rintro e w6 ⟨rfl, hb6⟩
      have hB6 := hB5.trans (hb6.mono hB5.size)
      clear hb6 hB5 C5
      generalize evalV m env = V
      generalize evalTr m env = T1
      generalize evalTr l env = T2
      have vv : (V != V) = false := by simp
      go_wp2_with fail
      refine Calls.mono (HE.out _ hB6) ?_
      rintro e x1 ⟨v, q, rfl, hu1, hb1⟩
      have hX1 := hB6.trans (hb1.mono hB6.size)
      have D1 := (show Hid _ from implTermV (HT.out _ hX1) hu1.1 hu1.2.1 (by have := hu1.2.2; omega))
      have HBk : Hid (termOk q = true → ∀ s, ofT (termR q) = some s → s = q ∧ (∀ m ∈ q, m.1.length = 4) ∧ q.length ≤ 40) := fun h s hs => termR_back hu1.2.1 h hs
      clear hb1 hB6 HE
      go_wp2_with fail
      refine Calls.mono D1.out ?_
      rintro e x2 ⟨y, rfl, hy2, hb2⟩
      have hX2 := hX1.trans (hb2.mono hX1.size)
      have hu2 := hu1.keep hb2
      have D2 := (show Hid _ from specTermV hu2.1 hu2.2.1 (by have := hu2.2.2; omega))
      clear D1 hb2 hX1 hu1
      go_wp2_with fail
      refine Calls.mono D2.out ?_
      rintro e x3 ⟨z, rfl, hz3, hb3⟩
      have hX3 := hX2.trans (hb3.mono hX2.size)
      have hu3 := hu2.keep hb3
      have hy3 := hy2.keep hb3
      have D3 := (show Hid _ from sameNV hy3 hz3)
      clear D2 hb3 hX2 hu2 hy2 hz3
      obtain ⟨K, hK⟩ : ∃ K, termOk q = K := ⟨_, rfl⟩
      rw [hK] at HBk
      simp only [hK]
      have eK : (K != K) = false := by simp
      clear hK
      go_wp2_with fail
      refine Calls.mono D3.out ?_
      rintro e x4 ⟨rfl, hb4⟩
      have hX4 := hX3.trans (hb4.mono hX3.size)
      have hu4 := hu3.keep hb4
      have hy4 := hy3.keep hb4
      have D4 := (show Hid _ from polyOfV hy4 (HT.out _ hX4))
      generalize ofT (termR q) = X at D4 HBk
      clear D3 hb4 hX3 hu3 hy3 hy4 HT
      go_wp2_with fail
      refine Calls.mono D4.out ?_
      rintro e x5 ⟨p5, rfl, hp5, hb5⟩
      have hX5 := hX4.trans (hb5.mono hX4.size)
      have hu5 := hu4.keep hb5
      clear D4 hb5 hX4 hu4 eK
      cases X with
      | none =>
        have n1 : (none : Option (List Mon)).isSome = false := rfl
        rw [n1]
        clear hp5 hu5 HBk
        cases K with
        | true =>
          go_wp2
          go_ret
          exact ⟨rfl, hX5⟩
        | false =>
          go_wp2
          go_ret
          exact ⟨rfl, hX5⟩
      | some s =>
        have n1 : (some s : Option (List Mon)).isSome = true := rfl
        have n2 : (some s : Option (List Mon)).getD [] = s := rfl
        rw [n1]
        rw [n2] at hp5
        cases K with
        | false =>
          clear hp5 hu5 HBk
          go_wp2
          go_ret
          exact ⟨rfl, hX5⟩
        | true =>
          obtain ⟨rfl, h4, h40⟩ := HBk.out rfl s rfl
          have D5 := (show Hid _ from samePoly_same p5 v _ x5 hp5 hu5.1 (by omega) h4)
          clear hp5 hu5 HBk n1 n2 h4
          go_wp2_with fail
          refine Calls.mono D5.out ?_
          rintro e x6 ⟨rfl, hb6⟩
          have hX6 := hX5.trans (hb6.mono hX5.size)
          clear D5 hb6 hX5
          go_wp2
          go_ret
          exact ⟨rfl, hX6⟩
    · clear HV HO HL hN3 hM3
      go_wp2_with fail
      refine Calls.mono (HE.out _ hB3) ?_
      rintro e x1 ⟨v, q, rfl, hu1, hb1⟩
      have hX1 := hB3.trans (hb1.mono hB3.size)
      have D1 := (show Hid _ from implTermV (HT.out _ hX1) hu1.1 hu1.2.1 (by have := hu1.2.2; omega))
      have HBk : Hid (termOk q = true → ∀ s, ofT (termR q) = some s → s = q ∧ (∀ m ∈ q, m.1.length = 4) ∧ q.length ≤ 40) := fun h s hs => termR_back hu1.2.1 h hs
      clear hb1 hB3 HE
      go_wp2_with fail
      refine Calls.mono D1.out ?_
      rintro e x2 ⟨y, rfl, hy2, hb2⟩
      have hX2 := hX1.trans (hb2.mono hX1.size)
      have hu2 := hu1.keep hb2
      have D2 := (show Hid _ from specTermV hu2.1 hu2.2.1 (by have := hu2.2.2; omega))
      clear D1 hb2 hX1 hu1
      go_wp2_with fail
      refine Calls.mono D2.out ?_
      rintro e x3 ⟨z, rfl, hz3, hb3⟩
      have hX3 := hX2.trans (hb3.mono hX2.size)
      have hu3 := hu2.keep hb3
      have hy3 := hy2.keep hb3
      have D3 := (show Hid _ from sameNV hy3 hz3)
      clear D2 hb3 hX2 hu2 hy2 hz3
      obtain ⟨K, hK⟩ : ∃ K, termOk q = K := ⟨_, rfl⟩
      rw [hK] at HBk
      simp only [hK]
      have eK : (K != K) = false := by simp
      clear hK
      go_wp2_with fail
      refine Calls.mono D3.out ?_
      rintro e x4 ⟨rfl, hb4⟩
      have hX4 := hX3.trans (hb4.mono hX3.size)
      have hu4 := hu3.keep hb4
      have hy4 := hy3.keep hb4
      have D4 := (show Hid _ from polyOfV hy4 (HT.out _ hX4))
      generalize ofT (termR q) = X at D4 HBk
      clear D3 hb4 hX3 hu3 hy3 hy4 HT
      go_wp2_with fail
      refine Calls.mono D4.out ?_
      rintro e x5 ⟨p5, rfl, hp5, hb5⟩
      have hX5 := hX4.trans (hb5.mono hX4.size)
      have hu5 := hu4.keep hb5
      clear D4 hb5 hX4 hu4 eK
      cases X with
      | none =>
        have n1 : (none : Option (List Mon)).isSome = false := rfl
        rw [n1]
        clear hp5 hu5 HBk
        cases K with
        | true =>
          go_wp2
          go_ret
          exact ⟨rfl, hX5⟩
        | false =>
          go_wp2
          go_ret
          exact ⟨rfl, hX5⟩
      | some s =>
        have n1 : (some s : Option (List Mon)).isSome = true := rfl
        have n2 : (some s : Option (List Mon)).getD [] = s := rfl
        rw [n1]
        rw [n2] at hp5
        cases K with
        | false =>
          clear hp5 hu5 HBk
          go_wp2
          go_ret
          exact ⟨rfl, hX5⟩
        | true =>
          obtain ⟨rfl, h4, h40⟩ := HBk.out rfl s rfl
          have D5 := (show Hid _ from samePoly_same p5 v _ x5 hp5 hu5.1 (by omega) h4)
          clear hp5 hu5 HBk n1 n2 h4
          go_wp2_with fail
          refine Calls.mono D5.out ?_
          rintro e x6 ⟨rfl, hb6⟩
          have hX6 := hX5.trans (hb6.mono hX5.size)
          clear D5 hb6 hX5
          go_wp2
          go_ret
          exact ⟨rfl, hX6⟩
    · clear HV HO HL hN3 hM3
      go_wp2_with fail
      refine Calls.mono (HE.out _ hB3) ?_
      rintro e x1 ⟨v, q, rfl, hu1, hb1⟩
      have hX1 := hB3.trans (hb1.mono hB3.size)
      have D1 := (show Hid _ from implTermV (HT.out _ hX1) hu1.1 hu1.2.1 (by have := hu1.2.2; omega))
      have HBk : Hid (termOk q = true → ∀ s, ofT (termR q) = some s → s = q ∧ (∀ m ∈ q, m.1.length = 4) ∧ q.length ≤ 40) := fun h s hs => termR_back hu1.2.1 h hs
      clear hb1 hB3 HE
      go_wp2_with fail
      refine Calls.mono D1.out ?_
      rintro e x2 ⟨y, rfl, hy2, hb2⟩
      have hX2 := hX1.trans (hb2.mono hX1.size)
      have hu2 := hu1.keep hb2
      have D2 := (show Hid _ from specTermV hu2.1 hu2.2.1 (by have := hu2.2.2; omega))
      clear D1 hb2 hX1 hu1
      go_wp2_with fail
      refine Calls.mono D2.out ?_
      rintro e x3 ⟨z, rfl, hz3, hb3⟩
      have hX3 := hX2.trans (hb3.mono hX2.size)
      have hu3 := hu2.keep hb3
      have hy3 := hy2.keep hb3
      have D3 := (show Hid _ from sameNV hy3 hz3)
      clear D2 hb3 hX2 hu2 hy2 hz3
      obtain ⟨K, hK⟩ : ∃ K, termOk q = K := ⟨_, rfl⟩
      rw [hK] at HBk
      simp only [hK]
      have eK : (K != K) = false := by simp
      clear hK
      go_wp2_with fail
      refine Calls.mono D3.out ?_
      rintro e x4 ⟨rfl, hb4⟩
      have hX4 := hX3.trans (hb4.mono hX3.size)
      have hu4 := hu3.keep hb4
      have hy4 := hy3.keep hb4
      have D4 := (show Hid _ from polyOfV hy4 (HT.out _ hX4))
      generalize ofT (termR q) = X at D4 HBk
      clear D3 hb4 hX3 hu3 hy3 hy4 HT
      go_wp2_with fail
      refine Calls.mono D4.out ?_
      rintro e x5 ⟨p5, rfl, hp5, hb5⟩
      have hX5 := hX4.trans (hb5.mono hX4.size)
      have hu5 := hu4.keep hb5
      clear D4 hb5 hX4 hu4 eK
      cases X with
      | none =>
        have n1 : (none : Option (List Mon)).isSome = false := rfl
        rw [n1]
        clear hp5 hu5 HBk
        cases K with
        | true =>
          go_wp2
          go_ret
          exact ⟨rfl, hX5⟩
        | false =>
          go_wp2
          go_ret
          exact ⟨rfl, hX5⟩
      | some s =>
        have n1 : (some s : Option (List Mon)).isSome = true := rfl
        have n2 : (some s : Option (List Mon)).getD [] = s := rfl
        rw [n1]
        rw [n2] at hp5
        cases K with
        | false =>
          clear hp5 hu5 HBk
          go_wp2
          go_ret
          exact ⟨rfl, hX5⟩
        | true =>
          obtain ⟨rfl, h4, h40⟩ := HBk.out rfl s rfl
          have D5 := (show Hid _ from samePoly_same p5 v _ x5 hp5 hu5.1 (by omega) h4)
          clear hp5 hu5 HBk n1 n2 h4
          go_wp2_with fail
          refine Calls.mono D5.out ?_
          rintro e x6 ⟨rfl, hb6⟩
          have hX6 := hX5.trans (hb6.mono hX5.size)
          clear D5 hb6 hX5
          go_wp2
          go_ret
          exact ⟨rfl, hX6⟩
  · have HB := (show Hid _ from big_yes a b len cap lb cb w hl ha.bound hb.bound)
    clear ha hb
    go_enter Tryz.func4, Tryz.ntmps4
    go_wp2_with fail
    refine Calls.mono HB.out ?_
    rintro e w0 ⟨rfl, rfl⟩
    go_wp2
    go_ret
    exact ⟨rfl, Below.refl _ _⟩
end Go.Proofs.YtpjgjpjfchfmlaaGreatDoor
