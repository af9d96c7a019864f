/-
  PROVED HERE: the law FnParts' own run, at every two rows of bytes. No other condition.
-/
import Derived.Test.YtoaejodpklhmjaaP5Calls
import Derived.Test.YtoaejodpklhmjaaBig
namespace Go.Proofs.Ytoaejodpklhmjaa
open Go.ChangeShapes Go.WideShapes Go.ChangeAt Go.RowKit
set_option linter.unusedVariables false

theorem meet_facts {l m : List Int} (h : pairB l m = true) : finerR (meetR l m) l = true ∧ pairB (meetR l m) l = true ∧ finerR (meetR l m) m = true ∧ pairB (meetR l m) m = true ∧ partB (meetR l m) = true := by
  have e : meetR l m = meetL l m := by unfold meetR; rw [if_pos h]
  rw [e]
  exact ⟨(meet_finer1 h).1, (meet_finer1 h).2, (meet_finer2 h).1, (meet_finer2 h).2, meet_part h⟩
theorem join_facts {l : List Int} {x y : Int} (h : joinOk l x y = true) : partB l = true ∧ partB (joinR l x y) = true ∧ askedB (joinR l x y) x = true ∧ countR (joinR l x y) ≤ countR l ∧ countR l - 1 ≤ countR (joinR l x y) ∧ y ∈ membersR (joinR l x y) x ∧ (∀ z ∈ membersR l x, z ∈ membersR (joinR l x y) x) ∧ 0 ≤ countR l ∧ countR l ≤ 200 := by
  rcases join_cases l x y with ⟨e0, e1, e2, e3⟩ | ⟨e0, _⟩
  · obtain ⟨h1, h2, h3⟩ := (partB_iff l).1 e1
    obtain ⟨a, rfl, ha⟩ := has_iff e2
    obtain ⟨b, rfl, hb⟩ := has_iff e3
    have hJ : joinR l (a : Int) (b : Int) = joinL l a b := by unfold joinR; rw [if_pos e0, Int.toNat_natCast, Int.toNat_natCast]
    rw [hJ]
    have hP := part_join e1 ha hb
    have hA : askedB (joinL l a b) (a : Int) = true := by unfold askedB; rw [hP, has_nat (by rw [join_len]; exact ha)]; rfl
    have hA' : askedB l (a : Int) = true := by unfold askedB; rw [e1, e2]; rfl
    have hc := join_count e1 ha hb
    have c1 : countR l = ((rootsL l).length : Nat) := by unfold countR; rw [if_pos e1]
    have c2 : countR (joinL l a b) = ((rootsL (joinL l a b)).length : Nat) := by unfold countR; rw [if_pos hP]
    have m1 : membersR (joinL l a b) (a : Int) = placesL (joinL l a b) ((joinL l a b).getD a 0) := by unfold membersR; rw [if_pos hA, Int.toNat_natCast]
    have m2 : membersR l (a : Int) = placesL l (l.getD a 0) := by unfold membersR; rw [if_pos hA', Int.toNat_natCast]
    have hrl : (rootsL l).length ≤ l.length := pickU_len _ _
    refine ⟨e1, hP, hA, by omega, by omega, ?_, fun z hz => ?_, by omega, by omega⟩
    · rw [m1]
      unfold placesL
      rw [pickU_mem, join_len]
      exact ⟨hb, by simpa using join_same ha hb⟩
    · rw [m1]
      rw [m2] at hz
      unfold placesL at hz ⊢
      obtain ⟨i, hi⟩ : ∃ i : Nat, z = i := by
        unfold pickU at hz
        simp only [List.mem_map] at hz
        obtain ⟨i, _, e⟩ := hz
        exact ⟨i, e.symm⟩
      subst hi
      rw [pickU_mem] at hz ⊢
      rw [join_len]
      refine ⟨hz.1, ?_⟩
      have := hz.2
      rw [beq_iff_eq] at this ⊢
      exact join_kept hz.1 ha this
  · rw [e0] at h; cases h

set_option maxHeartbeats 12800000 in
set_option maxRecDepth 20000 in
theorem partsTop_any (a : Option Addr) (len cap : Nat) (za : List Int) (b : Option Addr) (lb cb : Nat) (zb : List Int) (w : World) (ha : IsRow .u8 w a len cap za) (hb : IsRow .u8 w b lb cb zb) :
    Calls Try.prog 4 #[.slice a len cap, .slice b lb cb] w fun e w' => e = .returned (.bool true) ∧ Below w.heap.size w w' := by
  by_cases hl : len ≤ 1048576 ∧ lb ≤ 1048576 - len
  · have HB := (show Hid _ from big_no a b len cap lb cb w hl.1 hl.2)
    have hA := Bytes.of ha
    have hBy := Bytes.of hb
    have HD := (show Hid _ from drawMeet w a len cap hA hl.1)
    have HE : Hid (∀ W, Below w.heap.size w W → Calls Try.prog 28 #[.slice b lb cb] W fun e w' => ∃ (v : Value) (l : List Int) (x y : Int), e = .returned (.tuple #[v, .int .i64 x, .int .i64 y]) ∧ Row5 w' W.heap.size v l ∧ Below W.heap.size W w') := fun W hW => drawJoin5 W b lb cb (hBy.keep hW) (by omega)
    have HF : Hid (∀ W, Below w.heap.size w W → Calls Try.prog 35 #[.slice b lb cb] W fun e w' => ∃ (u v : Value) (l m : List Int), e = .returned (.tuple #[u, v]) ∧ Row5 w' W.heap.size u l ∧ Row5 w' W.heap.size v m ∧ Below W.heap.size W w') := fun W hW => drawFiner W b lb cb (hBy.keep hW) (by omega)
    have HG : Hid (∀ W, Below w.heap.size w W → Calls Try.prog 37 #[.slice b lb cb] W fun e w' => ∃ (v : Value) (l : List Int), e = .returned v ∧ Row5 w' W.heap.size v l ∧ Below W.heap.size W w') := fun W hW => drawCount W b lb cb (hBy.keep hW) (by omega)
    clear ha hb hA hBy
    go_enter Try.func4, Try.ntmps4
    go_wp2_with fail
    refine Calls.mono HB.out ?_
    rintro e w0 ⟨rfl, rfl⟩
    go_wp2_with fail
    refine Calls.mono HD.out ?_
    rintro e w1 ⟨v, u, l, m, rfl, hR1, hS1, hb1⟩
    have HUf : Hid (pairB l m = true → _) := meet_facts (l := l) (m := m)
    have C1 := (show Hid _ from implMeet5 hR1 hS1)
    clear HB HD
    go_wp2_with fail
    refine Calls.mono C1.out ?_
    rintro e w2 ⟨u1, rfl, hU2, hb2⟩
    have hB2 := hb1.trans (hb2.mono hb1.size)
    have hR2 := hR1.keep hb2
    have hS2 := hS1.keep hb2
    have C2 := (show Hid _ from specMeet5 hR2 hS2)
    clear C1 hb1 hb2 hR1 hS1
    go_wp2_with fail
    refine Calls.mono C2.out ?_
    rintro e w3 ⟨u2, rfl, hV3, hb3⟩
    have hB3 := hB2.trans (hb3.mono hB2.size)
    have hR3 := hR2.keep hb3
    have hS3 := hS2.keep hb3
    have hU3 := hU2.keep hb3
    have C5 := (show Hid _ from same5 hU3 hV3)
    have e1 : (pairB l m != pairB l m) = false := by simp
    have e2 : (partB l != partB l) = false := by simp
    clear C2 hb3 hR2 hS2 hU2 hB2
    obtain ⟨OK, hOK⟩ : ∃ OK, pairB l m = OK := ⟨_, rfl⟩
    have HOK := (show Hid _ from hOK)
    rw [hOK] at e1
    simp only [hOK]
    clear hOK
    go_wp2_with fail
    refine Calls.mono C5.out ?_
    rintro e w6 ⟨rfl, hb6⟩
    have hB6 := hB3.trans (hb6.mono hB3.size)
    have hR6 := hR3.keep hb6
    have hS6 := hS3.keep hb6
    have hU6 := hU3.keep hb6
    have C7 := (show Hid _ from implParts5 hR6)
    have C8 := (show Hid _ from specParts5 hR6)
    clear C5 hb6 hR3 hS3 hU3 hV3 hB3
    go_wp2_with fail
    refine Calls.mono C7.out ?_
    rintro e w8 ⟨rfl, rfl⟩
    go_wp2_with fail
    refine Calls.mono C8.out ?_
    rintro e w8 ⟨rfl, rfl⟩
    clear C7 C8
    cases OK
    case' false =>
      go_wp2_with fail
      obtain ⟨W, rfl⟩ : ∃ W, W = w8 := ⟨_, rfl⟩
      have hBW := hB6
      clear hB6 hU6 hS6 hR6
    case' true =>
      obtain ⟨g1, g2, g3, g4, g5⟩ := HUf.out HOK.out
      have C9 := (show Hid _ from implFiner5 hU6 hR6)
      rw [g1, g2] at C9
      go_wp2_with fail
      refine Calls.mono C9.out ?_
      rintro e w9 ⟨rfl, hb9⟩
      have hB9 := hB6.trans (hb9.mono hB6.size)
      have hU9 := hU6.keep hb9
      have hS9 := hS6.keep hb9
      have C10 := (show Hid _ from implFiner5 hU9 hS9)
      rw [g3, g4] at C10
      clear C9 hb9 hB6 hU6 hS6 hR6
      go_wp2_with fail
      refine Calls.mono C10.out ?_
      rintro e w10 ⟨rfl, hb10⟩
      have hB10 := hB9.trans (hb10.mono hB9.size)
      have hU10 := hU9.keep hb10
      have C11 := (show Hid _ from implParts5 hU10)
      rw [g5] at C11
      clear C10 hb10 hB9 hU9 hS9 g1 g2 g3 g4 g5
      go_wp2_with fail
      refine Calls.mono C11.out ?_
      rintro e W ⟨rfl, rfl⟩
      have hBW := hB10
      clear C11 hB10 hU10
      go_wp2_with fail
    all_goals
      refine Calls.mono (HE.out _ hBW) ?_
      rintro e x1 ⟨v, l, k, n, rfl, hR1, hb1⟩
      have hB1 := hBW.trans (hb1.mono hBW.size)
      have HJf : Hid (joinOk l k n = true → _) := join_facts (l := l) (x := k) (y := n)
      have D1 := (show Hid _ from implJoin5 hR1 k n)
      clear hb1 hBW HUf HOK e1 e2 HE
      go_wp2_with fail
      refine Calls.mono D1.out ?_
      rintro e x2 ⟨j, rfl, hJ2, hb2⟩
      have hB2 := hB1.trans (hb2.mono hB1.size)
      have hR2 := hR1.keep hb2
      have D2 := (show Hid _ from specJoin5 hR2 k n)
      clear D1 hb2 hB1 hR1
      go_wp2_with fail
      refine Calls.mono D2.out ?_
      rintro e x3 ⟨j', rfl, hJ3', hb3⟩
      have hB3 := hB2.trans (hb3.mono hB2.size)
      have hR3 := hR2.keep hb3
      have hJ3 := hJ2.keep hb3
      have D3 := (show Hid _ from implMembers5 hR3 k)
      clear D2 hb3 hB2 hR2 hJ2
      go_wp2_with fail
      refine Calls.mono D3.out ?_
      rintro e x4 ⟨s, rfl, hM4, hb4⟩
      have hB4 := hB3.trans (hb4.mono hB3.size)
      have hR4 := hR3.keep hb4
      have hJ4 := hJ3.keep hb4
      have hJ4' := hJ3'.keep hb4
      have D4 := (show Hid _ from specMembers5 hR4 k)
      clear D3 hb4 hB3 hR3 hJ3 hJ3'
      go_wp2_with fail
      refine Calls.mono D4.out ?_
      rintro e x5 ⟨s', rfl, hM5', hb5⟩
      have hB5 := hB4.trans (hb5.mono hB4.size)
      have hR5 := hR4.keep hb5
      have hJ5 := hJ4.keep hb5
      have hJ5' := hJ4'.keep hb5
      have hM5 := hM4.keep hb5
      have D5 := (show Hid _ from same5 hJ5 hJ5')
      have e1 : (joinOk l k n != joinOk l k n) = false := by simp
      have e2 : (askedB l k != askedB l k) = false := by simp
      clear D4 hb5 hB4 hR4 hJ4 hJ4' hM4
      obtain ⟨OJ, hOJ⟩ : ∃ OJ, joinOk l k n = OJ := ⟨_, rfl⟩
      have HOJ := (show Hid _ from hOJ)
      rw [hOJ] at e1
      simp only [hOJ]
      clear hOJ
      go_wp2_with fail
      refine Calls.mono D5.out ?_
      rintro e x6 ⟨rfl, hb6⟩
      have hB6 := hB5.trans (hb6.mono hB5.size)
      have hR6 := hR5.keep hb6
      have hJ6 := hJ5.keep hb6
      have hM6 := hM5.keep hb6
      have hM6' := hM5'.keep hb6
      have D6 := (show Hid _ from same5 hM6 hM6')
      clear D5 hb6 hB5 hR5 hJ5 hJ5' hM5 hM5'
      go_wp2_with fail
      refine Calls.mono D6.out ?_
      rintro e x7 ⟨rfl, hb7⟩
      have hB7 := hB6.trans (hb7.mono hB6.size)
      have hR7 := hR6.keep hb7
      have hJ7 := hJ6.keep hb7
      have hM7 := hM6.keep hb7
      clear D6 hb7 hB6 hR6 hJ6 hM6 hM6'
      cases OJ
      case' false =>
        go_wp2_with fail
        obtain ⟨W, rfl⟩ : ∃ W, W = x7 := ⟨_, rfl⟩
        have hBW := hB7
        clear hB7 hR7 hJ7 hM7
      case' true =>
        obtain ⟨g1, g2, g3, g4, g5, g6, g7, g8, g9⟩ := HJf.out HOJ.out
        have D7 := (show Hid _ from implCount5 hR7)
        rw [g1] at D7
        go_wp2_with fail
        refine Calls.mono D7.out ?_
        rintro e x8 ⟨rfl, hb8⟩
        have hB8 := hB7.trans (hb8.mono hB7.size)
        have hJ8 := hJ7.keep hb8
        have hM8 := hM7.keep hb8
        have D8 := (show Hid _ from implCount5 hJ8)
        rw [g2] at D8
        clear D7 hb8 hB7 hR7 hJ7 hM7
        go_wp2_with fail
        refine Calls.mono D8.out ?_
        rintro e x9 ⟨rfl, hb9⟩
        have hB9 := hB8.trans (hb9.mono hB8.size)
        have hJ9 := hJ8.keep hb9
        have hM9 := hM8.keep hb9
        have D9 := (show Hid _ from implMembers5 hJ9 k)
        rw [g3] at D9
        clear D8 hb9 hB8 hJ8 hM8
        go_wp2_with fail
        refine Calls.mono D9.out ?_
        rintro e x10 ⟨t, rfl, hT10, hb10⟩
        have hB10 := hB9.trans (hb10.mono hB9.size)
        have hM10 := hM9.keep hb10
        have D10 := (show Hid _ from has5 hT10 g6)
        have D11 := (show Hid _ from within5 hM10 hT10 g7)
        clear D9 hb10 hB9 hJ9 hM9 g1 g2 g3 g6 g7
        generalize countR l = c at g4 g5 g8 g9
        generalize countR (joinR l k n) = d at g4 g5
        have q1 : ¬ c < d := by omega
        have q2 : ¬ d < c - 1 := by omega
        clear g4 g5
        go_wp2_with fail
        refine Calls.mono D10.out ?_
        rintro e x11 ⟨rfl, rfl⟩
        go_wp2_with fail
        refine Calls.mono D11.out ?_
        rintro e W ⟨rfl, rfl⟩
        have hBW := hB10
        clear D10 D11 hT10 hM10 hB10
        go_wp2_with fail
        clear q1 q2 g8 g9
      all_goals
        refine Calls.mono (HF.out _ hBW) ?_
        rintro e y1 ⟨u, v, p, q, rfl, hP1, hQ1, hb1⟩
        have hB1 := hBW.trans (hb1.mono hBW.size)
        have E1 := (show Hid _ from implFiner5 hP1 hQ1)
        clear hb1 hBW HJf HOJ e1 e2 HF
        go_wp2_with fail
        refine Calls.mono E1.out ?_
        rintro e y2 ⟨rfl, hb2⟩
        have hB2 := hB1.trans (hb2.mono hB1.size)
        have hP2 := hP1.keep hb2
        have hQ2 := hQ1.keep hb2
        have E2 := (show Hid _ from specFiner5 hP2 hQ2)
        clear E1 hb2 hB1 hP1 hQ1
        go_wp2_with fail
        refine Calls.mono E2.out ?_
        rintro e y3 ⟨rfl, hb3⟩
        have hB3 := hB2.trans (hb3.mono hB2.size)
        clear E2 hb3 hB2 hP2 hQ2
        go_wp2_with fail
        refine Calls.mono (HG.out _ hB3) ?_
        rintro e y4 ⟨z, r, rfl, hZ4, hb4⟩
        have hB4 := hB3.trans (hb4.mono hB3.size)
        have E3 := (show Hid _ from implCount5 hZ4)
        clear hb4 hB3 HG
        go_wp2_with fail
        refine Calls.mono E3.out ?_
        rintro e y5 ⟨rfl, hb5⟩
        have hB5 := hB4.trans (hb5.mono hB4.size)
        have E4 := (show Hid _ from specCount5 (hZ4.keep hb5))
        clear E3 hb5 hB4 hZ4
        go_wp2_with fail
        refine Calls.mono E4.out ?_
        rintro e y6 ⟨rfl, rfl⟩
        clear E4
        have q1 : (finerR p q == finerR p q) = true := by simp
        have q2 : (pairB p q == pairB p q) = true := by simp
        have q3 : (countR r == countR r) = true := by simp
        have q4 : (partB r == partB r) = true := by simp
        go_wp2
        go_ret
        exact ⟨rfl, hB5⟩
  · have HB := (show Hid _ from big_yes a b len cap lb cb w hl ha.bound hb.bound)
    clear ha hb
    go_enter Try.func4, Try.ntmps4
    go_wp2_with fail
    refine Calls.mono HB.out ?_
    rintro e w0 ⟨rfl, rfl⟩
    go_wp2
    go_ret
    exact ⟨rfl, Below.refl _ _⟩
end Go.Proofs.Ytoaejodpklhmjaa
