/-
  PROVED HERE: the law FnUnion's own run, at every two rows of bytes. No other condition.
-/
import Derived.Test.YtoaejodpklhmjaaP5Calls
import Derived.Test.YtoaejodpklhmjaaBig
namespace Go.Proofs.Ytoaejodpklhmjaa
open Go.ChangeShapes Go.WideShapes Go.ChangeAt Go.RowKit
set_option linter.unusedVariables false

/-- What the law asks where the numbers are joined. -/
theorem union_facts {l : List Int} {x y : Int} (h : unionOk l x y = true) : parB (unionR l x y) = true ∧ joinOk (flatR l) x y = true ∧ flatR (unionR l x y) = joinR (flatR l) x y ∧ findOk (unionR l x y) x = true ∧ findOk (unionR l x y) y = true ∧ findR (unionR l x y) x = findR (unionR l x y) y ∧ 0 ≤ findS (unionR l x y) x ∧ partB (flatR (unionR l x y)) = true := by
  rcases union_cases l x y with ⟨e0, e1, e2, e3⟩ | ⟨e0, _⟩
  · obtain ⟨h1, h2⟩ := (parB_iff l).1 e1
    obtain ⟨a, rfl, ha⟩ := has_iff e2
    obtain ⟨b, rfl, hb⟩ := has_iff e3
    have hU : unionR l (a : Int) (b : Int) = unionL l a b := by unfold unionR; rw [if_pos e0, Int.toNat_natCast, Int.toNat_natCast]
    have hF : flatR l = flatL l := by unfold flatR; rw [if_pos e1]
    have hUP := union_par h2 ha hb
    have hUB : parB (unionL l a b) = true := (parB_iff _).2 ⟨by rw [union_len]; exact h1, hUP⟩
    have hUF : flatR (unionL l a b) = flatL (unionL l a b) := by unfold flatR; rw [if_pos hUB]
    have hJ : joinOk (flatL l) (a : Int) (b : Int) = true := by
      unfold joinOk
      rw [part_flat h2 h1, has_nat (by rw [flat_length]; exact ha), has_nat (by rw [flat_length]; exact hb)]
      rfl
    have hFa : findOk (unionL l a b) (a : Int) = true := by unfold findOk; rw [hUB, has_nat (by rw [union_len]; exact ha)]; rfl
    have hFb : findOk (unionL l a b) (b : Int) = true := by unfold findOk; rw [hUB, has_nat (by rw [union_len]; exact hb)]; rfl
    rw [hU, hF, hUF]
    refine ⟨hUB, hJ, ?_, hFa, hFb, ?_, ?_, part_flat hUP (by rw [union_len]; exact h1)⟩
    · unfold joinR
      rw [if_pos hJ, Int.toNat_natCast, Int.toNat_natCast]
      exact union_flat h2 ha hb
    · unfold findR
      rw [if_pos hFa, if_pos hFb, Int.toNat_natCast, Int.toNat_natCast, union_one h2 ha hb]
    · unfold findS
      rw [if_pos hFa]
      omega
  · rw [e0] at h; cases h

set_option maxHeartbeats 6400000 in
set_option maxRecDepth 20000 in
theorem unionTop_any (a : Option Addr) (len cap : Nat) (za : List Int) (b : Option Addr) (lb cb : Nat) (zb : List Int) (w : World) (ha : IsRow .u8 w a len cap za) (hb : IsRow .u8 w b lb cb zb) :
    Calls Try.prog 3 #[.slice a len cap, .slice b lb cb] w fun e w' => e = .returned (.bool true) ∧ Below w.heap.size w w' := by
  by_cases hl : len ≤ 1048576 ∧ lb ≤ 1048576 - len
  · have HB := (show Hid _ from big_no a b len cap lb cb w hl.1 hl.2)
    have hA := Bytes.of ha
    have hBy := Bytes.of hb
    have HD := (show Hid _ from drawUnion w a len cap hA hl.1)
    have HE : Hid (∀ W, Below w.heap.size w W → Calls Try.prog 21 #[.slice b lb cb] W fun e w' => ∃ (v : Value) (l : List Int) (x : Int), e = .returned (.tuple #[v, .int .i64 x]) ∧ Row5 w' W.heap.size v l ∧ Below W.heap.size W w') := fun W hW => drawFind W b lb cb (hBy.keep hW) (by omega)
    clear ha hb hA hBy
    go_enter Try.func3, Try.ntmps3
    go_wp2_with fail
    refine Calls.mono HB.out ?_
    rintro e w0 ⟨rfl, rfl⟩
    go_wp2_with fail
    refine Calls.mono HD.out ?_
    rintro e w1 ⟨v, l, x, y, rfl, hR1, hb1⟩
    have HUf : Hid (unionOk l x y = true → _) := union_facts (l := l) (x := x) (y := y)
    have C1 := (show Hid _ from implUnion5 hR1 x y)
    clear HB HD
    go_wp2_with fail
    refine Calls.mono C1.out ?_
    rintro e w2 ⟨u1, rfl, hU2, hb2⟩
    have hB2 := hb1.trans (hb2.mono hb1.size)
    have hR2 := hR1.keep hb2
    have C2 := (show Hid _ from specUnion5 hR2 x y)
    clear C1 hb1 hb2 hR1
    go_wp2_with fail
    refine Calls.mono C2.out ?_
    rintro e w3 ⟨u2, rfl, hV3, hb3⟩
    have hB3 := hB2.trans (hb3.mono hB2.size)
    have hR3 := hR2.keep hb3
    have hU3 := hU2.keep hb3
    have C3 := (show Hid _ from implFlat5 hR3)
    clear C2 hb3 hR2 hU2 hB2
    go_wp2_with fail
    refine Calls.mono C3.out ?_
    rintro e w4 ⟨f1, rfl, hF4, hb4⟩
    have hB4 := hB3.trans (hb4.mono hB3.size)
    have hR4 := hR3.keep hb4
    have hU4 := hU3.keep hb4
    have hV4 := hV3.keep hb4
    have C4 := (show Hid _ from specFlat5 hR4)
    clear C3 hb4 hR3 hU3 hV3 hB3
    go_wp2_with fail
    refine Calls.mono C4.out ?_
    rintro e w5 ⟨f2, rfl, hG5, hb5⟩
    have hB5 := hB4.trans (hb5.mono hB4.size)
    have hR5 := hR4.keep hb5
    have hU5 := hU4.keep hb5
    have hV5 := hV4.keep hb5
    have hF5 := hF4.keep hb5
    have C5 := (show Hid _ from same5 hU5 hV5)
    have e1 : (unionOk l x y != unionOk l x y) = false := by simp
    have e2 : (parB l != parB l) = false := by simp
    clear C4 hb5 hR4 hU4 hV4 hF4 hB4
    obtain ⟨OK, hOK⟩ : ∃ OK, unionOk l x y = OK := ⟨_, rfl⟩
    have HOK := (show Hid _ from hOK)
    rw [hOK] at e1
    simp only [hOK]
    clear hOK
    go_wp2_with fail
    refine Calls.mono C5.out ?_
    rintro e w6 ⟨rfl, hb6⟩
    have hB6 := hB5.trans (hb6.mono hB5.size)
    have hR6 := hR5.keep hb6
    have hU6 := hU5.keep hb6
    have hF6 := hF5.keep hb6
    have hG6 := hG5.keep hb6
    have C6 := (show Hid _ from same5 hF6 hG6)
    clear C5 hb6 hR5 hU5 hV5 hF5 hG5 hB5
    go_wp2_with fail
    refine Calls.mono C6.out ?_
    rintro e w7 ⟨rfl, hb7⟩
    have hB7 := hB6.trans (hb7.mono hB6.size)
    have hR7 := hR6.keep hb7
    have hU7 := hU6.keep hb7
    have hF7 := hF6.keep hb7
    have C7 := (show Hid _ from implParents5 hR7)
    have C8 := (show Hid _ from specParents5 hR7)
    clear C6 hb7 hR6 hU6 hF6 hG6 hB6
    go_wp2_with fail
    refine Calls.mono C7.out ?_
    rintro e w8 ⟨rfl, rfl⟩
    go_wp2_with fail
    refine Calls.mono C8.out ?_
    rintro e w8 ⟨rfl, rfl⟩
    clear C7 C8
    cases OK
    case' false =>
      go_wp2_with fail
      obtain ⟨W, rfl⟩ : ∃ W, W = w8 := ⟨_, rfl⟩
      have hBW := hB7
      clear hB7 hU7 hF7 hR7
    case' true =>
      obtain ⟨g1, g2, g3, g4, g5, g6, g7, g8⟩ := HUf.out HOK.out
      have C9 := (show Hid _ from implFlat5 hU7)
      rw [g1] at C9
      go_wp2_with fail
      refine Calls.mono C9.out ?_
      rintro e w9 ⟨x9, rfl, hX9, hb9⟩
      have hB9 := hB7.trans (hb9.mono hB7.size)
      have hU9 := hU7.keep hb9
      have hF9 := hF7.keep hb9
      have C10 := (show Hid _ from implJoin5 hF9 x y)
      rw [g2] at C10
      clear C9 hb9 hB7 hU7 hF7 hR7
      go_wp2_with fail
      refine Calls.mono C10.out ?_
      rintro e w10 ⟨y10, rfl, hY10, hb10⟩
      have hB10 := hB9.trans (hb10.mono hB9.size)
      have hU10 := hU9.keep hb10
      have hX10 := hX9.keep hb10
      rw [← g3] at hY10
      have C11 := (show Hid _ from implFind5 hU10 x)
      have C12 := (show Hid _ from implFind5 hU10 y)
      rw [g4] at C11
      rw [g5, ← g6] at C12
      have C13 := (show Hid _ from same5 hX10 hY10)
      generalize findR (unionR l x y) x = FR at C11 C12
      generalize findS (unionR l x y) x = FS at C11 g7
      generalize findS (unionR l x y) y = FT at C12
      have g7' : ¬ FS < 0 := by omega
      have gR : (FR != FR) = false := by simp
      clear C10 hb10 hB9 hU9 hF9 hX9 g1 g2 g3 g4 g5 g6
      go_wp2_with fail
      refine Calls.mono C11.out ?_
      rintro e w11 ⟨rfl, rfl⟩
      go_wp2_with fail
      refine Calls.mono C12.out ?_
      rintro e w11 ⟨rfl, rfl⟩
      go_wp2_with fail
      refine Calls.mono C13.out ?_
      rintro e w13 ⟨rfl, hb13⟩
      have hB13 := hB10.trans (hb13.mono hB10.size)
      have hX13 := hX10.keep hb13
      have C14 := (show Hid _ from implParts5 hX13)
      rw [g8] at C14
      clear C11 C12 C13 hb13 hB10 hU10 hX10 hY10
      go_wp2_with fail
      refine Calls.mono C14.out ?_
      rintro e W ⟨rfl, rfl⟩
      have hBW := hB13
      clear C14 hB13 hX13 g7 g8
      go_wp2_with fail
      clear g7' gR
    all_goals
      refine Calls.mono (HE.out _ hBW) ?_
      rintro e w20 ⟨v, m, k, rfl, hM, hb20⟩
      have hB20 := hBW.trans (hb20.mono hBW.size)
      have D1 := (show Hid _ from implFind5 hM k)
      have D2 := (show Hid _ from specFind5 hM k)
      generalize findR m k = P1 at D1 D2
      generalize findS m k = P2 at D1 D2
      generalize findOk m k = P3 at D1 D2
      clear hb20 hBW hM
      go_wp2_with fail
      refine Calls.mono D1.out ?_
      rintro e w21 ⟨rfl, rfl⟩
      go_wp2_with fail
      refine Calls.mono D2.out ?_
      rintro e w21 ⟨rfl, rfl⟩
      have q1 : (P1 == P1) = true := by simp
      have q2 : (P2 == P2) = true := by simp
      have q3 : (P3 == P3) = true := by simp
      clear D1 D2
      go_wp2
      go_ret
      exact ⟨rfl, hB20⟩
  · have HB := (show Hid _ from big_yes a b len cap lb cb w hl ha.bound hb.bound)
    clear ha hb
    go_enter Try.func3, Try.ntmps3
    go_wp2_with fail
    refine Calls.mono HB.out ?_
    rintro e w0 ⟨rfl, rfl⟩
    go_wp2
    go_ret
    exact ⟨rfl, Below.refl _ _⟩
end Go.Proofs.Ytoaejodpklhmjaa
