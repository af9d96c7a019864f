/-
  PROVED HERE: what the model's ReadTerm and NodeCount answer, at every text. No other condition.
-/
import Derived.Test.YtbchehpggoampaaDoorTermAll
import Derived.Test.YtbchehpggoampaaDoorPlainRead
import Derived.Test.YtbchehpggoampaaDoorGood
namespace Go.Proofs.YtbchehpggoampaaDoor
open Go.ChangeShapes Go.WideShapes Go.ChangeAt Go.RowKit
set_option linter.unusedVariables false

theorem then_cases (s : List UInt8) (c : UInt8) (b : Bool) (p : Nat) (nn : List (Int × Int)) : (b = false ∧ thenB s c (b, p, nn) = (false, p, nn)) ∨ (b = true ∧ byteIs s p c = false ∧ thenB s c (b, p, nn) = (false, p, nn)) ∨ (b = true ∧ byteIs s p c = true ∧ thenB s c (b, p, nn) = (true, p + 1, nn)) := by
  unfold thenB
  cases b with
  | false => exact .inl ⟨rfl, by rw [if_neg (show ¬ false = true by decide)]⟩
  | true =>
    rw [if_pos rfl]
    cases hb : byteIs s p c with
    | false => exact .inr (.inl ⟨rfl, rfl, by simp⟩)
    | true => exact .inr (.inr ⟨rfl, rfl, by simp⟩)
theorem mterm_any (g : Nat) (s : ByteArray) (hs : s.size ≤ 1048000) : ∀ (f a : Nat) (out : List (Int × Int)), s.size < a + f → a ≤ s.size → out.length ≤ a → MReads 75 g s a out (readT s.data.toList f a out) := by
  intro f
  induction f with
  | zero => intro a out hf ha ho; omega
  | succ f ih =>
    intro a out hf ha ho
    have hsl : s.data.toList.length = s.size := size_list s
    by_cases hlt : a < s.size
    · have hat := at_list s a hlt
      obtain ⟨b, hb⟩ : ∃ b, s.data.toList.getD a 0 = b := ⟨_, rfl⟩
      have hsb : s[a] = b := by rw [← hat, hb]
      by_cases h126 : b = 126
      · have hp := part_ok s.data.toList f (a + 1) out (by omega) (by omega)
        rw [read_neg (by omega) (by rw [hb, h126])]
        exact term_neg g s a out hs ho hlt (by rw [hsb, h126]; rfl) _ (by omega) (ih (a + 1) out (by omega) (by omega) (by omega))
      by_cases h40 : b = 40
      · rw [read_open (by omega) (by rw [hb, h40])]
        have hb40 : (s[a]).toNat = 40 := by rw [hsb, h40]; rfl
        have I1 := ih (a + 1) out (by omega) (by omega) (by omega)
        have hp := part_ok s.data.toList f (a + 1) out (by omega) (by omega)
        unfold insideR
        simp only []
        generalize readT s.data.toList f (a + 1) out = R at I1 hp ⊢
        obtain ⟨b1, p, nn⟩ := R
        simp only at hp ⊢
        cases b1 with
        | false =>
          rw [if_pos rfl]
          exact term_open1 g s a out hs ho hlt hb40 _ rfl I1
        | true =>
          rw [if_neg (by decide)]
          cases hq : byteIs s.data.toList p 63 with
          | true =>
            rw [if_pos rfl]
            have hpl := (byteIs_iff hq).1
            have I2 := ih (p + 1) nn (by omega) (by omega) (by omega)
            have hp2 := part_ok s.data.toList f (p + 1) nn (by omega) (by omega)
            unfold sidesR
            simp only []
            generalize readT s.data.toList f (p + 1) nn = R2 at I2 hp2 ⊢
            obtain ⟨b2, p2, n2⟩ := R2
            simp only at hp2
            rcases then_cases s.data.toList 58 b2 p2 n2 with ⟨rfl, e⟩ | ⟨rfl, hc, e⟩ | ⟨rfl, hc, e⟩
            · rw [e, if_pos rfl]
              exact term_if1 g s a out hs ho hlt hb40 p nn I1 hq p2 n2 I2
            · rw [e, if_pos rfl]
              exact term_if2 g s a out hs ho hlt hb40 p nn I1 hq p2 n2 I2 hc
            · rw [e, if_neg (show ¬ true = false by decide)]
              have hpl2 := (byteIs_iff hc).1
              have I3 := ih (p2 + 1) n2 (by omega) (by omega) (by omega)
              have hp3 := part_ok s.data.toList f (p2 + 1) n2 (by omega) (by omega)
              unfold lastR
              simp only []
              generalize readT s.data.toList f (p2 + 1) n2 = R3 at I3 hp3 ⊢
              obtain ⟨b3, p3, n3⟩ := R3
              simp only at hp3
              rcases then_cases s.data.toList 41 b3 p3 n3 with ⟨rfl, e3⟩ | ⟨rfl, hd, e3⟩ | ⟨rfl, hd, e3⟩
              · rw [e3, if_pos rfl]
                exact term_if3 g s a out hs ho hlt hb40 p nn I1 hq p2 n2 I2 hc p3 n3 I3
              · rw [e3, if_pos rfl]
                exact term_if4 g s a out hs ho hlt hb40 p nn I1 hq p2 n2 I2 hc p3 n3 I3 hd
              · rw [e3, if_neg (show ¬ true = false by decide)]
                exact term_if5 g s a out hs ho hlt hb40 p nn I1 hq p2 n2 I2 hc p3 n3 I3 hd (by omega)
          | false =>
            rw [if_neg (by decide)]
            have hT := two_cases s.data.toList p (by omega)
            obtain ⟨T, hTe⟩ : ∃ T, twoR s.data.toList p = T := ⟨_, rfl⟩
            rw [hTe] at hT ⊢
            obtain ⟨op, at2⟩ := T
            simp only at hT ⊢
            by_cases h0 : op = 0
            · subst h0
              rw [if_pos rfl]
              exact term_two0 g s a out hs ho hlt hb40 p nn I1 hq (by omega) at2 hTe
            · rw [if_neg h0]
              rcases hT with ⟨e0, _⟩ | ⟨_, _, t3, t4, _⟩
              · exact absurd e0 h0
              have I2 := ih at2 nn (by omega) (by omega) (by omega)
              have hp2 := part_ok s.data.toList f at2 nn (by omega) (by omega)
              unfold lastR
              simp only []
              generalize readT s.data.toList f at2 nn = R2 at I2 hp2 ⊢
              obtain ⟨b2, p2, n2⟩ := R2
              simp only at hp2
              rcases then_cases s.data.toList 41 b2 p2 n2 with ⟨rfl, e⟩ | ⟨rfl, hc, e⟩ | ⟨rfl, hc, e⟩
              · rw [e, if_pos rfl]
                exact term_two1 g s a out hs ho hlt hb40 p nn I1 hq (by omega) op at2 h0 hTe p2 n2 I2
              · rw [e, if_pos rfl]
                exact term_two2 g s a out hs ho hlt hb40 p nn I1 hq (by omega) op at2 h0 hTe p2 n2 I2 hc
              · rw [e, if_neg (show ¬ true = false by decide)]
                exact term_two3 g s a out hs ho hlt hb40 p nn I1 hq (by omega) op at2 h0 hTe p2 n2 I2 hc (by omega)
      by_cases h45 : b = 45
      · rw [read_num (by omega) (by rw [hb, h45]; rfl)]
        exact term_minus g s a out hs ho hlt (by rw [hsb, h45]; rfl) _ (number_any g s a out (by omega) (by omega) hlt (by rw [hb, h45]; rfl))
      have n45 : ¬ b.toNat = 45 := fun e => h45 (UInt8.toNat_inj.1 e)
      cases hD : isD b with
      | true =>
        have hd : 48 ≤ b.toNat ∧ b.toNat ≤ 57 := of_decide_eq_true hD
        rw [read_num (by omega) (by rw [hb, hD]; rfl)]
        exact term_digit g s a out hs ho hlt (by rw [hsb]; exact hd) _ (number_any g s a out (by omega) (by omega) hlt (by rw [hb, hD]; rfl))
      | false =>
        have hd : ¬ (48 ≤ b.toNat ∧ b.toNat ≤ 57) := of_decide_eq_false hD
        by_cases hv : 97 ≤ b.toNat ∧ b.toNat < 101
        · rw [read_var (by omega) (by rw [hb]; exact hv), hb]
          intro W h
          exact term_var W g s a out h (by omega) (by omega) hlt (b.toNat - 97) (by omega) (by rw [hsb]; omega)
        · rw [read_bad (by omega) (by rw [hb, hD]; simpa using h45) (by rw [hb]; exact hv) (by rw [hb]; exact h126) (by rw [hb]; exact h40)]
          exact term_bad g s a out hs ho hlt (by rw [hsb]; exact hd) (by rw [hsb]; exact n45) (by rw [hsb]; exact hv) (by rw [hsb]; exact fun e => h126 (UInt8.toNat_inj.1 e)) (by rw [hsb]; exact fun e => h40 (UInt8.toNat_inj.1 e))
    · obtain rfl : a = s.size := by omega
      rw [read_end hsl.symm]
      exact term_end g s _ out hs ho rfl
theorem rdr_new (w : World) (s : ByteArray) : Rdr (w.alloc (.cells #[.string s, .int .i64 0, .slice none 0 0] 110)) w.heap.size s 0 [] := by
  refine ⟨by simp, by simp [go_sem], by simp [go_sem], ⟨_, by simp [go_sem], World.ownsRow_nil _ _ _ _⟩, by simp [go_sem], by simp [go_sem]⟩
set_option maxHeartbeats 2000000 in
set_option maxRecDepth 20000 in
theorem specReadTerm_any (s : ByteArray) (w : World) (hs : s.size ≤ 9223372036854775807) :
    Calls Tryd.prog 61 #[.string s] w fun e w' => ∃ v : Value, e = .returned (.tuple #[v, .int .i64 (readAt s.data.toList : Nat), .bool (readOk s.data.toList)]) ∧ w'.ownsRow w.heap.size 76 2 v (readL s.data.toList).length (flat (readL s.data.toList)) ∧ Below w.heap.size w w' := by
  have hsl : s.data.toList.length = s.size := size_list s
  by_cases hbig : 1200 < s.size
  · obtain ⟨r1, r2, r3⟩ := read_big (s := s.data.toList) (by omega)
    rw [r1, r2, r3]
    have i1 : (1200 : Int) < s.size := by omega
    clear r1 r2 r3
    go_enter Tryd.func61, Tryd.ntmps61
    go_wp2
    go_ret3
    exact ⟨_, rfl, World.ownsRow_nil _ _ _ _, Below.refl _ _⟩
  have i1 : ¬ (1200 : Int) < s.size := by omega
  have HQ : Hid (Calls Tryd.prog 75 #[.pointer (some ⟨w.heap.size, 0, none⟩)] (w.alloc (.cells #[.string s, .int .i64 0, .slice none 0 0] 110)) fun e w' => e = .returned (.bool (rdR s.data.toList).1) ∧ Rdr w' w.heap.size s (rdR s.data.toList).2.1 (rdR s.data.toList).2.2 ∧ Below w.heap.size (w.alloc (.cells #[.string s, .int .i64 0, .slice none 0 0] 110)) w') := by
    have := mterm_any w.heap.size s (by omega) (s.size + 1) 0 [] (by omega) (by omega) (Nat.le_refl _) _ (rdr_new w s)
    unfold rdR
    rw [hsl]
    exact this
  have HRd : Hid ((rdR s.data.toList).2.1 ≤ s.size) := by have := (rdR_ok s.data.toList).2.1; rw [hsl] at this; exact this
  have HGo : Hid (((rdR s.data.toList).1 = true ∧ (rdR s.data.toList).2.1 = s.size) → goodB (rdR s.data.toList).2.2 = decide ((rdR s.data.toList).2.2.length ≤ 40)) := fun h => (rdR_tm h.1 (by rw [hsl]; exact h.2)).good
  have R0 : Hid (¬ ((rdR s.data.toList).1 = true ∧ (rdR s.data.toList).2.1 = s.size) → readOk s.data.toList = false ∧ readAt s.data.toList = (rdR s.data.toList).2.1 ∧ readL s.data.toList = []) := fun h => read_fail (by omega) (by rw [hsl]; exact h)
  have R1 : Hid (((rdR s.data.toList).1 = true ∧ (rdR s.data.toList).2.1 = s.size) → 40 < (rdR s.data.toList).2.2.length → readOk s.data.toList = false ∧ readAt s.data.toList = 0 ∧ readL s.data.toList = []) := fun h h' => read_many (by omega) (by rw [hsl]; exact h) h'
  have R2 : Hid (((rdR s.data.toList).1 = true ∧ (rdR s.data.toList).2.1 = s.size) → (rdR s.data.toList).2.2.length ≤ 40 → readOk s.data.toList = true ∧ readAt s.data.toList = s.size ∧ readL s.data.toList = (rdR s.data.toList).2.2) := fun h h' => by have := read_good (s := s.data.toList) (by omega) (by rw [hsl]; exact h) h'; rw [hsl] at this; exact this
  have HLn : Hid ((rdR s.data.toList).2.2.length ≤ 1048576) := by
    have := (rdR_ok s.data.toList).2.2.1
    have := HRd.out
    show _ ≤ _
    simp at *
    omega
  obtain ⟨R, hR⟩ : ∃ R, rdR s.data.toList = R := ⟨_, rfl⟩
  rw [hR] at HQ HRd R0 R1 R2 HLn HGo
  clear hR
  generalize readOk s.data.toList = OK at R0 R1 R2 ⊢
  generalize readAt s.data.toList = AT at R0 R1 R2 ⊢
  generalize readL s.data.toList = LL at R0 R1 R2 ⊢
  obtain ⟨b, at1, nn⟩ := R
  simp only at R0 R1 R2 HRd HLn HQ HGo
  clear hsl
  have hB0 : Below w.heap.size w (w.alloc (.cells #[.string s, .int .i64 0, .slice none 0 0] 110)) := (Below.refl _ _).alloc (Nat.le_refl _) _
  have HB0 := (show Hid _ from hB0)
  clear hB0
  by_cases hok : b = true ∧ at1 = s.size
  · obtain ⟨rfl, rfl⟩ := hok
    have hgo := HGo.out ⟨rfl, rfl⟩
    by_cases h40 : 40 < nn.length
    · obtain ⟨r1, r2, r3⟩ := R1.out ⟨rfl, rfl⟩ h40
      rw [r1, r2, r3]
      rw [decide_eq_false (by omega)] at hgo
      clear R0 R1 R2 r1 r2 r3
      go_enter Tryd.func61, Tryd.ntmps61
      go_wp2_with fail
      refine Calls.mono HQ.out ?_
      rintro e w1 ⟨rfl, hR1, hb1⟩
      have hB1 := HB0.out.trans hb1
      have d1 := hR1.c1
      obtain ⟨v, c2, hown⟩ := hR1.row
      obtain ⟨po, cp, rfl, hns⟩ := NSl.row hown
      have HG := (show Hid _ from specGood_any po nn.length cp nn w1 hns (by have := HLn.out; omega))
      rw [hgo] at HG
      clear HQ HB0 hgo hns hown hR1
      go_wp2_with fail
      refine Calls.mono HG.out ?_
      rintro e w2 ⟨rfl, hb2⟩
      have hB2 := hB1.trans (hb2.mono hB1.size)
      clear HG
      go_wp2
      go_ret3
      exact ⟨_, rfl, World.ownsRow_nil _ _ _ _, hB2⟩
    · obtain ⟨r1, r2, r3⟩ := R2.out ⟨rfl, rfl⟩ (by omega)
      rw [r1, r2, r3]
      rw [decide_eq_true (by omega)] at hgo
      clear R0 R1 R2 r1 r2 r3
      go_enter Tryd.func61, Tryd.ntmps61
      go_wp2_with fail
      refine Calls.mono HQ.out ?_
      rintro e w1 ⟨rfl, hR1, hb1⟩
      have hB1 := HB0.out.trans hb1
      have d1 := hR1.c1
      have hlt1 := hR1.lt
      obtain ⟨v, c2, hown⟩ := hR1.row
      obtain ⟨po, cp, rfl, hns⟩ := NSl.row hown
      have HG := (show Hid _ from specGood_any po nn.length cp nn w1 hns (by have := HLn.out; omega))
      rw [hgo] at HG
      have HO := (show Hid _ from hown)
      clear HQ HB0 hgo hns hR1 hown
      go_wp2_with fail
      refine Calls.mono HG.out ?_
      rintro e w2 ⟨rfl, hb2⟩
      have hB2 := hB1.trans (hb2.mono hB1.size)
      have d2 := (hb2.cell (p := ⟨w.heap.size, 2, none⟩) hlt1).trans c2
      have HO2 := (show Hid _ from own_keep HO.out hb2)
      clear HG HO
      go_wp2
      go_ret3
      exact ⟨_, rfl, own_base HO2.out (by omega), hB2⟩
  · obtain ⟨r1, r2, r3⟩ := R0.out hok
    rw [r1, r2, r3]
    clear R0 R1 R2 r1 r2 r3 HGo
    cases b with
    | false =>
      clear hok
      go_enter Tryd.func61, Tryd.ntmps61
      go_wp2_with fail
      refine Calls.mono HQ.out ?_
      rintro e w1 ⟨rfl, hR1, hb1⟩
      have hB1 := HB0.out.trans hb1
      have d1 := hR1.c1
      clear HQ HB0
      go_wp2_with fail
      go_quiet (fail)
      go_wp2
      go_ret3
      exact ⟨_, rfl, World.ownsRow_nil _ _ _ _, hB1.trans (below_drewN _ _)⟩
    | true =>
      have hne : ¬ at1 = s.size := fun e => hok ⟨rfl, e⟩
      have hlt : (at1 : Int) < s.size := by have := HRd.out; omega
      clear hok hne
      go_enter Tryd.func61, Tryd.ntmps61
      go_wp2_with fail
      refine Calls.mono HQ.out ?_
      rintro e w1 ⟨rfl, hR1, hb1⟩
      have hB1 := HB0.out.trans hb1
      have d1 := hR1.c1
      clear HQ HB0
      go_wp2_with fail
      go_quiet (fail)
      go_wp2
      go_ret3
      exact ⟨_, rfl, World.ownsRow_nil _ _ _ _, hB1.trans (below_drewN _ _)⟩
end Go.Proofs.YtbchehpggoampaaDoor
