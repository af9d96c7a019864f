/-
  PROVED HERE: what the model's ReadTerm and NodeCount answer, at every text. No other condition. plain facts on the marks of a text: which pieces of it are read as one. No condition. how the program's reader lies in memory; what its small steps do. No other condition. the program's reading of a variable. No other condition.
-/
import Derived.Test.YtkadanagmahhgaaGreatDoorRun11
import Derived.Test.YtkadanagmahhgaaGreatDoorRun1
import Derived.Test.YtkadanagmahhgaaGreatDoorRun9
import Derived.Laws.RangeAny
import Derived.Test.YtkadanagmahhgaaGreatDoorRun7
import Derived.Test.YtkadanagmahhgaaGreatDoorRun8
import Derived.Deep.RegionHeld3
import Derived.LoopN
namespace Go.Proofs.YtkadanagmahhgaaGreatDoor
open Go.ChangeShapes Go.WideShapes Go.ChangeAt Go.RowKit
set_option linter.unusedVariables false

theorem then_cases (s : List UInt8) (c : UInt8) (b : Bool) (p : Nat) (nn : List (Int × Int)) : (b = false ∧ thenB s c (b, p, nn) = (false, p, nn)) ∨ (b = true ∧ byteIs s p c = false ∧ thenB s c (b, p, nn) = (false, p, nn)) ∨ (b = true ∧ byteIs s p c = true ∧ thenB s c (b, p, nn) = (true, p + 1, nn)) := by
  unfold thenB
  cases b with
  | false => exact .inl ⟨rfl, by rw [if_neg (show ¬ false = true by decide)]⟩
  | true =>
    rw [if_pos rfl]
    cases hb : byteIs s p c with
    | false => exact .inr (.inl ⟨rfl, rfl, by simp⟩)
    | true => exact .inr (.inr ⟨rfl, rfl, by simp⟩)
theorem mterm_any (g : Nat) (s : ByteArray) (hs : s.size ≤ 1048000) : ∀ (f a : Nat) (out : List (Int × Int)), s.size < a + f → a ≤ s.size → out.length ≤ a → MReads 102 g s a out (readT s.data.toList f a out) := by
  intro f
  induction f with
  | zero => intro a out hf ha ho; omega
  | succ f ih =>
    intro a out hf ha ho
    have hsl : s.data.toList.length = s.size := size_list s
    by_cases hlt : a < s.size
    · have hat := at_list s a hlt
      obtain ⟨b, hb⟩ : ∃ b, s.data.toList.getD a 0 = b := ⟨_, rfl⟩
      have hsb : s[a] = b := by rw [← hat, hb]
      by_cases h126 : b = 126
      · have hp := part_ok s.data.toList f (a + 1) out (by omega) (by omega)
        rw [read_neg (by omega) (by rw [hb, h126])]
        exact term_neg g s a out hs ho hlt (by rw [hsb, h126]; rfl) _ (by omega) (ih (a + 1) out (by omega) (by omega) (by omega))
      by_cases h40 : b = 40
      · rw [read_open (by omega) (by rw [hb, h40])]
        have hb40 : (s[a]).toNat = 40 := by rw [hsb, h40]; rfl
        have I1 := ih (a + 1) out (by omega) (by omega) (by omega)
        have hp := part_ok s.data.toList f (a + 1) out (by omega) (by omega)
        unfold insideR
        simp only []
        generalize readT s.data.toList f (a + 1) out = R at I1 hp ⊢
        obtain ⟨b1, p, nn⟩ := R
        simp only at hp ⊢
        cases b1 with
        | false =>
          rw [if_pos rfl]
          exact term_open1 g s a out hs ho hlt hb40 _ rfl I1
        | true =>
          rw [if_neg (by decide)]
          cases hq : byteIs s.data.toList p 63 with
          | true =>
            rw [if_pos rfl]
            have hpl := (byteIs_iff hq).1
            have I2 := ih (p + 1) nn (by omega) (by omega) (by omega)
            have hp2 := part_ok s.data.toList f (p + 1) nn (by omega) (by omega)
            unfold sidesR
            simp only []
            generalize readT s.data.toList f (p + 1) nn = R2 at I2 hp2 ⊢
            obtain ⟨b2, p2, n2⟩ := R2
            simp only at hp2
            rcases then_cases s.data.toList 58 b2 p2 n2 with ⟨rfl, e⟩ | ⟨rfl, hc, e⟩ | ⟨rfl, hc, e⟩
            · rw [e, if_pos rfl]
              exact term_if1 g s a out hs ho hlt hb40 p nn I1 hq p2 n2 I2
            · rw [e, if_pos rfl]
              exact term_if2 g s a out hs ho hlt hb40 p nn I1 hq p2 n2 I2 hc
            · rw [e, if_neg (show ¬ true = false by decide)]
              have hpl2 := (byteIs_iff hc).1
              have I3 := ih (p2 + 1) n2 (by omega) (by omega) (by omega)
              have hp3 := part_ok s.data.toList f (p2 + 1) n2 (by omega) (by omega)
              unfold lastR
              simp only []
              generalize readT s.data.toList f (p2 + 1) n2 = R3 at I3 hp3 ⊢
              obtain ⟨b3, p3, n3⟩ := R3
              simp only at hp3
              rcases then_cases s.data.toList 41 b3 p3 n3 with ⟨rfl, e3⟩ | ⟨rfl, hd, e3⟩ | ⟨rfl, hd, e3⟩
              · rw [e3, if_pos rfl]
                exact term_if3 g s a out hs ho hlt hb40 p nn I1 hq p2 n2 I2 hc p3 n3 I3
              · rw [e3, if_pos rfl]
                exact term_if4 g s a out hs ho hlt hb40 p nn I1 hq p2 n2 I2 hc p3 n3 I3 hd
              · rw [e3, if_neg (show ¬ true = false by decide)]
                exact term_if5 g s a out hs ho hlt hb40 p nn I1 hq p2 n2 I2 hc p3 n3 I3 hd (by omega)
          | false =>
            rw [if_neg (by decide)]
            have hT := two_cases s.data.toList p (by omega)
            obtain ⟨T, hTe⟩ : ∃ T, twoR s.data.toList p = T := ⟨_, rfl⟩
            rw [hTe] at hT ⊢
            obtain ⟨op, at2⟩ := T
            simp only at hT ⊢
            by_cases h0 : op = 0
            · subst h0
              rw [if_pos rfl]
              exact term_two0 g s a out hs ho hlt hb40 p nn I1 hq (by omega) at2 hTe
            · rw [if_neg h0]
              rcases hT with ⟨e0, _⟩ | ⟨_, _, t3, t4, _⟩
              · exact absurd e0 h0
              have I2 := ih at2 nn (by omega) (by omega) (by omega)
              have hp2 := part_ok s.data.toList f at2 nn (by omega) (by omega)
              unfold lastR
              simp only []
              generalize readT s.data.toList f at2 nn = R2 at I2 hp2 ⊢
              obtain ⟨b2, p2, n2⟩ := R2
              simp only at hp2
              rcases then_cases s.data.toList 41 b2 p2 n2 with ⟨rfl, e⟩ | ⟨rfl, hc, e⟩ | ⟨rfl, hc, e⟩
              · rw [e, if_pos rfl]
                exact term_two1 g s a out hs ho hlt hb40 p nn I1 hq (by omega) op at2 h0 hTe p2 n2 I2
              · rw [e, if_pos rfl]
                exact term_two2 g s a out hs ho hlt hb40 p nn I1 hq (by omega) op at2 h0 hTe p2 n2 I2 hc
              · rw [e, if_neg (show ¬ true = false by decide)]
                exact term_two3 g s a out hs ho hlt hb40 p nn I1 hq (by omega) op at2 h0 hTe p2 n2 I2 hc (by omega)
      by_cases h45 : b = 45
      · rw [read_num (by omega) (by rw [hb, h45]; rfl)]
        exact term_minus g s a out hs ho hlt (by rw [hsb, h45]; rfl) _ (number_any g s a out (by omega) (by omega) hlt (by rw [hb, h45]; rfl))
      have n45 : ¬ b.toNat = 45 := fun e => h45 (UInt8.toNat_inj.1 e)
      cases hD : isD b with
      | true =>
        have hd : 48 ≤ b.toNat ∧ b.toNat ≤ 57 := of_decide_eq_true hD
        rw [read_num (by omega) (by rw [hb, hD]; rfl)]
        exact term_digit g s a out hs ho hlt (by rw [hsb]; exact hd) _ (number_any g s a out (by omega) (by omega) hlt (by rw [hb, hD]; rfl))
      | false =>
        have hd : ¬ (48 ≤ b.toNat ∧ b.toNat ≤ 57) := of_decide_eq_false hD
        by_cases hv : 97 ≤ b.toNat ∧ b.toNat < 101
        · rw [read_var (by omega) (by rw [hb]; exact hv), hb]
          intro W h
          exact term_var W g s a out h (by omega) (by omega) hlt (b.toNat - 97) (by omega) (by rw [hsb]; omega)
        · rw [read_bad (by omega) (by rw [hb, hD]; simpa using h45) (by rw [hb]; exact hv) (by rw [hb]; exact h126) (by rw [hb]; exact h40)]
          exact term_bad g s a out hs ho hlt (by rw [hsb]; exact hd) (by rw [hsb]; exact n45) (by rw [hsb]; exact hv) (by rw [hsb]; exact fun e => h126 (UInt8.toNat_inj.1 e)) (by rw [hsb]; exact fun e => h40 (UInt8.toNat_inj.1 e))
    · obtain rfl : a = s.size := by omega
      rw [read_end hsl.symm]
      exact term_end g s _ out hs ho rfl
theorem rdr_new (w : World) (s : ByteArray) : Rdr (w.alloc (.cells #[.string s, .int .i64 0, .slice none 0 0] 140)) w.heap.size s 0 [] := by
  refine ⟨by simp, by simp [go_sem], by simp [go_sem], ⟨_, by simp [go_sem], World.ownsRow_nil _ _ _ _⟩, by simp [go_sem], by simp [go_sem]⟩
set_option maxHeartbeats 2000000 in
set_option maxRecDepth 20000 in
theorem specReadTerm_any (s : ByteArray) (w : World) (hs : s.size ≤ 9223372036854775807) :
    Calls Tryz.prog 60 #[.string s] w fun e w' => ∃ v : Value, e = .returned (.tuple #[v, .int .i64 (readAt s.data.toList : Nat), .bool (readOk s.data.toList)]) ∧ w'.ownsRow w.heap.size 66 2 v (readL s.data.toList).length (flat (readL s.data.toList)) ∧ Below w.heap.size w w' := by
  have hsl : s.data.toList.length = s.size := size_list s
  by_cases hbig : 1200 < s.size
  · obtain ⟨r1, r2, r3⟩ := read_big (s := s.data.toList) (by omega)
    rw [r1, r2, r3]
    have i1 : (1200 : Int) < s.size := by omega
    clear r1 r2 r3
    go_enter Tryz.func60, Tryz.ntmps60
    go_wp2
    go_ret3
    exact ⟨_, rfl, World.ownsRow_nil _ _ _ _, Below.refl _ _⟩
  have i1 : ¬ (1200 : Int) < s.size := by omega
  have HQ : Hid (Calls Tryz.prog 102 #[.pointer (some ⟨w.heap.size, 0, none⟩)] (w.alloc (.cells #[.string s, .int .i64 0, .slice none 0 0] 140)) fun e w' => e = .returned (.bool (rdR s.data.toList).1) ∧ Rdr w' w.heap.size s (rdR s.data.toList).2.1 (rdR s.data.toList).2.2 ∧ Below w.heap.size (w.alloc (.cells #[.string s, .int .i64 0, .slice none 0 0] 140)) w') := by
    have := mterm_any w.heap.size s (by omega) (s.size + 1) 0 [] (by omega) (by omega) (Nat.le_refl _) _ (rdr_new w s)
    unfold rdR
    rw [hsl]
    exact this
  have HRd : Hid ((rdR s.data.toList).2.1 ≤ s.size) := by have := (rdR_ok s.data.toList).2.1; rw [hsl] at this; exact this
  have HGo : Hid (((rdR s.data.toList).1 = true ∧ (rdR s.data.toList).2.1 = s.size) → goodB (rdR s.data.toList).2.2 = decide ((rdR s.data.toList).2.2.length ≤ 40)) := fun h => (rdR_tm h.1 (by rw [hsl]; exact h.2)).good
  have R0 : Hid (¬ ((rdR s.data.toList).1 = true ∧ (rdR s.data.toList).2.1 = s.size) → readOk s.data.toList = false ∧ readAt s.data.toList = (rdR s.data.toList).2.1 ∧ readL s.data.toList = []) := fun h => read_fail (by omega) (by rw [hsl]; exact h)
  have R1 : Hid (((rdR s.data.toList).1 = true ∧ (rdR s.data.toList).2.1 = s.size) → 40 < (rdR s.data.toList).2.2.length → readOk s.data.toList = false ∧ readAt s.data.toList = 0 ∧ readL s.data.toList = []) := fun h h' => read_many (by omega) (by rw [hsl]; exact h) h'
  have R2 : Hid (((rdR s.data.toList).1 = true ∧ (rdR s.data.toList).2.1 = s.size) → (rdR s.data.toList).2.2.length ≤ 40 → readOk s.data.toList = true ∧ readAt s.data.toList = s.size ∧ readL s.data.toList = (rdR s.data.toList).2.2) := fun h h' => by have := read_good (s := s.data.toList) (by omega) (by rw [hsl]; exact h) h'; rw [hsl] at this; exact this
  have HLn : Hid ((rdR s.data.toList).2.2.length ≤ 1048576) := by
    have := (rdR_ok s.data.toList).2.2.1
    have := HRd.out
    show _ ≤ _
    simp at *
    omega
  obtain ⟨R, hR⟩ : ∃ R, rdR s.data.toList = R := ⟨_, rfl⟩
  rw [hR] at HQ HRd R0 R1 R2 HLn HGo
  clear hR
  generalize readOk s.data.toList = OK at R0 R1 R2 ⊢
  generalize readAt s.data.toList = AT at R0 R1 R2 ⊢
  generalize readL s.data.toList = LL at R0 R1 R2 ⊢
  obtain ⟨b, at1, nn⟩ := R
  simp only at R0 R1 R2 HRd HLn HQ HGo
  clear hsl
  have hB0 : Below w.heap.size w (w.alloc (.cells #[.string s, .int .i64 0, .slice none 0 0] 140)) := (Below.refl _ _).alloc (Nat.le_refl _) _
  have HB0 := (show Hid _ from hB0)
  clear hB0
  by_cases hok : b = true ∧ at1 = s.size
  · obtain ⟨rfl, rfl⟩ := hok
    have hgo := HGo.out ⟨rfl, rfl⟩
    by_cases h40 : 40 < nn.length
    · obtain ⟨r1, r2, r3⟩ := R1.out ⟨rfl, rfl⟩ h40
      rw [r1, r2, r3]
      rw [decide_eq_false (by omega)] at hgo
      clear R0 R1 R2 r1 r2 r3
      go_enter Tryz.func60, Tryz.ntmps60
      go_wp2_with fail
      refine Calls.mono HQ.out ?_
      rintro e w1 ⟨rfl, hR1, hb1⟩
      have hB1 := HB0.out.trans hb1
      have d1 := hR1.c1
      obtain ⟨v, c2, hown⟩ := hR1.row
      obtain ⟨po, cp, rfl, hns⟩ := NSl.row hown
      have HG := (show Hid _ from specGood_any po nn.length cp nn w1 hns (by have := HLn.out; omega))
      rw [hgo] at HG
      clear HQ HB0 hgo hns hown hR1
      go_wp2_with fail
      refine Calls.mono HG.out ?_
      rintro e w2 ⟨rfl, hb2⟩
      have hB2 := hB1.trans (hb2.mono hB1.size)
      clear HG
      go_wp2
      go_ret3
      exact ⟨_, rfl, World.ownsRow_nil _ _ _ _, hB2⟩
    · obtain ⟨r1, r2, r3⟩ := R2.out ⟨rfl, rfl⟩ (by omega)
      rw [r1, r2, r3]
      rw [decide_eq_true (by omega)] at hgo
      clear R0 R1 R2 r1 r2 r3
      go_enter Tryz.func60, Tryz.ntmps60
      go_wp2_with fail
      refine Calls.mono HQ.out ?_
      rintro e w1 ⟨rfl, hR1, hb1⟩
      have hB1 := HB0.out.trans hb1
      have d1 := hR1.c1
      have hlt1 := hR1.lt
      obtain ⟨v, c2, hown⟩ := hR1.row
      obtain ⟨po, cp, rfl, hns⟩ := NSl.row hown
      have HG := (show Hid _ from specGood_any po nn.length cp nn w1 hns (by have := HLn.out; omega))
      rw [hgo] at HG
      have HO := (show Hid _ from hown)
      clear HQ HB0 hgo hns hR1 hown
      go_wp2_with fail
      refine Calls.mono HG.out ?_
      rintro e w2 ⟨rfl, hb2⟩
      have hB2 := hB1.trans (hb2.mono hB1.size)
      have d2 := (hb2.cell (p := ⟨w.heap.size, 2, none⟩) hlt1).trans c2
      have HO2 := (show Hid _ from own_keep HO.out hb2)
      clear HG HO
      go_wp2
      go_ret3
      exact ⟨_, rfl, own_base HO2.out (by omega), hB2⟩
  · obtain ⟨r1, r2, r3⟩ := R0.out hok
    rw [r1, r2, r3]
    clear R0 R1 R2 r1 r2 r3 HGo
    cases b with
    | false =>
      clear hok
      go_enter Tryz.func60, Tryz.ntmps60
      go_wp2_with fail
      refine Calls.mono HQ.out ?_
      rintro e w1 ⟨rfl, hR1, hb1⟩
      have hB1 := HB0.out.trans hb1
      have d1 := hR1.c1
      clear HQ HB0
      go_wp2_with fail
      go_quiet (fail)
      go_wp2
      go_ret3
      exact ⟨_, rfl, World.ownsRow_nil _ _ _ _, hB1.trans (below_drewN _ _)⟩
    | true =>
      have hne : ¬ at1 = s.size := fun e => hok ⟨rfl, e⟩
      have hlt : (at1 : Int) < s.size := by have := HRd.out; omega
      clear hok hne
      go_enter Tryz.func60, Tryz.ntmps60
      go_wp2_with fail
      refine Calls.mono HQ.out ?_
      rintro e w1 ⟨rfl, hR1, hb1⟩
      have hB1 := HB0.out.trans hb1
      have d1 := hR1.c1
      clear HQ HB0
      go_wp2_with fail
      go_quiet (fail)
      go_wp2
      go_ret3
      exact ⟨_, rfl, World.ownsRow_nil _ _ _ _, hB1.trans (below_drewN _ _)⟩
end Go.Proofs.YtkadanagmahhgaaGreatDoor
namespace Go.Proofs.YtkadanagmahhgaaGreatDoor
set_option linter.unusedVariables false

/-- Where the mark behind the one at a begins. -/
def nextAt (s : List UInt8) (a : Nat) : Nat := if isD (s.getD a 0) = true then digEnd s a else a + 1
/-- The marks of a text from a place on: a place and what stands there; -1 at the end; behind what is no ASCII anything may follow. -/
def MkAt (s : List UInt8) : List (Int × Int) → Nat → Prop
  | [], _ => False
  | (x, c) :: rest, a => x = (a : Int) ∧ ((a = s.length ∧ c = -1 ∧ rest = []) ∨ (a < s.length ∧ 128 ≤ (s.getD a 0).toNat ∧ 128 ≤ c) ∨ (a < s.length ∧ (s.getD a 0).toNat < 128 ∧ c = ((s.getD a 0).toNat : Int) ∧ MkAt s rest (nextAt s a)))
theorem MkAt.fin {s : List UInt8} : MkAt s [((s.length : Int), -1)] s.length := ⟨rfl, .inl ⟨rfl, rfl, rfl⟩⟩
theorem MkAt.high {s : List UInt8} (a : Nat) (c : Int) (rest : List (Int × Int)) (h1 : a < s.length) (h2 : 128 ≤ (s.getD a 0).toNat) (h3 : 128 ≤ c) : MkAt s (((a : Int), c) :: rest) a := ⟨rfl, .inr (.inl ⟨h1, h2, h3⟩)⟩
theorem MkAt.low {s : List UInt8} (a : Nat) (rest : List (Int × Int)) (h1 : a < s.length) (h2 : (s.getD a 0).toNat < 128) (h3 : MkAt s rest (nextAt s a)) : MkAt s (((a : Int), ((s.getD a 0).toNat : Int)) :: rest) a := ⟨rfl, .inr (.inr ⟨h1, h2, rfl, h3⟩)⟩
theorem MkAt.head {s : List UInt8} {M : List (Int × Int)} {a : Nat} (h : MkAt s M a) : ∃ c rest, M = ((a : Int), c) :: rest ∧ a ≤ s.length ∧ (a = s.length → c = -1) ∧ (a < s.length → 0 ≤ c ∧ ((s.getD a 0).toNat < 128 → c = (s.getD a 0).toNat ∧ MkAt s rest (nextAt s a)) ∧ (128 ≤ (s.getD a 0).toNat → 128 ≤ c)) := by
  match M, h with
  | (x, c) :: rest, ⟨hx, h⟩ =>
    subst hx
    rcases h with ⟨h1, h2, h3⟩ | ⟨h1, h2, h3⟩ | ⟨h1, h2, h3, h4⟩
    · exact ⟨c, rest, rfl, by omega, fun _ => h2, fun h => by omega⟩
    · exact ⟨c, rest, rfl, by omega, fun h => by omega, fun _ => ⟨by omega, fun h => by omega, fun _ => h3⟩⟩
    · exact ⟨c, rest, rfl, by omega, fun h => by omega, fun _ => ⟨by omega, fun _ => ⟨h3, h4⟩, fun h => by omega⟩⟩
/-- What a byte is to a mark: the mark at a is the byte b (ASCII) just where b stands there. -/
theorem MkAt.is {s : List UInt8} {M : List (Int × Int)} {a : Nat} (h : MkAt s M a) (b : UInt8) (hb : b.toNat < 128) : ((M.getD 0 (0, 0)).2 == (b.toNat : Int)) = byteIs s a b := by
  obtain ⟨c, rest, rfl, h1, h2, h3⟩ := h.head
  show (c == (b.toNat : Int)) = _
  unfold byteIs
  by_cases ha : a < s.length
  · rw [decide_eq_true ha, Bool.true_and]
    obtain ⟨h4, h5, h6⟩ := h3 ha
    by_cases hl : (s.getD a 0).toNat < 128
    · rw [(h5 hl).1]
      by_cases e : s.getD a 0 = b
      · rw [e]; simp
      · have : ¬ (s.getD a 0).toNat = b.toNat := fun e' => e (UInt8.toNat_inj.1 e')
        rw [beq_eq_false_iff_ne.2 e, beq_eq_false_iff_ne]; omega
    · have h7 := h6 (by omega)
      have : ¬ s.getD a 0 = b := fun e => by rw [e] at hl; omega
      rw [beq_eq_false_iff_ne.2 this, beq_eq_false_iff_ne]; omega
  · rw [decide_eq_false ha, h2 (by omega), Bool.false_and, beq_eq_false_iff_ne]; omega
/-- Behind a byte that is no digit. -/
theorem MkAt.next {s : List UInt8} {M : List (Int × Int)} {a : Nat} (h : MkAt s M a) (b : UInt8) (hb : b.toNat < 128) (hd : isD b = false) (he : byteIs s a b = true) : MkAt s (M.drop 1) (a + 1) := by
  obtain ⟨c, rest, rfl, h1, h2, h3⟩ := h.head
  obtain ⟨ha, e⟩ := byteIs_iff he
  obtain ⟨_, h5⟩ := (h3 ha).2.1 (by rw [e]; exact hb)
  unfold nextAt at h5
  rw [e, hd, if_neg (by decide)] at h5
  exact h5
/-- The mark at a is a digit just where one stands there. -/
theorem MkAt.dig {s : List UInt8} {M : List (Int × Int)} {a : Nat} (h : MkAt s M a) : (decide (48 ≤ (M.getD 0 (0, 0)).2) && decide ((M.getD 0 (0, 0)).2 ≤ 57)) = isD (s.getD a 0) := by
  obtain ⟨c, rest, rfl, h1, h2, h3⟩ := h.head
  show (decide (48 ≤ c) && decide (c ≤ 57)) = _
  by_cases ha : a < s.length
  · obtain ⟨h4, h5, h6⟩ := h3 ha
    unfold isD
    by_cases hl : (s.getD a 0).toNat < 128
    · rw [(h5 hl).1]
      by_cases e1 : 48 ≤ (s.getD a 0).toNat
      · by_cases e2 : (s.getD a 0).toNat ≤ 57
        · rw [decide_eq_true (show 48 ≤ ((s.getD a 0).toNat : Int) by omega), decide_eq_true (show ((s.getD a 0).toNat : Int) ≤ 57 by omega), decide_eq_true ⟨e1, e2⟩]; rfl
        · rw [decide_eq_false (show ¬ ((s.getD a 0).toNat : Int) ≤ 57 by omega), decide_eq_false (show ¬ (48 ≤ (s.getD a 0).toNat ∧ (s.getD a 0).toNat ≤ 57) by omega)]; exact Bool.and_false _
      · rw [decide_eq_false (show ¬ 48 ≤ ((s.getD a 0).toNat : Int) by omega), decide_eq_false (show ¬ (48 ≤ (s.getD a 0).toNat ∧ (s.getD a 0).toNat ≤ 57) by omega)]; rfl
    · have h7 := h6 (by omega)
      rw [decide_eq_false (show ¬ c ≤ 57 by omega), decide_eq_false (show ¬ (48 ≤ (s.getD a 0).toNat ∧ (s.getD a 0).toNat ≤ 57) by omega)]; exact Bool.and_false _
  · rw [h2 (by omega), List.getD_eq_getElem?_getD, List.getElem?_eq_none (by omega)]; rfl
theorem MkAt.nextDig {s : List UInt8} {M : List (Int × Int)} {a : Nat} (h : MkAt s M a) (hd : isD (s.getD a 0) = true) : MkAt s (M.drop 1) (digEnd s a) := by
  obtain ⟨c, rest, rfl, h1, h2, h3⟩ := h.head
  have hb : 48 ≤ (s.getD a 0).toNat ∧ (s.getD a 0).toNat ≤ 57 := of_decide_eq_true hd
  have ha : a < s.length := by
    rcases Nat.lt_or_ge a s.length with h | h
    · exact h
    · rw [List.getD_eq_getElem?_getD, List.getElem?_eq_none h] at hd; exact absurd (show isD 0 = true from hd) (by decide)
  obtain ⟨_, h5⟩ := (h3 ha).2.1 (by omega)
  unfold nextAt at h5
  rw [if_pos hd] at h5
  exact h5
theorem MkAt.at {s : List UInt8} {M : List (Int × Int)} {a : Nat} (h : MkAt s M a) : (M.getD 0 (0, 0)).1 = a ∧ 0 < M.length := by
  obtain ⟨c, rest, rfl, _⟩ := h.head
  exact ⟨rfl, by simp⟩
theorem MkAt.end {s : List UInt8} {M : List (Int × Int)} {a : Nat} (h : MkAt s M a) : ((M.getD 0 (0, 0)).2 == -1) = decide (a = s.length) := by
  obtain ⟨c, rest, rfl, h1, h2, h3⟩ := h.head
  show (c == -1) = _
  by_cases ha : a = s.length
  · rw [h2 ha, decide_eq_true ha]; rfl
  · have := (h3 (by omega)).1
    rw [decide_eq_false ha, beq_eq_false_iff_ne]; omega
theorem MkAt.le {s : List UInt8} {M : List (Int × Int)} {a : Nat} (h : MkAt s M a) : a ≤ s.length := by
  obtain ⟨c, rest, rfl, h1, _⟩ := h.head
  exact h1

/-- What the marks so far leave open: whatever marks follow from where it stands on, all are marks of the text. -/
def Tail (s : List UInt8) (cur : List (Int × Int)) (inD : Bool) (pos : Nat) : Prop :=
  (∀ rest, MkAt s (cur ++ rest) 0) ∨ (pos ≤ s.length ∧ ∀ rest, MkAt s rest (if inD = true then digEnd s pos else pos) → MkAt s (cur ++ rest) 0)
theorem Tail.start (s : List UInt8) : Tail s [] false 0 := .inr ⟨Nat.zero_le _, fun rest h => h⟩
theorem Tail.fin {s : List UInt8} {cur : List (Int × Int)} {inD : Bool} {pos : Nat} (h : Tail s cur inD pos) (hp : ¬ pos < s.length) : MkAt s (cur ++ [((s.length : Int), -1)]) 0 := by
  rcases h with h | ⟨h1, h2⟩
  · exact h _
  · obtain rfl : pos = s.length := by omega
    refine h2 _ ?_
    have e : (if inD = true then digEnd s s.length else s.length) = s.length := by
      split
      · exact dig_no s s.length (by rw [List.getD_eq_getElem?_getD, List.getElem?_eq_none (Nat.le_refl _)]; decide)
      · rfl
    rw [e]
    exact .fin
/-- A digit behind a digit. -/
theorem Tail.on {s : List UInt8} {cur : List (Int × Int)} {pos n : Nat} (h : Tail s cur true pos) (hp : pos < s.length) (hd : isD (s.getD pos 0) = true) : Tail s cur true (pos + 1) := by
  rcases h with h | ⟨h1, h2⟩
  · exact .inl h
  · refine .inr ⟨hp, fun rest hr => h2 rest ?_⟩
    rw [if_pos rfl] at hr ⊢
    rw [dig_yes s pos hd]
    exact hr
/-- A new mark, ASCII. -/
theorem Tail.low {s : List UInt8} {cur : List (Int × Int)} {inD : Bool} {pos : Nat} (h : Tail s cur inD pos) (hp : pos < s.length) (hl : (s.getD pos 0).toNat < 128) (hd : (inD && isD (s.getD pos 0)) = false) :
    Tail s (cur ++ [((pos : Int), ((s.getD pos 0).toNat : Int))]) (isD (s.getD pos 0)) (pos + 1) := by
  rcases h with h | ⟨h1, h2⟩
  · exact .inl fun rest => by rw [List.append_assoc]; exact h _
  · refine .inr ⟨hp, fun rest hr => ?_⟩
    rw [List.append_assoc]
    refine h2 _ ?_
    have e : (if inD = true then digEnd s pos else pos) = pos := by
      split
      · next h => exact dig_no s pos (by rw [h] at hd; exact hd)
      · rfl
    rw [e]
    refine .low pos rest hp hl ?_
    unfold nextAt
    by_cases hd' : isD (s.getD pos 0) = true
    · rw [if_pos hd'] at hr ⊢
      rw [dig_yes s pos hd']
      exact hr
    · rw [if_neg hd'] at hr ⊢
      exact hr
/-- A new mark that is no ASCII. -/
theorem Tail.high {s : List UInt8} {cur : List (Int × Int)} {inD b : Bool} {pos : Nat} (p' : Nat) (c : Int) (h : Tail s cur inD pos) (hp : pos < s.length) (hl : 128 ≤ (s.getD pos 0).toNat) (hc : 128 ≤ c) :
    Tail s (cur ++ [((pos : Int), c)]) b p' := by
  rcases h with h | ⟨h1, h2⟩
  · exact .inl fun rest => by rw [List.append_assoc]; exact h _
  · refine .inl fun rest => ?_
    rw [List.append_assoc]
    refine h2 _ ?_
    have e : (if inD = true then digEnd s pos else pos) = pos := by
      split
      · exact dig_no s pos (by unfold isD; exact decide_eq_false (by omega))
      · rfl
    rw [e]
    exact .high pos c rest hp hl hc
end Go.Proofs.YtkadanagmahhgaaGreatDoor
namespace Go.Proofs.YtkadanagmahhgaaGreatDoor
open Go.ChangeShapes Go.WideShapes Go.ChangeAt Go.RowKit
set_option linter.unusedVariables false

/-- The program's reader in block g: its text, its marks (in block mb), its place among them, its nodes (in a row of their own from block B on). -/
structure IRdr (w : World) (B g mb mc : Nat) (s : ByteArray) (M : List (Int × Int)) (k : Nat) (out : List (Int × Int)) : Prop where
  lt : g < B
  ltB : B ≤ w.heap.size
  mlt : mb < B
  ne : mb ≠ g
  c0 : w.cell? ⟨g, 0, none⟩ = some (.string s)
  c1 : w.cell? ⟨g, 1, none⟩ = some (.slice (some ⟨mb, 0, none⟩) M.length mc)
  c2 : w.cell? ⟨g, 2, none⟩ = some (.int .i64 (k : Int))
  row : ∃ v, w.cell? ⟨g, 3, none⟩ = some v ∧ w.ownsRow B 66 2 v out.length (flat out)
  f2 : w.frozen? ⟨g, 2, none⟩ = false
  f3 : w.frozen? ⟨g, 3, none⟩ = false
  mks : ∀ i, i < M.length → w.cell? ⟨mb, i * 2, none⟩ = some (.int .i64 (M.getD i (0, 0)).1) ∧ w.cell? ⟨mb, i * 2 + 1, none⟩ = some (.int .i32 (M.getD i (0, 0)).2)
theorem IRdr.drewN {w : World} {B g mb mc : Nat} {s : ByteArray} {M : List (Int × Int)} {k : Nat} {out : List (Int × Int)} (h : IRdr w B g mb mc s M k out) (n : Nat) : IRdr (w.drewN n) B g mb mc s M k out := by
  obtain ⟨lt, ltB, mlt, ne, c0, c1, c2, ⟨v, c3, hown⟩, f2, f3, mk⟩ := h
  exact ⟨lt, ltB, mlt, ne, c0, c1, c2, ⟨v, c3, hown⟩, f2, f3, mk⟩
theorem IRdr.move {w : World} {B g mb mc : Nat} {s : ByteArray} {M : List (Int × Int)} {k : Nat} {out : List (Int × Int)} (h : IRdr w B g mb mc s M k out) (j : Nat) : IRdr (w.setCell ⟨g, 2, none⟩ (.int .i64 (j : Int))) B g mb mc s M j out := by
  obtain ⟨lt, ltB, mlt, ne, c0, c1, c2, ⟨v, c3, hown⟩, f2, f3, mk⟩ := h
  refine ⟨lt, by simpa using ltB, mlt, ne, by simp [go_sem, c0], by simp [go_sem, c1], by simp [go_sem, c2], ⟨v, by simp [go_sem, c3], ownsRow_setCell_below hown (by simp; omega) _⟩, by simp [go_sem, f2], by simp [go_sem, f3], fun i hi => ?_⟩
  obtain ⟨m1, m2⟩ := mk i hi
  exact ⟨by rw [World.cell?_setCell_far _ _ _ _ (by simpa using ne.symm)]; exact m1, by rw [World.cell?_setCell_far _ _ _ _ (by simpa using ne.symm)]; exact m2⟩
theorem IRdr.keep {w w' : World} {B g mb mc : Nat} {s : ByteArray} {M : List (Int × Int)} {k : Nat} {out : List (Int × Int)} (h : IRdr w B g mb mc s M k out) (hb : Below w.heap.size w w') : IRdr w' B g mb mc s M k out := by
  obtain ⟨lt, ltB, mlt, ne, c0, c1, c2, ⟨v, c3, hown⟩, f2, f3, mk⟩ := h
  have hg : g < w.heap.size := by omega
  have hm : mb < w.heap.size := by omega
  exact ⟨lt, Nat.le_trans ltB hb.size, mlt, ne, (hb.cell (p := ⟨g, 0, none⟩) hg).trans c0, (hb.cell (p := ⟨g, 1, none⟩) hg).trans c1, (hb.cell (p := ⟨g, 2, none⟩) hg).trans c2, ⟨v, (hb.cell (p := ⟨g, 3, none⟩) hg).trans c3, own_keep hown hb⟩, (hb.frozen (p := ⟨g, 2, none⟩) hg).trans f2, (hb.frozen (p := ⟨g, 3, none⟩) hg).trans f3, fun i hi => ⟨(hb.cell (p := ⟨mb, i * 2, none⟩) hm).trans (mk i hi).1, (hb.cell (p := ⟨mb, i * 2 + 1, none⟩) hm).trans (mk i hi).2⟩⟩
/-- Behind an append and its store. -/
theorem IRdr.push {w w5 : World} {B g mb mc : Nat} {s : ByteArray} {M : List (Int × Int)} {k n : Nat} {out out' : List (Int × Int)} {v : Value} (h : IRdr w B g mb mc s M k out) (hB : Below B w w5) (hn : out'.length = n) (hown : w5.ownsRow B 66 2 v n (flat out')) : IRdr (w5.setCell ⟨g, 3, none⟩ v) B g mb mc s M k out' := by
  obtain ⟨lt, ltB, mlt, ne, c0, c1, c2, ⟨v0, c3, _⟩, f2, f3, mk⟩ := h
  have d0 := (hB.cell (p := ⟨g, 0, none⟩) lt).trans c0
  have d1 := (hB.cell (p := ⟨g, 1, none⟩) lt).trans c1
  have d2 := (hB.cell (p := ⟨g, 2, none⟩) lt).trans c2
  have d3 := (hB.cell (p := ⟨g, 3, none⟩) lt).trans c3
  have e2 := (hB.frozen (p := ⟨g, 2, none⟩) lt).trans f2
  have e3 := (hB.frozen (p := ⟨g, 3, none⟩) lt).trans f3
  subst hn
  refine ⟨lt, by have := hB.size; simp; omega, mlt, ne, by simp [go_sem, d0], by simp [go_sem, d1], by simp [go_sem, d2], ⟨v, by simp [go_sem, d3], ownsRow_setCell_below hown (by simp; omega) _⟩, by simp [go_sem, e2], by simp [go_sem, e3], fun i hi => ?_⟩
  obtain ⟨m1, m2⟩ := mk i hi
  have n1 := (hB.cell (p := ⟨mb, i * 2, none⟩) mlt).trans m1
  have n2 := (hB.cell (p := ⟨mb, i * 2 + 1, none⟩) mlt).trans m2
  exact ⟨by rw [World.cell?_setCell_far _ _ _ _ (by simpa using ne.symm)]; exact n1, by rw [World.cell?_setCell_far _ _ _ _ (by simpa using ne.symm)]; exact n2⟩

theorem isDigit_any (c : Int) (w : World) : Calls Tryz.prog 121 #[.int .i32 c] w fun e w' => e = .returned (.bool (decide (48 ≤ c) && decide (c ≤ 57))) ∧ w' = w := by
  by_cases h1 : 48 ≤ c
  · by_cases h2 : c ≤ 57
    · rw [decide_eq_true h1, decide_eq_true h2]
      go_enter Tryz.func121, Tryz.ntmps121
      go_wp2
      go_ret
      exact ⟨by simp, rfl⟩
    · rw [decide_eq_true h1, decide_eq_false h2]
      go_enter Tryz.func121, Tryz.ntmps121
      go_wp2
      go_ret
      exact ⟨by simp, rfl⟩
  · rw [decide_eq_false h1]
    go_enter Tryz.func121, Tryz.ntmps121
    go_wp2
    go_ret
    exact ⟨by simp, rfl⟩

theorem comes_any (w : World) (B g mb mc : Nat) (s : ByteArray) (M : List (Int × Int)) (k : Nat) (out : List (Int × Int)) (c : Int) (h : IRdr w B g mb mc s M k out) (hk : k < M.length) (hM : M.length ≤ 1048576) :
    Calls Tryz.prog 94 #[.pointer (some ⟨g, 0, none⟩), .int .i32 c] w fun e w' => e = .returned (.bool ((M.getD k (0, 0)).2 == c)) ∧ ∃ n, w' = w.drewN n := by
  have c1 := h.c1
  have c2 := h.c2
  have m2 := (h.mks k hk).2
  have i1 : (k : Int) < M.length := by omega
  clear h
  generalize (M.getD k (0, 0)).2 = x at m2 ⊢
  go_enter Tryz.func94, Tryz.ntmps94
  go_wp2
  go_quiet (fail)
  go_wp2
  go_ret
  exact ⟨rfl, _, rfl⟩
theorem below_set2 {w : World} {g o : Nat} (u : Value) : Below g w (w.setCell ⟨g, o, none⟩ u) := below_set u
theorem passes_any (w : World) (B g mb mc : Nat) (s : ByteArray) (M : List (Int × Int)) (k : Nat) (out : List (Int × Int)) (c : Int) (h : IRdr w B g mb mc s M k out) (hk : k < M.length) (hM : M.length ≤ 1048576) :
    Calls Tryz.prog 122 #[.pointer (some ⟨g, 0, none⟩), .int .i32 c] w fun e w' => e = .returned (.bool ((M.getD k (0, 0)).2 == c)) ∧ IRdr w' B g mb mc s M (if ((M.getD k (0, 0)).2 == c) = true then k + 1 else k) out ∧ Below g w w' := by
  have HC := (show Hid _ from comes_any w B g mb mc s M k out c h hk hM)
  have HR : Hid (IRdr w B g mb mc s M k out) := h
  clear h
  cases hb : ((M.getD k (0, 0)).2 == c) with
  | true =>
    rw [hb] at HC
    rw [if_pos rfl]
    clear hb
    go_enter Tryz.func122, Tryz.ntmps122
    go_wp2_with fail
    refine Calls.mono HC.out ?_
    rintro e w1 ⟨rfl, n, rfl⟩
    have hR := HR.out.drewN n
    have hB := below_drewN (w := w) g n
    generalize w.drewN n = w1 at hR hB
    have d2 := hR.c2
    have e2 := hR.f2
    have i1 : (k : Int) ≤ 1048576 := by omega
    clear HC
    go_wp2
    go_ret
    exact ⟨rfl, hR.move (k + 1), hB.trans (below_set _)⟩
  | false =>
    rw [hb] at HC
    rw [if_neg (by decide)]
    clear hb
    go_enter Tryz.func122, Tryz.ntmps122
    go_wp2_with fail
    refine Calls.mono HC.out ?_
    rintro e w1 ⟨rfl, n, rfl⟩
    have hR := HR.out.drewN n
    have hB := below_drewN (w := w) g n
    generalize w.drewN n = w1 at hR hB
    clear HC
    go_wp2
    go_ret
    exact ⟨rfl, hR, hB⟩
theorem flat_two (x y : Int) : flat [(x, y)] = [.int .i64 x, .int .i64 y] := rfl
set_option maxRecDepth 20000 in
theorem put_any (w : World) (B g mb mc : Nat) (s : ByteArray) (M : List (Int × Int)) (k : Nat) (out : List (Int × Int)) (op n : Int) (h : IRdr w B g mb mc s M k out) (ho : out.length ≤ 1048576) :
    Calls Tryz.prog 146 #[.pointer (some ⟨g, 0, none⟩), .int .i64 op, .int .i64 n] w fun e w' => (∃ u, e = .returned u) ∧ IRdr w' B g mb mc s M k (out ++ [(op, n)]) ∧ Below g w w' := by
  obtain ⟨i0, hi, hz0, hz1, hz2⟩ := info_parts infoNode
  have HR : Hid (IRdr w B g mb mc s M k out) := h
  obtain ⟨lt, ltB, _, _, _, _, _, ⟨vo, c3, hown⟩, _, f3, _⟩ := h
  obtain ⟨po, co, rfl⟩ := own_shape hown
  go_enter Tryz.func146, Tryz.ntmps146
  go_wp2_with (at_builtin; refine wpList_append_own _ rfl _ _ 24 rfl B 66 i0 (.agg #[.int .i64 0, .int .i64 0]) 2 16 Tryz.underlying24 hi hz0 hz1 hz2 rfl (by decide) _ _ _ rfl (hown.alloc _) ⟨w.heap.size, 0, none⟩ 1 1 [.int .i64 op, .int .i64 n] rfl (by simp) (two_new w _ _ _) (fun u hu => by rcases List.mem_cons.1 hu with rfl | hu; rfl; rw [List.mem_singleton.1 hu]; rfl) (by unfold maxLen; omega) (by omega) (by simp; omega) ?_; intro v' w5 hown5 hg5 hat5; obtain ⟨p5, q5, rfl⟩ := own_shape hown5; have hB5 : Below B w w5 := ((Below.refl B w).alloc ltB _).grown hg5 (by simp; omega) (own_ge hown); have d3 := (hB5.cell (p := ⟨g, 3, none⟩) lt).trans c3; have e3 := (hB5.frozen (p := ⟨g, 3, none⟩) lt).trans f3)
  go_returns
  exact ⟨⟨_, rfl⟩, HR.out.push (n := out.length + 1) hB5 (by simp) (by rw [flat_append]; exact hown5), (hB5.mono (by omega)).trans (below_set _)⟩
end Go.Proofs.YtkadanagmahhgaaGreatDoor
namespace Go.Proofs.YtkadanagmahhgaaGreatDoor
open Go.ChangeShapes Go.WideShapes Go.ChangeAt Go.RowKit
set_option linter.unusedVariables false

theorem iter_below (w : World) (s : ByteArray) (p : Nat) : Below w.heap.size w (w.iter s p) := (Below.refl _ _).alloc (Nat.le_refl _) _
theorem next_drew {P : Program} (w : World) (s : ByteArray) (i n : Nat) (ty : TypeId) (h : i < s.size) (ha : (s[i]'h).toNat < 128) :
    (Instr.next (.pointer (some ⟨w.heap.size, 0, none⟩)) true ty).run P ((w.iter s i).drewN n) = .ok (.tuple #[.bool true, .int .i64 i, .int .i32 (s[i]'h).toNat]) ((w.iter s (i + 1)).drewN n) := run_next_ascii (w.drewN n) s i ty h ha
theorem next_drewEnd {P : Program} (w : World) (s : ByteArray) (i n : Nat) (ty : TypeId) (h : ¬ i < s.size) :
    (Instr.next (.pointer (some ⟨w.heap.size, 0, none⟩)) true ty).run P ((w.iter s i).drewN n) = .ok (.tuple #[.bool false]) ((w.iter s i).drewN n) := run_next_end (w.drewN n) s i ty h
theorem passes_no (w : World) (B g mb mc : Nat) (s : ByteArray) (M : List (Int × Int)) (k : Nat) (out : List (Int × Int)) (c : Int) (h : IRdr w B g mb mc s M k out) (hk : k < M.length) (hM : M.length ≤ 1048576) (hc : ((M.getD k (0, 0)).2 == c) = false) :
    Calls Tryz.prog 122 #[.pointer (some ⟨g, 0, none⟩), .int .i32 c] w fun e w' => e = .returned (.bool false) ∧ ∃ n, w' = w.drewN n := by
  have HC := (show Hid _ from comes_any w B g mb mc s M k out c h hk hM)
  rw [hc] at HC
  clear h hc
  go_enter Tryz.func122, Tryz.ntmps122
  go_wp2_with fail
  refine Calls.mono HC.out ?_
  rintro e w1 ⟨rfl, n, rfl⟩
  have hn : ∃ m, w.drewN n = w.drewN m := ⟨n, rfl⟩
  generalize w.drewN n = w1 at hn
  clear HC
  go_wp2
  go_ret
  exact ⟨rfl, hn⟩
def abcd : ByteArray := ⟨#[97, 98, 99, 100]⟩
set_option maxHeartbeats 1600000 in
set_option maxRecDepth 20000 in
theorem ivar_0 (w : World) (B g mb mc : Nat) (s : ByteArray) (M : List (Int × Int)) (k : Nat) (out : List (Int × Int)) (h : IRdr w B g mb mc s M k out) (hk : k < M.length) (hM : M.length ≤ 1048576) (ho : out.length ≤ 1048576) (hx : (M.getD k (0, 0)).2 = 97) :
    Calls Tryz.prog 126 #[.pointer (some ⟨g, 0, none⟩)] w fun e w' => e = .returned (.bool true) ∧ IRdr w' B g mb mc s M (k + 1) (out ++ [(2, 0)]) ∧ Below g w w' := by
  have hgw : g ≤ w.heap.size := by have := h.lt; have := h.ltB; omega
  have HI : Hid (∀ p n, IRdr ((w.iter abcd p).drewN n) B g mb mc s M k out) := fun p n => (h.keep (iter_below w abcd p)).drewN n
  have HB : Hid (∀ p n, Below g w ((w.iter abcd p).drewN n)) := fun p n => ((iter_below w abcd p).mono hgw).trans (below_drewN g n)
  have Y : Hid (∀ p n, Calls Tryz.prog 122 #[.pointer (some ⟨g, 0, none⟩), .int .i32 97] ((w.iter abcd p).drewN n) fun e w' => e = .returned (.bool true) ∧ IRdr w' B g mb mc s M (k + 1) out ∧ Below g ((w.iter abcd p).drewN n) w') := fun p n => by
    have hp := passes_any _ B g mb mc s M k out 97 (HI.out p n) hk hM
    rw [hx, show ((97 : Int) == 97) = true from rfl, if_pos rfl] at hp
    exact hp
  have HP : Hid (∀ W, IRdr W B g mb mc s M (k + 1) out → Calls Tryz.prog 146 #[.pointer (some ⟨g, 0, none⟩), .int .i64 2, .int .i64 0] W fun e w' => (∃ u, e = .returned u) ∧ IRdr w' B g mb mc s M (k + 1) (out ++ [(2, 0)]) ∧ Below g W w') := fun W hW => put_any W B g mb mc s M (k + 1) out 2 0 hW ho
  have X0 : ∀ n ty, (Instr.next (.pointer (some ⟨w.heap.size, 0, none⟩)) true ty).run Tryz.prog ((w.iter abcd 0).drewN n) = .ok (.tuple #[.bool true, .int .i64 0, .int .i32 97]) ((w.iter abcd 1).drewN n) := fun n ty => next_drew w abcd 0 n ty (by decide) (by decide)
  clear h hx
  go_enter Tryz.func126, Tryz.ntmps126
  go_wp2_with fail
  rw [show w.iter ⟨#[97, 98, 99, 100]⟩ 0 = (w.iter abcd 0).drewN 0 from rfl]
  refine wp_loop_rounds 5 ?_
  rw [rounds_succ]
  go_wp2_with fail
  refine (Y.out _ _).mono ?_
  rintro e wy ⟨rfl, hR, hb⟩
  have hB := (HB.out _ _).trans hb
  go_wp2_with fail
  refine (HP.out _ hR).mono ?_
  rintro e wz ⟨⟨u, rfl⟩, hR2, hb2⟩
  go_wp2
  go_ret
  exact ⟨rfl, hR2, hB.trans hb2⟩
set_option maxHeartbeats 1600000 in
set_option maxRecDepth 20000 in
theorem ivar_1 (w : World) (B g mb mc : Nat) (s : ByteArray) (M : List (Int × Int)) (k : Nat) (out : List (Int × Int)) (h : IRdr w B g mb mc s M k out) (hk : k < M.length) (hM : M.length ≤ 1048576) (ho : out.length ≤ 1048576) (hx : (M.getD k (0, 0)).2 = 98) :
    Calls Tryz.prog 126 #[.pointer (some ⟨g, 0, none⟩)] w fun e w' => e = .returned (.bool true) ∧ IRdr w' B g mb mc s M (k + 1) (out ++ [(2, 1)]) ∧ Below g w w' := by
  have hgw : g ≤ w.heap.size := by have := h.lt; have := h.ltB; omega
  have HI : Hid (∀ p n, IRdr ((w.iter abcd p).drewN n) B g mb mc s M k out) := fun p n => (h.keep (iter_below w abcd p)).drewN n
  have HB : Hid (∀ p n, Below g w ((w.iter abcd p).drewN n)) := fun p n => ((iter_below w abcd p).mono hgw).trans (below_drewN g n)
  have N0 : Hid (∀ p n, Calls Tryz.prog 122 #[.pointer (some ⟨g, 0, none⟩), .int .i32 97] ((w.iter abcd p).drewN n) fun e w' => e = .returned (.bool false) ∧ ∃ m, w' = ((w.iter abcd p).drewN n).drewN m) := fun p n => passes_no _ B g mb mc s M k out 97 (HI.out p n) hk hM (by rw [hx]; rfl)
  have Y : Hid (∀ p n, Calls Tryz.prog 122 #[.pointer (some ⟨g, 0, none⟩), .int .i32 98] ((w.iter abcd p).drewN n) fun e w' => e = .returned (.bool true) ∧ IRdr w' B g mb mc s M (k + 1) out ∧ Below g ((w.iter abcd p).drewN n) w') := fun p n => by
    have hp := passes_any _ B g mb mc s M k out 98 (HI.out p n) hk hM
    rw [hx, show ((98 : Int) == 98) = true from rfl, if_pos rfl] at hp
    exact hp
  have HP : Hid (∀ W, IRdr W B g mb mc s M (k + 1) out → Calls Tryz.prog 146 #[.pointer (some ⟨g, 0, none⟩), .int .i64 2, .int .i64 1] W fun e w' => (∃ u, e = .returned u) ∧ IRdr w' B g mb mc s M (k + 1) (out ++ [(2, 1)]) ∧ Below g W w') := fun W hW => put_any W B g mb mc s M (k + 1) out 2 1 hW ho
  have X0 : ∀ n ty, (Instr.next (.pointer (some ⟨w.heap.size, 0, none⟩)) true ty).run Tryz.prog ((w.iter abcd 0).drewN n) = .ok (.tuple #[.bool true, .int .i64 0, .int .i32 97]) ((w.iter abcd 1).drewN n) := fun n ty => next_drew w abcd 0 n ty (by decide) (by decide)
  have X1 : ∀ n ty, (Instr.next (.pointer (some ⟨w.heap.size, 0, none⟩)) true ty).run Tryz.prog ((w.iter abcd 1).drewN n) = .ok (.tuple #[.bool true, .int .i64 1, .int .i32 98]) ((w.iter abcd 2).drewN n) := fun n ty => next_drew w abcd 1 n ty (by decide) (by decide)
  clear h hx
  go_enter Tryz.func126, Tryz.ntmps126
  go_wp2_with fail
  rw [show w.iter ⟨#[97, 98, 99, 100]⟩ 0 = (w.iter abcd 0).drewN 0 from rfl]
  refine wp_loop_rounds 5 ?_
  rw [rounds_succ]
  go_wp2_with fail
  refine (N0.out _ _).mono ?_
  rintro e w0 ⟨rfl, m0, rfl⟩
  rw [World.drewN_drewN]
  go_wp2_with fail
  rw [rounds_succ]
  go_wp2_with fail
  refine (Y.out _ _).mono ?_
  rintro e wy ⟨rfl, hR, hb⟩
  have hB := (HB.out _ _).trans hb
  go_wp2_with fail
  refine (HP.out _ hR).mono ?_
  rintro e wz ⟨⟨u, rfl⟩, hR2, hb2⟩
  go_wp2
  go_ret
  exact ⟨rfl, hR2, hB.trans hb2⟩
set_option maxHeartbeats 1600000 in
set_option maxRecDepth 20000 in
theorem ivar_2 (w : World) (B g mb mc : Nat) (s : ByteArray) (M : List (Int × Int)) (k : Nat) (out : List (Int × Int)) (h : IRdr w B g mb mc s M k out) (hk : k < M.length) (hM : M.length ≤ 1048576) (ho : out.length ≤ 1048576) (hx : (M.getD k (0, 0)).2 = 99) :
    Calls Tryz.prog 126 #[.pointer (some ⟨g, 0, none⟩)] w fun e w' => e = .returned (.bool true) ∧ IRdr w' B g mb mc s M (k + 1) (out ++ [(2, 2)]) ∧ Below g w w' := by
  have hgw : g ≤ w.heap.size := by have := h.lt; have := h.ltB; omega
  have HI : Hid (∀ p n, IRdr ((w.iter abcd p).drewN n) B g mb mc s M k out) := fun p n => (h.keep (iter_below w abcd p)).drewN n
  have HB : Hid (∀ p n, Below g w ((w.iter abcd p).drewN n)) := fun p n => ((iter_below w abcd p).mono hgw).trans (below_drewN g n)
  have N0 : Hid (∀ p n, Calls Tryz.prog 122 #[.pointer (some ⟨g, 0, none⟩), .int .i32 97] ((w.iter abcd p).drewN n) fun e w' => e = .returned (.bool false) ∧ ∃ m, w' = ((w.iter abcd p).drewN n).drewN m) := fun p n => passes_no _ B g mb mc s M k out 97 (HI.out p n) hk hM (by rw [hx]; rfl)
  have N1 : Hid (∀ p n, Calls Tryz.prog 122 #[.pointer (some ⟨g, 0, none⟩), .int .i32 98] ((w.iter abcd p).drewN n) fun e w' => e = .returned (.bool false) ∧ ∃ m, w' = ((w.iter abcd p).drewN n).drewN m) := fun p n => passes_no _ B g mb mc s M k out 98 (HI.out p n) hk hM (by rw [hx]; rfl)
  have Y : Hid (∀ p n, Calls Tryz.prog 122 #[.pointer (some ⟨g, 0, none⟩), .int .i32 99] ((w.iter abcd p).drewN n) fun e w' => e = .returned (.bool true) ∧ IRdr w' B g mb mc s M (k + 1) out ∧ Below g ((w.iter abcd p).drewN n) w') := fun p n => by
    have hp := passes_any _ B g mb mc s M k out 99 (HI.out p n) hk hM
    rw [hx, show ((99 : Int) == 99) = true from rfl, if_pos rfl] at hp
    exact hp
  have HP : Hid (∀ W, IRdr W B g mb mc s M (k + 1) out → Calls Tryz.prog 146 #[.pointer (some ⟨g, 0, none⟩), .int .i64 2, .int .i64 2] W fun e w' => (∃ u, e = .returned u) ∧ IRdr w' B g mb mc s M (k + 1) (out ++ [(2, 2)]) ∧ Below g W w') := fun W hW => put_any W B g mb mc s M (k + 1) out 2 2 hW ho
  have X0 : ∀ n ty, (Instr.next (.pointer (some ⟨w.heap.size, 0, none⟩)) true ty).run Tryz.prog ((w.iter abcd 0).drewN n) = .ok (.tuple #[.bool true, .int .i64 0, .int .i32 97]) ((w.iter abcd 1).drewN n) := fun n ty => next_drew w abcd 0 n ty (by decide) (by decide)
  have X1 : ∀ n ty, (Instr.next (.pointer (some ⟨w.heap.size, 0, none⟩)) true ty).run Tryz.prog ((w.iter abcd 1).drewN n) = .ok (.tuple #[.bool true, .int .i64 1, .int .i32 98]) ((w.iter abcd 2).drewN n) := fun n ty => next_drew w abcd 1 n ty (by decide) (by decide)
  have X2 : ∀ n ty, (Instr.next (.pointer (some ⟨w.heap.size, 0, none⟩)) true ty).run Tryz.prog ((w.iter abcd 2).drewN n) = .ok (.tuple #[.bool true, .int .i64 2, .int .i32 99]) ((w.iter abcd 3).drewN n) := fun n ty => next_drew w abcd 2 n ty (by decide) (by decide)
  clear h hx
  go_enter Tryz.func126, Tryz.ntmps126
  go_wp2_with fail
  rw [show w.iter ⟨#[97, 98, 99, 100]⟩ 0 = (w.iter abcd 0).drewN 0 from rfl]
  refine wp_loop_rounds 5 ?_
  rw [rounds_succ]
  go_wp2_with fail
  refine (N0.out _ _).mono ?_
  rintro e w0 ⟨rfl, m0, rfl⟩
  rw [World.drewN_drewN]
  go_wp2_with fail
  rw [rounds_succ]
  go_wp2_with fail
  refine (N1.out _ _).mono ?_
  rintro e w1 ⟨rfl, m1, rfl⟩
  rw [World.drewN_drewN]
  go_wp2_with fail
  rw [rounds_succ]
  go_wp2_with fail
  refine (Y.out _ _).mono ?_
  rintro e wy ⟨rfl, hR, hb⟩
  have hB := (HB.out _ _).trans hb
  go_wp2_with fail
  refine (HP.out _ hR).mono ?_
  rintro e wz ⟨⟨u, rfl⟩, hR2, hb2⟩
  go_wp2
  go_ret
  exact ⟨rfl, hR2, hB.trans hb2⟩
set_option maxHeartbeats 1600000 in
set_option maxRecDepth 20000 in
theorem ivar_3 (w : World) (B g mb mc : Nat) (s : ByteArray) (M : List (Int × Int)) (k : Nat) (out : List (Int × Int)) (h : IRdr w B g mb mc s M k out) (hk : k < M.length) (hM : M.length ≤ 1048576) (ho : out.length ≤ 1048576) (hx : (M.getD k (0, 0)).2 = 100) :
    Calls Tryz.prog 126 #[.pointer (some ⟨g, 0, none⟩)] w fun e w' => e = .returned (.bool true) ∧ IRdr w' B g mb mc s M (k + 1) (out ++ [(2, 3)]) ∧ Below g w w' := by
  have hgw : g ≤ w.heap.size := by have := h.lt; have := h.ltB; omega
  have HI : Hid (∀ p n, IRdr ((w.iter abcd p).drewN n) B g mb mc s M k out) := fun p n => (h.keep (iter_below w abcd p)).drewN n
  have HB : Hid (∀ p n, Below g w ((w.iter abcd p).drewN n)) := fun p n => ((iter_below w abcd p).mono hgw).trans (below_drewN g n)
  have N0 : Hid (∀ p n, Calls Tryz.prog 122 #[.pointer (some ⟨g, 0, none⟩), .int .i32 97] ((w.iter abcd p).drewN n) fun e w' => e = .returned (.bool false) ∧ ∃ m, w' = ((w.iter abcd p).drewN n).drewN m) := fun p n => passes_no _ B g mb mc s M k out 97 (HI.out p n) hk hM (by rw [hx]; rfl)
  have N1 : Hid (∀ p n, Calls Tryz.prog 122 #[.pointer (some ⟨g, 0, none⟩), .int .i32 98] ((w.iter abcd p).drewN n) fun e w' => e = .returned (.bool false) ∧ ∃ m, w' = ((w.iter abcd p).drewN n).drewN m) := fun p n => passes_no _ B g mb mc s M k out 98 (HI.out p n) hk hM (by rw [hx]; rfl)
  have N2 : Hid (∀ p n, Calls Tryz.prog 122 #[.pointer (some ⟨g, 0, none⟩), .int .i32 99] ((w.iter abcd p).drewN n) fun e w' => e = .returned (.bool false) ∧ ∃ m, w' = ((w.iter abcd p).drewN n).drewN m) := fun p n => passes_no _ B g mb mc s M k out 99 (HI.out p n) hk hM (by rw [hx]; rfl)
  have Y : Hid (∀ p n, Calls Tryz.prog 122 #[.pointer (some ⟨g, 0, none⟩), .int .i32 100] ((w.iter abcd p).drewN n) fun e w' => e = .returned (.bool true) ∧ IRdr w' B g mb mc s M (k + 1) out ∧ Below g ((w.iter abcd p).drewN n) w') := fun p n => by
    have hp := passes_any _ B g mb mc s M k out 100 (HI.out p n) hk hM
    rw [hx, show ((100 : Int) == 100) = true from rfl, if_pos rfl] at hp
    exact hp
  have HP : Hid (∀ W, IRdr W B g mb mc s M (k + 1) out → Calls Tryz.prog 146 #[.pointer (some ⟨g, 0, none⟩), .int .i64 2, .int .i64 3] W fun e w' => (∃ u, e = .returned u) ∧ IRdr w' B g mb mc s M (k + 1) (out ++ [(2, 3)]) ∧ Below g W w') := fun W hW => put_any W B g mb mc s M (k + 1) out 2 3 hW ho
  have X0 : ∀ n ty, (Instr.next (.pointer (some ⟨w.heap.size, 0, none⟩)) true ty).run Tryz.prog ((w.iter abcd 0).drewN n) = .ok (.tuple #[.bool true, .int .i64 0, .int .i32 97]) ((w.iter abcd 1).drewN n) := fun n ty => next_drew w abcd 0 n ty (by decide) (by decide)
  have X1 : ∀ n ty, (Instr.next (.pointer (some ⟨w.heap.size, 0, none⟩)) true ty).run Tryz.prog ((w.iter abcd 1).drewN n) = .ok (.tuple #[.bool true, .int .i64 1, .int .i32 98]) ((w.iter abcd 2).drewN n) := fun n ty => next_drew w abcd 1 n ty (by decide) (by decide)
  have X2 : ∀ n ty, (Instr.next (.pointer (some ⟨w.heap.size, 0, none⟩)) true ty).run Tryz.prog ((w.iter abcd 2).drewN n) = .ok (.tuple #[.bool true, .int .i64 2, .int .i32 99]) ((w.iter abcd 3).drewN n) := fun n ty => next_drew w abcd 2 n ty (by decide) (by decide)
  have X3 : ∀ n ty, (Instr.next (.pointer (some ⟨w.heap.size, 0, none⟩)) true ty).run Tryz.prog ((w.iter abcd 3).drewN n) = .ok (.tuple #[.bool true, .int .i64 3, .int .i32 100]) ((w.iter abcd 4).drewN n) := fun n ty => next_drew w abcd 3 n ty (by decide) (by decide)
  clear h hx
  go_enter Tryz.func126, Tryz.ntmps126
  go_wp2_with fail
  rw [show w.iter ⟨#[97, 98, 99, 100]⟩ 0 = (w.iter abcd 0).drewN 0 from rfl]
  refine wp_loop_rounds 5 ?_
  rw [rounds_succ]
  go_wp2_with fail
  refine (N0.out _ _).mono ?_
  rintro e w0 ⟨rfl, m0, rfl⟩
  rw [World.drewN_drewN]
  go_wp2_with fail
  rw [rounds_succ]
  go_wp2_with fail
  refine (N1.out _ _).mono ?_
  rintro e w1 ⟨rfl, m1, rfl⟩
  rw [World.drewN_drewN]
  go_wp2_with fail
  rw [rounds_succ]
  go_wp2_with fail
  refine (N2.out _ _).mono ?_
  rintro e w2 ⟨rfl, m2, rfl⟩
  rw [World.drewN_drewN]
  go_wp2_with fail
  rw [rounds_succ]
  go_wp2_with fail
  refine (Y.out _ _).mono ?_
  rintro e wy ⟨rfl, hR, hb⟩
  have hB := (HB.out _ _).trans hb
  go_wp2_with fail
  refine (HP.out _ hR).mono ?_
  rintro e wz ⟨⟨u, rfl⟩, hR2, hb2⟩
  go_wp2
  go_ret
  exact ⟨rfl, hR2, hB.trans hb2⟩
set_option maxHeartbeats 1600000 in
set_option maxRecDepth 20000 in
theorem ivar_no (w : World) (B g mb mc : Nat) (s : ByteArray) (M : List (Int × Int)) (k : Nat) (out : List (Int × Int)) (h : IRdr w B g mb mc s M k out) (hk : k < M.length) (hM : M.length ≤ 1048576) (ho : out.length ≤ 1048576) (hx : ∀ i : Nat, i < 4 → (M.getD k (0, 0)).2 ≠ 97 + i) :
    Calls Tryz.prog 126 #[.pointer (some ⟨g, 0, none⟩)] w fun e w' => e = .returned (.bool false) ∧ IRdr w' B g mb mc s M k out ∧ Below g w w' := by
  have hgw : g ≤ w.heap.size := by have := h.lt; have := h.ltB; omega
  have HI : Hid (∀ p n, IRdr ((w.iter abcd p).drewN n) B g mb mc s M k out) := fun p n => (h.keep (iter_below w abcd p)).drewN n
  have HB : Hid (∀ p n, Below g w ((w.iter abcd p).drewN n)) := fun p n => ((iter_below w abcd p).mono hgw).trans (below_drewN g n)
  have N0 : Hid (∀ p n, Calls Tryz.prog 122 #[.pointer (some ⟨g, 0, none⟩), .int .i32 97] ((w.iter abcd p).drewN n) fun e w' => e = .returned (.bool false) ∧ ∃ m, w' = ((w.iter abcd p).drewN n).drewN m) := fun p n => passes_no _ B g mb mc s M k out 97 (HI.out p n) hk hM (by rw [beq_eq_false_iff_ne]; exact hx 0 (by decide))
  have N1 : Hid (∀ p n, Calls Tryz.prog 122 #[.pointer (some ⟨g, 0, none⟩), .int .i32 98] ((w.iter abcd p).drewN n) fun e w' => e = .returned (.bool false) ∧ ∃ m, w' = ((w.iter abcd p).drewN n).drewN m) := fun p n => passes_no _ B g mb mc s M k out 98 (HI.out p n) hk hM (by rw [beq_eq_false_iff_ne]; exact hx 1 (by decide))
  have N2 : Hid (∀ p n, Calls Tryz.prog 122 #[.pointer (some ⟨g, 0, none⟩), .int .i32 99] ((w.iter abcd p).drewN n) fun e w' => e = .returned (.bool false) ∧ ∃ m, w' = ((w.iter abcd p).drewN n).drewN m) := fun p n => passes_no _ B g mb mc s M k out 99 (HI.out p n) hk hM (by rw [beq_eq_false_iff_ne]; exact hx 2 (by decide))
  have N3 : Hid (∀ p n, Calls Tryz.prog 122 #[.pointer (some ⟨g, 0, none⟩), .int .i32 100] ((w.iter abcd p).drewN n) fun e w' => e = .returned (.bool false) ∧ ∃ m, w' = ((w.iter abcd p).drewN n).drewN m) := fun p n => passes_no _ B g mb mc s M k out 100 (HI.out p n) hk hM (by rw [beq_eq_false_iff_ne]; exact hx 3 (by decide))
  have X0 : ∀ n ty, (Instr.next (.pointer (some ⟨w.heap.size, 0, none⟩)) true ty).run Tryz.prog ((w.iter abcd 0).drewN n) = .ok (.tuple #[.bool true, .int .i64 0, .int .i32 97]) ((w.iter abcd 1).drewN n) := fun n ty => next_drew w abcd 0 n ty (by decide) (by decide)
  have X1 : ∀ n ty, (Instr.next (.pointer (some ⟨w.heap.size, 0, none⟩)) true ty).run Tryz.prog ((w.iter abcd 1).drewN n) = .ok (.tuple #[.bool true, .int .i64 1, .int .i32 98]) ((w.iter abcd 2).drewN n) := fun n ty => next_drew w abcd 1 n ty (by decide) (by decide)
  have X2 : ∀ n ty, (Instr.next (.pointer (some ⟨w.heap.size, 0, none⟩)) true ty).run Tryz.prog ((w.iter abcd 2).drewN n) = .ok (.tuple #[.bool true, .int .i64 2, .int .i32 99]) ((w.iter abcd 3).drewN n) := fun n ty => next_drew w abcd 2 n ty (by decide) (by decide)
  have X3 : ∀ n ty, (Instr.next (.pointer (some ⟨w.heap.size, 0, none⟩)) true ty).run Tryz.prog ((w.iter abcd 3).drewN n) = .ok (.tuple #[.bool true, .int .i64 3, .int .i32 100]) ((w.iter abcd 4).drewN n) := fun n ty => next_drew w abcd 3 n ty (by decide) (by decide)
  have X4 : ∀ n ty, (Instr.next (.pointer (some ⟨w.heap.size, 0, none⟩)) true ty).run Tryz.prog ((w.iter abcd 4).drewN n) = .ok (.tuple #[.bool false]) ((w.iter abcd 4).drewN n) := fun n ty => next_drewEnd w abcd 4 n ty (by decide)
  clear h hx
  go_enter Tryz.func126, Tryz.ntmps126
  go_wp2_with fail
  rw [show w.iter ⟨#[97, 98, 99, 100]⟩ 0 = (w.iter abcd 0).drewN 0 from rfl]
  refine wp_loop_rounds 5 ?_
  rw [rounds_succ]
  go_wp2_with fail
  refine (N0.out _ _).mono ?_
  rintro e w0 ⟨rfl, m0, rfl⟩
  rw [World.drewN_drewN]
  go_wp2_with fail
  rw [rounds_succ]
  go_wp2_with fail
  refine (N1.out _ _).mono ?_
  rintro e w1 ⟨rfl, m1, rfl⟩
  rw [World.drewN_drewN]
  go_wp2_with fail
  rw [rounds_succ]
  go_wp2_with fail
  refine (N2.out _ _).mono ?_
  rintro e w2 ⟨rfl, m2, rfl⟩
  rw [World.drewN_drewN]
  go_wp2_with fail
  rw [rounds_succ]
  go_wp2_with fail
  refine (N3.out _ _).mono ?_
  rintro e w3 ⟨rfl, m3, rfl⟩
  rw [World.drewN_drewN]
  go_wp2_with fail
  rw [rounds_succ]
  go_wp2_with fail
  go_ret
  exact ⟨rfl, HI.out _ _, HB.out _ _⟩
end Go.Proofs.YtkadanagmahhgaaGreatDoor
