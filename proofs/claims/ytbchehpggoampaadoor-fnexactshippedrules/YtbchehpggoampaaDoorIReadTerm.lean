/-
  PROVED HERE: what the program's ReadTerm and NodeCount answer, at every text. The tables are laid. No other condition.
-/
import Derived.Test.YtbchehpggoampaaDoorIReads
import Derived.Test.YtbchehpggoampaaDoorIMarks
import Derived.Test.YtbchehpggoampaaDoorPlainRead
namespace Go.Proofs.YtbchehpggoampaaDoor
open Go.ChangeShapes Go.WideShapes Go.ChangeAt Go.RowKit
set_option linter.unusedVariables false

theorem irdr_new {w1 : World} {s : ByteArray} {mb mc base : Nat} {M : List (Int × Int)} (hown : w1.ownsRow base 118 2 (.slice (some ⟨mb, 0, none⟩) M.length mc) M.length (flatM M)) :
    IRdr (w1.alloc (.cells #[.string s, .slice (some ⟨mb, 0, none⟩) M.length mc, .int .i64 0, .slice none 0 0] 115)) (w1.heap.size + 1) w1.heap.size mb mc s M 0 [] := by
  have hlt : mb < w1.heap.size := owns_lt hown
  refine ⟨by omega, by simp, by omega, by omega, by simp [go_sem], by simp [go_sem], by simp [go_sem], ⟨_, by simp [go_sem], World.ownsRow_nil _ _ _ _⟩, by simp [go_sem], by simp [go_sem], fun i hi => ?_⟩
  have hc := (hown.alloc (.cells #[.string s, .slice (some ⟨mb, 0, none⟩) M.length mc, .int .i64 0, .slice none 0 0] 115)).cells rfl
  have g := flatM_get M i hi
  have c1 := hc _ _ g.1
  have c2 := hc _ _ g.2
  rw [add_at, Nat.zero_add] at c1 c2
  exact ⟨c1, c2⟩
set_option maxHeartbeats 2000000 in
set_option maxRecDepth 20000 in
theorem implReadTerm_any (s : ByteArray) (w : World) (hE : Env w) (hs : s.size ≤ 9223372036854775807) :
    Calls Tryd.prog 63 #[.string s] w fun e w' => ∃ v : Value, e = .returned (.tuple #[v, .int .i64 (readAt s.data.toList : Nat), .bool (readOk s.data.toList)]) ∧ w'.ownsRow w.heap.size 76 2 v (readL s.data.toList).length (flat (readL s.data.toList)) ∧ Below w.heap.size w w' := by
  have hsl : s.data.toList.length = s.size := size_list s
  by_cases hbig : 1200 < s.size
  · obtain ⟨r1, r2, r3⟩ := read_big (s := s.data.toList) (by omega)
    rw [r1, r2, r3]
    have i1 : (1200 : Int) < s.size := by omega
    clear r1 r2 r3
    go_enter Tryd.func63, Tryd.ntmps63
    go_wp2
    go_ret3
    exact ⟨_, rfl, World.ownsRow_nil _ _ _ _, Below.refl _ _⟩
  have i1 : ¬ (1200 : Int) < s.size := by omega
  have HM := (show Hid _ from marks_any s w (by omega))
  have HE : Hid (Env w) := hE
  have hmain : Hid (∀ (B g mb mc : Nat) (M : List (Int × Int)) W, Gl g → M.length ≤ 1048576 → Env W → IRdr W B g mb mc s M 0 [] → MkAt s.data.toList M 0 → Calls Tryd.prog 78 #[.pointer (some ⟨g, 0, none⟩)] W fun e w' => e = .returned (.bool (rdR s.data.toList).1) ∧ ILeft w' B g mb mc s M (rdR s.data.toList) ∧ Below g W w') := fun B g mb mc M W hG hM hW hR hA => by
    have := ipart_any (B := B) (mb := mb) (mc := mc) hG hM (by omega) (s.size + 1) 0 [] (by omega) (by omega) (Nat.le_refl _) W 0 hW hR hA
    unfold rdR
    rw [hsl]
    exact this
  have HRd : Hid ((rdR s.data.toList).2.1 ≤ s.data.toList.length) := (rdR_ok s.data.toList).2.1
  have R0 : Hid (¬ ((rdR s.data.toList).1 = true ∧ (rdR s.data.toList).2.1 = s.size) → readOk s.data.toList = false ∧ readAt s.data.toList = (rdR s.data.toList).2.1 ∧ readL s.data.toList = []) := fun h => read_fail (by omega) (by rw [hsl]; exact h)
  have R1 : Hid (((rdR s.data.toList).1 = true ∧ (rdR s.data.toList).2.1 = s.size) → 40 < (rdR s.data.toList).2.2.length → readOk s.data.toList = false ∧ readAt s.data.toList = 0 ∧ readL s.data.toList = []) := fun h h' => read_many (by omega) (by rw [hsl]; exact h) h'
  have R2 : Hid (((rdR s.data.toList).1 = true ∧ (rdR s.data.toList).2.1 = s.size) → (rdR s.data.toList).2.2.length ≤ 40 → readOk s.data.toList = true ∧ readAt s.data.toList = s.size ∧ readL s.data.toList = (rdR s.data.toList).2.2) := fun h h' => by have := read_good (s := s.data.toList) (by omega) (by rw [hsl]; exact h) h'; rw [hsl] at this; exact this
  have HLn : Hid ((rdR s.data.toList).2.2.length ≤ 1048576) := by
    have := (rdR_ok s.data.toList).2.2.1
    have := HRd.out
    show _ ≤ _
    simp at *
    omega
  obtain ⟨R, hR⟩ : ∃ R, rdR s.data.toList = R := ⟨_, rfl⟩
  rw [hR] at hmain HRd R0 R1 R2 HLn
  clear hR
  generalize readOk s.data.toList = OK at R0 R1 R2 ⊢
  generalize readAt s.data.toList = AT at R0 R1 R2 ⊢
  generalize readL s.data.toList = LL at R0 R1 R2 ⊢
  obtain ⟨b, at1, nn⟩ := R
  simp only at R0 R1 R2 HRd HLn hmain
  have hend : Hid (∀ (M : List (Int × Int)) k, MkAt s.data.toList (M.drop k) at1 → k < M.length ∧ (M.getD k (0, 0)).1 = at1 ∧ ((M.getD k (0, 0)).2 == -1) = decide (at1 = s.size)) := fun M k hA => by
    have h1 := hA.at.1
    have h2 := hA.end
    rw [drop_getD] at h1 h2
    rw [hsl] at h2
    exact ⟨drop_lt' hA, h1, h2⟩
  clear hE hsl
  by_cases hok : b = true ∧ at1 = s.size
  · obtain ⟨rfl, rfl⟩ := hok
    by_cases h40 : 40 < nn.length
    · obtain ⟨r1, r2, r3⟩ := R1.out ⟨rfl, rfl⟩ h40
      rw [r1, r2, r3]
      have i2 : (40 : Int) < nn.length := by omega
      clear R0 R1 R2 r1 r2 r3
      go_enter Tryd.func63, Tryd.ntmps63
      go_wp2_with fail
      refine Calls.mono HM.out ?_
      rintro e w1 ⟨v, M, rfl, hown, hA, hMl, hb1⟩
      have hMp := hA.at.2
      rcases hown.2 with ⟨_, h0⟩ | ⟨mb, mc, cur, rfl, hmb, _⟩
      · omega
      have hR0 := irdr_new (s := s) hown
      have hB0 : Below w.heap.size w (w1.alloc (.cells #[.string s, .slice (some ⟨mb, 0, none⟩) M.length mc, .int .i64 0, .slice none 0 0] 115)) := hb1.alloc hb1.size _
      have HQ := (show Hid _ from hmain.out _ w1.heap.size mb mc M _ (HE.out.gl.mono hb1.size) (by omega) (HE.out.keep hB0) hR0 hA)
      have HB0 := (show Hid _ from hB0)
      have hsz := hb1.size
      clear HM hmain hown hR0 hA hB0
      go_wp2_with fail
      refine Calls.mono HQ.out ?_
      rintro e w2 ⟨rfl, ⟨k, out, hR2, hA2, ho2⟩, hb2⟩
      have hB2 : Below w.heap.size w w2 := HB0.out.trans (hb2.mono hsz)
      obtain ⟨hk, hat, hen⟩ := hend.out M k hA2
      clear HQ HB0
      have HC := (show Hid _ from comes_any w2 _ _ mb mc s M k out (-1) hR2 hk (by omega))
      rw [show ((M.getD k (0, 0)).2 == -1) = true from by rw [hen]; simp] at HC
      go_wp2_with fail
      refine Calls.mono HC.out ?_
      rintro e w3 ⟨rfl, nn3, rfl⟩
      have hR3 := hR2.drewN nn3
      have hB3 := hB2.trans (below_drewN w.heap.size nn3)
      generalize w2.drewN nn3 = w3 at hR3 hB3
      clear HC hR2 hB2
      obtain rfl := ho2 (by trivial)
      obtain ⟨v3, c3, hown3⟩ := hR3.row
      obtain ⟨po, co, rfl⟩ := own_shape hown3
      have HO := (show Hid _ from hown3)
      clear hown3 hA2 hen hat hend
      go_wp2
      go_ret3
      exact ⟨_, rfl, World.ownsRow_nil _ _ _ _, hB3⟩
    · obtain ⟨r1, r2, r3⟩ := R2.out ⟨rfl, rfl⟩ (by omega)
      rw [r1, r2, r3]
      have i2 : ¬ (40 : Int) < nn.length := by omega
      clear R0 R1 R2 r1 r2 r3
      go_enter Tryd.func63, Tryd.ntmps63
      go_wp2_with fail
      refine Calls.mono HM.out ?_
      rintro e w1 ⟨v, M, rfl, hown, hA, hMl, hb1⟩
      have hMp := hA.at.2
      rcases hown.2 with ⟨_, h0⟩ | ⟨mb, mc, cur, rfl, hmb, _⟩
      · omega
      have hR0 := irdr_new (s := s) hown
      have hB0 : Below w.heap.size w (w1.alloc (.cells #[.string s, .slice (some ⟨mb, 0, none⟩) M.length mc, .int .i64 0, .slice none 0 0] 115)) := hb1.alloc hb1.size _
      have HQ := (show Hid _ from hmain.out _ w1.heap.size mb mc M _ (HE.out.gl.mono hb1.size) (by omega) (HE.out.keep hB0) hR0 hA)
      have HB0 := (show Hid _ from hB0)
      have hsz := hb1.size
      clear HM hmain hown hR0 hA hB0
      go_wp2_with fail
      refine Calls.mono HQ.out ?_
      rintro e w2 ⟨rfl, ⟨k, out, hR2, hA2, ho2⟩, hb2⟩
      have hB2 : Below w.heap.size w w2 := HB0.out.trans (hb2.mono hsz)
      obtain ⟨hk, hat, hen⟩ := hend.out M k hA2
      clear HQ HB0
      have HC := (show Hid _ from comes_any w2 _ _ mb mc s M k out (-1) hR2 hk (by omega))
      rw [show ((M.getD k (0, 0)).2 == -1) = true from by rw [hen]; simp] at HC
      go_wp2_with fail
      refine Calls.mono HC.out ?_
      rintro e w3 ⟨rfl, nn3, rfl⟩
      have hR3 := hR2.drewN nn3
      have hB3 := hB2.trans (below_drewN w.heap.size nn3)
      generalize w2.drewN nn3 = w3 at hR3 hB3
      clear HC hR2 hB2
      obtain rfl := ho2 (by trivial)
      obtain ⟨v3, c3, hown3⟩ := hR3.row
      obtain ⟨po, co, rfl⟩ := own_shape hown3
      have HO := (show Hid _ from hown3)
      clear hown3 hA2 hen hat hend
      go_wp2
      go_ret3
      exact ⟨_, rfl, own_base HO.out (by omega), hB3⟩
  · obtain ⟨r1, r2, r3⟩ := R0.out hok
    rw [r1, r2, r3]
    clear R0 R1 R2 r1 r2 r3
    cases b with
    | false =>
      clear hok
      go_enter Tryd.func63, Tryd.ntmps63
      go_wp2_with fail
      refine Calls.mono HM.out ?_
      rintro e w1 ⟨v, M, rfl, hown, hA, hMl, hb1⟩
      have hMp := hA.at.2
      rcases hown.2 with ⟨_, h0⟩ | ⟨mb, mc, cur, rfl, hmb, _⟩
      · omega
      have hR0 := irdr_new (s := s) hown
      have hB0 : Below w.heap.size w (w1.alloc (.cells #[.string s, .slice (some ⟨mb, 0, none⟩) M.length mc, .int .i64 0, .slice none 0 0] 115)) := hb1.alloc hb1.size _
      have HQ := (show Hid _ from hmain.out _ w1.heap.size mb mc M _ (HE.out.gl.mono hb1.size) (by omega) (HE.out.keep hB0) hR0 hA)
      have HB0 := (show Hid _ from hB0)
      have hsz := hb1.size
      clear HM hmain hown hR0 hA hB0
      go_wp2_with fail
      refine Calls.mono HQ.out ?_
      rintro e w2 ⟨rfl, ⟨k, out, hR2, hA2, ho2⟩, hb2⟩
      have hB2 : Below w.heap.size w w2 := HB0.out.trans (hb2.mono hsz)
      obtain ⟨hk, hat, hen⟩ := hend.out M k hA2
      clear HQ HB0
      have c1 := hR2.c1
      have c2 := hR2.c2
      have m1 := (hR2.mks k hk).1
      rw [hat] at m1
      have j1 : (k : Int) < M.length := by omega
      have hBB := hB2
      clear hA2 hen hat hend
      go_wp2_with fail
      go_quiet (fail)
      go_wp2
      go_ret3
      exact ⟨_, rfl, World.ownsRow_nil _ _ _ _, hBB.trans (below_drewN _ _)⟩
    | true =>
      have hne : ¬ at1 = s.size := fun e => hok ⟨rfl, e⟩
      clear hok
      go_enter Tryd.func63, Tryd.ntmps63
      go_wp2_with fail
      refine Calls.mono HM.out ?_
      rintro e w1 ⟨v, M, rfl, hown, hA, hMl, hb1⟩
      have hMp := hA.at.2
      rcases hown.2 with ⟨_, h0⟩ | ⟨mb, mc, cur, rfl, hmb, _⟩
      · omega
      have hR0 := irdr_new (s := s) hown
      have hB0 : Below w.heap.size w (w1.alloc (.cells #[.string s, .slice (some ⟨mb, 0, none⟩) M.length mc, .int .i64 0, .slice none 0 0] 115)) := hb1.alloc hb1.size _
      have HQ := (show Hid _ from hmain.out _ w1.heap.size mb mc M _ (HE.out.gl.mono hb1.size) (by omega) (HE.out.keep hB0) hR0 hA)
      have HB0 := (show Hid _ from hB0)
      have hsz := hb1.size
      clear HM hmain hown hR0 hA hB0
      go_wp2_with fail
      refine Calls.mono HQ.out ?_
      rintro e w2 ⟨rfl, ⟨k, out, hR2, hA2, ho2⟩, hb2⟩
      have hB2 : Below w.heap.size w w2 := HB0.out.trans (hb2.mono hsz)
      obtain ⟨hk, hat, hen⟩ := hend.out M k hA2
      clear HQ HB0
      have HC := (show Hid _ from comes_any w2 _ _ mb mc s M k out (-1) hR2 hk (by omega))
      rw [show ((M.getD k (0, 0)).2 == -1) = false from by rw [hen]; exact decide_eq_false hne] at HC
      go_wp2_with fail
      refine Calls.mono HC.out ?_
      rintro e w3 ⟨rfl, nn3, rfl⟩
      have hR3 := hR2.drewN nn3
      have hB3 := hB2.trans (below_drewN w.heap.size nn3)
      generalize w2.drewN nn3 = w3 at hR3 hB3
      clear HC hR2 hB2
      clear hne
      have c1 := hR3.c1
      have c2 := hR3.c2
      have m1 := (hR3.mks k hk).1
      rw [hat] at m1
      have j1 : (k : Int) < M.length := by omega
      have hBB := hB3
      clear hA2 hen hat hend
      go_wp2_with fail
      go_quiet (fail)
      go_wp2
      go_ret3
      exact ⟨_, rfl, World.ownsRow_nil _ _ _ _, hBB.trans (below_drewN _ _)⟩
end Go.Proofs.YtbchehpggoampaaDoor
