/-
  PROVED HERE: that the model's reading of a number is the plain one. No other condition. the pieces of the plain reading. No condition. that the model's reading of a term is the plain one. No other condition. plain facts: what ReadTerm tells, case by case. No condition.
-/
import Derived.Test.YtkadanagmahhgaaGreatDoorRun9
import Derived.Test.YtkadanagmahhgaaGreatDoorRun10
namespace Go.Proofs.YtkadanagmahhgaaGreatDoor
open Go.ChangeShapes Go.WideShapes Go.ChangeAt Go.RowKit
set_option linter.unusedVariables false
/-- That the model's reader's method reads as a plain reading from a place on. -/
def MReads (f : FuncId) (g : Nat) (s : ByteArray) (a : Nat) (out : List (Int × Int)) (R : Rd) : Prop :=
  ∀ W, Rdr W g s a out → Calls Tryz.prog f #[.pointer (some ⟨g, 0, none⟩)] W fun e w' => e = .returned (.bool R.1) ∧ Rdr w' g s R.2.1 R.2.2 ∧ Below g W w'
theorem number_any (g : Nat) (s : ByteArray) (a : Nat) (out : List (Int × Int)) (hs : s.size ≤ 1048576) (ho : out.length ≤ 1048576) (ha : a < s.size) (h1 : (isD (s.data.toList.getD a 0) || s.data.toList.getD a 0 == 45) = true) : MReads 132 g s a out (numR s.data.toList a out) := by
  intro W h
  have hsl : s.data.toList.length = s.size := size_list s
  have hat := at_list s a ha
  unfold numR numEnd
  by_cases hm : s.data.toList.getD a 0 = 45
  · rw [if_pos hm]
    have h45 : (s[a]).toNat = 45 := by rw [← hat, hm]; rfl
    obtain ⟨E, hE⟩ : ∃ E, digEnd s.data.toList (a + 1) = E := ⟨_, rfl⟩
    have hge := dig_ge s.data.toList (a + 1)
    have hle := dig_le s.data.toList (a + 1) (by omega)
    rw [hE] at hge hle ⊢
    cases hq : numOf ((s.data.toList.drop a).take (E - a)) with
    | none =>
      simp only []
      by_cases hx : E = a + 1
      · rw [if_pos (by rw [hm]; simp [hx])]
        exact number_neg_bare W g s a out h hs ho ha h45 E hE (by omega) (by omega) (numOf_none hq) hx
      · rw [if_neg (by simp [hx])]
        exact number_neg_none W g s a out h hs ho ha h45 E hE (by omega) (by omega) (numOf_none hq) hx
    | some n =>
      obtain ⟨q1, q2⟩ := numOf_some hq
      exact number_neg_some W g s a out h hs ho ha h45 E hE (by omega) (by omega) n q1 q2
  · rw [if_neg hm]
    have hD : isD (s.data.toList.getD a 0) = true := by rw [beq_eq_false_iff_ne.2 hm, Bool.or_false] at h1; exact h1
    have hd : 48 ≤ (s[a]).toNat ∧ (s[a]).toNat ≤ 57 := by rw [hat] at hD; exact of_decide_eq_true hD
    obtain ⟨E, hE⟩ : ∃ E, digEnd s.data.toList a = E := ⟨_, rfl⟩
    have hge := dig_ge s.data.toList a
    have hle := dig_le s.data.toList a (by omega)
    rw [hE] at hge hle ⊢
    cases hq : numOf ((s.data.toList.drop a).take (E - a)) with
    | none =>
      simp only []
      rw [if_neg (by rw [beq_eq_false_iff_ne.2 hm]; simp)]
      exact number_pos_none W g s a out h hs ho ha hd E hE (by omega) (by omega) (numOf_none hq)
    | some n =>
      obtain ⟨q1, q2⟩ := numOf_some hq
      exact number_pos_some W g s a out h hs ho ha hd E hE (by omega) (by omega) n q1 q2
end Go.Proofs.YtkadanagmahhgaaGreatDoor
namespace Go.Proofs.YtkadanagmahhgaaGreatDoor
set_option linter.unusedVariables false

/-- The last part in brackets, and what closes them. -/
def lastR (s : List UInt8) (f : Nat) (op : Int) (a : Nat) (out : List (Int × Int)) : Rd :=
  let r := thenB s 41 (readT s f a out)
  if r.1 = false then r else (true, r.2.1, r.2.2 ++ [(op, 0)])
def sidesR (s : List UInt8) (f : Nat) (a : Nat) (out : List (Int × Int)) : Rd :=
  let r := thenB s 58 (readT s f a out)
  if r.1 = false then r else lastR s f 11 r.2.1 r.2.2
def insideR (s : List UInt8) (f : Nat) (a : Nat) (out : List (Int × Int)) : Rd :=
  let r := readT s f a out
  if r.1 = false then r
  else if byteIs s r.2.1 63 = true then sidesR s f (r.2.1 + 1) r.2.2
  else
    let t := twoR s r.2.1
    if t.1 = 0 then (false, t.2, r.2.2) else lastR s f t.1 t.2 r.2.2
theorem read_end {s : List UInt8} {f a : Nat} {out : List (Int × Int)} (h : a = s.length) : readT s (f + 1) a out = (false, a, out) := by rw [readT, if_pos h]
theorem read_num {s : List UInt8} {f a : Nat} {out : List (Int × Int)} (h : a < s.length) (h1 : (isD (s.getD a 0) || s.getD a 0 == 45) = true) : readT s (f + 1) a out = numR s a out := by rw [readT, if_neg (by omega), if_pos h1]
theorem read_var {s : List UInt8} {f a : Nat} {out : List (Int × Int)} (h : a < s.length) (h1 : 97 ≤ (s.getD a 0).toNat ∧ (s.getD a 0).toNat < 101) : readT s (f + 1) a out = (true, a + 1, out ++ [(2, (((s.getD a 0).toNat - 97 : Nat) : Int))]) := by
  rw [readT, if_neg (by omega), if_neg, if_pos]
  · rw [decide_eq_true h1.1, decide_eq_true h1.2]; rfl
  · have e1 : isD (s.getD a 0) = false := by unfold isD; exact decide_eq_false (by omega)
    have e2 : (s.getD a 0 == 45) = false := by rw [beq_eq_false_iff_ne]; intro e; rw [e] at h1; exact absurd h1.1 (by decide)
    rw [e1, e2]; decide
theorem read_neg {s : List UInt8} {f a : Nat} {out : List (Int × Int)} (h : a < s.length) (h1 : s.getD a 0 = 126) : readT s (f + 1) a out = ((readT s f (a + 1) out).1, (readT s f (a + 1) out).2.1, (readT s f (a + 1) out).2.2 ++ [(3, 0)]) := by
  rw [readT, if_neg (by omega), h1, if_neg (by decide), if_neg (by decide), if_pos (by decide)]
theorem read_open {s : List UInt8} {f a : Nat} {out : List (Int × Int)} (h : a < s.length) (h1 : s.getD a 0 = 40) : readT s (f + 1) a out = insideR s f (a + 1) out := by
  rw [readT, if_neg (by omega), h1, if_neg (by decide), if_neg (by decide), if_neg (by decide), if_neg (by decide)]
  rfl
theorem read_bad {s : List UInt8} {f a : Nat} {out : List (Int × Int)} (h : a < s.length) (h1 : (isD (s.getD a 0) || s.getD a 0 == 45) = false) (h2 : ¬ (97 ≤ (s.getD a 0).toNat ∧ (s.getD a 0).toNat < 101)) (h3 : s.getD a 0 ≠ 126) (h4 : s.getD a 0 ≠ 40) : readT s (f + 1) a out = (false, a, out) := by
  rw [readT, if_neg (by omega), if_neg (by rw [h1]; decide), if_neg, if_neg (by simpa using h3), if_pos (by simpa using h4)]
  simp only [Bool.and_eq_true, decide_eq_true_eq]
  exact h2
theorem then_ok (s : List UInt8) (f a : Nat) (b : UInt8) (out : List (Int × Int)) (ha : a ≤ s.length) (ho : out.length ≤ a) : a ≤ (thenB s b (readT s f a out)).2.1 ∧ (thenB s b (readT s f a out)).2.1 ≤ s.length ∧ (thenB s b (readT s f a out)).2.2.length ≤ (thenB s b (readT s f a out)).2.1 := by
  obtain ⟨h1, h2, h3, _⟩ := thenB_ok (c := 0) (b := b) (readT_ok s f a out ha)
  exact ⟨h1, h2, by omega⟩
theorem part_ok (s : List UInt8) (f a : Nat) (out : List (Int × Int)) (ha : a ≤ s.length) (ho : out.length ≤ a) : a ≤ (readT s f a out).2.1 ∧ (readT s f a out).2.1 ≤ s.length ∧ (readT s f a out).2.2.length ≤ (readT s f a out).2.1 := by
  obtain ⟨h1, h2, h3, _⟩ := readT_ok s f a out ha
  exact ⟨h1, h2, by omega⟩
end Go.Proofs.YtkadanagmahhgaaGreatDoor
namespace Go.Proofs.YtkadanagmahhgaaGreatDoor
open Go.ChangeShapes Go.WideShapes Go.ChangeAt Go.RowKit
set_option linter.unusedVariables false

set_option maxHeartbeats 1600000 in
set_option maxRecDepth 20000 in
theorem term_end (g : Nat) (s : ByteArray) (a : Nat) (out : List (Int × Int)) (hs : s.size ≤ 1048000) (ho : out.length ≤ a) (ha : a = s.size) : MReads 102 g s a out (false, a, out) := by
  intro w h
  have HR : Hid (Rdr w g s a out) := h
  have c0 := h.c0
  have c1 := h.c1
  have f1 := h.f1
  have hlt := h.lt
  have i2 : (s.size : Int) ≤ 1048000 := by omega
  have j1 : ((a : Int) == s.size) = true := by simp; omega
  have HA : Hid (a = s.size) := ha
  clear h ha
  go_enter Tryz.func102, Tryz.ntmps102
  go_wp2_with fail
  go_big_quiet (fail)
  go_wp2
  go_ret
  exact ⟨rfl, HR.out.drewN _, below_drewN g _⟩
set_option maxHeartbeats 1600000 in
set_option maxRecDepth 20000 in
theorem term_digit (g : Nat) (s : ByteArray) (a : Nat) (out : List (Int × Int)) (hs : s.size ≤ 1048000) (ho : out.length ≤ a) (ha : a < s.size) (hb : 48 ≤ (s[a]).toNat ∧ (s[a]).toNat ≤ 57) (R : Rd) (HS : MReads 132 g s a out R) : MReads 102 g s a out R := by
  intro w h
  have HR : Hid (Rdr w g s a out) := h
  have c0 := h.c0
  have c1 := h.c1
  have f1 := h.f1
  have hlt := h.lt
  have i2 : (s.size : Int) ≤ 1048000 := by omega
  obtain ⟨x, hx⟩ : ∃ x : Int, ((s[a]).toNat : Int) = x := ⟨_, rfl⟩
  have i1 : (a : Int) < s.size := by omega
  have j1 : ((a : Int) == s.size) = false := by simp; omega
  have hix : ∀ W, (Instr.index 9 (.string s) (.int .i64 (a : Int))).run Tryz.prog W = .ok (.int .u8 x) W := by
    intro W
    rw [run_index_string W 9 s .i64 _ Tryz.underlying9, dif_pos (show (0 : Int) ≤ (a : Int) ∧ (a : Int) < s.size from ⟨by omega, by omega⟩)]
    show Result.ok (Value.int .u8 (((s[a]).toNat : Nat) : Int)) W = _
    rw [hx]
  have k1 : decide ((48 : Int) ≤ x) = true := by simp; omega
  have k2 : decide (x ≤ 57) = true := by simp; omega
  have HC : Hid (∀ W, Rdr W g s a out → Calls Tryz.prog 132 #[.pointer (some ⟨g, 0, none⟩)] W fun e w' => e = .returned (.bool R.1) ∧ Rdr w' g s R.2.1 R.2.2 ∧ Below g W w') := HS
  clear hx
  clear hb HS
  clear h
  go_enter Tryz.func102, Tryz.ntmps102
  go_wp2_with fail
  go_big_quiet (fail)
  revert nq; intro q1
  go_wp2_with fail
  go_big_quiet (fail)
  revert nq; intro q2
  go_wp2_with fail
  refine (HC.out _ (HR.out.drewN _)).mono ?_
  rintro e w1 ⟨rfl, hR1, hb1⟩
  have hB1 := (below_drewN g (q1 + q2)).trans hb1
  clear HC c0 c1 f1
  go_wp2
  go_ret
  exact ⟨rfl, hR1, hB1⟩
set_option maxHeartbeats 1600000 in
set_option maxRecDepth 20000 in
theorem term_minus (g : Nat) (s : ByteArray) (a : Nat) (out : List (Int × Int)) (hs : s.size ≤ 1048000) (ho : out.length ≤ a) (ha : a < s.size) (hb : (s[a]).toNat = 45) (R : Rd) (HS : MReads 132 g s a out R) : MReads 102 g s a out R := by
  intro w h
  have HR : Hid (Rdr w g s a out) := h
  have c0 := h.c0
  have c1 := h.c1
  have f1 := h.f1
  have hlt := h.lt
  have i2 : (s.size : Int) ≤ 1048000 := by omega
  have i1 : (a : Int) < s.size := by omega
  have j1 : ((a : Int) == s.size) = false := by simp; omega
  have hix : ∀ W, (Instr.index 9 (.string s) (.int .i64 (a : Int))).run Tryz.prog W = .ok (.int .u8 45) W := by
    intro W
    rw [run_index_string W 9 s .i64 _ Tryz.underlying9, dif_pos (show (0 : Int) ≤ (a : Int) ∧ (a : Int) < s.size from ⟨by omega, by omega⟩)]
    show Result.ok (Value.int .u8 (((s[a]).toNat : Nat) : Int)) W = _
    rw [hb]; rfl
  have HC : Hid (∀ W, Rdr W g s a out → Calls Tryz.prog 132 #[.pointer (some ⟨g, 0, none⟩)] W fun e w' => e = .returned (.bool R.1) ∧ Rdr w' g s R.2.1 R.2.2 ∧ Below g W w') := HS
  clear hb HS
  clear h
  go_enter Tryz.func102, Tryz.ntmps102
  go_wp2_with fail
  go_big_quiet (fail)
  revert nq; intro q1
  go_wp2_with fail
  go_big_quiet (fail)
  revert nq; intro q2
  go_wp2_with fail
  refine (HC.out _ (HR.out.drewN _)).mono ?_
  rintro e w1 ⟨rfl, hR1, hb1⟩
  have hB1 := (below_drewN g (q1 + q2)).trans hb1
  clear HC c0 c1 f1
  go_wp2
  go_ret
  exact ⟨rfl, hR1, hB1⟩
set_option maxHeartbeats 1600000 in
set_option maxRecDepth 20000 in
theorem term_bad (g : Nat) (s : ByteArray) (a : Nat) (out : List (Int × Int)) (hs : s.size ≤ 1048000) (ho : out.length ≤ a) (ha : a < s.size) (n1 : ¬ (48 ≤ (s[a]).toNat ∧ (s[a]).toNat ≤ 57)) (n2 : ¬ (s[a]).toNat = 45) (n3 : ¬ (97 ≤ (s[a]).toNat ∧ (s[a]).toNat < 101)) (n4 : ¬ (s[a]).toNat = 126) (n5 : ¬ (s[a]).toNat = 40) : MReads 102 g s a out (false, a, out) := by
  intro w h
  have HR : Hid (Rdr w g s a out) := h
  have c0 := h.c0
  have c1 := h.c1
  have f1 := h.f1
  have hlt := h.lt
  have i2 : (s.size : Int) ≤ 1048000 := by omega
  obtain ⟨x, hx⟩ : ∃ x : Int, ((s[a]).toNat : Int) = x := ⟨_, rfl⟩
  have i1 : (a : Int) < s.size := by omega
  have j1 : ((a : Int) == s.size) = false := by simp; omega
  have hix : ∀ W, (Instr.index 9 (.string s) (.int .i64 (a : Int))).run Tryz.prog W = .ok (.int .u8 x) W := by
    intro W
    rw [run_index_string W 9 s .i64 _ Tryz.underlying9, dif_pos (show (0 : Int) ≤ (a : Int) ∧ (a : Int) < s.size from ⟨by omega, by omega⟩)]
    show Result.ok (Value.int .u8 (((s[a]).toNat : Nat) : Int)) W = _
    rw [hx]
  have k3 : (x == 45) = false := by simp; omega
  have k6 : (x == 126) = false := by simp; omega
  have k7 : (x != 40) = true := by simp; omega
  have hcase : (decide ((48 : Int) ≤ x) = false ∧ decide ((97 : Int) ≤ x) = false) ∨ (decide ((48 : Int) ≤ x) = true ∧ decide (x ≤ 57) = false ∧ decide ((97 : Int) ≤ x) = false) ∨ (decide ((48 : Int) ≤ x) = true ∧ decide (x ≤ 57) = false ∧ decide ((97 : Int) ≤ x) = true ∧ decide (x < 101) = false) := by
    simp only [decide_eq_true_eq, decide_eq_false_iff_not]
    omega
  clear hx n1 n2 n3 n4 n5 h
  rcases hcase with ⟨k1, k4⟩ | ⟨k1, k2, k4⟩ | ⟨k1, k2, k4, k5⟩
  · go_enter Tryz.func102, Tryz.ntmps102
    go_wp2_with fail
    go_big_quiet (fail)
    revert nq; intro q1
    go_wp2_with fail
    go_big_quiet (fail)
    revert nq; intro q2
    go_wp2
    go_ret
    exact ⟨rfl, HR.out.drewN _, below_drewN g _⟩
  · go_enter Tryz.func102, Tryz.ntmps102
    go_wp2_with fail
    go_big_quiet (fail)
    revert nq; intro q1
    go_wp2_with fail
    go_big_quiet (fail)
    revert nq; intro q2
    go_wp2
    go_ret
    exact ⟨rfl, HR.out.drewN _, below_drewN g _⟩
  · go_enter Tryz.func102, Tryz.ntmps102
    go_wp2_with fail
    go_big_quiet (fail)
    revert nq; intro q1
    go_wp2_with fail
    go_big_quiet (fail)
    revert nq; intro q2
    go_wp2
    go_ret
    exact ⟨rfl, HR.out.drewN _, below_drewN g _⟩
set_option maxHeartbeats 1600000 in
set_option maxRecDepth 20000 in
theorem term_neg (g : Nat) (s : ByteArray) (a : Nat) (out : List (Int × Int)) (hs : s.size ≤ 1048000) (ho : out.length ≤ a) (ha : a < s.size) (hb : (s[a]).toNat = 126) (R : Rd) (hRl : R.2.2.length ≤ 1048000) (HS : MReads 102 g s (a + 1) out R) : MReads 102 g s a out (R.1, R.2.1, R.2.2 ++ [(3, 0)]) := by
  intro w h
  have HR : Hid (Rdr w g s a out) := h
  have c0 := h.c0
  have c1 := h.c1
  have f1 := h.f1
  have hlt := h.lt
  have i2 : (s.size : Int) ≤ 1048000 := by omega
  have i1 : (a : Int) < s.size := by omega
  have j1 : ((a : Int) == s.size) = false := by simp; omega
  have hix : ∀ W, (Instr.index 9 (.string s) (.int .i64 (a : Int))).run Tryz.prog W = .ok (.int .u8 126) W := by
    intro W
    rw [run_index_string W 9 s .i64 _ Tryz.underlying9, dif_pos (show (0 : Int) ≤ (a : Int) ∧ (a : Int) < s.size from ⟨by omega, by omega⟩)]
    show Result.ok (Value.int .u8 (((s[a]).toNat : Nat) : Int)) W = _
    rw [hb]; rfl
  obtain ⟨i0, hi0, hz0, hz1, hz2⟩ := info_parts infoNode
  obtain ⟨bb, pp, nn⟩ := R
  have HC : Hid (∀ W, Rdr W g s (a + 1) out → Calls Tryz.prog 102 #[.pointer (some ⟨g, 0, none⟩)] W fun e w' => e = .returned (.bool bb) ∧ Rdr w' g s pp nn ∧ Below g W w') := HS
  simp only at hRl ⊢
  clear hb HS
  clear h
  go_enter Tryz.func102, Tryz.ntmps102
  go_wp2_with fail
  go_big_quiet (fail)
  revert nq; intro q1
  go_wp2_with fail
  go_big_quiet (fail)
  revert nq; intro q2
  go_wp2_with fail
  obtain ⟨W, hW⟩ : ∃ W, (w.drewN (q1 + q2)).setCell ⟨g, 1, none⟩ (.int .i64 ((a : Int) + 1)) = W := ⟨_, rfl⟩
  have hR1 : Rdr W g s (a + 1) out := by rw [← hW]; exact (HR.out.drewN _).move (a + 1)
  have hBW : Below g w W := by rw [← hW]; exact (below_drewN g _).trans (below_set _)
  try rw [hW]
  clear hW HR c0 c1 f1 hlt
  refine (HC.out _ hR1).mono ?_
  rintro e w1 ⟨rfl, hR2, hb1⟩
  have hB1 := hBW.trans hb1
  have HA : Hid (Rdr w1 g s pp nn) := hR2
  clear HC hR1 hBW hb1
  obtain ⟨lt, _, _, ⟨vo, c2, hown⟩, _, f2⟩ := hR2
  obtain ⟨po, co, rfl⟩ := own_shape hown
  go_wp2_with (at_builtin; refine wpList_append_own _ rfl _ _ 24 rfl (g + 1) 66 i0 (.agg #[.int .i64 0, .int .i64 0]) 2 16 Tryz.underlying24 hi0 hz0 hz1 hz2 rfl (by decide) _ _ _ rfl (hown.alloc _) ⟨w1.heap.size, 0, none⟩ 1 1 [.int .i64 3, .int .i64 0] rfl (by simp) (two_new w1 _ _ _) (fun u hu => by rcases List.mem_cons.1 hu with rfl | hu; rfl; rw [List.mem_singleton.1 hu]; rfl) (by unfold maxLen; omega) (by omega) (by simp; omega) ?_; intro v' w5 hown5 hg5 hat5; obtain ⟨p5, q5, rfl⟩ := own_shape hown5; have hB5 : Below (g + 1) w1 w5 := ((Below.refl _ _).alloc lt _).grown hg5 (by simp; omega) (own_ge hown); have d2 := (hB5.cell (p := ⟨g, 2, none⟩) (by simp)).trans c2; have e2 := (hB5.frozen (p := ⟨g, 2, none⟩) (by simp)).trans f2)
  go_returns
  exact ⟨rfl, HA.out.push (n := nn.length + 1) hB5 (by simp) (by rw [flat_append]; exact hown5), (hB1.trans (hB5.mono (by omega))).trans (below_set _)⟩
set_option maxHeartbeats 1600000 in
set_option maxRecDepth 20000 in
theorem term_open1 (g : Nat) (s : ByteArray) (a : Nat) (out : List (Int × Int)) (hs : s.size ≤ 1048000) (ho : out.length ≤ a) (ha : a < s.size) (hb : (s[a]).toNat = 40) (R : Rd) (hR0 : R.1 = false) (HS : MReads 102 g s (a + 1) out R) : MReads 102 g s a out R := by
  intro w h
  have HR : Hid (Rdr w g s a out) := h
  have c0 := h.c0
  have c1 := h.c1
  have f1 := h.f1
  have hlt := h.lt
  have i2 : (s.size : Int) ≤ 1048000 := by omega
  have i1 : (a : Int) < s.size := by omega
  have j1 : ((a : Int) == s.size) = false := by simp; omega
  have hix : ∀ W, (Instr.index 9 (.string s) (.int .i64 (a : Int))).run Tryz.prog W = .ok (.int .u8 40) W := by
    intro W
    rw [run_index_string W 9 s .i64 _ Tryz.underlying9, dif_pos (show (0 : Int) ≤ (a : Int) ∧ (a : Int) < s.size from ⟨by omega, by omega⟩)]
    show Result.ok (Value.int .u8 (((s[a]).toNat : Nat) : Int)) W = _
    rw [hb]; rfl
  obtain ⟨bb, pp, nn⟩ := R
  obtain rfl : bb = false := hR0
  have HC : Hid (∀ W, Rdr W g s (a + 1) out → Calls Tryz.prog 102 #[.pointer (some ⟨g, 0, none⟩)] W fun e w' => e = .returned (.bool false) ∧ Rdr w' g s pp nn ∧ Below g W w') := HS
  clear hb HS
  clear h
  go_enter Tryz.func102, Tryz.ntmps102
  go_wp2_with fail
  go_big_quiet (fail)
  revert nq; intro q1
  go_wp2_with fail
  go_big_quiet (fail)
  revert nq; intro q2
  go_wp2_with fail
  obtain ⟨W, hW⟩ : ∃ W, (w.drewN (q1 + q2)).setCell ⟨g, 1, none⟩ (.int .i64 ((a : Int) + 1)) = W := ⟨_, rfl⟩
  have hR1 : Rdr W g s (a + 1) out := by rw [← hW]; exact (HR.out.drewN _).move (a + 1)
  have hBW : Below g w W := by rw [← hW]; exact (below_drewN g _).trans (below_set _)
  try rw [hW]
  clear hW HR c0 c1 f1 hlt
  refine (HC.out _ hR1).mono ?_
  rintro e w1 ⟨rfl, hR2, hb1⟩
  have hB1 := hBW.trans hb1
  clear HC hR1 hBW hb1
  go_wp2
  go_ret
  exact ⟨rfl, hR2, hB1⟩
set_option maxHeartbeats 1600000 in
set_option maxRecDepth 20000 in
theorem term_two0 (g : Nat) (s : ByteArray) (a : Nat) (out : List (Int × Int)) (hs : s.size ≤ 1048000) (ho : out.length ≤ a) (ha : a < s.size) (hb : (s[a]).toNat = 40) (p : Nat) (nn : List (Int × Int)) (HS : MReads 102 g s (a + 1) out (true, p, nn)) (hq : byteIs s.data.toList p 63 = false) (hp : p ≤ s.size) (at2 : Nat) (hT : twoR s.data.toList p = (0, at2)) : MReads 102 g s a out (false, at2, nn) := by
  intro w h
  have HR : Hid (Rdr w g s a out) := h
  have c0 := h.c0
  have c1 := h.c1
  have f1 := h.f1
  have hlt := h.lt
  have i2 : (s.size : Int) ≤ 1048000 := by omega
  have i1 : (a : Int) < s.size := by omega
  have j1 : ((a : Int) == s.size) = false := by simp; omega
  have hix : ∀ W, (Instr.index 9 (.string s) (.int .i64 (a : Int))).run Tryz.prog W = .ok (.int .u8 40) W := by
    intro W
    rw [run_index_string W 9 s .i64 _ Tryz.underlying9, dif_pos (show (0 : Int) ≤ (a : Int) ∧ (a : Int) < s.size from ⟨by omega, by omega⟩)]
    show Result.ok (Value.int .u8 (((s[a]).toNat : Nat) : Int)) W = _
    rw [hb]; rfl
  have HC : Hid (∀ W, Rdr W g s (a + 1) out → Calls Tryz.prog 102 #[.pointer (some ⟨g, 0, none⟩)] W fun e w' => e = .returned (.bool true) ∧ Rdr w' g s p nn ∧ Below g W w') := HS
  have HQ : Hid (∀ W, Rdr W g s p nn → Calls Tryz.prog 133 #[.pointer (some ⟨g, 0, none⟩), .int .u8 63] W fun e w' => e = .returned (.bool false) ∧ Rdr w' g s p nn ∧ Below g W w') := fun W hW => by have := byte_any W g s p nn 63 hW (by omega); rw [hq, if_neg (by decide)] at this; exact this
  have HT : Hid (∀ W, Rdr W g s p nn → Calls Tryz.prog 134 #[.pointer (some ⟨g, 0, none⟩)] W fun e w' => e = .returned (.int .i64 0) ∧ Rdr w' g s at2 nn ∧ Below g W w') := fun W hW => by have := two_any W g s p nn hW (by omega) hp; rw [two_plain, hT] at this; exact this
  clear hb HS hT hq
  clear h
  go_enter Tryz.func102, Tryz.ntmps102
  go_wp2_with fail
  go_big_quiet (fail)
  revert nq; intro q1
  go_wp2_with fail
  go_big_quiet (fail)
  revert nq; intro q2
  go_wp2_with fail
  obtain ⟨W, hW⟩ : ∃ W, (w.drewN (q1 + q2)).setCell ⟨g, 1, none⟩ (.int .i64 ((a : Int) + 1)) = W := ⟨_, rfl⟩
  have hR1 : Rdr W g s (a + 1) out := by rw [← hW]; exact (HR.out.drewN _).move (a + 1)
  have hBW : Below g w W := by rw [← hW]; exact (below_drewN g _).trans (below_set _)
  try rw [hW]
  clear hW HR c0 c1 f1 hlt
  refine (HC.out _ hR1).mono ?_
  rintro e w1 ⟨rfl, r1, b1⟩
  go_wp2_with fail
  refine (HQ.out _ r1).mono ?_
  rintro e w2 ⟨rfl, r2, b2⟩
  go_wp2_with fail
  refine (HT.out _ r2).mono ?_
  rintro e w3 ⟨rfl, r3, b3⟩
  go_wp2
  go_ret
  exact ⟨rfl, r3, (((hBW.trans b1).trans b2).trans b3)⟩
set_option maxHeartbeats 1600000 in
set_option maxRecDepth 20000 in
theorem term_two1 (g : Nat) (s : ByteArray) (a : Nat) (out : List (Int × Int)) (hs : s.size ≤ 1048000) (ho : out.length ≤ a) (ha : a < s.size) (hb : (s[a]).toNat = 40) (p : Nat) (nn : List (Int × Int)) (HS : MReads 102 g s (a + 1) out (true, p, nn)) (hq : byteIs s.data.toList p 63 = false) (hp : p ≤ s.size) (op : Int) (at2 : Nat) (hop : op ≠ 0) (hT : twoR s.data.toList p = (op, at2)) (p2 : Nat) (n2 : List (Int × Int)) (HS2 : MReads 102 g s at2 nn (false, p2, n2)) : MReads 102 g s a out (false, p2, n2) := by
  intro w h
  have HR : Hid (Rdr w g s a out) := h
  have c0 := h.c0
  have c1 := h.c1
  have f1 := h.f1
  have hlt := h.lt
  have i2 : (s.size : Int) ≤ 1048000 := by omega
  have i1 : (a : Int) < s.size := by omega
  have j1 : ((a : Int) == s.size) = false := by simp; omega
  have hix : ∀ W, (Instr.index 9 (.string s) (.int .i64 (a : Int))).run Tryz.prog W = .ok (.int .u8 40) W := by
    intro W
    rw [run_index_string W 9 s .i64 _ Tryz.underlying9, dif_pos (show (0 : Int) ≤ (a : Int) ∧ (a : Int) < s.size from ⟨by omega, by omega⟩)]
    show Result.ok (Value.int .u8 (((s[a]).toNat : Nat) : Int)) W = _
    rw [hb]; rfl
  have HC : Hid (∀ W, Rdr W g s (a + 1) out → Calls Tryz.prog 102 #[.pointer (some ⟨g, 0, none⟩)] W fun e w' => e = .returned (.bool true) ∧ Rdr w' g s p nn ∧ Below g W w') := HS
  have HQ : Hid (∀ W, Rdr W g s p nn → Calls Tryz.prog 133 #[.pointer (some ⟨g, 0, none⟩), .int .u8 63] W fun e w' => e = .returned (.bool false) ∧ Rdr w' g s p nn ∧ Below g W w') := fun W hW => by have := byte_any W g s p nn 63 hW (by omega); rw [hq, if_neg (by decide)] at this; exact this
  have HT : Hid (∀ W, Rdr W g s p nn → Calls Tryz.prog 134 #[.pointer (some ⟨g, 0, none⟩)] W fun e w' => e = .returned (.int .i64 op) ∧ Rdr w' g s at2 nn ∧ Below g W w') := fun W hW => by have := two_any W g s p nn hW (by omega) hp; rw [two_plain, hT] at this; exact this
  have HP : Hid (∀ W, Rdr W g s at2 nn → Calls Tryz.prog 102 #[.pointer (some ⟨g, 0, none⟩)] W fun e w' => e = .returned (.bool false) ∧ Rdr w' g s p2 n2 ∧ Below g W w') := HS2
  have ho0 : (op == 0) = false := by simpa using hop
  clear hb HS HS2 hT hq hop
  clear h
  go_enter Tryz.func102, Tryz.ntmps102
  go_wp2_with fail
  go_big_quiet (fail)
  revert nq; intro q1
  go_wp2_with fail
  go_big_quiet (fail)
  revert nq; intro q2
  go_wp2_with fail
  obtain ⟨W, hW⟩ : ∃ W, (w.drewN (q1 + q2)).setCell ⟨g, 1, none⟩ (.int .i64 ((a : Int) + 1)) = W := ⟨_, rfl⟩
  have hR1 : Rdr W g s (a + 1) out := by rw [← hW]; exact (HR.out.drewN _).move (a + 1)
  have hBW : Below g w W := by rw [← hW]; exact (below_drewN g _).trans (below_set _)
  try rw [hW]
  clear hW HR c0 c1 f1 hlt
  refine (HC.out _ hR1).mono ?_
  rintro e w1 ⟨rfl, r1, b1⟩
  go_wp2_with fail
  refine (HQ.out _ r1).mono ?_
  rintro e w2 ⟨rfl, r2, b2⟩
  go_wp2_with fail
  refine (HT.out _ r2).mono ?_
  rintro e w3 ⟨rfl, r3, b3⟩
  go_wp2_with fail
  refine (HP.out _ r3).mono ?_
  rintro e w4 ⟨rfl, r4, b4⟩
  go_wp2
  go_ret
  exact ⟨rfl, r4, ((((hBW.trans b1).trans b2).trans b3).trans b4)⟩
set_option maxHeartbeats 1600000 in
set_option maxRecDepth 20000 in
theorem term_two2 (g : Nat) (s : ByteArray) (a : Nat) (out : List (Int × Int)) (hs : s.size ≤ 1048000) (ho : out.length ≤ a) (ha : a < s.size) (hb : (s[a]).toNat = 40) (p : Nat) (nn : List (Int × Int)) (HS : MReads 102 g s (a + 1) out (true, p, nn)) (hq : byteIs s.data.toList p 63 = false) (hp : p ≤ s.size) (op : Int) (at2 : Nat) (hop : op ≠ 0) (hT : twoR s.data.toList p = (op, at2)) (p2 : Nat) (n2 : List (Int × Int)) (HS2 : MReads 102 g s at2 nn (true, p2, n2)) (hc : byteIs s.data.toList p2 41 = false) : MReads 102 g s a out (false, p2, n2) := by
  intro w h
  have HR : Hid (Rdr w g s a out) := h
  have c0 := h.c0
  have c1 := h.c1
  have f1 := h.f1
  have hlt := h.lt
  have i2 : (s.size : Int) ≤ 1048000 := by omega
  have i1 : (a : Int) < s.size := by omega
  have j1 : ((a : Int) == s.size) = false := by simp; omega
  have hix : ∀ W, (Instr.index 9 (.string s) (.int .i64 (a : Int))).run Tryz.prog W = .ok (.int .u8 40) W := by
    intro W
    rw [run_index_string W 9 s .i64 _ Tryz.underlying9, dif_pos (show (0 : Int) ≤ (a : Int) ∧ (a : Int) < s.size from ⟨by omega, by omega⟩)]
    show Result.ok (Value.int .u8 (((s[a]).toNat : Nat) : Int)) W = _
    rw [hb]; rfl
  have HC : Hid (∀ W, Rdr W g s (a + 1) out → Calls Tryz.prog 102 #[.pointer (some ⟨g, 0, none⟩)] W fun e w' => e = .returned (.bool true) ∧ Rdr w' g s p nn ∧ Below g W w') := HS
  have HQ : Hid (∀ W, Rdr W g s p nn → Calls Tryz.prog 133 #[.pointer (some ⟨g, 0, none⟩), .int .u8 63] W fun e w' => e = .returned (.bool false) ∧ Rdr w' g s p nn ∧ Below g W w') := fun W hW => by have := byte_any W g s p nn 63 hW (by omega); rw [hq, if_neg (by decide)] at this; exact this
  have HT : Hid (∀ W, Rdr W g s p nn → Calls Tryz.prog 134 #[.pointer (some ⟨g, 0, none⟩)] W fun e w' => e = .returned (.int .i64 op) ∧ Rdr w' g s at2 nn ∧ Below g W w') := fun W hW => by have := two_any W g s p nn hW (by omega) hp; rw [two_plain, hT] at this; exact this
  have HP : Hid (∀ W, Rdr W g s at2 nn → Calls Tryz.prog 102 #[.pointer (some ⟨g, 0, none⟩)] W fun e w' => e = .returned (.bool true) ∧ Rdr w' g s p2 n2 ∧ Below g W w') := HS2
  have HB : Hid (∀ W, Rdr W g s p2 n2 → Calls Tryz.prog 133 #[.pointer (some ⟨g, 0, none⟩), .int .u8 41] W fun e w' => e = .returned (.bool false) ∧ Rdr w' g s p2 n2 ∧ Below g W w') := fun W hW => by have := byte_any W g s p2 n2 41 hW (by omega); rw [hc, if_neg (by decide)] at this; exact this
  have ho0 : (op == 0) = false := by simpa using hop
  clear hb HS HS2 hT hq hop hc
  clear h
  go_enter Tryz.func102, Tryz.ntmps102
  go_wp2_with fail
  go_big_quiet (fail)
  revert nq; intro q1
  go_wp2_with fail
  go_big_quiet (fail)
  revert nq; intro q2
  go_wp2_with fail
  obtain ⟨W, hW⟩ : ∃ W, (w.drewN (q1 + q2)).setCell ⟨g, 1, none⟩ (.int .i64 ((a : Int) + 1)) = W := ⟨_, rfl⟩
  have hR1 : Rdr W g s (a + 1) out := by rw [← hW]; exact (HR.out.drewN _).move (a + 1)
  have hBW : Below g w W := by rw [← hW]; exact (below_drewN g _).trans (below_set _)
  try rw [hW]
  clear hW HR c0 c1 f1 hlt
  refine (HC.out _ hR1).mono ?_
  rintro e w1 ⟨rfl, r1, b1⟩
  go_wp2_with fail
  refine (HQ.out _ r1).mono ?_
  rintro e w2 ⟨rfl, r2, b2⟩
  go_wp2_with fail
  refine (HT.out _ r2).mono ?_
  rintro e w3 ⟨rfl, r3, b3⟩
  go_wp2_with fail
  refine (HP.out _ r3).mono ?_
  rintro e w4 ⟨rfl, r4, b4⟩
  go_wp2_with fail
  refine (HB.out _ r4).mono ?_
  rintro e w5b ⟨rfl, r5, b5⟩
  go_wp2
  go_ret
  exact ⟨rfl, r5, (((((hBW.trans b1).trans b2).trans b3).trans b4).trans b5)⟩
set_option maxHeartbeats 1600000 in
set_option maxRecDepth 20000 in
theorem term_two3 (g : Nat) (s : ByteArray) (a : Nat) (out : List (Int × Int)) (hs : s.size ≤ 1048000) (ho : out.length ≤ a) (ha : a < s.size) (hb : (s[a]).toNat = 40) (p : Nat) (nn : List (Int × Int)) (HS : MReads 102 g s (a + 1) out (true, p, nn)) (hq : byteIs s.data.toList p 63 = false) (hp : p ≤ s.size) (op : Int) (at2 : Nat) (hop : op ≠ 0) (hT : twoR s.data.toList p = (op, at2)) (p2 : Nat) (n2 : List (Int × Int)) (HS2 : MReads 102 g s at2 nn (true, p2, n2)) (hc : byteIs s.data.toList p2 41 = true) (hn2 : n2.length ≤ 1048000) : MReads 102 g s a out (true, p2 + 1, n2 ++ [(op, 0)]) := by
  intro w h
  have HR : Hid (Rdr w g s a out) := h
  have c0 := h.c0
  have c1 := h.c1
  have f1 := h.f1
  have hlt := h.lt
  have i2 : (s.size : Int) ≤ 1048000 := by omega
  have i1 : (a : Int) < s.size := by omega
  have j1 : ((a : Int) == s.size) = false := by simp; omega
  have hix : ∀ W, (Instr.index 9 (.string s) (.int .i64 (a : Int))).run Tryz.prog W = .ok (.int .u8 40) W := by
    intro W
    rw [run_index_string W 9 s .i64 _ Tryz.underlying9, dif_pos (show (0 : Int) ≤ (a : Int) ∧ (a : Int) < s.size from ⟨by omega, by omega⟩)]
    show Result.ok (Value.int .u8 (((s[a]).toNat : Nat) : Int)) W = _
    rw [hb]; rfl
  have HC : Hid (∀ W, Rdr W g s (a + 1) out → Calls Tryz.prog 102 #[.pointer (some ⟨g, 0, none⟩)] W fun e w' => e = .returned (.bool true) ∧ Rdr w' g s p nn ∧ Below g W w') := HS
  have HQ : Hid (∀ W, Rdr W g s p nn → Calls Tryz.prog 133 #[.pointer (some ⟨g, 0, none⟩), .int .u8 63] W fun e w' => e = .returned (.bool false) ∧ Rdr w' g s p nn ∧ Below g W w') := fun W hW => by have := byte_any W g s p nn 63 hW (by omega); rw [hq, if_neg (by decide)] at this; exact this
  have HT : Hid (∀ W, Rdr W g s p nn → Calls Tryz.prog 134 #[.pointer (some ⟨g, 0, none⟩)] W fun e w' => e = .returned (.int .i64 op) ∧ Rdr w' g s at2 nn ∧ Below g W w') := fun W hW => by have := two_any W g s p nn hW (by omega) hp; rw [two_plain, hT] at this; exact this
  have HP : Hid (∀ W, Rdr W g s at2 nn → Calls Tryz.prog 102 #[.pointer (some ⟨g, 0, none⟩)] W fun e w' => e = .returned (.bool true) ∧ Rdr w' g s p2 n2 ∧ Below g W w') := HS2
  have HB : Hid (∀ W, Rdr W g s p2 n2 → Calls Tryz.prog 133 #[.pointer (some ⟨g, 0, none⟩), .int .u8 41] W fun e w' => e = .returned (.bool true) ∧ Rdr w' g s (p2 + 1) n2 ∧ Below g W w') := fun W hW => by have := byte_any W g s p2 n2 41 hW (by omega); rw [hc, if_pos rfl] at this; exact this
  have ho0 : (op == 0) = false := by simpa using hop
  obtain ⟨i0, hi0, hz0, hz1, hz2⟩ := info_parts infoNode
  clear hb HS HS2 hT hq hop hc
  clear h
  go_enter Tryz.func102, Tryz.ntmps102
  go_wp2_with fail
  go_big_quiet (fail)
  revert nq; intro q1
  go_wp2_with fail
  go_big_quiet (fail)
  revert nq; intro q2
  go_wp2_with fail
  obtain ⟨W, hW⟩ : ∃ W, (w.drewN (q1 + q2)).setCell ⟨g, 1, none⟩ (.int .i64 ((a : Int) + 1)) = W := ⟨_, rfl⟩
  have hR1 : Rdr W g s (a + 1) out := by rw [← hW]; exact (HR.out.drewN _).move (a + 1)
  have hBW : Below g w W := by rw [← hW]; exact (below_drewN g _).trans (below_set _)
  try rw [hW]
  clear hW HR c0 c1 f1 hlt
  refine (HC.out _ hR1).mono ?_
  rintro e w1 ⟨rfl, r1, b1⟩
  go_wp2_with fail
  refine (HQ.out _ r1).mono ?_
  rintro e w2 ⟨rfl, r2, b2⟩
  go_wp2_with fail
  refine (HT.out _ r2).mono ?_
  rintro e w3 ⟨rfl, r3, b3⟩
  go_wp2_with fail
  refine (HP.out _ r3).mono ?_
  rintro e w4 ⟨rfl, r4, b4⟩
  go_wp2_with fail
  refine (HB.out _ r4).mono ?_
  rintro e w6 ⟨rfl, r5, b5⟩
  have hB1 := (((((hBW.trans b1).trans b2).trans b3).trans b4).trans b5)
  have HA : Hid (Rdr w6 g s (p2 + 1) n2) := r5
  clear HC HQ HT HP HB r1 r2 r3 r4 b1 b2 b3 b4 b5 hR1 hBW
  obtain ⟨lt, _, _, ⟨vo, c2, hown⟩, _, f2⟩ := r5
  obtain ⟨po, co, rfl⟩ := own_shape hown
  go_wp2_with (at_builtin; refine wpList_append_own _ rfl _ _ 24 rfl (g + 1) 66 i0 (.agg #[.int .i64 0, .int .i64 0]) 2 16 Tryz.underlying24 hi0 hz0 hz1 hz2 rfl (by decide) _ _ _ rfl (hown.alloc _) ⟨w6.heap.size, 0, none⟩ 1 1 [.int .i64 op, .int .i64 0] rfl (by simp) (two_new w6 _ _ _) (fun u hu => by rcases List.mem_cons.1 hu with rfl | hu; rfl; rw [List.mem_singleton.1 hu]; rfl) (by unfold maxLen; omega) (by omega) (by simp; omega) ?_; intro v' w5 hown5 hg5 hat5; obtain ⟨p5, q5, rfl⟩ := own_shape hown5; have hB5 : Below (g + 1) w6 w5 := ((Below.refl _ _).alloc lt _).grown hg5 (by simp; omega) (own_ge hown); have d2 := (hB5.cell (p := ⟨g, 2, none⟩) (by simp)).trans c2; have e2 := (hB5.frozen (p := ⟨g, 2, none⟩) (by simp)).trans f2)
  go_returns
  exact ⟨rfl, HA.out.push (n := n2.length + 1) hB5 (by simp) (by rw [flat_append]; exact hown5), (hB1.trans (hB5.mono (by omega))).trans (below_set _)⟩
set_option maxHeartbeats 1600000 in
set_option maxRecDepth 20000 in
theorem term_if1 (g : Nat) (s : ByteArray) (a : Nat) (out : List (Int × Int)) (hs : s.size ≤ 1048000) (ho : out.length ≤ a) (ha : a < s.size) (hb : (s[a]).toNat = 40) (p : Nat) (nn : List (Int × Int)) (HS : MReads 102 g s (a + 1) out (true, p, nn)) (hq : byteIs s.data.toList p 63 = true) (p2 : Nat) (n2 : List (Int × Int)) (HS2 : MReads 102 g s (p + 1) nn (false, p2, n2)) : MReads 102 g s a out (false, p2, n2) := by
  intro w h
  have HR : Hid (Rdr w g s a out) := h
  have c0 := h.c0
  have c1 := h.c1
  have f1 := h.f1
  have hlt := h.lt
  have i2 : (s.size : Int) ≤ 1048000 := by omega
  have i1 : (a : Int) < s.size := by omega
  have j1 : ((a : Int) == s.size) = false := by simp; omega
  have hix : ∀ W, (Instr.index 9 (.string s) (.int .i64 (a : Int))).run Tryz.prog W = .ok (.int .u8 40) W := by
    intro W
    rw [run_index_string W 9 s .i64 _ Tryz.underlying9, dif_pos (show (0 : Int) ≤ (a : Int) ∧ (a : Int) < s.size from ⟨by omega, by omega⟩)]
    show Result.ok (Value.int .u8 (((s[a]).toNat : Nat) : Int)) W = _
    rw [hb]; rfl
  have HC : Hid (∀ W, Rdr W g s (a + 1) out → Calls Tryz.prog 102 #[.pointer (some ⟨g, 0, none⟩)] W fun e w' => e = .returned (.bool true) ∧ Rdr w' g s p nn ∧ Below g W w') := HS
  have HQ : Hid (∀ W, Rdr W g s p nn → Calls Tryz.prog 133 #[.pointer (some ⟨g, 0, none⟩), .int .u8 63] W fun e w' => e = .returned (.bool true) ∧ Rdr w' g s (p + 1) nn ∧ Below g W w') := fun W hW => by have := byte_any W g s p nn 63 hW (by omega); rw [hq, if_pos rfl] at this; exact this
  have HP : Hid (∀ W, Rdr W g s (p + 1) nn → Calls Tryz.prog 102 #[.pointer (some ⟨g, 0, none⟩)] W fun e w' => e = .returned (.bool false) ∧ Rdr w' g s p2 n2 ∧ Below g W w') := HS2
  clear hb HS HS2 hq
  clear h
  go_enter Tryz.func102, Tryz.ntmps102
  go_wp2_with fail
  go_big_quiet (fail)
  revert nq; intro q1
  go_wp2_with fail
  go_big_quiet (fail)
  revert nq; intro q2
  go_wp2_with fail
  obtain ⟨W, hW⟩ : ∃ W, (w.drewN (q1 + q2)).setCell ⟨g, 1, none⟩ (.int .i64 ((a : Int) + 1)) = W := ⟨_, rfl⟩
  have hR1 : Rdr W g s (a + 1) out := by rw [← hW]; exact (HR.out.drewN _).move (a + 1)
  have hBW : Below g w W := by rw [← hW]; exact (below_drewN g _).trans (below_set _)
  try rw [hW]
  clear hW HR c0 c1 f1 hlt
  refine (HC.out _ hR1).mono ?_
  rintro e w1 ⟨rfl, r1, b1⟩
  go_wp2_with fail
  refine (HQ.out _ r1).mono ?_
  rintro e w2 ⟨rfl, r2, b2⟩
  go_wp2_with fail
  refine (HP.out _ r2).mono ?_
  rintro e w3 ⟨rfl, r3, b3⟩
  go_wp2
  go_ret
  exact ⟨rfl, r3, (((hBW.trans b1).trans b2).trans b3)⟩
set_option maxHeartbeats 1600000 in
set_option maxRecDepth 20000 in
theorem term_if2 (g : Nat) (s : ByteArray) (a : Nat) (out : List (Int × Int)) (hs : s.size ≤ 1048000) (ho : out.length ≤ a) (ha : a < s.size) (hb : (s[a]).toNat = 40) (p : Nat) (nn : List (Int × Int)) (HS : MReads 102 g s (a + 1) out (true, p, nn)) (hq : byteIs s.data.toList p 63 = true) (p2 : Nat) (n2 : List (Int × Int)) (HS2 : MReads 102 g s (p + 1) nn (true, p2, n2)) (hc : byteIs s.data.toList p2 58 = false) : MReads 102 g s a out (false, p2, n2) := by
  intro w h
  have HR : Hid (Rdr w g s a out) := h
  have c0 := h.c0
  have c1 := h.c1
  have f1 := h.f1
  have hlt := h.lt
  have i2 : (s.size : Int) ≤ 1048000 := by omega
  have i1 : (a : Int) < s.size := by omega
  have j1 : ((a : Int) == s.size) = false := by simp; omega
  have hix : ∀ W, (Instr.index 9 (.string s) (.int .i64 (a : Int))).run Tryz.prog W = .ok (.int .u8 40) W := by
    intro W
    rw [run_index_string W 9 s .i64 _ Tryz.underlying9, dif_pos (show (0 : Int) ≤ (a : Int) ∧ (a : Int) < s.size from ⟨by omega, by omega⟩)]
    show Result.ok (Value.int .u8 (((s[a]).toNat : Nat) : Int)) W = _
    rw [hb]; rfl
  have HC : Hid (∀ W, Rdr W g s (a + 1) out → Calls Tryz.prog 102 #[.pointer (some ⟨g, 0, none⟩)] W fun e w' => e = .returned (.bool true) ∧ Rdr w' g s p nn ∧ Below g W w') := HS
  have HQ : Hid (∀ W, Rdr W g s p nn → Calls Tryz.prog 133 #[.pointer (some ⟨g, 0, none⟩), .int .u8 63] W fun e w' => e = .returned (.bool true) ∧ Rdr w' g s (p + 1) nn ∧ Below g W w') := fun W hW => by have := byte_any W g s p nn 63 hW (by omega); rw [hq, if_pos rfl] at this; exact this
  have HP : Hid (∀ W, Rdr W g s (p + 1) nn → Calls Tryz.prog 102 #[.pointer (some ⟨g, 0, none⟩)] W fun e w' => e = .returned (.bool true) ∧ Rdr w' g s p2 n2 ∧ Below g W w') := HS2
  have HB : Hid (∀ W, Rdr W g s p2 n2 → Calls Tryz.prog 133 #[.pointer (some ⟨g, 0, none⟩), .int .u8 58] W fun e w' => e = .returned (.bool false) ∧ Rdr w' g s p2 n2 ∧ Below g W w') := fun W hW => by have := byte_any W g s p2 n2 58 hW (by omega); rw [hc, if_neg (by decide)] at this; exact this
  clear hb HS HS2 hq hc
  clear h
  go_enter Tryz.func102, Tryz.ntmps102
  go_wp2_with fail
  go_big_quiet (fail)
  revert nq; intro q1
  go_wp2_with fail
  go_big_quiet (fail)
  revert nq; intro q2
  go_wp2_with fail
  obtain ⟨W, hW⟩ : ∃ W, (w.drewN (q1 + q2)).setCell ⟨g, 1, none⟩ (.int .i64 ((a : Int) + 1)) = W := ⟨_, rfl⟩
  have hR1 : Rdr W g s (a + 1) out := by rw [← hW]; exact (HR.out.drewN _).move (a + 1)
  have hBW : Below g w W := by rw [← hW]; exact (below_drewN g _).trans (below_set _)
  try rw [hW]
  clear hW HR c0 c1 f1 hlt
  refine (HC.out _ hR1).mono ?_
  rintro e w1 ⟨rfl, r1, b1⟩
  go_wp2_with fail
  refine (HQ.out _ r1).mono ?_
  rintro e w2 ⟨rfl, r2, b2⟩
  go_wp2_with fail
  refine (HP.out _ r2).mono ?_
  rintro e w3 ⟨rfl, r3, b3⟩
  go_wp2_with fail
  refine (HB.out _ r3).mono ?_
  rintro e w4 ⟨rfl, r4, b4⟩
  go_wp2
  go_ret
  exact ⟨rfl, r4, ((((hBW.trans b1).trans b2).trans b3).trans b4)⟩
set_option maxHeartbeats 1600000 in
set_option maxRecDepth 20000 in
theorem term_if3 (g : Nat) (s : ByteArray) (a : Nat) (out : List (Int × Int)) (hs : s.size ≤ 1048000) (ho : out.length ≤ a) (ha : a < s.size) (hb : (s[a]).toNat = 40) (p : Nat) (nn : List (Int × Int)) (HS : MReads 102 g s (a + 1) out (true, p, nn)) (hq : byteIs s.data.toList p 63 = true) (p2 : Nat) (n2 : List (Int × Int)) (HS2 : MReads 102 g s (p + 1) nn (true, p2, n2)) (hc : byteIs s.data.toList p2 58 = true) (p3 : Nat) (n3 : List (Int × Int)) (HS3 : MReads 102 g s (p2 + 1) n2 (false, p3, n3)) : MReads 102 g s a out (false, p3, n3) := by
  intro w h
  have HR : Hid (Rdr w g s a out) := h
  have c0 := h.c0
  have c1 := h.c1
  have f1 := h.f1
  have hlt := h.lt
  have i2 : (s.size : Int) ≤ 1048000 := by omega
  have i1 : (a : Int) < s.size := by omega
  have j1 : ((a : Int) == s.size) = false := by simp; omega
  have hix : ∀ W, (Instr.index 9 (.string s) (.int .i64 (a : Int))).run Tryz.prog W = .ok (.int .u8 40) W := by
    intro W
    rw [run_index_string W 9 s .i64 _ Tryz.underlying9, dif_pos (show (0 : Int) ≤ (a : Int) ∧ (a : Int) < s.size from ⟨by omega, by omega⟩)]
    show Result.ok (Value.int .u8 (((s[a]).toNat : Nat) : Int)) W = _
    rw [hb]; rfl
  have HC : Hid (∀ W, Rdr W g s (a + 1) out → Calls Tryz.prog 102 #[.pointer (some ⟨g, 0, none⟩)] W fun e w' => e = .returned (.bool true) ∧ Rdr w' g s p nn ∧ Below g W w') := HS
  have HQ : Hid (∀ W, Rdr W g s p nn → Calls Tryz.prog 133 #[.pointer (some ⟨g, 0, none⟩), .int .u8 63] W fun e w' => e = .returned (.bool true) ∧ Rdr w' g s (p + 1) nn ∧ Below g W w') := fun W hW => by have := byte_any W g s p nn 63 hW (by omega); rw [hq, if_pos rfl] at this; exact this
  have HP : Hid (∀ W, Rdr W g s (p + 1) nn → Calls Tryz.prog 102 #[.pointer (some ⟨g, 0, none⟩)] W fun e w' => e = .returned (.bool true) ∧ Rdr w' g s p2 n2 ∧ Below g W w') := HS2
  have HB : Hid (∀ W, Rdr W g s p2 n2 → Calls Tryz.prog 133 #[.pointer (some ⟨g, 0, none⟩), .int .u8 58] W fun e w' => e = .returned (.bool true) ∧ Rdr w' g s (p2 + 1) n2 ∧ Below g W w') := fun W hW => by have := byte_any W g s p2 n2 58 hW (by omega); rw [hc, if_pos rfl] at this; exact this
  have HP3 : Hid (∀ W, Rdr W g s (p2 + 1) n2 → Calls Tryz.prog 102 #[.pointer (some ⟨g, 0, none⟩)] W fun e w' => e = .returned (.bool false) ∧ Rdr w' g s p3 n3 ∧ Below g W w') := HS3
  clear hb HS HS2 hq hc HS3
  clear h
  go_enter Tryz.func102, Tryz.ntmps102
  go_wp2_with fail
  go_big_quiet (fail)
  revert nq; intro q1
  go_wp2_with fail
  go_big_quiet (fail)
  revert nq; intro q2
  go_wp2_with fail
  obtain ⟨W, hW⟩ : ∃ W, (w.drewN (q1 + q2)).setCell ⟨g, 1, none⟩ (.int .i64 ((a : Int) + 1)) = W := ⟨_, rfl⟩
  have hR1 : Rdr W g s (a + 1) out := by rw [← hW]; exact (HR.out.drewN _).move (a + 1)
  have hBW : Below g w W := by rw [← hW]; exact (below_drewN g _).trans (below_set _)
  try rw [hW]
  clear hW HR c0 c1 f1 hlt
  refine (HC.out _ hR1).mono ?_
  rintro e w1 ⟨rfl, r1, b1⟩
  go_wp2_with fail
  refine (HQ.out _ r1).mono ?_
  rintro e w2 ⟨rfl, r2, b2⟩
  go_wp2_with fail
  refine (HP.out _ r2).mono ?_
  rintro e w3 ⟨rfl, r3, b3⟩
  go_wp2_with fail
  refine (HB.out _ r3).mono ?_
  rintro e w4 ⟨rfl, r4, b4⟩
  go_wp2_with fail
  refine (HP3.out _ r4).mono ?_
  rintro e w7 ⟨rfl, r5, b5⟩
  go_wp2
  go_ret
  exact ⟨rfl, r5, (((((hBW.trans b1).trans b2).trans b3).trans b4).trans b5)⟩
set_option maxHeartbeats 1600000 in
set_option maxRecDepth 20000 in
theorem term_if4 (g : Nat) (s : ByteArray) (a : Nat) (out : List (Int × Int)) (hs : s.size ≤ 1048000) (ho : out.length ≤ a) (ha : a < s.size) (hb : (s[a]).toNat = 40) (p : Nat) (nn : List (Int × Int)) (HS : MReads 102 g s (a + 1) out (true, p, nn)) (hq : byteIs s.data.toList p 63 = true) (p2 : Nat) (n2 : List (Int × Int)) (HS2 : MReads 102 g s (p + 1) nn (true, p2, n2)) (hc : byteIs s.data.toList p2 58 = true) (p3 : Nat) (n3 : List (Int × Int)) (HS3 : MReads 102 g s (p2 + 1) n2 (true, p3, n3)) (hd : byteIs s.data.toList p3 41 = false) : MReads 102 g s a out (false, p3, n3) := by
  intro w h
  have HR : Hid (Rdr w g s a out) := h
  have c0 := h.c0
  have c1 := h.c1
  have f1 := h.f1
  have hlt := h.lt
  have i2 : (s.size : Int) ≤ 1048000 := by omega
  have i1 : (a : Int) < s.size := by omega
  have j1 : ((a : Int) == s.size) = false := by simp; omega
  have hix : ∀ W, (Instr.index 9 (.string s) (.int .i64 (a : Int))).run Tryz.prog W = .ok (.int .u8 40) W := by
    intro W
    rw [run_index_string W 9 s .i64 _ Tryz.underlying9, dif_pos (show (0 : Int) ≤ (a : Int) ∧ (a : Int) < s.size from ⟨by omega, by omega⟩)]
    show Result.ok (Value.int .u8 (((s[a]).toNat : Nat) : Int)) W = _
    rw [hb]; rfl
  have HC : Hid (∀ W, Rdr W g s (a + 1) out → Calls Tryz.prog 102 #[.pointer (some ⟨g, 0, none⟩)] W fun e w' => e = .returned (.bool true) ∧ Rdr w' g s p nn ∧ Below g W w') := HS
  have HQ : Hid (∀ W, Rdr W g s p nn → Calls Tryz.prog 133 #[.pointer (some ⟨g, 0, none⟩), .int .u8 63] W fun e w' => e = .returned (.bool true) ∧ Rdr w' g s (p + 1) nn ∧ Below g W w') := fun W hW => by have := byte_any W g s p nn 63 hW (by omega); rw [hq, if_pos rfl] at this; exact this
  have HP : Hid (∀ W, Rdr W g s (p + 1) nn → Calls Tryz.prog 102 #[.pointer (some ⟨g, 0, none⟩)] W fun e w' => e = .returned (.bool true) ∧ Rdr w' g s p2 n2 ∧ Below g W w') := HS2
  have HB : Hid (∀ W, Rdr W g s p2 n2 → Calls Tryz.prog 133 #[.pointer (some ⟨g, 0, none⟩), .int .u8 58] W fun e w' => e = .returned (.bool true) ∧ Rdr w' g s (p2 + 1) n2 ∧ Below g W w') := fun W hW => by have := byte_any W g s p2 n2 58 hW (by omega); rw [hc, if_pos rfl] at this; exact this
  have HP3 : Hid (∀ W, Rdr W g s (p2 + 1) n2 → Calls Tryz.prog 102 #[.pointer (some ⟨g, 0, none⟩)] W fun e w' => e = .returned (.bool true) ∧ Rdr w' g s p3 n3 ∧ Below g W w') := HS3
  have HD : Hid (∀ W, Rdr W g s p3 n3 → Calls Tryz.prog 133 #[.pointer (some ⟨g, 0, none⟩), .int .u8 41] W fun e w' => e = .returned (.bool false) ∧ Rdr w' g s p3 n3 ∧ Below g W w') := fun W hW => by have := byte_any W g s p3 n3 41 hW (by omega); rw [hd, if_neg (by decide)] at this; exact this
  clear hb HS HS2 hq hc HS3 hd
  clear h
  go_enter Tryz.func102, Tryz.ntmps102
  go_wp2_with fail
  go_big_quiet (fail)
  revert nq; intro q1
  go_wp2_with fail
  go_big_quiet (fail)
  revert nq; intro q2
  go_wp2_with fail
  obtain ⟨W, hW⟩ : ∃ W, (w.drewN (q1 + q2)).setCell ⟨g, 1, none⟩ (.int .i64 ((a : Int) + 1)) = W := ⟨_, rfl⟩
  have hR1 : Rdr W g s (a + 1) out := by rw [← hW]; exact (HR.out.drewN _).move (a + 1)
  have hBW : Below g w W := by rw [← hW]; exact (below_drewN g _).trans (below_set _)
  try rw [hW]
  clear hW HR c0 c1 f1 hlt
  refine (HC.out _ hR1).mono ?_
  rintro e w1 ⟨rfl, r1, b1⟩
  go_wp2_with fail
  refine (HQ.out _ r1).mono ?_
  rintro e w2 ⟨rfl, r2, b2⟩
  go_wp2_with fail
  refine (HP.out _ r2).mono ?_
  rintro e w3 ⟨rfl, r3, b3⟩
  go_wp2_with fail
  refine (HB.out _ r3).mono ?_
  rintro e w4 ⟨rfl, r4, b4⟩
  go_wp2_with fail
  refine (HP3.out _ r4).mono ?_
  rintro e w7 ⟨rfl, r5, b5⟩
  go_wp2_with fail
  refine (HD.out _ r5).mono ?_
  rintro e w6 ⟨rfl, r6, b6⟩
  go_wp2
  go_ret
  exact ⟨rfl, r6, ((((((hBW.trans b1).trans b2).trans b3).trans b4).trans b5).trans b6)⟩
set_option maxHeartbeats 1600000 in
set_option maxRecDepth 20000 in
theorem term_if5 (g : Nat) (s : ByteArray) (a : Nat) (out : List (Int × Int)) (hs : s.size ≤ 1048000) (ho : out.length ≤ a) (ha : a < s.size) (hb : (s[a]).toNat = 40) (p : Nat) (nn : List (Int × Int)) (HS : MReads 102 g s (a + 1) out (true, p, nn)) (hq : byteIs s.data.toList p 63 = true) (p2 : Nat) (n2 : List (Int × Int)) (HS2 : MReads 102 g s (p + 1) nn (true, p2, n2)) (hc : byteIs s.data.toList p2 58 = true) (p3 : Nat) (n3 : List (Int × Int)) (HS3 : MReads 102 g s (p2 + 1) n2 (true, p3, n3)) (hd : byteIs s.data.toList p3 41 = true) (hn3 : n3.length ≤ 1048000) : MReads 102 g s a out (true, p3 + 1, n3 ++ [(11, 0)]) := by
  intro w h
  have HR : Hid (Rdr w g s a out) := h
  have c0 := h.c0
  have c1 := h.c1
  have f1 := h.f1
  have hlt := h.lt
  have i2 : (s.size : Int) ≤ 1048000 := by omega
  have i1 : (a : Int) < s.size := by omega
  have j1 : ((a : Int) == s.size) = false := by simp; omega
  have hix : ∀ W, (Instr.index 9 (.string s) (.int .i64 (a : Int))).run Tryz.prog W = .ok (.int .u8 40) W := by
    intro W
    rw [run_index_string W 9 s .i64 _ Tryz.underlying9, dif_pos (show (0 : Int) ≤ (a : Int) ∧ (a : Int) < s.size from ⟨by omega, by omega⟩)]
    show Result.ok (Value.int .u8 (((s[a]).toNat : Nat) : Int)) W = _
    rw [hb]; rfl
  have HC : Hid (∀ W, Rdr W g s (a + 1) out → Calls Tryz.prog 102 #[.pointer (some ⟨g, 0, none⟩)] W fun e w' => e = .returned (.bool true) ∧ Rdr w' g s p nn ∧ Below g W w') := HS
  have HQ : Hid (∀ W, Rdr W g s p nn → Calls Tryz.prog 133 #[.pointer (some ⟨g, 0, none⟩), .int .u8 63] W fun e w' => e = .returned (.bool true) ∧ Rdr w' g s (p + 1) nn ∧ Below g W w') := fun W hW => by have := byte_any W g s p nn 63 hW (by omega); rw [hq, if_pos rfl] at this; exact this
  have HP : Hid (∀ W, Rdr W g s (p + 1) nn → Calls Tryz.prog 102 #[.pointer (some ⟨g, 0, none⟩)] W fun e w' => e = .returned (.bool true) ∧ Rdr w' g s p2 n2 ∧ Below g W w') := HS2
  have HB : Hid (∀ W, Rdr W g s p2 n2 → Calls Tryz.prog 133 #[.pointer (some ⟨g, 0, none⟩), .int .u8 58] W fun e w' => e = .returned (.bool true) ∧ Rdr w' g s (p2 + 1) n2 ∧ Below g W w') := fun W hW => by have := byte_any W g s p2 n2 58 hW (by omega); rw [hc, if_pos rfl] at this; exact this
  have HP3 : Hid (∀ W, Rdr W g s (p2 + 1) n2 → Calls Tryz.prog 102 #[.pointer (some ⟨g, 0, none⟩)] W fun e w' => e = .returned (.bool true) ∧ Rdr w' g s p3 n3 ∧ Below g W w') := HS3
  have HD : Hid (∀ W, Rdr W g s p3 n3 → Calls Tryz.prog 133 #[.pointer (some ⟨g, 0, none⟩), .int .u8 41] W fun e w' => e = .returned (.bool true) ∧ Rdr w' g s (p3 + 1) n3 ∧ Below g W w') := fun W hW => by have := byte_any W g s p3 n3 41 hW (by omega); rw [hd, if_pos rfl] at this; exact this
  obtain ⟨i0, hi0, hz0, hz1, hz2⟩ := info_parts infoNode
  clear hb HS HS2 hq hc HS3 hd
  clear h
  go_enter Tryz.func102, Tryz.ntmps102
  go_wp2_with fail
  go_big_quiet (fail)
  revert nq; intro q1
  go_wp2_with fail
  go_big_quiet (fail)
  revert nq; intro q2
  go_wp2_with fail
  obtain ⟨W, hW⟩ : ∃ W, (w.drewN (q1 + q2)).setCell ⟨g, 1, none⟩ (.int .i64 ((a : Int) + 1)) = W := ⟨_, rfl⟩
  have hR1 : Rdr W g s (a + 1) out := by rw [← hW]; exact (HR.out.drewN _).move (a + 1)
  have hBW : Below g w W := by rw [← hW]; exact (below_drewN g _).trans (below_set _)
  try rw [hW]
  clear hW HR c0 c1 f1 hlt
  refine (HC.out _ hR1).mono ?_
  rintro e w1 ⟨rfl, r1, b1⟩
  go_wp2_with fail
  refine (HQ.out _ r1).mono ?_
  rintro e w2 ⟨rfl, r2, b2⟩
  go_wp2_with fail
  refine (HP.out _ r2).mono ?_
  rintro e w3 ⟨rfl, r3, b3⟩
  go_wp2_with fail
  refine (HB.out _ r3).mono ?_
  rintro e w4 ⟨rfl, r4, b4⟩
  go_wp2_with fail
  refine (HP3.out _ r4).mono ?_
  rintro e w7 ⟨rfl, r5, b5⟩
  go_wp2_with fail
  refine (HD.out _ r5).mono ?_
  rintro e w6 ⟨rfl, r6, b6⟩
  have hB1 := ((((((hBW.trans b1).trans b2).trans b3).trans b4).trans b5).trans b6)
  have HA : Hid (Rdr w6 g s (p3 + 1) n3) := r6
  clear HC HQ HP HB HP3 HD r1 r2 r3 r4 r5 b1 b2 b3 b4 b5 b6 hR1 hBW
  obtain ⟨lt, _, _, ⟨vo, c2, hown⟩, _, f2⟩ := r6
  obtain ⟨po, co, rfl⟩ := own_shape hown
  go_wp2_with (at_builtin; refine wpList_append_own _ rfl _ _ 24 rfl (g + 1) 66 i0 (.agg #[.int .i64 0, .int .i64 0]) 2 16 Tryz.underlying24 hi0 hz0 hz1 hz2 rfl (by decide) _ _ _ rfl (hown.alloc _) ⟨w6.heap.size, 0, none⟩ 1 1 [.int .i64 11, .int .i64 0] rfl (by simp) (two_new w6 _ _ _) (fun u hu => by rcases List.mem_cons.1 hu with rfl | hu; rfl; rw [List.mem_singleton.1 hu]; rfl) (by unfold maxLen; omega) (by omega) (by simp; omega) ?_; intro v' w5 hown5 hg5 hat5; obtain ⟨p5, q5, rfl⟩ := own_shape hown5; have hB5 : Below (g + 1) w6 w5 := ((Below.refl _ _).alloc lt _).grown hg5 (by simp; omega) (own_ge hown); have d2 := (hB5.cell (p := ⟨g, 2, none⟩) (by simp)).trans c2; have e2 := (hB5.frozen (p := ⟨g, 2, none⟩) (by simp)).trans f2)
  go_returns
  exact ⟨rfl, HA.out.push (n := n3.length + 1) hB5 (by simp) (by rw [flat_append]; exact hown5), (hB1.trans (hB5.mono (by omega))).trans (below_set _)⟩
end Go.Proofs.YtkadanagmahhgaaGreatDoor
namespace Go.Proofs.YtkadanagmahhgaaGreatDoor
set_option linter.unusedVariables false
theorem read_big {s : List UInt8} (h : 1200 < s.length) : readOk s = false ∧ readAt s = 0 ∧ readL s = [] := by
  have h1 : readOk s = false := by unfold readOk; exact decide_eq_false (by omega)
  refine ⟨h1, ?_, ?_⟩
  · unfold readAt; rw [if_neg (by omega)]
  · unfold readL; rw [h1]; rfl
theorem read_fail {s : List UInt8} (h : s.length ≤ 1200) (hf : ¬ ((rdR s).1 = true ∧ (rdR s).2.1 = s.length)) : readOk s = false ∧ readAt s = (rdR s).2.1 ∧ readL s = [] := by
  have h1 : readOk s = false := by unfold readOk; exact decide_eq_false (fun x => hf ⟨x.2.1, x.2.2.1⟩)
  refine ⟨h1, ?_, ?_⟩
  · unfold readAt; rw [if_pos h, if_neg hf]
  · unfold readL; rw [h1]; rfl
theorem read_many {s : List UInt8} (h : s.length ≤ 1200) (hf : (rdR s).1 = true ∧ (rdR s).2.1 = s.length) (hm : 40 < (rdR s).2.2.length) : readOk s = false ∧ readAt s = 0 ∧ readL s = [] := by
  have h1 : readOk s = false := by unfold readOk; exact decide_eq_false (fun x => by have := x.2.2.2; omega)
  refine ⟨h1, ?_, ?_⟩
  · unfold readAt; rw [if_pos h, if_pos hf, if_neg (by omega)]
  · unfold readL; rw [h1]; rfl
theorem read_good {s : List UInt8} (h : s.length ≤ 1200) (hf : (rdR s).1 = true ∧ (rdR s).2.1 = s.length) (hm : (rdR s).2.2.length ≤ 40) : readOk s = true ∧ readAt s = s.length ∧ readL s = (rdR s).2.2 := by
  have h1 : readOk s = true := by unfold readOk; exact decide_eq_true ⟨h, hf.1, hf.2, hm⟩
  refine ⟨h1, ?_, ?_⟩
  · unfold readAt; rw [if_pos h, if_pos hf, if_pos hm]
  · unfold readL; rw [if_pos h1]
end Go.Proofs.YtkadanagmahhgaaGreatDoor
