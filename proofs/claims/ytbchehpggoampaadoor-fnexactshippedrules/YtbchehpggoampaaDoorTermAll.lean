/-
  PROVED HERE: that the model's reading of a term is the plain one. No other condition.
-/
import Derived.Test.YtbchehpggoampaaDoorTermNums
import Derived.Test.YtbchehpggoampaaDoorPlainRead
namespace Go.Proofs.YtbchehpggoampaaDoor
open Go.ChangeShapes Go.WideShapes Go.ChangeAt Go.RowKit
set_option linter.unusedVariables false

set_option maxHeartbeats 1600000 in
set_option maxRecDepth 20000 in
theorem term_end (g : Nat) (s : ByteArray) (a : Nat) (out : List (Int × Int)) (hs : s.size ≤ 1048000) (ho : out.length ≤ a) (ha : a = s.size) : MReads 75 g s a out (false, a, out) := by
  intro w h
  have HR : Hid (Rdr w g s a out) := h
  have c0 := h.c0
  have c1 := h.c1
  have f1 := h.f1
  have hlt := h.lt
  have i2 : (s.size : Int) ≤ 1048000 := by omega
  have j1 : ((a : Int) == s.size) = true := by simp; omega
  have HA : Hid (a = s.size) := ha
  clear h ha
  go_enter Tryd.func75, Tryd.ntmps75
  go_wp2_with fail
  go_big_quiet (fail)
  go_wp2
  go_ret
  exact ⟨rfl, HR.out.drewN _, below_drewN g _⟩
set_option maxHeartbeats 1600000 in
set_option maxRecDepth 20000 in
theorem term_digit (g : Nat) (s : ByteArray) (a : Nat) (out : List (Int × Int)) (hs : s.size ≤ 1048000) (ho : out.length ≤ a) (ha : a < s.size) (hb : 48 ≤ (s[a]).toNat ∧ (s[a]).toNat ≤ 57) (R : Rd) (HS : MReads 85 g s a out R) : MReads 75 g s a out R := by
  intro w h
  have HR : Hid (Rdr w g s a out) := h
  have c0 := h.c0
  have c1 := h.c1
  have f1 := h.f1
  have hlt := h.lt
  have i2 : (s.size : Int) ≤ 1048000 := by omega
  obtain ⟨x, hx⟩ : ∃ x : Int, ((s[a]).toNat : Int) = x := ⟨_, rfl⟩
  have i1 : (a : Int) < s.size := by omega
  have j1 : ((a : Int) == s.size) = false := by simp; omega
  have hix : ∀ W, (Instr.index 9 (.string s) (.int .i64 (a : Int))).run Tryd.prog W = .ok (.int .u8 x) W := by
    intro W
    rw [run_index_string W 9 s .i64 _ Tryd.underlying9, dif_pos (show (0 : Int) ≤ (a : Int) ∧ (a : Int) < s.size from ⟨by omega, by omega⟩)]
    show Result.ok (Value.int .u8 (((s[a]).toNat : Nat) : Int)) W = _
    rw [hx]
  have k1 : decide ((48 : Int) ≤ x) = true := by simp; omega
  have k2 : decide (x ≤ 57) = true := by simp; omega
  have HC : Hid (∀ W, Rdr W g s a out → Calls Tryd.prog 85 #[.pointer (some ⟨g, 0, none⟩)] W fun e w' => e = .returned (.bool R.1) ∧ Rdr w' g s R.2.1 R.2.2 ∧ Below g W w') := HS
  clear hx
  clear hb HS
  clear h
  go_enter Tryd.func75, Tryd.ntmps75
  go_wp2_with fail
  go_big_quiet (fail)
  revert nq; intro q1
  go_wp2_with fail
  go_big_quiet (fail)
  revert nq; intro q2
  go_wp2_with fail
  refine (HC.out _ (HR.out.drewN _)).mono ?_
  rintro e w1 ⟨rfl, hR1, hb1⟩
  have hB1 := (below_drewN g (q1 + q2)).trans hb1
  clear HC c0 c1 f1
  go_wp2
  go_ret
  exact ⟨rfl, hR1, hB1⟩
set_option maxHeartbeats 1600000 in
set_option maxRecDepth 20000 in
theorem term_minus (g : Nat) (s : ByteArray) (a : Nat) (out : List (Int × Int)) (hs : s.size ≤ 1048000) (ho : out.length ≤ a) (ha : a < s.size) (hb : (s[a]).toNat = 45) (R : Rd) (HS : MReads 85 g s a out R) : MReads 75 g s a out R := by
  intro w h
  have HR : Hid (Rdr w g s a out) := h
  have c0 := h.c0
  have c1 := h.c1
  have f1 := h.f1
  have hlt := h.lt
  have i2 : (s.size : Int) ≤ 1048000 := by omega
  have i1 : (a : Int) < s.size := by omega
  have j1 : ((a : Int) == s.size) = false := by simp; omega
  have hix : ∀ W, (Instr.index 9 (.string s) (.int .i64 (a : Int))).run Tryd.prog W = .ok (.int .u8 45) W := by
    intro W
    rw [run_index_string W 9 s .i64 _ Tryd.underlying9, dif_pos (show (0 : Int) ≤ (a : Int) ∧ (a : Int) < s.size from ⟨by omega, by omega⟩)]
    show Result.ok (Value.int .u8 (((s[a]).toNat : Nat) : Int)) W = _
    rw [hb]; rfl
  have HC : Hid (∀ W, Rdr W g s a out → Calls Tryd.prog 85 #[.pointer (some ⟨g, 0, none⟩)] W fun e w' => e = .returned (.bool R.1) ∧ Rdr w' g s R.2.1 R.2.2 ∧ Below g W w') := HS
  clear hb HS
  clear h
  go_enter Tryd.func75, Tryd.ntmps75
  go_wp2_with fail
  go_big_quiet (fail)
  revert nq; intro q1
  go_wp2_with fail
  go_big_quiet (fail)
  revert nq; intro q2
  go_wp2_with fail
  refine (HC.out _ (HR.out.drewN _)).mono ?_
  rintro e w1 ⟨rfl, hR1, hb1⟩
  have hB1 := (below_drewN g (q1 + q2)).trans hb1
  clear HC c0 c1 f1
  go_wp2
  go_ret
  exact ⟨rfl, hR1, hB1⟩
set_option maxHeartbeats 1600000 in
set_option maxRecDepth 20000 in
theorem term_bad (g : Nat) (s : ByteArray) (a : Nat) (out : List (Int × Int)) (hs : s.size ≤ 1048000) (ho : out.length ≤ a) (ha : a < s.size) (n1 : ¬ (48 ≤ (s[a]).toNat ∧ (s[a]).toNat ≤ 57)) (n2 : ¬ (s[a]).toNat = 45) (n3 : ¬ (97 ≤ (s[a]).toNat ∧ (s[a]).toNat < 101)) (n4 : ¬ (s[a]).toNat = 126) (n5 : ¬ (s[a]).toNat = 40) : MReads 75 g s a out (false, a, out) := by
  intro w h
  have HR : Hid (Rdr w g s a out) := h
  have c0 := h.c0
  have c1 := h.c1
  have f1 := h.f1
  have hlt := h.lt
  have i2 : (s.size : Int) ≤ 1048000 := by omega
  obtain ⟨x, hx⟩ : ∃ x : Int, ((s[a]).toNat : Int) = x := ⟨_, rfl⟩
  have i1 : (a : Int) < s.size := by omega
  have j1 : ((a : Int) == s.size) = false := by simp; omega
  have hix : ∀ W, (Instr.index 9 (.string s) (.int .i64 (a : Int))).run Tryd.prog W = .ok (.int .u8 x) W := by
    intro W
    rw [run_index_string W 9 s .i64 _ Tryd.underlying9, dif_pos (show (0 : Int) ≤ (a : Int) ∧ (a : Int) < s.size from ⟨by omega, by omega⟩)]
    show Result.ok (Value.int .u8 (((s[a]).toNat : Nat) : Int)) W = _
    rw [hx]
  have k3 : (x == 45) = false := by simp; omega
  have k6 : (x == 126) = false := by simp; omega
  have k7 : (x != 40) = true := by simp; omega
  have hcase : (decide ((48 : Int) ≤ x) = false ∧ decide ((97 : Int) ≤ x) = false) ∨ (decide ((48 : Int) ≤ x) = true ∧ decide (x ≤ 57) = false ∧ decide ((97 : Int) ≤ x) = false) ∨ (decide ((48 : Int) ≤ x) = true ∧ decide (x ≤ 57) = false ∧ decide ((97 : Int) ≤ x) = true ∧ decide (x < 101) = false) := by
    simp only [decide_eq_true_eq, decide_eq_false_iff_not]
    omega
  clear hx n1 n2 n3 n4 n5 h
  rcases hcase with ⟨k1, k4⟩ | ⟨k1, k2, k4⟩ | ⟨k1, k2, k4, k5⟩
  · go_enter Tryd.func75, Tryd.ntmps75
    go_wp2_with fail
    go_big_quiet (fail)
    revert nq; intro q1
    go_wp2_with fail
    go_big_quiet (fail)
    revert nq; intro q2
    go_wp2
    go_ret
    exact ⟨rfl, HR.out.drewN _, below_drewN g _⟩
  · go_enter Tryd.func75, Tryd.ntmps75
    go_wp2_with fail
    go_big_quiet (fail)
    revert nq; intro q1
    go_wp2_with fail
    go_big_quiet (fail)
    revert nq; intro q2
    go_wp2
    go_ret
    exact ⟨rfl, HR.out.drewN _, below_drewN g _⟩
  · go_enter Tryd.func75, Tryd.ntmps75
    go_wp2_with fail
    go_big_quiet (fail)
    revert nq; intro q1
    go_wp2_with fail
    go_big_quiet (fail)
    revert nq; intro q2
    go_wp2
    go_ret
    exact ⟨rfl, HR.out.drewN _, below_drewN g _⟩
set_option maxHeartbeats 1600000 in
set_option maxRecDepth 20000 in
theorem term_neg (g : Nat) (s : ByteArray) (a : Nat) (out : List (Int × Int)) (hs : s.size ≤ 1048000) (ho : out.length ≤ a) (ha : a < s.size) (hb : (s[a]).toNat = 126) (R : Rd) (hRl : R.2.2.length ≤ 1048000) (HS : MReads 75 g s (a + 1) out R) : MReads 75 g s a out (R.1, R.2.1, R.2.2 ++ [(3, 0)]) := by
  intro w h
  have HR : Hid (Rdr w g s a out) := h
  have c0 := h.c0
  have c1 := h.c1
  have f1 := h.f1
  have hlt := h.lt
  have i2 : (s.size : Int) ≤ 1048000 := by omega
  have i1 : (a : Int) < s.size := by omega
  have j1 : ((a : Int) == s.size) = false := by simp; omega
  have hix : ∀ W, (Instr.index 9 (.string s) (.int .i64 (a : Int))).run Tryd.prog W = .ok (.int .u8 126) W := by
    intro W
    rw [run_index_string W 9 s .i64 _ Tryd.underlying9, dif_pos (show (0 : Int) ≤ (a : Int) ∧ (a : Int) < s.size from ⟨by omega, by omega⟩)]
    show Result.ok (Value.int .u8 (((s[a]).toNat : Nat) : Int)) W = _
    rw [hb]; rfl
  obtain ⟨i0, hi0, hz0, hz1, hz2⟩ := info_parts infoNode
  obtain ⟨bb, pp, nn⟩ := R
  have HC : Hid (∀ W, Rdr W g s (a + 1) out → Calls Tryd.prog 75 #[.pointer (some ⟨g, 0, none⟩)] W fun e w' => e = .returned (.bool bb) ∧ Rdr w' g s pp nn ∧ Below g W w') := HS
  simp only at hRl ⊢
  clear hb HS
  clear h
  go_enter Tryd.func75, Tryd.ntmps75
  go_wp2_with fail
  go_big_quiet (fail)
  revert nq; intro q1
  go_wp2_with fail
  go_big_quiet (fail)
  revert nq; intro q2
  go_wp2_with fail
  obtain ⟨W, hW⟩ : ∃ W, (w.drewN (q1 + q2)).setCell ⟨g, 1, none⟩ (.int .i64 ((a : Int) + 1)) = W := ⟨_, rfl⟩
  have hR1 : Rdr W g s (a + 1) out := by rw [← hW]; exact (HR.out.drewN _).move (a + 1)
  have hBW : Below g w W := by rw [← hW]; exact (below_drewN g _).trans (below_set _)
  try rw [hW]
  clear hW HR c0 c1 f1 hlt
  refine (HC.out _ hR1).mono ?_
  rintro e w1 ⟨rfl, hR2, hb1⟩
  have hB1 := hBW.trans hb1
  have HA : Hid (Rdr w1 g s pp nn) := hR2
  clear HC hR1 hBW hb1
  obtain ⟨lt, _, _, ⟨vo, c2, hown⟩, _, f2⟩ := hR2
  obtain ⟨po, co, rfl⟩ := own_shape hown
  go_wp2_with (at_builtin; refine wpList_append_own _ rfl _ _ 27 rfl (g + 1) 76 i0 (.agg #[.int .i64 0, .int .i64 0]) 2 16 Tryd.underlying27 hi0 hz0 hz1 hz2 rfl (by decide) _ _ _ rfl (hown.alloc _) ⟨w1.heap.size, 0, none⟩ 1 1 [.int .i64 3, .int .i64 0] rfl (by simp) (two_new w1 _ _ _) (fun u hu => by rcases List.mem_cons.1 hu with rfl | hu; rfl; rw [List.mem_singleton.1 hu]; rfl) (by unfold maxLen; omega) (by omega) (by simp; omega) ?_; intro v' w5 hown5 hg5 hat5; obtain ⟨p5, q5, rfl⟩ := own_shape hown5; have hB5 : Below (g + 1) w1 w5 := ((Below.refl _ _).alloc lt _).grown hg5 (by simp; omega) (own_ge hown); have d2 := (hB5.cell (p := ⟨g, 2, none⟩) (by simp)).trans c2; have e2 := (hB5.frozen (p := ⟨g, 2, none⟩) (by simp)).trans f2)
  go_returns
  exact ⟨rfl, HA.out.push (n := nn.length + 1) hB5 (by simp) (by rw [flat_append]; exact hown5), (hB1.trans (hB5.mono (by omega))).trans (below_set _)⟩
set_option maxHeartbeats 1600000 in
set_option maxRecDepth 20000 in
theorem term_open1 (g : Nat) (s : ByteArray) (a : Nat) (out : List (Int × Int)) (hs : s.size ≤ 1048000) (ho : out.length ≤ a) (ha : a < s.size) (hb : (s[a]).toNat = 40) (R : Rd) (hR0 : R.1 = false) (HS : MReads 75 g s (a + 1) out R) : MReads 75 g s a out R := by
  intro w h
  have HR : Hid (Rdr w g s a out) := h
  have c0 := h.c0
  have c1 := h.c1
  have f1 := h.f1
  have hlt := h.lt
  have i2 : (s.size : Int) ≤ 1048000 := by omega
  have i1 : (a : Int) < s.size := by omega
  have j1 : ((a : Int) == s.size) = false := by simp; omega
  have hix : ∀ W, (Instr.index 9 (.string s) (.int .i64 (a : Int))).run Tryd.prog W = .ok (.int .u8 40) W := by
    intro W
    rw [run_index_string W 9 s .i64 _ Tryd.underlying9, dif_pos (show (0 : Int) ≤ (a : Int) ∧ (a : Int) < s.size from ⟨by omega, by omega⟩)]
    show Result.ok (Value.int .u8 (((s[a]).toNat : Nat) : Int)) W = _
    rw [hb]; rfl
  obtain ⟨bb, pp, nn⟩ := R
  obtain rfl : bb = false := hR0
  have HC : Hid (∀ W, Rdr W g s (a + 1) out → Calls Tryd.prog 75 #[.pointer (some ⟨g, 0, none⟩)] W fun e w' => e = .returned (.bool false) ∧ Rdr w' g s pp nn ∧ Below g W w') := HS
  clear hb HS
  clear h
  go_enter Tryd.func75, Tryd.ntmps75
  go_wp2_with fail
  go_big_quiet (fail)
  revert nq; intro q1
  go_wp2_with fail
  go_big_quiet (fail)
  revert nq; intro q2
  go_wp2_with fail
  obtain ⟨W, hW⟩ : ∃ W, (w.drewN (q1 + q2)).setCell ⟨g, 1, none⟩ (.int .i64 ((a : Int) + 1)) = W := ⟨_, rfl⟩
  have hR1 : Rdr W g s (a + 1) out := by rw [← hW]; exact (HR.out.drewN _).move (a + 1)
  have hBW : Below g w W := by rw [← hW]; exact (below_drewN g _).trans (below_set _)
  try rw [hW]
  clear hW HR c0 c1 f1 hlt
  refine (HC.out _ hR1).mono ?_
  rintro e w1 ⟨rfl, hR2, hb1⟩
  have hB1 := hBW.trans hb1
  clear HC hR1 hBW hb1
  go_wp2
  go_ret
  exact ⟨rfl, hR2, hB1⟩
set_option maxHeartbeats 1600000 in
set_option maxRecDepth 20000 in
theorem term_two0 (g : Nat) (s : ByteArray) (a : Nat) (out : List (Int × Int)) (hs : s.size ≤ 1048000) (ho : out.length ≤ a) (ha : a < s.size) (hb : (s[a]).toNat = 40) (p : Nat) (nn : List (Int × Int)) (HS : MReads 75 g s (a + 1) out (true, p, nn)) (hq : byteIs s.data.toList p 63 = false) (hp : p ≤ s.size) (at2 : Nat) (hT : twoR s.data.toList p = (0, at2)) : MReads 75 g s a out (false, at2, nn) := by
  intro w h
  have HR : Hid (Rdr w g s a out) := h
  have c0 := h.c0
  have c1 := h.c1
  have f1 := h.f1
  have hlt := h.lt
  have i2 : (s.size : Int) ≤ 1048000 := by omega
  have i1 : (a : Int) < s.size := by omega
  have j1 : ((a : Int) == s.size) = false := by simp; omega
  have hix : ∀ W, (Instr.index 9 (.string s) (.int .i64 (a : Int))).run Tryd.prog W = .ok (.int .u8 40) W := by
    intro W
    rw [run_index_string W 9 s .i64 _ Tryd.underlying9, dif_pos (show (0 : Int) ≤ (a : Int) ∧ (a : Int) < s.size from ⟨by omega, by omega⟩)]
    show Result.ok (Value.int .u8 (((s[a]).toNat : Nat) : Int)) W = _
    rw [hb]; rfl
  have HC : Hid (∀ W, Rdr W g s (a + 1) out → Calls Tryd.prog 75 #[.pointer (some ⟨g, 0, none⟩)] W fun e w' => e = .returned (.bool true) ∧ Rdr w' g s p nn ∧ Below g W w') := HS
  have HQ : Hid (∀ W, Rdr W g s p nn → Calls Tryd.prog 87 #[.pointer (some ⟨g, 0, none⟩), .int .u8 63] W fun e w' => e = .returned (.bool false) ∧ Rdr w' g s p nn ∧ Below g W w') := fun W hW => by have := byte_any W g s p nn 63 hW (by omega); rw [hq, if_neg (by decide)] at this; exact this
  have HT : Hid (∀ W, Rdr W g s p nn → Calls Tryd.prog 88 #[.pointer (some ⟨g, 0, none⟩)] W fun e w' => e = .returned (.int .i64 0) ∧ Rdr w' g s at2 nn ∧ Below g W w') := fun W hW => by have := two_any W g s p nn hW (by omega) hp; rw [two_plain, hT] at this; exact this
  clear hb HS hT hq
  clear h
  go_enter Tryd.func75, Tryd.ntmps75
  go_wp2_with fail
  go_big_quiet (fail)
  revert nq; intro q1
  go_wp2_with fail
  go_big_quiet (fail)
  revert nq; intro q2
  go_wp2_with fail
  obtain ⟨W, hW⟩ : ∃ W, (w.drewN (q1 + q2)).setCell ⟨g, 1, none⟩ (.int .i64 ((a : Int) + 1)) = W := ⟨_, rfl⟩
  have hR1 : Rdr W g s (a + 1) out := by rw [← hW]; exact (HR.out.drewN _).move (a + 1)
  have hBW : Below g w W := by rw [← hW]; exact (below_drewN g _).trans (below_set _)
  try rw [hW]
  clear hW HR c0 c1 f1 hlt
  refine (HC.out _ hR1).mono ?_
  rintro e w1 ⟨rfl, r1, b1⟩
  go_wp2_with fail
  refine (HQ.out _ r1).mono ?_
  rintro e w2 ⟨rfl, r2, b2⟩
  go_wp2_with fail
  refine (HT.out _ r2).mono ?_
  rintro e w3 ⟨rfl, r3, b3⟩
  go_wp2
  go_ret
  exact ⟨rfl, r3, (((hBW.trans b1).trans b2).trans b3)⟩
set_option maxHeartbeats 1600000 in
set_option maxRecDepth 20000 in
theorem term_two1 (g : Nat) (s : ByteArray) (a : Nat) (out : List (Int × Int)) (hs : s.size ≤ 1048000) (ho : out.length ≤ a) (ha : a < s.size) (hb : (s[a]).toNat = 40) (p : Nat) (nn : List (Int × Int)) (HS : MReads 75 g s (a + 1) out (true, p, nn)) (hq : byteIs s.data.toList p 63 = false) (hp : p ≤ s.size) (op : Int) (at2 : Nat) (hop : op ≠ 0) (hT : twoR s.data.toList p = (op, at2)) (p2 : Nat) (n2 : List (Int × Int)) (HS2 : MReads 75 g s at2 nn (false, p2, n2)) : MReads 75 g s a out (false, p2, n2) := by
  intro w h
  have HR : Hid (Rdr w g s a out) := h
  have c0 := h.c0
  have c1 := h.c1
  have f1 := h.f1
  have hlt := h.lt
  have i2 : (s.size : Int) ≤ 1048000 := by omega
  have i1 : (a : Int) < s.size := by omega
  have j1 : ((a : Int) == s.size) = false := by simp; omega
  have hix : ∀ W, (Instr.index 9 (.string s) (.int .i64 (a : Int))).run Tryd.prog W = .ok (.int .u8 40) W := by
    intro W
    rw [run_index_string W 9 s .i64 _ Tryd.underlying9, dif_pos (show (0 : Int) ≤ (a : Int) ∧ (a : Int) < s.size from ⟨by omega, by omega⟩)]
    show Result.ok (Value.int .u8 (((s[a]).toNat : Nat) : Int)) W = _
    rw [hb]; rfl
  have HC : Hid (∀ W, Rdr W g s (a + 1) out → Calls Tryd.prog 75 #[.pointer (some ⟨g, 0, none⟩)] W fun e w' => e = .returned (.bool true) ∧ Rdr w' g s p nn ∧ Below g W w') := HS
  have HQ : Hid (∀ W, Rdr W g s p nn → Calls Tryd.prog 87 #[.pointer (some ⟨g, 0, none⟩), .int .u8 63] W fun e w' => e = .returned (.bool false) ∧ Rdr w' g s p nn ∧ Below g W w') := fun W hW => by have := byte_any W g s p nn 63 hW (by omega); rw [hq, if_neg (by decide)] at this; exact this
  have HT : Hid (∀ W, Rdr W g s p nn → Calls Tryd.prog 88 #[.pointer (some ⟨g, 0, none⟩)] W fun e w' => e = .returned (.int .i64 op) ∧ Rdr w' g s at2 nn ∧ Below g W w') := fun W hW => by have := two_any W g s p nn hW (by omega) hp; rw [two_plain, hT] at this; exact this
  have HP : Hid (∀ W, Rdr W g s at2 nn → Calls Tryd.prog 75 #[.pointer (some ⟨g, 0, none⟩)] W fun e w' => e = .returned (.bool false) ∧ Rdr w' g s p2 n2 ∧ Below g W w') := HS2
  have ho0 : (op == 0) = false := by simpa using hop
  clear hb HS HS2 hT hq hop
  clear h
  go_enter Tryd.func75, Tryd.ntmps75
  go_wp2_with fail
  go_big_quiet (fail)
  revert nq; intro q1
  go_wp2_with fail
  go_big_quiet (fail)
  revert nq; intro q2
  go_wp2_with fail
  obtain ⟨W, hW⟩ : ∃ W, (w.drewN (q1 + q2)).setCell ⟨g, 1, none⟩ (.int .i64 ((a : Int) + 1)) = W := ⟨_, rfl⟩
  have hR1 : Rdr W g s (a + 1) out := by rw [← hW]; exact (HR.out.drewN _).move (a + 1)
  have hBW : Below g w W := by rw [← hW]; exact (below_drewN g _).trans (below_set _)
  try rw [hW]
  clear hW HR c0 c1 f1 hlt
  refine (HC.out _ hR1).mono ?_
  rintro e w1 ⟨rfl, r1, b1⟩
  go_wp2_with fail
  refine (HQ.out _ r1).mono ?_
  rintro e w2 ⟨rfl, r2, b2⟩
  go_wp2_with fail
  refine (HT.out _ r2).mono ?_
  rintro e w3 ⟨rfl, r3, b3⟩
  go_wp2_with fail
  refine (HP.out _ r3).mono ?_
  rintro e w4 ⟨rfl, r4, b4⟩
  go_wp2
  go_ret
  exact ⟨rfl, r4, ((((hBW.trans b1).trans b2).trans b3).trans b4)⟩
set_option maxHeartbeats 1600000 in
set_option maxRecDepth 20000 in
theorem term_two2 (g : Nat) (s : ByteArray) (a : Nat) (out : List (Int × Int)) (hs : s.size ≤ 1048000) (ho : out.length ≤ a) (ha : a < s.size) (hb : (s[a]).toNat = 40) (p : Nat) (nn : List (Int × Int)) (HS : MReads 75 g s (a + 1) out (true, p, nn)) (hq : byteIs s.data.toList p 63 = false) (hp : p ≤ s.size) (op : Int) (at2 : Nat) (hop : op ≠ 0) (hT : twoR s.data.toList p = (op, at2)) (p2 : Nat) (n2 : List (Int × Int)) (HS2 : MReads 75 g s at2 nn (true, p2, n2)) (hc : byteIs s.data.toList p2 41 = false) : MReads 75 g s a out (false, p2, n2) := by
  intro w h
  have HR : Hid (Rdr w g s a out) := h
  have c0 := h.c0
  have c1 := h.c1
  have f1 := h.f1
  have hlt := h.lt
  have i2 : (s.size : Int) ≤ 1048000 := by omega
  have i1 : (a : Int) < s.size := by omega
  have j1 : ((a : Int) == s.size) = false := by simp; omega
  have hix : ∀ W, (Instr.index 9 (.string s) (.int .i64 (a : Int))).run Tryd.prog W = .ok (.int .u8 40) W := by
    intro W
    rw [run_index_string W 9 s .i64 _ Tryd.underlying9, dif_pos (show (0 : Int) ≤ (a : Int) ∧ (a : Int) < s.size from ⟨by omega, by omega⟩)]
    show Result.ok (Value.int .u8 (((s[a]).toNat : Nat) : Int)) W = _
    rw [hb]; rfl
  have HC : Hid (∀ W, Rdr W g s (a + 1) out → Calls Tryd.prog 75 #[.pointer (some ⟨g, 0, none⟩)] W fun e w' => e = .returned (.bool true) ∧ Rdr w' g s p nn ∧ Below g W w') := HS
  have HQ : Hid (∀ W, Rdr W g s p nn → Calls Tryd.prog 87 #[.pointer (some ⟨g, 0, none⟩), .int .u8 63] W fun e w' => e = .returned (.bool false) ∧ Rdr w' g s p nn ∧ Below g W w') := fun W hW => by have := byte_any W g s p nn 63 hW (by omega); rw [hq, if_neg (by decide)] at this; exact this
  have HT : Hid (∀ W, Rdr W g s p nn → Calls Tryd.prog 88 #[.pointer (some ⟨g, 0, none⟩)] W fun e w' => e = .returned (.int .i64 op) ∧ Rdr w' g s at2 nn ∧ Below g W w') := fun W hW => by have := two_any W g s p nn hW (by omega) hp; rw [two_plain, hT] at this; exact this
  have HP : Hid (∀ W, Rdr W g s at2 nn → Calls Tryd.prog 75 #[.pointer (some ⟨g, 0, none⟩)] W fun e w' => e = .returned (.bool true) ∧ Rdr w' g s p2 n2 ∧ Below g W w') := HS2
  have HB : Hid (∀ W, Rdr W g s p2 n2 → Calls Tryd.prog 87 #[.pointer (some ⟨g, 0, none⟩), .int .u8 41] W fun e w' => e = .returned (.bool false) ∧ Rdr w' g s p2 n2 ∧ Below g W w') := fun W hW => by have := byte_any W g s p2 n2 41 hW (by omega); rw [hc, if_neg (by decide)] at this; exact this
  have ho0 : (op == 0) = false := by simpa using hop
  clear hb HS HS2 hT hq hop hc
  clear h
  go_enter Tryd.func75, Tryd.ntmps75
  go_wp2_with fail
  go_big_quiet (fail)
  revert nq; intro q1
  go_wp2_with fail
  go_big_quiet (fail)
  revert nq; intro q2
  go_wp2_with fail
  obtain ⟨W, hW⟩ : ∃ W, (w.drewN (q1 + q2)).setCell ⟨g, 1, none⟩ (.int .i64 ((a : Int) + 1)) = W := ⟨_, rfl⟩
  have hR1 : Rdr W g s (a + 1) out := by rw [← hW]; exact (HR.out.drewN _).move (a + 1)
  have hBW : Below g w W := by rw [← hW]; exact (below_drewN g _).trans (below_set _)
  try rw [hW]
  clear hW HR c0 c1 f1 hlt
  refine (HC.out _ hR1).mono ?_
  rintro e w1 ⟨rfl, r1, b1⟩
  go_wp2_with fail
  refine (HQ.out _ r1).mono ?_
  rintro e w2 ⟨rfl, r2, b2⟩
  go_wp2_with fail
  refine (HT.out _ r2).mono ?_
  rintro e w3 ⟨rfl, r3, b3⟩
  go_wp2_with fail
  refine (HP.out _ r3).mono ?_
  rintro e w4 ⟨rfl, r4, b4⟩
  go_wp2_with fail
  refine (HB.out _ r4).mono ?_
  rintro e w5b ⟨rfl, r5, b5⟩
  go_wp2
  go_ret
  exact ⟨rfl, r5, (((((hBW.trans b1).trans b2).trans b3).trans b4).trans b5)⟩
set_option maxHeartbeats 1600000 in
set_option maxRecDepth 20000 in
theorem term_two3 (g : Nat) (s : ByteArray) (a : Nat) (out : List (Int × Int)) (hs : s.size ≤ 1048000) (ho : out.length ≤ a) (ha : a < s.size) (hb : (s[a]).toNat = 40) (p : Nat) (nn : List (Int × Int)) (HS : MReads 75 g s (a + 1) out (true, p, nn)) (hq : byteIs s.data.toList p 63 = false) (hp : p ≤ s.size) (op : Int) (at2 : Nat) (hop : op ≠ 0) (hT : twoR s.data.toList p = (op, at2)) (p2 : Nat) (n2 : List (Int × Int)) (HS2 : MReads 75 g s at2 nn (true, p2, n2)) (hc : byteIs s.data.toList p2 41 = true) (hn2 : n2.length ≤ 1048000) : MReads 75 g s a out (true, p2 + 1, n2 ++ [(op, 0)]) := by
  intro w h
  have HR : Hid (Rdr w g s a out) := h
  have c0 := h.c0
  have c1 := h.c1
  have f1 := h.f1
  have hlt := h.lt
  have i2 : (s.size : Int) ≤ 1048000 := by omega
  have i1 : (a : Int) < s.size := by omega
  have j1 : ((a : Int) == s.size) = false := by simp; omega
  have hix : ∀ W, (Instr.index 9 (.string s) (.int .i64 (a : Int))).run Tryd.prog W = .ok (.int .u8 40) W := by
    intro W
    rw [run_index_string W 9 s .i64 _ Tryd.underlying9, dif_pos (show (0 : Int) ≤ (a : Int) ∧ (a : Int) < s.size from ⟨by omega, by omega⟩)]
    show Result.ok (Value.int .u8 (((s[a]).toNat : Nat) : Int)) W = _
    rw [hb]; rfl
  have HC : Hid (∀ W, Rdr W g s (a + 1) out → Calls Tryd.prog 75 #[.pointer (some ⟨g, 0, none⟩)] W fun e w' => e = .returned (.bool true) ∧ Rdr w' g s p nn ∧ Below g W w') := HS
  have HQ : Hid (∀ W, Rdr W g s p nn → Calls Tryd.prog 87 #[.pointer (some ⟨g, 0, none⟩), .int .u8 63] W fun e w' => e = .returned (.bool false) ∧ Rdr w' g s p nn ∧ Below g W w') := fun W hW => by have := byte_any W g s p nn 63 hW (by omega); rw [hq, if_neg (by decide)] at this; exact this
  have HT : Hid (∀ W, Rdr W g s p nn → Calls Tryd.prog 88 #[.pointer (some ⟨g, 0, none⟩)] W fun e w' => e = .returned (.int .i64 op) ∧ Rdr w' g s at2 nn ∧ Below g W w') := fun W hW => by have := two_any W g s p nn hW (by omega) hp; rw [two_plain, hT] at this; exact this
  have HP : Hid (∀ W, Rdr W g s at2 nn → Calls Tryd.prog 75 #[.pointer (some ⟨g, 0, none⟩)] W fun e w' => e = .returned (.bool true) ∧ Rdr w' g s p2 n2 ∧ Below g W w') := HS2
  have HB : Hid (∀ W, Rdr W g s p2 n2 → Calls Tryd.prog 87 #[.pointer (some ⟨g, 0, none⟩), .int .u8 41] W fun e w' => e = .returned (.bool true) ∧ Rdr w' g s (p2 + 1) n2 ∧ Below g W w') := fun W hW => by have := byte_any W g s p2 n2 41 hW (by omega); rw [hc, if_pos rfl] at this; exact this
  have ho0 : (op == 0) = false := by simpa using hop
  obtain ⟨i0, hi0, hz0, hz1, hz2⟩ := info_parts infoNode
  clear hb HS HS2 hT hq hop hc
  clear h
  go_enter Tryd.func75, Tryd.ntmps75
  go_wp2_with fail
  go_big_quiet (fail)
  revert nq; intro q1
  go_wp2_with fail
  go_big_quiet (fail)
  revert nq; intro q2
  go_wp2_with fail
  obtain ⟨W, hW⟩ : ∃ W, (w.drewN (q1 + q2)).setCell ⟨g, 1, none⟩ (.int .i64 ((a : Int) + 1)) = W := ⟨_, rfl⟩
  have hR1 : Rdr W g s (a + 1) out := by rw [← hW]; exact (HR.out.drewN _).move (a + 1)
  have hBW : Below g w W := by rw [← hW]; exact (below_drewN g _).trans (below_set _)
  try rw [hW]
  clear hW HR c0 c1 f1 hlt
  refine (HC.out _ hR1).mono ?_
  rintro e w1 ⟨rfl, r1, b1⟩
  go_wp2_with fail
  refine (HQ.out _ r1).mono ?_
  rintro e w2 ⟨rfl, r2, b2⟩
  go_wp2_with fail
  refine (HT.out _ r2).mono ?_
  rintro e w3 ⟨rfl, r3, b3⟩
  go_wp2_with fail
  refine (HP.out _ r3).mono ?_
  rintro e w4 ⟨rfl, r4, b4⟩
  go_wp2_with fail
  refine (HB.out _ r4).mono ?_
  rintro e w6 ⟨rfl, r5, b5⟩
  have hB1 := (((((hBW.trans b1).trans b2).trans b3).trans b4).trans b5)
  have HA : Hid (Rdr w6 g s (p2 + 1) n2) := r5
  clear HC HQ HT HP HB r1 r2 r3 r4 b1 b2 b3 b4 b5 hR1 hBW
  obtain ⟨lt, _, _, ⟨vo, c2, hown⟩, _, f2⟩ := r5
  obtain ⟨po, co, rfl⟩ := own_shape hown
  go_wp2_with (at_builtin; refine wpList_append_own _ rfl _ _ 27 rfl (g + 1) 76 i0 (.agg #[.int .i64 0, .int .i64 0]) 2 16 Tryd.underlying27 hi0 hz0 hz1 hz2 rfl (by decide) _ _ _ rfl (hown.alloc _) ⟨w6.heap.size, 0, none⟩ 1 1 [.int .i64 op, .int .i64 0] rfl (by simp) (two_new w6 _ _ _) (fun u hu => by rcases List.mem_cons.1 hu with rfl | hu; rfl; rw [List.mem_singleton.1 hu]; rfl) (by unfold maxLen; omega) (by omega) (by simp; omega) ?_; intro v' w5 hown5 hg5 hat5; obtain ⟨p5, q5, rfl⟩ := own_shape hown5; have hB5 : Below (g + 1) w6 w5 := ((Below.refl _ _).alloc lt _).grown hg5 (by simp; omega) (own_ge hown); have d2 := (hB5.cell (p := ⟨g, 2, none⟩) (by simp)).trans c2; have e2 := (hB5.frozen (p := ⟨g, 2, none⟩) (by simp)).trans f2)
  go_returns
  exact ⟨rfl, HA.out.push (n := n2.length + 1) hB5 (by simp) (by rw [flat_append]; exact hown5), (hB1.trans (hB5.mono (by omega))).trans (below_set _)⟩
set_option maxHeartbeats 1600000 in
set_option maxRecDepth 20000 in
theorem term_if1 (g : Nat) (s : ByteArray) (a : Nat) (out : List (Int × Int)) (hs : s.size ≤ 1048000) (ho : out.length ≤ a) (ha : a < s.size) (hb : (s[a]).toNat = 40) (p : Nat) (nn : List (Int × Int)) (HS : MReads 75 g s (a + 1) out (true, p, nn)) (hq : byteIs s.data.toList p 63 = true) (p2 : Nat) (n2 : List (Int × Int)) (HS2 : MReads 75 g s (p + 1) nn (false, p2, n2)) : MReads 75 g s a out (false, p2, n2) := by
  intro w h
  have HR : Hid (Rdr w g s a out) := h
  have c0 := h.c0
  have c1 := h.c1
  have f1 := h.f1
  have hlt := h.lt
  have i2 : (s.size : Int) ≤ 1048000 := by omega
  have i1 : (a : Int) < s.size := by omega
  have j1 : ((a : Int) == s.size) = false := by simp; omega
  have hix : ∀ W, (Instr.index 9 (.string s) (.int .i64 (a : Int))).run Tryd.prog W = .ok (.int .u8 40) W := by
    intro W
    rw [run_index_string W 9 s .i64 _ Tryd.underlying9, dif_pos (show (0 : Int) ≤ (a : Int) ∧ (a : Int) < s.size from ⟨by omega, by omega⟩)]
    show Result.ok (Value.int .u8 (((s[a]).toNat : Nat) : Int)) W = _
    rw [hb]; rfl
  have HC : Hid (∀ W, Rdr W g s (a + 1) out → Calls Tryd.prog 75 #[.pointer (some ⟨g, 0, none⟩)] W fun e w' => e = .returned (.bool true) ∧ Rdr w' g s p nn ∧ Below g W w') := HS
  have HQ : Hid (∀ W, Rdr W g s p nn → Calls Tryd.prog 87 #[.pointer (some ⟨g, 0, none⟩), .int .u8 63] W fun e w' => e = .returned (.bool true) ∧ Rdr w' g s (p + 1) nn ∧ Below g W w') := fun W hW => by have := byte_any W g s p nn 63 hW (by omega); rw [hq, if_pos rfl] at this; exact this
  have HP : Hid (∀ W, Rdr W g s (p + 1) nn → Calls Tryd.prog 75 #[.pointer (some ⟨g, 0, none⟩)] W fun e w' => e = .returned (.bool false) ∧ Rdr w' g s p2 n2 ∧ Below g W w') := HS2
  clear hb HS HS2 hq
  clear h
  go_enter Tryd.func75, Tryd.ntmps75
  go_wp2_with fail
  go_big_quiet (fail)
  revert nq; intro q1
  go_wp2_with fail
  go_big_quiet (fail)
  revert nq; intro q2
  go_wp2_with fail
  obtain ⟨W, hW⟩ : ∃ W, (w.drewN (q1 + q2)).setCell ⟨g, 1, none⟩ (.int .i64 ((a : Int) + 1)) = W := ⟨_, rfl⟩
  have hR1 : Rdr W g s (a + 1) out := by rw [← hW]; exact (HR.out.drewN _).move (a + 1)
  have hBW : Below g w W := by rw [← hW]; exact (below_drewN g _).trans (below_set _)
  try rw [hW]
  clear hW HR c0 c1 f1 hlt
  refine (HC.out _ hR1).mono ?_
  rintro e w1 ⟨rfl, r1, b1⟩
  go_wp2_with fail
  refine (HQ.out _ r1).mono ?_
  rintro e w2 ⟨rfl, r2, b2⟩
  go_wp2_with fail
  refine (HP.out _ r2).mono ?_
  rintro e w3 ⟨rfl, r3, b3⟩
  go_wp2
  go_ret
  exact ⟨rfl, r3, (((hBW.trans b1).trans b2).trans b3)⟩
set_option maxHeartbeats 1600000 in
set_option maxRecDepth 20000 in
theorem term_if2 (g : Nat) (s : ByteArray) (a : Nat) (out : List (Int × Int)) (hs : s.size ≤ 1048000) (ho : out.length ≤ a) (ha : a < s.size) (hb : (s[a]).toNat = 40) (p : Nat) (nn : List (Int × Int)) (HS : MReads 75 g s (a + 1) out (true, p, nn)) (hq : byteIs s.data.toList p 63 = true) (p2 : Nat) (n2 : List (Int × Int)) (HS2 : MReads 75 g s (p + 1) nn (true, p2, n2)) (hc : byteIs s.data.toList p2 58 = false) : MReads 75 g s a out (false, p2, n2) := by
  intro w h
  have HR : Hid (Rdr w g s a out) := h
  have c0 := h.c0
  have c1 := h.c1
  have f1 := h.f1
  have hlt := h.lt
  have i2 : (s.size : Int) ≤ 1048000 := by omega
  have i1 : (a : Int) < s.size := by omega
  have j1 : ((a : Int) == s.size) = false := by simp; omega
  have hix : ∀ W, (Instr.index 9 (.string s) (.int .i64 (a : Int))).run Tryd.prog W = .ok (.int .u8 40) W := by
    intro W
    rw [run_index_string W 9 s .i64 _ Tryd.underlying9, dif_pos (show (0 : Int) ≤ (a : Int) ∧ (a : Int) < s.size from ⟨by omega, by omega⟩)]
    show Result.ok (Value.int .u8 (((s[a]).toNat : Nat) : Int)) W = _
    rw [hb]; rfl
  have HC : Hid (∀ W, Rdr W g s (a + 1) out → Calls Tryd.prog 75 #[.pointer (some ⟨g, 0, none⟩)] W fun e w' => e = .returned (.bool true) ∧ Rdr w' g s p nn ∧ Below g W w') := HS
  have HQ : Hid (∀ W, Rdr W g s p nn → Calls Tryd.prog 87 #[.pointer (some ⟨g, 0, none⟩), .int .u8 63] W fun e w' => e = .returned (.bool true) ∧ Rdr w' g s (p + 1) nn ∧ Below g W w') := fun W hW => by have := byte_any W g s p nn 63 hW (by omega); rw [hq, if_pos rfl] at this; exact this
  have HP : Hid (∀ W, Rdr W g s (p + 1) nn → Calls Tryd.prog 75 #[.pointer (some ⟨g, 0, none⟩)] W fun e w' => e = .returned (.bool true) ∧ Rdr w' g s p2 n2 ∧ Below g W w') := HS2
  have HB : Hid (∀ W, Rdr W g s p2 n2 → Calls Tryd.prog 87 #[.pointer (some ⟨g, 0, none⟩), .int .u8 58] W fun e w' => e = .returned (.bool false) ∧ Rdr w' g s p2 n2 ∧ Below g W w') := fun W hW => by have := byte_any W g s p2 n2 58 hW (by omega); rw [hc, if_neg (by decide)] at this; exact this
  clear hb HS HS2 hq hc
  clear h
  go_enter Tryd.func75, Tryd.ntmps75
  go_wp2_with fail
  go_big_quiet (fail)
  revert nq; intro q1
  go_wp2_with fail
  go_big_quiet (fail)
  revert nq; intro q2
  go_wp2_with fail
  obtain ⟨W, hW⟩ : ∃ W, (w.drewN (q1 + q2)).setCell ⟨g, 1, none⟩ (.int .i64 ((a : Int) + 1)) = W := ⟨_, rfl⟩
  have hR1 : Rdr W g s (a + 1) out := by rw [← hW]; exact (HR.out.drewN _).move (a + 1)
  have hBW : Below g w W := by rw [← hW]; exact (below_drewN g _).trans (below_set _)
  try rw [hW]
  clear hW HR c0 c1 f1 hlt
  refine (HC.out _ hR1).mono ?_
  rintro e w1 ⟨rfl, r1, b1⟩
  go_wp2_with fail
  refine (HQ.out _ r1).mono ?_
  rintro e w2 ⟨rfl, r2, b2⟩
  go_wp2_with fail
  refine (HP.out _ r2).mono ?_
  rintro e w3 ⟨rfl, r3, b3⟩
  go_wp2_with fail
  refine (HB.out _ r3).mono ?_
  rintro e w4 ⟨rfl, r4, b4⟩
  go_wp2
  go_ret
  exact ⟨rfl, r4, ((((hBW.trans b1).trans b2).trans b3).trans b4)⟩
set_option maxHeartbeats 1600000 in
set_option maxRecDepth 20000 in
theorem term_if3 (g : Nat) (s : ByteArray) (a : Nat) (out : List (Int × Int)) (hs : s.size ≤ 1048000) (ho : out.length ≤ a) (ha : a < s.size) (hb : (s[a]).toNat = 40) (p : Nat) (nn : List (Int × Int)) (HS : MReads 75 g s (a + 1) out (true, p, nn)) (hq : byteIs s.data.toList p 63 = true) (p2 : Nat) (n2 : List (Int × Int)) (HS2 : MReads 75 g s (p + 1) nn (true, p2, n2)) (hc : byteIs s.data.toList p2 58 = true) (p3 : Nat) (n3 : List (Int × Int)) (HS3 : MReads 75 g s (p2 + 1) n2 (false, p3, n3)) : MReads 75 g s a out (false, p3, n3) := by
  intro w h
  have HR : Hid (Rdr w g s a out) := h
  have c0 := h.c0
  have c1 := h.c1
  have f1 := h.f1
  have hlt := h.lt
  have i2 : (s.size : Int) ≤ 1048000 := by omega
  have i1 : (a : Int) < s.size := by omega
  have j1 : ((a : Int) == s.size) = false := by simp; omega
  have hix : ∀ W, (Instr.index 9 (.string s) (.int .i64 (a : Int))).run Tryd.prog W = .ok (.int .u8 40) W := by
    intro W
    rw [run_index_string W 9 s .i64 _ Tryd.underlying9, dif_pos (show (0 : Int) ≤ (a : Int) ∧ (a : Int) < s.size from ⟨by omega, by omega⟩)]
    show Result.ok (Value.int .u8 (((s[a]).toNat : Nat) : Int)) W = _
    rw [hb]; rfl
  have HC : Hid (∀ W, Rdr W g s (a + 1) out → Calls Tryd.prog 75 #[.pointer (some ⟨g, 0, none⟩)] W fun e w' => e = .returned (.bool true) ∧ Rdr w' g s p nn ∧ Below g W w') := HS
  have HQ : Hid (∀ W, Rdr W g s p nn → Calls Tryd.prog 87 #[.pointer (some ⟨g, 0, none⟩), .int .u8 63] W fun e w' => e = .returned (.bool true) ∧ Rdr w' g s (p + 1) nn ∧ Below g W w') := fun W hW => by have := byte_any W g s p nn 63 hW (by omega); rw [hq, if_pos rfl] at this; exact this
  have HP : Hid (∀ W, Rdr W g s (p + 1) nn → Calls Tryd.prog 75 #[.pointer (some ⟨g, 0, none⟩)] W fun e w' => e = .returned (.bool true) ∧ Rdr w' g s p2 n2 ∧ Below g W w') := HS2
  have HB : Hid (∀ W, Rdr W g s p2 n2 → Calls Tryd.prog 87 #[.pointer (some ⟨g, 0, none⟩), .int .u8 58] W fun e w' => e = .returned (.bool true) ∧ Rdr w' g s (p2 + 1) n2 ∧ Below g W w') := fun W hW => by have := byte_any W g s p2 n2 58 hW (by omega); rw [hc, if_pos rfl] at this; exact this
  have HP3 : Hid (∀ W, Rdr W g s (p2 + 1) n2 → Calls Tryd.prog 75 #[.pointer (some ⟨g, 0, none⟩)] W fun e w' => e = .returned (.bool false) ∧ Rdr w' g s p3 n3 ∧ Below g W w') := HS3
  clear hb HS HS2 hq hc HS3
  clear h
  go_enter Tryd.func75, Tryd.ntmps75
  go_wp2_with fail
  go_big_quiet (fail)
  revert nq; intro q1
  go_wp2_with fail
  go_big_quiet (fail)
  revert nq; intro q2
  go_wp2_with fail
  obtain ⟨W, hW⟩ : ∃ W, (w.drewN (q1 + q2)).setCell ⟨g, 1, none⟩ (.int .i64 ((a : Int) + 1)) = W := ⟨_, rfl⟩
  have hR1 : Rdr W g s (a + 1) out := by rw [← hW]; exact (HR.out.drewN _).move (a + 1)
  have hBW : Below g w W := by rw [← hW]; exact (below_drewN g _).trans (below_set _)
  try rw [hW]
  clear hW HR c0 c1 f1 hlt
  refine (HC.out _ hR1).mono ?_
  rintro e w1 ⟨rfl, r1, b1⟩
  go_wp2_with fail
  refine (HQ.out _ r1).mono ?_
  rintro e w2 ⟨rfl, r2, b2⟩
  go_wp2_with fail
  refine (HP.out _ r2).mono ?_
  rintro e w3 ⟨rfl, r3, b3⟩
  go_wp2_with fail
  refine (HB.out _ r3).mono ?_
  rintro e w4 ⟨rfl, r4, b4⟩
  go_wp2_with fail
  refine (HP3.out _ r4).mono ?_
  rintro e w7 ⟨rfl, r5, b5⟩
  go_wp2
  go_ret
  exact ⟨rfl, r5, (((((hBW.trans b1).trans b2).trans b3).trans b4).trans b5)⟩
set_option maxHeartbeats 1600000 in
set_option maxRecDepth 20000 in
theorem term_if4 (g : Nat) (s : ByteArray) (a : Nat) (out : List (Int × Int)) (hs : s.size ≤ 1048000) (ho : out.length ≤ a) (ha : a < s.size) (hb : (s[a]).toNat = 40) (p : Nat) (nn : List (Int × Int)) (HS : MReads 75 g s (a + 1) out (true, p, nn)) (hq : byteIs s.data.toList p 63 = true) (p2 : Nat) (n2 : List (Int × Int)) (HS2 : MReads 75 g s (p + 1) nn (true, p2, n2)) (hc : byteIs s.data.toList p2 58 = true) (p3 : Nat) (n3 : List (Int × Int)) (HS3 : MReads 75 g s (p2 + 1) n2 (true, p3, n3)) (hd : byteIs s.data.toList p3 41 = false) : MReads 75 g s a out (false, p3, n3) := by
  intro w h
  have HR : Hid (Rdr w g s a out) := h
  have c0 := h.c0
  have c1 := h.c1
  have f1 := h.f1
  have hlt := h.lt
  have i2 : (s.size : Int) ≤ 1048000 := by omega
  have i1 : (a : Int) < s.size := by omega
  have j1 : ((a : Int) == s.size) = false := by simp; omega
  have hix : ∀ W, (Instr.index 9 (.string s) (.int .i64 (a : Int))).run Tryd.prog W = .ok (.int .u8 40) W := by
    intro W
    rw [run_index_string W 9 s .i64 _ Tryd.underlying9, dif_pos (show (0 : Int) ≤ (a : Int) ∧ (a : Int) < s.size from ⟨by omega, by omega⟩)]
    show Result.ok (Value.int .u8 (((s[a]).toNat : Nat) : Int)) W = _
    rw [hb]; rfl
  have HC : Hid (∀ W, Rdr W g s (a + 1) out → Calls Tryd.prog 75 #[.pointer (some ⟨g, 0, none⟩)] W fun e w' => e = .returned (.bool true) ∧ Rdr w' g s p nn ∧ Below g W w') := HS
  have HQ : Hid (∀ W, Rdr W g s p nn → Calls Tryd.prog 87 #[.pointer (some ⟨g, 0, none⟩), .int .u8 63] W fun e w' => e = .returned (.bool true) ∧ Rdr w' g s (p + 1) nn ∧ Below g W w') := fun W hW => by have := byte_any W g s p nn 63 hW (by omega); rw [hq, if_pos rfl] at this; exact this
  have HP : Hid (∀ W, Rdr W g s (p + 1) nn → Calls Tryd.prog 75 #[.pointer (some ⟨g, 0, none⟩)] W fun e w' => e = .returned (.bool true) ∧ Rdr w' g s p2 n2 ∧ Below g W w') := HS2
  have HB : Hid (∀ W, Rdr W g s p2 n2 → Calls Tryd.prog 87 #[.pointer (some ⟨g, 0, none⟩), .int .u8 58] W fun e w' => e = .returned (.bool true) ∧ Rdr w' g s (p2 + 1) n2 ∧ Below g W w') := fun W hW => by have := byte_any W g s p2 n2 58 hW (by omega); rw [hc, if_pos rfl] at this; exact this
  have HP3 : Hid (∀ W, Rdr W g s (p2 + 1) n2 → Calls Tryd.prog 75 #[.pointer (some ⟨g, 0, none⟩)] W fun e w' => e = .returned (.bool true) ∧ Rdr w' g s p3 n3 ∧ Below g W w') := HS3
  have HD : Hid (∀ W, Rdr W g s p3 n3 → Calls Tryd.prog 87 #[.pointer (some ⟨g, 0, none⟩), .int .u8 41] W fun e w' => e = .returned (.bool false) ∧ Rdr w' g s p3 n3 ∧ Below g W w') := fun W hW => by have := byte_any W g s p3 n3 41 hW (by omega); rw [hd, if_neg (by decide)] at this; exact this
  clear hb HS HS2 hq hc HS3 hd
  clear h
  go_enter Tryd.func75, Tryd.ntmps75
  go_wp2_with fail
  go_big_quiet (fail)
  revert nq; intro q1
  go_wp2_with fail
  go_big_quiet (fail)
  revert nq; intro q2
  go_wp2_with fail
  obtain ⟨W, hW⟩ : ∃ W, (w.drewN (q1 + q2)).setCell ⟨g, 1, none⟩ (.int .i64 ((a : Int) + 1)) = W := ⟨_, rfl⟩
  have hR1 : Rdr W g s (a + 1) out := by rw [← hW]; exact (HR.out.drewN _).move (a + 1)
  have hBW : Below g w W := by rw [← hW]; exact (below_drewN g _).trans (below_set _)
  try rw [hW]
  clear hW HR c0 c1 f1 hlt
  refine (HC.out _ hR1).mono ?_
  rintro e w1 ⟨rfl, r1, b1⟩
  go_wp2_with fail
  refine (HQ.out _ r1).mono ?_
  rintro e w2 ⟨rfl, r2, b2⟩
  go_wp2_with fail
  refine (HP.out _ r2).mono ?_
  rintro e w3 ⟨rfl, r3, b3⟩
  go_wp2_with fail
  refine (HB.out _ r3).mono ?_
  rintro e w4 ⟨rfl, r4, b4⟩
  go_wp2_with fail
  refine (HP3.out _ r4).mono ?_
  rintro e w7 ⟨rfl, r5, b5⟩
  go_wp2_with fail
  refine (HD.out _ r5).mono ?_
  rintro e w6 ⟨rfl, r6, b6⟩
  go_wp2
  go_ret
  exact ⟨rfl, r6, ((((((hBW.trans b1).trans b2).trans b3).trans b4).trans b5).trans b6)⟩
set_option maxHeartbeats 1600000 in
set_option maxRecDepth 20000 in
theorem term_if5 (g : Nat) (s : ByteArray) (a : Nat) (out : List (Int × Int)) (hs : s.size ≤ 1048000) (ho : out.length ≤ a) (ha : a < s.size) (hb : (s[a]).toNat = 40) (p : Nat) (nn : List (Int × Int)) (HS : MReads 75 g s (a + 1) out (true, p, nn)) (hq : byteIs s.data.toList p 63 = true) (p2 : Nat) (n2 : List (Int × Int)) (HS2 : MReads 75 g s (p + 1) nn (true, p2, n2)) (hc : byteIs s.data.toList p2 58 = true) (p3 : Nat) (n3 : List (Int × Int)) (HS3 : MReads 75 g s (p2 + 1) n2 (true, p3, n3)) (hd : byteIs s.data.toList p3 41 = true) (hn3 : n3.length ≤ 1048000) : MReads 75 g s a out (true, p3 + 1, n3 ++ [(11, 0)]) := by
  intro w h
  have HR : Hid (Rdr w g s a out) := h
  have c0 := h.c0
  have c1 := h.c1
  have f1 := h.f1
  have hlt := h.lt
  have i2 : (s.size : Int) ≤ 1048000 := by omega
  have i1 : (a : Int) < s.size := by omega
  have j1 : ((a : Int) == s.size) = false := by simp; omega
  have hix : ∀ W, (Instr.index 9 (.string s) (.int .i64 (a : Int))).run Tryd.prog W = .ok (.int .u8 40) W := by
    intro W
    rw [run_index_string W 9 s .i64 _ Tryd.underlying9, dif_pos (show (0 : Int) ≤ (a : Int) ∧ (a : Int) < s.size from ⟨by omega, by omega⟩)]
    show Result.ok (Value.int .u8 (((s[a]).toNat : Nat) : Int)) W = _
    rw [hb]; rfl
  have HC : Hid (∀ W, Rdr W g s (a + 1) out → Calls Tryd.prog 75 #[.pointer (some ⟨g, 0, none⟩)] W fun e w' => e = .returned (.bool true) ∧ Rdr w' g s p nn ∧ Below g W w') := HS
  have HQ : Hid (∀ W, Rdr W g s p nn → Calls Tryd.prog 87 #[.pointer (some ⟨g, 0, none⟩), .int .u8 63] W fun e w' => e = .returned (.bool true) ∧ Rdr w' g s (p + 1) nn ∧ Below g W w') := fun W hW => by have := byte_any W g s p nn 63 hW (by omega); rw [hq, if_pos rfl] at this; exact this
  have HP : Hid (∀ W, Rdr W g s (p + 1) nn → Calls Tryd.prog 75 #[.pointer (some ⟨g, 0, none⟩)] W fun e w' => e = .returned (.bool true) ∧ Rdr w' g s p2 n2 ∧ Below g W w') := HS2
  have HB : Hid (∀ W, Rdr W g s p2 n2 → Calls Tryd.prog 87 #[.pointer (some ⟨g, 0, none⟩), .int .u8 58] W fun e w' => e = .returned (.bool true) ∧ Rdr w' g s (p2 + 1) n2 ∧ Below g W w') := fun W hW => by have := byte_any W g s p2 n2 58 hW (by omega); rw [hc, if_pos rfl] at this; exact this
  have HP3 : Hid (∀ W, Rdr W g s (p2 + 1) n2 → Calls Tryd.prog 75 #[.pointer (some ⟨g, 0, none⟩)] W fun e w' => e = .returned (.bool true) ∧ Rdr w' g s p3 n3 ∧ Below g W w') := HS3
  have HD : Hid (∀ W, Rdr W g s p3 n3 → Calls Tryd.prog 87 #[.pointer (some ⟨g, 0, none⟩), .int .u8 41] W fun e w' => e = .returned (.bool true) ∧ Rdr w' g s (p3 + 1) n3 ∧ Below g W w') := fun W hW => by have := byte_any W g s p3 n3 41 hW (by omega); rw [hd, if_pos rfl] at this; exact this
  obtain ⟨i0, hi0, hz0, hz1, hz2⟩ := info_parts infoNode
  clear hb HS HS2 hq hc HS3 hd
  clear h
  go_enter Tryd.func75, Tryd.ntmps75
  go_wp2_with fail
  go_big_quiet (fail)
  revert nq; intro q1
  go_wp2_with fail
  go_big_quiet (fail)
  revert nq; intro q2
  go_wp2_with fail
  obtain ⟨W, hW⟩ : ∃ W, (w.drewN (q1 + q2)).setCell ⟨g, 1, none⟩ (.int .i64 ((a : Int) + 1)) = W := ⟨_, rfl⟩
  have hR1 : Rdr W g s (a + 1) out := by rw [← hW]; exact (HR.out.drewN _).move (a + 1)
  have hBW : Below g w W := by rw [← hW]; exact (below_drewN g _).trans (below_set _)
  try rw [hW]
  clear hW HR c0 c1 f1 hlt
  refine (HC.out _ hR1).mono ?_
  rintro e w1 ⟨rfl, r1, b1⟩
  go_wp2_with fail
  refine (HQ.out _ r1).mono ?_
  rintro e w2 ⟨rfl, r2, b2⟩
  go_wp2_with fail
  refine (HP.out _ r2).mono ?_
  rintro e w3 ⟨rfl, r3, b3⟩
  go_wp2_with fail
  refine (HB.out _ r3).mono ?_
  rintro e w4 ⟨rfl, r4, b4⟩
  go_wp2_with fail
  refine (HP3.out _ r4).mono ?_
  rintro e w7 ⟨rfl, r5, b5⟩
  go_wp2_with fail
  refine (HD.out _ r5).mono ?_
  rintro e w6 ⟨rfl, r6, b6⟩
  have hB1 := ((((((hBW.trans b1).trans b2).trans b3).trans b4).trans b5).trans b6)
  have HA : Hid (Rdr w6 g s (p3 + 1) n3) := r6
  clear HC HQ HP HB HP3 HD r1 r2 r3 r4 r5 b1 b2 b3 b4 b5 b6 hR1 hBW
  obtain ⟨lt, _, _, ⟨vo, c2, hown⟩, _, f2⟩ := r6
  obtain ⟨po, co, rfl⟩ := own_shape hown
  go_wp2_with (at_builtin; refine wpList_append_own _ rfl _ _ 27 rfl (g + 1) 76 i0 (.agg #[.int .i64 0, .int .i64 0]) 2 16 Tryd.underlying27 hi0 hz0 hz1 hz2 rfl (by decide) _ _ _ rfl (hown.alloc _) ⟨w6.heap.size, 0, none⟩ 1 1 [.int .i64 11, .int .i64 0] rfl (by simp) (two_new w6 _ _ _) (fun u hu => by rcases List.mem_cons.1 hu with rfl | hu; rfl; rw [List.mem_singleton.1 hu]; rfl) (by unfold maxLen; omega) (by omega) (by simp; omega) ?_; intro v' w5 hown5 hg5 hat5; obtain ⟨p5, q5, rfl⟩ := own_shape hown5; have hB5 : Below (g + 1) w6 w5 := ((Below.refl _ _).alloc lt _).grown hg5 (by simp; omega) (own_ge hown); have d2 := (hB5.cell (p := ⟨g, 2, none⟩) (by simp)).trans c2; have e2 := (hB5.frozen (p := ⟨g, 2, none⟩) (by simp)).trans f2)
  go_returns
  exact ⟨rfl, HA.out.push (n := n3.length + 1) hB5 (by simp) (by rw [flat_append]; exact hown5), (hB1.trans (hB5.mono (by omega))).trans (below_set _)⟩
end Go.Proofs.YtbchehpggoampaaDoor
