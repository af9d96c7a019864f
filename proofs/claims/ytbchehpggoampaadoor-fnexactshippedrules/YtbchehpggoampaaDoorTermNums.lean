/-
  PROVED HERE: the model's reading of a number. No other condition. the model's reading of a number. No other condition. the model's reading of a number. No other condition. the model's reading of a number. No other condition. the model's reading of a number. No other condition. the model's reading of a number. No other condition. that the model's reading of a number is the plain one. No other condition.
-/
import Derived.Test.YtbchehpggoampaaDoorTermVar
import Derived.Test.YtbchehpggoampaaDoorPlainRead
namespace Go.Proofs.YtbchehpggoampaaDoor
open Go.ChangeShapes Go.WideShapes Go.ChangeAt Go.RowKit
set_option linter.unusedVariables false
theorem Rdr.keep {w w' : World} {g : Nat} {s : ByteArray} {a : Nat} {out : List (Int × Int)} (h : Rdr w g s a out) (hb : Below w.heap.size w w') : Rdr w' g s a out := by
  obtain ⟨lt, c0, c1, ⟨v, c2, hown⟩, f1, f2⟩ := h
  exact ⟨Nat.lt_of_lt_of_le lt hb.size, (hb.cell (p := ⟨g, 0, none⟩) lt).trans c0, (hb.cell (p := ⟨g, 1, none⟩) lt).trans c1, ⟨v, (hb.cell (p := ⟨g, 2, none⟩) lt).trans c2, own_keep hown hb⟩, (hb.frozen (p := ⟨g, 1, none⟩) lt).trans f1, (hb.frozen (p := ⟨g, 2, none⟩) lt).trans f2⟩
theorem isD_at (s : ByteArray) (n : Nat) (h : n < s.size) : isD (s.data.toList.getD n 0) = decide (48 ≤ (s[n]).toNat ∧ (s[n]).toNat ≤ 57) := by rw [at_list s n h]; rfl
theorem isD_out (s : ByteArray) (n : Nat) (h : ¬ n < s.size) : isD (s.data.toList.getD n 0) = false := by
  rw [List.getD_eq_getElem?_getD, List.getElem?_eq_none (by rw [size_list]; omega)]; decide
theorem ext_seg (s : ByteArray) (a n : Nat) : (s.extract a n).data.toList = (s.data.toList.drop a).take (n - a) := by
  rw [ByteArray.data_extract, Array.toList_extract]
end Go.Proofs.YtbchehpggoampaaDoor
namespace Go.Proofs.YtbchehpggoampaaDoor
open Go.ChangeShapes Go.WideShapes Go.ChangeAt Go.RowKit
set_option linter.unusedVariables false
set_option maxHeartbeats 1600000 in
set_option maxRecDepth 20000 in
theorem number_neg_bare (w : World) (g : Nat) (s : ByteArray) (a : Nat) (out : List (Int × Int)) (h : Rdr w g s a out) (hs : s.size ≤ 1048576) (ho : out.length ≤ 1048576) (ha : a < s.size) (h45 : (s[a]).toNat = 45) (E : Nat) (hE : digEnd s.data.toList (a + 1) = E) (hEs : E ≤ s.size) (haE : a ≤ E) (hno : ∀ n, InI n → Lib.itoa n ≠ (s.data.toList.drop a).take (E - a)) (hx : E = a + 1) :
    Calls Tryd.prog 85 #[.pointer (some ⟨g, 0, none⟩)] w fun e w' => e = .returned (.bool false) ∧ Rdr w' g s (a + 1) out ∧ Below g w w' := by
  have HR : Hid (Rdr w g s a out) := h
  have c0 := h.c0
  have c1 := h.c1
  have hlt := h.lt
  have i2 : (s.size : Int) ≤ 1048576 := by omega
  have i1 : (a : Int) < s.size := by omega
  have hix : ∀ n : Nat, (hn : n < s.size) → ∀ W, (Instr.index 9 (.string s) (.int .i64 (n : Int))).run Tryd.prog W = .ok (.int .u8 ((s[n]).toNat : Int)) W := by
    intro n hn W
    rw [run_index_string W 9 s .i64 _ Tryd.underlying9, dif_pos (show (0 : Int) ≤ (n : Int) ∧ (n : Int) < s.size from ⟨by omega, by omega⟩)]
    rfl
  have hixa := hix a ha
  have hsl : ∀ W, (Instr.slice 9 (.string s) (some (.int .i64 (a : Int))) (some (.int .i64 (E : Int))) none).run Tryd.prog W = .ok (.string (s.extract a E)) W := by
    intro W
    rw [run_slice_string W 9 s .i64 .i64 _ _ Tryd.underlying9 (by omega) (by omega) (by omega)]; rfl
  have hseg := ext_seg s a E
  have hxs : (s.extract a E).size ≤ 1048576 := by rw [ByteArray.size_extract]; omega
  obtain ⟨X, hX⟩ : ∃ X, s.extract a E = X := ⟨_, rfl⟩
  rw [hX] at hsl hseg hxs
  rw [← hseg] at hno
  have HC : Hid (∀ W, Calls Tryd.prog 101 #[.string X] W fun e w' => e = .returned (.tuple #[.int .i64 0, .bool false]) ∧ Below W.heap.size W w') := fun W => specRead_none X W (by omega) hno
  clear hno
  have b1 : (((s[a]).toNat : Int) == 45) = true := by rw [h45]; rfl
  have HE : Hid (digEnd s.data.toList (a + 1) = E) := hE
  clear hE hseg h
  have HX : Hid (((E : Int) == (a : Int) + 1) = true) := show _ = _ from by simp; omega
  clear hx
  go_enter Tryd.func85, Tryd.ntmps85
  go_wp2_with fail
  go_loopw [3] (fun x wr => ∃ k : Nat, x = .int .i64 (k : Int) ∧ a + 1 ≤ k ∧ k ≤ s.size ∧ Hid (digEnd s.data.toList k = E) ∧ wr = w) (fun x _ => s.size - (intOf x).toNat)
  case atStart => exact ⟨a + 1, by go_num, Nat.le_refl _, by omega, HE, rfl⟩
  case round =>
    obtain ⟨k, rfl, k1, k2, hk, rfl⟩ := hrel
    by_cases hlk : k < s.size
    · have j1 : (k : Int) < s.size := by omega
      have hixk := hix k hlk
      have hdk := isD_at s k hlk
      by_cases d1 : 48 ≤ (s[k]).toNat
      · have e1 : (48 : Int) ≤ (s[k]).toNat := by omega
        by_cases d2 : (s[k]).toNat ≤ 57
        · have e2 : ((s[k]).toNat : Int) ≤ 57 := by omega
          have hN : Hid (digEnd s.data.toList (k + 1) = E) := by
            show _ = _
            rw [← hk.out, dig_yes s.data.toList k (by rw [hdk]; exact decide_eq_true ⟨d1, d2⟩)]
          clear hdk hix
          go_wp2
          exact ⟨⟨k + 1, by go_num, by omega, by omega, hN, by first | trivial | rfl⟩, by simp [intOf]; omega⟩
        · have e2 : ¬ ((s[k]).toNat : Int) ≤ 57 := by omega
          obtain rfl : k = E := by rw [← hk.out, dig_no s.data.toList k (by rw [hdk]; exact decide_eq_false (by omega))]
          clear hdk hix
          go_wp2
          go_region_with (go_at_call 101; refine (HC.out _).mono ?_; rintro e w1 ⟨rfl, hb1⟩)
          all_goals
            (try clear hixk)
            (try clear e2)
            (try clear e1)
            (try clear d2)
            (try clear d1)
            have hbB : Below wr.heap.size wr w1 := ((Below.refl _ _).drew).trans hb1
            have hR1 := HR.out.keep hbB
            have d0 := hR1.c0
            have d1 := hR1.c1
            have f1 := hR1.f1
            have hlt1 := hR1.lt
            have hx := HX.out
            go_wp2
            go_simp
            go_big_quiet (fail)
            go_wp2
            go_returns
            obtain rfl : k = a + 1 := by simp at hx; omega
            exact ⟨rfl, (hR1.drewN _).move (a + 1), ((hbB.mono (Nat.le_of_lt hlt)).trans (below_drewN g _)).trans (below_set _)⟩
      · have e1 : ¬ (48 : Int) ≤ (s[k]).toNat := by omega
        obtain rfl : k = E := by rw [← hk.out, dig_no s.data.toList k (by rw [hdk]; exact decide_eq_false (by omega))]
        clear hdk hix
        go_wp2
        go_region_with (go_at_call 101; refine (HC.out _).mono ?_; rintro e w1 ⟨rfl, hb1⟩)
        all_goals
          (try clear hixk)
          (try clear e2)
          (try clear e1)
          (try clear d2)
          (try clear d1)
          have hbB : Below wr.heap.size wr w1 := ((Below.refl _ _).drew).trans hb1
          have hR1 := HR.out.keep hbB
          have d0 := hR1.c0
          have d1 := hR1.c1
          have f1 := hR1.f1
          have hlt1 := hR1.lt
          have hx := HX.out
          go_wp2
          go_simp
          go_big_quiet (fail)
          go_wp2
          go_returns
          obtain rfl : k = a + 1 := by simp at hx; omega
          exact ⟨rfl, (hR1.drewN _).move (a + 1), ((hbB.mono (Nat.le_of_lt hlt)).trans (below_drewN g _)).trans (below_set _)⟩
    · have j1 : ¬ (k : Int) < s.size := by omega
      obtain rfl : k = E := by rw [← hk.out, dig_no s.data.toList k (isD_out s k hlk)]
      clear hix
      go_wp2
      go_region_with (go_at_call 101; refine (HC.out _).mono ?_; rintro e w1 ⟨rfl, hb1⟩)
      all_goals
        (try clear hixk)
        (try clear e2)
        (try clear e1)
        (try clear d2)
        (try clear d1)
        have hbB : Below wr.heap.size wr w1 := ((Below.refl _ _).drew).trans hb1
        have hR1 := HR.out.keep hbB
        have d0 := hR1.c0
        have d1 := hR1.c1
        have f1 := hR1.f1
        have hlt1 := hR1.lt
        have hx := HX.out
        go_wp2
        go_simp
        go_big_quiet (fail)
        go_wp2
        go_returns
        obtain rfl : k = a + 1 := by simp at hx; omega
        exact ⟨rfl, (hR1.drewN _).move (a + 1), ((hbB.mono (Nat.le_of_lt hlt)).trans (below_drewN g _)).trans (below_set _)⟩
end Go.Proofs.YtbchehpggoampaaDoor
namespace Go.Proofs.YtbchehpggoampaaDoor
open Go.ChangeShapes Go.WideShapes Go.ChangeAt Go.RowKit
set_option linter.unusedVariables false
set_option maxHeartbeats 1600000 in
set_option maxRecDepth 20000 in
theorem number_neg_none (w : World) (g : Nat) (s : ByteArray) (a : Nat) (out : List (Int × Int)) (h : Rdr w g s a out) (hs : s.size ≤ 1048576) (ho : out.length ≤ 1048576) (ha : a < s.size) (h45 : (s[a]).toNat = 45) (E : Nat) (hE : digEnd s.data.toList (a + 1) = E) (hEs : E ≤ s.size) (haE : a ≤ E) (hno : ∀ n, InI n → Lib.itoa n ≠ (s.data.toList.drop a).take (E - a)) (hx : ¬ E = a + 1) :
    Calls Tryd.prog 85 #[.pointer (some ⟨g, 0, none⟩)] w fun e w' => e = .returned (.bool false) ∧ Rdr w' g s (a) out ∧ Below g w w' := by
  have HR : Hid (Rdr w g s a out) := h
  have c0 := h.c0
  have c1 := h.c1
  have hlt := h.lt
  have i2 : (s.size : Int) ≤ 1048576 := by omega
  have i1 : (a : Int) < s.size := by omega
  have hix : ∀ n : Nat, (hn : n < s.size) → ∀ W, (Instr.index 9 (.string s) (.int .i64 (n : Int))).run Tryd.prog W = .ok (.int .u8 ((s[n]).toNat : Int)) W := by
    intro n hn W
    rw [run_index_string W 9 s .i64 _ Tryd.underlying9, dif_pos (show (0 : Int) ≤ (n : Int) ∧ (n : Int) < s.size from ⟨by omega, by omega⟩)]
    rfl
  have hixa := hix a ha
  have hsl : ∀ W, (Instr.slice 9 (.string s) (some (.int .i64 (a : Int))) (some (.int .i64 (E : Int))) none).run Tryd.prog W = .ok (.string (s.extract a E)) W := by
    intro W
    rw [run_slice_string W 9 s .i64 .i64 _ _ Tryd.underlying9 (by omega) (by omega) (by omega)]; rfl
  have hseg := ext_seg s a E
  have hxs : (s.extract a E).size ≤ 1048576 := by rw [ByteArray.size_extract]; omega
  obtain ⟨X, hX⟩ : ∃ X, s.extract a E = X := ⟨_, rfl⟩
  rw [hX] at hsl hseg hxs
  rw [← hseg] at hno
  have HC : Hid (∀ W, Calls Tryd.prog 101 #[.string X] W fun e w' => e = .returned (.tuple #[.int .i64 0, .bool false]) ∧ Below W.heap.size W w') := fun W => specRead_none X W (by omega) hno
  clear hno
  have b1 : (((s[a]).toNat : Int) == 45) = true := by rw [h45]; rfl
  have HE : Hid (digEnd s.data.toList (a + 1) = E) := hE
  clear hE hseg h
  have HX : Hid (((E : Int) == (a : Int) + 1) = false) := show _ = _ from by simp; omega
  clear hx
  go_enter Tryd.func85, Tryd.ntmps85
  go_wp2_with fail
  go_loopw [3] (fun x wr => ∃ k : Nat, x = .int .i64 (k : Int) ∧ a + 1 ≤ k ∧ k ≤ s.size ∧ Hid (digEnd s.data.toList k = E) ∧ wr = w) (fun x _ => s.size - (intOf x).toNat)
  case atStart => exact ⟨a + 1, by go_num, Nat.le_refl _, by omega, HE, rfl⟩
  case round =>
    obtain ⟨k, rfl, k1, k2, hk, rfl⟩ := hrel
    by_cases hlk : k < s.size
    · have j1 : (k : Int) < s.size := by omega
      have hixk := hix k hlk
      have hdk := isD_at s k hlk
      by_cases d1 : 48 ≤ (s[k]).toNat
      · have e1 : (48 : Int) ≤ (s[k]).toNat := by omega
        by_cases d2 : (s[k]).toNat ≤ 57
        · have e2 : ((s[k]).toNat : Int) ≤ 57 := by omega
          have hN : Hid (digEnd s.data.toList (k + 1) = E) := by
            show _ = _
            rw [← hk.out, dig_yes s.data.toList k (by rw [hdk]; exact decide_eq_true ⟨d1, d2⟩)]
          clear hdk hix
          go_wp2
          exact ⟨⟨k + 1, by go_num, by omega, by omega, hN, by first | trivial | rfl⟩, by simp [intOf]; omega⟩
        · have e2 : ¬ ((s[k]).toNat : Int) ≤ 57 := by omega
          obtain rfl : k = E := by rw [← hk.out, dig_no s.data.toList k (by rw [hdk]; exact decide_eq_false (by omega))]
          clear hdk hix
          go_wp2
          go_region_with (go_at_call 101; refine (HC.out _).mono ?_; rintro e w1 ⟨rfl, hb1⟩)
          all_goals
            (try clear hixk)
            (try clear e2)
            (try clear e1)
            (try clear d2)
            (try clear d1)
            have hbB : Below wr.heap.size wr w1 := ((Below.refl _ _).drew).trans hb1
            have hR1 := HR.out.keep hbB
            have d0 := hR1.c0
            have d1 := hR1.c1
            have f1 := hR1.f1
            have hlt1 := hR1.lt
            have hx := HX.out
            go_wp2
            go_simp
            go_big_quiet (fail)
            go_wp2
            go_returns
            exact ⟨rfl, hR1.drewN _, ((hbB.mono (Nat.le_of_lt hlt)).trans (below_drewN g _))⟩
      · have e1 : ¬ (48 : Int) ≤ (s[k]).toNat := by omega
        obtain rfl : k = E := by rw [← hk.out, dig_no s.data.toList k (by rw [hdk]; exact decide_eq_false (by omega))]
        clear hdk hix
        go_wp2
        go_region_with (go_at_call 101; refine (HC.out _).mono ?_; rintro e w1 ⟨rfl, hb1⟩)
        all_goals
          (try clear hixk)
          (try clear e2)
          (try clear e1)
          (try clear d2)
          (try clear d1)
          have hbB : Below wr.heap.size wr w1 := ((Below.refl _ _).drew).trans hb1
          have hR1 := HR.out.keep hbB
          have d0 := hR1.c0
          have d1 := hR1.c1
          have f1 := hR1.f1
          have hlt1 := hR1.lt
          have hx := HX.out
          go_wp2
          go_simp
          go_big_quiet (fail)
          go_wp2
          go_returns
          exact ⟨rfl, hR1.drewN _, ((hbB.mono (Nat.le_of_lt hlt)).trans (below_drewN g _))⟩
    · have j1 : ¬ (k : Int) < s.size := by omega
      obtain rfl : k = E := by rw [← hk.out, dig_no s.data.toList k (isD_out s k hlk)]
      clear hix
      go_wp2
      go_region_with (go_at_call 101; refine (HC.out _).mono ?_; rintro e w1 ⟨rfl, hb1⟩)
      all_goals
        (try clear hixk)
        (try clear e2)
        (try clear e1)
        (try clear d2)
        (try clear d1)
        have hbB : Below wr.heap.size wr w1 := ((Below.refl _ _).drew).trans hb1
        have hR1 := HR.out.keep hbB
        have d0 := hR1.c0
        have d1 := hR1.c1
        have f1 := hR1.f1
        have hlt1 := hR1.lt
        have hx := HX.out
        go_wp2
        go_simp
        go_big_quiet (fail)
        go_wp2
        go_returns
        exact ⟨rfl, hR1.drewN _, ((hbB.mono (Nat.le_of_lt hlt)).trans (below_drewN g _))⟩
end Go.Proofs.YtbchehpggoampaaDoor
namespace Go.Proofs.YtbchehpggoampaaDoor
open Go.ChangeShapes Go.WideShapes Go.ChangeAt Go.RowKit
set_option linter.unusedVariables false
set_option maxHeartbeats 1600000 in
set_option maxRecDepth 20000 in
theorem number_neg_some (w : World) (g : Nat) (s : ByteArray) (a : Nat) (out : List (Int × Int)) (h : Rdr w g s a out) (hs : s.size ≤ 1048576) (ho : out.length ≤ 1048576) (ha : a < s.size) (h45 : (s[a]).toNat = 45) (E : Nat) (hE : digEnd s.data.toList (a + 1) = E) (hEs : E ≤ s.size) (haE : a ≤ E) (n : Int) (hn : InI n) (hi : Lib.itoa n = (s.data.toList.drop a).take (E - a)) :
    Calls Tryd.prog 85 #[.pointer (some ⟨g, 0, none⟩)] w fun e w' => e = .returned (.bool true) ∧ Rdr w' g s E (out ++ [(1, n)]) ∧ Below g w w' := by
  have HR : Hid (Rdr w g s a out) := h
  have c0 := h.c0
  have c1 := h.c1
  have hlt := h.lt
  have i2 : (s.size : Int) ≤ 1048576 := by omega
  have i1 : (a : Int) < s.size := by omega
  have hix : ∀ n : Nat, (hn : n < s.size) → ∀ W, (Instr.index 9 (.string s) (.int .i64 (n : Int))).run Tryd.prog W = .ok (.int .u8 ((s[n]).toNat : Int)) W := by
    intro n hn W
    rw [run_index_string W 9 s .i64 _ Tryd.underlying9, dif_pos (show (0 : Int) ≤ (n : Int) ∧ (n : Int) < s.size from ⟨by omega, by omega⟩)]
    rfl
  have hixa := hix a ha
  have hsl : ∀ W, (Instr.slice 9 (.string s) (some (.int .i64 (a : Int))) (some (.int .i64 (E : Int))) none).run Tryd.prog W = .ok (.string (s.extract a E)) W := by
    intro W
    rw [run_slice_string W 9 s .i64 .i64 _ _ Tryd.underlying9 (by omega) (by omega) (by omega)]; rfl
  have hseg := ext_seg s a E
  have hxs : (s.extract a E).size ≤ 1048576 := by rw [ByteArray.size_extract]; omega
  obtain ⟨X, hX⟩ : ∃ X, s.extract a E = X := ⟨_, rfl⟩
  rw [hX] at hsl hseg hxs
  rw [← hseg] at hi
  have HC : Hid (∀ W, Calls Tryd.prog 101 #[.string X] W fun e w' => e = .returned (.tuple #[.int .i64 n, .bool true]) ∧ Below W.heap.size W w') := fun W => specRead_some n X W hn hi
  have HV : Hid (∀ W, Calls Tryd.prog 102 #[.int .i64 n] W fun e w' => e = .returned (.agg #[.int .i64 1, .int .i64 n]) ∧ Below W.heap.size W w') := fun W => l2Num_any n W
  obtain ⟨i0, hi0, hz0, hz1, hz2⟩ := info_parts infoNode
  clear hi hn
  have b1 : (((s[a]).toNat : Int) == 45) = true := by rw [h45]; rfl
  have HE : Hid (digEnd s.data.toList (a + 1) = E) := hE
  clear hE hseg h
  go_enter Tryd.func85, Tryd.ntmps85
  go_wp2_with fail
  go_loopw [3] (fun x wr => ∃ k : Nat, x = .int .i64 (k : Int) ∧ a + 1 ≤ k ∧ k ≤ s.size ∧ Hid (digEnd s.data.toList k = E) ∧ wr = w) (fun x _ => s.size - (intOf x).toNat)
  case atStart => exact ⟨a + 1, by go_num, Nat.le_refl _, by omega, HE, rfl⟩
  case round =>
    obtain ⟨k, rfl, k1, k2, hk, rfl⟩ := hrel
    by_cases hlk : k < s.size
    · have j1 : (k : Int) < s.size := by omega
      have hixk := hix k hlk
      have hdk := isD_at s k hlk
      by_cases d1 : 48 ≤ (s[k]).toNat
      · have e1 : (48 : Int) ≤ (s[k]).toNat := by omega
        by_cases d2 : (s[k]).toNat ≤ 57
        · have e2 : ((s[k]).toNat : Int) ≤ 57 := by omega
          have hN : Hid (digEnd s.data.toList (k + 1) = E) := by
            show _ = _
            rw [← hk.out, dig_yes s.data.toList k (by rw [hdk]; exact decide_eq_true ⟨d1, d2⟩)]
          clear hdk hix
          go_wp2
          exact ⟨⟨k + 1, by go_num, by omega, by omega, hN, by first | trivial | rfl⟩, by simp [intOf]; omega⟩
        · have e2 : ¬ ((s[k]).toNat : Int) ≤ 57 := by omega
          obtain rfl : k = E := by rw [← hk.out, dig_no s.data.toList k (by rw [hdk]; exact decide_eq_false (by omega))]
          clear hdk hix
          go_wp2
          go_region_with (go_at_call 101; refine (HC.out _).mono ?_; rintro e w1 ⟨rfl, hb1⟩)
          all_goals
            (try clear hixk)
            (try clear e2)
            (try clear e1)
            (try clear d2)
            (try clear d1)
            have hbB : Below wr.heap.size wr w1 := ((Below.refl _ _).drew).trans hb1
            have hR1 := HR.out.keep hbB
            have d0 := hR1.c0
            have d1 := hR1.c1
            have f1 := hR1.f1
            have hlt1 := hR1.lt
            go_wp2
            go_simp
            go_big_quiet (fail)
            go_wp2
            obtain ⟨W, hW⟩ : ∃ W, (w1.drewN nq).setCell ⟨g, 1, none⟩ (.int .i64 (k : Int)) = W := ⟨_, rfl⟩
            have hR2 : Rdr W g s k out := by rw [← hW]; exact (hR1.drewN _).move k
            have hBW : Below g wr W := by rw [← hW]; exact ((hbB.mono (Nat.le_of_lt hlt)).trans (below_drewN g _)).trans (below_set _)
            rw [hW]
            clear hW HR c0 c1 f1 hlt d0 d1 hR1 hbB hb1 hlt1
            have HR1 : Hid (Rdr W g s k out) := hR2
            obtain ⟨lt, _, _, ⟨vo, c2, hown⟩, _, f2⟩ := hR2
            obtain ⟨po, co, rfl⟩ := own_shape hown
            go_region_law (first
              | (refine step_append rfl _ _ 27 rfl (g + 1) 76 i0 (.agg #[.int .i64 0, .int .i64 0]) 2 16 Tryd.underlying27 hi0 hz0 hz1 hz2 rfl (by decide) (.slice po out.length co) _ _ rfl ((own_keep hown hb2).alloc _) ⟨w2.heap.size, 0, none⟩ 1 1 [.int .i64 1, .int .i64 n] rfl (by simp) (two_new w2 _ _ _) (fun u hu => by rcases List.mem_cons.1 hu with rfl | hu; rfl; rw [List.mem_singleton.1 hu]; rfl) (by unfold maxLen; omega) (by omega) (by have := hb2.size; first | (simp; omega) | simp) ?_; intro v' w5 hown5 hg5 hat5; obtain ⟨p5, q5, rfl⟩ := own_shape hown5; have hB5 : Below (g + 1) W w5 := ((hb2.mono (by omega)).alloc (by have := hb2.size; omega) _).grown hg5 (by have := hb2.size; first | (simp; omega) | simp) (own_ge hown); have d2 := (hB5.cell (p := ⟨g, 2, none⟩) (by simp)).trans c2; have e2 := (hB5.frozen (p := ⟨g, 2, none⟩) (by simp)).trans f2)
              | (go_simp; go_at_call 102; refine (HV.out _).mono ?_; rintro e w2 ⟨rfl, hb2'⟩; have hb2 : Below W.heap.size W w2 := ((Below.refl _ _).drew).trans hb2'; have d2 := (hb2.cell (p := ⟨g, 2, none⟩) lt).trans c2; have hlt2 : g < w2.heap.size := Nat.lt_of_lt_of_le lt hb2.size; have hne2 : ¬ g = w2.heap.size := (by omega); clear hb2'))
            all_goals
              go_wp2
              go_returns
              exact ⟨rfl, HR1.out.push (n := out.length + 1) hB5 (by simp) (by rw [flat_append]; exact hown5), (hBW.trans (hB5.mono (by omega))).trans (below_set _)⟩
      · have e1 : ¬ (48 : Int) ≤ (s[k]).toNat := by omega
        obtain rfl : k = E := by rw [← hk.out, dig_no s.data.toList k (by rw [hdk]; exact decide_eq_false (by omega))]
        clear hdk hix
        go_wp2
        go_region_with (go_at_call 101; refine (HC.out _).mono ?_; rintro e w1 ⟨rfl, hb1⟩)
        all_goals
          (try clear hixk)
          (try clear e2)
          (try clear e1)
          (try clear d2)
          (try clear d1)
          have hbB : Below wr.heap.size wr w1 := ((Below.refl _ _).drew).trans hb1
          have hR1 := HR.out.keep hbB
          have d0 := hR1.c0
          have d1 := hR1.c1
          have f1 := hR1.f1
          have hlt1 := hR1.lt
          go_wp2
          go_simp
          go_big_quiet (fail)
          go_wp2
          obtain ⟨W, hW⟩ : ∃ W, (w1.drewN nq).setCell ⟨g, 1, none⟩ (.int .i64 (k : Int)) = W := ⟨_, rfl⟩
          have hR2 : Rdr W g s k out := by rw [← hW]; exact (hR1.drewN _).move k
          have hBW : Below g wr W := by rw [← hW]; exact ((hbB.mono (Nat.le_of_lt hlt)).trans (below_drewN g _)).trans (below_set _)
          rw [hW]
          clear hW HR c0 c1 f1 hlt d0 d1 hR1 hbB hb1 hlt1
          have HR1 : Hid (Rdr W g s k out) := hR2
          obtain ⟨lt, _, _, ⟨vo, c2, hown⟩, _, f2⟩ := hR2
          obtain ⟨po, co, rfl⟩ := own_shape hown
          go_region_law (first
            | (refine step_append rfl _ _ 27 rfl (g + 1) 76 i0 (.agg #[.int .i64 0, .int .i64 0]) 2 16 Tryd.underlying27 hi0 hz0 hz1 hz2 rfl (by decide) (.slice po out.length co) _ _ rfl ((own_keep hown hb2).alloc _) ⟨w2.heap.size, 0, none⟩ 1 1 [.int .i64 1, .int .i64 n] rfl (by simp) (two_new w2 _ _ _) (fun u hu => by rcases List.mem_cons.1 hu with rfl | hu; rfl; rw [List.mem_singleton.1 hu]; rfl) (by unfold maxLen; omega) (by omega) (by have := hb2.size; first | (simp; omega) | simp) ?_; intro v' w5 hown5 hg5 hat5; obtain ⟨p5, q5, rfl⟩ := own_shape hown5; have hB5 : Below (g + 1) W w5 := ((hb2.mono (by omega)).alloc (by have := hb2.size; omega) _).grown hg5 (by have := hb2.size; first | (simp; omega) | simp) (own_ge hown); have d2 := (hB5.cell (p := ⟨g, 2, none⟩) (by simp)).trans c2; have e2 := (hB5.frozen (p := ⟨g, 2, none⟩) (by simp)).trans f2)
            | (go_simp; go_at_call 102; refine (HV.out _).mono ?_; rintro e w2 ⟨rfl, hb2'⟩; have hb2 : Below W.heap.size W w2 := ((Below.refl _ _).drew).trans hb2'; have d2 := (hb2.cell (p := ⟨g, 2, none⟩) lt).trans c2; have hlt2 : g < w2.heap.size := Nat.lt_of_lt_of_le lt hb2.size; have hne2 : ¬ g = w2.heap.size := (by omega); clear hb2'))
          all_goals
            go_wp2
            go_returns
            exact ⟨rfl, HR1.out.push (n := out.length + 1) hB5 (by simp) (by rw [flat_append]; exact hown5), (hBW.trans (hB5.mono (by omega))).trans (below_set _)⟩
    · have j1 : ¬ (k : Int) < s.size := by omega
      obtain rfl : k = E := by rw [← hk.out, dig_no s.data.toList k (isD_out s k hlk)]
      clear hix
      go_wp2
      go_region_with (go_at_call 101; refine (HC.out _).mono ?_; rintro e w1 ⟨rfl, hb1⟩)
      all_goals
        (try clear hixk)
        (try clear e2)
        (try clear e1)
        (try clear d2)
        (try clear d1)
        have hbB : Below wr.heap.size wr w1 := ((Below.refl _ _).drew).trans hb1
        have hR1 := HR.out.keep hbB
        have d0 := hR1.c0
        have d1 := hR1.c1
        have f1 := hR1.f1
        have hlt1 := hR1.lt
        go_wp2
        go_simp
        go_big_quiet (fail)
        go_wp2
        obtain ⟨W, hW⟩ : ∃ W, (w1.drewN nq).setCell ⟨g, 1, none⟩ (.int .i64 (k : Int)) = W := ⟨_, rfl⟩
        have hR2 : Rdr W g s k out := by rw [← hW]; exact (hR1.drewN _).move k
        have hBW : Below g wr W := by rw [← hW]; exact ((hbB.mono (Nat.le_of_lt hlt)).trans (below_drewN g _)).trans (below_set _)
        rw [hW]
        clear hW HR c0 c1 f1 hlt d0 d1 hR1 hbB hb1 hlt1
        have HR1 : Hid (Rdr W g s k out) := hR2
        obtain ⟨lt, _, _, ⟨vo, c2, hown⟩, _, f2⟩ := hR2
        obtain ⟨po, co, rfl⟩ := own_shape hown
        go_region_law (first
          | (refine step_append rfl _ _ 27 rfl (g + 1) 76 i0 (.agg #[.int .i64 0, .int .i64 0]) 2 16 Tryd.underlying27 hi0 hz0 hz1 hz2 rfl (by decide) (.slice po out.length co) _ _ rfl ((own_keep hown hb2).alloc _) ⟨w2.heap.size, 0, none⟩ 1 1 [.int .i64 1, .int .i64 n] rfl (by simp) (two_new w2 _ _ _) (fun u hu => by rcases List.mem_cons.1 hu with rfl | hu; rfl; rw [List.mem_singleton.1 hu]; rfl) (by unfold maxLen; omega) (by omega) (by have := hb2.size; first | (simp; omega) | simp) ?_; intro v' w5 hown5 hg5 hat5; obtain ⟨p5, q5, rfl⟩ := own_shape hown5; have hB5 : Below (g + 1) W w5 := ((hb2.mono (by omega)).alloc (by have := hb2.size; omega) _).grown hg5 (by have := hb2.size; first | (simp; omega) | simp) (own_ge hown); have d2 := (hB5.cell (p := ⟨g, 2, none⟩) (by simp)).trans c2; have e2 := (hB5.frozen (p := ⟨g, 2, none⟩) (by simp)).trans f2)
          | (go_simp; go_at_call 102; refine (HV.out _).mono ?_; rintro e w2 ⟨rfl, hb2'⟩; have hb2 : Below W.heap.size W w2 := ((Below.refl _ _).drew).trans hb2'; have d2 := (hb2.cell (p := ⟨g, 2, none⟩) lt).trans c2; have hlt2 : g < w2.heap.size := Nat.lt_of_lt_of_le lt hb2.size; have hne2 : ¬ g = w2.heap.size := (by omega); clear hb2'))
        all_goals
          go_wp2
          go_returns
          exact ⟨rfl, HR1.out.push (n := out.length + 1) hB5 (by simp) (by rw [flat_append]; exact hown5), (hBW.trans (hB5.mono (by omega))).trans (below_set _)⟩
end Go.Proofs.YtbchehpggoampaaDoor
namespace Go.Proofs.YtbchehpggoampaaDoor
open Go.ChangeShapes Go.WideShapes Go.ChangeAt Go.RowKit
set_option linter.unusedVariables false
set_option maxHeartbeats 1600000 in
set_option maxRecDepth 20000 in
theorem number_pos_none (w : World) (g : Nat) (s : ByteArray) (a : Nat) (out : List (Int × Int)) (h : Rdr w g s a out) (hs : s.size ≤ 1048576) (ho : out.length ≤ 1048576) (ha : a < s.size) (hd : 48 ≤ (s[a]).toNat ∧ (s[a]).toNat ≤ 57) (E : Nat) (hE : digEnd s.data.toList (a) = E) (hEs : E ≤ s.size) (haE : a ≤ E) (hno : ∀ n, InI n → Lib.itoa n ≠ (s.data.toList.drop a).take (E - a)) :
    Calls Tryd.prog 85 #[.pointer (some ⟨g, 0, none⟩)] w fun e w' => e = .returned (.bool false) ∧ Rdr w' g s (a) out ∧ Below g w w' := by
  have HR : Hid (Rdr w g s a out) := h
  have c0 := h.c0
  have c1 := h.c1
  have hlt := h.lt
  have i2 : (s.size : Int) ≤ 1048576 := by omega
  have i1 : (a : Int) < s.size := by omega
  have hix : ∀ n : Nat, (hn : n < s.size) → ∀ W, (Instr.index 9 (.string s) (.int .i64 (n : Int))).run Tryd.prog W = .ok (.int .u8 ((s[n]).toNat : Int)) W := by
    intro n hn W
    rw [run_index_string W 9 s .i64 _ Tryd.underlying9, dif_pos (show (0 : Int) ≤ (n : Int) ∧ (n : Int) < s.size from ⟨by omega, by omega⟩)]
    rfl
  have hixa := hix a ha
  have hsl : ∀ W, (Instr.slice 9 (.string s) (some (.int .i64 (a : Int))) (some (.int .i64 (E : Int))) none).run Tryd.prog W = .ok (.string (s.extract a E)) W := by
    intro W
    rw [run_slice_string W 9 s .i64 .i64 _ _ Tryd.underlying9 (by omega) (by omega) (by omega)]; rfl
  have hseg := ext_seg s a E
  have hxs : (s.extract a E).size ≤ 1048576 := by rw [ByteArray.size_extract]; omega
  obtain ⟨X, hX⟩ : ∃ X, s.extract a E = X := ⟨_, rfl⟩
  rw [hX] at hsl hseg hxs
  rw [← hseg] at hno
  have HC : Hid (∀ W, Calls Tryd.prog 101 #[.string X] W fun e w' => e = .returned (.tuple #[.int .i64 0, .bool false]) ∧ Below W.heap.size W w') := fun W => specRead_none X W (by omega) hno
  clear hno
  have b1 : (((s[a]).toNat : Int) == 45) = false := by simp; omega
  have HE : Hid (digEnd s.data.toList (a) = E) := hE
  clear hE hseg h
  go_enter Tryd.func85, Tryd.ntmps85
  go_wp2_with fail
  go_loopw [3] (fun x wr => ∃ k : Nat, x = .int .i64 (k : Int) ∧ a ≤ k ∧ k ≤ s.size ∧ Hid (digEnd s.data.toList k = E) ∧ wr = w) (fun x _ => s.size - (intOf x).toNat)
  case atStart => exact ⟨a, by go_num, Nat.le_refl _, by omega, HE, rfl⟩
  case round =>
    obtain ⟨k, rfl, k1, k2, hk, rfl⟩ := hrel
    by_cases hlk : k < s.size
    · have j1 : (k : Int) < s.size := by omega
      have hixk := hix k hlk
      have hdk := isD_at s k hlk
      by_cases d1 : 48 ≤ (s[k]).toNat
      · have e1 : (48 : Int) ≤ (s[k]).toNat := by omega
        by_cases d2 : (s[k]).toNat ≤ 57
        · have e2 : ((s[k]).toNat : Int) ≤ 57 := by omega
          have hN : Hid (digEnd s.data.toList (k + 1) = E) := by
            show _ = _
            rw [← hk.out, dig_yes s.data.toList k (by rw [hdk]; exact decide_eq_true ⟨d1, d2⟩)]
          clear hdk hix
          go_wp2
          exact ⟨⟨k + 1, by go_num, by omega, by omega, hN, by first | trivial | rfl⟩, by simp [intOf]; omega⟩
        · have e2 : ¬ ((s[k]).toNat : Int) ≤ 57 := by omega
          obtain rfl : k = E := by rw [← hk.out, dig_no s.data.toList k (by rw [hdk]; exact decide_eq_false (by omega))]
          clear hdk hix
          go_wp2
          go_region_with (go_at_call 101; refine (HC.out _).mono ?_; rintro e w1 ⟨rfl, hb1⟩)
          all_goals
            (try clear hixk)
            (try clear e2)
            (try clear e1)
            (try clear d2)
            (try clear d1)
            have hbB : Below wr.heap.size wr w1 := ((Below.refl _ _).drew).trans hb1
            have hR1 := HR.out.keep hbB
            have d0 := hR1.c0
            have d1 := hR1.c1
            have f1 := hR1.f1
            have hlt1 := hR1.lt
            go_wp2
            go_simp
            go_big_quiet (fail)
            go_wp2
            go_returns
            exact ⟨rfl, hR1.drewN _, ((hbB.mono (Nat.le_of_lt hlt)).trans (below_drewN g _))⟩
      · have e1 : ¬ (48 : Int) ≤ (s[k]).toNat := by omega
        obtain rfl : k = E := by rw [← hk.out, dig_no s.data.toList k (by rw [hdk]; exact decide_eq_false (by omega))]
        clear hdk hix
        go_wp2
        go_region_with (go_at_call 101; refine (HC.out _).mono ?_; rintro e w1 ⟨rfl, hb1⟩)
        all_goals
          (try clear hixk)
          (try clear e2)
          (try clear e1)
          (try clear d2)
          (try clear d1)
          have hbB : Below wr.heap.size wr w1 := ((Below.refl _ _).drew).trans hb1
          have hR1 := HR.out.keep hbB
          have d0 := hR1.c0
          have d1 := hR1.c1
          have f1 := hR1.f1
          have hlt1 := hR1.lt
          go_wp2
          go_simp
          go_big_quiet (fail)
          go_wp2
          go_returns
          exact ⟨rfl, hR1.drewN _, ((hbB.mono (Nat.le_of_lt hlt)).trans (below_drewN g _))⟩
    · have j1 : ¬ (k : Int) < s.size := by omega
      obtain rfl : k = E := by rw [← hk.out, dig_no s.data.toList k (isD_out s k hlk)]
      clear hix
      go_wp2
      go_region_with (go_at_call 101; refine (HC.out _).mono ?_; rintro e w1 ⟨rfl, hb1⟩)
      all_goals
        (try clear hixk)
        (try clear e2)
        (try clear e1)
        (try clear d2)
        (try clear d1)
        have hbB : Below wr.heap.size wr w1 := ((Below.refl _ _).drew).trans hb1
        have hR1 := HR.out.keep hbB
        have d0 := hR1.c0
        have d1 := hR1.c1
        have f1 := hR1.f1
        have hlt1 := hR1.lt
        go_wp2
        go_simp
        go_big_quiet (fail)
        go_wp2
        go_returns
        exact ⟨rfl, hR1.drewN _, ((hbB.mono (Nat.le_of_lt hlt)).trans (below_drewN g _))⟩
end Go.Proofs.YtbchehpggoampaaDoor
namespace Go.Proofs.YtbchehpggoampaaDoor
open Go.ChangeShapes Go.WideShapes Go.ChangeAt Go.RowKit
set_option linter.unusedVariables false
set_option maxHeartbeats 1600000 in
set_option maxRecDepth 20000 in
theorem number_pos_some (w : World) (g : Nat) (s : ByteArray) (a : Nat) (out : List (Int × Int)) (h : Rdr w g s a out) (hs : s.size ≤ 1048576) (ho : out.length ≤ 1048576) (ha : a < s.size) (hd : 48 ≤ (s[a]).toNat ∧ (s[a]).toNat ≤ 57) (E : Nat) (hE : digEnd s.data.toList (a) = E) (hEs : E ≤ s.size) (haE : a ≤ E) (n : Int) (hn : InI n) (hi : Lib.itoa n = (s.data.toList.drop a).take (E - a)) :
    Calls Tryd.prog 85 #[.pointer (some ⟨g, 0, none⟩)] w fun e w' => e = .returned (.bool true) ∧ Rdr w' g s E (out ++ [(1, n)]) ∧ Below g w w' := by
  have HR : Hid (Rdr w g s a out) := h
  have c0 := h.c0
  have c1 := h.c1
  have hlt := h.lt
  have i2 : (s.size : Int) ≤ 1048576 := by omega
  have i1 : (a : Int) < s.size := by omega
  have hix : ∀ n : Nat, (hn : n < s.size) → ∀ W, (Instr.index 9 (.string s) (.int .i64 (n : Int))).run Tryd.prog W = .ok (.int .u8 ((s[n]).toNat : Int)) W := by
    intro n hn W
    rw [run_index_string W 9 s .i64 _ Tryd.underlying9, dif_pos (show (0 : Int) ≤ (n : Int) ∧ (n : Int) < s.size from ⟨by omega, by omega⟩)]
    rfl
  have hixa := hix a ha
  have hsl : ∀ W, (Instr.slice 9 (.string s) (some (.int .i64 (a : Int))) (some (.int .i64 (E : Int))) none).run Tryd.prog W = .ok (.string (s.extract a E)) W := by
    intro W
    rw [run_slice_string W 9 s .i64 .i64 _ _ Tryd.underlying9 (by omega) (by omega) (by omega)]; rfl
  have hseg := ext_seg s a E
  have hxs : (s.extract a E).size ≤ 1048576 := by rw [ByteArray.size_extract]; omega
  obtain ⟨X, hX⟩ : ∃ X, s.extract a E = X := ⟨_, rfl⟩
  rw [hX] at hsl hseg hxs
  rw [← hseg] at hi
  have HC : Hid (∀ W, Calls Tryd.prog 101 #[.string X] W fun e w' => e = .returned (.tuple #[.int .i64 n, .bool true]) ∧ Below W.heap.size W w') := fun W => specRead_some n X W hn hi
  have HV : Hid (∀ W, Calls Tryd.prog 102 #[.int .i64 n] W fun e w' => e = .returned (.agg #[.int .i64 1, .int .i64 n]) ∧ Below W.heap.size W w') := fun W => l2Num_any n W
  obtain ⟨i0, hi0, hz0, hz1, hz2⟩ := info_parts infoNode
  clear hi hn
  have b1 : (((s[a]).toNat : Int) == 45) = false := by simp; omega
  have HE : Hid (digEnd s.data.toList (a) = E) := hE
  clear hE hseg h
  go_enter Tryd.func85, Tryd.ntmps85
  go_wp2_with fail
  go_loopw [3] (fun x wr => ∃ k : Nat, x = .int .i64 (k : Int) ∧ a ≤ k ∧ k ≤ s.size ∧ Hid (digEnd s.data.toList k = E) ∧ wr = w) (fun x _ => s.size - (intOf x).toNat)
  case atStart => exact ⟨a, by go_num, Nat.le_refl _, by omega, HE, rfl⟩
  case round =>
    obtain ⟨k, rfl, k1, k2, hk, rfl⟩ := hrel
    by_cases hlk : k < s.size
    · have j1 : (k : Int) < s.size := by omega
      have hixk := hix k hlk
      have hdk := isD_at s k hlk
      by_cases d1 : 48 ≤ (s[k]).toNat
      · have e1 : (48 : Int) ≤ (s[k]).toNat := by omega
        by_cases d2 : (s[k]).toNat ≤ 57
        · have e2 : ((s[k]).toNat : Int) ≤ 57 := by omega
          have hN : Hid (digEnd s.data.toList (k + 1) = E) := by
            show _ = _
            rw [← hk.out, dig_yes s.data.toList k (by rw [hdk]; exact decide_eq_true ⟨d1, d2⟩)]
          clear hdk hix
          go_wp2
          exact ⟨⟨k + 1, by go_num, by omega, by omega, hN, by first | trivial | rfl⟩, by simp [intOf]; omega⟩
        · have e2 : ¬ ((s[k]).toNat : Int) ≤ 57 := by omega
          obtain rfl : k = E := by rw [← hk.out, dig_no s.data.toList k (by rw [hdk]; exact decide_eq_false (by omega))]
          clear hdk hix
          go_wp2
          go_region_with (go_at_call 101; refine (HC.out _).mono ?_; rintro e w1 ⟨rfl, hb1⟩)
          all_goals
            (try clear hixk)
            (try clear e2)
            (try clear e1)
            (try clear d2)
            (try clear d1)
            have hbB : Below wr.heap.size wr w1 := ((Below.refl _ _).drew).trans hb1
            have hR1 := HR.out.keep hbB
            have d0 := hR1.c0
            have d1 := hR1.c1
            have f1 := hR1.f1
            have hlt1 := hR1.lt
            go_wp2
            go_simp
            go_big_quiet (fail)
            go_wp2
            obtain ⟨W, hW⟩ : ∃ W, (w1.drewN nq).setCell ⟨g, 1, none⟩ (.int .i64 (k : Int)) = W := ⟨_, rfl⟩
            have hR2 : Rdr W g s k out := by rw [← hW]; exact (hR1.drewN _).move k
            have hBW : Below g wr W := by rw [← hW]; exact ((hbB.mono (Nat.le_of_lt hlt)).trans (below_drewN g _)).trans (below_set _)
            rw [hW]
            clear hW HR c0 c1 f1 hlt d0 d1 hR1 hbB hb1 hlt1
            have HR1 : Hid (Rdr W g s k out) := hR2
            obtain ⟨lt, _, _, ⟨vo, c2, hown⟩, _, f2⟩ := hR2
            obtain ⟨po, co, rfl⟩ := own_shape hown
            go_region_law (first
              | (refine step_append rfl _ _ 27 rfl (g + 1) 76 i0 (.agg #[.int .i64 0, .int .i64 0]) 2 16 Tryd.underlying27 hi0 hz0 hz1 hz2 rfl (by decide) (.slice po out.length co) _ _ rfl ((own_keep hown hb2).alloc _) ⟨w2.heap.size, 0, none⟩ 1 1 [.int .i64 1, .int .i64 n] rfl (by simp) (two_new w2 _ _ _) (fun u hu => by rcases List.mem_cons.1 hu with rfl | hu; rfl; rw [List.mem_singleton.1 hu]; rfl) (by unfold maxLen; omega) (by omega) (by have := hb2.size; first | (simp; omega) | simp) ?_; intro v' w5 hown5 hg5 hat5; obtain ⟨p5, q5, rfl⟩ := own_shape hown5; have hB5 : Below (g + 1) W w5 := ((hb2.mono (by omega)).alloc (by have := hb2.size; omega) _).grown hg5 (by have := hb2.size; first | (simp; omega) | simp) (own_ge hown); have d2 := (hB5.cell (p := ⟨g, 2, none⟩) (by simp)).trans c2; have e2 := (hB5.frozen (p := ⟨g, 2, none⟩) (by simp)).trans f2)
              | (go_simp; go_at_call 102; refine (HV.out _).mono ?_; rintro e w2 ⟨rfl, hb2'⟩; have hb2 : Below W.heap.size W w2 := ((Below.refl _ _).drew).trans hb2'; have d2 := (hb2.cell (p := ⟨g, 2, none⟩) lt).trans c2; have hlt2 : g < w2.heap.size := Nat.lt_of_lt_of_le lt hb2.size; have hne2 : ¬ g = w2.heap.size := (by omega); clear hb2'))
            all_goals
              go_wp2
              go_returns
              exact ⟨rfl, HR1.out.push (n := out.length + 1) hB5 (by simp) (by rw [flat_append]; exact hown5), (hBW.trans (hB5.mono (by omega))).trans (below_set _)⟩
      · have e1 : ¬ (48 : Int) ≤ (s[k]).toNat := by omega
        obtain rfl : k = E := by rw [← hk.out, dig_no s.data.toList k (by rw [hdk]; exact decide_eq_false (by omega))]
        clear hdk hix
        go_wp2
        go_region_with (go_at_call 101; refine (HC.out _).mono ?_; rintro e w1 ⟨rfl, hb1⟩)
        all_goals
          (try clear hixk)
          (try clear e2)
          (try clear e1)
          (try clear d2)
          (try clear d1)
          have hbB : Below wr.heap.size wr w1 := ((Below.refl _ _).drew).trans hb1
          have hR1 := HR.out.keep hbB
          have d0 := hR1.c0
          have d1 := hR1.c1
          have f1 := hR1.f1
          have hlt1 := hR1.lt
          go_wp2
          go_simp
          go_big_quiet (fail)
          go_wp2
          obtain ⟨W, hW⟩ : ∃ W, (w1.drewN nq).setCell ⟨g, 1, none⟩ (.int .i64 (k : Int)) = W := ⟨_, rfl⟩
          have hR2 : Rdr W g s k out := by rw [← hW]; exact (hR1.drewN _).move k
          have hBW : Below g wr W := by rw [← hW]; exact ((hbB.mono (Nat.le_of_lt hlt)).trans (below_drewN g _)).trans (below_set _)
          rw [hW]
          clear hW HR c0 c1 f1 hlt d0 d1 hR1 hbB hb1 hlt1
          have HR1 : Hid (Rdr W g s k out) := hR2
          obtain ⟨lt, _, _, ⟨vo, c2, hown⟩, _, f2⟩ := hR2
          obtain ⟨po, co, rfl⟩ := own_shape hown
          go_region_law (first
            | (refine step_append rfl _ _ 27 rfl (g + 1) 76 i0 (.agg #[.int .i64 0, .int .i64 0]) 2 16 Tryd.underlying27 hi0 hz0 hz1 hz2 rfl (by decide) (.slice po out.length co) _ _ rfl ((own_keep hown hb2).alloc _) ⟨w2.heap.size, 0, none⟩ 1 1 [.int .i64 1, .int .i64 n] rfl (by simp) (two_new w2 _ _ _) (fun u hu => by rcases List.mem_cons.1 hu with rfl | hu; rfl; rw [List.mem_singleton.1 hu]; rfl) (by unfold maxLen; omega) (by omega) (by have := hb2.size; first | (simp; omega) | simp) ?_; intro v' w5 hown5 hg5 hat5; obtain ⟨p5, q5, rfl⟩ := own_shape hown5; have hB5 : Below (g + 1) W w5 := ((hb2.mono (by omega)).alloc (by have := hb2.size; omega) _).grown hg5 (by have := hb2.size; first | (simp; omega) | simp) (own_ge hown); have d2 := (hB5.cell (p := ⟨g, 2, none⟩) (by simp)).trans c2; have e2 := (hB5.frozen (p := ⟨g, 2, none⟩) (by simp)).trans f2)
            | (go_simp; go_at_call 102; refine (HV.out _).mono ?_; rintro e w2 ⟨rfl, hb2'⟩; have hb2 : Below W.heap.size W w2 := ((Below.refl _ _).drew).trans hb2'; have d2 := (hb2.cell (p := ⟨g, 2, none⟩) lt).trans c2; have hlt2 : g < w2.heap.size := Nat.lt_of_lt_of_le lt hb2.size; have hne2 : ¬ g = w2.heap.size := (by omega); clear hb2'))
          all_goals
            go_wp2
            go_returns
            exact ⟨rfl, HR1.out.push (n := out.length + 1) hB5 (by simp) (by rw [flat_append]; exact hown5), (hBW.trans (hB5.mono (by omega))).trans (below_set _)⟩
    · have j1 : ¬ (k : Int) < s.size := by omega
      obtain rfl : k = E := by rw [← hk.out, dig_no s.data.toList k (isD_out s k hlk)]
      clear hix
      go_wp2
      go_region_with (go_at_call 101; refine (HC.out _).mono ?_; rintro e w1 ⟨rfl, hb1⟩)
      all_goals
        (try clear hixk)
        (try clear e2)
        (try clear e1)
        (try clear d2)
        (try clear d1)
        have hbB : Below wr.heap.size wr w1 := ((Below.refl _ _).drew).trans hb1
        have hR1 := HR.out.keep hbB
        have d0 := hR1.c0
        have d1 := hR1.c1
        have f1 := hR1.f1
        have hlt1 := hR1.lt
        go_wp2
        go_simp
        go_big_quiet (fail)
        go_wp2
        obtain ⟨W, hW⟩ : ∃ W, (w1.drewN nq).setCell ⟨g, 1, none⟩ (.int .i64 (k : Int)) = W := ⟨_, rfl⟩
        have hR2 : Rdr W g s k out := by rw [← hW]; exact (hR1.drewN _).move k
        have hBW : Below g wr W := by rw [← hW]; exact ((hbB.mono (Nat.le_of_lt hlt)).trans (below_drewN g _)).trans (below_set _)
        rw [hW]
        clear hW HR c0 c1 f1 hlt d0 d1 hR1 hbB hb1 hlt1
        have HR1 : Hid (Rdr W g s k out) := hR2
        obtain ⟨lt, _, _, ⟨vo, c2, hown⟩, _, f2⟩ := hR2
        obtain ⟨po, co, rfl⟩ := own_shape hown
        go_region_law (first
          | (refine step_append rfl _ _ 27 rfl (g + 1) 76 i0 (.agg #[.int .i64 0, .int .i64 0]) 2 16 Tryd.underlying27 hi0 hz0 hz1 hz2 rfl (by decide) (.slice po out.length co) _ _ rfl ((own_keep hown hb2).alloc _) ⟨w2.heap.size, 0, none⟩ 1 1 [.int .i64 1, .int .i64 n] rfl (by simp) (two_new w2 _ _ _) (fun u hu => by rcases List.mem_cons.1 hu with rfl | hu; rfl; rw [List.mem_singleton.1 hu]; rfl) (by unfold maxLen; omega) (by omega) (by have := hb2.size; first | (simp; omega) | simp) ?_; intro v' w5 hown5 hg5 hat5; obtain ⟨p5, q5, rfl⟩ := own_shape hown5; have hB5 : Below (g + 1) W w5 := ((hb2.mono (by omega)).alloc (by have := hb2.size; omega) _).grown hg5 (by have := hb2.size; first | (simp; omega) | simp) (own_ge hown); have d2 := (hB5.cell (p := ⟨g, 2, none⟩) (by simp)).trans c2; have e2 := (hB5.frozen (p := ⟨g, 2, none⟩) (by simp)).trans f2)
          | (go_simp; go_at_call 102; refine (HV.out _).mono ?_; rintro e w2 ⟨rfl, hb2'⟩; have hb2 : Below W.heap.size W w2 := ((Below.refl _ _).drew).trans hb2'; have d2 := (hb2.cell (p := ⟨g, 2, none⟩) lt).trans c2; have hlt2 : g < w2.heap.size := Nat.lt_of_lt_of_le lt hb2.size; have hne2 : ¬ g = w2.heap.size := (by omega); clear hb2'))
        all_goals
          go_wp2
          go_returns
          exact ⟨rfl, HR1.out.push (n := out.length + 1) hB5 (by simp) (by rw [flat_append]; exact hown5), (hBW.trans (hB5.mono (by omega))).trans (below_set _)⟩
end Go.Proofs.YtbchehpggoampaaDoor
namespace Go.Proofs.YtbchehpggoampaaDoor
open Go.ChangeShapes Go.WideShapes Go.ChangeAt Go.RowKit
set_option linter.unusedVariables false
/-- That the model's reader's method reads as a plain reading from a place on. -/
def MReads (f : FuncId) (g : Nat) (s : ByteArray) (a : Nat) (out : List (Int × Int)) (R : Rd) : Prop :=
  ∀ W, Rdr W g s a out → Calls Tryd.prog f #[.pointer (some ⟨g, 0, none⟩)] W fun e w' => e = .returned (.bool R.1) ∧ Rdr w' g s R.2.1 R.2.2 ∧ Below g W w'
theorem number_any (g : Nat) (s : ByteArray) (a : Nat) (out : List (Int × Int)) (hs : s.size ≤ 1048576) (ho : out.length ≤ 1048576) (ha : a < s.size) (h1 : (isD (s.data.toList.getD a 0) || s.data.toList.getD a 0 == 45) = true) : MReads 85 g s a out (numR s.data.toList a out) := by
  intro W h
  have hsl : s.data.toList.length = s.size := size_list s
  have hat := at_list s a ha
  unfold numR numEnd
  by_cases hm : s.data.toList.getD a 0 = 45
  · rw [if_pos hm]
    have h45 : (s[a]).toNat = 45 := by rw [← hat, hm]; rfl
    obtain ⟨E, hE⟩ : ∃ E, digEnd s.data.toList (a + 1) = E := ⟨_, rfl⟩
    have hge := dig_ge s.data.toList (a + 1)
    have hle := dig_le s.data.toList (a + 1) (by omega)
    rw [hE] at hge hle ⊢
    cases hq : numOf ((s.data.toList.drop a).take (E - a)) with
    | none =>
      simp only []
      by_cases hx : E = a + 1
      · rw [if_pos (by rw [hm]; simp [hx])]
        exact number_neg_bare W g s a out h hs ho ha h45 E hE (by omega) (by omega) (numOf_none hq) hx
      · rw [if_neg (by simp [hx])]
        exact number_neg_none W g s a out h hs ho ha h45 E hE (by omega) (by omega) (numOf_none hq) hx
    | some n =>
      obtain ⟨q1, q2⟩ := numOf_some hq
      exact number_neg_some W g s a out h hs ho ha h45 E hE (by omega) (by omega) n q1 q2
  · rw [if_neg hm]
    have hD : isD (s.data.toList.getD a 0) = true := by rw [beq_eq_false_iff_ne.2 hm, Bool.or_false] at h1; exact h1
    have hd : 48 ≤ (s[a]).toNat ∧ (s[a]).toNat ≤ 57 := by rw [hat] at hD; exact of_decide_eq_true hD
    obtain ⟨E, hE⟩ : ∃ E, digEnd s.data.toList a = E := ⟨_, rfl⟩
    have hge := dig_ge s.data.toList a
    have hle := dig_le s.data.toList a (by omega)
    rw [hE] at hge hle ⊢
    cases hq : numOf ((s.data.toList.drop a).take (E - a)) with
    | none =>
      simp only []
      rw [if_neg (by rw [beq_eq_false_iff_ne.2 hm]; simp)]
      exact number_pos_none W g s a out h hs ho ha hd E hE (by omega) (by omega) (numOf_none hq)
    | some n =>
      obtain ⟨q1, q2⟩ := numOf_some hq
      exact number_pos_some W g s a out h hs ho ha hd E hE (by omega) (by omega) n q1 q2
end Go.Proofs.YtbchehpggoampaaDoor
