/-
  PROVED HERE: the model's reading of a number. No other condition. the model's reading of a number. No other condition. the model's reading of a number. No other condition. plain facts: a term's text is read back as the term; what is read has that text; what ReadTerm tells, as a plain function. No condition.
-/
import Derived.Test.YtkadanagmahhgaaGreatDoorRun9
namespace Go.Proofs.YtkadanagmahhgaaGreatDoor
open Go.ChangeShapes Go.WideShapes Go.ChangeAt Go.RowKit
set_option linter.unusedVariables false
set_option maxHeartbeats 1600000 in
set_option maxRecDepth 20000 in
theorem number_neg_some (w : World) (g : Nat) (s : ByteArray) (a : Nat) (out : List (Int × Int)) (h : Rdr w g s a out) (hs : s.size ≤ 1048576) (ho : out.length ≤ 1048576) (ha : a < s.size) (h45 : (s[a]).toNat = 45) (E : Nat) (hE : digEnd s.data.toList (a + 1) = E) (hEs : E ≤ s.size) (haE : a ≤ E) (n : Int) (hn : InI n) (hi : Lib.itoa n = (s.data.toList.drop a).take (E - a)) :
    Calls Tryz.prog 132 #[.pointer (some ⟨g, 0, none⟩)] w fun e w' => e = .returned (.bool true) ∧ Rdr w' g s E (out ++ [(1, n)]) ∧ Below g w w' := by
  have HR : Hid (Rdr w g s a out) := h
  have c0 := h.c0
  have c1 := h.c1
  have hlt := h.lt
  have i2 : (s.size : Int) ≤ 1048576 := by omega
  have i1 : (a : Int) < s.size := by omega
  have hix : ∀ n : Nat, (hn : n < s.size) → ∀ W, (Instr.index 9 (.string s) (.int .i64 (n : Int))).run Tryz.prog W = .ok (.int .u8 ((s[n]).toNat : Int)) W := by
    intro n hn W
    rw [run_index_string W 9 s .i64 _ Tryz.underlying9, dif_pos (show (0 : Int) ≤ (n : Int) ∧ (n : Int) < s.size from ⟨by omega, by omega⟩)]
    rfl
  have hixa := hix a ha
  have hsl : ∀ W, (Instr.slice 9 (.string s) (some (.int .i64 (a : Int))) (some (.int .i64 (E : Int))) none).run Tryz.prog W = .ok (.string (s.extract a E)) W := by
    intro W
    rw [run_slice_string W 9 s .i64 .i64 _ _ Tryz.underlying9 (by omega) (by omega) (by omega)]; rfl
  have hseg := ext_seg s a E
  have hxs : (s.extract a E).size ≤ 1048576 := by rw [ByteArray.size_extract]; omega
  obtain ⟨X, hX⟩ : ∃ X, s.extract a E = X := ⟨_, rfl⟩
  rw [hX] at hsl hseg hxs
  rw [← hseg] at hi
  have HC : Hid (∀ W, Calls Tryz.prog 153 #[.string X] W fun e w' => e = .returned (.tuple #[.int .i64 n, .bool true]) ∧ Below W.heap.size W w') := fun W => specRead_some n X W hn hi
  have HV : Hid (∀ W, Calls Tryz.prog 95 #[.int .i64 n] W fun e w' => e = .returned (.agg #[.int .i64 1, .int .i64 n]) ∧ Below W.heap.size W w') := fun W => l2Num_any n W
  obtain ⟨i0, hi0, hz0, hz1, hz2⟩ := info_parts infoNode
  clear hi hn
  have b1 : (((s[a]).toNat : Int) == 45) = true := by rw [h45]; rfl
  have HE : Hid (digEnd s.data.toList (a + 1) = E) := hE
  clear hE hseg h
  go_enter Tryz.func132, Tryz.ntmps132
  go_wp2_with fail
  go_loopw [3] (fun x wr => ∃ k : Nat, x = .int .i64 (k : Int) ∧ a + 1 ≤ k ∧ k ≤ s.size ∧ Hid (digEnd s.data.toList k = E) ∧ wr = w) (fun x _ => s.size - (intOf x).toNat)
  case atStart => exact ⟨a + 1, by go_num, Nat.le_refl _, by omega, HE, rfl⟩
  case round =>
    obtain ⟨k, rfl, k1, k2, hk, rfl⟩ := hrel
    by_cases hlk : k < s.size
    · have j1 : (k : Int) < s.size := by omega
      have hixk := hix k hlk
      have hdk := isD_at s k hlk
      by_cases d1 : 48 ≤ (s[k]).toNat
      · have e1 : (48 : Int) ≤ (s[k]).toNat := by omega
        by_cases d2 : (s[k]).toNat ≤ 57
        · have e2 : ((s[k]).toNat : Int) ≤ 57 := by omega
          have hN : Hid (digEnd s.data.toList (k + 1) = E) := by
            show _ = _
            rw [← hk.out, dig_yes s.data.toList k (by rw [hdk]; exact decide_eq_true ⟨d1, d2⟩)]
          clear hdk hix
          go_wp2
          exact ⟨⟨k + 1, by go_num, by omega, by omega, hN, by first | trivial | rfl⟩, by simp [intOf]; omega⟩
        · have e2 : ¬ ((s[k]).toNat : Int) ≤ 57 := by omega
          obtain rfl : k = E := by rw [← hk.out, dig_no s.data.toList k (by rw [hdk]; exact decide_eq_false (by omega))]
          clear hdk hix
          go_wp2
          go_region_with (go_at_call 153; refine (HC.out _).mono ?_; rintro e w1 ⟨rfl, hb1⟩)
          all_goals
            (try clear hixk)
            (try clear e2)
            (try clear e1)
            (try clear d2)
            (try clear d1)
            have hbB : Below wr.heap.size wr w1 := ((Below.refl _ _).drew).trans hb1
            have hR1 := HR.out.keep hbB
            have d0 := hR1.c0
            have d1 := hR1.c1
            have f1 := hR1.f1
            have hlt1 := hR1.lt
            go_wp2
            go_simp
            go_big_quiet (fail)
            go_wp2
            obtain ⟨W, hW⟩ : ∃ W, (w1.drewN nq).setCell ⟨g, 1, none⟩ (.int .i64 (k : Int)) = W := ⟨_, rfl⟩
            have hR2 : Rdr W g s k out := by rw [← hW]; exact (hR1.drewN _).move k
            have hBW : Below g wr W := by rw [← hW]; exact ((hbB.mono (Nat.le_of_lt hlt)).trans (below_drewN g _)).trans (below_set _)
            rw [hW]
            clear hW HR c0 c1 f1 hlt d0 d1 hR1 hbB hb1 hlt1
            have HR1 : Hid (Rdr W g s k out) := hR2
            obtain ⟨lt, _, _, ⟨vo, c2, hown⟩, _, f2⟩ := hR2
            obtain ⟨po, co, rfl⟩ := own_shape hown
            go_region_law (first
              | (refine step_append rfl _ _ 24 rfl (g + 1) 66 i0 (.agg #[.int .i64 0, .int .i64 0]) 2 16 Tryz.underlying24 hi0 hz0 hz1 hz2 rfl (by decide) (.slice po out.length co) _ _ rfl ((own_keep hown hb2).alloc _) ⟨w2.heap.size, 0, none⟩ 1 1 [.int .i64 1, .int .i64 n] rfl (by simp) (two_new w2 _ _ _) (fun u hu => by rcases List.mem_cons.1 hu with rfl | hu; rfl; rw [List.mem_singleton.1 hu]; rfl) (by unfold maxLen; omega) (by omega) (by have := hb2.size; first | (simp; omega) | simp) ?_; intro v' w5 hown5 hg5 hat5; obtain ⟨p5, q5, rfl⟩ := own_shape hown5; have hB5 : Below (g + 1) W w5 := ((hb2.mono (by omega)).alloc (by have := hb2.size; omega) _).grown hg5 (by have := hb2.size; first | (simp; omega) | simp) (own_ge hown); have d2 := (hB5.cell (p := ⟨g, 2, none⟩) (by simp)).trans c2; have e2 := (hB5.frozen (p := ⟨g, 2, none⟩) (by simp)).trans f2)
              | (go_simp; go_at_call 95; refine (HV.out _).mono ?_; rintro e w2 ⟨rfl, hb2'⟩; have hb2 : Below W.heap.size W w2 := ((Below.refl _ _).drew).trans hb2'; have d2 := (hb2.cell (p := ⟨g, 2, none⟩) lt).trans c2; have hlt2 : g < w2.heap.size := Nat.lt_of_lt_of_le lt hb2.size; have hne2 : ¬ g = w2.heap.size := (by omega); clear hb2'))
            all_goals
              go_wp2
              go_returns
              exact ⟨rfl, HR1.out.push (n := out.length + 1) hB5 (by simp) (by rw [flat_append]; exact hown5), (hBW.trans (hB5.mono (by omega))).trans (below_set _)⟩
      · have e1 : ¬ (48 : Int) ≤ (s[k]).toNat := by omega
        obtain rfl : k = E := by rw [← hk.out, dig_no s.data.toList k (by rw [hdk]; exact decide_eq_false (by omega))]
        clear hdk hix
        go_wp2
        go_region_with (go_at_call 153; refine (HC.out _).mono ?_; rintro e w1 ⟨rfl, hb1⟩)
        all_goals
          (try clear hixk)
          (try clear e2)
          (try clear e1)
          (try clear d2)
          (try clear d1)
          have hbB : Below wr.heap.size wr w1 := ((Below.refl _ _).drew).trans hb1
          have hR1 := HR.out.keep hbB
          have d0 := hR1.c0
          have d1 := hR1.c1
          have f1 := hR1.f1
          have hlt1 := hR1.lt
          go_wp2
          go_simp
          go_big_quiet (fail)
          go_wp2
          obtain ⟨W, hW⟩ : ∃ W, (w1.drewN nq).setCell ⟨g, 1, none⟩ (.int .i64 (k : Int)) = W := ⟨_, rfl⟩
          have hR2 : Rdr W g s k out := by rw [← hW]; exact (hR1.drewN _).move k
          have hBW : Below g wr W := by rw [← hW]; exact ((hbB.mono (Nat.le_of_lt hlt)).trans (below_drewN g _)).trans (below_set _)
          rw [hW]
          clear hW HR c0 c1 f1 hlt d0 d1 hR1 hbB hb1 hlt1
          have HR1 : Hid (Rdr W g s k out) := hR2
          obtain ⟨lt, _, _, ⟨vo, c2, hown⟩, _, f2⟩ := hR2
          obtain ⟨po, co, rfl⟩ := own_shape hown
          go_region_law (first
            | (refine step_append rfl _ _ 24 rfl (g + 1) 66 i0 (.agg #[.int .i64 0, .int .i64 0]) 2 16 Tryz.underlying24 hi0 hz0 hz1 hz2 rfl (by decide) (.slice po out.length co) _ _ rfl ((own_keep hown hb2).alloc _) ⟨w2.heap.size, 0, none⟩ 1 1 [.int .i64 1, .int .i64 n] rfl (by simp) (two_new w2 _ _ _) (fun u hu => by rcases List.mem_cons.1 hu with rfl | hu; rfl; rw [List.mem_singleton.1 hu]; rfl) (by unfold maxLen; omega) (by omega) (by have := hb2.size; first | (simp; omega) | simp) ?_; intro v' w5 hown5 hg5 hat5; obtain ⟨p5, q5, rfl⟩ := own_shape hown5; have hB5 : Below (g + 1) W w5 := ((hb2.mono (by omega)).alloc (by have := hb2.size; omega) _).grown hg5 (by have := hb2.size; first | (simp; omega) | simp) (own_ge hown); have d2 := (hB5.cell (p := ⟨g, 2, none⟩) (by simp)).trans c2; have e2 := (hB5.frozen (p := ⟨g, 2, none⟩) (by simp)).trans f2)
            | (go_simp; go_at_call 95; refine (HV.out _).mono ?_; rintro e w2 ⟨rfl, hb2'⟩; have hb2 : Below W.heap.size W w2 := ((Below.refl _ _).drew).trans hb2'; have d2 := (hb2.cell (p := ⟨g, 2, none⟩) lt).trans c2; have hlt2 : g < w2.heap.size := Nat.lt_of_lt_of_le lt hb2.size; have hne2 : ¬ g = w2.heap.size := (by omega); clear hb2'))
          all_goals
            go_wp2
            go_returns
            exact ⟨rfl, HR1.out.push (n := out.length + 1) hB5 (by simp) (by rw [flat_append]; exact hown5), (hBW.trans (hB5.mono (by omega))).trans (below_set _)⟩
    · have j1 : ¬ (k : Int) < s.size := by omega
      obtain rfl : k = E := by rw [← hk.out, dig_no s.data.toList k (isD_out s k hlk)]
      clear hix
      go_wp2
      go_region_with (go_at_call 153; refine (HC.out _).mono ?_; rintro e w1 ⟨rfl, hb1⟩)
      all_goals
        (try clear hixk)
        (try clear e2)
        (try clear e1)
        (try clear d2)
        (try clear d1)
        have hbB : Below wr.heap.size wr w1 := ((Below.refl _ _).drew).trans hb1
        have hR1 := HR.out.keep hbB
        have d0 := hR1.c0
        have d1 := hR1.c1
        have f1 := hR1.f1
        have hlt1 := hR1.lt
        go_wp2
        go_simp
        go_big_quiet (fail)
        go_wp2
        obtain ⟨W, hW⟩ : ∃ W, (w1.drewN nq).setCell ⟨g, 1, none⟩ (.int .i64 (k : Int)) = W := ⟨_, rfl⟩
        have hR2 : Rdr W g s k out := by rw [← hW]; exact (hR1.drewN _).move k
        have hBW : Below g wr W := by rw [← hW]; exact ((hbB.mono (Nat.le_of_lt hlt)).trans (below_drewN g _)).trans (below_set _)
        rw [hW]
        clear hW HR c0 c1 f1 hlt d0 d1 hR1 hbB hb1 hlt1
        have HR1 : Hid (Rdr W g s k out) := hR2
        obtain ⟨lt, _, _, ⟨vo, c2, hown⟩, _, f2⟩ := hR2
        obtain ⟨po, co, rfl⟩ := own_shape hown
        go_region_law (first
          | (refine step_append rfl _ _ 24 rfl (g + 1) 66 i0 (.agg #[.int .i64 0, .int .i64 0]) 2 16 Tryz.underlying24 hi0 hz0 hz1 hz2 rfl (by decide) (.slice po out.length co) _ _ rfl ((own_keep hown hb2).alloc _) ⟨w2.heap.size, 0, none⟩ 1 1 [.int .i64 1, .int .i64 n] rfl (by simp) (two_new w2 _ _ _) (fun u hu => by rcases List.mem_cons.1 hu with rfl | hu; rfl; rw [List.mem_singleton.1 hu]; rfl) (by unfold maxLen; omega) (by omega) (by have := hb2.size; first | (simp; omega) | simp) ?_; intro v' w5 hown5 hg5 hat5; obtain ⟨p5, q5, rfl⟩ := own_shape hown5; have hB5 : Below (g + 1) W w5 := ((hb2.mono (by omega)).alloc (by have := hb2.size; omega) _).grown hg5 (by have := hb2.size; first | (simp; omega) | simp) (own_ge hown); have d2 := (hB5.cell (p := ⟨g, 2, none⟩) (by simp)).trans c2; have e2 := (hB5.frozen (p := ⟨g, 2, none⟩) (by simp)).trans f2)
          | (go_simp; go_at_call 95; refine (HV.out _).mono ?_; rintro e w2 ⟨rfl, hb2'⟩; have hb2 : Below W.heap.size W w2 := ((Below.refl _ _).drew).trans hb2'; have d2 := (hb2.cell (p := ⟨g, 2, none⟩) lt).trans c2; have hlt2 : g < w2.heap.size := Nat.lt_of_lt_of_le lt hb2.size; have hne2 : ¬ g = w2.heap.size := (by omega); clear hb2'))
        all_goals
          go_wp2
          go_returns
          exact ⟨rfl, HR1.out.push (n := out.length + 1) hB5 (by simp) (by rw [flat_append]; exact hown5), (hBW.trans (hB5.mono (by omega))).trans (below_set _)⟩
end Go.Proofs.YtkadanagmahhgaaGreatDoor
namespace Go.Proofs.YtkadanagmahhgaaGreatDoor
open Go.ChangeShapes Go.WideShapes Go.ChangeAt Go.RowKit
set_option linter.unusedVariables false
set_option maxHeartbeats 1600000 in
set_option maxRecDepth 20000 in
theorem number_pos_none (w : World) (g : Nat) (s : ByteArray) (a : Nat) (out : List (Int × Int)) (h : Rdr w g s a out) (hs : s.size ≤ 1048576) (ho : out.length ≤ 1048576) (ha : a < s.size) (hd : 48 ≤ (s[a]).toNat ∧ (s[a]).toNat ≤ 57) (E : Nat) (hE : digEnd s.data.toList (a) = E) (hEs : E ≤ s.size) (haE : a ≤ E) (hno : ∀ n, InI n → Lib.itoa n ≠ (s.data.toList.drop a).take (E - a)) :
    Calls Tryz.prog 132 #[.pointer (some ⟨g, 0, none⟩)] w fun e w' => e = .returned (.bool false) ∧ Rdr w' g s (a) out ∧ Below g w w' := by
  have HR : Hid (Rdr w g s a out) := h
  have c0 := h.c0
  have c1 := h.c1
  have hlt := h.lt
  have i2 : (s.size : Int) ≤ 1048576 := by omega
  have i1 : (a : Int) < s.size := by omega
  have hix : ∀ n : Nat, (hn : n < s.size) → ∀ W, (Instr.index 9 (.string s) (.int .i64 (n : Int))).run Tryz.prog W = .ok (.int .u8 ((s[n]).toNat : Int)) W := by
    intro n hn W
    rw [run_index_string W 9 s .i64 _ Tryz.underlying9, dif_pos (show (0 : Int) ≤ (n : Int) ∧ (n : Int) < s.size from ⟨by omega, by omega⟩)]
    rfl
  have hixa := hix a ha
  have hsl : ∀ W, (Instr.slice 9 (.string s) (some (.int .i64 (a : Int))) (some (.int .i64 (E : Int))) none).run Tryz.prog W = .ok (.string (s.extract a E)) W := by
    intro W
    rw [run_slice_string W 9 s .i64 .i64 _ _ Tryz.underlying9 (by omega) (by omega) (by omega)]; rfl
  have hseg := ext_seg s a E
  have hxs : (s.extract a E).size ≤ 1048576 := by rw [ByteArray.size_extract]; omega
  obtain ⟨X, hX⟩ : ∃ X, s.extract a E = X := ⟨_, rfl⟩
  rw [hX] at hsl hseg hxs
  rw [← hseg] at hno
  have HC : Hid (∀ W, Calls Tryz.prog 153 #[.string X] W fun e w' => e = .returned (.tuple #[.int .i64 0, .bool false]) ∧ Below W.heap.size W w') := fun W => specRead_none X W (by omega) hno
  clear hno
  have b1 : (((s[a]).toNat : Int) == 45) = false := by simp; omega
  have HE : Hid (digEnd s.data.toList (a) = E) := hE
  clear hE hseg h
  go_enter Tryz.func132, Tryz.ntmps132
  go_wp2_with fail
  go_loopw [3] (fun x wr => ∃ k : Nat, x = .int .i64 (k : Int) ∧ a ≤ k ∧ k ≤ s.size ∧ Hid (digEnd s.data.toList k = E) ∧ wr = w) (fun x _ => s.size - (intOf x).toNat)
  case atStart => exact ⟨a, by go_num, Nat.le_refl _, by omega, HE, rfl⟩
  case round =>
    obtain ⟨k, rfl, k1, k2, hk, rfl⟩ := hrel
    by_cases hlk : k < s.size
    · have j1 : (k : Int) < s.size := by omega
      have hixk := hix k hlk
      have hdk := isD_at s k hlk
      by_cases d1 : 48 ≤ (s[k]).toNat
      · have e1 : (48 : Int) ≤ (s[k]).toNat := by omega
        by_cases d2 : (s[k]).toNat ≤ 57
        · have e2 : ((s[k]).toNat : Int) ≤ 57 := by omega
          have hN : Hid (digEnd s.data.toList (k + 1) = E) := by
            show _ = _
            rw [← hk.out, dig_yes s.data.toList k (by rw [hdk]; exact decide_eq_true ⟨d1, d2⟩)]
          clear hdk hix
          go_wp2
          exact ⟨⟨k + 1, by go_num, by omega, by omega, hN, by first | trivial | rfl⟩, by simp [intOf]; omega⟩
        · have e2 : ¬ ((s[k]).toNat : Int) ≤ 57 := by omega
          obtain rfl : k = E := by rw [← hk.out, dig_no s.data.toList k (by rw [hdk]; exact decide_eq_false (by omega))]
          clear hdk hix
          go_wp2
          go_region_with (go_at_call 153; refine (HC.out _).mono ?_; rintro e w1 ⟨rfl, hb1⟩)
          all_goals
            (try clear hixk)
            (try clear e2)
            (try clear e1)
            (try clear d2)
            (try clear d1)
            have hbB : Below wr.heap.size wr w1 := ((Below.refl _ _).drew).trans hb1
            have hR1 := HR.out.keep hbB
            have d0 := hR1.c0
            have d1 := hR1.c1
            have f1 := hR1.f1
            have hlt1 := hR1.lt
            go_wp2
            go_simp
            go_big_quiet (fail)
            go_wp2
            go_returns
            exact ⟨rfl, hR1.drewN _, ((hbB.mono (Nat.le_of_lt hlt)).trans (below_drewN g _))⟩
      · have e1 : ¬ (48 : Int) ≤ (s[k]).toNat := by omega
        obtain rfl : k = E := by rw [← hk.out, dig_no s.data.toList k (by rw [hdk]; exact decide_eq_false (by omega))]
        clear hdk hix
        go_wp2
        go_region_with (go_at_call 153; refine (HC.out _).mono ?_; rintro e w1 ⟨rfl, hb1⟩)
        all_goals
          (try clear hixk)
          (try clear e2)
          (try clear e1)
          (try clear d2)
          (try clear d1)
          have hbB : Below wr.heap.size wr w1 := ((Below.refl _ _).drew).trans hb1
          have hR1 := HR.out.keep hbB
          have d0 := hR1.c0
          have d1 := hR1.c1
          have f1 := hR1.f1
          have hlt1 := hR1.lt
          go_wp2
          go_simp
          go_big_quiet (fail)
          go_wp2
          go_returns
          exact ⟨rfl, hR1.drewN _, ((hbB.mono (Nat.le_of_lt hlt)).trans (below_drewN g _))⟩
    · have j1 : ¬ (k : Int) < s.size := by omega
      obtain rfl : k = E := by rw [← hk.out, dig_no s.data.toList k (isD_out s k hlk)]
      clear hix
      go_wp2
      go_region_with (go_at_call 153; refine (HC.out _).mono ?_; rintro e w1 ⟨rfl, hb1⟩)
      all_goals
        (try clear hixk)
        (try clear e2)
        (try clear e1)
        (try clear d2)
        (try clear d1)
        have hbB : Below wr.heap.size wr w1 := ((Below.refl _ _).drew).trans hb1
        have hR1 := HR.out.keep hbB
        have d0 := hR1.c0
        have d1 := hR1.c1
        have f1 := hR1.f1
        have hlt1 := hR1.lt
        go_wp2
        go_simp
        go_big_quiet (fail)
        go_wp2
        go_returns
        exact ⟨rfl, hR1.drewN _, ((hbB.mono (Nat.le_of_lt hlt)).trans (below_drewN g _))⟩
end Go.Proofs.YtkadanagmahhgaaGreatDoor
namespace Go.Proofs.YtkadanagmahhgaaGreatDoor
open Go.ChangeShapes Go.WideShapes Go.ChangeAt Go.RowKit
set_option linter.unusedVariables false
set_option maxHeartbeats 1600000 in
set_option maxRecDepth 20000 in
theorem number_pos_some (w : World) (g : Nat) (s : ByteArray) (a : Nat) (out : List (Int × Int)) (h : Rdr w g s a out) (hs : s.size ≤ 1048576) (ho : out.length ≤ 1048576) (ha : a < s.size) (hd : 48 ≤ (s[a]).toNat ∧ (s[a]).toNat ≤ 57) (E : Nat) (hE : digEnd s.data.toList (a) = E) (hEs : E ≤ s.size) (haE : a ≤ E) (n : Int) (hn : InI n) (hi : Lib.itoa n = (s.data.toList.drop a).take (E - a)) :
    Calls Tryz.prog 132 #[.pointer (some ⟨g, 0, none⟩)] w fun e w' => e = .returned (.bool true) ∧ Rdr w' g s E (out ++ [(1, n)]) ∧ Below g w w' := by
  have HR : Hid (Rdr w g s a out) := h
  have c0 := h.c0
  have c1 := h.c1
  have hlt := h.lt
  have i2 : (s.size : Int) ≤ 1048576 := by omega
  have i1 : (a : Int) < s.size := by omega
  have hix : ∀ n : Nat, (hn : n < s.size) → ∀ W, (Instr.index 9 (.string s) (.int .i64 (n : Int))).run Tryz.prog W = .ok (.int .u8 ((s[n]).toNat : Int)) W := by
    intro n hn W
    rw [run_index_string W 9 s .i64 _ Tryz.underlying9, dif_pos (show (0 : Int) ≤ (n : Int) ∧ (n : Int) < s.size from ⟨by omega, by omega⟩)]
    rfl
  have hixa := hix a ha
  have hsl : ∀ W, (Instr.slice 9 (.string s) (some (.int .i64 (a : Int))) (some (.int .i64 (E : Int))) none).run Tryz.prog W = .ok (.string (s.extract a E)) W := by
    intro W
    rw [run_slice_string W 9 s .i64 .i64 _ _ Tryz.underlying9 (by omega) (by omega) (by omega)]; rfl
  have hseg := ext_seg s a E
  have hxs : (s.extract a E).size ≤ 1048576 := by rw [ByteArray.size_extract]; omega
  obtain ⟨X, hX⟩ : ∃ X, s.extract a E = X := ⟨_, rfl⟩
  rw [hX] at hsl hseg hxs
  rw [← hseg] at hi
  have HC : Hid (∀ W, Calls Tryz.prog 153 #[.string X] W fun e w' => e = .returned (.tuple #[.int .i64 n, .bool true]) ∧ Below W.heap.size W w') := fun W => specRead_some n X W hn hi
  have HV : Hid (∀ W, Calls Tryz.prog 95 #[.int .i64 n] W fun e w' => e = .returned (.agg #[.int .i64 1, .int .i64 n]) ∧ Below W.heap.size W w') := fun W => l2Num_any n W
  obtain ⟨i0, hi0, hz0, hz1, hz2⟩ := info_parts infoNode
  clear hi hn
  have b1 : (((s[a]).toNat : Int) == 45) = false := by simp; omega
  have HE : Hid (digEnd s.data.toList (a) = E) := hE
  clear hE hseg h
  go_enter Tryz.func132, Tryz.ntmps132
  go_wp2_with fail
  go_loopw [3] (fun x wr => ∃ k : Nat, x = .int .i64 (k : Int) ∧ a ≤ k ∧ k ≤ s.size ∧ Hid (digEnd s.data.toList k = E) ∧ wr = w) (fun x _ => s.size - (intOf x).toNat)
  case atStart => exact ⟨a, by go_num, Nat.le_refl _, by omega, HE, rfl⟩
  case round =>
    obtain ⟨k, rfl, k1, k2, hk, rfl⟩ := hrel
    by_cases hlk : k < s.size
    · have j1 : (k : Int) < s.size := by omega
      have hixk := hix k hlk
      have hdk := isD_at s k hlk
      by_cases d1 : 48 ≤ (s[k]).toNat
      · have e1 : (48 : Int) ≤ (s[k]).toNat := by omega
        by_cases d2 : (s[k]).toNat ≤ 57
        · have e2 : ((s[k]).toNat : Int) ≤ 57 := by omega
          have hN : Hid (digEnd s.data.toList (k + 1) = E) := by
            show _ = _
            rw [← hk.out, dig_yes s.data.toList k (by rw [hdk]; exact decide_eq_true ⟨d1, d2⟩)]
          clear hdk hix
          go_wp2
          exact ⟨⟨k + 1, by go_num, by omega, by omega, hN, by first | trivial | rfl⟩, by simp [intOf]; omega⟩
        · have e2 : ¬ ((s[k]).toNat : Int) ≤ 57 := by omega
          obtain rfl : k = E := by rw [← hk.out, dig_no s.data.toList k (by rw [hdk]; exact decide_eq_false (by omega))]
          clear hdk hix
          go_wp2
          go_region_with (go_at_call 153; refine (HC.out _).mono ?_; rintro e w1 ⟨rfl, hb1⟩)
          all_goals
            (try clear hixk)
            (try clear e2)
            (try clear e1)
            (try clear d2)
            (try clear d1)
            have hbB : Below wr.heap.size wr w1 := ((Below.refl _ _).drew).trans hb1
            have hR1 := HR.out.keep hbB
            have d0 := hR1.c0
            have d1 := hR1.c1
            have f1 := hR1.f1
            have hlt1 := hR1.lt
            go_wp2
            go_simp
            go_big_quiet (fail)
            go_wp2
            obtain ⟨W, hW⟩ : ∃ W, (w1.drewN nq).setCell ⟨g, 1, none⟩ (.int .i64 (k : Int)) = W := ⟨_, rfl⟩
            have hR2 : Rdr W g s k out := by rw [← hW]; exact (hR1.drewN _).move k
            have hBW : Below g wr W := by rw [← hW]; exact ((hbB.mono (Nat.le_of_lt hlt)).trans (below_drewN g _)).trans (below_set _)
            rw [hW]
            clear hW HR c0 c1 f1 hlt d0 d1 hR1 hbB hb1 hlt1
            have HR1 : Hid (Rdr W g s k out) := hR2
            obtain ⟨lt, _, _, ⟨vo, c2, hown⟩, _, f2⟩ := hR2
            obtain ⟨po, co, rfl⟩ := own_shape hown
            go_region_law (first
              | (refine step_append rfl _ _ 24 rfl (g + 1) 66 i0 (.agg #[.int .i64 0, .int .i64 0]) 2 16 Tryz.underlying24 hi0 hz0 hz1 hz2 rfl (by decide) (.slice po out.length co) _ _ rfl ((own_keep hown hb2).alloc _) ⟨w2.heap.size, 0, none⟩ 1 1 [.int .i64 1, .int .i64 n] rfl (by simp) (two_new w2 _ _ _) (fun u hu => by rcases List.mem_cons.1 hu with rfl | hu; rfl; rw [List.mem_singleton.1 hu]; rfl) (by unfold maxLen; omega) (by omega) (by have := hb2.size; first | (simp; omega) | simp) ?_; intro v' w5 hown5 hg5 hat5; obtain ⟨p5, q5, rfl⟩ := own_shape hown5; have hB5 : Below (g + 1) W w5 := ((hb2.mono (by omega)).alloc (by have := hb2.size; omega) _).grown hg5 (by have := hb2.size; first | (simp; omega) | simp) (own_ge hown); have d2 := (hB5.cell (p := ⟨g, 2, none⟩) (by simp)).trans c2; have e2 := (hB5.frozen (p := ⟨g, 2, none⟩) (by simp)).trans f2)
              | (go_simp; go_at_call 95; refine (HV.out _).mono ?_; rintro e w2 ⟨rfl, hb2'⟩; have hb2 : Below W.heap.size W w2 := ((Below.refl _ _).drew).trans hb2'; have d2 := (hb2.cell (p := ⟨g, 2, none⟩) lt).trans c2; have hlt2 : g < w2.heap.size := Nat.lt_of_lt_of_le lt hb2.size; have hne2 : ¬ g = w2.heap.size := (by omega); clear hb2'))
            all_goals
              go_wp2
              go_returns
              exact ⟨rfl, HR1.out.push (n := out.length + 1) hB5 (by simp) (by rw [flat_append]; exact hown5), (hBW.trans (hB5.mono (by omega))).trans (below_set _)⟩
      · have e1 : ¬ (48 : Int) ≤ (s[k]).toNat := by omega
        obtain rfl : k = E := by rw [← hk.out, dig_no s.data.toList k (by rw [hdk]; exact decide_eq_false (by omega))]
        clear hdk hix
        go_wp2
        go_region_with (go_at_call 153; refine (HC.out _).mono ?_; rintro e w1 ⟨rfl, hb1⟩)
        all_goals
          (try clear hixk)
          (try clear e2)
          (try clear e1)
          (try clear d2)
          (try clear d1)
          have hbB : Below wr.heap.size wr w1 := ((Below.refl _ _).drew).trans hb1
          have hR1 := HR.out.keep hbB
          have d0 := hR1.c0
          have d1 := hR1.c1
          have f1 := hR1.f1
          have hlt1 := hR1.lt
          go_wp2
          go_simp
          go_big_quiet (fail)
          go_wp2
          obtain ⟨W, hW⟩ : ∃ W, (w1.drewN nq).setCell ⟨g, 1, none⟩ (.int .i64 (k : Int)) = W := ⟨_, rfl⟩
          have hR2 : Rdr W g s k out := by rw [← hW]; exact (hR1.drewN _).move k
          have hBW : Below g wr W := by rw [← hW]; exact ((hbB.mono (Nat.le_of_lt hlt)).trans (below_drewN g _)).trans (below_set _)
          rw [hW]
          clear hW HR c0 c1 f1 hlt d0 d1 hR1 hbB hb1 hlt1
          have HR1 : Hid (Rdr W g s k out) := hR2
          obtain ⟨lt, _, _, ⟨vo, c2, hown⟩, _, f2⟩ := hR2
          obtain ⟨po, co, rfl⟩ := own_shape hown
          go_region_law (first
            | (refine step_append rfl _ _ 24 rfl (g + 1) 66 i0 (.agg #[.int .i64 0, .int .i64 0]) 2 16 Tryz.underlying24 hi0 hz0 hz1 hz2 rfl (by decide) (.slice po out.length co) _ _ rfl ((own_keep hown hb2).alloc _) ⟨w2.heap.size, 0, none⟩ 1 1 [.int .i64 1, .int .i64 n] rfl (by simp) (two_new w2 _ _ _) (fun u hu => by rcases List.mem_cons.1 hu with rfl | hu; rfl; rw [List.mem_singleton.1 hu]; rfl) (by unfold maxLen; omega) (by omega) (by have := hb2.size; first | (simp; omega) | simp) ?_; intro v' w5 hown5 hg5 hat5; obtain ⟨p5, q5, rfl⟩ := own_shape hown5; have hB5 : Below (g + 1) W w5 := ((hb2.mono (by omega)).alloc (by have := hb2.size; omega) _).grown hg5 (by have := hb2.size; first | (simp; omega) | simp) (own_ge hown); have d2 := (hB5.cell (p := ⟨g, 2, none⟩) (by simp)).trans c2; have e2 := (hB5.frozen (p := ⟨g, 2, none⟩) (by simp)).trans f2)
            | (go_simp; go_at_call 95; refine (HV.out _).mono ?_; rintro e w2 ⟨rfl, hb2'⟩; have hb2 : Below W.heap.size W w2 := ((Below.refl _ _).drew).trans hb2'; have d2 := (hb2.cell (p := ⟨g, 2, none⟩) lt).trans c2; have hlt2 : g < w2.heap.size := Nat.lt_of_lt_of_le lt hb2.size; have hne2 : ¬ g = w2.heap.size := (by omega); clear hb2'))
          all_goals
            go_wp2
            go_returns
            exact ⟨rfl, HR1.out.push (n := out.length + 1) hB5 (by simp) (by rw [flat_append]; exact hown5), (hBW.trans (hB5.mono (by omega))).trans (below_set _)⟩
    · have j1 : ¬ (k : Int) < s.size := by omega
      obtain rfl : k = E := by rw [← hk.out, dig_no s.data.toList k (isD_out s k hlk)]
      clear hix
      go_wp2
      go_region_with (go_at_call 153; refine (HC.out _).mono ?_; rintro e w1 ⟨rfl, hb1⟩)
      all_goals
        (try clear hixk)
        (try clear e2)
        (try clear e1)
        (try clear d2)
        (try clear d1)
        have hbB : Below wr.heap.size wr w1 := ((Below.refl _ _).drew).trans hb1
        have hR1 := HR.out.keep hbB
        have d0 := hR1.c0
        have d1 := hR1.c1
        have f1 := hR1.f1
        have hlt1 := hR1.lt
        go_wp2
        go_simp
        go_big_quiet (fail)
        go_wp2
        obtain ⟨W, hW⟩ : ∃ W, (w1.drewN nq).setCell ⟨g, 1, none⟩ (.int .i64 (k : Int)) = W := ⟨_, rfl⟩
        have hR2 : Rdr W g s k out := by rw [← hW]; exact (hR1.drewN _).move k
        have hBW : Below g wr W := by rw [← hW]; exact ((hbB.mono (Nat.le_of_lt hlt)).trans (below_drewN g _)).trans (below_set _)
        rw [hW]
        clear hW HR c0 c1 f1 hlt d0 d1 hR1 hbB hb1 hlt1
        have HR1 : Hid (Rdr W g s k out) := hR2
        obtain ⟨lt, _, _, ⟨vo, c2, hown⟩, _, f2⟩ := hR2
        obtain ⟨po, co, rfl⟩ := own_shape hown
        go_region_law (first
          | (refine step_append rfl _ _ 24 rfl (g + 1) 66 i0 (.agg #[.int .i64 0, .int .i64 0]) 2 16 Tryz.underlying24 hi0 hz0 hz1 hz2 rfl (by decide) (.slice po out.length co) _ _ rfl ((own_keep hown hb2).alloc _) ⟨w2.heap.size, 0, none⟩ 1 1 [.int .i64 1, .int .i64 n] rfl (by simp) (two_new w2 _ _ _) (fun u hu => by rcases List.mem_cons.1 hu with rfl | hu; rfl; rw [List.mem_singleton.1 hu]; rfl) (by unfold maxLen; omega) (by omega) (by have := hb2.size; first | (simp; omega) | simp) ?_; intro v' w5 hown5 hg5 hat5; obtain ⟨p5, q5, rfl⟩ := own_shape hown5; have hB5 : Below (g + 1) W w5 := ((hb2.mono (by omega)).alloc (by have := hb2.size; omega) _).grown hg5 (by have := hb2.size; first | (simp; omega) | simp) (own_ge hown); have d2 := (hB5.cell (p := ⟨g, 2, none⟩) (by simp)).trans c2; have e2 := (hB5.frozen (p := ⟨g, 2, none⟩) (by simp)).trans f2)
          | (go_simp; go_at_call 95; refine (HV.out _).mono ?_; rintro e w2 ⟨rfl, hb2'⟩; have hb2 : Below W.heap.size W w2 := ((Below.refl _ _).drew).trans hb2'; have d2 := (hb2.cell (p := ⟨g, 2, none⟩) lt).trans c2; have hlt2 : g < w2.heap.size := Nat.lt_of_lt_of_le lt hb2.size; have hne2 : ¬ g = w2.heap.size := (by omega); clear hb2'))
        all_goals
          go_wp2
          go_returns
          exact ⟨rfl, HR1.out.push (n := out.length + 1) hB5 (by simp) (by rw [flat_append]; exact hown5), (hBW.trans (hB5.mono (by omega))).trans (below_set _)⟩
end Go.Proofs.YtkadanagmahhgaaGreatDoor
namespace Go.Proofs.YtkadanagmahhgaaGreatDoor
set_option linter.unusedVariables false

theorem tw_all : ∀ (D rest : List UInt8), (∀ c ∈ D, isD c = true) → isD (rest.getD 0 0) = false → (D ++ rest).takeWhile isD = D
  | [], [], _, _ => rfl
  | [], x :: r, _, h => by
    rw [List.nil_append, List.takeWhile_cons, if_neg (by rw [show isD x = false from h]; decide)]
  | d :: D, rest, hD, h => by
    rw [List.cons_append, List.takeWhile_cons, if_pos (hD d (List.mem_cons_self ..)), tw_all D rest (fun c hc => hD c (List.mem_cons_of_mem _ hc)) h]
theorem isD_of {c : UInt8} (h : IsDig c) : isD c = true := by unfold isD; exact decide_eq_true h
theorem dec_isD (u : Nat) : ∀ c ∈ Lib.decDigits u, isD c = true := fun c hc => isD_of (dec_dig u c hc)
theorem drop_at {s t : List UInt8} {a : Nat} (h : s.drop a = t) (i : Nat) : s.getD (a + i) 0 = t.getD i 0 := by
  rw [← h, List.getD_eq_getElem?_getD, List.getD_eq_getElem?_getD, List.getElem?_drop]
theorem drop_next {s t u : List UInt8} {a n : Nat} (h : s.drop a = t ++ u) (hn : t.length = n) : s.drop (a + n) = u := by
  rw [← List.drop_drop, h, ← hn, List.drop_left]
theorem drop_lt {s t : List UInt8} {c : UInt8} {a : Nat} (h : s.drop a = c :: t) : a < s.length := by
  rcases Nat.lt_or_ge a s.length with h' | h'
  · exact h'
  · rw [List.drop_of_length_le h'] at h; cases h
theorem byteIs_yes {s t : List UInt8} {c : UInt8} {a : Nat} (h : s.drop a = c :: t) : byteIs s a c = true := by
  unfold byteIs
  rw [decide_eq_true (drop_lt h), show s.getD a 0 = c from drop_at h 0]
  simp
theorem byteIs_no {s t : List UInt8} {c b : UInt8} {a : Nat} (h : s.drop a = c :: t) (hb : c ≠ b) : byteIs s a b = false := by
  unfold byteIs
  rw [decide_eq_true (drop_lt h), show s.getD a 0 = c from drop_at h 0, beq_eq_false_iff_ne.2 hb]
  rfl
theorem itoa_inj {n m : Int} (hn : InI n) (hm : InI m) (h : Lib.itoa n = Lib.itoa m) : n = m := by
  have h1 := parse_itoa n hn.1 hn.2
  rw [h, parse_itoa m hm.1 hm.2] at h1
  cases h1; rfl
theorem numOf_itoa {n : Int} (hn : InI n) : numOf (Lib.itoa n) = some n := by
  cases h : numOf (Lib.itoa n) with
  | none => exact absurd rfl (numOf_none h n hn)
  | some m =>
    obtain ⟨h1, h2⟩ := numOf_some h
    rw [itoa_inj h1 hn h2]
theorem itoa_shape (n : Int) : (∃ u, Lib.itoa n = 45 :: Lib.decDigits u) ∨ (∃ u, Lib.itoa n = Lib.decDigits u) := by
  unfold Lib.itoa
  split
  · exact .inl ⟨_, rfl⟩
  · exact .inr ⟨_, rfl⟩
theorem dec_cons (u : Nat) : ∃ c r, Lib.decDigits u = c :: r := by
  cases h : Lib.decDigits u with
  | nil => exact absurd h (dec_ne u)
  | cons c r => exact ⟨c, r, rfl⟩
/-- How a text of a term begins. -/
theorem Tm.head {p : List (Int × Int)} {t : List UInt8} (h : Tm p t) : ∃ c r, t = c :: r ∧ c ≠ 60 ∧ c ≠ 61 ∧ c ≠ 63 := by
  have hdig : ∀ c : UInt8, IsDig c → c ≠ 60 ∧ c ≠ 61 ∧ c ≠ 63 := fun c hc => by
    unfold IsDig at hc
    refine ⟨fun e => ?_, fun e => ?_, fun e => ?_⟩ <;> (subst e; exact absurd hc (by decide))
  refine h.ind (motive := fun p t => ∃ c r, t = c :: r ∧ c ≠ 60 ∧ c ≠ 61 ∧ c ≠ 63) ?_ ?_ ?_ ?_ ?_
  · intro n hn
    rcases itoa_shape n with ⟨u, e⟩ | ⟨u, e⟩
    · exact ⟨45, _, e, by decide, by decide, by decide⟩
    · obtain ⟨c, r, e2⟩ := dec_cons u
      have := dec_dig u c (by rw [e2]; exact List.mem_cons_self ..)
      exact ⟨c, r, e.trans e2, hdig c this⟩
  · intro v hv
    refine ⟨_, [], rfl, ?_⟩
    have : v = 0 ∨ v = 1 ∨ v = 2 ∨ v = 3 := by omega
    rcases this with rfl | rfl | rfl | rfl <;> decide
  · intro p t h _
    exact ⟨126, _, rfl, by decide, by decide, by decide⟩
  · intro p t q u op h1 h2 hp hq _ _
    exact ⟨40, _, rfl, by decide, by decide, by decide⟩
  · intro p t q u r v hp hq hr _ _ _
    exact ⟨40, _, rfl, by decide, by decide, by decide⟩
theorem num_back (n : Int) (hn : InI n) (s rest : List UInt8) (a : Nat) (out : List (Int × Int)) (h : s.drop a = Lib.itoa n ++ rest) (hr : isD (rest.getD 0 0) = false) (f : Nat) :
    readT s (f + 1) a out = (true, a + (Lib.itoa n).length, out ++ [(1, n)]) := by
  have key : numEnd s a = a + (Lib.itoa n).length ∧ (isD (s.getD a 0) || s.getD a 0 == 45) = true ∧ a < s.length := by
    rcases itoa_shape n with ⟨u, e⟩ | ⟨u, e⟩
    · rw [e] at h ⊢
      have h0 : s.getD a 0 = 45 := drop_at h 0
      have h1 : s.drop (a + 1) = Lib.decDigits u ++ rest := drop_next (t := [45]) h rfl
      refine ⟨?_, by rw [h0]; rfl, drop_lt h⟩
      unfold numEnd digEnd
      rw [if_pos h0, h1, tw_all _ _ (dec_isD u) hr, List.length_cons]; omega
    · rw [e] at h ⊢
      obtain ⟨c, r, e2⟩ := dec_cons u
      have hc : isD c = true := dec_isD u c (by rw [e2]; exact List.mem_cons_self ..)
      have h0 : s.getD a 0 = c := by rw [e2] at h; exact drop_at h 0
      refine ⟨?_, by rw [h0, hc]; rfl, by rw [e2] at h; exact drop_lt h⟩
      unfold numEnd digEnd
      rw [if_neg (by rw [h0]; intro e; subst e; exact absurd hc (by decide)), h, tw_all _ _ (dec_isD u) hr]
  obtain ⟨k1, k2, k3⟩ := key
  rw [readT, if_neg (by omega), if_pos k2]
  unfold numR
  rw [k1, show a + (Lib.itoa n).length - a = (Lib.itoa n).length from by omega, h, List.take_left, numOf_itoa hn]
theorem sign_back (op : Int) (h1 : 4 ≤ op) (h2 : op ≤ 10) (s u : List UInt8) (a : Nat) (h : s.drop a = signB op ++ u) (hu : ∃ c r, u = c :: r ∧ c ≠ 60) : twoR s a = (op, a + (signB op).length) ∧ byteIs s a 63 = false ∧ a < s.length := by
  obtain ⟨c, r, rfl, hc⟩ := hu
  rcases (show op = 4 ∨ op = 5 ∨ op = 6 ∨ op = 7 ∨ op = 8 ∨ op = 9 ∨ op = 10 by omega) with rfl | rfl | rfl | rfl | rfl | rfl | rfl
  · have h : s.drop a = 43 :: (c :: r) := h
    refine ⟨?_, byteIs_no h (by decide), drop_lt h⟩
    unfold twoR; rw [if_pos (byteIs_yes h)]; rfl
  · have h : s.drop a = 45 :: (c :: r) := h
    refine ⟨?_, byteIs_no h (by decide), drop_lt h⟩
    unfold twoR; rw [byteIs_no h (by decide), byteIs_yes h]; rfl
  · have h : s.drop a = 42 :: (c :: r) := h
    refine ⟨?_, byteIs_no h (by decide), drop_lt h⟩
    unfold twoR; rw [byteIs_no h (b := 43) (by decide), byteIs_no h (b := 45) (by decide), byteIs_yes h]; rfl
  · have h : s.drop a = 60 :: 60 :: (c :: r) := h
    have h' : s.drop (a + 1) = 60 :: (c :: r) := drop_next (t := [60]) h rfl
    refine ⟨?_, byteIs_no h (by decide), drop_lt h⟩
    unfold twoR; rw [byteIs_no h (b := 43) (by decide), byteIs_no h (b := 45) (by decide), byteIs_no h (b := 42) (by decide), byteIs_yes h, byteIs_yes h']; rfl
  · have h : s.drop a = 47 :: (c :: r) := h
    refine ⟨?_, byteIs_no h (by decide), drop_lt h⟩
    unfold twoR; rw [byteIs_no h (b := 43) (by decide), byteIs_no h (b := 45) (by decide), byteIs_no h (b := 42) (by decide), byteIs_no h (b := 60) (by decide), byteIs_yes h]; rfl
  · have h : s.drop a = 61 :: 61 :: (c :: r) := h
    have h' : s.drop (a + 1) = 61 :: (c :: r) := drop_next (t := [61]) h rfl
    refine ⟨?_, byteIs_no h (by decide), drop_lt h⟩
    unfold twoR; rw [byteIs_no h (b := 43) (by decide), byteIs_no h (b := 45) (by decide), byteIs_no h (b := 42) (by decide), byteIs_no h (b := 60) (by decide), byteIs_no h (b := 47) (by decide), byteIs_yes h, byteIs_yes h']; rfl
  · have h : s.drop a = 60 :: (c :: r) := h
    have h' : s.drop (a + 1) = c :: r := drop_next (t := [60]) h rfl
    refine ⟨?_, byteIs_no h (by decide), drop_lt h⟩
    unfold twoR; rw [byteIs_no h (b := 43) (by decide), byteIs_no h (b := 45) (by decide), byteIs_no h (b := 42) (by decide), byteIs_yes h, byteIs_no h' hc, byteIs_no h (b := 47) (by decide), byteIs_no h (b := 61) (by decide)]; rfl
theorem thenB_yes {s t : List UInt8} {a : Nat} {b : UInt8} {out : List (Int × Int)} (h : s.drop a = b :: t) : thenB s b (true, a, out) = (true, a + 1, out) := by
  unfold thenB
  rw [if_pos rfl, if_pos (byteIs_yes h)]
theorem sign_head (op : Int) (h1 : 4 ≤ op) (h2 : op ≤ 10) (u : List UInt8) : isD ((signB op ++ u).getD 0 0) = false := by
  rcases (show op = 4 ∨ op = 5 ∨ op = 6 ∨ op = 7 ∨ op = 8 ∨ op = 9 ∨ op = 10 by omega) with rfl | rfl | rfl | rfl | rfl | rfl | rfl <;> rfl
/-- A term is read back from its text. -/
theorem Tm.back {p : List (Int × Int)} {t : List UInt8} (h : Tm p t) : ∀ (s rest : List UInt8) (a : Nat) (out : List (Int × Int)) (f : Nat), s.drop a = t ++ rest → isD (rest.getD 0 0) = false → t.length ≤ f →
    readT s (f + 1) a out = (true, a + t.length, out ++ p) := by
  refine h.ind (motive := fun p t => ∀ (s rest : List UInt8) (a : Nat) (out : List (Int × Int)) (f : Nat), s.drop a = t ++ rest → isD (rest.getD 0 0) = false → t.length ≤ f → readT s (f + 1) a out = (true, a + t.length, out ++ p)) ?_ ?_ ?_ ?_ ?_
  · intro n hn
    intro s rest a out f hs hr _; exact num_back n hn s rest a out hs hr f
  · intro v hv
    intro s rest a out f hs hr _
    have h0 := drop_at hs 0
    have hlt := drop_lt hs
    have hc : s.getD a 0 = UInt8.ofNat (97 + v) := h0
    have hb : (UInt8.ofNat (97 + v)).toNat = 97 + v := by rw [UInt8.toNat_ofNat']; omega
    rw [readT, if_neg (by omega), hc, if_neg, if_pos, hb]
    · rw [show 97 + v - 97 = v from by omega]; rfl
    · rw [hb]; simp; omega
    · have : v = 0 ∨ v = 1 ∨ v = 2 ∨ v = 3 := by omega
      rcases this with rfl | rfl | rfl | rfl <;> decide
  · intro p t h ih
    intro s rest a out f hs hr hf
    rw [List.length_cons] at hf
    have hlt := drop_lt hs
    have h0 : s.getD a 0 = 126 := drop_at hs 0
    have h1 : s.drop (a + 1) = t ++ rest := drop_next (t := [126]) hs rfl
    obtain ⟨f, rfl⟩ : ∃ x, f = x + 1 := ⟨f - 1, by omega⟩
    have := ih s rest (a + 1) out f h1 hr (by omega)
    rw [readT, if_neg (by omega), h0, if_neg (by decide), if_neg (by decide), if_pos (by decide), this, List.length_cons, List.append_assoc]
    show (true, a + 1 + t.length, _) = _
    rw [show a + 1 + t.length = a + (t.length + 1) from by omega]
  · intro p t q u op o1 o2 hp hq ih1 ih2
    intro s rest a out f hs hr hf
    have e : 40 :: t ++ signB op ++ u ++ [41] ++ rest = 40 :: (t ++ (signB op ++ (u ++ (41 :: rest)))) := by simp
    rw [e] at hs
    have hlt := drop_lt hs
    have h0 : s.getD a 0 = 40 := drop_at hs 0
    have h1 : s.drop (a + 1) = t ++ (signB op ++ (u ++ (41 :: rest))) := drop_next (t := [40]) hs rfl
    have h2 := drop_next h1 rfl
    have h3 := drop_next h2 rfl
    have h4 := drop_next h3 rfl
    simp only [List.length_append, List.length_cons, List.length_nil] at hf
    obtain ⟨f, rfl⟩ : ∃ x, f = x + 1 := ⟨f - 1, by omega⟩
    have r1 := ih1 s _ (a + 1) out f h1 (sign_head op o1 o2 _) (by omega)
    obtain ⟨c, r, rfl, hc, _⟩ := hq.head
    obtain ⟨s1, s2, s3⟩ := sign_back op o1 o2 s _ _ h2 ⟨c, _, rfl, hc⟩
    have r2 := ih2 s (41 :: rest) (a + 1 + t.length + (signB op).length) (out ++ p) f h3 rfl (by omega)
    rw [readT, if_neg (by omega), h0, if_neg (by decide), if_neg (by decide), if_neg (by decide), if_neg (by decide), r1]
    simp only []
    rw [if_neg (by decide), s2, if_neg (by decide), s1]
    simp only []
    rw [if_neg (by omega), r2, thenB_yes h4]
    simp only []
    rw [if_neg (by decide)]
    simp only [List.length_append, List.length_cons, List.length_nil, List.append_assoc, Prod.mk.injEq, true_and]
    exact ⟨by omega, trivial⟩
  · intro p t q u r v hp hq hr' ih1 ih2 ih3
    intro s rest a out f hs hr hf
    have e : 40 :: t ++ (63 :: u) ++ (58 :: v) ++ [41] ++ rest = 40 :: (t ++ (63 :: (u ++ (58 :: (v ++ (41 :: rest)))))) := by simp
    rw [e] at hs
    have hlt := drop_lt hs
    have h0 : s.getD a 0 = 40 := drop_at hs 0
    have h1 : s.drop (a + 1) = t ++ (63 :: (u ++ (58 :: (v ++ (41 :: rest))))) := drop_next (t := [40]) hs rfl
    have h2 := drop_next h1 rfl
    have h3 : s.drop (a + 1 + t.length + 1) = u ++ (58 :: (v ++ (41 :: rest))) := drop_next (t := [63]) h2 rfl
    have h4 := drop_next h3 rfl
    have h5 : s.drop (a + 1 + t.length + 1 + u.length + 1) = v ++ (41 :: rest) := drop_next (t := [58]) h4 rfl
    have h6 := drop_next h5 rfl
    simp only [List.length_append, List.length_cons, List.length_nil] at hf
    obtain ⟨f, rfl⟩ : ∃ x, f = x + 1 := ⟨f - 1, by omega⟩
    have r1 := ih1 s _ (a + 1) out f h1 rfl (by omega)
    have r2 := ih2 s _ (a + 1 + t.length + 1) (out ++ p) f h3 rfl (by omega)
    have r3 := ih3 s _ (a + 1 + t.length + 1 + u.length + 1) (out ++ p ++ q) f h5 rfl (by omega)
    rw [readT, if_neg (by omega), h0, if_neg (by decide), if_neg (by decide), if_neg (by decide), if_neg (by decide), r1]
    simp only []
    rw [if_neg (by decide), byteIs_yes h2, if_pos rfl, r2, thenB_yes h4]
    simp only []
    rw [if_neg (by decide), r3, thenB_yes h6]
    simp only []
    rw [if_neg (by decide)]
    simp only [List.length_append, List.length_cons, List.length_nil, List.append_assoc, Prod.mk.injEq, true_and]
    exact ⟨by omega, trivial⟩
/-- Terms one behind the other, with their texts, the last one first. -/
def TmR : List (List UInt8) → List (Int × Int) → Prop
  | [], ps => ps = []
  | t :: r, ps => ∃ ps0 p, ps = ps0 ++ p ∧ TmR r ps0 ∧ Tm p t
/-- Terms one behind the other, with their texts. -/
def TmL (ps : List (Int × Int)) (ts : List (List UInt8)) : Prop := TmR ts.reverse ps
theorem TmL.nil : TmL [] [] := rfl
theorem TmL.snoc {ps : List (Int × Int)} {ts : List (List UInt8)} {p : List (Int × Int)} {t : List UInt8} (h : TmL ps ts) (hp : Tm p t) : TmL (ps ++ p) (ts ++ [t]) := by
  unfold TmL at *
  rw [List.reverse_append]
  exact ⟨ps, p, rfl, h, hp⟩
theorem TmL.zero {ps : List (Int × Int)} (h : TmL ps []) : ps = [] := h
theorem TmL.last {ps : List (Int × Int)} {ts : List (List UInt8)} (h : TmL ps ts) {ts0 : List (List UInt8)} {t : List UInt8} (e : ts = ts0 ++ [t]) : ∃ ps0 p, ps = ps0 ++ p ∧ TmL ps0 ts0 ∧ Tm p t := by
  unfold TmL at h
  rw [e, List.reverse_append] at h
  exact h
/-- The text of a good list of nodes is its text as a term. -/
theorem tm_of {l : List (Int × Int)} {q : Int} (h : pile l 0 = some q) (hn : InN l) : ∀ K k, k < K → k < l.length → ∀ f, k < f → Tm (seg l (start l k) (k + 1)) (textG l f k) := by
  intro K
  induction K with
  | zero => intro k hk; omega
  | succ K ih =>
    have forest : ∀ (m x : Nat), x ≤ K → x ≤ l.length → (m : Int) ≤ cnt l x → ∀ f, x ≤ f → TmL (seg l (back l m x) x) ((roots l m x).map (textG l f)) := by
      intro m
      induction m with
      | zero =>
        intro x _ _ _ f _
        show TmL (seg l x x) []
        rw [seg_self]
        exact .nil
      | succ m ihm =>
        intro x hx hxl hm f hf
        have hx0 : 0 < x := by
          rcases Nat.eq_zero_or_pos x with h0 | h0
          · subst h0; rw [cnt_zero] at hm; omega
          · exact h0
        have b1 := start_le h (x - 1) (by omega)
        have b2 := start_cnt h (x - 1) (by omega)
        rw [show x - 1 + 1 = x from by omega] at b2
        have b3 := back_le h m (start l (x - 1)) (by omega) (by omega)
        rw [back_succ, seg_append l _ (start l (x - 1)) x b3.1 (by omega)]
        have f1 := ihm (start l (x - 1)) (by omega) (by omega) (by omega) f (by omega)
        have t1 := ih (x - 1) (by omega) (by omega) f (by omega)
        rw [show x - 1 + 1 = x from by omega] at t1
        show TmL _ ((roots l m (start l (x - 1)) ++ [x - 1]).map (textG l f))
        rw [List.map_append]
        exact .snoc f1 t1
    intro k hk hl f hf
    by_cases hkK : k < K
    · exact ih k hkK hl f hf
    obtain rfl : k = K := by omega
    obtain ⟨f, rfl⟩ : ∃ x, f = x + 1 := ⟨f - 1, by omega⟩
    obtain ⟨h1, h2⟩ := cnt_step h k hl
    obtain ⟨a1, a2, a3, a4⟩ := fits_iff _ _ _ _ h1
    obtain ⟨m, hm⟩ : ∃ m : Nat, ar (l.getD k (0, 0)).1 = m := ⟨(ar (l.getD k (0, 0)).1).toNat, by omega⟩
    have hst := start_eq h k hl
    rw [hm, Int.toNat_natCast] at hst
    have b3 := back_le h m k (by omega) (by omega)
    have f1 := forest m k (Nat.le_refl _) (by omega) (by omega) f (by omega)
    rw [hst, seg_append l _ k (k + 1) b3.1 (by omega), seg_one l k hl]
    show Tm _ (nodeT (l.getD k (0, 0)) ((roots l (ar (l.getD k (0, 0)).1).toNat k).map (textG l f)))
    rw [hm, Int.toNat_natCast]
    have hN := hn k
    generalize seg l (back l m k) k = ps at f1 ⊢
    have hRl : (roots l m k).length = m := roots_len _ _ _
    generalize roots l m k = R at f1 hRl ⊢
    obtain ⟨⟨op, n⟩, hx⟩ : ∃ p, l.getD k (0, 0) = p := ⟨_, rfl⟩
    rw [hx] at hm a1 a3 a4 hN ⊢
    simp only at hm a1 a3 a4 hN
    clear h1 h2 a2 hx
    unfold nodeT
    rcases ops op with h0 | h0 | h0 | h0 | h0
    · exfalso; have := ar_out op h0; omega
    · subst h0
      obtain rfl : m = 0 := by have : ar 1 = 0 := rfl; omega
      cases R with
      | cons _ _ => cases hRl
      | nil =>
        rw [TmL.zero f1, if_pos rfl]
        exact Tm.num n hN
    · subst h0
      obtain rfl : m = 0 := by have : ar 2 = 0 := rfl; omega
      cases R with
      | cons _ _ => cases hRl
      | nil =>
        rw [TmL.zero f1, if_neg (show ¬ (2 : Int) = 1 by decide), if_pos rfl]
        obtain ⟨n0, n4⟩ := a3 rfl
        obtain ⟨v, rfl⟩ := Int.eq_ofNat_of_zero_le n0
        rw [show ((2, (v : Int)) : Int × Int).2.toNat = v from rfl]
        exact Tm.var v (by omega)
    · subst h0
      obtain rfl : m = 1 := by have : ar 3 = 1 := rfl; omega
      match R, hRl with
      | [r0], _ =>
        obtain ⟨ps0, p, rfl, g1, g2⟩ := f1.last (ts0 := []) (t := textG l f r0) rfl
        rw [TmL.zero g1, if_neg (show ¬ (3 : Int) = 1 by decide), if_neg (show ¬ (3 : Int) = 2 by decide), if_pos rfl, a4 (by omega)]
        exact Tm.neg g2
    · by_cases h11 : op = 11
      · subst h11
        obtain rfl : m = 3 := by have : ar 11 = 3 := rfl; omega
        match R, hRl with
        | [r0, r1, r2], _ =>
          obtain ⟨ps0, p, rfl, g1, g2⟩ := f1.last (ts0 := [textG l f r0, textG l f r1]) (t := textG l f r2) rfl
          obtain ⟨ps1, p1, rfl, g3, g4⟩ := g1.last (ts0 := [textG l f r0]) (t := textG l f r1) rfl
          obtain ⟨ps2, p2, rfl, g5, g6⟩ := g3.last (ts0 := []) (t := textG l f r0) rfl
          rw [TmL.zero g5, if_neg (show ¬ (11 : Int) = 1 by decide), if_neg (show ¬ (11 : Int) = 2 by decide), if_neg (show ¬ (11 : Int) = 3 by decide), if_pos rfl, a4 (by omega)]
          exact Tm.ifs g6 g4 g2
      · have o1 : 4 ≤ op ∧ op ≤ 10 := by omega
        have har : ar op = 2 := by
          rcases (show op = 4 ∨ op = 5 ∨ op = 6 ∨ op = 7 ∨ op = 8 ∨ op = 9 ∨ op = 10 by omega) with rfl | rfl | rfl | rfl | rfl | rfl | rfl <;> rfl
        obtain rfl : m = 2 := by omega
        match R, hRl with
        | [r0, r1], _ =>
          obtain ⟨ps1, p1, rfl, g3, g4⟩ := f1.last (ts0 := [textG l f r0]) (t := textG l f r1) rfl
          obtain ⟨ps2, p2, rfl, g5, g6⟩ := g3.last (ts0 := []) (t := textG l f r0) rfl
          rw [TmL.zero g5, if_neg (show ¬ op = 1 by omega), if_neg (show ¬ op = 2 by omega), if_neg (show ¬ op = 3 by omega), if_neg h11, a4 (by omega)]
          exact Tm.two op o1.1 o1.2 g6 g4
theorem good_tm {l : List (Int × Int)} (hg : goodB l = true) (hn : InN l) : Tm l (textT l) := by
  obtain ⟨h, h1, _⟩ := good_pile hg
  have := tm_of h hn l.length (l.length - 1) (by omega) (by omega) l.length (by omega)
  rwa [start_root h h1, show l.length - 1 + 1 = l.length from by omega, seg_all] at this

/-- What ReadTerm tells of a text. -/
def rdR (s : List UInt8) : Rd := readT s (s.length + 1) 0 []
def readOk (s : List UInt8) : Bool := decide (s.length ≤ 1200 ∧ (rdR s).1 = true ∧ (rdR s).2.1 = s.length ∧ (rdR s).2.2.length ≤ 40)
def readAt (s : List UInt8) : Nat := if s.length ≤ 1200 then (if (rdR s).1 = true ∧ (rdR s).2.1 = s.length then (if (rdR s).2.2.length ≤ 40 then s.length else 0) else (rdR s).2.1) else 0
def readL (s : List UInt8) : List (Int × Int) := if readOk s = true then (rdR s).2.2 else []
theorem rdR_ok (s : List UInt8) : RdOk s 0 [] (rdR s) := readT_ok s _ 0 [] (Nat.zero_le _)
theorem rdR_tm {s : List UInt8} (h : (rdR s).1 = true) (he : (rdR s).2.1 = s.length) : Tm (rdR s).2.2 s := by
  obtain ⟨_, _, _, h4⟩ := rdR_ok s
  obtain ⟨_, p, h5, h6⟩ := h4 h
  rw [h5, List.nil_append]
  rw [he] at h6
  have : seg8 s 0 s.length = s := by unfold seg8; rw [List.drop_zero, Nat.sub_zero, List.take_of_length_le (Nat.le_refl _)]
  rwa [this] at h6
theorem readL_len (s : List UInt8) : (readL s).length ≤ 40 := by
  unfold readL
  split
  · next h => unfold readOk at h; exact (of_decide_eq_true h).2.2.2
  · simp
theorem inN_of {l : List (Int × Int)} (h : ∀ x ∈ l, InI x.2) : InN l := by
  intro k
  rw [List.getD_eq_getElem?_getD]
  rcases Nat.lt_or_ge k l.length with hk | hk
  · rw [List.getElem?_eq_getElem hk]; exact h _ (List.getElem_mem hk)
  · rw [List.getElem?_eq_none hk]; exact ⟨by decide, by decide⟩
/-- A text that is read is the text of its term. -/
theorem read_text {s : List UInt8} (h : readOk s = true) : goodB (readL s) = true ∧ InN (readL s) ∧ textT (readL s) = s ∧ readAt s = s.length := by
  have h' := h
  unfold readOk at h'
  obtain ⟨h1, h2, h3, h4⟩ := of_decide_eq_true h'
  have hT := rdR_tm h2 h3
  have e : readL s = (rdR s).2.2 := by unfold readL; rw [if_pos h]
  rw [e]
  have hg : goodB (rdR s).2.2 = true := by rw [hT.good]; exact decide_eq_true h4
  have hN := inN_of hT.nums
  refine ⟨hg, hN, (good_tm hg hN).unique hT, ?_⟩
  unfold readAt
  rw [if_pos h1, if_pos ⟨h2, h3⟩, if_pos h4]
theorem text_len {l : List (Int × Int)} (hg : goodB l = true) (hi : ∀ k, k < l.length → (Lib.itoa (l.getD k (0, 0)).2).length ≤ 20) : (textT l).length ≤ 1000 := by
  obtain ⟨h, h1, h2⟩ := good_pile hg
  have := textG_len h hi l.length (l.length - 1) (by omega) (by omega) l.length (by omega)
  unfold textT
  omega
/-- A term is read back from its text. -/
theorem text_read {l : List (Int × Int)} (hg : goodB l = true) (hn : InN l) (hl : (textT l).length ≤ 1000) : readOk (textT l) = true ∧ readL (textT l) = l ∧ readAt (textT l) = (textT l).length := by
  have hT := good_tm hg hn
  have hr : rdR (textT l) = (true, (textT l).length, l) := by
    have := hT.back (textT l) [] 0 [] (textT l).length (by simp) rfl (Nat.le_refl _)
    rw [Nat.zero_add, List.nil_append] at this
    exact this
  have hok : readOk (textT l) = true := by
    unfold readOk
    rw [hr]
    exact decide_eq_true ⟨by omega, rfl, rfl, (good_pile hg).2.2⟩
  refine ⟨hok, ?_, (read_text hok).2.2.2⟩
  unfold readL
  rw [if_pos hok, hr]
end Go.Proofs.YtkadanagmahhgaaGreatDoor
