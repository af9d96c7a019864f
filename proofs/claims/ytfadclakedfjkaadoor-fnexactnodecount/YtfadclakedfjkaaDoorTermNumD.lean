/-
  PROVED HERE: the model's reading of a number. No other condition.
-/
import Derived.Test.YtfadclakedfjkaaDoorTermNum
namespace Go.Proofs.YtfadclakedfjkaaDoor
open Go.ChangeShapes Go.WideShapes Go.ChangeAt Go.RowKit
set_option linter.unusedVariables false
set_option maxHeartbeats 1600000 in
set_option maxRecDepth 20000 in
theorem number_pos_none (w : World) (g : Nat) (s : ByteArray) (a : Nat) (out : List (Int × Int)) (h : Rdr w g s a out) (hs : s.size ≤ 1048576) (ho : out.length ≤ 1048576) (ha : a < s.size) (hd : 48 ≤ (s[a]).toNat ∧ (s[a]).toNat ≤ 57) (E : Nat) (hE : digEnd s.data.toList (a) = E) (hEs : E ≤ s.size) (haE : a ≤ E) (hno : ∀ n, InI n → Lib.itoa n ≠ (s.data.toList.drop a).take (E - a)) :
    Calls Tryd.prog 59 #[.pointer (some ⟨g, 0, none⟩)] w fun e w' => e = .returned (.bool false) ∧ Rdr w' g s (a) out ∧ Below g w w' := by
  have HR : Hid (Rdr w g s a out) := h
  have c0 := h.c0
  have c1 := h.c1
  have hlt := h.lt
  have i2 : (s.size : Int) ≤ 1048576 := by omega
  have i1 : (a : Int) < s.size := by omega
  have hix : ∀ n : Nat, (hn : n < s.size) → ∀ W, (Instr.index 9 (.string s) (.int .i64 (n : Int))).run Tryd.prog W = .ok (.int .u8 ((s[n]).toNat : Int)) W := by
    intro n hn W
    rw [run_index_string W 9 s .i64 _ Tryd.underlying9, dif_pos (show (0 : Int) ≤ (n : Int) ∧ (n : Int) < s.size from ⟨by omega, by omega⟩)]
    rfl
  have hixa := hix a ha
  have hsl : ∀ W, (Instr.slice 9 (.string s) (some (.int .i64 (a : Int))) (some (.int .i64 (E : Int))) none).run Tryd.prog W = .ok (.string (s.extract a E)) W := by
    intro W
    rw [run_slice_string W 9 s .i64 .i64 _ _ Tryd.underlying9 (by omega) (by omega) (by omega)]; rfl
  have hseg := ext_seg s a E
  have hxs : (s.extract a E).size ≤ 1048576 := by rw [ByteArray.size_extract]; omega
  obtain ⟨X, hX⟩ : ∃ X, s.extract a E = X := ⟨_, rfl⟩
  rw [hX] at hsl hseg hxs
  rw [← hseg] at hno
  have HC : Hid (∀ W, Calls Tryd.prog 74 #[.string X] W fun e w' => e = .returned (.tuple #[.int .i64 0, .bool false]) ∧ Below W.heap.size W w') := fun W => specRead_none X W (by omega) hno
  clear hno
  have b1 : (((s[a]).toNat : Int) == 45) = false := by simp; omega
  have HE : Hid (digEnd s.data.toList (a) = E) := hE
  clear hE hseg h
  go_enter Tryd.func59, Tryd.ntmps59
  go_wp2_with fail
  go_loopw [3] (fun x wr => ∃ k : Nat, x = .int .i64 (k : Int) ∧ a ≤ k ∧ k ≤ s.size ∧ Hid (digEnd s.data.toList k = E) ∧ wr = w) (fun x _ => s.size - (intOf x).toNat)
  case atStart => exact ⟨a, by go_num, Nat.le_refl _, by omega, HE, rfl⟩
  case round =>
    obtain ⟨k, rfl, k1, k2, hk, rfl⟩ := hrel
    by_cases hlk : k < s.size
    · have j1 : (k : Int) < s.size := by omega
      have hixk := hix k hlk
      have hdk := isD_at s k hlk
      by_cases d1 : 48 ≤ (s[k]).toNat
      · have e1 : (48 : Int) ≤ (s[k]).toNat := by omega
        by_cases d2 : (s[k]).toNat ≤ 57
        · have e2 : ((s[k]).toNat : Int) ≤ 57 := by omega
          have hN : Hid (digEnd s.data.toList (k + 1) = E) := by
            show _ = _
            rw [← hk.out, dig_yes s.data.toList k (by rw [hdk]; exact decide_eq_true ⟨d1, d2⟩)]
          clear hdk hix
          go_wp2
          exact ⟨⟨k + 1, by go_num, by omega, by omega, hN, by first | trivial | rfl⟩, by simp [intOf]; omega⟩
        · have e2 : ¬ ((s[k]).toNat : Int) ≤ 57 := by omega
          obtain rfl : k = E := by rw [← hk.out, dig_no s.data.toList k (by rw [hdk]; exact decide_eq_false (by omega))]
          clear hdk hix
          go_wp2
          go_region_with (go_at_call 74; refine (HC.out _).mono ?_; rintro e w1 ⟨rfl, hb1⟩)
          all_goals
            (try clear hixk)
            (try clear e2)
            (try clear e1)
            (try clear d2)
            (try clear d1)
            have hbB : Below wr.heap.size wr w1 := ((Below.refl _ _).drew).trans hb1
            have hR1 := HR.out.keep hbB
            have d0 := hR1.c0
            have d1 := hR1.c1
            have f1 := hR1.f1
            have hlt1 := hR1.lt
            go_wp2
            go_simp
            go_big_quiet (fail)
            go_wp2
            go_returns
            exact ⟨rfl, hR1.drewN _, ((hbB.mono (Nat.le_of_lt hlt)).trans (below_drewN g _))⟩
      · have e1 : ¬ (48 : Int) ≤ (s[k]).toNat := by omega
        obtain rfl : k = E := by rw [← hk.out, dig_no s.data.toList k (by rw [hdk]; exact decide_eq_false (by omega))]
        clear hdk hix
        go_wp2
        go_region_with (go_at_call 74; refine (HC.out _).mono ?_; rintro e w1 ⟨rfl, hb1⟩)
        all_goals
          (try clear hixk)
          (try clear e2)
          (try clear e1)
          (try clear d2)
          (try clear d1)
          have hbB : Below wr.heap.size wr w1 := ((Below.refl _ _).drew).trans hb1
          have hR1 := HR.out.keep hbB
          have d0 := hR1.c0
          have d1 := hR1.c1
          have f1 := hR1.f1
          have hlt1 := hR1.lt
          go_wp2
          go_simp
          go_big_quiet (fail)
          go_wp2
          go_returns
          exact ⟨rfl, hR1.drewN _, ((hbB.mono (Nat.le_of_lt hlt)).trans (below_drewN g _))⟩
    · have j1 : ¬ (k : Int) < s.size := by omega
      obtain rfl : k = E := by rw [← hk.out, dig_no s.data.toList k (isD_out s k hlk)]
      clear hix
      go_wp2
      go_region_with (go_at_call 74; refine (HC.out _).mono ?_; rintro e w1 ⟨rfl, hb1⟩)
      all_goals
        (try clear hixk)
        (try clear e2)
        (try clear e1)
        (try clear d2)
        (try clear d1)
        have hbB : Below wr.heap.size wr w1 := ((Below.refl _ _).drew).trans hb1
        have hR1 := HR.out.keep hbB
        have d0 := hR1.c0
        have d1 := hR1.c1
        have f1 := hR1.f1
        have hlt1 := hR1.lt
        go_wp2
        go_simp
        go_big_quiet (fail)
        go_wp2
        go_returns
        exact ⟨rfl, hR1.drewN _, ((hbB.mono (Nat.le_of_lt hlt)).trans (below_drewN g _))⟩
end Go.Proofs.YtfadclakedfjkaaDoor
