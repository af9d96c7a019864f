/-
  PROVED HERE: what the model's reader does at a sign. No other condition.
-/
import Derived.Test.YtbchehpggoampaaDoorRdr
import Derived.Test.YtbchehpggoampaaDoorText
namespace Go.Proofs.YtbchehpggoampaaDoor
open Go.ChangeShapes Go.WideShapes Go.ChangeAt Go.RowKit
set_option linter.unusedVariables false

/-- Whether the sign of an op stands at a place. -/
def signAt (s : List UInt8) (a : Nat) (op : Int) : Bool := if op = 10 ∧ byteIs s (a + 1) 60 = true then false else decide ((signB op).length ≤ s.length - a) && ((s.drop a).take (signB op).length == signB op)
/-- What the signs from an op on come to (with so much fuel). -/
def twoL (s : List UInt8) (a : Nat) : Nat → Int → Int × Nat
  | 0, _ => if byteIs s a 61 = true then (0, a + 1) else (0, a)
  | f + 1, op => if signAt s a op = true then (op, a + (signB op).length) else twoL s a f (op + 1)
theorem ext_list (s : ByteArray) (a n : Nat) : (s.extract a (a + n)).toList = (s.data.toList.drop a).take n := by
  rw [ByteArray.toList_eq, ByteArray.data_extract, Array.toList_extract]
  simp [List.extract]
theorem next_no {s : List UInt8} {a n : Nat} {X : Int × Nat} (h : signAt s a n = false) (hT : twoL s a (11 - n) n = X) (hn : n ≤ 10) : twoL s a (11 - (n + 1)) ((n + 1 : Nat) : Int) = X := by
  rw [show 11 - n = (11 - (n + 1)) + 1 from by omega, twoL, if_neg (by rw [h]; decide)] at hT
  exact hT
theorem next_yes {s : List UInt8} {a n : Nat} {X : Int × Nat} (h : signAt s a n = true) (hT : twoL s a (11 - n) n = X) (hn : n ≤ 10) : X = ((n : Int), a + (signB n).length) := by
  rw [show 11 - n = (11 - (n + 1)) + 1 from by omega, twoL, if_pos h] at hT
  exact hT.symm
set_option maxHeartbeats 1600000 in
set_option maxRecDepth 20000 in
theorem two_any (w : World) (g : Nat) (s : ByteArray) (a : Nat) (out : List (Int × Int)) (h : Rdr w g s a out) (hs : s.size ≤ 1048576) (ha : a ≤ s.size) :
    Calls Tryd.prog 88 #[.pointer (some ⟨g, 0, none⟩)] w fun e w' => e = .returned (.int .i64 (twoL s.data.toList a 7 4).1) ∧ Rdr w' g s (twoL s.data.toList a 7 4).2 out ∧ Below g w w' := by
  have HS : Hid (∀ op W, Calls Tryd.prog 58 #[.int .i64 op] W fun e w' => e = .returned (.string ⟨(signB op).toArray⟩) ∧ w' = W) := specSign_any
  have HR : Hid (Rdr w g s a out) := h
  have i2 : (s.size : Int) ≤ 1048576 := by omega
  have i1 : (a : Int) ≤ s.size := by omega
  have hsl0 : ∀ n : Nat, (a : Int) + n ≤ s.size → ∀ W, (Instr.slice 9 (.string s) (some (.int .i64 (a : Int))) (some (.int .i64 ((a : Int) + n))) none).run Tryd.prog W = .ok (.string (s.extract a (a + n))) W := by
    intro n hn W
    rw [run_slice_string W 9 s .i64 .i64 _ _ Tryd.underlying9 (by omega) (by omega) hn, show ((a : Int) + n).toNat = a + n from by omega]; rfl
  go_enter Tryd.func88, Tryd.ntmps88
  go_wp2_with fail
  go_loopw [3] (fun op wr => ∃ n : Nat, op = .int .i64 (n : Int) ∧ 4 ≤ n ∧ n ≤ 11 ∧ Rdr wr g s a out ∧ Below g w wr ∧ Hid (twoL s.data.toList a (11 - n) n = twoL s.data.toList a 7 4)) (fun op _ => (11 - intOf op).toNat)
  case atStart => exact ⟨4, rfl, by omega, by omega, HR.out, Below.refl _ _, rfl⟩
  case round =>
    obtain ⟨n, rfl, n4, n11, hR, hbr, hT⟩ := hrel
    have c0 := hR.c0
    have c1 := hR.c1
    have f1 := hR.f1
    have hlt := hR.lt
    by_cases hn : n ≤ 10
    · have in10 : (n : Int) ≤ 10 := by omega
      obtain ⟨S, hS⟩ : ∃ S, signB n = S := ⟨_, rfl⟩
      have hSl : S.length ≤ 2 := by
        rw [← hS]
        unfold signB
        repeat' split
        all_goals simp
      have HC : ∀ W, Calls Tryd.prog 58 #[.int .i64 n] W fun e w' => e = .returned (.string ⟨S.toArray⟩) ∧ w' = W := by rw [← hS]; exact HS.out n
      have hsg0 : Hid (¬ ((n : Int) = 10 ∧ byteIs s.data.toList (a + 1) 60 = true) → signAt s.data.toList a n = (decide (S.length ≤ s.size - a) && ((s.data.toList.drop a).take S.length == S))) := by
        intro hx
        unfold signAt
        rw [if_neg hx, hS]; rfl
      by_cases hA : n = 10
      · have a1 : ((n : Int) == 10) = true := by simp; omega
        by_cases hB : a + 1 < s.size
        · have b1 : decide ((a : Int) + 1 < s.size) = true := by simp; omega
          by_cases hC : s[a + 1] = 60
          · have b2 : (((s[a + 1]).toNat : Int) == 60) = true := by rw [hC]; rfl
            have b3 : (s[a + 1]).toNat = 60 := by rw [hC]; rfl
            have b4 : (a : Int) + 1 < s.size := by omega
            have hno : signAt s.data.toList a n = false := by
              unfold signAt
              rw [if_pos ⟨by omega, by unfold byteIs; rw [size_list, decide_eq_true hB, at_list s (a + 1) hB, hC]; rfl⟩]
            have hN := next_no hno hT.out hn
            clear hA hsg0
            go_wp2_with fail
            refine (HC _).mono ?_
            rintro e w1 ⟨rfl, rfl⟩
            go_wp2
            go_big_quiet (fail)
            go_wp2
            exact ⟨⟨n + 1, rfl, by omega, by omega, hR.drewN _, hbr.trans (below_drewN g _), hN⟩, by simp [intOf]; omega⟩
          · have hC' : ¬ (s[a + 1]).toNat = 60 := fun e => hC (UInt8.toNat_inj.1 e)
            have b2 : (((s[a + 1]).toNat : Int) == 60) = false := by simp; omega
            have b4 : (a : Int) + 1 < s.size := by omega
            have hsg1 : Hid (¬ ((n : Int) = 10 ∧ byteIs s.data.toList (a + 1) 60 = true)) := show ¬ _ from by unfold byteIs; rw [size_list, decide_eq_true hB, at_list s (a + 1) hB]; simpa using fun _ => hC
            have hix : ∀ W, (Instr.index 9 (.string s) (.int .i64 ((a : Int) + 1))).run Tryd.prog W = .ok (.int .u8 ((s[a + 1]).toNat : Int)) W := by
              intro W
              rw [run_index_string W 9 s .i64 _ Tryd.underlying9]
              rw [dif_pos (show (0 : Int) ≤ (a : Int) + 1 ∧ (a : Int) + 1 < s.size from ⟨by omega, by omega⟩)]
              rfl
            clear hA hC hC'
            generalize s[a + 1] = y at b2 hix
            go_wp2_with fail
            refine (HC _).mono ?_
            rintro e w1 ⟨rfl, rfl⟩
            go_wp2
            go_big_quiet (fail)
            go_wp2
            have hsg := hsg0.out hsg1.out
            by_cases hE : s.size - a < S.length
            · exfalso; omega
            · have e1 : decide ((S.length : Int) ≤ (s.size : Int) - a) = true := by simp; omega
              have e2 : (a : Int) + S.length ≤ s.size := by omega
              have hsl := hsl0 S.length e2
              by_cases hF : (s.extract a (a + S.length)).toList = S
              · have hF' : ((s.extract a (a + S.length)).toList == S) = true := by simpa using hF
                have hyes : signAt s.data.toList a n = true := by rw [hsg, ← ext_list, hF']; simp; omega
                have hN := next_yes hyes hT.out hn
                go_big_quiet (fail)
                go_wp2
                go_returns
                rw [hN, hS]
                exact ⟨rfl, (hR.drewN _).move (a + S.length), (hbr.trans (below_drewN g _)).trans (below_set _)⟩
              · have hF' : ((s.extract a (a + S.length)).toList == S) = false := by simpa using hF
                have hno : signAt s.data.toList a n = false := by rw [hsg, ← ext_list, hF', Bool.and_false]
                have hN := next_no hno hT.out hn
                clear hF
                go_big_quiet (fail)
                go_wp2
                exact ⟨⟨n + 1, rfl, by omega, by omega, hR.drewN _, hbr.trans (below_drewN g _), hN⟩, by simp [intOf]; omega⟩
        · have b1 : decide ((a : Int) + 1 < s.size) = false := by simp; omega
          have hsg1 : Hid (¬ ((n : Int) = 10 ∧ byteIs s.data.toList (a + 1) 60 = true)) := show ¬ _ from by unfold byteIs; rw [size_list, decide_eq_false hB]; simp
          clear hA
          go_wp2_with fail
          refine (HC _).mono ?_
          rintro e w1 ⟨rfl, rfl⟩
          go_wp2
          go_big_quiet (fail)
          go_wp2
          have hsg := hsg0.out hsg1.out
          by_cases hE : s.size - a < S.length
          · have e1 : decide ((S.length : Int) ≤ (s.size : Int) - a) = false := by simp; omega
            have hno : signAt s.data.toList a n = false := by rw [hsg]; simp; omega
            have hN := next_no hno hT.out hn
            go_big_quiet (fail)
            go_wp2
            exact ⟨⟨n + 1, rfl, by omega, by omega, hR.drewN _, hbr.trans (below_drewN g _), hN⟩, by simp [intOf]; omega⟩
          · have e1 : decide ((S.length : Int) ≤ (s.size : Int) - a) = true := by simp; omega
            have e2 : (a : Int) + S.length ≤ s.size := by omega
            have hsl := hsl0 S.length e2
            by_cases hF : (s.extract a (a + S.length)).toList = S
            · have hF' : ((s.extract a (a + S.length)).toList == S) = true := by simpa using hF
              have hyes : signAt s.data.toList a n = true := by rw [hsg, ← ext_list, hF']; simp; omega
              have hN := next_yes hyes hT.out hn
              go_big_quiet (fail)
              go_wp2
              go_returns
              rw [hN, hS]
              exact ⟨rfl, (hR.drewN _).move (a + S.length), (hbr.trans (below_drewN g _)).trans (below_set _)⟩
            · have hF' : ((s.extract a (a + S.length)).toList == S) = false := by simpa using hF
              have hno : signAt s.data.toList a n = false := by rw [hsg, ← ext_list, hF', Bool.and_false]
              have hN := next_no hno hT.out hn
              clear hF
              go_big_quiet (fail)
              go_wp2
              exact ⟨⟨n + 1, rfl, by omega, by omega, hR.drewN _, hbr.trans (below_drewN g _), hN⟩, by simp [intOf]; omega⟩
      · have a1 : ((n : Int) == 10) = false := by simp; omega
        have hsg1 : Hid (¬ ((n : Int) = 10 ∧ byteIs s.data.toList (a + 1) 60 = true)) := show ¬ _ from by omega
        clear hA
        go_wp2_with fail
        refine (HC _).mono ?_
        rintro e w1 ⟨rfl, rfl⟩
        go_wp2
        go_big_quiet (fail)
        go_wp2
        have hsg := hsg0.out hsg1.out
        by_cases hE : s.size - a < S.length
        · have e1 : decide ((S.length : Int) ≤ (s.size : Int) - a) = false := by simp; omega
          have hno : signAt s.data.toList a n = false := by rw [hsg]; simp; omega
          have hN := next_no hno hT.out hn
          go_big_quiet (fail)
          go_wp2
          exact ⟨⟨n + 1, rfl, by omega, by omega, hR.drewN _, hbr.trans (below_drewN g _), hN⟩, by simp [intOf]; omega⟩
        · have e1 : decide ((S.length : Int) ≤ (s.size : Int) - a) = true := by simp; omega
          have e2 : (a : Int) + S.length ≤ s.size := by omega
          have hsl := hsl0 S.length e2
          by_cases hF : (s.extract a (a + S.length)).toList = S
          · have hF' : ((s.extract a (a + S.length)).toList == S) = true := by simpa using hF
            have hyes : signAt s.data.toList a n = true := by rw [hsg, ← ext_list, hF']; simp; omega
            have hN := next_yes hyes hT.out hn
            go_big_quiet (fail)
            go_wp2
            go_returns
            rw [hN, hS]
            exact ⟨rfl, (hR.drewN _).move (a + S.length), (hbr.trans (below_drewN g _)).trans (below_set _)⟩
          · have hF' : ((s.extract a (a + S.length)).toList == S) = false := by simpa using hF
            have hno : signAt s.data.toList a n = false := by rw [hsg, ← ext_list, hF', Bool.and_false]
            have hN := next_no hno hT.out hn
            clear hF
            go_big_quiet (fail)
            go_wp2
            exact ⟨⟨n + 1, rfl, by omega, by omega, hR.drewN _, hbr.trans (below_drewN g _), hN⟩, by simp [intOf]; omega⟩
    · obtain rfl : n = 11 := by omega
      have hX : twoL s.data.toList a 7 4 = if byteIs s.data.toList a 61 = true then (0, a + 1) else (0, a) := hT.out.symm
      clear hT
      by_cases ha1 : a < s.size
      · have b1 : decide ((a : Int) < s.size) = true := by simp; omega
        have b4 : (a : Int) < s.size := by omega
        by_cases hC : s[a] = 61
        · have b2 : (((s[a]).toNat : Int) == 61) = true := by rw [hC]; rfl
          have b3 : (s[a]).toNat = 61 := by rw [hC]; rfl
          rw [if_pos (by unfold byteIs; rw [size_list, decide_eq_true ha1, at_list s a ha1, hC]; rfl)] at hX
          go_wp2
          go_big_quiet (fail)
          go_wp2
          go_returns
          rw [hX]
          exact ⟨rfl, (hR.drewN _).move (a + 1), (hbr.trans (below_drewN g _)).trans (below_set _)⟩
        · have hC' : ¬ (s[a]).toNat = 61 := fun e => hC (UInt8.toNat_inj.1 e)
          have b2 : (((s[a]).toNat : Int) == 61) = false := by simp; omega
          rw [if_neg (by unfold byteIs; rw [size_list, decide_eq_true ha1, at_list s a ha1]; simpa using hC)] at hX
          go_wp2
          go_big_quiet (fail)
          go_wp2
          go_returns
          rw [hX]
          exact ⟨rfl, hR.drewN _, hbr.trans (below_drewN g _)⟩
      · have b1 : decide ((a : Int) < s.size) = false := by simp; omega
        have b2 : ¬ a < s.size := ha1
        rw [if_neg (by unfold byteIs; rw [size_list, decide_eq_false ha1]; simp)] at hX
        go_wp2
        go_big_quiet (fail)
        go_wp2
        go_returns
        rw [hX]
        exact ⟨rfl, hR.drewN _, hbr.trans (below_drewN g _)⟩
end Go.Proofs.YtbchehpggoampaaDoor
