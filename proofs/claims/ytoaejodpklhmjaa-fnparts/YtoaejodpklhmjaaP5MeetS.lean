/-
  PROVED HERE: what is common to two lists of parts, to the model, at every two lists. No other condition.
-/
import Derived.Test.YtoaejodpklhmjaaP5Meet
import Derived.Test.YtoaejodpklhmjaaP5Keeps
namespace Go.Proofs.Ytoaejodpklhmjaa
open Go.ChangeShapes Go.WideShapes Go.ChangeAt Go.RowKit
set_option linter.unusedVariables false

set_option maxHeartbeats 1600000 in
theorem specMeet_any (a : Option Addr) (len cap : Nat) (l : List Int) (b : Option Addr) (lb cb : Nat) (m : List Int) (w : World) (h : Sl w a len l) (h2 : Sl w b lb m) (hm : len ≤ 9223372036854775807) (hm2 : lb ≤ 9223372036854775807) :
    Calls Try.prog 25 #[.slice a len cap, .slice b lb cb] w fun e w' => ∃ v : Value, e = .returned (.tuple #[v, .bool (pairB l m)]) ∧ w'.ownsRow w.heap.size 3 1 v (meetR l m).length (vals (meetR l m)) ∧ Below w.heap.size w w' := by
  have hll := h.1
  have hlm := h2.1
  have HX := (show Hid _ from specParts_any a len cap l w h hm)
  have HY := (show Hid _ from specParts_any b lb cb m w h2 hm2)
  unfold meetR
  cases e1 : partB l with
  | false =>
    rw [e1] at HX
    have e0 : pairB l m = false := by unfold pairB; rw [e1, Bool.and_false, Bool.false_and]
    rw [e0, if_neg (by decide)]
    clear h h2 e1 e0 HY
    go_enter Try.func25, Try.ntmps25
    go_wp2_with fail
    refine Calls.mono HX.out ?_
    rintro e w2 ⟨rfl, rfl⟩
    go_wp2
    go_ret2
    exact ⟨_, rfl, World.ownsRow_nil _ _ _ _, Below.refl _ _⟩
  | true =>
    rw [e1] at HX
    cases e2 : partB m with
    | false =>
      rw [e2] at HY
      have e0 : pairB l m = false := by unfold pairB; rw [e2, Bool.and_false]
      rw [e0, if_neg (by decide)]
      clear h h2 e1 e2 e0
      go_enter Try.func25, Try.ntmps25
      go_wp2_with fail
      refine Calls.mono HX.out ?_
      rintro e w2 ⟨rfl, rfl⟩
      go_wp2_with fail
      refine Calls.mono HY.out ?_
      rintro e w2 ⟨rfl, rfl⟩
      go_wp2
      go_ret2
      exact ⟨_, rfl, World.ownsRow_nil _ _ _ _, Below.refl _ _⟩
    | true =>
      rw [e2] at HY
      by_cases e3 : len = lb
      · subst e3
        have e0 : pairB l m = true := (pair_iff l m).2 ⟨by omega, e1, e2⟩
        rw [e0, if_pos rfl, meet_len, hll]
        have h200 : len ≤ 200 := by have := ((partB_iff l).1 e1).1; omega
        obtain ⟨i0, hi, hz0, hz1, hz2⟩ := info_parts infoInt
        have hne : ((len : Int) != len) = false := by simp
        have HS := (show Hid _ from h)
        have HS2 := (show Hid _ from h2)
        have HT : Hid (∀ k, k < len → (meetL l m).take (k + 1) = (meetL l m).take k ++ [((least l m k : Nat) : Int)]) := fun k hk => meet_take (by omega)
        have hMl : (meetL l m).length = len := by rw [meet_len, hll]
        generalize meetL l m = M at HT hMl ⊢
        clear h h2 e1 e2 e0
        go_enter Try.func25, Try.ntmps25
        go_wp2_with fail
        refine Calls.mono HX.out ?_
        rintro e w2 ⟨rfl, rfl⟩
        go_wp2_with fail
        refine Calls.mono HY.out ?_
        rintro e w2 ⟨rfl, rfl⟩
        clear HX HY
        go_wp2_with fail
        go_loopw [6, 27] (fun x i wr => ∃ (k : Nat), k ≤ len ∧ i = .int .i64 k ∧ wr.ownsRow w2.heap.size 3 1 x k (vals (M.take k)) ∧ Below w2.heap.size w2 wr) (fun _ i _ => len - (intOf i).toNat)
        case atStart => exact ⟨0, Nat.zero_le _, rfl, World.ownsRow_nil _ _ _ _, Below.refl _ _⟩
        case round =>
          obtain ⟨k, hk, rfl, hrow, hbr⟩ := hrel
          by_cases hlt : k < len
          · have HTk := (show Hid _ from HT.out k hlt)
            go_wp2_with fail
            go_loopw [8, 9] (fun x i wi => ∃ (j n : Nat) (z : Int), z = (j : Int) - 1 ∧ j ≤ k + 1 ∧ n ≤ k ∧ i = .int .i64 z ∧ x = .int .i64 n ∧ Hid (Alike l m n k ∧ ∀ q, j ≤ q → q < n → ¬ Alike l m q k) ∧ wi.ownsRow w2.heap.size 3 1 u6 k (vals (M.take k)) ∧ Below w2.heap.size w2 wi) (fun _ i _ => (intOf i + 1).toNat)
            case atStart => exact ⟨k + 1, k, (k : Int), by omega, Nat.le_refl _, Nat.le_refl _, rfl, rfl, ⟨⟨rfl, rfl⟩, fun q h1 h2 => by omega⟩, hrow, hbr⟩
            case round =>
              obtain ⟨j, n, z, hz, hj, hn, rfl, rfl, hA, hrw, hbi⟩ := hrel
              clear hrow hbr
              cases j with
              | zero =>
                obtain rfl : z = -1 := by omega
                clear hz
                have hnl : n = least l m k := least_eq l m k n hA.out.1 (fun q hq => hA.out.2 q (Nat.zero_le _) hq)
                subst hnl
                generalize least l m k = n at HTk hn
                have hsz := hbi.size
                clear hA
                go_wp2_with (at_builtin; refine wpList_append_own _ rfl _ _ 24 rfl w2.heap.size 3 i0 (.int .i64 0) 1 8 Try.underlying24 hi hz0 hz1 hz2 rfl (by decide) _ _ _ rfl (hrw.alloc _) ⟨wr.heap.size, 0, none⟩ 1 1 [_] rfl rfl (cell_new1 _ _ _ _) (one_cell1 _ _) (by unfold maxLen; omega) (by omega) (by simp; omega) ?_; intro v' w4 hown4 hg4 _)
                have hB : Below w2.heap.size w2 w4 := (hbi.alloc hbi.size _).grown hg4 (by simp; omega) (own_ge hrw)
                have hown5 : w4.ownsRow w2.heap.size 3 1 v' (k + 1) (vals (M.take (k + 1))) := by rw [HTk.out, vals_append]; exact hown4
                clear hg4 hbi hrw hown4
                go_roundw
                case rel => exact ⟨k + 1, by omega, by go_num, hown5, hB⟩
                case measure => simp [intOf]; omega
              | succ j =>
                obtain rfl : z = (j : Int) := by omega
                clear hz
                obtain ⟨b1, o1, rfl, hc⟩ := cells_of (Sl.keep HS.out hbi) (by omega)
                obtain ⟨b2, o2, rfl, hd⟩ := cells_of (Sl.keep HS2.out hbi) (by omega)
                have c1 := hc j (by omega)
                have c2 := hc k hlt
                have d1 := hd j (by omega)
                have d2 := hd k hlt
                have hjl : (j : Int) < len := by omega
                have hkl : (k : Int) < len := by omega
                have HY : Hid (Alike l m j k → Alike l m j k ∧ ∀ q, j ≤ q → q < j → ¬ Alike l m q k) := fun hh => ⟨hh, fun q h1 h2 => by omega⟩
                have HN : Hid (¬ Alike l m j k → Alike l m n k ∧ ∀ q, j ≤ q → q < n → ¬ Alike l m q k) := fun hh => ⟨hA.out.1, fun q h1 h2 => by
                  by_cases e : q = j
                  · subst e; exact hh
                  · exact hA.out.2 q (by omega) h2⟩
                by_cases ea : l.getD j 0 = l.getD k 0
                · by_cases eb : m.getD j 0 = m.getD k 0
                  · have HY' := (show Hid _ from HY.out ⟨ea, eb⟩)
                    rw [ea] at c1
                    rw [eb] at d1
                    have e1 : (l.getD k 0 == l.getD k 0) = true := by simp
                    have e2 : (m.getD k 0 == m.getD k 0) = true := by simp
                    clear hc hd HY HN ea eb hA
                    generalize l.getD k 0 = x at c1 c2 e1
                    generalize m.getD k 0 = y at d1 d2 e2
                    go_wp2
                    go_quiet (fail)
                    go_wp2
                    go_roundw
                    case rel => exact ⟨j, j, (j : Int) - 1, rfl, by omega, by omega, by go_num, rfl, HY', row_keep hrw (below_drewN (Below.refl _ _) _), below_drewN hbi _⟩
                    case measure => simp [intOf]
                  · have HN' := (show Hid _ from HN.out (fun hh => eb hh.2))
                    rw [ea] at c1
                    have e1 : (l.getD k 0 == l.getD k 0) = true := by simp
                    have e2 : (m.getD j 0 == m.getD k 0) = false := by simpa using eb
                    clear hc hd HY HN ea eb hA
                    generalize l.getD k 0 = x at c1 c2 e1
                    generalize m.getD k 0 = y at d2 e2
                    generalize m.getD j 0 = y' at d1 e2
                    go_wp2
                    go_quiet (fail)
                    go_wp2
                    go_roundw
                    case rel => exact ⟨j, n, (j : Int) - 1, rfl, by omega, by omega, by go_num, rfl, HN', row_keep hrw (below_drewN (Below.refl _ _) _), below_drewN hbi _⟩
                    case measure => simp [intOf]
                · have HN' := (show Hid _ from HN.out (fun hh => ea hh.1))
                  have e1 : (l.getD j 0 == l.getD k 0) = false := by simpa using ea
                  clear hc hd HY HN ea hA
                  generalize l.getD k 0 = x at c2 e1
                  generalize l.getD j 0 = x' at c1 e1
                  generalize m.getD k 0 = y at d2
                  generalize m.getD j 0 = y' at d1
                  go_wp2
                  go_quiet (fail)
                  go_wp2
                  go_roundw
                  case rel => exact ⟨j, n, (j : Int) - 1, rfl, by omega, by omega, by go_num, rfl, HN', row_keep hrw (below_drewN (Below.refl _ _) _), below_drewN hbi _⟩
                  case measure => simp [intOf]
          · obtain rfl : k = len := by omega
            rw [List.take_of_length_le (by omega)] at hrow
            go_wp2
            go_ret2
            exact ⟨_, rfl, hrow, hbr⟩
      · have e0 : pairB l m = false := by unfold pairB; rw [decide_eq_false (by omega), Bool.false_and, Bool.false_and]
        rw [e0, if_neg (by decide)]
        have hne : ((len : Int) != lb) = true := by simp; omega
        clear h h2 e1 e2 e0
        go_enter Try.func25, Try.ntmps25
        go_wp2_with fail
        refine Calls.mono HX.out ?_
        rintro e w2 ⟨rfl, rfl⟩
        go_wp2_with fail
        refine Calls.mono HY.out ?_
        rintro e w2 ⟨rfl, rfl⟩
        go_wp2
        go_ret2
        exact ⟨_, rfl, World.ownsRow_nil _ _ _ _, Below.refl _ _⟩
end Go.Proofs.Ytoaejodpklhmjaa
