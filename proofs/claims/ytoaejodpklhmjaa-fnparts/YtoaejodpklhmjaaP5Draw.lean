/-
  PROVED HERE: the laws' own drawn parents: some list, not too long, in new memory, whatever the bytes. No condition.
-/
import Derived.Test.YtoaejodpklhmjaaDrawsA
import Derived.Test.YtoaejodpklhmjaaP5Join
import Derived.Test.YtoaejodpklhmjaaP5Keeps
namespace Go.Proofs.Ytoaejodpklhmjaa
open Go.ChangeShapes Go.WideShapes Go.ChangeAt Go.RowKit
set_option linter.unusedVariables false

theorem pick5_any (w : World) (c n : Nat) (m : Int) (h : Cur w c n) (hn : n + 2 < 1048576) (hm : m ≤ 300) :
    Calls Try.prog 44 #[.pointer (some ⟨c, 0, none⟩), .int .i64 m] w fun e w' => ∃ v : Nat, e = .returned (.int .i64 v) ∧ ((v : Int) < m ∨ v = 0) ∧ Drew w w' c n 2 := by
  by_cases h1 : m ≤ 1
  · go_enter Try.func44, Try.ntmps44
    go_wp2
    go_ret
    exact ⟨0, rfl, .inr rfl, ⟨n, by omega, h⟩, World.grownBy.refl _ _⟩
  · have hN := (show Hid _ from next_any w c n h (by omega))
    clear h
    by_cases h2 : (200 : Int) < m
    · go_enter Try.func44, Try.ntmps44
      go_wp2_with fail
      refine Calls.mono hN.out ?_
      rintro e w1 ⟨v, rfl, v0, v1, hc, hg⟩
      have hN2 := (show Hid _ from next_any w1 c (n + 1) hc (by omega))
      clear hc hN
      go_wp2_with fail
      refine Calls.mono hN2.out ?_
      rintro e w2 ⟨y, rfl, y0, y1, hc2, hg2⟩
      have hw : wrap64 (wrap64 (v * 256) + y) = v * 256 + y := by unfold wrap64; omega
      have hw1 : wrap64 (v * 256) = v * 256 := by unfold wrap64; omega
      have q0 : 0 ≤ v * 256 + y := by omega
      have hG := gtrans hg hg2
      clear hN2 hg hg2
      go_wp2
      go_ret
      have e1 : 0 ≤ (v * 256 + y) % m := Int.emod_nonneg _ (by omega)
      have e2 : (v * 256 + y) % m < m := Int.emod_lt_of_pos _ (by omega)
      refine ⟨((v * 256 + y) % m).toNat, ?_, .inl (by omega), ⟨n + 1 + 1, by omega, hc2⟩, hG⟩
      rw [Int.toNat_of_nonneg e1]
      rfl
    · go_enter Try.func44, Try.ntmps44
      go_wp2_with fail
      refine Calls.mono hN.out ?_
      rintro e w1 ⟨v, rfl, v0, v1, hc, hg⟩
      clear hN
      go_wp2
      go_ret
      have e1 : 0 ≤ v % m := Int.emod_nonneg _ (by omega)
      have e2 : v % m < m := Int.emod_lt_of_pos _ (by omega)
      refine ⟨(v % m).toNat, ?_, .inl (by omega), ⟨n + 1, by omega, hc⟩, hg⟩
      rw [Int.toNat_of_nonneg e1]
      rfl
theorem one5_any (w : World) (c n : Nat) (m : Int) (h : Cur w c n) (hn : n + 2 < 1048576) (hm : m ≤ 300) :
    Calls Try.prog 64 #[.pointer (some ⟨c, 0, none⟩), .int .i64 m] w fun e w' => ∃ v : Bool, e = .returned (.bool v) ∧ Drew w w' c n 2 := by
  have C := (show Hid _ from pick5_any w c n m h hn hm)
  clear h
  go_enter Try.func64, Try.ntmps64
  go_wp2_with fail
  refine Calls.mono C.out ?_
  rintro e w1 ⟨v, rfl, _, hd⟩
  go_wp2
  go_ret
  exact ⟨_, rfl, hd⟩
theorem Drew.more {w w' : World} {c n k j : Nat} (h : Drew w w' c n k) (hj : k ≤ j) : Drew w w' c n j := by
  obtain ⟨⟨n', h1, h2⟩, h3⟩ := h
  exact ⟨⟨n', by omega, h2⟩, h3⟩

set_option maxHeartbeats 3200000 in
theorem parents_any (w : World) (c n : Nat) (h : Cur w c n) (hn : n ≤ 1000) :
    Calls Try.prog 43 #[.pointer (some ⟨c, 0, none⟩)] w fun e w' => ∃ (v : Value) (l : List Int), e = .returned v ∧ w'.ownsRow w.heap.size 3 1 v l.length (vals l) ∧ 1 ≤ l.length ∧ l.length ≤ 201 ∧ Drew w w' c n 1000 := by
  obtain ⟨i0, hi, hz0, hz1, hz2⟩ := info_parts infoInt
  have hcl := h.lt
  have C1 := (show Hid _ from pick5_any w c n 12 h (by omega) (by decide))
  clear h
  go_enter Try.func43, Try.ntmps43
  go_wp2_with fail
  refine Calls.mono C1.out ?_
  rintro e w1 ⟨v, rfl, hv, ⟨n1, hn1, hc1⟩, hg1⟩
  have C2 := (show Hid _ from one5_any w1 c n1 30 hc1 (by omega) (by decide))
  obtain ⟨N, hN⟩ : ∃ N : Nat, 1 + (v : Int) = N := ⟨1 + v, by omega⟩
  have hN1 : 1 ≤ N ∧ N ≤ 201 := by omega
  clear C1 hc1
  go_wp2_with fail
  refine Calls.mono C2.out ?_
  rintro e w2 ⟨t, rfl, ⟨n2, hn2, hc2⟩, hg2⟩
  have hG2 := gtrans hg1 hg2
  clear C2 hg1 hg2 hv hN
  cases t
  case' false =>
    obtain ⟨W, rfl⟩ : ∃ W, W = w2 := ⟨_, rfl⟩
    obtain ⟨n3, rfl⟩ : ∃ n3, n3 = n2 := ⟨_, rfl⟩
    obtain ⟨M, rfl⟩ : ∃ M, M = N := ⟨_, rfl⟩
    have hn3 : n3 ≤ n + 6 := by omega
    clear hn1 hn2
    go_wp2_with fail
  case' true =>
    have C3 := (show Hid _ from pick5_any w2 c n2 2 hc2 (by omega) (by decide))
    clear hc2
    go_wp2_with fail
    refine Calls.mono C3.out ?_
    rintro e W ⟨x, rfl, hx, ⟨n3, hn3', hc2⟩, hg3⟩
    replace hG2 := gtrans hG2 hg3
    have hn3 : n3 ≤ n + 6 := by omega
    obtain ⟨M, hM⟩ : ∃ M : Nat, 200 + (x : Int) = M := ⟨200 + x, by omega⟩
    replace hN1 : 1 ≤ M ∧ M ≤ 201 := by omega
    clear hn1 hn2 hn3' C3 hg3
    go_wp2_with fail
    clear hx hM
  all_goals
    go_loopw [3, 5] (fun x i wr => ∃ (k n' : Nat) (l : List Int), k ≤ M ∧ i = .int .i64 k ∧ l.length = k ∧ wr.ownsRow w.heap.size 3 1 x k (vals l) ∧ n' ≤ n + 6 + 4 * k ∧ Cur wr c n' ∧ w.grownBy wr (some c)) (fun _ i _ => M - (intOf i).toNat)
    case atStart => exact ⟨0, n3, [], Nat.zero_le _, rfl, rfl, World.ownsRow_nil _ _ _ _, by omega, hc2, hG2⟩
    case round =>
      obtain ⟨k, n4, l, hk, rfl, hlk, hrow, hn4, hc4, hg4⟩ := hrel
      clear hc2 hG2 hn3
      have hrg := own_ge hrow
      by_cases hlt : k < M
      · have C4 := (show Hid _ from one5_any wr c n4 2 hc4 (by omega) (by decide))
        have hkM : (k : Int) < M := by omega
        clear hc4
        go_wp2_with fail
        refine Calls.mono C4.out ?_
        rintro e w5 ⟨t, rfl, ⟨n5, hn5, hc5⟩, hg5⟩
        have hG5 := gtrans hg4 hg5
        have hrow5 := row_grown hrow hg5 (fun x hx e => by cases e; have := hrg _ hx; omega)
        clear C4 hg4 hg5 hrow
        have hs5 := hG5.size
        cases t
        · have C5 := (show Hid _ from pick5_any w5 c n5 ((k : Int) + 1) hc5 (by omega) (by omega))
          clear hc5
          go_wp2_with fail
          refine Calls.mono C5.out ?_
          rintro e w6 ⟨x, rfl, hx, ⟨n6, hn6, hc6⟩, hg6⟩
          have hG6 := gtrans hG5 hg6
          have hrow6 := row_grown hrow5 hg6 (fun x hx e => by cases e; have := hrg _ hx; omega)
          have hs6 := hG6.size
          clear C5 hG5 hg6 hrow5 hx hs5
          go_wp2_with (at_builtin; refine wpList_append_own _ rfl _ _ 24 rfl w.heap.size 3 i0 (.int .i64 0) 1 8 Try.underlying24 hi hz0 hz1 hz2 rfl (by decide) _ _ _ rfl (hrow6.alloc _) ⟨w6.heap.size, 0, none⟩ 1 1 [_] rfl rfl (cell_new1 _ _ _ _) (one_cell1 _ _) (by unfold maxLen; omega) (by omega) (by simp; omega) ?_; intro v' w7 hown7 hg7 _)
          have hR : Hid (w7.ownsRow w.heap.size 3 1 v' (k + 1) (vals (l ++ [(x : Int)])) ∧ Cur w7 c n6 ∧ w.grownBy w7 (some c)) := ⟨by rw [vals_append]; exact hown7, (hc6.kept (World.grownBy_alloc _ _ none) (fun r hr => by cases hr)).kept hg7 (fun r hr => by have := hrg r hr; omega), grown_own (grown_own hG6 (World.grownBy_alloc _ _ none) (fun r hr => by cases hr)) hg7 hrg⟩
          clear hown7 hg7 hrow6 hc6 hG6
          go_roundw
          case rel => exact ⟨k + 1, n6, l ++ [(x : Int)], by omega, by go_num, by simp [hlk], hR.out.1, by omega, hR.out.2.1, hR.out.2.2⟩
          case measure => simp [intOf]; omega
        · go_wp2_with (at_builtin; refine wpList_append_own _ rfl _ _ 24 rfl w.heap.size 3 i0 (.int .i64 0) 1 8 Try.underlying24 hi hz0 hz1 hz2 rfl (by decide) _ _ _ rfl (hrow5.alloc _) ⟨w5.heap.size, 0, none⟩ 1 1 [_] rfl rfl (cell_new1 _ _ _ _) (one_cell1 _ _) (by unfold maxLen; omega) (by omega) (by simp; omega) ?_; intro v' w7 hown7 hg7 _)
          have hR : Hid (w7.ownsRow w.heap.size 3 1 v' (k + 1) (vals (l ++ [(k : Int)])) ∧ Cur w7 c n5 ∧ w.grownBy w7 (some c)) := ⟨by rw [vals_append]; exact hown7, (hc5.kept (World.grownBy_alloc _ _ none) (fun r hr => by cases hr)).kept hg7 (fun r hr => by have := hrg r hr; omega), grown_own (grown_own hG5 (World.grownBy_alloc _ _ none) (fun r hr => by cases hr)) hg7 hrg⟩
          clear hown7 hg7 hrow5 hc5 hG5
          go_roundw
          case rel => exact ⟨k + 1, n5, l ++ [(k : Int)], by omega, by go_num, by simp [hlk], hR.out.1, by omega, hR.out.2.1, hR.out.2.2⟩
          case measure => simp [intOf]; omega
      · obtain rfl : k = M := by omega
        have C4 := (show Hid _ from one5_any wr c n4 30 hc4 (by omega) (by decide))
        clear hc4
        go_wp2_with fail
        refine Calls.mono C4.out ?_
        rintro e w5 ⟨t, rfl, ⟨n5, hn5, hc5⟩, hg5⟩
        have hG5 := gtrans hg4 hg5
        have hrow5 := row_grown hrow hg5 (fun x hx e => by cases e; have := hrg _ hx; omega)
        clear C4 hg4 hg5 hrow
        have hs5 := hG5.size
        cases t
        · go_wp2
          go_ret
          exact ⟨_, l, rfl, by rw [hlk]; exact hrow5, by omega, by omega, ⟨n5, by omega, hc5⟩, hG5⟩
        · obtain ⟨g, cp, rfl, hg1, hg2⟩ := own_open hrow5 (by omega)
          have hca : Cur (w5.alloc (.cells #[.int .i64 (-1), .int .i64 1] 3)) c n5 := hc5.kept (World.grownBy_alloc _ _ none) (fun r hr => by cases hr)
          have hra := hrow5.alloc (.cells #[.int .i64 (-1), .int .i64 1] 3)
          have hga : w.grownBy (w5.alloc (.cells #[.int .i64 (-1), .int .i64 1] 3)) (some c) := grown_own hG5 (World.grownBy_alloc _ _ none) (fun r hr => by cases hr)
          have CA := (show Hid _ from among_any (w5.alloc (.cells #[.int .i64 (-1), .int .i64 1] 3)) c n5 w5.heap.size 2 [-1, 1] hca (by omega) (by decide) (by decide) (by omega) (fun i hi => by
            have : i = 0 ∨ i = 1 := by simp at hi; omega
            rcases this with rfl | rfl <;> simp [go_sem]))
          clear hc5 hrow5 hG5 hca
          go_wp2_with fail
          refine Calls.mono CA.out ?_
          rintro e w6 ⟨i, hi6, rfl, hc6, hg6⟩
          generalize List.getD [-1, 1] i 0 = z
          have hG6 := gtrans hga hg6
          have hrow6 := row_grown hra hg6 (fun x hx e => by cases e; have := hrg _ hx; omega)
          have hfr := hrow6.frozenAt 0
          have hcg := hrow6.cellAt 0 (by omega)
          rw [vals_at (by omega)] at hcg
          have hst := (hrow6.stored 0 (.int .i64 z)).1
          rw [← vals_set] at hst
          have hgS : w.grownBy (w6.setCell ⟨g, 0, none⟩ (.int .i64 z)) (some c) := ⟨hG6.os, hG6.tape, hG6.output, by have := hG6.size; simpa [World.setCell] using this, fun i hi hne => (Below.heap_setCell _ _ _ _ (fun e => by simp at e; omega)).trans (hG6.block i hi hne)⟩
          have hcS : Cur (w6.setCell ⟨g, 0, none⟩ (.int .i64 z)) c (n5 + 1) := hc6.kept (row := some g) ⟨rfl, rfl, rfl, by simp [World.setCell], fun i hi hne => Below.heap_setCell _ _ _ _ (fun e => hne (by rw [e]))⟩ (fun r hr => by cases hr; omega)
          clear hra hga hg6 hrow6 CA hc6 hG6
          generalize l.getD 0 0 = y at hcg
          have HST := (show Hid _ from hst)
          have HGS := (show Hid _ from hgS)
          have HCS := (show Hid _ from hcS)
          clear hst hgS hcS
          go_wp2
          go_ret
          exact ⟨_, l.set 0 z, rfl, by rw [List.length_set, hlk]; exact HST.out, by rw [List.length_set]; omega, by rw [List.length_set]; omega, ⟨n5 + 1, by omega, HCS.out⟩, HGS.out⟩
end Go.Proofs.Ytoaejodpklhmjaa
