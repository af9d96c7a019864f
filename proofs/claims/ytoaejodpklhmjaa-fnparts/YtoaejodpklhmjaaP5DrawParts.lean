/-
  PROVED HERE: the laws' own drawn parents and parts: some lists, not too long, in new memory, and some numbers, whatever the bytes. No condition.
-/
import Derived.Test.YtoaejodpklhmjaaP5Draw
namespace Go.Proofs.Ytoaejodpklhmjaa
open Go.ChangeShapes Go.WideShapes Go.ChangeAt Go.RowKit
set_option linter.unusedVariables false

theorem join_nonneg {l : List Int} {a b : Nat} (h : ∀ k, k < l.length → 0 ≤ l.getD k 0) (ha : a < l.length) (hb : b < l.length) : ∀ k, k < (joinL l a b).length → 0 ≤ (joinL l a b).getD k 0 := by
  intro k hk
  rw [join_len] at hk
  rw [join_get _ _ _ hk]
  have := h a ha
  have := h b hb
  have := h k hk
  split <;> omega

set_option maxHeartbeats 3200000 in
theorem parts_any (w : World) (c n m : Nat) (h : Cur w c n) (hn : n ≤ 10000) (hm : 1 ≤ m ∧ m ≤ 20) :
    Calls Try.prog 56 #[.pointer (some ⟨c, 0, none⟩), .int .i64 m] w fun e w' => ∃ (v : Value) (l : List Int), e = .returned v ∧ w'.ownsRow w.heap.size 3 1 v l.length (vals l) ∧ l.length = m ∧ Drew w w' c n 200 := by
  obtain ⟨i0, hi, hz0, hz1, hz2⟩ := info_parts infoInt
  have hcl := h.lt
  have HC0 := (show Hid _ from h)
  clear h
  go_enter Try.func56, Try.ntmps56
  go_wp2_with fail
  go_loopw [5, 6] (fun x i wr => ∃ (k : Nat) (l : List Int), k ≤ m ∧ i = .int .i64 k ∧ l.length = k ∧ Hid (∀ j, j < l.length → 0 ≤ l.getD j 0) ∧ wr.ownsRow w.heap.size 3 1 x k (vals l) ∧ Cur wr c n ∧ w.grownBy wr (some c)) (fun _ i _ => m - (intOf i).toNat)
  case atStart => exact ⟨0, [], Nat.zero_le _, rfl, rfl, fun j hj => by simp at hj, World.ownsRow_nil _ _ _ _, HC0.out, World.grownBy.refl _ _⟩
  case round =>
    obtain ⟨k, l, hk, rfl, hlk, hl0, hrow, hc, hg⟩ := hrel
    clear HC0
    have hrg := own_ge hrow
    have hs := hg.size
    by_cases hlt : k < m
    · have hkm : (k : Int) < m := by omega
      go_wp2_with (at_builtin; refine wpList_append_own _ rfl _ _ 24 rfl w.heap.size 3 i0 (.int .i64 0) 1 8 Try.underlying24 hi hz0 hz1 hz2 rfl (by decide) _ _ _ rfl (hrow.alloc _) ⟨wr.heap.size, 0, none⟩ 1 1 [_] rfl rfl (cell_new1 _ _ _ _) (one_cell1 _ _) (by unfold maxLen; omega) (by omega) (by simp; omega) ?_; intro v' w7 hown7 hg7 _)
      have hR : Hid (w7.ownsRow w.heap.size 3 1 v' (k + 1) (vals (l ++ [(k : Int)])) ∧ Cur w7 c n ∧ w.grownBy w7 (some c)) := ⟨by rw [vals_append]; exact hown7, (hc.kept (World.grownBy_alloc _ _ none) (fun r hr => by cases hr)).kept hg7 (fun r hr => by have := hrg r hr; omega), grown_own (grown_own hg (World.grownBy_alloc _ _ none) (fun r hr => by cases hr)) hg7 hrg⟩
      have hl1 : Hid (∀ j, j < (l ++ [(k : Int)]).length → 0 ≤ (l ++ [(k : Int)]).getD j 0) := fun j hj => by
        rw [List.length_append] at hj
        by_cases e : j < l.length
        · have := hl0.out j e
          rw [List.getD_eq_getElem?_getD, List.getElem?_append_left e, ← List.getD_eq_getElem?_getD]
          exact this
        · have : j = l.length := by simp at hj; omega
          subst this
          rw [List.getD_eq_getElem?_getD, List.getElem?_append_right (Nat.le_refl _)]
          simp
      clear hown7 hg7 hrow hc hg hl0
      go_roundw
      case rel => exact ⟨k + 1, l ++ [(k : Int)], by omega, by go_num, by simp [hlk], hl1, hR.out.1, hR.out.2.1, hR.out.2.2⟩
      case measure => simp [intOf]; omega
    · obtain rfl : k = m := by omega
      have C1 := (show Hid _ from pick5_any wr c n ((k : Int) + 1) hc (by omega) (by omega))
      clear hc
      go_wp2_with fail
      refine Calls.mono C1.out ?_
      rintro e w1 ⟨K, rfl, hK, ⟨n1, hn1, hc1⟩, hg1⟩
      have hG1 := gtrans hg hg1
      have hrow1 := row_grown hrow hg1 (fun x hx e => by cases e; have := hrg _ hx; omega)
      have hK' : K ≤ k := by omega
      clear C1 hg hg1 hrow hK hs
      go_wp2_with fail
      go_loopw [5, 7] (fun x i wr => ∃ (j n' : Nat) (l : List Int), j ≤ K ∧ i = .int .i64 j ∧ l.length = k ∧ Hid (∀ j, j < l.length → 0 ≤ l.getD j 0) ∧ wr.ownsRow w.heap.size 3 1 x k (vals l) ∧ n' + 4 * j ≤ n + 2 + 4 * K ∧ Cur wr c n' ∧ w.grownBy wr (some c)) (fun _ i _ => (intOf i).toNat)
      case atStart => exact ⟨K, n1, l, Nat.le_refl _, rfl, hlk, hl0, hrow1, by omega, hc1, hG1⟩
      case round =>
        obtain ⟨j, n2, l, hj, rfl, hlk, hl0, hrow, hn2, hc, hg⟩ := hrel
        clear hrow1 hc1 hG1 hrg
        have hrg := own_ge hrow
        have hs := hg.size
        by_cases h0 : 0 < j
        · have hj0 : (0 : Int) < j := by omega
          have C2 := (show Hid _ from pick5_any wr c n2 k hc (by omega) (by omega))
          clear hc
          go_wp2_with fail
          refine Calls.mono C2.out ?_
          rintro e w2 ⟨x, rfl, hx, ⟨n3, hn3, hc3⟩, hg3⟩
          have hG3 := gtrans hg hg3
          have hrow3 := row_grown hrow hg3 (fun x hx e => by cases e; have := hrg _ hx; omega)
          have C3 := (show Hid _ from pick5_any w2 c n3 k hc3 (by omega) (by omega))
          clear C2 hg hg3 hrow hc3 hs
          go_wp2_with fail
          refine Calls.mono C3.out ?_
          rintro e w3 ⟨y, rfl, hy, ⟨n4, hn4, hc4⟩, hg4⟩
          have hG4 := gtrans hG3 hg4
          have hrow4 := row_grown hrow3 hg4 (fun x hx e => by cases e; have := hrg _ hx; omega)
          have hx' : x < k := by omega
          have hy' : y < k := by omega
          clear C3 hG3 hg4 hrow3 hx hy
          obtain ⟨g, cp, rfl, hq1, hq2⟩ := own_open hrow4 (by omega)
          have HJ : Hid (Calls Try.prog 60 #[.slice (some ⟨g, 0, none⟩) k cp, .int .i64 x, .int .i64 y] w3 fun e w' => ∃ v : Value, e = .returned v ∧ w'.ownsRow w3.heap.size 3 1 v k (vals (joinL l x y)) ∧ Below w3.heap.size w3 w') := by
            obtain ⟨a', c', e', hsl⟩ := Sl.vals hrow4
            cases e'
            exact l5Join_any _ k cp l x y w3 hsl hl0.out (by omega) hx' hy'
          have hJ0 : Hid (∀ j, j < (joinL l x y).length → 0 ≤ (joinL l x y).getD j 0) := join_nonneg hl0.out (by omega) (by omega)
          have hJl : (joinL l x y).length = k := by rw [join_len, hlk]
          generalize joinL l x y = J at HJ hJ0 hJl
          have hs4 := hG4.size
          clear hrow4 hl0 hrg
          go_wp2_with fail
          refine Calls.mono HJ.out ?_
          rintro e w4 ⟨v, rfl, hown, hb⟩
          have hrow5 := own_base hown hs4
          have hc5 := hc4.kept (grown_of hb) (fun r hr => by cases hr)
          have hG5 := grown_own hG4 (grown_of hb) (fun r hr => by cases hr)
          clear hown hb hc4 hG4 HJ
          go_wp2
          go_roundw
          case rel => exact ⟨j - 1, n4, J, by omega, by go_num, hJl, hJ0, hrow5, by omega, hc5, hG5⟩
          case measure => simp [intOf]; omega
        · obtain rfl : j = 0 := by omega
          have C4 := (show Hid _ from one5_any wr c n2 30 hc (by omega) (by decide))
          clear hc
          go_wp2_with fail
          refine Calls.mono C4.out ?_
          rintro e w5 ⟨t, rfl, ⟨n5, hn5, hc5⟩, hg5⟩
          have hG5 := gtrans hg hg5
          have hrow5 := row_grown hrow hg5 (fun x hx e => by cases e; have := hrg _ hx; omega)
          clear C4 hg hg5 hrow hl0
          have hs5 := hG5.size
          cases t
          · go_wp2
            go_ret
            exact ⟨_, l, rfl, by rw [hlk]; exact hrow5, hlk, ⟨n5, by omega, hc5⟩, hG5⟩
          · obtain ⟨g, cp, rfl, hg1, hg2⟩ := own_open hrow5 (by omega)
            have hca : Cur (w5.alloc (.cells #[.int .i64 (-1), .int .i64 k, .int .i64 0] 3)) c n5 := hc5.kept (World.grownBy_alloc _ _ none) (fun r hr => by cases hr)
            have hra := hrow5.alloc (.cells #[.int .i64 (-1), .int .i64 k, .int .i64 0] 3)
            have hga : w.grownBy (w5.alloc (.cells #[.int .i64 (-1), .int .i64 k, .int .i64 0] 3)) (some c) := grown_own hG5 (World.grownBy_alloc _ _ none) (fun r hr => by cases hr)
            have CA := (show Hid _ from among_any (w5.alloc (.cells #[.int .i64 (-1), .int .i64 k, .int .i64 0] 3)) c n5 w5.heap.size 3 [-1, (k : Int), 0] hca (by omega) (by simp) (by simp) (by omega) (fun i hi => by
              have : i = 0 ∨ i = 1 ∨ i = 2 := by simp at hi; omega
              rcases this with rfl | rfl | rfl <;> simp [go_sem]))
            clear hc5 hrow5 hG5 hca
            have hk1 : ((k : Int) - 1) = ((k - 1 : Nat) : Int) := by omega
            obtain ⟨p, hp⟩ : ∃ p : Nat, k - 1 = p := ⟨_, rfl⟩
            rw [hp] at hk1
            have hpk : p < k := by omega
            go_wp2_with fail
            refine Calls.mono CA.out ?_
            rintro e w6 ⟨i, hi6, rfl, hc6, hg6⟩
            generalize List.getD [-1, (k : Int), 0] i 0 = z
            have hG6 := gtrans hga hg6
            have hrow6 := row_grown hra hg6 (fun x hx e => by cases e; have := hrg _ hx; omega)
            have hfr := hrow6.frozenAt p
            have hcg := hrow6.cellAt p (by omega)
            rw [vals_at (by omega)] at hcg
            have hst := (hrow6.stored p (.int .i64 z)).1
            rw [← vals_set] at hst
            have hgS : w.grownBy (w6.setCell ⟨g, p, none⟩ (.int .i64 z)) (some c) := ⟨hG6.os, hG6.tape, hG6.output, by have := hG6.size; simpa [World.setCell] using this, fun i hi hne => (Below.heap_setCell _ _ _ _ (fun e => by simp at e; omega)).trans (hG6.block i hi hne)⟩
            have hcS : Cur (w6.setCell ⟨g, p, none⟩ (.int .i64 z)) c (n5 + 1) := hc6.kept (row := some g) ⟨rfl, rfl, rfl, by simp [World.setCell], fun i hi hne => Below.heap_setCell _ _ _ _ (fun e => hne (by rw [e]))⟩ (fun r hr => by cases hr; omega)
            clear hra hga hg6 hrow6 CA hc6 hG6
            generalize l.getD p 0 = y at hcg
            have HST := (show Hid _ from hst)
            have HGS := (show Hid _ from hgS)
            have HCS := (show Hid _ from hcS)
            clear hst hgS hcS hp
            go_wp2
            go_ret
            exact ⟨_, l.set p z, rfl, by rw [List.length_set, hlk]; exact HST.out, by rw [List.length_set]; exact hlk, ⟨n5 + 1, by omega, HCS.out⟩, HGS.out⟩
end Go.Proofs.Ytoaejodpklhmjaa
