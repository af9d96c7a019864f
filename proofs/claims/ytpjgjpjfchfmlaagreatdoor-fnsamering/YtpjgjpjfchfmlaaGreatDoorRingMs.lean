/-
  PROVED HERE: the model's own look at nodes of sums and products, at every list of nodes. No other condition. the sum of products of a whole term, plainly. No condition.
-/
import Derived.Test.YtpjgjpjfchfmlaaGreatDoorGood
import Derived.Test.YtpjgjpjfchfmlaaGreatDoorInFirst
import Derived.Test.YtpjgjpjfchfmlaaGreatDoorPolyOfs
namespace Go.Proofs.YtpjgjpjfchfmlaaGreatDoor
open Go.ChangeShapes Go.WideShapes Go.ChangeAt Go.RowKit
set_option linter.unusedVariables false

/-- Is the node at k one of sums and products? -/
def ringAt (l : List (Int × Int)) (k : Nat) : Bool := if (l.getD k (0, 0)).1 = 7 then decide ((l.getD (k - 1) (0, 0)).1 = 1) else decide ((l.getD k (0, 0)).1 ≤ 6)
def ringB (l : List (Int × Int)) : Bool := (List.range l.length).all (ringAt l)
theorem ring_no {l : List (Int × Int)} {k : Nat} (hk : k < l.length) (h : ringAt l k = false) : ringB l = false := by
  unfold ringB
  rw [Bool.eq_false_iff]
  intro e
  rw [List.all_eq_true] at e
  have := e k (List.mem_range.2 hk)
  rw [h] at this
  cases this
theorem ring_yes {l : List (Int × Int)} (h : ∀ k, k < l.length → ringAt l k = true) : ringB l = true := by
  unfold ringB
  rw [List.all_eq_true]
  exact fun k hk => h k (List.mem_range.1 hk)
/-- What a good term's ops are. -/
theorem good_ops {l : List (Int × Int)} {q : Int} (h : pile l 0 = some q) (k : Nat) (hk : k < l.length) : 1 ≤ (l.getD k (0, 0)).1 ∧ (l.getD k (0, 0)).1 ≤ 11 ∧ ((l.getD k (0, 0)).1 = 7 → 1 ≤ k) := by
  obtain ⟨c1, c2, _⟩ := fits_iff _ _ _ _ (cnt_step h k hk).1
  have h0 := (cnt_le h k (by omega)).2
  have hr : 1 ≤ (l.getD k (0, 0)).1 ∧ (l.getD k (0, 0)).1 ≤ 11 := by
    by_cases h : 1 ≤ (l.getD k (0, 0)).1 ∧ (l.getD k (0, 0)).1 ≤ 11
    · exact h
    · have := ar_out (l.getD k (0, 0)).1 (by omega); omega
  refine ⟨hr.1, hr.2, fun h7 => ?_⟩
  rw [h7] at c2
  have : ar 7 = 2 := rfl
  omega
set_option maxHeartbeats 1600000 in
theorem l4Ring_any {l : List (Int × Int)} (hops : ∀ k, k < l.length → 1 ≤ (l.getD k (0, 0)).1 ∧ (l.getD k (0, 0)).1 ≤ 11 ∧ ((l.getD k (0, 0)).1 = 7 → 1 ≤ k)) (a : Option Addr) (len cap : Nat) (w : World) (h : NSl w a len l) (hm : len ≤ 1048576) :
    Calls Tryz.prog 29 #[.slice a len cap] w fun e w' => e = .returned (.bool (ringB l)) ∧ Below w.heap.size w w' := by
  have hll := h.1
  have HO := (show Hid _ from hops)
  clear hops
  go_enter Tryz.func29, Tryz.ntmps29
  go_wp2_with fail
  go_loopw [7] (fun i wr => ∃ k : Nat, k ≤ len ∧ i = .int .i64 (k : Int) ∧ Below w.heap.size w wr ∧ Hid (∀ j, j < k → ringAt l j = true)) (fun i _ => len - (intOf i).toNat)
  case atStart => exact ⟨0, Nat.zero_le _, rfl, Below.refl _ _, fun j hj => absurd hj (by omega)⟩
  case round =>
    obtain ⟨k, hk, rfl, hbr, HT⟩ := hrel
    by_cases hlt : k < len
    · obtain ⟨b, off, rfl, hbl, hc⟩ := (h.keep hbr).at (by omega)
      obtain ⟨c1, c2⟩ := hc k hlt
      obtain ⟨o1, o2, o3⟩ := HO.out k (by omega)
      have hB := hbr.alloc hbr.size (.cells #[.int .i64 (l.getD k (0, 0)).1, .int .i64 (l.getD k (0, 0)).2] 77)
      have hne : ¬ b = wr.heap.size := by omega
      have hR : ringAt l k = if (l.getD k (0, 0)).1 = 7 then decide ((l.getD (k - 1) (0, 0)).1 = 1) else decide ((l.getD k (0, 0)).1 ≤ 6) := rfl
      have i1 : (k : Int) < len := by omega
      by_cases h7 : (l.getD k (0, 0)).1 = 7
      · have hk1 := o3 h7
        obtain ⟨d1, d2⟩ := hc (k - 1) (by omega)
        obtain ⟨j, rfl⟩ : ∃ j, k = j + 1 := ⟨k - 1, by omega⟩
        rw [show j + 1 - 1 = j from by omega] at d1 d2 hR
        rw [if_pos h7] at hR
        rw [h7] at c1 hB
        have jj : (j : Int) < len := by omega
        generalize (l.getD (j + 1) (0, 0)).2 = y at c2 hB
        generalize (l.getD j (0, 0)).1 = x at d1 hR
        clear hc o1 o2 o3 h7 d2
        by_cases hx : x = 1
        · have hz : (x != 1) = false := by simp [hx]
          have HN : Hid (∀ i, i < j + 1 + 1 → ringAt l i = true) := fun i hi => by
            by_cases e : i = j + 1
            · rw [e, hR, decide_eq_true hx]
            · exact HT.out i (by omega)
          clear hR HT hx
          go_wp2
          go_roundw
          case rel => exact ⟨j + 1 + 1, by omega, by go_num, hB, HN⟩
          case measure => simp [intOf]; omega
        · have hz : (x != 1) = true := by simpa using hx
          have HN : Hid (ringB l = false) := ring_no (k := j + 1) (by omega) (by rw [hR, decide_eq_false hx])
          clear hR HT hx
          go_wp2
          go_ret
          exact ⟨by rw [HN.out]; rfl, hB⟩
      · rw [if_neg h7] at hR
        generalize (l.getD k (0, 0)).2 = y at c2 hB
        generalize (l.getD k (0, 0)).1 = x at c1 hB hR o1 o2 h7
        clear hc o3
        by_cases hx : x ≤ 6
        · have e8 : (x == 8) = false := by simp; omega
          have e9 : (x == 9) = false := by simp; omega
          have e10 : (x == 10) = false := by simp; omega
          have e11 : (x == 11) = false := by simp; omega
          have e7 : (x == 7) = false := by simp; omega
          have HN : Hid (∀ i, i < k + 1 → ringAt l i = true) := fun i hi => by
            by_cases e : i = k
            · rw [e, hR, decide_eq_true hx]
            · exact HT.out i (by omega)
          clear hR HT hx h7
          go_wp2
          go_roundw
          case rel => exact ⟨k + 1, by omega, by go_num, hB, HN⟩
          case measure => simp [intOf]; omega
        · have HN : Hid (ringB l = false) := ring_no (k := k) (by omega) (by rw [hR, decide_eq_false hx])
          have hx' : x = 8 ∨ x = 9 ∨ x = 10 ∨ x = 11 := by omega
          clear hR HT hx h7 o1 o2
          rcases hx' with rfl | rfl | rfl | rfl
          all_goals
            go_wp2
            go_ret
            exact ⟨by rw [HN.out]; rfl, hB⟩
    · obtain rfl : k = len := by omega
      have HN : Hid (ringB l = true) := ring_yes (fun i hi => HT.out i (by omega))
      clear HT
      go_wp2
      go_ret
      exact ⟨by rw [HN.out]; rfl, hbr⟩
/-- What IsRing tells. -/
def isRingB (l : List (Int × Int)) : Bool := goodB l && ringB l
end Go.Proofs.YtpjgjpjfchfmlaaGreatDoor
namespace Go.Proofs.YtpjgjpjfchfmlaaGreatDoor
open Go.ChangeShapes Go.WideShapes Go.ChangeAt Go.RowKit
set_option linter.unusedVariables false

theorem vars4 {l : List (Int × Int)} {q : Int} (h : pile l 0 = some q) : ∀ j, (l.getD j (0, 0)).1 = 2 → (l.getD j (0, 0)).2.toNat < 4 := fun j h2 => by
  by_cases hj : j < l.length
  · obtain ⟨_, _, a3, _⟩ := fits_iff _ _ _ _ (cnt_step h j hj).1
    have := a3 h2
    omega
  · rw [List.getD_eq_getElem?_getD, List.getElem?_eq_none (by omega)] at h2
    cases h2
theorem ring_ops {l : List (Int × Int)} (hr : ringB l = true) {k : Nat} (hk : k < l.length) : (l.getD k (0, 0)).1 ≤ 6 ∨ ((l.getD k (0, 0)).1 = 7 ∧ (l.getD (k - 1) (0, 0)).1 = 1) := by
  unfold ringB at hr
  rw [List.all_eq_true] at hr
  have := hr k (List.mem_range.2 hk)
  unfold ringAt at this
  by_cases h7 : (l.getD k (0, 0)).1 = 7
  · rw [if_pos h7] at this; exact .inr ⟨h7, of_decide_eq_true this⟩
  · rw [if_neg h7] at this; exact .inl (of_decide_eq_true this)
/-- The sum of a term; none: it is no ring term, or its sum is too great. -/
def ofT (l : List (Int × Int)) : Option (List Mon) := if isRingB l = true then ofF l l.length (l.length - 1) else none
end Go.Proofs.YtpjgjpjfchfmlaaGreatDoor
