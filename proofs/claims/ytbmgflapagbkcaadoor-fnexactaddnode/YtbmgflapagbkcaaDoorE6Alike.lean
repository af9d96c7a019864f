/-
  PROVED HERE: what the model's comparing of nodes answers, at every two nodes. No other condition.
-/
import Derived.Test.YtbmgflapagbkcaaDoorE6Node
namespace Go.Proofs.YtbmgflapagbkcaaDoor
open Go.ChangeShapes Go.WideShapes Go.ChangeAt Go.RowKit
set_option linter.unusedVariables false

theorem spSame_any (a b : Option Addr) (len cap len' cap' : Nat) (l m : List Int) (w : World) (h : Sl w a len l) (h' : Sl w b len' m) (hm : len ≤ 9223372036854775807) :
    Calls Tryd.prog 67 #[.slice a len cap, .slice b len' cap'] w fun e w' => e = .returned (.bool (decide (l = m))) ∧ ∃ n, w' = w.drewN n := by
  have hll := h.1
  have hml := h'.1
  by_cases hlen : len = len'
  · subst hlen
    have hne : ((len : Int) != len) = false := by simp
    go_enter Tryd.func67, Tryd.ntmps67
    go_wp2_with fail
    go_loopw [13] (fun i wr => ∃ k : Nat, k ≤ len ∧ i = .int .i64 k ∧ (∃ n, wr = w.drewN n) ∧ Hid (∀ j, j < k → l.getD j 0 = m.getD j 0)) (fun i _ => len - (intOf i).toNat)
    case atStart => exact ⟨0, Nat.zero_le _, rfl, ⟨0, rfl⟩, fun j hj => absurd hj (Nat.not_lt_zero _)⟩
    case round =>
      obtain ⟨k, hk, rfl, hdr, hT⟩ := hrel
      have hbr : Below w.heap.size w wr := by obtain ⟨n, rfl⟩ := hdr; exact below_drewN (Below.refl _ _) n
      have HD := (show Hid _ from hdr)
      clear hdr
      by_cases hlt : k < len
      · obtain ⟨b1, off, rfl, hc⟩ := cells_of (h.keep hbr) (by omega)
        obtain ⟨b2, off', rfl, hc'⟩ := cells_of (h'.keep hbr) (by omega)
        have ck := hc k hlt
        have ck' := hc' k hlt
        have hlt' : (k : Int) < len := by omega
        have HE : Hid (l.getD k 0 ≠ m.getD k 0 → decide (l = m) = false) := fun hne => decide_eq_false (fun e => hne (by rw [e]))
        have HS : Hid (l.getD k 0 = m.getD k 0 → ∀ j, j < k + 1 → l.getD j 0 = m.getD j 0) := fun e j hj => by
          by_cases e1 : j = k
          · rw [e1]; exact e
          · exact hT.out j (by omega)
        clear hc hc' hT h h'
        generalize l.getD k 0 = x at ck HE HS
        generalize m.getD k 0 = y at ck' HE HS
        by_cases e : x = y
        · subst e
          have HR := (show Hid _ from HS.out rfl)
          have hxx : (x != x) = false := by simp
          clear HE HS
          go_wp2_with fail
          go_quiet (fail)
          go_wp2
          go_roundw
          case rel => exact ⟨k + 1, by omega, by go_num, by obtain ⟨n, rfl⟩ := HD.out; exact ⟨_, World.drewN_drewN ..⟩, HR⟩
          case measure => simp [intOf]; omega
        · have HV : Hid (decide (l = m) = false) := HE.out e
          have hxy : (x != y) = true := by simpa using e
          clear HE HS
          go_wp2_with fail
          go_quiet (fail)
          go_wp2
          go_ret
          exact ⟨by rw [HV.out] <;> rfl, by obtain ⟨n, rfl⟩ := HD.out; exact ⟨_, World.drewN_drewN ..⟩⟩
      · obtain rfl : k = len := by omega
        have HV : Hid (decide (l = m) = true) := decide_eq_true (list_ext (by omega) fun j hj => hT.out j (by omega))
        clear hT
        go_wp2
        go_ret
        exact ⟨by rw [HV.out] <;> rfl, HD.out⟩
  · have hne : ((len : Int) != len') = true := by simp; omega
    rw [decide_eq_false (fun e => hlen (by rw [← hll, ← hml, e]))]
    go_enter Tryd.func67, Tryd.ntmps67
    go_wp2
    go_ret
    exact ⟨rfl, ⟨0, rfl⟩⟩
set_option maxHeartbeats 800000 in
theorem alike_any (x y : EN) (a b : Option Addr) (len cap len' cap' : Nat) (w : World) (h : Sl w a len x.2.2) (h' : Sl w b len' y.2.2) (hm : len ≤ 9223372036854775807) :
    Calls Tryd.prog 51 #[.agg #[.int .i64 x.1, .int .i64 x.2.1, .slice a len cap], .agg #[.int .i64 y.1, .int .i64 y.2.1, .slice b len' cap']] w fun e w' => e = .returned (.bool (decide (x = y))) ∧ Below w.heap.size w w' := by
  obtain ⟨xo, xn, xk⟩ := x
  obtain ⟨yo, yn, yk⟩ := y
  simp only at h h' ⊢
  obtain ⟨W1, hW1⟩ : ∃ W1, (w.alloc (.cells #[.int .i64 xo, .int .i64 xn, .slice a len cap] 36)).alloc (.cells #[.int .i64 yo, .int .i64 yn, .slice b len' cap'] 36) = W1 := ⟨_, rfl⟩
  have hb1 : Below w.heap.size w W1 := by rw [← hW1]; exact ((Below.refl _ _).alloc (Nat.le_refl _) _).alloc (by simp) _
  have n0 : W1.cell? ⟨w.heap.size, 0, none⟩ = some (.int .i64 xo) := by rw [← hW1]; simp [go_sem]
  have n1 : W1.cell? ⟨w.heap.size, 1, none⟩ = some (.int .i64 xn) := by rw [← hW1]; simp [go_sem]
  have n2 : W1.cell? ⟨w.heap.size, 2, none⟩ = some (.slice a len cap) := by rw [← hW1]; simp [go_sem]
  have m0 : W1.cell? ⟨w.heap.size + 1, 0, none⟩ = some (.int .i64 yo) := by rw [← hW1]; simp [go_sem]
  have m1 : W1.cell? ⟨w.heap.size + 1, 1, none⟩ = some (.int .i64 yn) := by rw [← hW1]; simp [go_sem]
  have m2 : W1.cell? ⟨w.heap.size + 1, 2, none⟩ = some (.slice b len' cap') := by rw [← hW1]; simp [go_sem]
  have HS := (show Hid _ from spSame_any a b len cap len' cap' xk yk W1 (h.keep hb1) (h'.keep hb1) hm)
  have HB := (show Hid _ from hb1)
  clear h h' hb1
  by_cases e1 : xo = yo
  · by_cases e2 : xn = yn
    · have ev : decide ((xo, xn, xk) = (yo, yn, yk)) = decide (xk = yk) := by simp [e1, e2]
      rw [ev]
      subst e1 e2
      generalize decide (xk = yk) = B at HS
      have q1 : (xo == xo) = true := by simp
      have q2 : (xn == xn) = true := by simp
      clear ev
      go_enter Tryd.func51, Tryd.ntmps51
      go_wp2_with fail
      (try rw [hW1])
      refine Calls.mono HS.out ?_
      rintro e w2 ⟨rfl, n, rfl⟩
      clear hW1 HS
      go_wp2
      go_ret
      exact ⟨rfl, below_drewN HB.out _⟩
    · have ev : decide ((xo, xn, xk) = (yo, yn, yk)) = false := by simp [e2]
      rw [ev]
      have q1 : (xo == yo) = true := by simpa using e1
      have q2 : (xn == yn) = false := by simpa using e2
      clear ev HS e1 e2
      go_enter Tryd.func51, Tryd.ntmps51
      go_wp2
      (try rw [hW1])
      go_ret
      exact ⟨rfl, HB.out⟩
  · have ev : decide ((xo, xn, xk) = (yo, yn, yk)) = false := by simp [e1]
    rw [ev]
    have q1 : (xo == yo) = false := by simpa using e1
    clear ev HS e1
    go_enter Tryd.func51, Tryd.ntmps51
    go_wp2
    (try rw [hW1])
    go_ret
    exact ⟨rfl, HB.out⟩
end Go.Proofs.YtbmgflapagbkcaaDoor
