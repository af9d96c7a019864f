/-
  PROVED HERE: what the model's and the program's comparing of two terms answers, at every two lists of nodes. No other condition.
-/
import Derived.Test.YtkadanagmahhgaaDoorNodeRows
import Derived.Test.YtkadanagmahhgaaDoorKeepsM
import Derived.Test.YtkadanagmahhgaaDoorSteps
import Derived.Test.YtkadanagmahhgaaDoorLists
import Derived.Laws.StructEq
namespace Go.Proofs.YtkadanagmahhgaaDoor
open Go.ChangeShapes Go.WideShapes Go.ChangeAt Go.RowKit
set_option linter.unusedVariables false

theorem eqNd8 (a b c d : Int) (w : World) : (Op.equalIn 10000 44 (.agg #[.int .i64 a, .int .i64 b]) (.agg #[.int .i64 c, .int .i64 d])).run Tryd.prog w = .ok (a == c && b == d) w := by
  have hS : Tryd.prog.underlying 44 = some (.struct (Tryd.prog.fieldsOf 44)) := by kernel_rfl
  have hp : Tryd.prog.stoodInHeld 44 = false := by kernel_rfl
  rw [show (10000 : Nat) = 9999 + 1 from rfl, run_equalIn_agg w 9999 44 _ _ hS hp]
  simp only [Program.fieldsOf, Tryd.underlying44]
  go_simp
  by_cases h1 : a = c <;> by_cases h2 : b = d <;> simp [h1, h2]
theorem neqNd8 (a b c d : Int) (w : World) : (binOp .neq 44 (.agg #[.int .i64 a, .int .i64 b]) (.agg #[.int .i64 c, .int .i64 d])).run Tryd.prog w = .ok (.bool (!(a == c && b == d))) w := by
  rw [run_neq_struct, eqNd8]
  simp
theorem guardNd8 : Tryd.prog.eqGuardType Tryd.prog.depth 44 = false := by kernel_rfl
theorem eqT_yes {l m : List (Int × Int)} {len : Nat} (h1 : l.length = len) (h2 : m.length = len) (h : ∀ j, j < len → l.getD j (0, 0) = m.getD j (0, 0)) : (l == m) = true := by
  rw [beq_iff_eq]
  refine List.ext_getElem (by omega) fun j hj hj' => ?_
  have := h j (by omega)
  simpa [List.getD_eq_getElem?_getD, hj, hj'] using this
theorem eqT_no {l m : List (Int × Int)} {j : Nat} (h : ¬ l.getD j (0, 0) = m.getD j (0, 0)) : (l == m) = false := by
  rw [beq_eq_false_iff_ne]
  intro e
  exact h (by rw [e])
set_option maxHeartbeats 1600000 in
set_option maxRecDepth 20000 in
theorem eqT_any (a b : Option Addr) (len cap len' cap' : Nat) (l m : List (Int × Int)) (w : World) (h : NSl w a len l) (h' : NSl w b len' m) (hm : len ≤ 9223372036854775807) (hm2 : len' ≤ 9223372036854775807) :
    Calls Tryd.prog 22 #[.slice a len cap, .slice b len' cap'] w fun e w' => e = .returned (.bool (l == m)) ∧ Below w.heap.size w w' := by
  have hll := h.1
  have hl2 := h'.1
  by_cases hn : len = len'
  case neg =>
    have e : (l == m) = false := by
      rw [beq_eq_false_iff_ne]
      intro e
      rw [e] at hll
      omega
    rw [e]
    have hne : ((len : Int) != len') = true := by simp; omega
    clear h h'
    go_enter Tryd.func22, Tryd.ntmps22
    go_wp2
    go_ret
    exact ⟨rfl, Below.refl _ _⟩
  subst hn
  have hne : ((len : Int) != len) = false := by simp
  have HS : Hid (NSl w a len l ∧ NSl w b len m) := ⟨h, h'⟩
  have HE : Hid ((∀ j, j < len → l.getD j (0, 0) = m.getD j (0, 0)) → true = (l == m)) := fun h => (eqT_yes hll hl2 h).symm
  have HN : Hid (∀ j, ¬ l.getD j (0, 0) = m.getD j (0, 0) → false = (l == m)) := fun j h => (eqT_no h).symm
  generalize (l == m) = R at HE HN ⊢
  clear h h' hll hl2
  go_enter Tryd.func22, Tryd.ntmps22
  go_wp2_with fail
  go_loopw [13] (fun x wr => ∃ (k : Nat), k ≤ len ∧ x = .int .i64 k ∧ Hid (∀ j, j < k → l.getD j (0, 0) = m.getD j (0, 0)) ∧ Below w.heap.size w wr) (fun x _ => len - (intOf x).toNat)
  case atStart => exact ⟨0, Nat.zero_le _, rfl, fun j hj => absurd hj (Nat.not_lt_zero _), Below.refl _ _⟩
  case round =>
    obtain ⟨k, hk, rfl, hE, hbr⟩ := hrel
    by_cases hlt : k < len
    · obtain ⟨b1, off, rfl, hbl, hc⟩ := HS.out.1.at (by omega)
      obtain ⟨b2, off', rfl, hbl', hc'⟩ := HS.out.2.at (by omega)
      have c1 := (hbr.cell (p := ⟨b1, off + k * 2, none⟩) hbl).trans (hc k hlt).1
      have c2 := (hbr.cell (p := ⟨b1, off + k * 2 + 1, none⟩) hbl).trans (hc k hlt).2
      have d1 := (hbr.cell (p := ⟨b2, off' + k * 2, none⟩) hbl').trans (hc' k hlt).1
      have d2 := (hbr.cell (p := ⟨b2, off' + k * 2 + 1, none⟩) hbl').trans (hc' k hlt).2
      clear hc hc'
      have hlt' : (k : Int) < len := by omega
      have hq := fun (W : World) (a b c d : Int) => neqNd8 a b c d W
      have hgd := guardNd8
      by_cases e : l.getD k (0, 0) = m.getD k (0, 0)
      · have HE2 : Hid (∀ j, j < k + 1 → l.getD j (0, 0) = m.getD j (0, 0)) := fun j hj => by
          by_cases e2 : j = k
          · rw [e2]; exact e
          · exact hE.out j (by omega)
        rw [← e] at d1 d2
        clear e hE HE HN
        generalize (l.getD k (0, 0)).1 = x at c1 d1
        generalize (l.getD k (0, 0)).2 = y at c2 d2
        have e3 : (!(x == x && y == y)) = false := by simp
        go_wp2_with fail
        go_quiet (fail)
        have hbb := below_drawn hbr nq
        go_wp2
        go_roundw
        case rel => exact ⟨k + 1, by omega, by go_num, HE2, hbb⟩
        case measure => simp [intOf]; omega
      · have hR := HN.out k e
        have e3 : (!((l.getD k (0, 0)).1 == (m.getD k (0, 0)).1 && (l.getD k (0, 0)).2 == (m.getD k (0, 0)).2)) = true := by
          rw [Bool.not_eq_true']
          refine Bool.eq_false_iff.2 fun ht => e ?_
          rw [Bool.and_eq_true, beq_iff_eq, beq_iff_eq] at ht
          exact Prod.ext ht.1 ht.2
        subst hR
        clear e hE HE HN
        generalize (l.getD k (0, 0)).1 = x at c1 e3
        generalize (l.getD k (0, 0)).2 = y at c2 e3
        generalize (m.getD k (0, 0)).1 = x' at d1 e3
        generalize (m.getD k (0, 0)).2 = y' at d2 e3
        go_wp2_with fail
        go_quiet (fail)
        have hbb := below_drawn hbr nq
        go_wp2
        go_ret
        exact ⟨rfl, hbb⟩
    · obtain rfl : k = len := by omega
      have hR := HE.out hE.out
      subst hR
      go_wp2
      go_ret
      exact ⟨rfl, hbr⟩
set_option maxHeartbeats 1600000 in
set_option maxRecDepth 20000 in
theorem eqT8_any (a b : Option Addr) (len cap len' cap' : Nat) (l m : List (Int × Int)) (w : World) (h : NSl w a len l) (h' : NSl w b len' m) (hm : len ≤ 9223372036854775807) (hm2 : len' ≤ 9223372036854775807) :
    Calls Tryd.prog 18 #[.slice a len cap, .slice b len' cap'] w fun e w' => e = .returned (.bool (l == m)) ∧ Below w.heap.size w w' := by
  have hll := h.1
  have hl2 := h'.1
  by_cases hn : len = len'
  case neg =>
    have e : (l == m) = false := by
      rw [beq_eq_false_iff_ne]
      intro e
      rw [e] at hll
      omega
    rw [e]
    have hne : ((len : Int) != len') = true := by simp; omega
    clear h h'
    go_enter Tryd.func18, Tryd.ntmps18
    go_wp2
    go_ret
    exact ⟨rfl, Below.refl _ _⟩
  subst hn
  have hne : ((len : Int) != len) = false := by simp
  have HS : Hid (NSl w a len l ∧ NSl w b len m) := ⟨h, h'⟩
  have HE : Hid ((∀ j, j < len → l.getD j (0, 0) = m.getD j (0, 0)) → true = (l == m)) := fun h => (eqT_yes hll hl2 h).symm
  have HN : Hid (∀ j, ¬ l.getD j (0, 0) = m.getD j (0, 0) → false = (l == m)) := fun j h => (eqT_no h).symm
  generalize (l == m) = R at HE HN ⊢
  clear h h' hll hl2
  go_enter Tryd.func18, Tryd.ntmps18
  go_wp2_with fail
  go_loopw [13] (fun x wr => ∃ (k : Nat), k ≤ len ∧ x = .int .i64 k ∧ Hid (∀ j, j < k → l.getD j (0, 0) = m.getD j (0, 0)) ∧ Below w.heap.size w wr) (fun x _ => len - (intOf x).toNat)
  case atStart => exact ⟨0, Nat.zero_le _, rfl, fun j hj => absurd hj (Nat.not_lt_zero _), Below.refl _ _⟩
  case round =>
    obtain ⟨k, hk, rfl, hE, hbr⟩ := hrel
    by_cases hlt : k < len
    · obtain ⟨b1, off, rfl, hbl, hc⟩ := HS.out.1.at (by omega)
      obtain ⟨b2, off', rfl, hbl', hc'⟩ := HS.out.2.at (by omega)
      have c1 := (hbr.cell (p := ⟨b1, off + k * 2, none⟩) hbl).trans (hc k hlt).1
      have c2 := (hbr.cell (p := ⟨b1, off + k * 2 + 1, none⟩) hbl).trans (hc k hlt).2
      have d1 := (hbr.cell (p := ⟨b2, off' + k * 2, none⟩) hbl').trans (hc' k hlt).1
      have d2 := (hbr.cell (p := ⟨b2, off' + k * 2 + 1, none⟩) hbl').trans (hc' k hlt).2
      clear hc hc'
      have hlt' : (k : Int) < len := by omega
      have hq := fun (W : World) (a b c d : Int) => neqNd8 a b c d W
      have hgd := guardNd8
      by_cases e : l.getD k (0, 0) = m.getD k (0, 0)
      · have HE2 : Hid (∀ j, j < k + 1 → l.getD j (0, 0) = m.getD j (0, 0)) := fun j hj => by
          by_cases e2 : j = k
          · rw [e2]; exact e
          · exact hE.out j (by omega)
        rw [← e] at d1 d2
        clear e hE HE HN
        generalize (l.getD k (0, 0)).1 = x at c1 d1
        generalize (l.getD k (0, 0)).2 = y at c2 d2
        have e3 : (!(x == x && y == y)) = false := by simp
        go_wp2_with fail
        go_quiet (fail)
        have hbb := below_drawn hbr nq
        go_wp2
        go_roundw
        case rel => exact ⟨k + 1, by omega, by go_num, HE2, hbb⟩
        case measure => simp [intOf]; omega
      · have hR := HN.out k e
        have e3 : (!((l.getD k (0, 0)).1 == (m.getD k (0, 0)).1 && (l.getD k (0, 0)).2 == (m.getD k (0, 0)).2)) = true := by
          rw [Bool.not_eq_true']
          refine Bool.eq_false_iff.2 fun ht => e ?_
          rw [Bool.and_eq_true, beq_iff_eq, beq_iff_eq] at ht
          exact Prod.ext ht.1 ht.2
        subst hR
        clear e hE HE HN
        generalize (l.getD k (0, 0)).1 = x at c1 e3
        generalize (l.getD k (0, 0)).2 = y at c2 e3
        generalize (m.getD k (0, 0)).1 = x' at d1 e3
        generalize (m.getD k (0, 0)).2 = y' at d2 e3
        go_wp2_with fail
        go_quiet (fail)
        have hbb := below_drawn hbr nq
        go_wp2
        go_ret
        exact ⟨rfl, hbb⟩
    · obtain rfl : k = len := by omega
      have hR := HE.out hE.out
      subst hR
      go_wp2
      go_ret
      exact ⟨rfl, hbr⟩
end Go.Proofs.YtkadanagmahhgaaDoor
