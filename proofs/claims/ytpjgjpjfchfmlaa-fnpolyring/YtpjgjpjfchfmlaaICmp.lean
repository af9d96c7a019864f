/-
  PROVED HERE: what the program's comparing of powers answers, the least and the greatest of four numbers, and its look at a product. No other condition.
-/
import Derived.Test.YtpjgjpjfchfmlaaPolyGood
namespace Go.Proofs.Ytpjgjpjfchfmlaa
open Go.ChangeShapes Go.WideShapes Go.ChangeAt Go.RowKit
set_option linter.unusedVariables false

def cmp1 (x y : Int) : Int := if x < y then -1 else if y < x then 1 else 0
theorem cmp1_any (x y : Int) (w : World) :
    Calls Try.prog 37 #[.int .i64 x, .int .i64 y] w fun e w' => e = .returned (.int .i64 (cmp1 x y)) ∧ w' = w := by
  have hx : (x != x) = false := by simp
  have hy : (y != y) = false := by simp
  unfold cmp1
  by_cases h1 : x < y
  · rw [if_pos h1]
    go_enter Try.func37, Try.ntmps37
    go_wp2
    go_ret
    exact ⟨rfl, rfl⟩
  · rw [if_neg h1]
    by_cases h2 : y < x
    · rw [if_pos h2]
      go_enter Try.func37, Try.ntmps37
      go_wp2
      go_ret
      exact ⟨rfl, rfl⟩
    · rw [if_neg h2]
      go_enter Try.func37, Try.ntmps37
      go_wp2
      go_ret
      exact ⟨rfl, rfl⟩
set_option maxHeartbeats 1600000 in
theorem slcmp_any (a b : Option Addr) (len ca cb : Nat) (ea eb : List Int) (w : World) (ha : Sl w a len ea) (hb : Sl w b len eb) (hm : len ≤ 1048576) :
    Calls Try.prog 25 #[.slice a len ca, .slice b len cb] w fun e w' => e = .returned (.int .i64 (cmpL ea eb)) ∧ w' = w := by
  have hla := ha.1
  have hlb := hb.1
  go_enter Try.func25, Try.ntmps25
  go_wp2_with fail
  go_loopw [11] (fun i wr => ∃ k : Nat, k ≤ len ∧ i = .int .i64 (k : Int) ∧ wr = w ∧ Hid (cmpL (ea.drop k) (eb.drop k) = cmpL ea eb)) (fun i _ => len - (intOf i).toNat)
  case atStart => exact ⟨0, Nat.zero_le _, rfl, rfl, rfl⟩
  case round =>
    obtain ⟨k, hk, rfl, rfl, hT⟩ := hrel
    by_cases hlt : k < len
    · obtain ⟨b1, o1, rfl, hc1⟩ := cells_of ha (by omega)
      obtain ⟨b2, o2, rfl, hc2⟩ := cells_of hb (by omega)
      have c1 := hc1 k hlt
      have c2 := hc2 k hlt
      have hst := cmp_drop ea eb k (by omega) (by omega)
      rw [hT.out] at hst
      have HS : Hid (cmpL ea eb = if ea.getD k 0 < eb.getD k 0 then -1 else if eb.getD k 0 < ea.getD k 0 then 1 else cmpL (ea.drop (k + 1)) (eb.drop (k + 1))) := hst
      clear hst hT hc1 hc2 ha hb
      generalize ea.getD k 0 = x at c1 HS
      generalize eb.getD k 0 = y at c2 HS
      have i1 : (k : Int) < len := by omega
      have i2 : ¬ (len : Int) ≤ k := by omega
      have HC : Hid (∀ W, Calls Try.prog 37 #[.int .i64 x, .int .i64 y] W fun e w' => e = .returned (.int .i64 (cmp1 x y)) ∧ w' = W) := fun W => cmp1_any x y W
      obtain ⟨c, hc⟩ : ∃ c, cmp1 x y = c := ⟨_, rfl⟩
      rw [hc] at HC
      by_cases h0 : c = 0
      · have HN : Hid (cmpL (ea.drop (k + 1)) (eb.drop (k + 1)) = cmpL ea eb) := by
          have := HS.out
          show _ = _
          rw [this]
          unfold cmp1 at hc
          split at hc
          · omega
          · split at hc
            · omega
            · rw [if_neg ‹_›, if_neg ‹_›]
        have hz : (c != 0) = false := by simp [h0]
        clear HS h0 hc
        go_wp2_with fail
        refine Calls.mono (HC.out _) ?_
        rintro e w1 ⟨rfl, rfl⟩
        clear HC
        go_wp2
        exact ⟨⟨k + 1, by omega, by go_num, by first | trivial | rfl, HN⟩, by simp [intOf]; omega⟩
      · have HN : Hid (cmpL ea eb = c) := by
          have := HS.out
          show _ = _
          rw [this]
          unfold cmp1 at hc
          split at hc
          · rw [if_pos ‹_›]; exact hc
          · split at hc
            · rw [if_neg ‹_›, if_pos ‹_›]; exact hc
            · omega
        have hz : (c != 0) = true := by simpa using h0
        clear HS h0 hc
        go_wp2_with fail
        refine Calls.mono (HC.out _) ?_
        rintro e w1 ⟨rfl, rfl⟩
        clear HC
        go_wp2
        go_ret
        exact ⟨by rw [HN.out]; rfl, rfl⟩
    · obtain rfl : k = len := by omega
      have e0 : cmpL ea eb = 0 := by rw [← hT.out, ← hla]; exact cmp_end ea _
      clear hT
      have hll : ¬ (k : Int) < k := by omega
      go_wp2
      go_ret
      exact ⟨by first | rfl | (rw [e0]; rfl), rfl⟩
theorem min4_any (b off c : Nat) (x0 x1 x2 x3 : Int) (w : World) (h0 : w.cell? ⟨b, off, none⟩ = some (.int .i64 x0)) (h1 : w.cell? ⟨b, off + 1, none⟩ = some (.int .i64 x1)) (h2 : w.cell? ⟨b, off + 2, none⟩ = some (.int .i64 x2)) (h3 : w.cell? ⟨b, off + 3, none⟩ = some (.int .i64 x3)) :
    Calls Try.prog 35 #[.slice (some ⟨b, off, none⟩) 4 c] w fun e w' => e = .returned (.int .i64 (min (min (min x0 x1) x2) x3)) ∧ w' = w := by
  go_enter Try.func35, Try.ntmps35
  go_wp2_with fail
  refine wp_loop_rounds 4 ?_
  rw [rounds_succ]; go_wp2
  all_goals (rw [rounds_succ]; go_wp2)
  all_goals (rw [rounds_succ]; go_wp2)
  all_goals (rw [rounds_succ]; go_wp2)
  all_goals (go_ret; exact ⟨ret_int (by omega), rfl⟩)
theorem max4_any (b off c : Nat) (x0 x1 x2 x3 : Int) (w : World) (h0 : w.cell? ⟨b, off, none⟩ = some (.int .i64 x0)) (h1 : w.cell? ⟨b, off + 1, none⟩ = some (.int .i64 x1)) (h2 : w.cell? ⟨b, off + 2, none⟩ = some (.int .i64 x2)) (h3 : w.cell? ⟨b, off + 3, none⟩ = some (.int .i64 x3)) :
    Calls Try.prog 36 #[.slice (some ⟨b, off, none⟩) 4 c] w fun e w' => e = .returned (.int .i64 (max (max (max x0 x1) x2) x3)) ∧ w' = w := by
  go_enter Try.func36, Try.ntmps36
  go_wp2_with fail
  refine wp_loop_rounds 4 ?_
  rw [rounds_succ]; go_wp2
  all_goals (rw [rounds_succ]; go_wp2)
  all_goals (rw [rounds_succ]; go_wp2)
  all_goals (rw [rounds_succ]; go_wp2)
  all_goals (go_ret; exact ⟨ret_int (by omega), rfl⟩)
/-- Is a product good by itself? -/
def goodM (m : Mon) : Bool := powB m.1 && (m.2 != 0)
theorem fit_goodM (prev : Option (List Int)) (m : Mon) : fitM prev m = (goodM m && (match prev with | some e => decide (0 < cmpL e m.1) | none => true)) := rfl
theorem four (e : List Int) (h : e.length = 4) : e = [e.getD 0 0, e.getD 1 0, e.getD 2 0, e.getD 3 0] := by
  match e, h with
  | [a, b, c, d], _ => rfl
set_option maxHeartbeats 1600000 in
theorem goodM_any (a : Option Addr) (la ca : Nat) (e : List Int) (n : Int) (w : World) (ha : Sl w a la e) (hm : la ≤ 9223372036854775807) :
    Calls Try.prog 24 #[.agg #[.slice a la ca, .int .i64 n]] w fun r w' => r = .returned (.bool (goodM (e, n))) ∧ Below w.heap.size w w' := by
  have hla := ha.1
  by_cases h4 : la = 4
  · subst h4
    by_cases hn : n = 0
    · have e0 : goodM (e, n) = false := by unfold goodM; rw [hn]; simp
      rw [e0]
      subst hn
      go_enter Try.func24, Try.ntmps24
      go_wp2
      go_ret
      exact ⟨rfl, by go_grown⟩
    · have hz : (n == 0) = false := by simpa using hn
      obtain ⟨b, off, rfl, hc⟩ := cells_of ha (by omega)
      obtain ⟨W1, hW1⟩ : ∃ W1, w.alloc (.cells #[.slice (some ⟨b, off, none⟩) 4 ca, .int .i64 n] 43) = W1 := ⟨_, rfl⟩
      have hb1 : Below w.heap.size w W1 := by rw [← hW1]; exact (Below.refl _ _).alloc (Nat.le_refl _) _
      have n0 : W1.cell? ⟨w.heap.size, 0, none⟩ = some (.slice (some ⟨b, off, none⟩) 4 ca) := by rw [← hW1]; simp [go_sem]
      have n1 : W1.cell? ⟨w.heap.size, 1, none⟩ = some (.int .i64 n) := by rw [← hW1]; simp [go_sem]
      have hS := ha.keep hb1
      obtain ⟨b', off', e', hc'⟩ := cells_of hS (by omega)
      cases e'
      have H0 := hc' 0 (by omega)
      have H1 := hc' 1 (by omega)
      have H2 := hc' 2 (by omega)
      have H3 := hc' 3 (by omega)
      have h4e := four e hla
      have hG : goodM (e, n) = (decide (0 ≤ min (min (min (e.getD 0 0) (e.getD 1 0)) (e.getD 2 0)) (e.getD 3 0)) && decide (max (max (max (e.getD 0 0) (e.getD 1 0)) (e.getD 2 0)) (e.getD 3 0) ≤ 9)) := by
        unfold goodM powB
        rw [hla, show (n != 0) = true from by simpa using hn]
        conv => lhs; rw [h4e]
        generalize e.getD 0 0 = x0
        generalize e.getD 1 0 = x1
        generalize e.getD 2 0 = x2
        generalize e.getD 3 0 = x3
        rw [Bool.eq_iff_iff]
        simp [allB]
        omega
      rw [hG]
      generalize e.getD 0 0 = x0 at H0
      generalize e.getD 1 0 = x1 at H1
      generalize e.getD 2 0 = x2 at H2
      generalize e.getD 3 0 = x3 at H3
      rw [Nat.add_zero] at H0
      have HMi : Hid (Calls Try.prog 35 #[.slice (some ⟨b, off, none⟩) 4 ca] W1 fun e w' => e = .returned (.int .i64 (min (min (min x0 x1) x2) x3)) ∧ w' = W1) := min4_any b off ca x0 x1 x2 x3 _ H0 H1 H2 H3
      have HMa : Hid (Calls Try.prog 36 #[.slice (some ⟨b, off, none⟩) 4 ca] W1 fun e w' => e = .returned (.int .i64 (max (max (max x0 x1) x2) x3)) ∧ w' = W1) := max4_any b off ca x0 x1 x2 x3 _ H0 H1 H2 H3
      generalize min (min (min x0 x1) x2) x3 = mi at HMi ⊢
      generalize max (max (max x0 x1) x2) x3 = ma at HMa ⊢
      clear H0 H1 H2 H3 hG h4e hc hc' hS ha hn
      by_cases h0 : 0 ≤ mi
      · have q0 : decide (0 ≤ mi) = true := decide_eq_true h0
        by_cases h9 : ma ≤ 9
        · have q9 : decide (ma ≤ 9) = true := decide_eq_true h9
          rw [q0, q9]
          go_enter Try.func24, Try.ntmps24
          go_wp2_with fail
          (try rw [hW1])
          refine Calls.mono HMi.out ?_
          rintro e w1 ⟨rfl, rfl⟩
          go_wp2_with fail
          refine Calls.mono HMa.out ?_
          rintro e w1 ⟨rfl, rfl⟩
          go_wp2
          go_ret
          exact ⟨by first | rfl | simp [q0, q9], hb1⟩
        · have q9 : decide (ma ≤ 9) = false := decide_eq_false h9
          rw [q0, q9]
          go_enter Try.func24, Try.ntmps24
          go_wp2_with fail
          (try rw [hW1])
          refine Calls.mono HMi.out ?_
          rintro e w1 ⟨rfl, rfl⟩
          go_wp2_with fail
          refine Calls.mono HMa.out ?_
          rintro e w1 ⟨rfl, rfl⟩
          go_wp2
          go_ret
          exact ⟨by first | rfl | simp [q0, q9], hb1⟩
      · have q0 : decide (0 ≤ mi) = false := decide_eq_false h0
        rw [q0]
        go_enter Try.func24, Try.ntmps24
        go_wp2_with fail
        (try rw [hW1])
        refine Calls.mono HMi.out ?_
        rintro e w1 ⟨rfl, rfl⟩
        go_wp2
        go_ret
        exact ⟨rfl, hb1⟩
  · have e0 : goodM (e, n) = false := by unfold goodM powB; rw [hla, decide_eq_false h4]; rfl
    rw [e0]
    have h' : ((la : Int) != 4) = true := by simp; omega
    go_enter Try.func24, Try.ntmps24
    go_wp2
    go_ret
    exact ⟨rfl, by go_grown⟩
end Go.Proofs.Ytpjgjpjfchfmlaa
