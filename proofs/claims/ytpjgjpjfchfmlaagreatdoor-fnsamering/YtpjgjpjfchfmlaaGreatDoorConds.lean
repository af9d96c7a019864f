/-
  PROVED HERE: what the program's comparing of powers answers, the least and the greatest of four numbers, and its look at a product. No other condition. what the program's GoodPoly answers, at every list of products. No other condition.
-/
import Derived.Test.YtpjgjpjfchfmlaaGreatDoorPolyGoods
import Derived.Test.YtpjgjpjfchfmlaaGreatDoorAhead
namespace Go.Proofs.YtpjgjpjfchfmlaaGreatDoor
open Go.ChangeShapes Go.WideShapes Go.ChangeAt Go.RowKit
set_option linter.unusedVariables false

def cmp1 (x y : Int) : Int := if x < y then -1 else if y < x then 1 else 0
theorem cmp1_any (x y : Int) (w : World) :
    Calls Tryz.prog 72 #[.int .i64 x, .int .i64 y] w fun e w' => e = .returned (.int .i64 (cmp1 x y)) ∧ w' = w := by
  have hx : (x != x) = false := by simp
  have hy : (y != y) = false := by simp
  unfold cmp1
  by_cases h1 : x < y
  · rw [if_pos h1]
    go_enter Tryz.func72, Tryz.ntmps72
    go_wp2
    go_ret
    exact ⟨rfl, rfl⟩
  · rw [if_neg h1]
    by_cases h2 : y < x
    · rw [if_pos h2]
      go_enter Tryz.func72, Tryz.ntmps72
      go_wp2
      go_ret
      exact ⟨rfl, rfl⟩
    · rw [if_neg h2]
      go_enter Tryz.func72, Tryz.ntmps72
      go_wp2
      go_ret
      exact ⟨rfl, rfl⟩
set_option maxHeartbeats 1600000 in
theorem slcmp_any (a b : Option Addr) (len ca cb : Nat) (ea eb : List Int) (w : World) (ha : Sl w a len ea) (hb : Sl w b len eb) (hm : len ≤ 1048576) :
    Calls Tryz.prog 38 #[.slice a len ca, .slice b len cb] w fun e w' => e = .returned (.int .i64 (cmpL ea eb)) ∧ w' = w := by
  have hla := ha.1
  have hlb := hb.1
  go_enter Tryz.func38, Tryz.ntmps38
  go_wp2_with fail
  go_loopw [11] (fun i wr => ∃ k : Nat, k ≤ len ∧ i = .int .i64 (k : Int) ∧ wr = w ∧ Hid (cmpL (ea.drop k) (eb.drop k) = cmpL ea eb)) (fun i _ => len - (intOf i).toNat)
  case atStart => exact ⟨0, Nat.zero_le _, rfl, rfl, rfl⟩
  case round =>
    obtain ⟨k, hk, rfl, rfl, hT⟩ := hrel
    by_cases hlt : k < len
    · obtain ⟨b1, o1, rfl, hc1⟩ := cells_of ha (by omega)
      obtain ⟨b2, o2, rfl, hc2⟩ := cells_of hb (by omega)
      have c1 := hc1 k hlt
      have c2 := hc2 k hlt
      have hst := cmp_drop ea eb k (by omega) (by omega)
      rw [hT.out] at hst
      have HS : Hid (cmpL ea eb = if ea.getD k 0 < eb.getD k 0 then -1 else if eb.getD k 0 < ea.getD k 0 then 1 else cmpL (ea.drop (k + 1)) (eb.drop (k + 1))) := hst
      clear hst hT hc1 hc2 ha hb
      generalize ea.getD k 0 = x at c1 HS
      generalize eb.getD k 0 = y at c2 HS
      have i1 : (k : Int) < len := by omega
      have i2 : ¬ (len : Int) ≤ k := by omega
      have HC : Hid (∀ W, Calls Tryz.prog 72 #[.int .i64 x, .int .i64 y] W fun e w' => e = .returned (.int .i64 (cmp1 x y)) ∧ w' = W) := fun W => cmp1_any x y W
      obtain ⟨c, hc⟩ : ∃ c, cmp1 x y = c := ⟨_, rfl⟩
      rw [hc] at HC
      by_cases h0 : c = 0
      · have HN : Hid (cmpL (ea.drop (k + 1)) (eb.drop (k + 1)) = cmpL ea eb) := by
          have := HS.out
          show _ = _
          rw [this]
          unfold cmp1 at hc
          split at hc
          · omega
          · split at hc
            · omega
            · rw [if_neg ‹_›, if_neg ‹_›]
        have hz : (c != 0) = false := by simp [h0]
        clear HS h0 hc
        go_wp2_with fail
        refine Calls.mono (HC.out _) ?_
        rintro e w1 ⟨rfl, rfl⟩
        clear HC
        go_wp2
        exact ⟨⟨k + 1, by omega, by go_num, by first | trivial | rfl, HN⟩, by simp [intOf]; omega⟩
      · have HN : Hid (cmpL ea eb = c) := by
          have := HS.out
          show _ = _
          rw [this]
          unfold cmp1 at hc
          split at hc
          · rw [if_pos ‹_›]; exact hc
          · split at hc
            · rw [if_neg ‹_›, if_pos ‹_›]; exact hc
            · omega
        have hz : (c != 0) = true := by simpa using h0
        clear HS h0 hc
        go_wp2_with fail
        refine Calls.mono (HC.out _) ?_
        rintro e w1 ⟨rfl, rfl⟩
        clear HC
        go_wp2
        go_ret
        exact ⟨by rw [HN.out]; rfl, rfl⟩
    · obtain rfl : k = len := by omega
      have e0 : cmpL ea eb = 0 := by rw [← hT.out, ← hla]; exact cmp_end ea _
      clear hT
      have hll : ¬ (k : Int) < k := by omega
      go_wp2
      go_ret
      exact ⟨by first | rfl | (rw [e0]; rfl), rfl⟩
theorem min4_any (b off c : Nat) (x0 x1 x2 x3 : Int) (w : World) (h0 : w.cell? ⟨b, off, none⟩ = some (.int .i64 x0)) (h1 : w.cell? ⟨b, off + 1, none⟩ = some (.int .i64 x1)) (h2 : w.cell? ⟨b, off + 2, none⟩ = some (.int .i64 x2)) (h3 : w.cell? ⟨b, off + 3, none⟩ = some (.int .i64 x3)) :
    Calls Tryz.prog 70 #[.slice (some ⟨b, off, none⟩) 4 c] w fun e w' => e = .returned (.int .i64 (min (min (min x0 x1) x2) x3)) ∧ w' = w := by
  go_enter Tryz.func70, Tryz.ntmps70
  go_wp2_with fail
  refine wp_loop_rounds 4 ?_
  rw [rounds_succ]; go_wp2
  all_goals (rw [rounds_succ]; go_wp2)
  all_goals (rw [rounds_succ]; go_wp2)
  all_goals (rw [rounds_succ]; go_wp2)
  all_goals (go_ret; exact ⟨ret_int (by omega), rfl⟩)
theorem max4_any (b off c : Nat) (x0 x1 x2 x3 : Int) (w : World) (h0 : w.cell? ⟨b, off, none⟩ = some (.int .i64 x0)) (h1 : w.cell? ⟨b, off + 1, none⟩ = some (.int .i64 x1)) (h2 : w.cell? ⟨b, off + 2, none⟩ = some (.int .i64 x2)) (h3 : w.cell? ⟨b, off + 3, none⟩ = some (.int .i64 x3)) :
    Calls Tryz.prog 71 #[.slice (some ⟨b, off, none⟩) 4 c] w fun e w' => e = .returned (.int .i64 (max (max (max x0 x1) x2) x3)) ∧ w' = w := by
  go_enter Tryz.func71, Tryz.ntmps71
  go_wp2_with fail
  refine wp_loop_rounds 4 ?_
  rw [rounds_succ]; go_wp2
  all_goals (rw [rounds_succ]; go_wp2)
  all_goals (rw [rounds_succ]; go_wp2)
  all_goals (rw [rounds_succ]; go_wp2)
  all_goals (go_ret; exact ⟨ret_int (by omega), rfl⟩)
/-- Is a product good by itself? -/
def goodM (m : Mon) : Bool := powB m.1 && (m.2 != 0)
theorem fit_goodM (prev : Option (List Int)) (m : Mon) : fitM prev m = (goodM m && (match prev with | some e => decide (0 < cmpL e m.1) | none => true)) := rfl
theorem four (e : List Int) (h : e.length = 4) : e = [e.getD 0 0, e.getD 1 0, e.getD 2 0, e.getD 3 0] := by
  match e, h with
  | [a, b, c, d], _ => rfl
set_option maxHeartbeats 1600000 in
theorem goodM_any (a : Option Addr) (la ca : Nat) (e : List Int) (n : Int) (w : World) (ha : Sl w a la e) (hm : la ≤ 9223372036854775807) :
    Calls Tryz.prog 37 #[.agg #[.slice a la ca, .int .i64 n]] w fun r w' => r = .returned (.bool (goodM (e, n))) ∧ Below w.heap.size w w' := by
  have hla := ha.1
  by_cases h4 : la = 4
  · subst h4
    by_cases hn : n = 0
    · have e0 : goodM (e, n) = false := by unfold goodM; rw [hn]; simp
      rw [e0]
      subst hn
      go_enter Tryz.func37, Tryz.ntmps37
      go_wp2
      go_ret
      exact ⟨rfl, by go_grown⟩
    · have hz : (n == 0) = false := by simpa using hn
      obtain ⟨b, off, rfl, hc⟩ := cells_of ha (by omega)
      obtain ⟨W1, hW1⟩ : ∃ W1, w.alloc (.cells #[.slice (some ⟨b, off, none⟩) 4 ca, .int .i64 n] 57) = W1 := ⟨_, rfl⟩
      have hb1 : Below w.heap.size w W1 := by rw [← hW1]; exact (Below.refl _ _).alloc (Nat.le_refl _) _
      have n0 : W1.cell? ⟨w.heap.size, 0, none⟩ = some (.slice (some ⟨b, off, none⟩) 4 ca) := by rw [← hW1]; simp [go_sem]
      have n1 : W1.cell? ⟨w.heap.size, 1, none⟩ = some (.int .i64 n) := by rw [← hW1]; simp [go_sem]
      have hS := ha.keep hb1
      obtain ⟨b', off', e', hc'⟩ := cells_of hS (by omega)
      cases e'
      have H0 := hc' 0 (by omega)
      have H1 := hc' 1 (by omega)
      have H2 := hc' 2 (by omega)
      have H3 := hc' 3 (by omega)
      have h4e := four e hla
      have hG : goodM (e, n) = (decide (0 ≤ min (min (min (e.getD 0 0) (e.getD 1 0)) (e.getD 2 0)) (e.getD 3 0)) && decide (max (max (max (e.getD 0 0) (e.getD 1 0)) (e.getD 2 0)) (e.getD 3 0) ≤ 9)) := by
        unfold goodM powB
        rw [hla, show (n != 0) = true from by simpa using hn]
        conv => lhs; rw [h4e]
        generalize e.getD 0 0 = x0
        generalize e.getD 1 0 = x1
        generalize e.getD 2 0 = x2
        generalize e.getD 3 0 = x3
        rw [Bool.eq_iff_iff]
        simp [allB]
        omega
      rw [hG]
      generalize e.getD 0 0 = x0 at H0
      generalize e.getD 1 0 = x1 at H1
      generalize e.getD 2 0 = x2 at H2
      generalize e.getD 3 0 = x3 at H3
      rw [Nat.add_zero] at H0
      have HMi : Hid (Calls Tryz.prog 70 #[.slice (some ⟨b, off, none⟩) 4 ca] W1 fun e w' => e = .returned (.int .i64 (min (min (min x0 x1) x2) x3)) ∧ w' = W1) := min4_any b off ca x0 x1 x2 x3 _ H0 H1 H2 H3
      have HMa : Hid (Calls Tryz.prog 71 #[.slice (some ⟨b, off, none⟩) 4 ca] W1 fun e w' => e = .returned (.int .i64 (max (max (max x0 x1) x2) x3)) ∧ w' = W1) := max4_any b off ca x0 x1 x2 x3 _ H0 H1 H2 H3
      generalize min (min (min x0 x1) x2) x3 = mi at HMi ⊢
      generalize max (max (max x0 x1) x2) x3 = ma at HMa ⊢
      clear H0 H1 H2 H3 hG h4e hc hc' hS ha hn
      by_cases h0 : 0 ≤ mi
      · have q0 : decide (0 ≤ mi) = true := decide_eq_true h0
        by_cases h9 : ma ≤ 9
        · have q9 : decide (ma ≤ 9) = true := decide_eq_true h9
          rw [q0, q9]
          go_enter Tryz.func37, Tryz.ntmps37
          go_wp2_with fail
          (try rw [hW1])
          refine Calls.mono HMi.out ?_
          rintro e w1 ⟨rfl, rfl⟩
          go_wp2_with fail
          refine Calls.mono HMa.out ?_
          rintro e w1 ⟨rfl, rfl⟩
          go_wp2
          go_ret
          exact ⟨by first | rfl | simp [q0, q9], hb1⟩
        · have q9 : decide (ma ≤ 9) = false := decide_eq_false h9
          rw [q0, q9]
          go_enter Tryz.func37, Tryz.ntmps37
          go_wp2_with fail
          (try rw [hW1])
          refine Calls.mono HMi.out ?_
          rintro e w1 ⟨rfl, rfl⟩
          go_wp2_with fail
          refine Calls.mono HMa.out ?_
          rintro e w1 ⟨rfl, rfl⟩
          go_wp2
          go_ret
          exact ⟨by first | rfl | simp [q0, q9], hb1⟩
      · have q0 : decide (0 ≤ mi) = false := decide_eq_false h0
        rw [q0]
        go_enter Tryz.func37, Tryz.ntmps37
        go_wp2_with fail
        (try rw [hW1])
        refine Calls.mono HMi.out ?_
        rintro e w1 ⟨rfl, rfl⟩
        go_wp2
        go_ret
        exact ⟨rfl, hb1⟩
  · have e0 : goodM (e, n) = false := by unfold goodM powB; rw [hla, decide_eq_false h4]; rfl
    rw [e0]
    have h' : ((la : Int) != 4) = true := by simp; omega
    go_enter Tryz.func37, Tryz.ntmps37
    go_wp2
    go_ret
    exact ⟨rfl, by go_grown⟩
end Go.Proofs.YtpjgjpjfchfmlaaGreatDoor
namespace Go.Proofs.YtpjgjpjfchfmlaaGreatDoor
open Go.ChangeShapes Go.WideShapes Go.ChangeAt Go.RowKit
set_option linter.unusedVariables false

set_option maxHeartbeats 2000000 in
set_option maxRecDepth 20000 in
theorem implPoly_in (a : Option Addr) (len cap : Nat) (p : List Mon) (w : World) (h : PSl w a len p) (hm : len ≤ 40) :
    Calls Tryz.prog 15 #[.slice a len cap] w fun e w' => e = .returned (.bool (gpF none p)) ∧ Below w.heap.size w w' := by
  have hll := h.1
  have h40 : ¬ (40 : Int) < len := by omega
  go_enter Tryz.func15, Tryz.ntmps15
  go_wp2_with fail
  go_loopw [10] (fun i wr => ∃ k : Nat, k ≤ len ∧ i = .int .i64 (k : Int) ∧ Below w.heap.size w wr ∧ Hid (gpF (prevAt p k) (p.drop k) = gpF none p ∧ (0 < k → powB (p.getD (k - 1) ([], 0)).1 = true))) (fun i _ => len - (intOf i).toNat)
  case atStart => exact ⟨0, Nat.zero_le _, rfl, Below.refl _ _, rfl, fun h => absurd h (by omega)⟩
  case round =>
    obtain ⟨k, hk, rfl, hbr, hT⟩ := hrel
    by_cases hlt : k < len
    · have hw := h.keep hbr
      obtain ⟨b, off, rfl, hbl, hc⟩ := hw.at (by omega)
      obtain ⟨ai, li, ci, c1, hli, hci, hS, c2⟩ := hc k hlt
      have hst := gpF_drop p k (by omega)
      rw [hT.out.1] at hst
      have i1 : (k : Int) < len := by omega
      have hsz : ¬ b = wr.heap.size := by omega
      obtain ⟨W1, hW1⟩ : ∃ W1, wr.alloc (.cells #[.slice ai li ci, .int .i64 (p.getD k ([], 0)).2] 57) = W1 := ⟨_, rfl⟩
      have n0 : W1.cell? ⟨wr.heap.size, 0, none⟩ = some (.slice ai li ci) := by rw [← hW1]; simp [go_sem]
      have n1 : W1.cell? ⟨wr.heap.size, 1, none⟩ = some (.int .i64 (p.getD k ([], 0)).2) := by rw [← hW1]; simp [go_sem]
      have hb1 : Below wr.heap.size wr W1 := by rw [← hW1]; exact (Below.refl _ _).alloc (Nat.le_refl _) _
      have hs1 : wr.heap.size < W1.heap.size := by rw [← hW1]; simp
      have hB1 : Below w.heap.size w W1 := hbr.trans (hb1.mono hbr.size)
      have HG : Hid (∀ W, Below W1.heap.size W1 W → Calls Tryz.prog 37 #[.agg #[.slice ai li ci, .int .i64 (p.getD k ([], 0)).2]] W fun e w' => e = .returned (.bool (goodM (p.getD k ([], 0)))) ∧ Below W.heap.size W w') := fun W hW => goodM_any ai li ci _ _ W (hS.keep (hb1.trans (hW.mono hb1.size))) hli
      have HSl : Hid (∀ W, Below W1.heap.size W1 W → Sl W ai li (p.getD k ([], 0)).1) := fun W hW => hS.keep (hb1.trans (hW.mono hb1.size))
      have HFin : Hid (∀ W, Below W1.heap.size W1 W → Below w.heap.size w W) := fun W hW => hB1.trans (hW.mono hB1.size)
      have hfp : ∀ b, fitM (prevAt p k) (p.getD k ([], 0)) = b → (b = false → gpF none p = false) ∧ (b = true → gpF (prevAt p (k + 1)) (p.drop (k + 1)) = gpF none p) := fun b hb => by
        rw [hb] at hst
        refine ⟨fun e => ?_, fun e => ?_⟩
        · subst e; rw [hst]; rfl
        · subst e; rw [hst]; rfl
      have HF := (show Hid _ from hfp)
      have hprev := hT.out.2
      have HC := (show Hid _ from hc)
      clear hfp hst hT hw
      cases hp : goodM (p.getD k ([], 0)) with
      | false =>
        rw [hp] at HG
        have HV : Hid (gpF none p = false) := (HF.out false (by rw [fit_goodM, hp]; rfl)).1 rfl
        generalize (p.getD k ([], 0)).2 = y at c2 n1 hW1 HG
        have k0 : ∀ x : Ahead W1, x.w.cell? ⟨wr.heap.size, 0, none⟩ = some (.slice ai li ci) := fun x => (x.h.cell (p := ⟨wr.heap.size, 0, none⟩) hs1).trans n0
        have k1 : ∀ x : Ahead W1, x.w.cell? ⟨wr.heap.size, 1, none⟩ = some (.int .i64 y) := fun x => (x.h.cell (p := ⟨wr.heap.size, 1, none⟩) hs1).trans n1
        clear HF hp HC hS hc HSl hprev
        go_wp2_with fail
        (try rw [hW1])
        have hne := ahead_some W1
        refine wp_region_ahead (by kernel_rfl) (by kernel_rfl) ?_
        repeat (first
          | go_big_quiet_skip
          | (go_big_quiet_want; go_big_quiet_op; first | go_big_quiet_on | (apply Exists.intro; refine ⟨fun x => ?_, ?_⟩; (focus (exact ahead_of (HG.out _ x.h))); go_big_quiet_on)))
        refine wpQuiet_nil ?_
        intro _ hw'
        obtain ⟨xq, rfl⟩ := hw'
        all_goals
          go_wp2
          go_ret
          exact ⟨by rw [HV.out]; rfl, HFin.out _ xq.h⟩
      | true =>
        rw [hp] at HG
        have hpow : powB (p.getD k ([], 0)).1 = true := by unfold goodM at hp; rw [Bool.and_eq_true] at hp; exact hp.1
        by_cases hk0 : k = 0
        · have HN : Hid (gpF (prevAt p (k + 1)) (p.drop (k + 1)) = gpF none p ∧ (0 < k + 1 → powB (p.getD (k + 1 - 1) ([], 0)).1 = true)) := ⟨(HF.out true (by rw [fit_goodM, hp]; unfold prevAt; rw [if_pos hk0]; rfl)).2 rfl, fun _ => by rw [show k + 1 - 1 = k from by omega]; exact hpow⟩
          generalize (p.getD k ([], 0)).2 = y at c2 n1 hW1 HG
          have k0 : ∀ x : Ahead W1, x.w.cell? ⟨wr.heap.size, 0, none⟩ = some (.slice ai li ci) := fun x => (x.h.cell (p := ⟨wr.heap.size, 0, none⟩) hs1).trans n0
          have k1 : ∀ x : Ahead W1, x.w.cell? ⟨wr.heap.size, 1, none⟩ = some (.int .i64 y) := fun x => (x.h.cell (p := ⟨wr.heap.size, 1, none⟩) hs1).trans n1
          clear HF hp HC hS hc HSl hprev hpow
          subst hk0
          rw [Nat.zero_mul, Nat.add_zero] at c1 c2
          go_wp2_with fail
          (try rw [hW1])
          have hne := ahead_some W1
          refine wp_region_ahead (by kernel_rfl) (by kernel_rfl) ?_
          repeat (first
            | go_big_quiet_skip
            | (go_big_quiet_want; go_big_quiet_op; first | go_big_quiet_on | (apply Exists.intro; refine ⟨fun x => ?_, ?_⟩; (focus (exact ahead_of (HG.out _ x.h))); go_big_quiet_on)))
          refine wpQuiet_nil ?_
          intro _ hw'
          obtain ⟨xq, rfl⟩ := hw'
          all_goals
            go_wp2
            exact ⟨⟨0 + 1, by omega, by go_num, HFin.out _ xq.h, HN⟩, by simp [intOf]; omega⟩
        · obtain ⟨j, rfl⟩ : ∃ j, k = j + 1 := ⟨k - 1, by omega⟩
          have hpj := hprev (by omega)
          rw [show j + 1 - 1 = j from by omega] at hpj
          obtain ⟨aj, lj, cj, d1, hlj, hcj, hSj, d2⟩ := HC.out j (by omega)
          have hl1 := pow_len hpj
          have hl2 := pow_len hpow
          have e1 := hSj.1
          have e2 := hS.1
          obtain rfl : lj = 4 := by omega
          obtain rfl : li = 4 := by omega
          have HCm : Hid (∀ W, Below W1.heap.size W1 W → Calls Tryz.prog 38 #[.slice aj 4 cj, .slice ai 4 ci] W fun e w' => e = .returned (.int .i64 (cmpL (p.getD j ([], 0)).1 (p.getD (j + 1) ([], 0)).1)) ∧ w' = W) := fun W hW => slcmp_any aj ai 4 cj ci _ _ _ (hSj.keep (hb1.trans (hW.mono hb1.size))) (HSl.out _ hW) (by omega)
          have d1' : W1.cell? ⟨b, off + j * 2, none⟩ = some (.slice aj 4 cj) := (hb1.cell (p := ⟨b, off + j * 2, none⟩) hbl).trans d1
          have hkk : decide ((0 : Int) < ((j + 1 : Nat) : Int)) = true := decide_eq_true (by omega)
          have hpv : prevAt p (j + 1) = some (p.getD j ([], 0)).1 := by unfold prevAt; rw [if_neg (by omega), show j + 1 - 1 = j from by omega]
          have HG' : Hid (∀ c, cmpL (p.getD j ([], 0)).1 (p.getD (j + 1) ([], 0)).1 = c → (c ≤ 0 → gpF none p = false) ∧ (¬ c ≤ 0 → gpF (prevAt p (j + 1 + 1)) (p.drop (j + 1 + 1)) = gpF none p)) := fun c hc' => by
            refine ⟨fun h0 => (HF.out false ?_).1 rfl, fun h0 => (HF.out true ?_).2 rfl⟩
            · rw [fit_goodM, hpv, hp]; simp only []; rw [hc', decide_eq_false (by omega)]; rfl
            · rw [fit_goodM, hpv, hp]; simp only []; rw [hc', decide_eq_true (by omega)]; rfl
          have HP2 : Hid (powB (p.getD (j + 1) ([], 0)).1 = true) := hpow
          have jj : (j : Int) < len := by omega
          have hb1w : b < W1.heap.size := Nat.lt_of_lt_of_le hbl hb1.size
          obtain ⟨c, hcv⟩ : ∃ c, cmpL (p.getD j ([], 0)).1 (p.getD (j + 1) ([], 0)).1 = c := ⟨_, rfl⟩
          have HG2 := (show Hid _ from HG'.out c hcv)
          rw [hcv] at HCm
          generalize (p.getD (j + 1) ([], 0)).2 = y at c2 n1 hW1 HG
          have k0 : ∀ x : Ahead W1, x.w.cell? ⟨wr.heap.size, 0, none⟩ = some (.slice ai 4 ci) := fun x => (x.h.cell (p := ⟨wr.heap.size, 0, none⟩) hs1).trans n0
          have k1 : ∀ x : Ahead W1, x.w.cell? ⟨wr.heap.size, 1, none⟩ = some (.int .i64 y) := fun x => (x.h.cell (p := ⟨wr.heap.size, 1, none⟩) hs1).trans n1
          have k2 : ∀ x : Ahead W1, x.w.cell? ⟨b, off + j * 2, none⟩ = some (.slice aj 4 cj) := fun x => (x.h.cell (p := ⟨b, off + j * 2, none⟩) hb1w).trans d1'
          clear HF HC hS hSj hc HSl hprev hk0 hp hpj d1 d2 hl1 hl2 e1 e2 hpv HG' hcv hpow
          by_cases h0 : c ≤ 0
          · have q0 : decide (c ≤ 0) = true := decide_eq_true h0
            have HV : Hid (gpF none p = false) := HG2.out.1 h0
            clear HG2
            go_wp2_with fail
            (try rw [hW1])
            have hne := ahead_some W1
            refine wp_region_ahead (by kernel_rfl) (by kernel_rfl) ?_
            repeat (first
              | go_big_quiet_skip
              | (go_big_quiet_want; go_big_quiet_op; first | go_big_quiet_on | (apply Exists.intro; refine ⟨fun x => ?_, ?_⟩; (focus (first | exact ahead_of (HG.out _ x.h) | exact ahead_of_same (HCm.out _ x.h))); go_big_quiet_on)))
            refine wpQuiet_nil ?_
            intro _ hw'
            obtain ⟨xq, rfl⟩ := hw'
            all_goals
              go_wp2
              go_ret
              exact ⟨by rw [HV.out]; rfl, HFin.out _ xq.h⟩
          · have q0 : decide (c ≤ 0) = false := decide_eq_false h0
            have HN : Hid (gpF (prevAt p (j + 1 + 1)) (p.drop (j + 1 + 1)) = gpF none p ∧ (0 < j + 1 + 1 → powB (p.getD (j + 1 + 1 - 1) ([], 0)).1 = true)) := ⟨HG2.out.2 h0, fun _ => by rw [show j + 1 + 1 - 1 = j + 1 from by omega]; exact HP2.out⟩
            clear HG2
            go_wp2_with fail
            (try rw [hW1])
            have hne := ahead_some W1
            refine wp_region_ahead (by kernel_rfl) (by kernel_rfl) ?_
            repeat (first
              | go_big_quiet_skip
              | (go_big_quiet_want; go_big_quiet_op; first | go_big_quiet_on | (apply Exists.intro; refine ⟨fun x => ?_, ?_⟩; (focus (first | exact ahead_of (HG.out _ x.h) | exact ahead_of_same (HCm.out _ x.h))); go_big_quiet_on)))
            refine wpQuiet_nil ?_
            intro _ hw'
            obtain ⟨xq, rfl⟩ := hw'
            all_goals
              go_wp2
              exact ⟨⟨j + 1 + 1, by omega, by go_num, HFin.out _ xq.h, HN⟩, by simp [intOf]; omega⟩
    · obtain rfl : k = len := by omega
      have HE : Hid (gpF none p = true) := by show _ = _; rw [← hT.out.1, ← hll, List.drop_of_length_le (Nat.le_refl _)]; rfl
      clear hT
      go_wp2
      go_ret
      exact ⟨by rw [HE.out]; rfl, hbr⟩
theorem implPoly_any (a : Option Addr) (len cap : Nat) (p : List Mon) (w : World) (h : PSl w a len p) (hm : len ≤ 9223372036854775807) :
    Calls Tryz.prog 15 #[.slice a len cap] w fun e w' => e = .returned (.bool (polyB p)) ∧ Below w.heap.size w w' := by
  by_cases h40 : len ≤ 40
  · have e : polyB p = gpF none p := by unfold polyB; rw [h.1, decide_eq_true h40]; simp
    rw [e]
    exact implPoly_in a len cap p w h h40
  · have e : polyB p = false := by unfold polyB; rw [h.1, decide_eq_false h40]; simp
    rw [e]
    have i1 : 40 < (len : Int) := by omega
    go_enter Tryz.func15, Tryz.ntmps15
    go_wp2
    go_ret
    exact ⟨rfl, Below.refl _ _⟩
end Go.Proofs.YtpjgjpjfchfmlaaGreatDoor
