/-
  PROVED HERE: what the program's GoodPoly answers, at every list of products. No other condition.
-/
import Derived.Test.YtpjgjpjfchfmlaaICmp
import Derived.Test.YtpjgjpjfchfmlaaAhead
namespace Go.Proofs.Ytpjgjpjfchfmlaa
open Go.ChangeShapes Go.WideShapes Go.ChangeAt Go.RowKit
set_option linter.unusedVariables false

set_option maxHeartbeats 2000000 in
set_option maxRecDepth 20000 in
theorem implPoly_in (a : Option Addr) (len cap : Nat) (p : List Mon) (w : World) (h : PSl w a len p) (hm : len ≤ 40) :
    Calls Try.prog 11 #[.slice a len cap] w fun e w' => e = .returned (.bool (gpF none p)) ∧ Below w.heap.size w w' := by
  have hll := h.1
  have h40 : ¬ (40 : Int) < len := by omega
  go_enter Try.func11, Try.ntmps11
  go_wp2_with fail
  go_loopw [10] (fun i wr => ∃ k : Nat, k ≤ len ∧ i = .int .i64 (k : Int) ∧ Below w.heap.size w wr ∧ Hid (gpF (prevAt p k) (p.drop k) = gpF none p ∧ (0 < k → powB (p.getD (k - 1) ([], 0)).1 = true))) (fun i _ => len - (intOf i).toNat)
  case atStart => exact ⟨0, Nat.zero_le _, rfl, Below.refl _ _, rfl, fun h => absurd h (by omega)⟩
  case round =>
    obtain ⟨k, hk, rfl, hbr, hT⟩ := hrel
    by_cases hlt : k < len
    · have hw := h.keep hbr
      obtain ⟨b, off, rfl, hbl, hc⟩ := hw.at (by omega)
      obtain ⟨ai, li, ci, c1, hli, hci, hS, c2⟩ := hc k hlt
      have hst := gpF_drop p k (by omega)
      rw [hT.out.1] at hst
      have i1 : (k : Int) < len := by omega
      have hsz : ¬ b = wr.heap.size := by omega
      obtain ⟨W1, hW1⟩ : ∃ W1, wr.alloc (.cells #[.slice ai li ci, .int .i64 (p.getD k ([], 0)).2] 43) = W1 := ⟨_, rfl⟩
      have n0 : W1.cell? ⟨wr.heap.size, 0, none⟩ = some (.slice ai li ci) := by rw [← hW1]; simp [go_sem]
      have n1 : W1.cell? ⟨wr.heap.size, 1, none⟩ = some (.int .i64 (p.getD k ([], 0)).2) := by rw [← hW1]; simp [go_sem]
      have hb1 : Below wr.heap.size wr W1 := by rw [← hW1]; exact (Below.refl _ _).alloc (Nat.le_refl _) _
      have hs1 : wr.heap.size < W1.heap.size := by rw [← hW1]; simp
      have hB1 : Below w.heap.size w W1 := hbr.trans (hb1.mono hbr.size)
      have HG : Hid (∀ W, Below W1.heap.size W1 W → Calls Try.prog 24 #[.agg #[.slice ai li ci, .int .i64 (p.getD k ([], 0)).2]] W fun e w' => e = .returned (.bool (goodM (p.getD k ([], 0)))) ∧ Below W.heap.size W w') := fun W hW => goodM_any ai li ci _ _ W (hS.keep (hb1.trans (hW.mono hb1.size))) hli
      have HSl : Hid (∀ W, Below W1.heap.size W1 W → Sl W ai li (p.getD k ([], 0)).1) := fun W hW => hS.keep (hb1.trans (hW.mono hb1.size))
      have HFin : Hid (∀ W, Below W1.heap.size W1 W → Below w.heap.size w W) := fun W hW => hB1.trans (hW.mono hB1.size)
      have hfp : ∀ b, fitM (prevAt p k) (p.getD k ([], 0)) = b → (b = false → gpF none p = false) ∧ (b = true → gpF (prevAt p (k + 1)) (p.drop (k + 1)) = gpF none p) := fun b hb => by
        rw [hb] at hst
        refine ⟨fun e => ?_, fun e => ?_⟩
        · subst e; rw [hst]; rfl
        · subst e; rw [hst]; rfl
      have HF := (show Hid _ from hfp)
      have hprev := hT.out.2
      have HC := (show Hid _ from hc)
      clear hfp hst hT hw
      cases hp : goodM (p.getD k ([], 0)) with
      | false =>
        rw [hp] at HG
        have HV : Hid (gpF none p = false) := (HF.out false (by rw [fit_goodM, hp]; rfl)).1 rfl
        generalize (p.getD k ([], 0)).2 = y at c2 n1 hW1 HG
        have k0 : ∀ x : Ahead W1, x.w.cell? ⟨wr.heap.size, 0, none⟩ = some (.slice ai li ci) := fun x => (x.h.cell (p := ⟨wr.heap.size, 0, none⟩) hs1).trans n0
        have k1 : ∀ x : Ahead W1, x.w.cell? ⟨wr.heap.size, 1, none⟩ = some (.int .i64 y) := fun x => (x.h.cell (p := ⟨wr.heap.size, 1, none⟩) hs1).trans n1
        clear HF hp HC hS hc HSl hprev
        go_wp2_with fail
        (try rw [hW1])
        have hne := ahead_some W1
        refine wp_region_ahead (by kernel_rfl) (by kernel_rfl) ?_
        repeat (first
          | go_big_quiet_skip
          | (go_big_quiet_want; go_big_quiet_op; first | go_big_quiet_on | (apply Exists.intro; refine ⟨fun x => ?_, ?_⟩; (focus (exact ahead_of (HG.out _ x.h))); go_big_quiet_on)))
        refine wpQuiet_nil ?_
        intro _ hw'
        obtain ⟨xq, rfl⟩ := hw'
        all_goals
          go_wp2
          go_ret
          exact ⟨by rw [HV.out]; rfl, HFin.out _ xq.h⟩
      | true =>
        rw [hp] at HG
        have hpow : powB (p.getD k ([], 0)).1 = true := by unfold goodM at hp; rw [Bool.and_eq_true] at hp; exact hp.1
        by_cases hk0 : k = 0
        · have HN : Hid (gpF (prevAt p (k + 1)) (p.drop (k + 1)) = gpF none p ∧ (0 < k + 1 → powB (p.getD (k + 1 - 1) ([], 0)).1 = true)) := ⟨(HF.out true (by rw [fit_goodM, hp]; unfold prevAt; rw [if_pos hk0]; rfl)).2 rfl, fun _ => by rw [show k + 1 - 1 = k from by omega]; exact hpow⟩
          generalize (p.getD k ([], 0)).2 = y at c2 n1 hW1 HG
          have k0 : ∀ x : Ahead W1, x.w.cell? ⟨wr.heap.size, 0, none⟩ = some (.slice ai li ci) := fun x => (x.h.cell (p := ⟨wr.heap.size, 0, none⟩) hs1).trans n0
          have k1 : ∀ x : Ahead W1, x.w.cell? ⟨wr.heap.size, 1, none⟩ = some (.int .i64 y) := fun x => (x.h.cell (p := ⟨wr.heap.size, 1, none⟩) hs1).trans n1
          clear HF hp HC hS hc HSl hprev hpow
          subst hk0
          rw [Nat.zero_mul, Nat.add_zero] at c1 c2
          go_wp2_with fail
          (try rw [hW1])
          have hne := ahead_some W1
          refine wp_region_ahead (by kernel_rfl) (by kernel_rfl) ?_
          repeat (first
            | go_big_quiet_skip
            | (go_big_quiet_want; go_big_quiet_op; first | go_big_quiet_on | (apply Exists.intro; refine ⟨fun x => ?_, ?_⟩; (focus (exact ahead_of (HG.out _ x.h))); go_big_quiet_on)))
          refine wpQuiet_nil ?_
          intro _ hw'
          obtain ⟨xq, rfl⟩ := hw'
          all_goals
            go_wp2
            exact ⟨⟨0 + 1, by omega, by go_num, HFin.out _ xq.h, HN⟩, by simp [intOf]; omega⟩
        · obtain ⟨j, rfl⟩ : ∃ j, k = j + 1 := ⟨k - 1, by omega⟩
          have hpj := hprev (by omega)
          rw [show j + 1 - 1 = j from by omega] at hpj
          obtain ⟨aj, lj, cj, d1, hlj, hcj, hSj, d2⟩ := HC.out j (by omega)
          have hl1 := pow_len hpj
          have hl2 := pow_len hpow
          have e1 := hSj.1
          have e2 := hS.1
          obtain rfl : lj = 4 := by omega
          obtain rfl : li = 4 := by omega
          have HCm : Hid (∀ W, Below W1.heap.size W1 W → Calls Try.prog 25 #[.slice aj 4 cj, .slice ai 4 ci] W fun e w' => e = .returned (.int .i64 (cmpL (p.getD j ([], 0)).1 (p.getD (j + 1) ([], 0)).1)) ∧ w' = W) := fun W hW => slcmp_any aj ai 4 cj ci _ _ _ (hSj.keep (hb1.trans (hW.mono hb1.size))) (HSl.out _ hW) (by omega)
          have d1' : W1.cell? ⟨b, off + j * 2, none⟩ = some (.slice aj 4 cj) := (hb1.cell (p := ⟨b, off + j * 2, none⟩) hbl).trans d1
          have hkk : decide ((0 : Int) < ((j + 1 : Nat) : Int)) = true := decide_eq_true (by omega)
          have hpv : prevAt p (j + 1) = some (p.getD j ([], 0)).1 := by unfold prevAt; rw [if_neg (by omega), show j + 1 - 1 = j from by omega]
          have HG' : Hid (∀ c, cmpL (p.getD j ([], 0)).1 (p.getD (j + 1) ([], 0)).1 = c → (c ≤ 0 → gpF none p = false) ∧ (¬ c ≤ 0 → gpF (prevAt p (j + 1 + 1)) (p.drop (j + 1 + 1)) = gpF none p)) := fun c hc' => by
            refine ⟨fun h0 => (HF.out false ?_).1 rfl, fun h0 => (HF.out true ?_).2 rfl⟩
            · rw [fit_goodM, hpv, hp]; simp only []; rw [hc', decide_eq_false (by omega)]; rfl
            · rw [fit_goodM, hpv, hp]; simp only []; rw [hc', decide_eq_true (by omega)]; rfl
          have HP2 : Hid (powB (p.getD (j + 1) ([], 0)).1 = true) := hpow
          have jj : (j : Int) < len := by omega
          have hb1w : b < W1.heap.size := Nat.lt_of_lt_of_le hbl hb1.size
          obtain ⟨c, hcv⟩ : ∃ c, cmpL (p.getD j ([], 0)).1 (p.getD (j + 1) ([], 0)).1 = c := ⟨_, rfl⟩
          have HG2 := (show Hid _ from HG'.out c hcv)
          rw [hcv] at HCm
          generalize (p.getD (j + 1) ([], 0)).2 = y at c2 n1 hW1 HG
          have k0 : ∀ x : Ahead W1, x.w.cell? ⟨wr.heap.size, 0, none⟩ = some (.slice ai 4 ci) := fun x => (x.h.cell (p := ⟨wr.heap.size, 0, none⟩) hs1).trans n0
          have k1 : ∀ x : Ahead W1, x.w.cell? ⟨wr.heap.size, 1, none⟩ = some (.int .i64 y) := fun x => (x.h.cell (p := ⟨wr.heap.size, 1, none⟩) hs1).trans n1
          have k2 : ∀ x : Ahead W1, x.w.cell? ⟨b, off + j * 2, none⟩ = some (.slice aj 4 cj) := fun x => (x.h.cell (p := ⟨b, off + j * 2, none⟩) hb1w).trans d1'
          clear HF HC hS hSj hc HSl hprev hk0 hp hpj d1 d2 hl1 hl2 e1 e2 hpv HG' hcv hpow
          by_cases h0 : c ≤ 0
          · have q0 : decide (c ≤ 0) = true := decide_eq_true h0
            have HV : Hid (gpF none p = false) := HG2.out.1 h0
            clear HG2
            go_wp2_with fail
            (try rw [hW1])
            have hne := ahead_some W1
            refine wp_region_ahead (by kernel_rfl) (by kernel_rfl) ?_
            repeat (first
              | go_big_quiet_skip
              | (go_big_quiet_want; go_big_quiet_op; first | go_big_quiet_on | (apply Exists.intro; refine ⟨fun x => ?_, ?_⟩; (focus (first | exact ahead_of (HG.out _ x.h) | exact ahead_of_same (HCm.out _ x.h))); go_big_quiet_on)))
            refine wpQuiet_nil ?_
            intro _ hw'
            obtain ⟨xq, rfl⟩ := hw'
            all_goals
              go_wp2
              go_ret
              exact ⟨by rw [HV.out]; rfl, HFin.out _ xq.h⟩
          · have q0 : decide (c ≤ 0) = false := decide_eq_false h0
            have HN : Hid (gpF (prevAt p (j + 1 + 1)) (p.drop (j + 1 + 1)) = gpF none p ∧ (0 < j + 1 + 1 → powB (p.getD (j + 1 + 1 - 1) ([], 0)).1 = true)) := ⟨HG2.out.2 h0, fun _ => by rw [show j + 1 + 1 - 1 = j + 1 from by omega]; exact HP2.out⟩
            clear HG2
            go_wp2_with fail
            (try rw [hW1])
            have hne := ahead_some W1
            refine wp_region_ahead (by kernel_rfl) (by kernel_rfl) ?_
            repeat (first
              | go_big_quiet_skip
              | (go_big_quiet_want; go_big_quiet_op; first | go_big_quiet_on | (apply Exists.intro; refine ⟨fun x => ?_, ?_⟩; (focus (first | exact ahead_of (HG.out _ x.h) | exact ahead_of_same (HCm.out _ x.h))); go_big_quiet_on)))
            refine wpQuiet_nil ?_
            intro _ hw'
            obtain ⟨xq, rfl⟩ := hw'
            all_goals
              go_wp2
              exact ⟨⟨j + 1 + 1, by omega, by go_num, HFin.out _ xq.h, HN⟩, by simp [intOf]; omega⟩
    · obtain rfl : k = len := by omega
      have HE : Hid (gpF none p = true) := by show _ = _; rw [← hT.out.1, ← hll, List.drop_of_length_le (Nat.le_refl _)]; rfl
      clear hT
      go_wp2
      go_ret
      exact ⟨by rw [HE.out]; rfl, hbr⟩
theorem implPoly_any (a : Option Addr) (len cap : Nat) (p : List Mon) (w : World) (h : PSl w a len p) (hm : len ≤ 9223372036854775807) :
    Calls Try.prog 11 #[.slice a len cap] w fun e w' => e = .returned (.bool (polyB p)) ∧ Below w.heap.size w w' := by
  by_cases h40 : len ≤ 40
  · have e : polyB p = gpF none p := by unfold polyB; rw [h.1, decide_eq_true h40]; simp
    rw [e]
    exact implPoly_in a len cap p w h h40
  · have e : polyB p = false := by unfold polyB; rw [h.1, decide_eq_false h40]; simp
    rw [e]
    have i1 : 40 < (len : Int) := by omega
    go_enter Try.func11, Try.ntmps11
    go_wp2
    go_ret
    exact ⟨rfl, Below.refl _ _⟩
end Go.Proofs.Ytpjgjpjfchfmlaa
