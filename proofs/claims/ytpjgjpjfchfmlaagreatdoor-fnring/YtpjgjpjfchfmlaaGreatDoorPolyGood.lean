/-
  PROVED HERE: what the model's GoodPoly answers, at every list of products. No other condition.
-/
import Derived.Test.YtpjgjpjfchfmlaaGreatDoorPolyCmp
namespace Go.Proofs.YtpjgjpjfchfmlaaGreatDoor
open Go.ChangeShapes Go.WideShapes Go.ChangeAt Go.RowKit
set_option linter.unusedVariables false

/-- Does a product fit behind what lies ahead? -/
def fitM (prev : Option (List Int)) (m : Mon) : Bool := powB m.1 && (m.2 != 0) && (match prev with | some e => decide (0 < cmpL e m.1) | none => true)
theorem below_dr {k : Nat} (w : World) (n : Nat) : Below k w (w.drewN n) := by
  refine ⟨?_, ?_, ?_, ?_, ?_⟩ <;> first | rfl | exact Nat.le_refl _ | (intro j hj; rfl)
def gpF : Option (List Int) → List Mon → Bool
  | _, [] => true
  | prev, m :: r => fitM prev m && gpF (some m.1) r
def polyB (p : List Mon) : Bool := gpF none p && decide (p.length ≤ 40)
def prevAt (p : List Mon) (k : Nat) : Option (List Int) := if k = 0 then none else some (p.getD (k - 1) ([], 0)).1
theorem gpF_drop (p : List Mon) (k : Nat) (h : k < p.length) : gpF (prevAt p k) (p.drop k) = (fitM (prevAt p k) (p.getD k ([], 0)) && gpF (prevAt p (k + 1)) (p.drop (k + 1))) := by
  rw [List.drop_eq_getElem_cons h]
  have e : p.getD k ([], 0) = p[k] := by rw [List.getD_eq_getElem?_getD, List.getElem?_eq_getElem h]; rfl
  have e2 : prevAt p (k + 1) = some (p[k]).1 := by unfold prevAt; rw [if_neg (by omega), show k + 1 - 1 = k from by omega, e]
  rw [e, e2]; rfl
theorem pow_len {e : List Int} (h : powB e = true) : e.length = 4 := by
  unfold powB at h
  rw [Bool.and_eq_true] at h
  exact of_decide_eq_true h.1
set_option maxHeartbeats 2000000 in
set_option maxRecDepth 20000 in
theorem specPoly_any (a : Option Addr) (len cap : Nat) (p : List Mon) (w : World) (h : PSl w a len p) (hm : len ≤ 9223372036854775807) :
    Calls Tryz.prog 41 #[.slice a len cap] w fun e w' => e = .returned (.bool (polyB p)) ∧ Below w.heap.size w w' := by
  have hll := h.1
  go_enter Tryz.func41, Tryz.ntmps41
  go_wp2_with fail
  go_loopw [7] (fun i wr => ∃ k : Nat, k ≤ len ∧ i = .int .i64 (k : Int) ∧ Below w.heap.size w wr ∧ Hid (gpF (prevAt p k) (p.drop k) = gpF none p ∧ (0 < k → powB (p.getD (k - 1) ([], 0)).1 = true))) (fun i _ => len - (intOf i).toNat)
  case atStart => exact ⟨0, Nat.zero_le _, rfl, Below.refl _ _, rfl, fun h => absurd h (by omega)⟩
  case round =>
    obtain ⟨k, hk, rfl, hbr, hT⟩ := hrel
    by_cases hlt : k < len
    · have hw := h.keep hbr
      obtain ⟨b, off, rfl, hbl, hc⟩ := hw.at (by omega)
      obtain ⟨ai, li, ci, c1, hli, hci, hS, c2⟩ := hc k hlt
      have hst := gpF_drop p k (by omega)
      rw [hT.out.1] at hst
      have i1 : (k : Int) < len := by omega
      have hsz : ¬ b = wr.heap.size := by omega
      obtain ⟨W1, hW1⟩ : ∃ W1, wr.alloc (.cells #[.slice ai li ci, .int .i64 (p.getD k ([], 0)).2] 57) = W1 := ⟨_, rfl⟩
      have n0 : W1.cell? ⟨wr.heap.size, 0, none⟩ = some (.slice ai li ci) := by rw [← hW1]; simp [go_sem]
      have n1 : W1.cell? ⟨wr.heap.size, 1, none⟩ = some (.int .i64 (p.getD k ([], 0)).2) := by rw [← hW1]; simp [go_sem]
      have hb1 : Below wr.heap.size wr W1 := by rw [← hW1]; exact (Below.refl _ _).alloc (Nat.le_refl _) _
      have hB1 : Below w.heap.size w W1 := hbr.trans (hb1.mono hbr.size)
      have HP : Hid (∀ n, Calls Tryz.prog 76 #[.slice ai li ci] (W1.drewN n) fun e w' => e = .returned (.bool (powB (p.getD k ([], 0)).1)) ∧ w' = W1.drewN n) := fun n => pow_any ai li ci _ _ (hS.keep (hb1.trans (below_dr _ n))) hli
      have HSl : Hid (∀ n, Sl (W1.drewN n) ai li (p.getD k ([], 0)).1) := fun n => hS.keep (hb1.trans (below_dr _ n))
      have HFin : Hid (∀ n, Below w.heap.size w (W1.drewN n)) := fun n => hB1.trans (below_dr _ n)
      have hfp : ∀ b, fitM (prevAt p k) (p.getD k ([], 0)) = b → (b = false → polyB p = false) ∧ (b = true → gpF (prevAt p (k + 1)) (p.drop (k + 1)) = gpF none p) := fun b hb => by
        rw [hb] at hst
        refine ⟨fun e => ?_, fun e => ?_⟩
        · subst e; unfold polyB; rw [hst]; rfl
        · subst e; rw [hst]; rfl
      have HF := (show Hid _ from hfp)
      have hprev := hT.out.2
      have HC := (show Hid _ from hc)
      clear hfp hst hT hw
      cases hp : powB (p.getD k ([], 0)).1 with
      | false =>
        rw [hp] at HP
        have HV : Hid (polyB p = false) := (HF.out false (by unfold fitM; rw [hp]; rfl)).1 rfl
        generalize (p.getD k ([], 0)).2 = y at c2 n1 hW1
        clear HF hp HC hS hc HSl hprev
        go_wp2_with fail
        (try rw [hW1])
        go_quiet (exact Calls.quiet_of_same (HP.out _))
        go_wp2
        go_ret
        exact ⟨by rw [HV.out]; rfl, HFin.out _⟩
      | true =>
        rw [hp] at HP
        by_cases hN : (p.getD k ([], 0)).2 = 0
        · have HV : Hid (polyB p = false) := (HF.out false (by unfold fitM; rw [hp, hN]; rfl)).1 rfl
          have hy : ((p.getD k ([], 0)).2 == 0) = true := by rw [hN]; rfl
          generalize (p.getD k ([], 0)).2 = y at c2 n1 hW1 hy
          clear HF hp HC hS hc HSl hprev hN
          go_wp2_with fail
          (try rw [hW1])
          go_quiet (exact Calls.quiet_of_same (HP.out _))
          go_wp2
          go_ret
          exact ⟨by rw [HV.out]; rfl, HFin.out _⟩
        · have hy : ((p.getD k ([], 0)).2 == 0) = false := by simpa using hN
          have hy' : ((p.getD k ([], 0)).2 != 0) = true := by rw [bne, hy]; rfl
          by_cases hk0 : k = 0
          · have HN : Hid (gpF (prevAt p (k + 1)) (p.drop (k + 1)) = gpF none p ∧ (0 < k + 1 → powB (p.getD (k + 1 - 1) ([], 0)).1 = true)) := ⟨(HF.out true (by unfold fitM prevAt; rw [hp, hy', if_pos hk0]; rfl)).2 rfl, fun _ => by rw [show k + 1 - 1 = k from by omega]; exact hp⟩
            generalize (p.getD k ([], 0)).2 = y at c2 n1 hW1 hy
            clear HF hp HC hS hc HSl hprev hN hy'
            subst hk0
            rw [Nat.zero_mul, Nat.add_zero] at c1 c2
            go_wp2_with fail
            (try rw [hW1])
            go_quiet (exact Calls.quiet_of_same (HP.out _))
            go_wp2
            exact ⟨⟨0 + 1, by omega, by go_num, HFin.out _, HN⟩, by simp [intOf]; omega⟩
          · obtain ⟨j, rfl⟩ : ∃ j, k = j + 1 := ⟨k - 1, by omega⟩
            have hpj := hprev (by omega)
            rw [show j + 1 - 1 = j from by omega] at hpj
            obtain ⟨aj, lj, cj, d1, hlj, hcj, hSj, d2⟩ := HC.out j (by omega)
            have hl1 := pow_len hpj
            have hl2 := pow_len hp
            have e1 := hSj.1
            have e2 := hS.1
            have HCm : Hid (∀ n, Calls Tryz.prog 77 #[.slice aj lj cj, .slice ai li ci] (W1.drewN n) fun e w' => e = .returned (.int .i64 (cmpL (p.getD j ([], 0)).1 (p.getD (j + 1) ([], 0)).1)) ∧ ∃ m, w' = (W1.drewN n).drewN m) := fun n => cmp_any aj ai lj li cj ci _ _ _ (hSj.keep (hb1.trans (below_dr _ n))) (HSl.out n) (by omega) (by omega)
            have d1' : W1.cell? ⟨b, off + j * 2, none⟩ = some (.slice aj lj cj) := (hb1.cell (p := ⟨b, off + j * 2, none⟩) hbl).trans d1
            have hkk : decide ((0 : Int) < ((j + 1 : Nat) : Int)) = true := decide_eq_true (by omega)
            have hpv : prevAt p (j + 1) = some (p.getD j ([], 0)).1 := by unfold prevAt; rw [if_neg (by omega), show j + 1 - 1 = j from by omega]
            have HG : Hid (∀ c, cmpL (p.getD j ([], 0)).1 (p.getD (j + 1) ([], 0)).1 = c → (c ≤ 0 → polyB p = false) ∧ (¬ c ≤ 0 → gpF (prevAt p (j + 1 + 1)) (p.drop (j + 1 + 1)) = gpF none p)) := fun c hc' => by
              refine ⟨fun h0 => (HF.out false ?_).1 rfl, fun h0 => (HF.out true ?_).2 rfl⟩
              · unfold fitM; rw [hpv, hp, hy']; simp only []; rw [hc', decide_eq_false (by omega)]; rfl
              · unfold fitM; rw [hpv, hp, hy']; simp only []; rw [hc', decide_eq_true (by omega)]; rfl
            have HP2 : Hid (powB (p.getD (j + 1) ([], 0)).1 = true) := hp
            have jj : (j : Int) < len := by omega
            obtain ⟨c, hcv⟩ : ∃ c, cmpL (p.getD j ([], 0)).1 (p.getD (j + 1) ([], 0)).1 = c := ⟨_, rfl⟩
            have HG' := (show Hid _ from HG.out c hcv)
            rw [hcv] at HCm
            generalize (p.getD (j + 1) ([], 0)).2 = y at c2 n1 hW1 hy
            clear HF HC hS hSj hc HSl hprev hN hk0 hy' hp hpj d1 d2 hl1 hl2 e1 e2 hpv HG hcv
            by_cases h0 : c ≤ 0
            · have q0 : decide (c ≤ 0) = true := decide_eq_true h0
              have HV : Hid (polyB p = false) := HG'.out.1 h0
              clear HG' h0
              go_wp2_with fail
              (try rw [hW1])
              go_quiet (first | exact Calls.quiet_of_same (HP.out _) | exact Calls.quiet_of (HCm.out _))
              go_wp2
              go_ret
              exact ⟨by rw [HV.out]; rfl, HFin.out _⟩
            · have q0 : decide (c ≤ 0) = false := decide_eq_false h0
              have HN : Hid (gpF (prevAt p (j + 1 + 1)) (p.drop (j + 1 + 1)) = gpF none p ∧ (0 < j + 1 + 1 → powB (p.getD (j + 1 + 1 - 1) ([], 0)).1 = true)) := ⟨HG'.out.2 h0, fun _ => by rw [show j + 1 + 1 - 1 = j + 1 from by omega]; exact HP2.out⟩
              clear HG' h0
              go_wp2_with fail
              (try rw [hW1])
              go_quiet (first | exact Calls.quiet_of_same (HP.out _) | exact Calls.quiet_of (HCm.out _))
              go_wp2
              exact ⟨⟨j + 1 + 1, by omega, by go_num, HFin.out _, HN⟩, by simp [intOf]; omega⟩
    · obtain rfl : k = len := by omega
      have e0 : gpF none p = true := by rw [← hT.out.1, ← hll, List.drop_of_length_le (Nat.le_refl _)]; rfl
      have HE : Hid (polyB p = decide (p.length ≤ 40)) := by show _ = _; unfold polyB; rw [e0]; rfl
      clear hT e0
      by_cases h40 : k ≤ 40
      · have q : decide ((k : Int) ≤ 40) = true := by simp; omega
        have HV : Hid (polyB p = true) := by show _ = _; rw [HE.out]; exact decide_eq_true (by omega)
        clear h40
        go_wp2
        go_ret
        exact ⟨by rw [HV.out]; simp at q ⊢; try omega, hbr⟩
      · have q : decide ((k : Int) ≤ 40) = false := by simp; omega
        have HV : Hid (polyB p = false) := by show _ = _; rw [HE.out]; exact decide_eq_false (by omega)
        clear h40
        go_wp2
        go_ret
        exact ⟨by rw [HV.out]; simp at q ⊢; try omega, hbr⟩
end Go.Proofs.YtpjgjpjfchfmlaaGreatDoor
