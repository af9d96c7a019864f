/-
  PROVED HERE: how sums of products lie in memory; what the model's comparing and testing of powers answer. No other condition. what the model's GoodPoly answers, at every list of products. No other condition.
-/
import Derived.Test.YtpjgjpjfchfmlaaGreatDoorPolyPlain
import Derived.Test.YtpjgjpjfchfmlaaGreatDoorLists
import Derived.Test.YtpjgjpjfchfmlaaGreatDoorInFirst
namespace Go.Proofs.YtpjgjpjfchfmlaaGreatDoor
open Go.ChangeShapes Go.WideShapes Go.ChangeAt Go.RowKit
set_option linter.unusedVariables false

/-- The slice (a, len) of products holds the list p in the world w. -/
def PSl (w : World) (a : Option Addr) (len : Nat) (p : List Mon) : Prop :=
  p.length = len ∧ (len = 0 ∨ ∃ b off, a = some ⟨b, off, none⟩ ∧ b < w.heap.size ∧ ∀ i, i < len → ∃ ai li ci, w.cell? ⟨b, off + i * 2, none⟩ = some (.slice ai li ci) ∧ li ≤ 9223372036854775807 ∧ li ≤ ci ∧ Sl w ai li (p.getD i ([], 0)).1 ∧ w.cell? ⟨b, off + i * 2 + 1, none⟩ = some (.int .i64 (p.getD i ([], 0)).2))
theorem PSl.keep {w w' : World} {a : Option Addr} {len : Nat} {p : List Mon} (h : PSl w a len p) (hb : Below w.heap.size w w') : PSl w' a len p := by
  refine ⟨h.1, ?_⟩
  rcases h.2 with h0 | ⟨b, off, ha, hlt, hc⟩
  · exact .inl h0
  · refine .inr ⟨b, off, ha, Nat.lt_of_lt_of_le hlt hb.size, fun i hi => ?_⟩
    obtain ⟨ai, li, ci, h1, h2, h3, h4, h5⟩ := hc i hi
    exact ⟨ai, li, ci, (hb.cell (p := ⟨b, off + i * 2, none⟩) hlt).trans h1, h2, h3, h4.keep hb, (hb.cell (p := ⟨b, off + i * 2 + 1, none⟩) hlt).trans h5⟩
theorem PSl.at {w : World} {a : Option Addr} {len : Nat} {p : List Mon} (h : PSl w a len p) (h0 : 0 < len) :
    ∃ b off, a = some ⟨b, off, none⟩ ∧ b < w.heap.size ∧ ∀ i, i < len → ∃ ai li ci, w.cell? ⟨b, off + i * 2, none⟩ = some (.slice ai li ci) ∧ li ≤ 9223372036854775807 ∧ li ≤ ci ∧ Sl w ai li (p.getD i ([], 0)).1 ∧ w.cell? ⟨b, off + i * 2 + 1, none⟩ = some (.int .i64 (p.getD i ([], 0)).2) := by
  rcases h.2 with h1 | h1
  · omega
  · exact h1
theorem cmp_drop (a b : List Int) (k : Nat) (ha : k < a.length) (hb : k < b.length) : cmpL (a.drop k) (b.drop k) = if a.getD k 0 < b.getD k 0 then -1 else if b.getD k 0 < a.getD k 0 then 1 else cmpL (a.drop (k + 1)) (b.drop (k + 1)) := by
  rw [List.drop_eq_getElem_cons ha, List.drop_eq_getElem_cons hb]
  have e1 : a.getD k 0 = a[k] := by rw [List.getD_eq_getElem?_getD, List.getElem?_eq_getElem ha]; rfl
  have e2 : b.getD k 0 = b[k] := by rw [List.getD_eq_getElem?_getD, List.getElem?_eq_getElem hb]; rfl
  rw [e1, e2]; rfl
theorem cmp_end (a b : List Int) : cmpL (a.drop a.length) b = 0 := by
  rw [List.drop_of_length_le (Nat.le_refl _)]
  cases b <;> rfl
set_option maxHeartbeats 1600000 in
theorem cmp_any (a b : Option Addr) (la lb ca cb : Nat) (ea eb : List Int) (w : World) (ha : Sl w a la ea) (hb : Sl w b lb eb) (hl : la ≤ lb) (hm : lb ≤ 1048576) :
    Calls Tryz.prog 77 #[.slice a la ca, .slice b lb cb] w fun e w' => e = .returned (.int .i64 (cmpL ea eb)) ∧ ∃ n, w' = w.drewN n := by
  have hla := ha.1
  have hlb := hb.1
  go_enter Tryz.func77, Tryz.ntmps77
  go_wp2_with fail
  go_loopw [8] (fun i wr => ∃ k : Nat, k ≤ la ∧ i = .int .i64 (k : Int) ∧ (∃ n, wr = w.drewN n) ∧ Hid (cmpL (ea.drop k) (eb.drop k) = cmpL ea eb)) (fun i _ => la - (intOf i).toNat)
  case atStart => exact ⟨0, Nat.zero_le _, rfl, ⟨0, rfl⟩, rfl⟩
  case round =>
    obtain ⟨k, hk, rfl, ⟨n, rfl⟩, hT⟩ := hrel
    by_cases hlt : k < la
    · obtain ⟨b1, o1, rfl, hc1⟩ := cells_of ha (by omega)
      obtain ⟨b2, o2, rfl, hc2⟩ := cells_of hb (by omega)
      have c1 := hc1 k hlt
      have c2 := hc2 k (by omega)
      have hst := cmp_drop ea eb k (by omega) (by omega)
      rw [hT.out] at hst
      have HS : Hid (cmpL ea eb = if ea.getD k 0 < eb.getD k 0 then -1 else if eb.getD k 0 < ea.getD k 0 then 1 else cmpL (ea.drop (k + 1)) (eb.drop (k + 1))) := hst
      clear hst hT hc1 hc2 ha hb
      generalize ea.getD k 0 = x at c1 HS
      generalize eb.getD k 0 = y at c2 HS
      have i1 : (k : Int) < la := by omega
      have i2 : (k : Int) < lb := by omega
      by_cases h1 : x < y
      · have q1 : decide (x < y) = true := decide_eq_true h1
        have HV : Hid (cmpL ea eb = -1) := by have := HS.out; rw [if_pos h1] at this; exact this
        clear h1
        go_wp2
        go_quiet (fail)
        go_wp2
        go_ret
        exact ⟨by rw [HV.out]; rfl, _, by rw [World.drewN_drewN]⟩
      · have q1 : decide (x < y) = false := decide_eq_false h1
        by_cases h2 : y < x
        · have q2 : decide (y < x) = true := decide_eq_true h2
          have HV : Hid (cmpL ea eb = 1) := by have := HS.out; rw [if_neg h1, if_pos h2] at this; exact this
          clear h1 h2
          go_wp2
          go_quiet (fail)
          revert nq; intro q3
          go_wp2
          go_quiet (fail)
          go_wp2
          go_ret
          exact ⟨by rw [HV.out]; rfl, _, by rw [World.drewN_drewN, World.drewN_drewN]⟩
        · have q2 : decide (y < x) = false := decide_eq_false h2
          have HN : Hid (cmpL (ea.drop (k + 1)) (eb.drop (k + 1)) = cmpL ea eb) := by have := HS.out; rw [if_neg h1, if_neg h2] at this; exact this.symm
          clear h1 h2
          go_wp2
          go_quiet (fail)
          revert nq; intro q3
          go_wp2
          go_quiet (fail)
          go_wp2
          exact ⟨⟨k + 1, by omega, by go_num, ⟨_, rfl⟩, HN⟩, by simp [intOf]; omega⟩
    · obtain rfl : k = la := by omega
      have e0 : cmpL ea eb = 0 := by
        rw [← hT.out, ← hla]; exact cmp_end ea _
      clear hT
      go_wp2
      go_ret
      exact ⟨by rw [e0]; rfl, _, rfl⟩
/-- All within bounds. -/
def allB (lo hi : Int) (l : List Int) : Bool := l.all fun n => decide (lo ≤ n) && decide (n ≤ hi)
theorem allB_drop (lo hi : Int) (l : List Int) (k : Nat) (h : k < l.length) : allB lo hi (l.drop k) = ((decide (lo ≤ l.getD k 0) && decide (l.getD k 0 ≤ hi)) && allB lo hi (l.drop (k + 1))) := by
  rw [List.drop_eq_getElem_cons h]
  have e1 : l.getD k 0 = l[k] := by rw [List.getD_eq_getElem?_getD, List.getElem?_eq_getElem h]; rfl
  rw [e1]; rfl
theorem all_any4 (a : Option Addr) (la ca : Nat) (ea : List Int) (lo hi : Int) (w : World) (ha : Sl w a la ea) (hm : la ≤ 9223372036854775807) :
    Calls Tryz.prog 96 #[.slice a la ca, .int .i64 lo, .int .i64 hi] w fun e w' => e = .returned (.bool (allB lo hi ea)) ∧ w' = w := by
  have hla := ha.1
  go_enter Tryz.func96, Tryz.ntmps96
  go_wp2_with fail
  go_loopw [11] (fun i wr => ∃ k : Nat, k ≤ la ∧ i = .int .i64 (k : Int) ∧ wr = w ∧ Hid (allB lo hi (ea.drop k) = allB lo hi ea)) (fun i _ => la - (intOf i).toNat)
  case atStart => exact ⟨0, Nat.zero_le _, rfl, rfl, rfl⟩
  case round =>
    obtain ⟨k, hk, rfl, rfl, hT⟩ := hrel
    by_cases hlt : k < la
    · obtain ⟨b1, o1, rfl, hc1⟩ := cells_of ha (by omega)
      have c1 := hc1 k hlt
      have hst := allB_drop lo hi ea k (by omega)
      rw [hT.out] at hst
      have HS : Hid (allB lo hi ea = ((decide (lo ≤ ea.getD k 0) && decide (ea.getD k 0 ≤ hi)) && allB lo hi (ea.drop (k + 1)))) := hst
      clear hst hT hc1 ha
      generalize ea.getD k 0 = x at c1 HS
      have i1 : (k : Int) < la := by omega
      by_cases hx : lo ≤ x ∧ x ≤ hi
      · have C := (show Hid _ from in_yes x lo hi wr hx.1 hx.2)
        have HN : Hid (allB lo hi (ea.drop (k + 1)) = allB lo hi ea) := by have := HS.out; rw [decide_eq_true hx.1, decide_eq_true hx.2] at this; exact this.symm
        clear hx HS
        go_wp2_with fail
        refine Calls.mono C.out ?_
        rintro e w1 ⟨rfl, rfl⟩
        clear C
        go_wp2
        exact ⟨⟨k + 1, by omega, by go_num, by first | trivial | rfl, HN⟩, by simp [intOf]; omega⟩
      · have C := (show Hid _ from in_no x lo hi wr (by omega))
        have HN : Hid (allB lo hi ea = false) := by
          have := HS.out
          show _ = _
          rw [this]
          by_cases h1 : lo ≤ x
          · rw [decide_eq_false (show ¬ x ≤ hi by omega)]; simp
          · rw [decide_eq_false h1]; rfl
        clear hx HS
        go_wp2_with fail
        refine Calls.mono C.out ?_
        rintro e w1 ⟨rfl, rfl⟩
        clear C
        go_wp2
        go_ret
        exact ⟨by rw [HN.out]; rfl, rfl⟩
    · obtain rfl : k = la := by omega
      have e0 : allB lo hi ea = true := by
        rw [← hT.out, ← hla, List.drop_of_length_le (Nat.le_refl _)]; rfl
      clear hT
      go_wp2
      go_ret
      exact ⟨by rw [e0]; rfl, rfl⟩
/-- Powers as a product has them. -/
def powB (e : List Int) : Bool := decide (e.length = 4) && allB 0 9 e
theorem pow_any (a : Option Addr) (la ca : Nat) (ea : List Int) (w : World) (ha : Sl w a la ea) (hm : la ≤ 9223372036854775807) :
    Calls Tryz.prog 76 #[.slice a la ca] w fun e w' => e = .returned (.bool (powB ea)) ∧ w' = w := by
  have C := (show Hid _ from all_any4 a la ca ea 0 9 w ha hm)
  have hla := ha.1
  clear ha
  unfold powB
  rw [hla]
  generalize allB 0 9 ea = B at C ⊢
  by_cases h : la = 4
  · subst h
    go_enter Tryz.func76, Tryz.ntmps76
    go_wp2_with fail
    refine Calls.mono C.out ?_
    rintro e w1 ⟨rfl, rfl⟩
    go_wp2
    go_ret
    exact ⟨by simp, rfl⟩
  · rw [decide_eq_false h]
    have h' : ((la : Int) == 4) = false := by simp; omega
    clear C
    go_enter Tryz.func76, Tryz.ntmps76
    go_wp2
    go_ret
    exact ⟨rfl, rfl⟩
end Go.Proofs.YtpjgjpjfchfmlaaGreatDoor
namespace Go.Proofs.YtpjgjpjfchfmlaaGreatDoor
open Go.ChangeShapes Go.WideShapes Go.ChangeAt Go.RowKit
set_option linter.unusedVariables false

/-- Does a product fit behind what lies ahead? -/
def fitM (prev : Option (List Int)) (m : Mon) : Bool := powB m.1 && (m.2 != 0) && (match prev with | some e => decide (0 < cmpL e m.1) | none => true)
theorem below_dr {k : Nat} (w : World) (n : Nat) : Below k w (w.drewN n) := by
  refine ⟨?_, ?_, ?_, ?_, ?_⟩ <;> first | rfl | exact Nat.le_refl _ | (intro j hj; rfl)
def gpF : Option (List Int) → List Mon → Bool
  | _, [] => true
  | prev, m :: r => fitM prev m && gpF (some m.1) r
def polyB (p : List Mon) : Bool := gpF none p && decide (p.length ≤ 40)
def prevAt (p : List Mon) (k : Nat) : Option (List Int) := if k = 0 then none else some (p.getD (k - 1) ([], 0)).1
theorem gpF_drop (p : List Mon) (k : Nat) (h : k < p.length) : gpF (prevAt p k) (p.drop k) = (fitM (prevAt p k) (p.getD k ([], 0)) && gpF (prevAt p (k + 1)) (p.drop (k + 1))) := by
  rw [List.drop_eq_getElem_cons h]
  have e : p.getD k ([], 0) = p[k] := by rw [List.getD_eq_getElem?_getD, List.getElem?_eq_getElem h]; rfl
  have e2 : prevAt p (k + 1) = some (p[k]).1 := by unfold prevAt; rw [if_neg (by omega), show k + 1 - 1 = k from by omega, e]
  rw [e, e2]; rfl
theorem pow_len {e : List Int} (h : powB e = true) : e.length = 4 := by
  unfold powB at h
  rw [Bool.and_eq_true] at h
  exact of_decide_eq_true h.1
set_option maxHeartbeats 2000000 in
set_option maxRecDepth 20000 in
theorem specPoly_any (a : Option Addr) (len cap : Nat) (p : List Mon) (w : World) (h : PSl w a len p) (hm : len ≤ 9223372036854775807) :
    Calls Tryz.prog 41 #[.slice a len cap] w fun e w' => e = .returned (.bool (polyB p)) ∧ Below w.heap.size w w' := by
  have hll := h.1
  go_enter Tryz.func41, Tryz.ntmps41
  go_wp2_with fail
  go_loopw [7] (fun i wr => ∃ k : Nat, k ≤ len ∧ i = .int .i64 (k : Int) ∧ Below w.heap.size w wr ∧ Hid (gpF (prevAt p k) (p.drop k) = gpF none p ∧ (0 < k → powB (p.getD (k - 1) ([], 0)).1 = true))) (fun i _ => len - (intOf i).toNat)
  case atStart => exact ⟨0, Nat.zero_le _, rfl, Below.refl _ _, rfl, fun h => absurd h (by omega)⟩
  case round =>
    obtain ⟨k, hk, rfl, hbr, hT⟩ := hrel
    by_cases hlt : k < len
    · have hw := h.keep hbr
      obtain ⟨b, off, rfl, hbl, hc⟩ := hw.at (by omega)
      obtain ⟨ai, li, ci, c1, hli, hci, hS, c2⟩ := hc k hlt
      have hst := gpF_drop p k (by omega)
      rw [hT.out.1] at hst
      have i1 : (k : Int) < len := by omega
      have hsz : ¬ b = wr.heap.size := by omega
      obtain ⟨W1, hW1⟩ : ∃ W1, wr.alloc (.cells #[.slice ai li ci, .int .i64 (p.getD k ([], 0)).2] 57) = W1 := ⟨_, rfl⟩
      have n0 : W1.cell? ⟨wr.heap.size, 0, none⟩ = some (.slice ai li ci) := by rw [← hW1]; simp [go_sem]
      have n1 : W1.cell? ⟨wr.heap.size, 1, none⟩ = some (.int .i64 (p.getD k ([], 0)).2) := by rw [← hW1]; simp [go_sem]
      have hb1 : Below wr.heap.size wr W1 := by rw [← hW1]; exact (Below.refl _ _).alloc (Nat.le_refl _) _
      have hB1 : Below w.heap.size w W1 := hbr.trans (hb1.mono hbr.size)
      have HP : Hid (∀ n, Calls Tryz.prog 76 #[.slice ai li ci] (W1.drewN n) fun e w' => e = .returned (.bool (powB (p.getD k ([], 0)).1)) ∧ w' = W1.drewN n) := fun n => pow_any ai li ci _ _ (hS.keep (hb1.trans (below_dr _ n))) hli
      have HSl : Hid (∀ n, Sl (W1.drewN n) ai li (p.getD k ([], 0)).1) := fun n => hS.keep (hb1.trans (below_dr _ n))
      have HFin : Hid (∀ n, Below w.heap.size w (W1.drewN n)) := fun n => hB1.trans (below_dr _ n)
      have hfp : ∀ b, fitM (prevAt p k) (p.getD k ([], 0)) = b → (b = false → polyB p = false) ∧ (b = true → gpF (prevAt p (k + 1)) (p.drop (k + 1)) = gpF none p) := fun b hb => by
        rw [hb] at hst
        refine ⟨fun e => ?_, fun e => ?_⟩
        · subst e; unfold polyB; rw [hst]; rfl
        · subst e; rw [hst]; rfl
      have HF := (show Hid _ from hfp)
      have hprev := hT.out.2
      have HC := (show Hid _ from hc)
      clear hfp hst hT hw
      cases hp : powB (p.getD k ([], 0)).1 with
      | false =>
        rw [hp] at HP
        have HV : Hid (polyB p = false) := (HF.out false (by unfold fitM; rw [hp]; rfl)).1 rfl
        generalize (p.getD k ([], 0)).2 = y at c2 n1 hW1
        clear HF hp HC hS hc HSl hprev
        go_wp2_with fail
        (try rw [hW1])
        go_quiet (exact Calls.quiet_of_same (HP.out _))
        go_wp2
        go_ret
        exact ⟨by rw [HV.out]; rfl, HFin.out _⟩
      | true =>
        rw [hp] at HP
        by_cases hN : (p.getD k ([], 0)).2 = 0
        · have HV : Hid (polyB p = false) := (HF.out false (by unfold fitM; rw [hp, hN]; rfl)).1 rfl
          have hy : ((p.getD k ([], 0)).2 == 0) = true := by rw [hN]; rfl
          generalize (p.getD k ([], 0)).2 = y at c2 n1 hW1 hy
          clear HF hp HC hS hc HSl hprev hN
          go_wp2_with fail
          (try rw [hW1])
          go_quiet (exact Calls.quiet_of_same (HP.out _))
          go_wp2
          go_ret
          exact ⟨by rw [HV.out]; rfl, HFin.out _⟩
        · have hy : ((p.getD k ([], 0)).2 == 0) = false := by simpa using hN
          have hy' : ((p.getD k ([], 0)).2 != 0) = true := by rw [bne, hy]; rfl
          by_cases hk0 : k = 0
          · have HN : Hid (gpF (prevAt p (k + 1)) (p.drop (k + 1)) = gpF none p ∧ (0 < k + 1 → powB (p.getD (k + 1 - 1) ([], 0)).1 = true)) := ⟨(HF.out true (by unfold fitM prevAt; rw [hp, hy', if_pos hk0]; rfl)).2 rfl, fun _ => by rw [show k + 1 - 1 = k from by omega]; exact hp⟩
            generalize (p.getD k ([], 0)).2 = y at c2 n1 hW1 hy
            clear HF hp HC hS hc HSl hprev hN hy'
            subst hk0
            rw [Nat.zero_mul, Nat.add_zero] at c1 c2
            go_wp2_with fail
            (try rw [hW1])
            go_quiet (exact Calls.quiet_of_same (HP.out _))
            go_wp2
            exact ⟨⟨0 + 1, by omega, by go_num, HFin.out _, HN⟩, by simp [intOf]; omega⟩
          · obtain ⟨j, rfl⟩ : ∃ j, k = j + 1 := ⟨k - 1, by omega⟩
            have hpj := hprev (by omega)
            rw [show j + 1 - 1 = j from by omega] at hpj
            obtain ⟨aj, lj, cj, d1, hlj, hcj, hSj, d2⟩ := HC.out j (by omega)
            have hl1 := pow_len hpj
            have hl2 := pow_len hp
            have e1 := hSj.1
            have e2 := hS.1
            have HCm : Hid (∀ n, Calls Tryz.prog 77 #[.slice aj lj cj, .slice ai li ci] (W1.drewN n) fun e w' => e = .returned (.int .i64 (cmpL (p.getD j ([], 0)).1 (p.getD (j + 1) ([], 0)).1)) ∧ ∃ m, w' = (W1.drewN n).drewN m) := fun n => cmp_any aj ai lj li cj ci _ _ _ (hSj.keep (hb1.trans (below_dr _ n))) (HSl.out n) (by omega) (by omega)
            have d1' : W1.cell? ⟨b, off + j * 2, none⟩ = some (.slice aj lj cj) := (hb1.cell (p := ⟨b, off + j * 2, none⟩) hbl).trans d1
            have hkk : decide ((0 : Int) < ((j + 1 : Nat) : Int)) = true := decide_eq_true (by omega)
            have hpv : prevAt p (j + 1) = some (p.getD j ([], 0)).1 := by unfold prevAt; rw [if_neg (by omega), show j + 1 - 1 = j from by omega]
            have HG : Hid (∀ c, cmpL (p.getD j ([], 0)).1 (p.getD (j + 1) ([], 0)).1 = c → (c ≤ 0 → polyB p = false) ∧ (¬ c ≤ 0 → gpF (prevAt p (j + 1 + 1)) (p.drop (j + 1 + 1)) = gpF none p)) := fun c hc' => by
              refine ⟨fun h0 => (HF.out false ?_).1 rfl, fun h0 => (HF.out true ?_).2 rfl⟩
              · unfold fitM; rw [hpv, hp, hy']; simp only []; rw [hc', decide_eq_false (by omega)]; rfl
              · unfold fitM; rw [hpv, hp, hy']; simp only []; rw [hc', decide_eq_true (by omega)]; rfl
            have HP2 : Hid (powB (p.getD (j + 1) ([], 0)).1 = true) := hp
            have jj : (j : Int) < len := by omega
            obtain ⟨c, hcv⟩ : ∃ c, cmpL (p.getD j ([], 0)).1 (p.getD (j + 1) ([], 0)).1 = c := ⟨_, rfl⟩
            have HG' := (show Hid _ from HG.out c hcv)
            rw [hcv] at HCm
            generalize (p.getD (j + 1) ([], 0)).2 = y at c2 n1 hW1 hy
            clear HF HC hS hSj hc HSl hprev hN hk0 hy' hp hpj d1 d2 hl1 hl2 e1 e2 hpv HG hcv
            by_cases h0 : c ≤ 0
            · have q0 : decide (c ≤ 0) = true := decide_eq_true h0
              have HV : Hid (polyB p = false) := HG'.out.1 h0
              clear HG' h0
              go_wp2_with fail
              (try rw [hW1])
              go_quiet (first | exact Calls.quiet_of_same (HP.out _) | exact Calls.quiet_of (HCm.out _))
              go_wp2
              go_ret
              exact ⟨by rw [HV.out]; rfl, HFin.out _⟩
            · have q0 : decide (c ≤ 0) = false := decide_eq_false h0
              have HN : Hid (gpF (prevAt p (j + 1 + 1)) (p.drop (j + 1 + 1)) = gpF none p ∧ (0 < j + 1 + 1 → powB (p.getD (j + 1 + 1 - 1) ([], 0)).1 = true)) := ⟨HG'.out.2 h0, fun _ => by rw [show j + 1 + 1 - 1 = j + 1 from by omega]; exact HP2.out⟩
              clear HG' h0
              go_wp2_with fail
              (try rw [hW1])
              go_quiet (first | exact Calls.quiet_of_same (HP.out _) | exact Calls.quiet_of (HCm.out _))
              go_wp2
              exact ⟨⟨j + 1 + 1, by omega, by go_num, HFin.out _, HN⟩, by simp [intOf]; omega⟩
    · obtain rfl : k = len := by omega
      have e0 : gpF none p = true := by rw [← hT.out.1, ← hll, List.drop_of_length_le (Nat.le_refl _)]; rfl
      have HE : Hid (polyB p = decide (p.length ≤ 40)) := by show _ = _; unfold polyB; rw [e0]; rfl
      clear hT e0
      by_cases h40 : k ≤ 40
      · have q : decide ((k : Int) ≤ 40) = true := by simp; omega
        have HV : Hid (polyB p = true) := by show _ = _; rw [HE.out]; exact decide_eq_true (by omega)
        clear h40
        go_wp2
        go_ret
        exact ⟨by rw [HV.out]; simp at q ⊢; try omega, hbr⟩
      · have q : decide ((k : Int) ≤ 40) = false := by simp; omega
        have HV : Hid (polyB p = false) := by show _ = _; rw [HE.out]; exact decide_eq_false (by omega)
        clear h40
        go_wp2
        go_ret
        exact ⟨by rw [HV.out]; simp at q ⊢; try omega, hbr⟩
end Go.Proofs.YtpjgjpjfchfmlaaGreatDoor
