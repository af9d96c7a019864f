/-
  PROVED HERE: how sums of products lie in memory; what the model's comparing and testing of powers answer. No other condition.
-/
import Derived.Test.YtpjgjpjfchfmlaaGreatDoorPolyPlain
import Derived.Test.YtpjgjpjfchfmlaaGreatDoorLists
import Derived.Test.YtpjgjpjfchfmlaaGreatDoorIn
namespace Go.Proofs.YtpjgjpjfchfmlaaGreatDoor
open Go.ChangeShapes Go.WideShapes Go.ChangeAt Go.RowKit
set_option linter.unusedVariables false

/-- The slice (a, len) of products holds the list p in the world w. -/
def PSl (w : World) (a : Option Addr) (len : Nat) (p : List Mon) : Prop :=
  p.length = len ∧ (len = 0 ∨ ∃ b off, a = some ⟨b, off, none⟩ ∧ b < w.heap.size ∧ ∀ i, i < len → ∃ ai li ci, w.cell? ⟨b, off + i * 2, none⟩ = some (.slice ai li ci) ∧ li ≤ 9223372036854775807 ∧ li ≤ ci ∧ Sl w ai li (p.getD i ([], 0)).1 ∧ w.cell? ⟨b, off + i * 2 + 1, none⟩ = some (.int .i64 (p.getD i ([], 0)).2))
theorem PSl.keep {w w' : World} {a : Option Addr} {len : Nat} {p : List Mon} (h : PSl w a len p) (hb : Below w.heap.size w w') : PSl w' a len p := by
  refine ⟨h.1, ?_⟩
  rcases h.2 with h0 | ⟨b, off, ha, hlt, hc⟩
  · exact .inl h0
  · refine .inr ⟨b, off, ha, Nat.lt_of_lt_of_le hlt hb.size, fun i hi => ?_⟩
    obtain ⟨ai, li, ci, h1, h2, h3, h4, h5⟩ := hc i hi
    exact ⟨ai, li, ci, (hb.cell (p := ⟨b, off + i * 2, none⟩) hlt).trans h1, h2, h3, h4.keep hb, (hb.cell (p := ⟨b, off + i * 2 + 1, none⟩) hlt).trans h5⟩
theorem PSl.at {w : World} {a : Option Addr} {len : Nat} {p : List Mon} (h : PSl w a len p) (h0 : 0 < len) :
    ∃ b off, a = some ⟨b, off, none⟩ ∧ b < w.heap.size ∧ ∀ i, i < len → ∃ ai li ci, w.cell? ⟨b, off + i * 2, none⟩ = some (.slice ai li ci) ∧ li ≤ 9223372036854775807 ∧ li ≤ ci ∧ Sl w ai li (p.getD i ([], 0)).1 ∧ w.cell? ⟨b, off + i * 2 + 1, none⟩ = some (.int .i64 (p.getD i ([], 0)).2) := by
  rcases h.2 with h1 | h1
  · omega
  · exact h1
theorem cmp_drop (a b : List Int) (k : Nat) (ha : k < a.length) (hb : k < b.length) : cmpL (a.drop k) (b.drop k) = if a.getD k 0 < b.getD k 0 then -1 else if b.getD k 0 < a.getD k 0 then 1 else cmpL (a.drop (k + 1)) (b.drop (k + 1)) := by
  rw [List.drop_eq_getElem_cons ha, List.drop_eq_getElem_cons hb]
  have e1 : a.getD k 0 = a[k] := by rw [List.getD_eq_getElem?_getD, List.getElem?_eq_getElem ha]; rfl
  have e2 : b.getD k 0 = b[k] := by rw [List.getD_eq_getElem?_getD, List.getElem?_eq_getElem hb]; rfl
  rw [e1, e2]; rfl
theorem cmp_end (a b : List Int) : cmpL (a.drop a.length) b = 0 := by
  rw [List.drop_of_length_le (Nat.le_refl _)]
  cases b <;> rfl
set_option maxHeartbeats 1600000 in
theorem cmp_any (a b : Option Addr) (la lb ca cb : Nat) (ea eb : List Int) (w : World) (ha : Sl w a la ea) (hb : Sl w b lb eb) (hl : la ≤ lb) (hm : lb ≤ 1048576) :
    Calls Tryz.prog 77 #[.slice a la ca, .slice b lb cb] w fun e w' => e = .returned (.int .i64 (cmpL ea eb)) ∧ ∃ n, w' = w.drewN n := by
  have hla := ha.1
  have hlb := hb.1
  go_enter Tryz.func77, Tryz.ntmps77
  go_wp2_with fail
  go_loopw [8] (fun i wr => ∃ k : Nat, k ≤ la ∧ i = .int .i64 (k : Int) ∧ (∃ n, wr = w.drewN n) ∧ Hid (cmpL (ea.drop k) (eb.drop k) = cmpL ea eb)) (fun i _ => la - (intOf i).toNat)
  case atStart => exact ⟨0, Nat.zero_le _, rfl, ⟨0, rfl⟩, rfl⟩
  case round =>
    obtain ⟨k, hk, rfl, ⟨n, rfl⟩, hT⟩ := hrel
    by_cases hlt : k < la
    · obtain ⟨b1, o1, rfl, hc1⟩ := cells_of ha (by omega)
      obtain ⟨b2, o2, rfl, hc2⟩ := cells_of hb (by omega)
      have c1 := hc1 k hlt
      have c2 := hc2 k (by omega)
      have hst := cmp_drop ea eb k (by omega) (by omega)
      rw [hT.out] at hst
      have HS : Hid (cmpL ea eb = if ea.getD k 0 < eb.getD k 0 then -1 else if eb.getD k 0 < ea.getD k 0 then 1 else cmpL (ea.drop (k + 1)) (eb.drop (k + 1))) := hst
      clear hst hT hc1 hc2 ha hb
      generalize ea.getD k 0 = x at c1 HS
      generalize eb.getD k 0 = y at c2 HS
      have i1 : (k : Int) < la := by omega
      have i2 : (k : Int) < lb := by omega
      by_cases h1 : x < y
      · have q1 : decide (x < y) = true := decide_eq_true h1
        have HV : Hid (cmpL ea eb = -1) := by have := HS.out; rw [if_pos h1] at this; exact this
        clear h1
        go_wp2
        go_quiet (fail)
        go_wp2
        go_ret
        exact ⟨by rw [HV.out]; rfl, _, by rw [World.drewN_drewN]⟩
      · have q1 : decide (x < y) = false := decide_eq_false h1
        by_cases h2 : y < x
        · have q2 : decide (y < x) = true := decide_eq_true h2
          have HV : Hid (cmpL ea eb = 1) := by have := HS.out; rw [if_neg h1, if_pos h2] at this; exact this
          clear h1 h2
          go_wp2
          go_quiet (fail)
          revert nq; intro q3
          go_wp2
          go_quiet (fail)
          go_wp2
          go_ret
          exact ⟨by rw [HV.out]; rfl, _, by rw [World.drewN_drewN, World.drewN_drewN]⟩
        · have q2 : decide (y < x) = false := decide_eq_false h2
          have HN : Hid (cmpL (ea.drop (k + 1)) (eb.drop (k + 1)) = cmpL ea eb) := by have := HS.out; rw [if_neg h1, if_neg h2] at this; exact this.symm
          clear h1 h2
          go_wp2
          go_quiet (fail)
          revert nq; intro q3
          go_wp2
          go_quiet (fail)
          go_wp2
          exact ⟨⟨k + 1, by omega, by go_num, ⟨_, rfl⟩, HN⟩, by simp [intOf]; omega⟩
    · obtain rfl : k = la := by omega
      have e0 : cmpL ea eb = 0 := by
        rw [← hT.out, ← hla]; exact cmp_end ea _
      clear hT
      go_wp2
      go_ret
      exact ⟨by rw [e0]; rfl, _, rfl⟩
/-- All within bounds. -/
def allB (lo hi : Int) (l : List Int) : Bool := l.all fun n => decide (lo ≤ n) && decide (n ≤ hi)
theorem allB_drop (lo hi : Int) (l : List Int) (k : Nat) (h : k < l.length) : allB lo hi (l.drop k) = ((decide (lo ≤ l.getD k 0) && decide (l.getD k 0 ≤ hi)) && allB lo hi (l.drop (k + 1))) := by
  rw [List.drop_eq_getElem_cons h]
  have e1 : l.getD k 0 = l[k] := by rw [List.getD_eq_getElem?_getD, List.getElem?_eq_getElem h]; rfl
  rw [e1]; rfl
theorem all_any4 (a : Option Addr) (la ca : Nat) (ea : List Int) (lo hi : Int) (w : World) (ha : Sl w a la ea) (hm : la ≤ 9223372036854775807) :
    Calls Tryz.prog 96 #[.slice a la ca, .int .i64 lo, .int .i64 hi] w fun e w' => e = .returned (.bool (allB lo hi ea)) ∧ w' = w := by
  have hla := ha.1
  go_enter Tryz.func96, Tryz.ntmps96
  go_wp2_with fail
  go_loopw [11] (fun i wr => ∃ k : Nat, k ≤ la ∧ i = .int .i64 (k : Int) ∧ wr = w ∧ Hid (allB lo hi (ea.drop k) = allB lo hi ea)) (fun i _ => la - (intOf i).toNat)
  case atStart => exact ⟨0, Nat.zero_le _, rfl, rfl, rfl⟩
  case round =>
    obtain ⟨k, hk, rfl, rfl, hT⟩ := hrel
    by_cases hlt : k < la
    · obtain ⟨b1, o1, rfl, hc1⟩ := cells_of ha (by omega)
      have c1 := hc1 k hlt
      have hst := allB_drop lo hi ea k (by omega)
      rw [hT.out] at hst
      have HS : Hid (allB lo hi ea = ((decide (lo ≤ ea.getD k 0) && decide (ea.getD k 0 ≤ hi)) && allB lo hi (ea.drop (k + 1)))) := hst
      clear hst hT hc1 ha
      generalize ea.getD k 0 = x at c1 HS
      have i1 : (k : Int) < la := by omega
      by_cases hx : lo ≤ x ∧ x ≤ hi
      · have C := (show Hid _ from in_yes x lo hi wr hx.1 hx.2)
        have HN : Hid (allB lo hi (ea.drop (k + 1)) = allB lo hi ea) := by have := HS.out; rw [decide_eq_true hx.1, decide_eq_true hx.2] at this; exact this.symm
        clear hx HS
        go_wp2_with fail
        refine Calls.mono C.out ?_
        rintro e w1 ⟨rfl, rfl⟩
        clear C
        go_wp2
        exact ⟨⟨k + 1, by omega, by go_num, by first | trivial | rfl, HN⟩, by simp [intOf]; omega⟩
      · have C := (show Hid _ from in_no x lo hi wr (by omega))
        have HN : Hid (allB lo hi ea = false) := by
          have := HS.out
          show _ = _
          rw [this]
          by_cases h1 : lo ≤ x
          · rw [decide_eq_false (show ¬ x ≤ hi by omega)]; simp
          · rw [decide_eq_false h1]; rfl
        clear hx HS
        go_wp2_with fail
        refine Calls.mono C.out ?_
        rintro e w1 ⟨rfl, rfl⟩
        clear C
        go_wp2
        go_ret
        exact ⟨by rw [HN.out]; rfl, rfl⟩
    · obtain rfl : k = la := by omega
      have e0 : allB lo hi ea = true := by
        rw [← hT.out, ← hla, List.drop_of_length_le (Nat.le_refl _)]; rfl
      clear hT
      go_wp2
      go_ret
      exact ⟨by rw [e0]; rfl, rfl⟩
/-- Powers as a product has them. -/
def powB (e : List Int) : Bool := decide (e.length = 4) && allB 0 9 e
theorem pow_any (a : Option Addr) (la ca : Nat) (ea : List Int) (w : World) (ha : Sl w a la ea) (hm : la ≤ 9223372036854775807) :
    Calls Tryz.prog 76 #[.slice a la ca] w fun e w' => e = .returned (.bool (powB ea)) ∧ w' = w := by
  have C := (show Hid _ from all_any4 a la ca ea 0 9 w ha hm)
  have hla := ha.1
  clear ha
  unfold powB
  rw [hla]
  generalize allB 0 9 ea = B at C ⊢
  by_cases h : la = 4
  · subst h
    go_enter Tryz.func76, Tryz.ntmps76
    go_wp2_with fail
    refine Calls.mono C.out ?_
    rintro e w1 ⟨rfl, rfl⟩
    go_wp2
    go_ret
    exact ⟨by simp, rfl⟩
  · rw [decide_eq_false h]
    have h' : ((la : Int) == 4) = false := by simp; omega
    clear C
    go_enter Tryz.func76, Tryz.ntmps76
    go_wp2
    go_ret
    exact ⟨rfl, rfl⟩
end Go.Proofs.YtpjgjpjfchfmlaaGreatDoor
