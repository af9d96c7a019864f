/-
  PROVED HERE: plain facts on decimal digits: what they spell. No condition.
-/
import Derived.Lib.ItoaNum
import Derived.Lib.ParseIntBTie
namespace Go.Proofs.YtbchehpggoampaaDoor

/-- What digits spell. -/
def dval (l : List UInt8) : Nat := l.foldl (fun a c => 10 * a + (c.toNat - 48)) 0
def IsDig (c : UInt8) : Prop := 48 ≤ c.toNat ∧ c.toNat ≤ 57

theorem dval_snoc (l : List UInt8) (c : UInt8) : dval (l ++ [c]) = 10 * dval l + (c.toNat - 48) := by
  unfold dval; rw [List.foldl_append]; rfl
theorem dig_toNat (d : Nat) (h : d < 10) : (UInt8.ofNat (48 + d)).toNat = 48 + d := by
  rw [UInt8.toNat_ofNat']; omega

theorem dec_dig (u : Nat) : ∀ c ∈ Lib.decDigits u, IsDig c := by
  induction u using Nat.strongRecOn with
  | _ u ih =>
    rw [Lib.decDigits]
    by_cases h : u < 10
    · rw [dif_pos h]
      intro c hc
      rw [List.mem_singleton.1 hc]
      unfold IsDig
      rw [dig_toNat u h]; omega
    · rw [dif_neg h]
      intro c hc
      rcases List.mem_append.1 hc with hc | hc
      · exact ih (u / 10) (by omega) c hc
      · rw [List.mem_singleton.1 hc]
        unfold IsDig
        rw [dig_toNat (u % 10) (by omega)]; omega
theorem dec_val (u : Nat) : dval (Lib.decDigits u) = u := by
  induction u using Nat.strongRecOn with
  | _ u ih =>
    rw [Lib.decDigits]
    by_cases h : u < 10
    · rw [dif_pos h]
      show 10 * 0 + ((UInt8.ofNat (48 + u)).toNat - 48) = u
      rw [dig_toNat u h]; omega
    · rw [dif_neg h, dval_snoc, ih (u / 10) (by omega), dig_toNat (u % 10) (by omega)]
      omega
theorem dec_ne (u : Nat) : Lib.decDigits u ≠ [] := by
  rw [Lib.decDigits]
  by_cases h : u < 10
  · rw [dif_pos h]; simp
  · rw [dif_neg h]; simp
theorem take_step (l : List UInt8) (k : Nat) (h : k < l.length) : l.take (k + 1) = l.take k ++ [l[k]] := by
  rw [List.take_succ_eq_append_getElem h]
theorem take_le (l : List UInt8) (j : Nat) : ∀ k, k + j = l.length → dval (l.take k) ≤ dval l := by
  induction j with
  | zero => intro k hk; rw [List.take_of_length_le (by omega)]; exact Nat.le_refl _
  | succ j ih =>
    intro k hk
    have h1 := ih (k + 1) (by omega)
    rw [take_step l k (by omega), dval_snoc] at h1
    omega
/-- The value, digit by digit, never passes the whole. -/
theorem dec_take (u k : Nat) (h : k ≤ (Lib.decDigits u).length) : dval ((Lib.decDigits u).take k) ≤ u := by
  have := take_le (Lib.decDigits u) ((Lib.decDigits u).length - k) k (by omega)
  rwa [dec_val] at this

/-- Digits that spell a number below a bound are parsed. -/
theorem parse_digs (M : Nat) (hM : M ≤ 18446744073709551615) : ∀ (l : List UInt8) (acc : Nat), (∀ c ∈ l, IsDig c) → (l.foldl (fun a c => 10 * a + (c.toNat - 48)) acc) ≤ M →
    Lib.parseUintM M acc l = .ok (l.foldl (fun a c => 10 * a + (c.toNat - 48)) acc)
  | [], acc, _, _ => rfl
  | c :: r, acc, hd, hle => by
    obtain ⟨h1, h2⟩ := hd c (List.mem_cons_self ..)
    have hmono : ∀ (l : List UInt8) (a : Nat), a ≤ l.foldl (fun a c => 10 * a + (c.toNat - 48)) a := by
      intro l
      induction l with
      | nil => intro a; exact Nat.le_refl _
      | cons x l ih => intro a; exact Nat.le_trans (by omega) (ih (10 * a + (x.toNat - 48)))
    have hm := hmono r (10 * acc + (c.toNat - 48))
    simp only [List.foldl_cons] at hle ⊢
    rw [Lib.parseUintM, if_pos ⟨h1, h2⟩, if_neg (by omega), if_neg (by omega), show acc * 10 + (c.toNat - 48) = 10 * acc + (c.toNat - 48) from by omega]
    exact parse_digs M hM r _ (fun x hx => hd x (List.mem_cons_of_mem _ hx)) hle

/-- A number's text is parsed to the number. -/
theorem parse_itoa (n : Int) (h0 : -9223372036854775808 ≤ n) (h1 : n ≤ 9223372036854775807) : Lib.parseIntB 64 (Lib.itoa n) = .ok n := by
  have hU : ∀ u : Nat, u ≤ 18446744073709551615 → Lib.parseUintB 64 (Lib.decDigits u) = .ok u := by
    intro u hu
    unfold Lib.parseUintB
    rw [if_neg (dec_ne u)]
    have := parse_digs (2 ^ 64 - 1) (by decide) (Lib.decDigits u) 0 (dec_dig u) (by
      show dval (Lib.decDigits u) ≤ _
      rw [dec_val]; exact Nat.le_trans hu (by decide))
    rw [this]
    show Lib.NumEnd.ok (dval (Lib.decDigits u)) = _
    rw [dec_val]
  by_cases hn : n < 0
  · obtain ⟨u, hu⟩ : ∃ u : Nat, n = -(u : Int) := ⟨n.natAbs, by omega⟩
    subst hu
    have e : Lib.itoa (-(u : Int)) = 45 :: Lib.decDigits u := by
      unfold Lib.itoa; rw [if_pos hn]; congr 2; omega
    rw [e]
    unfold Lib.parseIntB
    have e45 : (45 : UInt8).toNat = 45 := rfl
    have hu9 : u ≤ 9223372036854775808 := by omega
    have p63 : 2 ^ (64 - 1) = 9223372036854775808 := by decide
    simp only [e45, or_true, if_true, hU u (by omega), p63]
    rw [if_neg (by simp), if_neg (by omega)]
  · obtain ⟨u, rfl⟩ := Int.eq_ofNat_of_zero_le (show 0 ≤ n by omega)
    have e : Lib.itoa (u : Int) = Lib.decDigits u := by
      unfold Lib.itoa; rw [if_neg hn]; rfl
    rw [e]
    have hne := dec_ne u
    have hU' := hU u (by omega)
    have hdig := dec_dig u
    have p63 : 2 ^ (64 - 1) = 9223372036854775808 := by decide
    cases hl : Lib.decDigits u with
    | nil => exact absurd hl hne
    | cons c r =>
      rw [hl] at hU' hdig
      obtain ⟨g1, g2⟩ := hdig c (List.mem_cons_self ..)
      unfold Lib.parseIntB
      have hc : ¬ (c.toNat = 43 ∨ c.toNat = 45) := by omega
      have hc2 : ¬ c.toNat = 45 := by omega
      simp only [if_neg hc, hU', p63]
      rw [if_neg (by omega), if_neg (by omega), if_neg hc2]
end Go.Proofs.YtbchehpggoampaaDoor
