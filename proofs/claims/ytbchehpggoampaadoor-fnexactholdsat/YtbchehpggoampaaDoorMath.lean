/-
  PROVED HERE: plain facts on numbers that wrap at 64 bits: Newton's steps and the search bit by bit come to the one inverse of an odd number; a mask of low bits is a remainder. No condition.
-/
import Derived.WalkKit
namespace Go.Proofs.YtbchehpggoampaaDoor.Odd
open Go.RowKit (wrap64)
theorem wrap64_dvd (n : Int) : ∃ c, wrap64 n = n + c * 18446744073709551616 := by
  unfold wrap64
  refine ⟨-((n + 9223372036854775808) / 18446744073709551616), ?_⟩
  have := Int.mul_ediv_add_emod (n + 9223372036854775808) 18446744073709551616
  omega

theorem wrap64_range (n : Int) : -9223372036854775808 ≤ wrap64 n ∧ wrap64 n ≤ 9223372036854775807 := by
  unfold wrap64; omega

/-- One of Newton's steps as the program does it. -/
def newton (a x : Int) : Int := wrap64 (x * wrap64 (2 - wrap64 (a * x)))

theorem newton_step (a x : Int) : ∃ t, a * newton a x - 1 = -((a * x - 1) * (a * x - 1)) + t * 18446744073709551616 := by
  unfold newton
  obtain ⟨c1, h1⟩ := wrap64_dvd (a * x)
  rw [h1]
  obtain ⟨c2, h2⟩ := wrap64_dvd (2 - (a * x + c1 * 18446744073709551616))
  rw [h2]
  obtain ⟨c3, h3⟩ := wrap64_dvd (x * (2 - (a * x + c1 * 18446744073709551616) + c2 * 18446744073709551616))
  rw [h3]
  refine ⟨a * x * (c2 - c1) + a * c3, ?_⟩
  generalize (18446744073709551616 : Int) = M
  have e1 : a * (x * (2 - (a * x + c1 * M) + c2 * M) + c3 * M) = a * x * (2 - (a * x + c1 * M) + c2 * M) + a * c3 * M := by
    rw [Int.mul_add, ← Int.mul_assoc, ← Int.mul_assoc]
  rw [e1]
  generalize a * x = y
  generalize a * c3 = z
  simp only [Int.mul_add, Int.mul_sub, Int.add_mul, Int.sub_mul, Int.mul_assoc]
  have := Int.mul_comm y 2
  omega

theorem dvd_step (a x m : Int) (hm : m ∣ a * x - 1) (hM : m * m ∣ 18446744073709551616) : m * m ∣ a * newton a x - 1 := by
  obtain ⟨t, ht⟩ := newton_step a x
  rw [ht]
  refine Int.dvd_add ?_ (Int.dvd_trans hM (Int.dvd_mul_left _ _))
  exact (Int.dvd_neg).2 (Int.mul_dvd_mul hm hm)

theorem dvd_last (a x m : Int) (hm : m ∣ a * x - 1) (hM : (18446744073709551616 : Int) ∣ m * m) : (18446744073709551616 : Int) ∣ a * newton a x - 1 := by
  obtain ⟨t, ht⟩ := newton_step a x
  rw [ht]
  refine Int.dvd_add ?_ (Int.dvd_mul_left _ _)
  exact (Int.dvd_neg).2 (Int.dvd_trans hM (Int.mul_dvd_mul hm hm))

theorem odd_sq (a : Int) (h : a % 2 = 1) : (8 : Int) ∣ a * a - 1 := by
  obtain ⟨b, rfl⟩ : ∃ b, a = 2 * b + 1 := ⟨a / 2, by omega⟩
  have : ∃ c, b * (b + 1) = 2 * c := by
    rcases Int.emod_two_eq b with h | h
    · exact ⟨b / 2 * (b + 1), by rw [← Int.mul_assoc]; congr 1; omega⟩
    · exact ⟨b * ((b + 1) / 2), by rw [Int.mul_left_comm]; congr 1; omega⟩
  obtain ⟨c, hc⟩ := this
  refine ⟨c, ?_⟩
  have : (2 * b + 1) * (2 * b + 1) - 1 = 4 * (b * (b + 1)) := by
    simp only [Int.mul_add, Int.add_mul, Int.mul_one, Int.one_mul]
    have : 2 * b * (2 * b) = 4 * (b * b) := by rw [Int.mul_assoc, Int.mul_left_comm b, ← Int.mul_assoc]; rfl
    omega
  rw [this, hc]; omega

/-- What the five steps come to. -/
def inv5 (a : Int) : Int := newton a (newton a (newton a (newton a (newton a a))))
theorem inv5_dvd (a : Int) (h : a % 2 = 1) : (18446744073709551616 : Int) ∣ a * inv5 a - 1 := by
  unfold inv5
  refine dvd_last _ _ (16777216 * 16777216) ?_ ⟨4294967296, by decide⟩
  refine dvd_step _ _ _ ?_ ⟨65536, by decide⟩
  refine dvd_step _ _ (4096 * 1) ?_ ⟨1099511627776, by decide⟩
  refine dvd_step _ _ 64 ?_ ⟨4503599627370496, by decide⟩
  refine dvd_step _ _ 8 ?_ ⟨288230376151711744, by decide⟩
  exact odd_sq a h

theorem uniq (a x y : Int) (hx : (18446744073709551616 : Int) ∣ a * x - 1) (hy : (18446744073709551616 : Int) ∣ a * y - 1)
    (rx : -9223372036854775808 ≤ x ∧ x ≤ 9223372036854775807) (ry : -9223372036854775808 ≤ y ∧ y ≤ 9223372036854775807) : x = y := by
  obtain ⟨c, hc⟩ := hx
  obtain ⟨d, hd⟩ := hy
  have h1 : x * (a * y) = y * (a * x) := by rw [Int.mul_left_comm, Int.mul_left_comm y, Int.mul_comm x y]
  have h2 : a * x = 18446744073709551616 * c + 1 := by omega
  have h3 : a * y = 18446744073709551616 * d + 1 := by omega
  rw [h2, h3] at h1
  have h4 : x - y = 18446744073709551616 * (y * c - x * d) := by
    rw [Int.mul_add, Int.mul_add, Int.mul_one, Int.mul_one, Int.mul_left_comm, Int.mul_left_comm y] at h1
    rw [Int.mul_sub]; omega
  generalize y * c - x * d = k at h4
  omega
/-- Does the k-th bit of the product differ from that of 1? -/
def off (a out : Int) (k : Nat) : Prop := (wrap64 (a * out) / 2 ^ k) % 2 ≠ (if k = 0 then 1 else 0)

theorem split (k : Nat) (hk : k < 64) : ∃ e : Int, (18446744073709551616 : Int) = 2 ^ k * (2 * e) := by
  refine ⟨2 ^ (63 - k), ?_⟩
  have h : (2 : Int) ^ 64 = 2 ^ k * (2 * 2 ^ (63 - k)) := by
    rw [show (2 : Int) * 2 ^ (63 - k) = 2 ^ (63 - k + 1) from by rw [Int.pow_succ]; omega, ← Int.pow_add]
    exact congrArg _ (by omega)
  rw [← h]; rfl

theorem off_iff (a out m : Int) (k : Nat) (hk : k < 64) (h : a * out - 1 = 2 ^ k * m) : off a out k ↔ m % 2 = 1 := by
  unfold off
  obtain ⟨c, hc⟩ := wrap64_dvd (a * out)
  obtain ⟨e, he⟩ := split k hk
  have hp : (0 : Int) < 2 ^ k := Int.pow_pos (by decide)
  have h1 : wrap64 (a * out) = 1 + 2 ^ k * (m + 2 * (c * e)) := by
    rw [hc, show a * out = 1 + 2 ^ k * m from by omega, he, Int.mul_add, Int.mul_left_comm c, Int.mul_left_comm c 2 e]
    omega
  rw [h1]
  cases k with
  | zero => simp only [Int.pow_zero, Int.ediv_one, Int.one_mul, if_true]; omega
  | succ k =>
    have hq : (1 + 2 ^ (k + 1) * (m + 2 * (c * e))) / 2 ^ (k + 1) = m + 2 * (c * e) := by
      rw [Int.add_mul_ediv_left _ _ (by omega)]
      have : (1 : Int) / 2 ^ (k + 1) = 0 := Int.ediv_eq_zero_of_lt (by decide) (by rw [Int.pow_succ]; have : (0 : Int) < 2 ^ k := Int.pow_pos (by decide); omega)
      omega
    rw [hq, if_neg (by omega)]
    omega

theorem off_step (a out : Int) (k : Nat) (hk : k < 64) (ha : a % 2 = 1) (h : (2 : Int) ^ k ∣ a * out - 1) :
    (off a out k → (2 : Int) ^ (k + 1) ∣ a * wrap64 (out + wrap64 (2 ^ k)) - 1) ∧ (¬ off a out k → (2 : Int) ^ (k + 1) ∣ a * out - 1) := by
  obtain ⟨m, hm⟩ := h
  rw [off_iff a out m k hk hm]
  constructor
  · intro h1
    obtain ⟨c, hc⟩ := wrap64_dvd (2 ^ k)
    rw [hc]
    obtain ⟨d, hd⟩ := wrap64_dvd (out + (2 ^ k + c * 18446744073709551616))
    rw [hd]
    obtain ⟨e, he⟩ := split k hk
    rw [he]
    have hh : ∃ q, m + a = 2 * q := ⟨(m + a) / 2, by omega⟩
    obtain ⟨q, hq⟩ := hh
    refine ⟨q + a * c * e + a * d * e, ?_⟩
    have e1 : a * (out + (2 ^ k + c * (2 ^ k * (2 * e))) + d * (2 ^ k * (2 * e))) = a * out + 2 ^ k * (a + 2 * (a * c * e) + 2 * (a * d * e)) := by
      generalize (2 : Int) ^ k = p
      simp only [Int.mul_add, Int.mul_assoc, Int.mul_comm, Int.mul_left_comm, Int.add_assoc]
    rw [e1, show a * out = 1 + 2 ^ k * m from by omega, Int.pow_succ]
    have e2 : 1 + 2 ^ k * m + 2 ^ k * (a + 2 * (a * c * e) + 2 * (a * d * e)) - 1 = 2 ^ k * (m + (a + 2 * (a * c * e) + 2 * (a * d * e))) := by
      rw [Int.mul_add _ m]; omega
    rw [e2, Int.mul_assoc (2 ^ k) 2]
    refine congrArg _ ?_
    omega
  · intro h0
    refine ⟨m / 2, ?_⟩
    rw [hm, Int.pow_succ, Int.mul_assoc]
    exact congrArg _ (by omega)
theorem toNat_ofInt (x : Int) : ((BitVec.ofInt 64 x).toNat : Int) = x % 18446744073709551616 := by
  rw [BitVec.toNat_ofInt]
  rw [Int.toNat_of_nonneg (Int.emod_nonneg _ (by decide))]
  rfl
theorem and_mask (k : IntKind) (x : Int) (j m : Nat) (hj : j ≤ 62) (hm : m = 2 ^ j - 1) (hw : ∀ n : Int, 0 ≤ n → n ≤ 4611686018427387904 → k.wrap n = n) (hk : k.bits = 64) : bits .and k x (m : Int) = x % 2 ^ j := by
  show k.wrap ((BitVec.ofInt k.bits x &&& BitVec.ofInt k.bits (m : Int)).toNat : Int) = _
  rw [hk]
  have hp : 2 ^ j ≤ 2 ^ 62 := Nat.pow_le_pow_right (by decide) hj
  have hpp : 0 < 2 ^ j := Nat.pow_pos (by decide)
  have h2 : (BitVec.ofInt 64 (m : Int)).toNat = m := by
    rw [BitVec.ofInt_natCast, BitVec.toNat_ofNat]; exact Nat.mod_eq_of_lt (by omega)
  rw [BitVec.toNat_and, h2, hm, Nat.and_two_pow_sub_one_eq_mod]
  have h3 := toNat_ofInt x
  have h4 : (((BitVec.ofInt 64 x).toNat % 2 ^ j : Nat) : Int) = x % 2 ^ j := by
    rw [Int.natCast_emod, h3, Int.natCast_pow]
    exact Int.emod_emod_of_dvd _ ⟨2 ^ (64 - j), by rw [show ((2 : Nat) : Int) = 2 from rfl, ← Int.pow_add, show j + (64 - j) = 64 from by omega]; rfl⟩
  rw [h4]
  refine hw _ (Int.emod_nonneg _ ?_) ?_
  · have : (0 : Int) < 2 ^ j := Int.pow_pos (by decide)
    omega
  · have h5 : x % 2 ^ j < 2 ^ j := Int.emod_lt_of_pos _ (Int.pow_pos (by decide))
    have h6 : ((2 ^ j : Nat) : Int) ≤ 4611686018427387904 := by
      have : (2 ^ 62 : Nat) = 4611686018427387904 := by decide
      omega
    rw [Int.natCast_pow] at h6
    exact Int.le_of_lt (Int.lt_of_lt_of_le h5 h6)
theorem and1 (x : Int) : bits .and .i64 x 1 = x % 2 :=
  and_mask .i64 x 1 1 (by decide) (by decide) (fun n h h' => by rw [IntKind.wrap_i64]; omega) rfl
theorem and63 (x : Int) : bits .and .i64 x 63 = x % 64 :=
  and_mask .i64 x 6 63 (by decide) (by decide) (fun n h h' => by rw [IntKind.wrap_i64]; omega) rfl
theorem andu63 (x : Int) : bits .and .u64 x 63 = x % 64 :=
  and_mask .u64 x 6 63 (by decide) (by decide) (fun n h h' => by rw [IntKind.wrap_u64]; omega) rfl
theorem andu255 (x : Int) : bits .and .u64 x 255 = x % 256 :=
  and_mask .u64 x 8 255 (by decide) (by decide) (fun n h h' => by rw [IntKind.wrap_u64]; omega) rfl
end Go.Proofs.YtbchehpggoampaaDoor.Odd
