/-
  PROVED HERE: plain facts on numbers that wrap at 64 bits: Newton's steps and the search bit by bit come to the one inverse of an odd number; a mask of low bits is a remainder. No condition. which sum of products the model makes of an operation, once those of its parts are known. No other condition. the model's own look at nodes of sums and products, at every list of nodes. No other condition. the sum of products of a whole term, plainly. No condition.
-/
import Derived.WalkKit
import Derived.Test.YtkadanagmahhgaaGreatDoorRun26
import Derived.Test.YtkadanagmahhgaaGreatDoorRun1
import Derived.Test.YtkadanagmahhgaaGreatDoorRun2
namespace Go.Proofs.YtkadanagmahhgaaGreatDoor.Odd
open Go.RowKit (wrap64)
theorem wrap64_dvd (n : Int) : ∃ c, wrap64 n = n + c * 18446744073709551616 := by
  unfold wrap64
  refine ⟨-((n + 9223372036854775808) / 18446744073709551616), ?_⟩
  have := Int.mul_ediv_add_emod (n + 9223372036854775808) 18446744073709551616
  omega

theorem wrap64_range (n : Int) : -9223372036854775808 ≤ wrap64 n ∧ wrap64 n ≤ 9223372036854775807 := by
  unfold wrap64; omega

/-- One of Newton's steps as the program does it. -/
def newton (a x : Int) : Int := wrap64 (x * wrap64 (2 - wrap64 (a * x)))

theorem newton_step (a x : Int) : ∃ t, a * newton a x - 1 = -((a * x - 1) * (a * x - 1)) + t * 18446744073709551616 := by
  unfold newton
  obtain ⟨c1, h1⟩ := wrap64_dvd (a * x)
  rw [h1]
  obtain ⟨c2, h2⟩ := wrap64_dvd (2 - (a * x + c1 * 18446744073709551616))
  rw [h2]
  obtain ⟨c3, h3⟩ := wrap64_dvd (x * (2 - (a * x + c1 * 18446744073709551616) + c2 * 18446744073709551616))
  rw [h3]
  refine ⟨a * x * (c2 - c1) + a * c3, ?_⟩
  generalize (18446744073709551616 : Int) = M
  have e1 : a * (x * (2 - (a * x + c1 * M) + c2 * M) + c3 * M) = a * x * (2 - (a * x + c1 * M) + c2 * M) + a * c3 * M := by
    rw [Int.mul_add, ← Int.mul_assoc, ← Int.mul_assoc]
  rw [e1]
  generalize a * x = y
  generalize a * c3 = z
  simp only [Int.mul_add, Int.mul_sub, Int.add_mul, Int.sub_mul, Int.mul_assoc]
  have := Int.mul_comm y 2
  omega

theorem dvd_step (a x m : Int) (hm : m ∣ a * x - 1) (hM : m * m ∣ 18446744073709551616) : m * m ∣ a * newton a x - 1 := by
  obtain ⟨t, ht⟩ := newton_step a x
  rw [ht]
  refine Int.dvd_add ?_ (Int.dvd_trans hM (Int.dvd_mul_left _ _))
  exact (Int.dvd_neg).2 (Int.mul_dvd_mul hm hm)

theorem dvd_last (a x m : Int) (hm : m ∣ a * x - 1) (hM : (18446744073709551616 : Int) ∣ m * m) : (18446744073709551616 : Int) ∣ a * newton a x - 1 := by
  obtain ⟨t, ht⟩ := newton_step a x
  rw [ht]
  refine Int.dvd_add ?_ (Int.dvd_mul_left _ _)
  exact (Int.dvd_neg).2 (Int.dvd_trans hM (Int.mul_dvd_mul hm hm))

theorem odd_sq (a : Int) (h : a % 2 = 1) : (8 : Int) ∣ a * a - 1 := by
  obtain ⟨b, rfl⟩ : ∃ b, a = 2 * b + 1 := ⟨a / 2, by omega⟩
  have : ∃ c, b * (b + 1) = 2 * c := by
    rcases Int.emod_two_eq b with h | h
    · exact ⟨b / 2 * (b + 1), by rw [← Int.mul_assoc]; congr 1; omega⟩
    · exact ⟨b * ((b + 1) / 2), by rw [Int.mul_left_comm]; congr 1; omega⟩
  obtain ⟨c, hc⟩ := this
  refine ⟨c, ?_⟩
  have : (2 * b + 1) * (2 * b + 1) - 1 = 4 * (b * (b + 1)) := by
    simp only [Int.mul_add, Int.add_mul, Int.mul_one, Int.one_mul]
    have : 2 * b * (2 * b) = 4 * (b * b) := by rw [Int.mul_assoc, Int.mul_left_comm b, ← Int.mul_assoc]; rfl
    omega
  rw [this, hc]; omega

/-- What the five steps come to. -/
def inv5 (a : Int) : Int := newton a (newton a (newton a (newton a (newton a a))))
theorem inv5_dvd (a : Int) (h : a % 2 = 1) : (18446744073709551616 : Int) ∣ a * inv5 a - 1 := by
  unfold inv5
  refine dvd_last _ _ (16777216 * 16777216) ?_ ⟨4294967296, by decide⟩
  refine dvd_step _ _ _ ?_ ⟨65536, by decide⟩
  refine dvd_step _ _ (4096 * 1) ?_ ⟨1099511627776, by decide⟩
  refine dvd_step _ _ 64 ?_ ⟨4503599627370496, by decide⟩
  refine dvd_step _ _ 8 ?_ ⟨288230376151711744, by decide⟩
  exact odd_sq a h

theorem uniq (a x y : Int) (hx : (18446744073709551616 : Int) ∣ a * x - 1) (hy : (18446744073709551616 : Int) ∣ a * y - 1)
    (rx : -9223372036854775808 ≤ x ∧ x ≤ 9223372036854775807) (ry : -9223372036854775808 ≤ y ∧ y ≤ 9223372036854775807) : x = y := by
  obtain ⟨c, hc⟩ := hx
  obtain ⟨d, hd⟩ := hy
  have h1 : x * (a * y) = y * (a * x) := by rw [Int.mul_left_comm, Int.mul_left_comm y, Int.mul_comm x y]
  have h2 : a * x = 18446744073709551616 * c + 1 := by omega
  have h3 : a * y = 18446744073709551616 * d + 1 := by omega
  rw [h2, h3] at h1
  have h4 : x - y = 18446744073709551616 * (y * c - x * d) := by
    rw [Int.mul_add, Int.mul_add, Int.mul_one, Int.mul_one, Int.mul_left_comm, Int.mul_left_comm y] at h1
    rw [Int.mul_sub]; omega
  generalize y * c - x * d = k at h4
  omega
/-- Does the k-th bit of the product differ from that of 1? -/
def off (a out : Int) (k : Nat) : Prop := (wrap64 (a * out) / 2 ^ k) % 2 ≠ (if k = 0 then 1 else 0)

theorem split (k : Nat) (hk : k < 64) : ∃ e : Int, (18446744073709551616 : Int) = 2 ^ k * (2 * e) := by
  refine ⟨2 ^ (63 - k), ?_⟩
  have h : (2 : Int) ^ 64 = 2 ^ k * (2 * 2 ^ (63 - k)) := by
    rw [show (2 : Int) * 2 ^ (63 - k) = 2 ^ (63 - k + 1) from by rw [Int.pow_succ]; omega, ← Int.pow_add]
    exact congrArg _ (by omega)
  rw [← h]; rfl

theorem off_iff (a out m : Int) (k : Nat) (hk : k < 64) (h : a * out - 1 = 2 ^ k * m) : off a out k ↔ m % 2 = 1 := by
  unfold off
  obtain ⟨c, hc⟩ := wrap64_dvd (a * out)
  obtain ⟨e, he⟩ := split k hk
  have hp : (0 : Int) < 2 ^ k := Int.pow_pos (by decide)
  have h1 : wrap64 (a * out) = 1 + 2 ^ k * (m + 2 * (c * e)) := by
    rw [hc, show a * out = 1 + 2 ^ k * m from by omega, he, Int.mul_add, Int.mul_left_comm c, Int.mul_left_comm c 2 e]
    omega
  rw [h1]
  cases k with
  | zero => simp only [Int.pow_zero, Int.ediv_one, Int.one_mul, if_true]; omega
  | succ k =>
    have hq : (1 + 2 ^ (k + 1) * (m + 2 * (c * e))) / 2 ^ (k + 1) = m + 2 * (c * e) := by
      rw [Int.add_mul_ediv_left _ _ (by omega)]
      have : (1 : Int) / 2 ^ (k + 1) = 0 := Int.ediv_eq_zero_of_lt (by decide) (by rw [Int.pow_succ]; have : (0 : Int) < 2 ^ k := Int.pow_pos (by decide); omega)
      omega
    rw [hq, if_neg (by omega)]
    omega

theorem off_step (a out : Int) (k : Nat) (hk : k < 64) (ha : a % 2 = 1) (h : (2 : Int) ^ k ∣ a * out - 1) :
    (off a out k → (2 : Int) ^ (k + 1) ∣ a * wrap64 (out + wrap64 (2 ^ k)) - 1) ∧ (¬ off a out k → (2 : Int) ^ (k + 1) ∣ a * out - 1) := by
  obtain ⟨m, hm⟩ := h
  rw [off_iff a out m k hk hm]
  constructor
  · intro h1
    obtain ⟨c, hc⟩ := wrap64_dvd (2 ^ k)
    rw [hc]
    obtain ⟨d, hd⟩ := wrap64_dvd (out + (2 ^ k + c * 18446744073709551616))
    rw [hd]
    obtain ⟨e, he⟩ := split k hk
    rw [he]
    have hh : ∃ q, m + a = 2 * q := ⟨(m + a) / 2, by omega⟩
    obtain ⟨q, hq⟩ := hh
    refine ⟨q + a * c * e + a * d * e, ?_⟩
    have e1 : a * (out + (2 ^ k + c * (2 ^ k * (2 * e))) + d * (2 ^ k * (2 * e))) = a * out + 2 ^ k * (a + 2 * (a * c * e) + 2 * (a * d * e)) := by
      generalize (2 : Int) ^ k = p
      simp only [Int.mul_add, Int.mul_assoc, Int.mul_comm, Int.mul_left_comm, Int.add_assoc]
    rw [e1, show a * out = 1 + 2 ^ k * m from by omega, Int.pow_succ]
    have e2 : 1 + 2 ^ k * m + 2 ^ k * (a + 2 * (a * c * e) + 2 * (a * d * e)) - 1 = 2 ^ k * (m + (a + 2 * (a * c * e) + 2 * (a * d * e))) := by
      rw [Int.mul_add _ m]; omega
    rw [e2, Int.mul_assoc (2 ^ k) 2]
    refine congrArg _ ?_
    omega
  · intro h0
    refine ⟨m / 2, ?_⟩
    rw [hm, Int.pow_succ, Int.mul_assoc]
    exact congrArg _ (by omega)
theorem toNat_ofInt (x : Int) : ((BitVec.ofInt 64 x).toNat : Int) = x % 18446744073709551616 := by
  rw [BitVec.toNat_ofInt]
  rw [Int.toNat_of_nonneg (Int.emod_nonneg _ (by decide))]
  rfl
theorem and_mask (k : IntKind) (x : Int) (j m : Nat) (hj : j ≤ 62) (hm : m = 2 ^ j - 1) (hw : ∀ n : Int, 0 ≤ n → n ≤ 4611686018427387904 → k.wrap n = n) (hk : k.bits = 64) : bits .and k x (m : Int) = x % 2 ^ j := by
  show k.wrap ((BitVec.ofInt k.bits x &&& BitVec.ofInt k.bits (m : Int)).toNat : Int) = _
  rw [hk]
  have hp : 2 ^ j ≤ 2 ^ 62 := Nat.pow_le_pow_right (by decide) hj
  have hpp : 0 < 2 ^ j := Nat.pow_pos (by decide)
  have h2 : (BitVec.ofInt 64 (m : Int)).toNat = m := by
    rw [BitVec.ofInt_natCast, BitVec.toNat_ofNat]; exact Nat.mod_eq_of_lt (by omega)
  rw [BitVec.toNat_and, h2, hm, Nat.and_two_pow_sub_one_eq_mod]
  have h3 := toNat_ofInt x
  have h4 : (((BitVec.ofInt 64 x).toNat % 2 ^ j : Nat) : Int) = x % 2 ^ j := by
    rw [Int.natCast_emod, h3, Int.natCast_pow]
    exact Int.emod_emod_of_dvd _ ⟨2 ^ (64 - j), by rw [show ((2 : Nat) : Int) = 2 from rfl, ← Int.pow_add, show j + (64 - j) = 64 from by omega]; rfl⟩
  rw [h4]
  refine hw _ (Int.emod_nonneg _ ?_) ?_
  · have : (0 : Int) < 2 ^ j := Int.pow_pos (by decide)
    omega
  · have h5 : x % 2 ^ j < 2 ^ j := Int.emod_lt_of_pos _ (Int.pow_pos (by decide))
    have h6 : ((2 ^ j : Nat) : Int) ≤ 4611686018427387904 := by
      have : (2 ^ 62 : Nat) = 4611686018427387904 := by decide
      omega
    rw [Int.natCast_pow] at h6
    exact Int.le_of_lt (Int.lt_of_lt_of_le h5 h6)
theorem and1 (x : Int) : bits .and .i64 x 1 = x % 2 :=
  and_mask .i64 x 1 1 (by decide) (by decide) (fun n h h' => by rw [IntKind.wrap_i64]; omega) rfl
theorem and63 (x : Int) : bits .and .i64 x 63 = x % 64 :=
  and_mask .i64 x 6 63 (by decide) (by decide) (fun n h h' => by rw [IntKind.wrap_i64]; omega) rfl
theorem andu63 (x : Int) : bits .and .u64 x 63 = x % 64 :=
  and_mask .u64 x 6 63 (by decide) (by decide) (fun n h h' => by rw [IntKind.wrap_u64]; omega) rfl
theorem andu255 (x : Int) : bits .and .u64 x 255 = x % 256 :=
  and_mask .u64 x 8 255 (by decide) (by decide) (fun n h h' => by rw [IntKind.wrap_u64]; omega) rfl
end Go.Proofs.YtkadanagmahhgaaGreatDoor.Odd
namespace Go.Proofs.YtkadanagmahhgaaGreatDoor
open Go.ChangeShapes Go.WideShapes Go.ChangeAt Go.RowKit
open Odd
set_option linter.unusedVariables false
attribute [local go_sem] andu63 and63

/-- The sum of an operation by those of its parts. -/
def opR (op x : Int) (o0 o1 : Option (List Mon)) : Option (List Mon) :=
  match o0 with
  | none => none
  | some p =>
    if op = 3 then okP (mulP p (numP (-1)))
    else if op = 7 then okP (mulP p (numP (shlN x)))
    else match o1 with
      | none => none
      | some q => okP (twoP op p q)
theorem SOf.up {W W1 : World} {o : Option (List Mon)} {r : Ending} {w' : World} (hb : Below W.heap.size W W1) (h : SOf W1 o r w') : SOf W o r w' := by
  obtain ⟨v, h1, h2, h3⟩ := h
  exact ⟨v, h1, fun s hs => (h2 s hs).base hb.size, hb.trans (h3.mono hb.size)⟩
theorem sof_ok {W w' : World} {s : List Mon} {v : Value} (h : SpecB W.heap.size w' v s) (hb : Below W.heap.size W w') : SOf W (okP s) (.returned (.tuple #[v, .bool (polyB s)])) w' := by
  refine ⟨v, ?_, fun s' hs => ?_, hb⟩
  · unfold okP
    by_cases e : polyB s = true
    · rw [if_pos e, e]; rfl
    · rw [if_neg e]; simp at e; rw [e]; rfl
  · obtain ⟨rfl, _⟩ := okP_some hs; exact h
theorem good5 {W : World} {v : Value} {s : List Mon} (h : SpecV W v s) (hl : s.length ≤ 9223372036854775807) : Calls Tryz.prog 100 #[v] W fun e w' => e = .returned (.bool (polyB s)) ∧ Below W.heap.size W w' := by
  obtain ⟨a, c, rfl, hp⟩ := h
  exact specPoly_any a _ c s W hp hl
theorem mul5 {W : World} {v u : Value} {p q : List Mon} (h : SpecV W v p) (h' : SpecV W u q) (hp : GoodS p) (hq : GoodS q) : Calls Tryz.prog 128 #[v, u] W fun r w' => ∃ z, r = .returned z ∧ SpecB W.heap.size w' z (mulP p q) ∧ Below W.heap.size W w' := by
  obtain ⟨a, c, rfl, hp'⟩ := h
  obtain ⟨a', c', rfl, hq'⟩ := h'
  exact l4Mul_own a _ c p a' _ c' q W hp' hq' (poly_len hp.1) (poly_len hq.1) hp.fine hq.fine (nine_of hp.1 hq.1)
theorem add5 {W : World} {v u : Value} {p q : List Mon} (h : SpecV W v p) (h' : SpecV W u q) (hl : p.length ≤ 10000) (hl' : q.length ≤ 10000) (hp : ∀ m ∈ p, m.1.length = 4 ∧ InI m.2) (hq : ∀ m ∈ q, m.1.length = 4 ∧ InI m.2) : Calls Tryz.prog 129 #[v, u] W fun r w' => ∃ z, r = .returned z ∧ SpecB W.heap.size w' z (addP p q) ∧ Below W.heap.size W w' := by
  obtain ⟨a, c, rfl, hp'⟩ := h
  obtain ⟨a', c', rfl, hq'⟩ := h'
  exact l4Add_own a _ c p a' _ c' q W hp' hq' hl hl' hp hq
theorem num5 {W : World} {B : Nat} (h : Sl W (some ⟨B, 0, none⟩) 4 zero4) (n : Int) : Calls Tryz.prog 127 #[.slice none 0 0, .slice (some ⟨B, 0, none⟩) 4 4, .int .i64 n] W fun r w' => ∃ v', r = .returned v' ∧ SpecV w' v' (numP n) ∧ Below W.heap.size W w' :=
  put_spec W (.slice none 0 0) [] (SpecV.nil _) (by simp) sum4_nil _ 4 zero4 rfl (Nat.le_refl _) h n

theorem sum_fine {s : List Mon} (h : Sum4 s) : ∀ m ∈ s, m.1.length = 4 ∧ InI m.2 := fun m hm => ⟨(h.2 m hm).1, (h.2 m hm).2.1⟩
theorem mul_few {p q : List Mon} (hp : GoodS p) (hq : GoodS q) : (mulP p q).length ≤ 1600 := by
  have h1 := (mulP_ok hp.len hq.len).2.1
  have h2 := poly_len hp.1
  have h3 := poly_len hq.1
  have := Nat.mul_le_mul h2 h3
  omega
theorem neg_in : InI (-1) := by unfold InI; omega
theorem shl_in (x : Int) : InI (shlN x) := wrap_in _

set_option maxHeartbeats 6400000 in
set_option maxRecDepth 20000 in
theorem sOfOp {l : List (Int × Int)} {q : Int} (h : pile l 0 = some q) (b off len cap k : Nat) (W : World) (hN : NSl W (some ⟨b, off, none⟩) len l) (hl : len ≤ 40) (hk : k < len) (op x : Int) (m : Nat) (hop : (l.getD k (0, 0)).1 = op) (hx : op = 7 → (l.getD (k - 1) (0, 0)).2 = x ∧ 1 ≤ k) (hm : ar op = m) (h1 : 1 ≤ m) (h3 : 3 ≤ op ∧ op ≤ 7) (h2 : op ≠ 3 → m = 2) (r0 r1 : Nat) (hr0 : (roots l m k).getD 0 0 = r0) (hr1 : op ≠ 3 → (roots l m k).getD 1 0 = r1) (o0 o1 : Option (List Mon))
    (H0 : ∀ W', Below W.heap.size W W' → Calls Tryz.prog 99 #[.slice (some ⟨b, off, none⟩) len cap, .int .i64 (r0 : Int)] W' fun r w' => SOf W' o0 r w')
    (H1 : op ≠ 3 → op ≠ 7 → ∀ W', Below W.heap.size W W' → Calls Tryz.prog 99 #[.slice (some ⟨b, off, none⟩) len cap, .int .i64 (r1 : Int)] W' fun r w' => SOf W' o1 r w')
    (g0 : ∀ p, o0 = some p → GoodS p) (g1 : ∀ p, o1 = some p → GoodS p) :
    Calls Tryz.prog 99 #[.slice (some ⟨b, off, none⟩) len cap, .int .i64 (k : Int)] W fun r w' => SOf W (opR op x o0 o1) r w' := by
  have hll := hN.1
  obtain ⟨b', off', e, hbl, hc⟩ := hN.at (by omega)
  cases e
  have c1 := (hc k hk).1
  have c2 := (hc k hk).2
  rw [hop] at c1
  have c7 : op = 7 → W.cell? ⟨b, off + (k - 1) * 2 + 1, none⟩ = some (.int .i64 x) := fun e => by rw [(hc (k - 1) (by omega)).2, (hx e).1]
  have hk1 : op = 7 → 1 ≤ k := fun e => (hx e).2
  have HC7 := (show Hid _ from c7)
  have HK1 := (show Hid _ from hk1)
  have hik : (k : Int) < len := by omega
  have hbne : ¬ b = W.heap.size := by omega
  have q1 : (op == 1) = false := by simp; omega
  have q2 : (op == 2) = false := by simp; omega
  have HPt : Hid (∀ W', Below W.heap.size W W' → Calls Tryz.prog 48 #[.slice (some ⟨b, off, none⟩) len cap, .int .i64 (k : Int)] W' fun e w' => ∃ g c, e = .returned (.slice (some ⟨g, 0, none⟩) m c) ∧ W'.heap.size ≤ g ∧ g < w'.heap.size ∧ w'.cell? ⟨g, 0, none⟩ = some (.int .i64 (r0 : Int)) ∧ (op ≠ 3 → w'.cell? ⟨g, 1, none⟩ = some (.int .i64 (r1 : Int))) ∧ Below W'.heap.size W' w') := fun W' hW' => by
    refine (parts_any h _ len cap W' (hN.keep hW') (by omega) k hk).mono ?_
    rintro e w' ⟨v, rfl, hown, hb⟩
    rw [hop, hm, Int.toNat_natCast] at hown
    have hge := own_ge hown
    obtain ⟨g, c, rfl, hg, hcc⟩ := own_row hown (by omega)
    refine ⟨g, c, rfl, hge g rfl, hg, ?_, fun e3 => ?_, hb⟩
    · rw [hcc 0 (by omega), hr0]
    · rw [hcc 1 (by have := h2 e3; omega), hr1 e3]
  obtain ⟨O, hO⟩ : ∃ O, opR op x o0 o1 = O := ⟨_, rfl⟩
  rw [hO]
  have HO := (show Hid _ from hO)
  clear hO
  have HH0 := (show Hid _ from H0)
  have HH1 := (show Hid _ from H1)
  have G0 := (show Hid _ from g0)
  have G1 := (show Hid _ from g1)
  generalize (l.getD k (0, 0)).2 = n at c2
  obtain ⟨W2, hW2⟩ : ∃ W2, (W.alloc (.cells #[.int .i64 op, .int .i64 n] 66)).alloc (.cells #[.int .i64 0, .int .i64 0, .int .i64 0, .int .i64 0] 3) = W2 := ⟨_, rfl⟩
  have hb2 : Below W.heap.size W W2 := by rw [← hW2]; exact ((Below.refl _ _).alloc (Nat.le_refl _) _).alloc (by simp) _
  have n0 : W2.cell? ⟨W.heap.size, 0, none⟩ = some (.int .i64 op) := by rw [← hW2]; simp [go_sem]
  have z2 : Sl W2 (some ⟨W.heap.size + 1, 0, none⟩) 4 zero4 := by
    rw [← hW2]
    have := sl_zero (W.alloc (.cells #[.int .i64 op, .int .i64 n] 66)) 3
    rw [show (W.alloc (.cells #[.int .i64 op, .int .i64 n] 66)).heap.size = W.heap.size + 1 from by simp] at this
    exact this
  have hs2 : W.heap.size + 2 ≤ W2.heap.size := by rw [← hW2]; simp
  have HW2 := (show Hid _ from hW2)
  have hmk := mk4
  clear H0 H1 g0 g1 hc hx h hN hr0 hr1 hop c7 hk1 hW2 hm
  go_enter Tryz.func99, Tryz.ntmps99
  go_wp2_with fail
  rw [HW2.out]
  clear HW2 hmk c1 c2
  refine Calls.mono (HPt.out _ hb2) ?_
  rintro e w3 ⟨g, c, rfl, hg0, hg, d0, d1, hb3⟩
  have hB3 := hb2.trans (hb3.mono hb2.size)
  have n3 : w3.cell? ⟨W.heap.size, 0, none⟩ = some (.int .i64 op) := (hb3.cell (p := ⟨W.heap.size, 0, none⟩) (by show W.heap.size < _; omega)).trans n0
  have z3 := z2.keep hb3
  have hs3 : W.heap.size + 2 ≤ w3.heap.size := Nat.le_trans hs2 hb3.size
  have HD1 := (show Hid _ from d1)
  have hm0 : (0 : Int) < m := by omega
  clear HPt hb2 n0 z2 hb3 d1 hs2
  go_wp2_with fail
  refine Calls.mono (HH0.out _ hB3) ?_
  rintro r w4 ⟨vp, rfl, hvp, hb4⟩
  have hB4 := hB3.trans (hb4.mono hB3.size)
  have n4 : w4.cell? ⟨W.heap.size, 0, none⟩ = some (.int .i64 op) := (hb4.cell (p := ⟨W.heap.size, 0, none⟩) (by show W.heap.size < _; omega)).trans n3
  have z4 := z3.keep hb4
  have hs4 : W.heap.size + 2 ≤ w4.heap.size := Nat.le_trans hs3 hb4.size
  have HD4 : Hid (op ≠ 3 → w4.cell? ⟨g, 1, none⟩ = some (.int .i64 (r1 : Int))) := fun e => (hb4.cell (p := ⟨g, 1, none⟩) hg).trans (HD1.out e)
  clear HH0 hB3 n3 z3 hb4 hs3 HD1 d0
  cases o0 with
  | none =>
    have hR : none = O := HO.out
    subst hR
    go_wp2
    go_ret2
    exact ⟨_, rfl, fun s hs => (by cases hs), hB4⟩
  | some p =>
    have hP4 := (hvp p rfl).1
    have gp := G0.out p rfl
    have HGp := (show Hid _ from gp)
    clear hvp G0
    rw [show (some p).isSome = true from rfl]
    by_cases e3 : op = 3
    · subst e3
      have HR : Hid (okP (mulP p (numP (-1))) = O) := HO.out
      have D1 := (show Hid _ from num5 z4 (-1))
      go_wp2_with fail
      refine Calls.mono D1.out ?_
      rintro r w5 ⟨vq, rfl, hQ5, hb5⟩
      have hB5 := hB4.trans (hb5.mono hB4.size)
      have D2 := (show Hid _ from mul5 (hP4.keep hb5) hQ5 gp (num_GoodS neg_in))
      clear D1 hb5 hB4 hP4 hQ5
      go_wp2_with fail
      refine Calls.mono D2.out ?_
      rintro r w6 ⟨vz, rfl, hZ6, hb6⟩
      have hB6 := hB5.trans (hb6.mono hB5.size)
      have D3 := (show Hid _ from good5 hZ6.1 (by have := mul_few gp (num_GoodS neg_in); omega))
      have HF : Hid (∀ w7, Below w6.heap.size w6 w7 → SOf W O (.returned (.tuple #[vz, .bool (polyB (mulP p (numP (-1))))])) w7) := fun w7 hb7 => by
        rw [← HR.out]
        exact sof_ok ((hZ6.keep hb7).base hB5.size) (hB6.trans (hb7.mono hB6.size))
      generalize mulP p (numP (-1)) = S at D3 HF
      clear D2 hb6 hB5 hB6 hZ6 gp
      go_wp2_with fail
      refine Calls.mono D3.out ?_
      rintro r w7 ⟨rfl, hb7⟩
      clear D3
      go_wp2
      go_ret2
      exact HF.out _ hb7
    · have q3 : (op == 3) = false := by simpa using e3
      by_cases e7 : op = 7
      · subst e7
        have HR : Hid (okP (mulP p (numP (shlN x))) = O) := HO.out
        have hk1 := HK1.out rfl
        have d7 : w4.cell? ⟨b, off + (k - 1) * 2 + 1, none⟩ = some (.int .i64 x) := (hB4.cell (p := ⟨b, off + (k - 1) * 2 + 1, none⟩) hbl).trans (HC7.out rfl)
        have hkk : (k : Int) - 1 = ((k - 1 : Nat) : Int) := by omega
        obtain ⟨j, hj⟩ : ∃ j, k - 1 = j := ⟨_, rfl⟩
        rw [hj] at d7 hkk
        have hjl : j < len := by omega
        have hjl' : (j : Int) < len := by omega
        have D1 := (show Hid _ from num5 z4 (shlN x))
        have hm63 : (0 : Int) ≤ x % 64 ∧ x % 64 ≤ 63 := by omega
        obtain ⟨hm0', hm1'⟩ := hm63
        have eS : shlN x = wrap64 (2 ^ (x % 64).toNat) := rfl
        rw [eS] at D1
        clear hj
        go_wp2_with fail
        refine Calls.mono D1.out ?_
        rintro r w5 ⟨vq, rfl, hQ5, hb5⟩
        have hB5 := hB4.trans (hb5.mono hB4.size)
        have D2 := (show Hid _ from mul5 (hP4.keep hb5) hQ5 gp (num_GoodS (wrap_in _)))
        clear D1 hb5 hB4 hP4 d7
        go_wp2_with fail
        refine Calls.mono D2.out ?_
        rintro r w6 ⟨vz, rfl, hZ6, hb6⟩
        have hB6 := hB5.trans (hb6.mono hB5.size)
        have D3 := (show Hid _ from good5 hZ6.1 (by have := mul_few gp (num_GoodS (wrap_in (2 ^ (x % 64).toNat))); omega))
        have HF : Hid (∀ w7, Below w6.heap.size w6 w7 → SOf W O (.returned (.tuple #[vz, .bool (polyB (mulP p (numP (wrap64 (2 ^ (x % 64).toNat)))))])) w7) := fun w7 hb7 => by
          rw [← HR.out]
          exact sof_ok ((hZ6.keep hb7).base hB5.size) (hB6.trans (hb7.mono hB6.size))
        generalize mulP p (numP (wrap64 (2 ^ (x % 64).toNat))) = S at D3 HF
        clear D2 hb6 hB5 hB6 hZ6 gp eS
        go_wp2_with fail
        refine Calls.mono D3.out ?_
        rintro r w7 ⟨rfl, hb7⟩
        clear D3
        go_wp2
        go_ret2
        exact HF.out _ hb7
      · have q7 : (op == 7) = false := by simpa using e7
        obtain rfl := h2 e3
        have d1 := HD4.out e3
        clear HC7 HK1
        go_wp2_with fail
        refine Calls.mono (HH1.out e3 e7 _ hB4) ?_
        rintro r w5 ⟨vq, rfl, hvq, hb5⟩
        have hB5 := hB4.trans (hb5.mono hB4.size)
        have n5 : w5.cell? ⟨W.heap.size, 0, none⟩ = some (.int .i64 op) := (hb5.cell (p := ⟨W.heap.size, 0, none⟩) (by show W.heap.size < _; omega)).trans n4
        have z5 := z4.keep hb5
        have hP5 := hP4.keep hb5
        clear HH1 hB4 n4 z4 hb5 hP4 HD4 d1
        cases o1 with
        | none =>
          have hR : none = O := by rw [← HO.out]; unfold opR; simp only; rw [if_neg e3, if_neg e7]
          subst hR
          go_wp2
          go_ret2
          exact ⟨_, rfl, fun s hs => (by cases hs), hB5⟩
        | some qq =>
          have hR : O = okP (twoP op p qq) := by rw [← HO.out]; unfold opR; simp only; rw [if_neg e3, if_neg e7]
          have hQ5 := (hvq qq rfl).1
          have gq := G1.out qq rfl
          clear hvq G1
          rw [show (some qq).isSome = true from rfl]
          have h456 : op = 4 ∨ op = 5 ∨ op = 6 := by omega
          rcases h456 with rfl | rfl | rfl
          · have hT : twoP 4 p qq = addP p qq := by unfold twoP; rw [if_pos rfl]
            rw [hT] at hR
            have HR := (show Hid _ from hR.symm)
            clear hR
            have D2 := (show Hid _ from add5 hP5 hQ5 (by have := poly_len gp.1; omega) (by have := poly_len gq.1; omega) gp.fine gq.fine)
            go_wp2_with fail
            refine Calls.mono D2.out ?_
            rintro r w6 ⟨vz, rfl, hZ6, hb6⟩
            have hB6 := hB5.trans (hb6.mono hB5.size)
            have D3 := (show Hid _ from good5 hZ6.1 (by have := (addP_ok gp.fine gq.fine).2.1; have := poly_len gp.1; have := poly_len gq.1; omega))
            have HF : Hid (∀ w7, Below w6.heap.size w6 w7 → SOf W O (.returned (.tuple #[vz, .bool (polyB (addP p qq))])) w7) := fun w7 hb7 => by
              rw [← HR.out]
              exact sof_ok ((hZ6.keep hb7).base hB5.size) (hB6.trans (hb7.mono hB6.size))
            generalize addP p qq = S at D3 HF
            clear D2 hb6 hB5 hB6 hZ6 gp gq hP5 hQ5 hT
            go_wp2_with fail
            refine Calls.mono D3.out ?_
            rintro r w7 ⟨rfl, hb7⟩
            clear D3
            go_wp2
            go_ret2
            exact HF.out _ hb7
          · have hT : twoP 5 p qq = addP p (mulP qq (numP (-1))) := by unfold twoP; rw [if_neg (by decide), if_pos rfl]
            rw [hT] at hR
            have HR := (show Hid _ from hR.symm)
            clear hR
            have D1 := (show Hid _ from num5 z5 (-1))
            go_wp2_with fail
            refine Calls.mono D1.out ?_
            rintro r w6 ⟨vn, rfl, hN6, hb6⟩
            have hB6 := hB5.trans (hb6.mono hB5.size)
            have D2 := (show Hid _ from mul5 (hQ5.keep hb6) hN6 gq (num_GoodS neg_in))
            have hP6 := hP5.keep hb6
            clear D1 hb6 hB5 hP5 hQ5 hN6
            go_wp2_with fail
            refine Calls.mono D2.out ?_
            rintro r w8 ⟨vm, rfl, hM8, hb8⟩
            have hB8 := hB6.trans (hb8.mono hB6.size)
            have hMs := (mulP_ok gq.len (num_GoodS neg_in).len).1
            have hMf := mul_few gq (num_GoodS neg_in)
            have D4 := (show Hid _ from add5 (hP6.keep hb8) hM8.1 (by have := poly_len gp.1; omega) (by omega) gp.fine (sum_fine hMs))
            have hAl := (addP_ok gp.fine (sum_fine hMs)).2.1
            have hpl := poly_len gp.1
            obtain ⟨S, hS⟩ : ∃ S, addP p (mulP qq (numP (-1))) = S := ⟨_, rfl⟩
            rw [hS] at D4 hAl
            have HSe := (show Hid _ from hS)
            clear hS
            clear D2 hb8 hB6 hP6 hM8 hMs gp gq
            go_wp2_with fail
            refine Calls.mono D4.out ?_
            rintro r w6 ⟨vz, rfl, hZ6, hb6⟩
            have hB6 := hB8.trans (hb6.mono hB8.size)
            have D3 := (show Hid _ from good5 hZ6.1 (by omega))
            have HF : Hid (∀ w7, Below w6.heap.size w6 w7 → SOf W O (.returned (.tuple #[vz, .bool (polyB S)])) w7) := fun w7 hb7 => by
              rw [← HR.out, HSe.out]
              exact sof_ok ((hZ6.keep hb7).base hB8.size) (hB6.trans (hb7.mono hB6.size))
            clear D4 hb6 hB8 hB6 hZ6 hMf hAl hpl
            go_wp2_with fail
            refine Calls.mono D3.out ?_
            rintro r w7 ⟨rfl, hb7⟩
            clear D3
            go_wp2
            go_ret2
            exact HF.out _ hb7
          · have hT : twoP 6 p qq = mulP p qq := by unfold twoP; rw [if_neg (by decide), if_neg (by decide)]
            rw [hT] at hR
            have HR := (show Hid _ from hR.symm)
            clear hR
            have D2 := (show Hid _ from mul5 hP5 hQ5 gp gq)
            go_wp2_with fail
            refine Calls.mono D2.out ?_
            rintro r w6 ⟨vz, rfl, hZ6, hb6⟩
            have hB6 := hB5.trans (hb6.mono hB5.size)
            have D3 := (show Hid _ from good5 hZ6.1 (by have := mul_few gp gq; omega))
            have HF : Hid (∀ w7, Below w6.heap.size w6 w7 → SOf W O (.returned (.tuple #[vz, .bool (polyB (mulP p qq))])) w7) := fun w7 hb7 => by
              rw [← HR.out]
              exact sof_ok ((hZ6.keep hb7).base hB5.size) (hB6.trans (hb7.mono hB6.size))
            generalize mulP p qq = S at D3 HF
            clear D2 hb6 hB5 hB6 hZ6 gp gq hP5 hQ5 hT
            go_wp2_with fail
            refine Calls.mono D3.out ?_
            rintro r w7 ⟨rfl, hb7⟩
            clear D3
            go_wp2
            go_ret2
            exact HF.out _ hb7
end Go.Proofs.YtkadanagmahhgaaGreatDoor
namespace Go.Proofs.YtkadanagmahhgaaGreatDoor
open Go.ChangeShapes Go.WideShapes Go.ChangeAt Go.RowKit
set_option linter.unusedVariables false

/-- Is the node at k one of sums and products? -/
def ringAt (l : List (Int × Int)) (k : Nat) : Bool := if (l.getD k (0, 0)).1 = 7 then decide ((l.getD (k - 1) (0, 0)).1 = 1) else decide ((l.getD k (0, 0)).1 ≤ 6)
def ringB (l : List (Int × Int)) : Bool := (List.range l.length).all (ringAt l)
theorem ring_no {l : List (Int × Int)} {k : Nat} (hk : k < l.length) (h : ringAt l k = false) : ringB l = false := by
  unfold ringB
  rw [Bool.eq_false_iff]
  intro e
  rw [List.all_eq_true] at e
  have := e k (List.mem_range.2 hk)
  rw [h] at this
  cases this
theorem ring_yes {l : List (Int × Int)} (h : ∀ k, k < l.length → ringAt l k = true) : ringB l = true := by
  unfold ringB
  rw [List.all_eq_true]
  exact fun k hk => h k (List.mem_range.1 hk)
/-- What a good term's ops are. -/
theorem good_ops {l : List (Int × Int)} {q : Int} (h : pile l 0 = some q) (k : Nat) (hk : k < l.length) : 1 ≤ (l.getD k (0, 0)).1 ∧ (l.getD k (0, 0)).1 ≤ 11 ∧ ((l.getD k (0, 0)).1 = 7 → 1 ≤ k) := by
  obtain ⟨c1, c2, _⟩ := fits_iff _ _ _ _ (cnt_step h k hk).1
  have h0 := (cnt_le h k (by omega)).2
  have hr : 1 ≤ (l.getD k (0, 0)).1 ∧ (l.getD k (0, 0)).1 ≤ 11 := by
    by_cases h : 1 ≤ (l.getD k (0, 0)).1 ∧ (l.getD k (0, 0)).1 ≤ 11
    · exact h
    · have := ar_out (l.getD k (0, 0)).1 (by omega); omega
  refine ⟨hr.1, hr.2, fun h7 => ?_⟩
  rw [h7] at c2
  have : ar 7 = 2 := rfl
  omega
set_option maxHeartbeats 1600000 in
theorem l4Ring_any {l : List (Int × Int)} (hops : ∀ k, k < l.length → 1 ≤ (l.getD k (0, 0)).1 ∧ (l.getD k (0, 0)).1 ≤ 11 ∧ ((l.getD k (0, 0)).1 = 7 → 1 ≤ k)) (a : Option Addr) (len cap : Nat) (w : World) (h : NSl w a len l) (hm : len ≤ 1048576) :
    Calls Tryz.prog 64 #[.slice a len cap] w fun e w' => e = .returned (.bool (ringB l)) ∧ Below w.heap.size w w' := by
  have hll := h.1
  have HO := (show Hid _ from hops)
  clear hops
  go_enter Tryz.func64, Tryz.ntmps64
  go_wp2_with fail
  go_loopw [7] (fun i wr => ∃ k : Nat, k ≤ len ∧ i = .int .i64 (k : Int) ∧ Below w.heap.size w wr ∧ Hid (∀ j, j < k → ringAt l j = true)) (fun i _ => len - (intOf i).toNat)
  case atStart => exact ⟨0, Nat.zero_le _, rfl, Below.refl _ _, fun j hj => absurd hj (by omega)⟩
  case round =>
    obtain ⟨k, hk, rfl, hbr, HT⟩ := hrel
    by_cases hlt : k < len
    · obtain ⟨b, off, rfl, hbl, hc⟩ := (h.keep hbr).at (by omega)
      obtain ⟨c1, c2⟩ := hc k hlt
      obtain ⟨o1, o2, o3⟩ := HO.out k (by omega)
      have hB := hbr.alloc hbr.size (.cells #[.int .i64 (l.getD k (0, 0)).1, .int .i64 (l.getD k (0, 0)).2] 66)
      have hne : ¬ b = wr.heap.size := by omega
      have hR : ringAt l k = if (l.getD k (0, 0)).1 = 7 then decide ((l.getD (k - 1) (0, 0)).1 = 1) else decide ((l.getD k (0, 0)).1 ≤ 6) := rfl
      have i1 : (k : Int) < len := by omega
      by_cases h7 : (l.getD k (0, 0)).1 = 7
      · have hk1 := o3 h7
        obtain ⟨d1, d2⟩ := hc (k - 1) (by omega)
        obtain ⟨j, rfl⟩ : ∃ j, k = j + 1 := ⟨k - 1, by omega⟩
        rw [show j + 1 - 1 = j from by omega] at d1 d2 hR
        rw [if_pos h7] at hR
        rw [h7] at c1 hB
        have jj : (j : Int) < len := by omega
        generalize (l.getD (j + 1) (0, 0)).2 = y at c2 hB
        generalize (l.getD j (0, 0)).1 = x at d1 hR
        clear hc o1 o2 o3 h7 d2
        by_cases hx : x = 1
        · have hz : (x != 1) = false := by simp [hx]
          have HN : Hid (∀ i, i < j + 1 + 1 → ringAt l i = true) := fun i hi => by
            by_cases e : i = j + 1
            · rw [e, hR, decide_eq_true hx]
            · exact HT.out i (by omega)
          clear hR HT hx
          go_wp2
          go_roundw
          case rel => exact ⟨j + 1 + 1, by omega, by go_num, hB, HN⟩
          case measure => simp [intOf]; omega
        · have hz : (x != 1) = true := by simpa using hx
          have HN : Hid (ringB l = false) := ring_no (k := j + 1) (by omega) (by rw [hR, decide_eq_false hx])
          clear hR HT hx
          go_wp2
          go_ret
          exact ⟨by rw [HN.out]; rfl, hB⟩
      · rw [if_neg h7] at hR
        generalize (l.getD k (0, 0)).2 = y at c2 hB
        generalize (l.getD k (0, 0)).1 = x at c1 hB hR o1 o2 h7
        clear hc o3
        by_cases hx : x ≤ 6
        · have e8 : (x == 8) = false := by simp; omega
          have e9 : (x == 9) = false := by simp; omega
          have e10 : (x == 10) = false := by simp; omega
          have e11 : (x == 11) = false := by simp; omega
          have e7 : (x == 7) = false := by simp; omega
          have HN : Hid (∀ i, i < k + 1 → ringAt l i = true) := fun i hi => by
            by_cases e : i = k
            · rw [e, hR, decide_eq_true hx]
            · exact HT.out i (by omega)
          clear hR HT hx h7
          go_wp2
          go_roundw
          case rel => exact ⟨k + 1, by omega, by go_num, hB, HN⟩
          case measure => simp [intOf]; omega
        · have HN : Hid (ringB l = false) := ring_no (k := k) (by omega) (by rw [hR, decide_eq_false hx])
          have hx' : x = 8 ∨ x = 9 ∨ x = 10 ∨ x = 11 := by omega
          clear hR HT hx h7 o1 o2
          rcases hx' with rfl | rfl | rfl | rfl
          all_goals
            go_wp2
            go_ret
            exact ⟨by rw [HN.out]; rfl, hB⟩
    · obtain rfl : k = len := by omega
      have HN : Hid (ringB l = true) := ring_yes (fun i hi => HT.out i (by omega))
      clear HT
      go_wp2
      go_ret
      exact ⟨by rw [HN.out]; rfl, hbr⟩
/-- What IsRing tells. -/
def isRingB (l : List (Int × Int)) : Bool := goodB l && ringB l
end Go.Proofs.YtkadanagmahhgaaGreatDoor
namespace Go.Proofs.YtkadanagmahhgaaGreatDoor
open Go.ChangeShapes Go.WideShapes Go.ChangeAt Go.RowKit
set_option linter.unusedVariables false

theorem vars4 {l : List (Int × Int)} {q : Int} (h : pile l 0 = some q) : ∀ j, (l.getD j (0, 0)).1 = 2 → (l.getD j (0, 0)).2.toNat < 4 := fun j h2 => by
  by_cases hj : j < l.length
  · obtain ⟨_, _, a3, _⟩ := fits_iff _ _ _ _ (cnt_step h j hj).1
    have := a3 h2
    omega
  · rw [List.getD_eq_getElem?_getD, List.getElem?_eq_none (by omega)] at h2
    cases h2
theorem ring_ops {l : List (Int × Int)} (hr : ringB l = true) {k : Nat} (hk : k < l.length) : (l.getD k (0, 0)).1 ≤ 6 ∨ ((l.getD k (0, 0)).1 = 7 ∧ (l.getD (k - 1) (0, 0)).1 = 1) := by
  unfold ringB at hr
  rw [List.all_eq_true] at hr
  have := hr k (List.mem_range.2 hk)
  unfold ringAt at this
  by_cases h7 : (l.getD k (0, 0)).1 = 7
  · rw [if_pos h7] at this; exact .inr ⟨h7, of_decide_eq_true this⟩
  · rw [if_neg h7] at this; exact .inl (of_decide_eq_true this)
/-- The sum of a term; none: it is no ring term, or its sum is too great. -/
def ofT (l : List (Int × Int)) : Option (List Mon) := if isRingB l = true then ofF l l.length (l.length - 1) else none
end Go.Proofs.YtkadanagmahhgaaGreatDoor
