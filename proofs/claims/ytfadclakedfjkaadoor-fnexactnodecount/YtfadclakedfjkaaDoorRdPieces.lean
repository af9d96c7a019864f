/-
  PROVED HERE: the pieces of the plain reading. No condition.
-/
import Derived.Test.YtfadclakedfjkaaDoorReadBack
namespace Go.Proofs.YtfadclakedfjkaaDoor
set_option linter.unusedVariables false

/-- The last part in brackets, and what closes them. -/
noncomputable def lastR (s : List UInt8) (f : Nat) (op : Int) (a : Nat) (out : List (Int × Int)) : Rd :=
  let r := thenB s 41 (readT s f a out)
  if r.1 = false then r else (true, r.2.1, r.2.2 ++ [(op, 0)])
noncomputable def sidesR (s : List UInt8) (f : Nat) (a : Nat) (out : List (Int × Int)) : Rd :=
  let r := thenB s 58 (readT s f a out)
  if r.1 = false then r else lastR s f 11 r.2.1 r.2.2
noncomputable def insideR (s : List UInt8) (f : Nat) (a : Nat) (out : List (Int × Int)) : Rd :=
  let r := readT s f a out
  if r.1 = false then r
  else if byteIs s r.2.1 63 = true then sidesR s f (r.2.1 + 1) r.2.2
  else
    let t := twoR s r.2.1
    if t.1 = 0 then (false, t.2, r.2.2) else lastR s f t.1 t.2 r.2.2
theorem read_end {s : List UInt8} {f a : Nat} {out : List (Int × Int)} (h : a = s.length) : readT s (f + 1) a out = (false, a, out) := by rw [readT, if_pos h]
theorem read_num {s : List UInt8} {f a : Nat} {out : List (Int × Int)} (h : a < s.length) (h1 : (isD (s.getD a 0) || s.getD a 0 == 45) = true) : readT s (f + 1) a out = numR s a out := by rw [readT, if_neg (by omega), if_pos h1]
theorem read_var {s : List UInt8} {f a : Nat} {out : List (Int × Int)} (h : a < s.length) (h1 : 97 ≤ (s.getD a 0).toNat ∧ (s.getD a 0).toNat < 101) : readT s (f + 1) a out = (true, a + 1, out ++ [(2, (((s.getD a 0).toNat - 97 : Nat) : Int))]) := by
  rw [readT, if_neg (by omega), if_neg, if_pos]
  · rw [decide_eq_true h1.1, decide_eq_true h1.2]; rfl
  · have e1 : isD (s.getD a 0) = false := by unfold isD; exact decide_eq_false (by omega)
    have e2 : (s.getD a 0 == 45) = false := by rw [beq_eq_false_iff_ne]; intro e; rw [e] at h1; exact absurd h1.1 (by decide)
    rw [e1, e2]; decide
theorem read_neg {s : List UInt8} {f a : Nat} {out : List (Int × Int)} (h : a < s.length) (h1 : s.getD a 0 = 126) : readT s (f + 1) a out = ((readT s f (a + 1) out).1, (readT s f (a + 1) out).2.1, (readT s f (a + 1) out).2.2 ++ [(3, 0)]) := by
  rw [readT, if_neg (by omega), h1, if_neg (by decide), if_neg (by decide), if_pos (by decide)]
theorem read_open {s : List UInt8} {f a : Nat} {out : List (Int × Int)} (h : a < s.length) (h1 : s.getD a 0 = 40) : readT s (f + 1) a out = insideR s f (a + 1) out := by
  rw [readT, if_neg (by omega), h1, if_neg (by decide), if_neg (by decide), if_neg (by decide), if_neg (by decide)]
  rfl
theorem read_bad {s : List UInt8} {f a : Nat} {out : List (Int × Int)} (h : a < s.length) (h1 : (isD (s.getD a 0) || s.getD a 0 == 45) = false) (h2 : ¬ (97 ≤ (s.getD a 0).toNat ∧ (s.getD a 0).toNat < 101)) (h3 : s.getD a 0 ≠ 126) (h4 : s.getD a 0 ≠ 40) : readT s (f + 1) a out = (false, a, out) := by
  rw [readT, if_neg (by omega), if_neg (by rw [h1]; decide), if_neg, if_neg (by simpa using h3), if_pos (by simpa using h4)]
  simp only [Bool.and_eq_true, decide_eq_true_eq]
  exact h2
theorem then_ok (s : List UInt8) (f a : Nat) (b : UInt8) (out : List (Int × Int)) (ha : a ≤ s.length) (ho : out.length ≤ a) : a ≤ (thenB s b (readT s f a out)).2.1 ∧ (thenB s b (readT s f a out)).2.1 ≤ s.length ∧ (thenB s b (readT s f a out)).2.2.length ≤ (thenB s b (readT s f a out)).2.1 := by
  obtain ⟨h1, h2, h3, _⟩ := thenB_ok (c := 0) (b := b) (readT_ok s f a out ha)
  exact ⟨h1, h2, by omega⟩
theorem part_ok (s : List UInt8) (f a : Nat) (out : List (Int × Int)) (ha : a ≤ s.length) (ho : out.length ≤ a) : a ≤ (readT s f a out).2.1 ∧ (readT s f a out).2.1 ≤ s.length ∧ (readT s f a out).2.2.length ≤ (readT s f a out).2.1 := by
  obtain ⟨h1, h2, h3, _⟩ := readT_ok s f a out ha
  exact ⟨h1, h2, by omega⟩
end Go.Proofs.YtfadclakedfjkaaDoor
