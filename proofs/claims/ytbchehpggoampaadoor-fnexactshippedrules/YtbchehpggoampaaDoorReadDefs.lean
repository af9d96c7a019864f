/-
  PROVED HERE: plain functions: how a term is read from a text. No condition.
-/
import Derived.Test.YtbchehpggoampaaDoorTextDefs
import Derived.Test.YtbchehpggoampaaDoorBase
import Derived.Test.YtbchehpggoampaaDoorDigits
namespace Go.Proofs.YtbchehpggoampaaDoor
set_option linter.unusedVariables false

def isD (b : UInt8) : Bool := decide (48 ≤ b.toNat ∧ b.toNat ≤ 57)
/-- Where the digits from e on end. -/
def digEnd (s : List UInt8) (e : Nat) : Nat := e + ((s.drop e).takeWhile isD).length
def numEnd (s : List UInt8) (at_ : Nat) : Nat := digEnd s (if s.getD at_ 0 = 45 then at_ + 1 else at_)
/-- The number whose text it is. -/
def numOf (t : List UInt8) : Option Int := match Lib.parseIntB 64 t with
  | .ok n => if Lib.itoa n = t then some n else none
  | _ => none
theorem numOf_some {t : List UInt8} {n : Int} (h : numOf t = some n) : InI n ∧ Lib.itoa n = t := by
  unfold numOf at h
  split at h
  · next m hm =>
    split at h
    · next e =>
      have hb := Lib.parseIntB_bounds hm
      have p63 : 2 ^ (64 - 1) = 9223372036854775808 := by decide
      rw [p63] at hb
      rw [← Option.some.inj h]
      exact ⟨by unfold InI; omega, e⟩
    · cases h
  · cases h
theorem numOf_none {t : List UInt8} (h : numOf t = none) : ∀ n, InI n → Lib.itoa n ≠ t := by
  intro n hn e
  have hp := parse_itoa n hn.1 hn.2
  rw [e] at hp
  unfold numOf at h
  rw [hp] at h
  simp only [e, if_true] at h
  cases h
def byteIs (s : List UInt8) (at_ : Nat) (b : UInt8) : Bool := decide (at_ < s.length) && (s.getD at_ 0 == b)
/-- What stands behind the first part in brackets. -/
def twoR (s : List UInt8) (a : Nat) : Int × Nat :=
  if byteIs s a 43 = true then (4, a + 1) else if byteIs s a 45 = true then (5, a + 1) else if byteIs s a 42 = true then (6, a + 1)
  else if (byteIs s a 60 && byteIs s (a + 1) 60) = true then (7, a + 2) else if byteIs s a 47 = true then (8, a + 1)
  else if (byteIs s a 61 && byteIs s (a + 1) 61) = true then (9, a + 2) else if byteIs s a 60 = true then (10, a + 1)
  else if byteIs s a 61 = true then (0, a + 1) else (0, a)
abbrev Rd := Bool × Nat × List (Int × Int)
def numR (s : List UInt8) (a : Nat) (out : List (Int × Int)) : Rd :=
  match numOf ((s.drop a).take (numEnd s a - a)) with
  | some n => (true, numEnd s a, out ++ [(1, n)])
  | none => if (s.getD a 0 == 45 && decide (numEnd s a = a + 1)) = true then (false, a + 1, out) else (false, a, out)
/-- Behind a part: the byte b must stand there. -/
def thenB (s : List UInt8) (b : UInt8) (r : Rd) : Rd := if r.1 = true then (if byteIs s r.2.1 b = true then (true, r.2.1 + 1, r.2.2) else (false, r.2.1, r.2.2)) else r
/-- How a term is read from a place on (with so much fuel): whether, up to where, and what. -/
def readT (s : List UInt8) : Nat → Nat → List (Int × Int) → Rd
  | 0, a, out => (false, a, out)
  | f + 1, a, out =>
    if a = s.length then (false, a, out)
    else if (isD (s.getD a 0) || s.getD a 0 == 45) = true then numR s a out
    else if (decide (97 ≤ (s.getD a 0).toNat) && decide ((s.getD a 0).toNat < 101)) = true then (true, a + 1, out ++ [(2, (((s.getD a 0).toNat - 97 : Nat) : Int))])
    else if (s.getD a 0 == 126) = true then
      ((readT s f (a + 1) out).1, (readT s f (a + 1) out).2.1, (readT s f (a + 1) out).2.2 ++ [(3, 0)])
    else if (s.getD a 0 == 40) = false then (false, a, out)
    else
      let r1 := readT s f (a + 1) out
      if r1.1 = false then r1
      else if byteIs s r1.2.1 63 = true then
        let r2 := thenB s 58 (readT s f (r1.2.1 + 1) r1.2.2)
        if r2.1 = false then r2
        else
          let r3 := thenB s 41 (readT s f r2.2.1 r2.2.2)
          if r3.1 = false then r3 else (true, r3.2.1, r3.2.2 ++ [(11, 0)])
      else
        let t := twoR s r1.2.1
        if t.1 = 0 then (false, t.2, r1.2.2)
        else
          let r2 := thenB s 41 (readT s f t.2 r1.2.2)
          if r2.1 = false then r2 else (true, r2.2.1, r2.2.2 ++ [(t.1, 0)])
end Go.Proofs.YtbchehpggoampaaDoor
