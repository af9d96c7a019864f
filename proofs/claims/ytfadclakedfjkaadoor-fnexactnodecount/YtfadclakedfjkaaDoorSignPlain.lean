/-
  PROVED HERE: plain facts: which sign is read at a place, sign by sign. No condition.
-/
import Derived.Test.YtfadclakedfjkaaDoorIEnv
namespace Go.Proofs.YtfadclakedfjkaaDoor
set_option linter.unusedVariables false
/-- Does the sign of an op stand at a place? -/
def smatch (s : List UInt8) (a : Nat) (n : Nat) : Bool :=
  if n = 4 then byteIs s a 43 else if n = 5 then byteIs s a 45 else if n = 6 then byteIs s a 42 else if n = 7 then byteIs s a 60 && byteIs s (a + 1) 60
  else if n = 8 then byteIs s a 47 else if n = 9 then byteIs s a 61 && byteIs s (a + 1) 61 else byteIs s a 60
def Nosign (s : List UInt8) (a : Nat) (n : Nat) : Prop := ∀ m, 4 ≤ m → m < n → smatch s a m = false
theorem Nosign.start (s : List UInt8) (a : Nat) : Nosign s a 4 := fun m h1 h2 => by omega
theorem Nosign.next {s : List UInt8} {a n : Nat} (h : Nosign s a n) (hn : smatch s a n = false) : Nosign s a (n + 1) := fun m h1 h2 => by
  by_cases e : m = n
  · rw [e]; exact hn
  · exact h m h1 (by omega)
theorem Nosign.hit {s : List UInt8} {a n : Nat} (h : Nosign s a n) (h4 : 4 ≤ n) (h10 : n ≤ 10) (hn : smatch s a n = true) : twoR s a = ((n : Int), a + (signB (n : Int)).length) := by
  have g4 : 4 < n → byteIs s a 43 = false := fun x => h 4 (by decide) x
  have g5 : 5 < n → byteIs s a 45 = false := fun x => h 5 (by decide) x
  have g6 : 6 < n → byteIs s a 42 = false := fun x => h 6 (by decide) x
  have g7 : 7 < n → (byteIs s a 60 && byteIs s (a + 1) 60) = false := fun x => h 7 (by decide) x
  have g8 : 8 < n → byteIs s a 47 = false := fun x => h 8 (by decide) x
  have g9 : 9 < n → (byteIs s a 61 && byteIs s (a + 1) 61) = false := fun x => h 9 (by decide) x
  unfold twoR
  rcases (show n = 4 ∨ n = 5 ∨ n = 6 ∨ n = 7 ∨ n = 8 ∨ n = 9 ∨ n = 10 by omega) with rfl | rfl | rfl | rfl | rfl | rfl | rfl
  · rw [if_pos (show byteIs s a 43 = true from hn)]; rfl
  · rw [g4 (by decide), if_neg (by decide), if_pos (show byteIs s a 45 = true from hn)]; rfl
  · rw [g4 (by decide), if_neg (by decide), g5 (by decide), if_neg (by decide), if_pos (show byteIs s a 42 = true from hn)]; rfl
  · rw [g4 (by decide), if_neg (by decide), g5 (by decide), if_neg (by decide), g6 (by decide), if_neg (by decide), if_pos (show (byteIs s a 60 && byteIs s (a + 1) 60) = true from hn)]; rfl
  · rw [g4 (by decide), if_neg (by decide), g5 (by decide), if_neg (by decide), g6 (by decide), if_neg (by decide), g7 (by decide), if_neg (by decide), if_pos (show byteIs s a 47 = true from hn)]; rfl
  · rw [g4 (by decide), if_neg (by decide), g5 (by decide), if_neg (by decide), g6 (by decide), if_neg (by decide), g7 (by decide), if_neg (by decide), g8 (by decide), if_neg (by decide), if_pos (show (byteIs s a 61 && byteIs s (a + 1) 61) = true from hn)]; rfl
  · rw [g4 (by decide), if_neg (by decide), g5 (by decide), if_neg (by decide), g6 (by decide), if_neg (by decide), g7 (by decide), if_neg (by decide), g8 (by decide), if_neg (by decide), g9 (by decide), if_neg (by decide), if_pos (show byteIs s a 60 = true from hn)]; rfl
theorem Nosign.none {s : List UInt8} {a : Nat} (h : Nosign s a 11) : twoR s a = (0, if byteIs s a 61 = true then a + 1 else a) ∧ byteIs s a 60 = false := by
  have g4 : byteIs s a 43 = false := h 4 (by decide) (by decide)
  have g5 : byteIs s a 45 = false := h 5 (by decide) (by decide)
  have g6 : byteIs s a 42 = false := h 6 (by decide) (by decide)
  have g7 : (byteIs s a 60 && byteIs s (a + 1) 60) = false := h 7 (by decide) (by decide)
  have g8 : byteIs s a 47 = false := h 8 (by decide) (by decide)
  have g9 : (byteIs s a 61 && byteIs s (a + 1) 61) = false := h 9 (by decide) (by decide)
  have g10 : byteIs s a 60 = false := h 10 (by decide) (by decide)
  refine ⟨?_, g10⟩
  unfold twoR
  rw [g4, if_neg (by decide), g5, if_neg (by decide), g6, if_neg (by decide), g7, if_neg (by decide), g8, if_neg (by decide), g9, if_neg (by decide), g10, if_neg (by decide)]
  split <;> rfl
/-- How far signs were read that broke off. -/
def Far (s : List UInt8) (a k n F : Nat) : Prop := (F = k ∨ F = k + 1) ∧ (F = k + 1 → byteIs s a 60 = true ∨ byteIs s a 61 = true) ∧ (9 < n → byteIs s a 61 = true → F = k + 1)
theorem Far.start (s : List UInt8) (a k : Nat) : Far s a k 4 k := ⟨.inl rfl, fun h => by omega, fun h => by omega⟩
theorem Far.stay {s : List UInt8} {a k n F : Nat} (h : Far s a k n F) (h9 : n = 9 → byteIs s a 61 = false) : Far s a k (n + 1) F := ⟨h.1, h.2.1, fun h1 h2 => by
  by_cases e : n = 9
  · rw [h9 e] at h2; cases h2
  · exact h.2.2 (by omega) h2⟩
theorem Far.on {s : List UInt8} {a k n F : Nat} (h : Far s a k n F) (hb : byteIs s a 60 = true ∨ byteIs s a 61 = true) : Far s a k (n + 1) (k + 1) := ⟨.inr rfl, fun _ => hb, fun _ _ => rfl⟩
end Go.Proofs.YtfadclakedfjkaaDoor
