/-
  PROVED HERE: plain facts on the marks of a text: which pieces of it are read as one. No condition.
-/
import Derived.Test.YtbchehpggoampaaDoorPlainRead
import Derived.Laws.RangeAny
namespace Go.Proofs.YtbchehpggoampaaDoor
set_option linter.unusedVariables false

/-- Where the mark behind the one at a begins. -/
def nextAt (s : List UInt8) (a : Nat) : Nat := if isD (s.getD a 0) = true then digEnd s a else a + 1
/-- The marks of a text from a place on: a place and what stands there; -1 at the end; behind what is no ASCII anything may follow. -/
def MkAt (s : List UInt8) : List (Int × Int) → Nat → Prop
  | [], _ => False
  | (x, c) :: rest, a => x = (a : Int) ∧ ((a = s.length ∧ c = -1 ∧ rest = []) ∨ (a < s.length ∧ 128 ≤ (s.getD a 0).toNat ∧ 128 ≤ c) ∨ (a < s.length ∧ (s.getD a 0).toNat < 128 ∧ c = ((s.getD a 0).toNat : Int) ∧ MkAt s rest (nextAt s a)))
theorem MkAt.fin {s : List UInt8} : MkAt s [((s.length : Int), -1)] s.length := ⟨rfl, .inl ⟨rfl, rfl, rfl⟩⟩
theorem MkAt.high {s : List UInt8} (a : Nat) (c : Int) (rest : List (Int × Int)) (h1 : a < s.length) (h2 : 128 ≤ (s.getD a 0).toNat) (h3 : 128 ≤ c) : MkAt s (((a : Int), c) :: rest) a := ⟨rfl, .inr (.inl ⟨h1, h2, h3⟩)⟩
theorem MkAt.low {s : List UInt8} (a : Nat) (rest : List (Int × Int)) (h1 : a < s.length) (h2 : (s.getD a 0).toNat < 128) (h3 : MkAt s rest (nextAt s a)) : MkAt s (((a : Int), ((s.getD a 0).toNat : Int)) :: rest) a := ⟨rfl, .inr (.inr ⟨h1, h2, rfl, h3⟩)⟩
theorem MkAt.head {s : List UInt8} {M : List (Int × Int)} {a : Nat} (h : MkAt s M a) : ∃ c rest, M = ((a : Int), c) :: rest ∧ a ≤ s.length ∧ (a = s.length → c = -1) ∧ (a < s.length → 0 ≤ c ∧ ((s.getD a 0).toNat < 128 → c = (s.getD a 0).toNat ∧ MkAt s rest (nextAt s a)) ∧ (128 ≤ (s.getD a 0).toNat → 128 ≤ c)) := by
  match M, h with
  | (x, c) :: rest, ⟨hx, h⟩ =>
    subst hx
    rcases h with ⟨h1, h2, h3⟩ | ⟨h1, h2, h3⟩ | ⟨h1, h2, h3, h4⟩
    · exact ⟨c, rest, rfl, by omega, fun _ => h2, fun h => by omega⟩
    · exact ⟨c, rest, rfl, by omega, fun h => by omega, fun _ => ⟨by omega, fun h => by omega, fun _ => h3⟩⟩
    · exact ⟨c, rest, rfl, by omega, fun h => by omega, fun _ => ⟨by omega, fun _ => ⟨h3, h4⟩, fun h => by omega⟩⟩
/-- What a byte is to a mark: the mark at a is the byte b (ASCII) just where b stands there. -/
theorem MkAt.is {s : List UInt8} {M : List (Int × Int)} {a : Nat} (h : MkAt s M a) (b : UInt8) (hb : b.toNat < 128) : ((M.getD 0 (0, 0)).2 == (b.toNat : Int)) = byteIs s a b := by
  obtain ⟨c, rest, rfl, h1, h2, h3⟩ := h.head
  show (c == (b.toNat : Int)) = _
  unfold byteIs
  by_cases ha : a < s.length
  · rw [decide_eq_true ha, Bool.true_and]
    obtain ⟨h4, h5, h6⟩ := h3 ha
    by_cases hl : (s.getD a 0).toNat < 128
    · rw [(h5 hl).1]
      by_cases e : s.getD a 0 = b
      · rw [e]; simp
      · have : ¬ (s.getD a 0).toNat = b.toNat := fun e' => e (UInt8.toNat_inj.1 e')
        rw [beq_eq_false_iff_ne.2 e, beq_eq_false_iff_ne]; omega
    · have h7 := h6 (by omega)
      have : ¬ s.getD a 0 = b := fun e => by rw [e] at hl; omega
      rw [beq_eq_false_iff_ne.2 this, beq_eq_false_iff_ne]; omega
  · rw [decide_eq_false ha, h2 (by omega), Bool.false_and, beq_eq_false_iff_ne]; omega
/-- Behind a byte that is no digit. -/
theorem MkAt.next {s : List UInt8} {M : List (Int × Int)} {a : Nat} (h : MkAt s M a) (b : UInt8) (hb : b.toNat < 128) (hd : isD b = false) (he : byteIs s a b = true) : MkAt s (M.drop 1) (a + 1) := by
  obtain ⟨c, rest, rfl, h1, h2, h3⟩ := h.head
  obtain ⟨ha, e⟩ := byteIs_iff he
  obtain ⟨_, h5⟩ := (h3 ha).2.1 (by rw [e]; exact hb)
  unfold nextAt at h5
  rw [e, hd, if_neg (by decide)] at h5
  exact h5
/-- The mark at a is a digit just where one stands there. -/
theorem MkAt.dig {s : List UInt8} {M : List (Int × Int)} {a : Nat} (h : MkAt s M a) : (decide (48 ≤ (M.getD 0 (0, 0)).2) && decide ((M.getD 0 (0, 0)).2 ≤ 57)) = isD (s.getD a 0) := by
  obtain ⟨c, rest, rfl, h1, h2, h3⟩ := h.head
  show (decide (48 ≤ c) && decide (c ≤ 57)) = _
  by_cases ha : a < s.length
  · obtain ⟨h4, h5, h6⟩ := h3 ha
    unfold isD
    by_cases hl : (s.getD a 0).toNat < 128
    · rw [(h5 hl).1]
      by_cases e1 : 48 ≤ (s.getD a 0).toNat
      · by_cases e2 : (s.getD a 0).toNat ≤ 57
        · rw [decide_eq_true (show 48 ≤ ((s.getD a 0).toNat : Int) by omega), decide_eq_true (show ((s.getD a 0).toNat : Int) ≤ 57 by omega), decide_eq_true ⟨e1, e2⟩]; rfl
        · rw [decide_eq_false (show ¬ ((s.getD a 0).toNat : Int) ≤ 57 by omega), decide_eq_false (show ¬ (48 ≤ (s.getD a 0).toNat ∧ (s.getD a 0).toNat ≤ 57) by omega)]; exact Bool.and_false _
      · rw [decide_eq_false (show ¬ 48 ≤ ((s.getD a 0).toNat : Int) by omega), decide_eq_false (show ¬ (48 ≤ (s.getD a 0).toNat ∧ (s.getD a 0).toNat ≤ 57) by omega)]; rfl
    · have h7 := h6 (by omega)
      rw [decide_eq_false (show ¬ c ≤ 57 by omega), decide_eq_false (show ¬ (48 ≤ (s.getD a 0).toNat ∧ (s.getD a 0).toNat ≤ 57) by omega)]; exact Bool.and_false _
  · rw [h2 (by omega), List.getD_eq_getElem?_getD, List.getElem?_eq_none (by omega)]; rfl
theorem MkAt.nextDig {s : List UInt8} {M : List (Int × Int)} {a : Nat} (h : MkAt s M a) (hd : isD (s.getD a 0) = true) : MkAt s (M.drop 1) (digEnd s a) := by
  obtain ⟨c, rest, rfl, h1, h2, h3⟩ := h.head
  have hb : 48 ≤ (s.getD a 0).toNat ∧ (s.getD a 0).toNat ≤ 57 := of_decide_eq_true hd
  have ha : a < s.length := by
    rcases Nat.lt_or_ge a s.length with h | h
    · exact h
    · rw [List.getD_eq_getElem?_getD, List.getElem?_eq_none h] at hd; exact absurd (show isD 0 = true from hd) (by decide)
  obtain ⟨_, h5⟩ := (h3 ha).2.1 (by omega)
  unfold nextAt at h5
  rw [if_pos hd] at h5
  exact h5
theorem MkAt.at {s : List UInt8} {M : List (Int × Int)} {a : Nat} (h : MkAt s M a) : (M.getD 0 (0, 0)).1 = a ∧ 0 < M.length := by
  obtain ⟨c, rest, rfl, _⟩ := h.head
  exact ⟨rfl, by simp⟩
theorem MkAt.end {s : List UInt8} {M : List (Int × Int)} {a : Nat} (h : MkAt s M a) : ((M.getD 0 (0, 0)).2 == -1) = decide (a = s.length) := by
  obtain ⟨c, rest, rfl, h1, h2, h3⟩ := h.head
  show (c == -1) = _
  by_cases ha : a = s.length
  · rw [h2 ha, decide_eq_true ha]; rfl
  · have := (h3 (by omega)).1
    rw [decide_eq_false ha, beq_eq_false_iff_ne]; omega
theorem MkAt.le {s : List UInt8} {M : List (Int × Int)} {a : Nat} (h : MkAt s M a) : a ≤ s.length := by
  obtain ⟨c, rest, rfl, h1, _⟩ := h.head
  exact h1

/-- What the marks so far leave open: whatever marks follow from where it stands on, all are marks of the text. -/
def Tail (s : List UInt8) (cur : List (Int × Int)) (inD : Bool) (pos : Nat) : Prop :=
  (∀ rest, MkAt s (cur ++ rest) 0) ∨ (pos ≤ s.length ∧ ∀ rest, MkAt s rest (if inD = true then digEnd s pos else pos) → MkAt s (cur ++ rest) 0)
theorem Tail.start (s : List UInt8) : Tail s [] false 0 := .inr ⟨Nat.zero_le _, fun rest h => h⟩
theorem Tail.fin {s : List UInt8} {cur : List (Int × Int)} {inD : Bool} {pos : Nat} (h : Tail s cur inD pos) (hp : ¬ pos < s.length) : MkAt s (cur ++ [((s.length : Int), -1)]) 0 := by
  rcases h with h | ⟨h1, h2⟩
  · exact h _
  · obtain rfl : pos = s.length := by omega
    refine h2 _ ?_
    have e : (if inD = true then digEnd s s.length else s.length) = s.length := by
      split
      · exact dig_no s s.length (by rw [List.getD_eq_getElem?_getD, List.getElem?_eq_none (Nat.le_refl _)]; decide)
      · rfl
    rw [e]
    exact .fin
/-- A digit behind a digit. -/
theorem Tail.on {s : List UInt8} {cur : List (Int × Int)} {pos n : Nat} (h : Tail s cur true pos) (hp : pos < s.length) (hd : isD (s.getD pos 0) = true) : Tail s cur true (pos + 1) := by
  rcases h with h | ⟨h1, h2⟩
  · exact .inl h
  · refine .inr ⟨hp, fun rest hr => h2 rest ?_⟩
    rw [if_pos rfl] at hr ⊢
    rw [dig_yes s pos hd]
    exact hr
/-- A new mark, ASCII. -/
theorem Tail.low {s : List UInt8} {cur : List (Int × Int)} {inD : Bool} {pos : Nat} (h : Tail s cur inD pos) (hp : pos < s.length) (hl : (s.getD pos 0).toNat < 128) (hd : (inD && isD (s.getD pos 0)) = false) :
    Tail s (cur ++ [((pos : Int), ((s.getD pos 0).toNat : Int))]) (isD (s.getD pos 0)) (pos + 1) := by
  rcases h with h | ⟨h1, h2⟩
  · exact .inl fun rest => by rw [List.append_assoc]; exact h _
  · refine .inr ⟨hp, fun rest hr => ?_⟩
    rw [List.append_assoc]
    refine h2 _ ?_
    have e : (if inD = true then digEnd s pos else pos) = pos := by
      split
      · next h => exact dig_no s pos (by rw [h] at hd; exact hd)
      · rfl
    rw [e]
    refine .low pos rest hp hl ?_
    unfold nextAt
    by_cases hd' : isD (s.getD pos 0) = true
    · rw [if_pos hd'] at hr ⊢
      rw [dig_yes s pos hd']
      exact hr
    · rw [if_neg hd'] at hr ⊢
      exact hr
/-- A new mark that is no ASCII. -/
theorem Tail.high {s : List UInt8} {cur : List (Int × Int)} {inD b : Bool} {pos : Nat} (p' : Nat) (c : Int) (h : Tail s cur inD pos) (hp : pos < s.length) (hl : 128 ≤ (s.getD pos 0).toNat) (hc : 128 ≤ c) :
    Tail s (cur ++ [((pos : Int), c)]) b p' := by
  rcases h with h | ⟨h1, h2⟩
  · exact .inl fun rest => by rw [List.append_assoc]; exact h _
  · refine .inl fun rest => ?_
    rw [List.append_assoc]
    refine h2 _ ?_
    have e : (if inD = true then digEnd s pos else pos) = pos := by
      split
      · exact dig_no s pos (by unfold isD; exact decide_eq_false (by omega))
      · rfl
    rw [e]
    exact .high pos c rest hp hl hc
end Go.Proofs.YtbchehpggoampaaDoor
