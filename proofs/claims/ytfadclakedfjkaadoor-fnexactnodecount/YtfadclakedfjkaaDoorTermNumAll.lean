/-
  PROVED HERE: that the model's reading of a number is the plain one. No other condition.
-/
import Derived.Test.YtfadclakedfjkaaDoorTermNumA
import Derived.Test.YtfadclakedfjkaaDoorTermNumB
import Derived.Test.YtfadclakedfjkaaDoorTermNumC
import Derived.Test.YtfadclakedfjkaaDoorTermNumD
import Derived.Test.YtfadclakedfjkaaDoorTermNumE
import Derived.Test.YtfadclakedfjkaaDoorReadBack
namespace Go.Proofs.YtfadclakedfjkaaDoor
open Go.ChangeShapes Go.WideShapes Go.ChangeAt Go.RowKit
set_option linter.unusedVariables false
/-- That the model's reader's method reads as a plain reading from a place on. -/
def MReads (f : FuncId) (g : Nat) (s : ByteArray) (a : Nat) (out : List (Int × Int)) (R : Rd) : Prop :=
  ∀ W, Rdr W g s a out → Calls Tryd.prog f #[.pointer (some ⟨g, 0, none⟩)] W fun e w' => e = .returned (.bool R.1) ∧ Rdr w' g s R.2.1 R.2.2 ∧ Below g W w'
theorem number_any (g : Nat) (s : ByteArray) (a : Nat) (out : List (Int × Int)) (hs : s.size ≤ 1048576) (ho : out.length ≤ 1048576) (ha : a < s.size) (h1 : (isD (s.data.toList.getD a 0) || s.data.toList.getD a 0 == 45) = true) : MReads 59 g s a out (numR s.data.toList a out) := by
  intro W h
  have hsl : s.data.toList.length = s.size := size_list s
  have hat := at_list s a ha
  unfold numR numEnd
  by_cases hm : s.data.toList.getD a 0 = 45
  · rw [if_pos hm]
    have h45 : (s[a]).toNat = 45 := by rw [← hat, hm]; rfl
    obtain ⟨E, hE⟩ : ∃ E, digEnd s.data.toList (a + 1) = E := ⟨_, rfl⟩
    have hge := dig_ge s.data.toList (a + 1)
    have hle := dig_le s.data.toList (a + 1) (by omega)
    rw [hE] at hge hle ⊢
    cases hq : numOf ((s.data.toList.drop a).take (E - a)) with
    | none =>
      simp only []
      by_cases hx : E = a + 1
      · rw [if_pos (by rw [hm]; simp [hx])]
        exact number_neg_bare W g s a out h hs ho ha h45 E hE (by omega) (by omega) (numOf_none hq) hx
      · rw [if_neg (by simp [hx])]
        exact number_neg_none W g s a out h hs ho ha h45 E hE (by omega) (by omega) (numOf_none hq) hx
    | some n =>
      obtain ⟨q1, q2⟩ := numOf_some hq
      exact number_neg_some W g s a out h hs ho ha h45 E hE (by omega) (by omega) n q1 q2
  · rw [if_neg hm]
    have hD : isD (s.data.toList.getD a 0) = true := by rw [beq_eq_false_iff_ne.2 hm, Bool.or_false] at h1; exact h1
    have hd : 48 ≤ (s[a]).toNat ∧ (s[a]).toNat ≤ 57 := by rw [hat] at hD; exact of_decide_eq_true hD
    obtain ⟨E, hE⟩ : ∃ E, digEnd s.data.toList a = E := ⟨_, rfl⟩
    have hge := dig_ge s.data.toList a
    have hle := dig_le s.data.toList a (by omega)
    rw [hE] at hge hle ⊢
    cases hq : numOf ((s.data.toList.drop a).take (E - a)) with
    | none =>
      simp only []
      rw [if_neg (by rw [beq_eq_false_iff_ne.2 hm]; simp)]
      exact number_pos_none W g s a out h hs ho ha hd E hE (by omega) (by omega) (numOf_none hq)
    | some n =>
      obtain ⟨q1, q2⟩ := numOf_some hq
      exact number_pos_some W g s a out h hs ho ha hd E hE (by omega) (by omega) n q1 q2
end Go.Proofs.YtfadclakedfjkaaDoor
