/-
  PROVED HERE: plain lists: which sign stands at a place, told byte by byte. No condition.
-/
import Derived.Test.YtbchehpggoampaaDoorTwo
namespace Go.Proofs.YtbchehpggoampaaDoor
set_option linter.unusedVariables false

theorem sign_one (s : List UInt8) (a : Nat) (c : UInt8) : (decide ([c].length ≤ s.length - a) && ((s.drop a).take [c].length == [c])) = byteIs s a c := by
  unfold byteIs
  by_cases h : a < s.length
  · rw [decide_eq_true (show [c].length ≤ s.length - a by simp; omega), decide_eq_true h]
    have e : s.getD a 0 = s[a] := by rw [List.getD_eq_getElem?_getD, List.getElem?_eq_getElem h]; rfl
    have t : (s.drop a).take [c].length = [s[a]] := by rw [List.drop_eq_getElem_cons h]; rfl
    rw [e, t]
    show (true && ([s[a]] == [c])) = (true && (s[a] == c))
    simp
  · rw [decide_eq_false h, decide_eq_false (show ¬ [c].length ≤ s.length - a by simp; omega)]; rfl
theorem sign_pair (s : List UInt8) (a : Nat) (c d : UInt8) : (decide ([c, d].length ≤ s.length - a) && ((s.drop a).take [c, d].length == [c, d])) = (byteIs s a c && byteIs s (a + 1) d) := by
  unfold byteIs
  by_cases h : a + 1 < s.length
  · have h' : a < s.length := by omega
    rw [decide_eq_true (show [c, d].length ≤ s.length - a by simp; omega), decide_eq_true h, decide_eq_true h']
    have e : s.getD a 0 = s[a] := by rw [List.getD_eq_getElem?_getD, List.getElem?_eq_getElem h']; rfl
    have e' : s.getD (a + 1) 0 = s[a + 1] := by rw [List.getD_eq_getElem?_getD, List.getElem?_eq_getElem h]; rfl
    have t : (s.drop a).take [c, d].length = [s[a], s[a + 1]] := by rw [List.drop_eq_getElem_cons h', List.drop_eq_getElem_cons h]; rfl
    rw [e, e', t]
    show (true && ([s[a], s[a + 1]] == [c, d])) = ((true && (s[a] == c)) && (true && (s[a + 1] == d)))
    simp
  · rw [decide_eq_false h, decide_eq_false (show ¬ [c, d].length ≤ s.length - a by simp; omega)]; simp
theorem two_plain (s : List UInt8) (a : Nat) : twoL s a 7 4 = twoR s a := by
  have h4 : signAt s a 4 = byteIs s a 43 := by unfold signAt; rw [if_neg (by simp)]; exact sign_one s a 43
  have h5 : signAt s a (4 + 1) = byteIs s a 45 := by unfold signAt; rw [if_neg (by simp)]; exact sign_one s a 45
  have h6 : signAt s a (4 + 1 + 1) = byteIs s a 42 := by unfold signAt; rw [if_neg (by simp)]; exact sign_one s a 42
  have h7 : signAt s a (4 + 1 + 1 + 1) = (byteIs s a 60 && byteIs s (a + 1) 60) := by unfold signAt; rw [if_neg (by simp)]; exact sign_pair s a 60 60
  have h8 : signAt s a (4 + 1 + 1 + 1 + 1) = byteIs s a 47 := by unfold signAt; rw [if_neg (by simp)]; exact sign_one s a 47
  have h9 : signAt s a (4 + 1 + 1 + 1 + 1 + 1) = (byteIs s a 61 && byteIs s (a + 1) 61) := by unfold signAt; rw [if_neg (by simp)]; exact sign_pair s a 61 61
  have h10 : signAt s a (4 + 1 + 1 + 1 + 1 + 1 + 1) = (!byteIs s (a + 1) 60 && byteIs s a 60) := by
    unfold signAt
    by_cases h : byteIs s (a + 1) 60 = true
    · rw [if_pos ⟨rfl, h⟩, h]; rfl
    · rw [if_neg (fun x => h x.2)]
      have h' : byteIs s (a + 1) 60 = false := by simpa using h
      rw [h']
      exact sign_one s a 60
  unfold twoR
  simp only [twoL]
  rw [h4, h5, h6, h7, h8, h9, h10]
  cases b1 : byteIs s a 43 <;> cases b2 : byteIs s a 45 <;> cases b3 : byteIs s a 42 <;> cases b4 : byteIs s a 60 <;> cases b5 : byteIs s (a + 1) 60 <;> cases b6 : byteIs s a 47 <;> cases b7 : byteIs s a 61 <;> cases b8 : byteIs s (a + 1) 61 <;> simp [signB]
end Go.Proofs.YtbchehpggoampaaDoor
