/-
  PROVED HERE: the model's reading of a number. No other condition.
-/
import Derived.Test.YtfadclakedfjkaaDoorTermVar
import Derived.Test.YtfadclakedfjkaaDoorReadPlain
namespace Go.Proofs.YtfadclakedfjkaaDoor
open Go.ChangeShapes Go.WideShapes Go.ChangeAt Go.RowKit
set_option linter.unusedVariables false
theorem Rdr.keep {w w' : World} {g : Nat} {s : ByteArray} {a : Nat} {out : List (Int × Int)} (h : Rdr w g s a out) (hb : Below w.heap.size w w') : Rdr w' g s a out := by
  obtain ⟨lt, c0, c1, ⟨v, c2, hown⟩, f1, f2⟩ := h
  exact ⟨Nat.lt_of_lt_of_le lt hb.size, (hb.cell (p := ⟨g, 0, none⟩) lt).trans c0, (hb.cell (p := ⟨g, 1, none⟩) lt).trans c1, ⟨v, (hb.cell (p := ⟨g, 2, none⟩) lt).trans c2, own_keep hown hb⟩, (hb.frozen (p := ⟨g, 1, none⟩) lt).trans f1, (hb.frozen (p := ⟨g, 2, none⟩) lt).trans f2⟩
theorem isD_at (s : ByteArray) (n : Nat) (h : n < s.size) : isD (s.data.toList.getD n 0) = decide (48 ≤ (s[n]).toNat ∧ (s[n]).toNat ≤ 57) := by rw [at_list s n h]; rfl
theorem isD_out (s : ByteArray) (n : Nat) (h : ¬ n < s.size) : isD (s.data.toList.getD n 0) = false := by
  rw [List.getD_eq_getElem?_getD, List.getElem?_eq_none (by rw [size_list]; omega)]; decide
theorem ext_seg (s : ByteArray) (a n : Nat) : (s.extract a n).data.toList = (s.data.toList.drop a).take (n - a) := by
  rw [ByteArray.data_extract, Array.toList_extract]
end Go.Proofs.YtfadclakedfjkaaDoor
