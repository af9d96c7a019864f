/-
  PROVED HERE: how the model's reader lies in memory; what its taking of a byte does. No other condition.
-/
import Derived.Test.YtbchehpggoampaaDoorReadDefs
import Derived.Test.YtbchehpggoampaaDoorReadAll
import Derived.Test.YtbchehpggoampaaDoorLists
namespace Go.Proofs.YtbchehpggoampaaDoor
open Go.ChangeShapes Go.WideShapes Go.ChangeAt Go.RowKit
set_option linter.unusedVariables false

/-- The reader in block g: its text, its place, what it has read so far (in a row of its own, behind it). -/
structure Rdr (w : World) (g : Nat) (s : ByteArray) (a : Nat) (out : List (Int × Int)) : Prop where
  lt : g < w.heap.size
  c0 : w.cell? ⟨g, 0, none⟩ = some (.string s)
  c1 : w.cell? ⟨g, 1, none⟩ = some (.int .i64 (a : Int))
  row : ∃ v, w.cell? ⟨g, 2, none⟩ = some v ∧ w.ownsRow (g + 1) 76 2 v out.length (flat out)
  f1 : w.frozen? ⟨g, 1, none⟩ = false
  f2 : w.frozen? ⟨g, 2, none⟩ = false
theorem below_drewN {w : World} (k : Nat) (n : Nat) : Below k w (w.drewN n) := by
  refine ⟨?_, ?_, ?_, ?_, ?_⟩ <;> first | rfl | exact Nat.le_refl _ | (intro j hj; rfl)
theorem Rdr.drewN {w : World} {g : Nat} {s : ByteArray} {a : Nat} {out : List (Int × Int)} (h : Rdr w g s a out) (n : Nat) : Rdr (w.drewN n) g s a out := by
  obtain ⟨lt, c0, c1, ⟨v, c2, hown⟩, f1, f2⟩ := h
  exact ⟨lt, c0, c1, ⟨v, c2, hown⟩, f1, f2⟩
theorem below_set {w : World} {g o : Nat} (u : Value) : Below g w (w.setCell ⟨g, o, none⟩ u) := by
  refine ⟨rfl, rfl, rfl, by simp, fun j hj => Below.heap_setCell _ _ _ _ (by simp; omega)⟩
theorem Rdr.move {w : World} {g : Nat} {s : ByteArray} {a : Nat} {out : List (Int × Int)} (h : Rdr w g s a out) (b : Nat) : Rdr (w.setCell ⟨g, 1, none⟩ (.int .i64 (b : Int))) g s b out := by
  obtain ⟨lt, c0, c1, ⟨v, c2, hown⟩, f1, f2⟩ := h
  refine ⟨by simpa using lt, by simp [go_sem, c0], by simp [go_sem, c1], ⟨v, by simp [go_sem, c2], ownsRow_setCell_below hown (by simp) _⟩, by simp [go_sem, f1], by simp [go_sem, f2]⟩
theorem at_list (s : ByteArray) (a : Nat) (h : a < s.size) : s.data.toList.getD a 0 = s[a] := by
  rw [List.getD_eq_getElem?_getD, List.getElem?_eq_getElem (by simpa using h)]
  rfl
theorem size_list (s : ByteArray) : s.data.toList.length = s.size := rfl
theorem byte_yes (w : World) (g : Nat) (s : ByteArray) (a : Nat) (out : List (Int × Int)) (b : UInt8) (h : Rdr w g s a out) (hs : s.size ≤ 1048576) (ha : a < s.size) (hb : s[a] = b) :
    Calls Tryd.prog 87 #[.pointer (some ⟨g, 0, none⟩), .int .u8 (b.toNat : Int)] w fun e w' => e = .returned (.bool true) ∧ Rdr w' g s (a + 1) out ∧ Below g w w' := by
  have c0 := h.c0
  have c1 := h.c1
  have f1 := h.f1
  have hlt := h.lt
  have i1 : (a : Int) < s.size := by omega
  have i2 : (s.size : Int) ≤ 1048576 := by omega
  subst hb
  go_enter Tryd.func87, Tryd.ntmps87
  go_wp2
  go_quiet (fail)
  go_wp2
  go_ret
  exact ⟨rfl, (h.drewN _).move (a + 1), (below_drewN g _).trans (below_set _)⟩
theorem byte_end (w : World) (g : Nat) (s : ByteArray) (a : Nat) (out : List (Int × Int)) (b : UInt8) (h : Rdr w g s a out) (hs : s.size ≤ 1048576) (ha : s.size ≤ a) :
    Calls Tryd.prog 87 #[.pointer (some ⟨g, 0, none⟩), .int .u8 (b.toNat : Int)] w fun e w' => e = .returned (.bool false) ∧ Rdr w' g s a out ∧ Below g w w' := by
  have c0 := h.c0
  have c1 := h.c1
  have i1 : ¬ (a : Int) < s.size := by omega
  have i3 : ¬ a < s.size := by omega
  have i2 : (s.size : Int) ≤ 1048576 := by omega
  go_enter Tryd.func87, Tryd.ntmps87
  go_wp2
  go_quiet (fail)
  go_wp2
  go_ret
  exact ⟨rfl, h.drewN _, below_drewN g _⟩
theorem byte_no (w : World) (g : Nat) (s : ByteArray) (a : Nat) (out : List (Int × Int)) (b : UInt8) (h : Rdr w g s a out) (hs : s.size ≤ 1048576) (ha : a < s.size) (hb : s[a] ≠ b) :
    Calls Tryd.prog 87 #[.pointer (some ⟨g, 0, none⟩), .int .u8 (b.toNat : Int)] w fun e w' => e = .returned (.bool false) ∧ Rdr w' g s a out ∧ Below g w w' := by
  have c0 := h.c0
  have c1 := h.c1
  have i1 : (a : Int) < s.size := by omega
  have i2 : (s.size : Int) ≤ 1048576 := by omega
  have i3 : ¬ s[a].toNat = b.toNat := fun e => hb (UInt8.toNat_inj.1 e)
  have i4 : ¬ (s[a].toNat : Int) = b.toNat := by omega
  go_enter Tryd.func87, Tryd.ntmps87
  go_wp2
  go_quiet (fail)
  go_wp2
  go_ret
  exact ⟨rfl, h.drewN _, below_drewN g _⟩
theorem byte_any (w : World) (g : Nat) (s : ByteArray) (a : Nat) (out : List (Int × Int)) (b : UInt8) (h : Rdr w g s a out) (hs : s.size ≤ 1048576) :
    Calls Tryd.prog 87 #[.pointer (some ⟨g, 0, none⟩), .int .u8 (b.toNat : Int)] w fun e w' => e = .returned (.bool (byteIs s.data.toList a b)) ∧ Rdr w' g s (if byteIs s.data.toList a b = true then a + 1 else a) out ∧ Below g w w' := by
  unfold byteIs
  rw [size_list]
  by_cases ha : a < s.size
  · rw [decide_eq_true ha, Bool.true_and, at_list s a ha]
    by_cases hb : s[a] = b
    · rw [beq_iff_eq.2 hb, if_pos rfl]; exact byte_yes w g s a out b h hs ha hb
    · rw [beq_eq_false_iff_ne.2 hb]; exact byte_no w g s a out b h hs ha hb
  · rw [decide_eq_false ha, Bool.false_and]; exact byte_end w g s a out b h hs (by omega)
end Go.Proofs.YtbchehpggoampaaDoor
