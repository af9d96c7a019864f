/-
  PROVED HERE: how a closing lies at its beginning, in whatever order its parts were made. No condition. what the program's joining of two parts does to a closing in memory. No condition. what the program's joining of two parts does to a closing in memory. No condition.
-/
import Derived.Test.YtobgkfpjokfbaaaGreatDoorRun30
import Derived.Lib.MinMax
import Derived.BigRegion
namespace Go.Proofs.YtobgkfpjokfbaaaGreatDoor
open Go.ChangeShapes Go.WideShapes Go.ChangeAt Go.RowKit
open Go.MapKept Go.ChangeMaps
set_option linter.unusedVariables false

theorem bel_alloc {w w' : World} (h : Below w.heap.size w w') (o : Obj) : Below w.heap.size w (w'.alloc o) := h.alloc h.size o
theorem leaf06 {w v3 : World} {a ap : Option Addr} {cap cp n : Nat} {l : List Int} (hB3 : Below w.heap.size w v3) (hb3 : Below ((((w.alloc boxZ).alloc (rowU n)).alloc (.map #[] 0))).drew.heap.size ((((w.alloc boxZ).alloc (rowU n)).alloc (.map #[] 0))).drew v3) (hz : At v3 (w.heap.size) boxZ) (hu : At v3 (w.heap.size + 1) (rowU n)) (hm : At v3 (w.heap.size + 1 + 1) (.map #[] 0)) (hrp : v3.ownsRow ((((w.alloc boxZ).alloc (rowU n)).alloc (.map #[] 0))).drew.heap.size 3 1 (.slice ap n cp) n (vals l)) : StartC w (((((v3.setCell ⟨w.heap.size, 0, none⟩ (.slice a n cap)).setCell ⟨w.heap.size, 1, none⟩ (.slice ap n cp)).setCell ⟨w.heap.size, 2, none⟩ (.slice (some ⟨w.heap.size + 1, 0, none⟩) n n)).setCell ⟨w.heap.size, 3, none⟩ (.map (some (w.heap.size + 1 + 1)))).setCell ⟨w.heap.size, 4, none⟩ (.slice none 0 0)) n (w.heap.size) (.slice a n cap) l := by
  have hsz : w.heap.size + 3 ≤ v3.heap.size := by have h8 := hb3.size; simp at h8; omega
  have hlt : ∀ x, (Value.slice ap n cp).ownBlock = some x → w.heap.size + 3 ≤ x ∧ x < v3.heap.size := fun x hx => by have h8 := hrp.lt x hx; simp at h8; omega
  exact start_box (bu := w.heap.size + 1) (bf := w.heap.size + 1 + 1) (CBox.set hz) (Below.setCell (Below.setCell (Below.setCell (Below.setCell (Below.setCell hB3 (p := ⟨w.heap.size, 0, none⟩) (show w.heap.size ≤ w.heap.size by omega) (.slice a n cap)) (p := ⟨w.heap.size, 1, none⟩) (show w.heap.size ≤ w.heap.size by omega) (.slice ap n cp)) (p := ⟨w.heap.size, 2, none⟩) (show w.heap.size ≤ w.heap.size by omega) (.slice (some ⟨w.heap.size + 1, 0, none⟩) n n)) (p := ⟨w.heap.size, 3, none⟩) (show w.heap.size ≤ w.heap.size by omega) (.map (some (w.heap.size + 1 + 1)))) (p := ⟨w.heap.size, 4, none⟩) (show w.heap.size ≤ w.heap.size by omega) (.slice none 0 0)) (At.setCell (At.setCell (At.setCell (At.setCell (At.setCell hu (p := ⟨w.heap.size, 0, none⟩) (show w.heap.size + 1 ≠ w.heap.size by omega) (.slice a n cap)) (p := ⟨w.heap.size, 1, none⟩) (show w.heap.size + 1 ≠ w.heap.size by omega) (.slice ap n cp)) (p := ⟨w.heap.size, 2, none⟩) (show w.heap.size + 1 ≠ w.heap.size by omega) (.slice (some ⟨w.heap.size + 1, 0, none⟩) n n)) (p := ⟨w.heap.size, 3, none⟩) (show w.heap.size + 1 ≠ w.heap.size by omega) (.map (some (w.heap.size + 1 + 1)))) (p := ⟨w.heap.size, 4, none⟩) (show w.heap.size + 1 ≠ w.heap.size by omega) (.slice none 0 0)) (At.setCell (At.setCell (At.setCell (At.setCell (At.setCell hm (p := ⟨w.heap.size, 0, none⟩) (show w.heap.size + 1 + 1 ≠ w.heap.size by omega) (.slice a n cap)) (p := ⟨w.heap.size, 1, none⟩) (show w.heap.size + 1 + 1 ≠ w.heap.size by omega) (.slice ap n cp)) (p := ⟨w.heap.size, 2, none⟩) (show w.heap.size + 1 + 1 ≠ w.heap.size by omega) (.slice (some ⟨w.heap.size + 1, 0, none⟩) n n)) (p := ⟨w.heap.size, 3, none⟩) (show w.heap.size + 1 + 1 ≠ w.heap.size by omega) (.map (some (w.heap.size + 1 + 1)))) (p := ⟨w.heap.size, 4, none⟩) (show w.heap.size + 1 + 1 ≠ w.heap.size by omega) (.slice none 0 0)) (row_setC (row_setC (row_setC (row_setC (row_setC (row_base6 hrp (show w.heap.size ≤ ((((w.alloc boxZ).alloc (rowU n)).alloc (.map #[] 0))).drew.heap.size by first | exact Nat.le_refl _ | (simp; done) | (simp; omega))) (p := ⟨w.heap.size, 0, none⟩) (fun x hx => show x ≠ w.heap.size from by have h8 := hlt x hx; omega) (.slice a n cap)) (p := ⟨w.heap.size, 1, none⟩) (fun x hx => show x ≠ w.heap.size from by have h8 := hlt x hx; omega) (.slice ap n cp)) (p := ⟨w.heap.size, 2, none⟩) (fun x hx => show x ≠ w.heap.size from by have h8 := hlt x hx; omega) (.slice (some ⟨w.heap.size + 1, 0, none⟩) n n)) (p := ⟨w.heap.size, 3, none⟩) (fun x hx => show x ≠ w.heap.size from by have h8 := hlt x hx; omega) (.map (some (w.heap.size + 1 + 1)))) (p := ⟨w.heap.size, 4, none⟩) (fun x hx => show x ≠ w.heap.size from by have h8 := hlt x hx; omega) (.slice none 0 0)) ⟨by omega, by omega, by omega, by omega, by omega, by omega⟩ (fun x hx => by have h8 := hlt x hx; omega)
theorem leaf16 {w v3 : World} {a ap : Option Addr} {cap cp n : Nat} {l : List Int} (hB3 : Below w.heap.size w v3) (hb3 : Below (((w.alloc boxZ).alloc (rowU n))).drew.heap.size (((w.alloc boxZ).alloc (rowU n))).drew v3) (hz : At v3 (w.heap.size) boxZ) (hu : At v3 (w.heap.size + 1) (rowU n)) (hrp : v3.ownsRow (((w.alloc boxZ).alloc (rowU n))).drew.heap.size 3 1 (.slice ap n cp) n (vals l)) : StartC w ((((((v3.setCell ⟨w.heap.size, 0, none⟩ (.slice a n cap)).setCell ⟨w.heap.size, 1, none⟩ (.slice ap n cp)).setCell ⟨w.heap.size, 2, none⟩ (.slice (some ⟨w.heap.size + 1, 0, none⟩) n n)).setCell ⟨w.heap.size, 3, none⟩ (.map (some (v3.heap.size)))).setCell ⟨w.heap.size, 4, none⟩ (.slice none 0 0)).alloc (.map #[] 0)) n (w.heap.size) (.slice a n cap) l := by
  have hsz : w.heap.size + 2 ≤ v3.heap.size := by have h8 := hb3.size; simp at h8; omega
  have hlt : ∀ x, (Value.slice ap n cp).ownBlock = some x → w.heap.size + 2 ≤ x ∧ x < v3.heap.size := fun x hx => by have h8 := hrp.lt x hx; simp at h8; omega
  exact start_box (bu := w.heap.size + 1) (bf := v3.heap.size) (CBox.alloc (CBox.set hz) (.map #[] 0)) (bel_alloc (Below.setCell (Below.setCell (Below.setCell (Below.setCell (Below.setCell hB3 (p := ⟨w.heap.size, 0, none⟩) (show w.heap.size ≤ w.heap.size by omega) (.slice a n cap)) (p := ⟨w.heap.size, 1, none⟩) (show w.heap.size ≤ w.heap.size by omega) (.slice ap n cp)) (p := ⟨w.heap.size, 2, none⟩) (show w.heap.size ≤ w.heap.size by omega) (.slice (some ⟨w.heap.size + 1, 0, none⟩) n n)) (p := ⟨w.heap.size, 3, none⟩) (show w.heap.size ≤ w.heap.size by omega) (.map (some (v3.heap.size)))) (p := ⟨w.heap.size, 4, none⟩) (show w.heap.size ≤ w.heap.size by omega) (.slice none 0 0)) (.map #[] 0)) (At.alloc (At.setCell (At.setCell (At.setCell (At.setCell (At.setCell hu (p := ⟨w.heap.size, 0, none⟩) (show w.heap.size + 1 ≠ w.heap.size by omega) (.slice a n cap)) (p := ⟨w.heap.size, 1, none⟩) (show w.heap.size + 1 ≠ w.heap.size by omega) (.slice ap n cp)) (p := ⟨w.heap.size, 2, none⟩) (show w.heap.size + 1 ≠ w.heap.size by omega) (.slice (some ⟨w.heap.size + 1, 0, none⟩) n n)) (p := ⟨w.heap.size, 3, none⟩) (show w.heap.size + 1 ≠ w.heap.size by omega) (.map (some (v3.heap.size)))) (p := ⟨w.heap.size, 4, none⟩) (show w.heap.size + 1 ≠ w.heap.size by omega) (.slice none 0 0)) (.map #[] 0)) (At.new' (.map #[] 0) (by simp)) (World.ownsRow.alloc (row_setC (row_setC (row_setC (row_setC (row_setC (row_base6 hrp (show w.heap.size ≤ (((w.alloc boxZ).alloc (rowU n))).drew.heap.size by first | exact Nat.le_refl _ | (simp; done) | (simp; omega))) (p := ⟨w.heap.size, 0, none⟩) (fun x hx => show x ≠ w.heap.size from by have h8 := hlt x hx; omega) (.slice a n cap)) (p := ⟨w.heap.size, 1, none⟩) (fun x hx => show x ≠ w.heap.size from by have h8 := hlt x hx; omega) (.slice ap n cp)) (p := ⟨w.heap.size, 2, none⟩) (fun x hx => show x ≠ w.heap.size from by have h8 := hlt x hx; omega) (.slice (some ⟨w.heap.size + 1, 0, none⟩) n n)) (p := ⟨w.heap.size, 3, none⟩) (fun x hx => show x ≠ w.heap.size from by have h8 := hlt x hx; omega) (.map (some (v3.heap.size)))) (p := ⟨w.heap.size, 4, none⟩) (fun x hx => show x ≠ w.heap.size from by have h8 := hlt x hx; omega) (.slice none 0 0)) (.map #[] 0)) ⟨by omega, by omega, by omega, by omega, by omega, by omega⟩ (fun x hx => by have h8 := hlt x hx; omega)
theorem leaf26 {w v3 : World} {a ap : Option Addr} {cap cp n : Nat} {l : List Int} (hB3 : Below w.heap.size w v3) (hb3 : Below ((((w.alloc boxZ).alloc (.map #[] 0)).alloc (rowU n))).drew.heap.size ((((w.alloc boxZ).alloc (.map #[] 0)).alloc (rowU n))).drew v3) (hz : At v3 (w.heap.size) boxZ) (hm : At v3 (w.heap.size + 1) (.map #[] 0)) (hu : At v3 (w.heap.size + 1 + 1) (rowU n)) (hrp : v3.ownsRow ((((w.alloc boxZ).alloc (.map #[] 0)).alloc (rowU n))).drew.heap.size 3 1 (.slice ap n cp) n (vals l)) : StartC w (((((v3.setCell ⟨w.heap.size, 0, none⟩ (.slice a n cap)).setCell ⟨w.heap.size, 1, none⟩ (.slice ap n cp)).setCell ⟨w.heap.size, 2, none⟩ (.slice (some ⟨w.heap.size + 1 + 1, 0, none⟩) n n)).setCell ⟨w.heap.size, 3, none⟩ (.map (some (w.heap.size + 1)))).setCell ⟨w.heap.size, 4, none⟩ (.slice none 0 0)) n (w.heap.size) (.slice a n cap) l := by
  have hsz : w.heap.size + 3 ≤ v3.heap.size := by have h8 := hb3.size; simp at h8; omega
  have hlt : ∀ x, (Value.slice ap n cp).ownBlock = some x → w.heap.size + 3 ≤ x ∧ x < v3.heap.size := fun x hx => by have h8 := hrp.lt x hx; simp at h8; omega
  exact start_box (bu := w.heap.size + 1 + 1) (bf := w.heap.size + 1) (CBox.set hz) (Below.setCell (Below.setCell (Below.setCell (Below.setCell (Below.setCell hB3 (p := ⟨w.heap.size, 0, none⟩) (show w.heap.size ≤ w.heap.size by omega) (.slice a n cap)) (p := ⟨w.heap.size, 1, none⟩) (show w.heap.size ≤ w.heap.size by omega) (.slice ap n cp)) (p := ⟨w.heap.size, 2, none⟩) (show w.heap.size ≤ w.heap.size by omega) (.slice (some ⟨w.heap.size + 1 + 1, 0, none⟩) n n)) (p := ⟨w.heap.size, 3, none⟩) (show w.heap.size ≤ w.heap.size by omega) (.map (some (w.heap.size + 1)))) (p := ⟨w.heap.size, 4, none⟩) (show w.heap.size ≤ w.heap.size by omega) (.slice none 0 0)) (At.setCell (At.setCell (At.setCell (At.setCell (At.setCell hu (p := ⟨w.heap.size, 0, none⟩) (show w.heap.size + 1 + 1 ≠ w.heap.size by omega) (.slice a n cap)) (p := ⟨w.heap.size, 1, none⟩) (show w.heap.size + 1 + 1 ≠ w.heap.size by omega) (.slice ap n cp)) (p := ⟨w.heap.size, 2, none⟩) (show w.heap.size + 1 + 1 ≠ w.heap.size by omega) (.slice (some ⟨w.heap.size + 1 + 1, 0, none⟩) n n)) (p := ⟨w.heap.size, 3, none⟩) (show w.heap.size + 1 + 1 ≠ w.heap.size by omega) (.map (some (w.heap.size + 1)))) (p := ⟨w.heap.size, 4, none⟩) (show w.heap.size + 1 + 1 ≠ w.heap.size by omega) (.slice none 0 0)) (At.setCell (At.setCell (At.setCell (At.setCell (At.setCell hm (p := ⟨w.heap.size, 0, none⟩) (show w.heap.size + 1 ≠ w.heap.size by omega) (.slice a n cap)) (p := ⟨w.heap.size, 1, none⟩) (show w.heap.size + 1 ≠ w.heap.size by omega) (.slice ap n cp)) (p := ⟨w.heap.size, 2, none⟩) (show w.heap.size + 1 ≠ w.heap.size by omega) (.slice (some ⟨w.heap.size + 1 + 1, 0, none⟩) n n)) (p := ⟨w.heap.size, 3, none⟩) (show w.heap.size + 1 ≠ w.heap.size by omega) (.map (some (w.heap.size + 1)))) (p := ⟨w.heap.size, 4, none⟩) (show w.heap.size + 1 ≠ w.heap.size by omega) (.slice none 0 0)) (row_setC (row_setC (row_setC (row_setC (row_setC (row_base6 hrp (show w.heap.size ≤ ((((w.alloc boxZ).alloc (.map #[] 0)).alloc (rowU n))).drew.heap.size by first | exact Nat.le_refl _ | (simp; done) | (simp; omega))) (p := ⟨w.heap.size, 0, none⟩) (fun x hx => show x ≠ w.heap.size from by have h8 := hlt x hx; omega) (.slice a n cap)) (p := ⟨w.heap.size, 1, none⟩) (fun x hx => show x ≠ w.heap.size from by have h8 := hlt x hx; omega) (.slice ap n cp)) (p := ⟨w.heap.size, 2, none⟩) (fun x hx => show x ≠ w.heap.size from by have h8 := hlt x hx; omega) (.slice (some ⟨w.heap.size + 1 + 1, 0, none⟩) n n)) (p := ⟨w.heap.size, 3, none⟩) (fun x hx => show x ≠ w.heap.size from by have h8 := hlt x hx; omega) (.map (some (w.heap.size + 1)))) (p := ⟨w.heap.size, 4, none⟩) (fun x hx => show x ≠ w.heap.size from by have h8 := hlt x hx; omega) (.slice none 0 0)) ⟨by omega, by omega, by omega, by omega, by omega, by omega⟩ (fun x hx => by have h8 := hlt x hx; omega)
theorem leaf36 {w v3 : World} {a ap : Option Addr} {cap cp n : Nat} {l : List Int} (hB3 : Below w.heap.size w v3) (hb3 : Below (((w.alloc boxZ).alloc (.map #[] 0))).drew.heap.size (((w.alloc boxZ).alloc (.map #[] 0))).drew v3) (hz : At v3 (w.heap.size) boxZ) (hm : At v3 (w.heap.size + 1) (.map #[] 0)) (hrp : v3.ownsRow (((w.alloc boxZ).alloc (.map #[] 0))).drew.heap.size 3 1 (.slice ap n cp) n (vals l)) : StartC w ((((((v3.setCell ⟨w.heap.size, 0, none⟩ (.slice a n cap)).setCell ⟨w.heap.size, 1, none⟩ (.slice ap n cp)).setCell ⟨w.heap.size, 2, none⟩ (.slice (some ⟨v3.heap.size, 0, none⟩) n n)).setCell ⟨w.heap.size, 3, none⟩ (.map (some (w.heap.size + 1)))).setCell ⟨w.heap.size, 4, none⟩ (.slice none 0 0)).alloc (rowU n)) n (w.heap.size) (.slice a n cap) l := by
  have hsz : w.heap.size + 2 ≤ v3.heap.size := by have h8 := hb3.size; simp at h8; omega
  have hlt : ∀ x, (Value.slice ap n cp).ownBlock = some x → w.heap.size + 2 ≤ x ∧ x < v3.heap.size := fun x hx => by have h8 := hrp.lt x hx; simp at h8; omega
  exact start_box (bu := v3.heap.size) (bf := w.heap.size + 1) (CBox.alloc (CBox.set hz) (rowU n)) (bel_alloc (Below.setCell (Below.setCell (Below.setCell (Below.setCell (Below.setCell hB3 (p := ⟨w.heap.size, 0, none⟩) (show w.heap.size ≤ w.heap.size by omega) (.slice a n cap)) (p := ⟨w.heap.size, 1, none⟩) (show w.heap.size ≤ w.heap.size by omega) (.slice ap n cp)) (p := ⟨w.heap.size, 2, none⟩) (show w.heap.size ≤ w.heap.size by omega) (.slice (some ⟨v3.heap.size, 0, none⟩) n n)) (p := ⟨w.heap.size, 3, none⟩) (show w.heap.size ≤ w.heap.size by omega) (.map (some (w.heap.size + 1)))) (p := ⟨w.heap.size, 4, none⟩) (show w.heap.size ≤ w.heap.size by omega) (.slice none 0 0)) (rowU n)) (At.new' (rowU n) (by simp)) (At.alloc (At.setCell (At.setCell (At.setCell (At.setCell (At.setCell hm (p := ⟨w.heap.size, 0, none⟩) (show w.heap.size + 1 ≠ w.heap.size by omega) (.slice a n cap)) (p := ⟨w.heap.size, 1, none⟩) (show w.heap.size + 1 ≠ w.heap.size by omega) (.slice ap n cp)) (p := ⟨w.heap.size, 2, none⟩) (show w.heap.size + 1 ≠ w.heap.size by omega) (.slice (some ⟨v3.heap.size, 0, none⟩) n n)) (p := ⟨w.heap.size, 3, none⟩) (show w.heap.size + 1 ≠ w.heap.size by omega) (.map (some (w.heap.size + 1)))) (p := ⟨w.heap.size, 4, none⟩) (show w.heap.size + 1 ≠ w.heap.size by omega) (.slice none 0 0)) (rowU n)) (World.ownsRow.alloc (row_setC (row_setC (row_setC (row_setC (row_setC (row_base6 hrp (show w.heap.size ≤ (((w.alloc boxZ).alloc (.map #[] 0))).drew.heap.size by first | exact Nat.le_refl _ | (simp; done) | (simp; omega))) (p := ⟨w.heap.size, 0, none⟩) (fun x hx => show x ≠ w.heap.size from by have h8 := hlt x hx; omega) (.slice a n cap)) (p := ⟨w.heap.size, 1, none⟩) (fun x hx => show x ≠ w.heap.size from by have h8 := hlt x hx; omega) (.slice ap n cp)) (p := ⟨w.heap.size, 2, none⟩) (fun x hx => show x ≠ w.heap.size from by have h8 := hlt x hx; omega) (.slice (some ⟨v3.heap.size, 0, none⟩) n n)) (p := ⟨w.heap.size, 3, none⟩) (fun x hx => show x ≠ w.heap.size from by have h8 := hlt x hx; omega) (.map (some (w.heap.size + 1)))) (p := ⟨w.heap.size, 4, none⟩) (fun x hx => show x ≠ w.heap.size from by have h8 := hlt x hx; omega) (.slice none 0 0)) (rowU n)) ⟨by omega, by omega, by omega, by omega, by omega, by omega⟩ (fun x hx => by have h8 := hlt x hx; omega)
theorem leaf46 {w v3 : World} {a ap : Option Addr} {cap cp n : Nat} {l : List Int} (hB3 : Below w.heap.size w v3) (hb3 : Below ((w.alloc boxZ)).drew.heap.size ((w.alloc boxZ)).drew v3) (hz : At v3 (w.heap.size) boxZ) (hrp : v3.ownsRow ((w.alloc boxZ)).drew.heap.size 3 1 (.slice ap n cp) n (vals l)) : StartC w (((((((v3.setCell ⟨w.heap.size, 0, none⟩ (.slice a n cap)).setCell ⟨w.heap.size, 1, none⟩ (.slice ap n cp)).setCell ⟨w.heap.size, 2, none⟩ (.slice (some ⟨v3.heap.size, 0, none⟩) n n)).setCell ⟨w.heap.size, 3, none⟩ (.map (some (v3.heap.size + 1)))).setCell ⟨w.heap.size, 4, none⟩ (.slice none 0 0)).alloc (rowU n)).alloc (.map #[] 0)) n (w.heap.size) (.slice a n cap) l := by
  have hsz : w.heap.size + 1 ≤ v3.heap.size := by have h8 := hb3.size; simp at h8; omega
  have hlt : ∀ x, (Value.slice ap n cp).ownBlock = some x → w.heap.size + 1 ≤ x ∧ x < v3.heap.size := fun x hx => by have h8 := hrp.lt x hx; simp at h8; omega
  exact start_box (bu := v3.heap.size) (bf := v3.heap.size + 1) (CBox.alloc (CBox.alloc (CBox.set hz) (rowU n)) (.map #[] 0)) (bel_alloc (bel_alloc (Below.setCell (Below.setCell (Below.setCell (Below.setCell (Below.setCell hB3 (p := ⟨w.heap.size, 0, none⟩) (show w.heap.size ≤ w.heap.size by omega) (.slice a n cap)) (p := ⟨w.heap.size, 1, none⟩) (show w.heap.size ≤ w.heap.size by omega) (.slice ap n cp)) (p := ⟨w.heap.size, 2, none⟩) (show w.heap.size ≤ w.heap.size by omega) (.slice (some ⟨v3.heap.size, 0, none⟩) n n)) (p := ⟨w.heap.size, 3, none⟩) (show w.heap.size ≤ w.heap.size by omega) (.map (some (v3.heap.size + 1)))) (p := ⟨w.heap.size, 4, none⟩) (show w.heap.size ≤ w.heap.size by omega) (.slice none 0 0)) (rowU n)) (.map #[] 0)) (At.alloc (At.new' (rowU n) (by simp)) (.map #[] 0)) (At.new' (.map #[] 0) (by simp)) (World.ownsRow.alloc (World.ownsRow.alloc (row_setC (row_setC (row_setC (row_setC (row_setC (row_base6 hrp (show w.heap.size ≤ ((w.alloc boxZ)).drew.heap.size by first | exact Nat.le_refl _ | (simp; done) | (simp; omega))) (p := ⟨w.heap.size, 0, none⟩) (fun x hx => show x ≠ w.heap.size from by have h8 := hlt x hx; omega) (.slice a n cap)) (p := ⟨w.heap.size, 1, none⟩) (fun x hx => show x ≠ w.heap.size from by have h8 := hlt x hx; omega) (.slice ap n cp)) (p := ⟨w.heap.size, 2, none⟩) (fun x hx => show x ≠ w.heap.size from by have h8 := hlt x hx; omega) (.slice (some ⟨v3.heap.size, 0, none⟩) n n)) (p := ⟨w.heap.size, 3, none⟩) (fun x hx => show x ≠ w.heap.size from by have h8 := hlt x hx; omega) (.map (some (v3.heap.size + 1)))) (p := ⟨w.heap.size, 4, none⟩) (fun x hx => show x ≠ w.heap.size from by have h8 := hlt x hx; omega) (.slice none 0 0)) (rowU n)) (.map #[] 0)) ⟨by omega, by omega, by omega, by omega, by omega, by omega⟩ (fun x hx => by have h8 := hlt x hx; omega)
theorem leaf56 {w v3 : World} {a ap : Option Addr} {cap cp n : Nat} {l : List Int} (hB3 : Below w.heap.size w v3) (hb3 : Below ((w.alloc boxZ)).drew.heap.size ((w.alloc boxZ)).drew v3) (hz : At v3 (w.heap.size) boxZ) (hrp : v3.ownsRow ((w.alloc boxZ)).drew.heap.size 3 1 (.slice ap n cp) n (vals l)) : StartC w (((((((v3.setCell ⟨w.heap.size, 0, none⟩ (.slice a n cap)).setCell ⟨w.heap.size, 1, none⟩ (.slice ap n cp)).setCell ⟨w.heap.size, 2, none⟩ (.slice (some ⟨v3.heap.size + 1, 0, none⟩) n n)).setCell ⟨w.heap.size, 3, none⟩ (.map (some (v3.heap.size)))).setCell ⟨w.heap.size, 4, none⟩ (.slice none 0 0)).alloc (.map #[] 0)).alloc (rowU n)) n (w.heap.size) (.slice a n cap) l := by
  have hsz : w.heap.size + 1 ≤ v3.heap.size := by have h8 := hb3.size; simp at h8; omega
  have hlt : ∀ x, (Value.slice ap n cp).ownBlock = some x → w.heap.size + 1 ≤ x ∧ x < v3.heap.size := fun x hx => by have h8 := hrp.lt x hx; simp at h8; omega
  exact start_box (bu := v3.heap.size + 1) (bf := v3.heap.size) (CBox.alloc (CBox.alloc (CBox.set hz) (.map #[] 0)) (rowU n)) (bel_alloc (bel_alloc (Below.setCell (Below.setCell (Below.setCell (Below.setCell (Below.setCell hB3 (p := ⟨w.heap.size, 0, none⟩) (show w.heap.size ≤ w.heap.size by omega) (.slice a n cap)) (p := ⟨w.heap.size, 1, none⟩) (show w.heap.size ≤ w.heap.size by omega) (.slice ap n cp)) (p := ⟨w.heap.size, 2, none⟩) (show w.heap.size ≤ w.heap.size by omega) (.slice (some ⟨v3.heap.size + 1, 0, none⟩) n n)) (p := ⟨w.heap.size, 3, none⟩) (show w.heap.size ≤ w.heap.size by omega) (.map (some (v3.heap.size)))) (p := ⟨w.heap.size, 4, none⟩) (show w.heap.size ≤ w.heap.size by omega) (.slice none 0 0)) (.map #[] 0)) (rowU n)) (At.new' (rowU n) (by simp)) (At.alloc (At.new' (.map #[] 0) (by simp)) (rowU n)) (World.ownsRow.alloc (World.ownsRow.alloc (row_setC (row_setC (row_setC (row_setC (row_setC (row_base6 hrp (show w.heap.size ≤ ((w.alloc boxZ)).drew.heap.size by first | exact Nat.le_refl _ | (simp; done) | (simp; omega))) (p := ⟨w.heap.size, 0, none⟩) (fun x hx => show x ≠ w.heap.size from by have h8 := hlt x hx; omega) (.slice a n cap)) (p := ⟨w.heap.size, 1, none⟩) (fun x hx => show x ≠ w.heap.size from by have h8 := hlt x hx; omega) (.slice ap n cp)) (p := ⟨w.heap.size, 2, none⟩) (fun x hx => show x ≠ w.heap.size from by have h8 := hlt x hx; omega) (.slice (some ⟨v3.heap.size + 1, 0, none⟩) n n)) (p := ⟨w.heap.size, 3, none⟩) (fun x hx => show x ≠ w.heap.size from by have h8 := hlt x hx; omega) (.map (some (v3.heap.size)))) (p := ⟨w.heap.size, 4, none⟩) (fun x hx => show x ≠ w.heap.size from by have h8 := hlt x hx; omega) (.slice none 0 0)) (.map #[] 0)) (rowU n)) ⟨by omega, by omega, by omega, by omega, by omega, by omega⟩ (fun x hx => by have h8 := hlt x hx; omega)
theorem leaf66 {w v3 : World} {a ap : Option Addr} {cap cp n : Nat} {l : List Int} (hB3 : Below w.heap.size w v3) (hb3 : Below ((((w.alloc (rowU n)).alloc boxZ).alloc (.map #[] 0))).drew.heap.size ((((w.alloc (rowU n)).alloc boxZ).alloc (.map #[] 0))).drew v3) (hu : At v3 (w.heap.size) (rowU n)) (hz : At v3 (w.heap.size + 1) boxZ) (hm : At v3 (w.heap.size + 1 + 1) (.map #[] 0)) (hrp : v3.ownsRow ((((w.alloc (rowU n)).alloc boxZ).alloc (.map #[] 0))).drew.heap.size 3 1 (.slice ap n cp) n (vals l)) : StartC w (((((v3.setCell ⟨w.heap.size + 1, 0, none⟩ (.slice a n cap)).setCell ⟨w.heap.size + 1, 1, none⟩ (.slice ap n cp)).setCell ⟨w.heap.size + 1, 2, none⟩ (.slice (some ⟨w.heap.size, 0, none⟩) n n)).setCell ⟨w.heap.size + 1, 3, none⟩ (.map (some (w.heap.size + 1 + 1)))).setCell ⟨w.heap.size + 1, 4, none⟩ (.slice none 0 0)) n (w.heap.size + 1) (.slice a n cap) l := by
  have hsz : w.heap.size + 3 ≤ v3.heap.size := by have h8 := hb3.size; simp at h8; omega
  have hlt : ∀ x, (Value.slice ap n cp).ownBlock = some x → w.heap.size + 3 ≤ x ∧ x < v3.heap.size := fun x hx => by have h8 := hrp.lt x hx; simp at h8; omega
  exact start_box (bu := w.heap.size) (bf := w.heap.size + 1 + 1) (CBox.set hz) (Below.setCell (Below.setCell (Below.setCell (Below.setCell (Below.setCell hB3 (p := ⟨w.heap.size + 1, 0, none⟩) (show w.heap.size ≤ w.heap.size + 1 by omega) (.slice a n cap)) (p := ⟨w.heap.size + 1, 1, none⟩) (show w.heap.size ≤ w.heap.size + 1 by omega) (.slice ap n cp)) (p := ⟨w.heap.size + 1, 2, none⟩) (show w.heap.size ≤ w.heap.size + 1 by omega) (.slice (some ⟨w.heap.size, 0, none⟩) n n)) (p := ⟨w.heap.size + 1, 3, none⟩) (show w.heap.size ≤ w.heap.size + 1 by omega) (.map (some (w.heap.size + 1 + 1)))) (p := ⟨w.heap.size + 1, 4, none⟩) (show w.heap.size ≤ w.heap.size + 1 by omega) (.slice none 0 0)) (At.setCell (At.setCell (At.setCell (At.setCell (At.setCell hu (p := ⟨w.heap.size + 1, 0, none⟩) (show w.heap.size ≠ w.heap.size + 1 by omega) (.slice a n cap)) (p := ⟨w.heap.size + 1, 1, none⟩) (show w.heap.size ≠ w.heap.size + 1 by omega) (.slice ap n cp)) (p := ⟨w.heap.size + 1, 2, none⟩) (show w.heap.size ≠ w.heap.size + 1 by omega) (.slice (some ⟨w.heap.size, 0, none⟩) n n)) (p := ⟨w.heap.size + 1, 3, none⟩) (show w.heap.size ≠ w.heap.size + 1 by omega) (.map (some (w.heap.size + 1 + 1)))) (p := ⟨w.heap.size + 1, 4, none⟩) (show w.heap.size ≠ w.heap.size + 1 by omega) (.slice none 0 0)) (At.setCell (At.setCell (At.setCell (At.setCell (At.setCell hm (p := ⟨w.heap.size + 1, 0, none⟩) (show w.heap.size + 1 + 1 ≠ w.heap.size + 1 by omega) (.slice a n cap)) (p := ⟨w.heap.size + 1, 1, none⟩) (show w.heap.size + 1 + 1 ≠ w.heap.size + 1 by omega) (.slice ap n cp)) (p := ⟨w.heap.size + 1, 2, none⟩) (show w.heap.size + 1 + 1 ≠ w.heap.size + 1 by omega) (.slice (some ⟨w.heap.size, 0, none⟩) n n)) (p := ⟨w.heap.size + 1, 3, none⟩) (show w.heap.size + 1 + 1 ≠ w.heap.size + 1 by omega) (.map (some (w.heap.size + 1 + 1)))) (p := ⟨w.heap.size + 1, 4, none⟩) (show w.heap.size + 1 + 1 ≠ w.heap.size + 1 by omega) (.slice none 0 0)) (row_setC (row_setC (row_setC (row_setC (row_setC (row_base6 hrp (show w.heap.size ≤ ((((w.alloc (rowU n)).alloc boxZ).alloc (.map #[] 0))).drew.heap.size by first | exact Nat.le_refl _ | (simp; done) | (simp; omega))) (p := ⟨w.heap.size + 1, 0, none⟩) (fun x hx => show x ≠ w.heap.size + 1 from by have h8 := hlt x hx; omega) (.slice a n cap)) (p := ⟨w.heap.size + 1, 1, none⟩) (fun x hx => show x ≠ w.heap.size + 1 from by have h8 := hlt x hx; omega) (.slice ap n cp)) (p := ⟨w.heap.size + 1, 2, none⟩) (fun x hx => show x ≠ w.heap.size + 1 from by have h8 := hlt x hx; omega) (.slice (some ⟨w.heap.size, 0, none⟩) n n)) (p := ⟨w.heap.size + 1, 3, none⟩) (fun x hx => show x ≠ w.heap.size + 1 from by have h8 := hlt x hx; omega) (.map (some (w.heap.size + 1 + 1)))) (p := ⟨w.heap.size + 1, 4, none⟩) (fun x hx => show x ≠ w.heap.size + 1 from by have h8 := hlt x hx; omega) (.slice none 0 0)) ⟨by omega, by omega, by omega, by omega, by omega, by omega⟩ (fun x hx => by have h8 := hlt x hx; omega)
theorem leaf76 {w v3 : World} {a ap : Option Addr} {cap cp n : Nat} {l : List Int} (hB3 : Below w.heap.size w v3) (hb3 : Below (((w.alloc (rowU n)).alloc boxZ)).drew.heap.size (((w.alloc (rowU n)).alloc boxZ)).drew v3) (hu : At v3 (w.heap.size) (rowU n)) (hz : At v3 (w.heap.size + 1) boxZ) (hrp : v3.ownsRow (((w.alloc (rowU n)).alloc boxZ)).drew.heap.size 3 1 (.slice ap n cp) n (vals l)) : StartC w ((((((v3.setCell ⟨w.heap.size + 1, 0, none⟩ (.slice a n cap)).setCell ⟨w.heap.size + 1, 1, none⟩ (.slice ap n cp)).setCell ⟨w.heap.size + 1, 2, none⟩ (.slice (some ⟨w.heap.size, 0, none⟩) n n)).setCell ⟨w.heap.size + 1, 3, none⟩ (.map (some (v3.heap.size)))).setCell ⟨w.heap.size + 1, 4, none⟩ (.slice none 0 0)).alloc (.map #[] 0)) n (w.heap.size + 1) (.slice a n cap) l := by
  have hsz : w.heap.size + 2 ≤ v3.heap.size := by have h8 := hb3.size; simp at h8; omega
  have hlt : ∀ x, (Value.slice ap n cp).ownBlock = some x → w.heap.size + 2 ≤ x ∧ x < v3.heap.size := fun x hx => by have h8 := hrp.lt x hx; simp at h8; omega
  exact start_box (bu := w.heap.size) (bf := v3.heap.size) (CBox.alloc (CBox.set hz) (.map #[] 0)) (bel_alloc (Below.setCell (Below.setCell (Below.setCell (Below.setCell (Below.setCell hB3 (p := ⟨w.heap.size + 1, 0, none⟩) (show w.heap.size ≤ w.heap.size + 1 by omega) (.slice a n cap)) (p := ⟨w.heap.size + 1, 1, none⟩) (show w.heap.size ≤ w.heap.size + 1 by omega) (.slice ap n cp)) (p := ⟨w.heap.size + 1, 2, none⟩) (show w.heap.size ≤ w.heap.size + 1 by omega) (.slice (some ⟨w.heap.size, 0, none⟩) n n)) (p := ⟨w.heap.size + 1, 3, none⟩) (show w.heap.size ≤ w.heap.size + 1 by omega) (.map (some (v3.heap.size)))) (p := ⟨w.heap.size + 1, 4, none⟩) (show w.heap.size ≤ w.heap.size + 1 by omega) (.slice none 0 0)) (.map #[] 0)) (At.alloc (At.setCell (At.setCell (At.setCell (At.setCell (At.setCell hu (p := ⟨w.heap.size + 1, 0, none⟩) (show w.heap.size ≠ w.heap.size + 1 by omega) (.slice a n cap)) (p := ⟨w.heap.size + 1, 1, none⟩) (show w.heap.size ≠ w.heap.size + 1 by omega) (.slice ap n cp)) (p := ⟨w.heap.size + 1, 2, none⟩) (show w.heap.size ≠ w.heap.size + 1 by omega) (.slice (some ⟨w.heap.size, 0, none⟩) n n)) (p := ⟨w.heap.size + 1, 3, none⟩) (show w.heap.size ≠ w.heap.size + 1 by omega) (.map (some (v3.heap.size)))) (p := ⟨w.heap.size + 1, 4, none⟩) (show w.heap.size ≠ w.heap.size + 1 by omega) (.slice none 0 0)) (.map #[] 0)) (At.new' (.map #[] 0) (by simp)) (World.ownsRow.alloc (row_setC (row_setC (row_setC (row_setC (row_setC (row_base6 hrp (show w.heap.size ≤ (((w.alloc (rowU n)).alloc boxZ)).drew.heap.size by first | exact Nat.le_refl _ | (simp; done) | (simp; omega))) (p := ⟨w.heap.size + 1, 0, none⟩) (fun x hx => show x ≠ w.heap.size + 1 from by have h8 := hlt x hx; omega) (.slice a n cap)) (p := ⟨w.heap.size + 1, 1, none⟩) (fun x hx => show x ≠ w.heap.size + 1 from by have h8 := hlt x hx; omega) (.slice ap n cp)) (p := ⟨w.heap.size + 1, 2, none⟩) (fun x hx => show x ≠ w.heap.size + 1 from by have h8 := hlt x hx; omega) (.slice (some ⟨w.heap.size, 0, none⟩) n n)) (p := ⟨w.heap.size + 1, 3, none⟩) (fun x hx => show x ≠ w.heap.size + 1 from by have h8 := hlt x hx; omega) (.map (some (v3.heap.size)))) (p := ⟨w.heap.size + 1, 4, none⟩) (fun x hx => show x ≠ w.heap.size + 1 from by have h8 := hlt x hx; omega) (.slice none 0 0)) (.map #[] 0)) ⟨by omega, by omega, by omega, by omega, by omega, by omega⟩ (fun x hx => by have h8 := hlt x hx; omega)
theorem leaf86 {w v3 : World} {a ap : Option Addr} {cap cp n : Nat} {l : List Int} (hB3 : Below w.heap.size w v3) (hb3 : Below ((((w.alloc (rowU n)).alloc (.map #[] 0)).alloc boxZ)).drew.heap.size ((((w.alloc (rowU n)).alloc (.map #[] 0)).alloc boxZ)).drew v3) (hu : At v3 (w.heap.size) (rowU n)) (hm : At v3 (w.heap.size + 1) (.map #[] 0)) (hz : At v3 (w.heap.size + 1 + 1) boxZ) (hrp : v3.ownsRow ((((w.alloc (rowU n)).alloc (.map #[] 0)).alloc boxZ)).drew.heap.size 3 1 (.slice ap n cp) n (vals l)) : StartC w (((((v3.setCell ⟨w.heap.size + 1 + 1, 0, none⟩ (.slice a n cap)).setCell ⟨w.heap.size + 1 + 1, 1, none⟩ (.slice ap n cp)).setCell ⟨w.heap.size + 1 + 1, 2, none⟩ (.slice (some ⟨w.heap.size, 0, none⟩) n n)).setCell ⟨w.heap.size + 1 + 1, 3, none⟩ (.map (some (w.heap.size + 1)))).setCell ⟨w.heap.size + 1 + 1, 4, none⟩ (.slice none 0 0)) n (w.heap.size + 1 + 1) (.slice a n cap) l := by
  have hsz : w.heap.size + 3 ≤ v3.heap.size := by have h8 := hb3.size; simp at h8; omega
  have hlt : ∀ x, (Value.slice ap n cp).ownBlock = some x → w.heap.size + 3 ≤ x ∧ x < v3.heap.size := fun x hx => by have h8 := hrp.lt x hx; simp at h8; omega
  exact start_box (bu := w.heap.size) (bf := w.heap.size + 1) (CBox.set hz) (Below.setCell (Below.setCell (Below.setCell (Below.setCell (Below.setCell hB3 (p := ⟨w.heap.size + 1 + 1, 0, none⟩) (show w.heap.size ≤ w.heap.size + 1 + 1 by omega) (.slice a n cap)) (p := ⟨w.heap.size + 1 + 1, 1, none⟩) (show w.heap.size ≤ w.heap.size + 1 + 1 by omega) (.slice ap n cp)) (p := ⟨w.heap.size + 1 + 1, 2, none⟩) (show w.heap.size ≤ w.heap.size + 1 + 1 by omega) (.slice (some ⟨w.heap.size, 0, none⟩) n n)) (p := ⟨w.heap.size + 1 + 1, 3, none⟩) (show w.heap.size ≤ w.heap.size + 1 + 1 by omega) (.map (some (w.heap.size + 1)))) (p := ⟨w.heap.size + 1 + 1, 4, none⟩) (show w.heap.size ≤ w.heap.size + 1 + 1 by omega) (.slice none 0 0)) (At.setCell (At.setCell (At.setCell (At.setCell (At.setCell hu (p := ⟨w.heap.size + 1 + 1, 0, none⟩) (show w.heap.size ≠ w.heap.size + 1 + 1 by omega) (.slice a n cap)) (p := ⟨w.heap.size + 1 + 1, 1, none⟩) (show w.heap.size ≠ w.heap.size + 1 + 1 by omega) (.slice ap n cp)) (p := ⟨w.heap.size + 1 + 1, 2, none⟩) (show w.heap.size ≠ w.heap.size + 1 + 1 by omega) (.slice (some ⟨w.heap.size, 0, none⟩) n n)) (p := ⟨w.heap.size + 1 + 1, 3, none⟩) (show w.heap.size ≠ w.heap.size + 1 + 1 by omega) (.map (some (w.heap.size + 1)))) (p := ⟨w.heap.size + 1 + 1, 4, none⟩) (show w.heap.size ≠ w.heap.size + 1 + 1 by omega) (.slice none 0 0)) (At.setCell (At.setCell (At.setCell (At.setCell (At.setCell hm (p := ⟨w.heap.size + 1 + 1, 0, none⟩) (show w.heap.size + 1 ≠ w.heap.size + 1 + 1 by omega) (.slice a n cap)) (p := ⟨w.heap.size + 1 + 1, 1, none⟩) (show w.heap.size + 1 ≠ w.heap.size + 1 + 1 by omega) (.slice ap n cp)) (p := ⟨w.heap.size + 1 + 1, 2, none⟩) (show w.heap.size + 1 ≠ w.heap.size + 1 + 1 by omega) (.slice (some ⟨w.heap.size, 0, none⟩) n n)) (p := ⟨w.heap.size + 1 + 1, 3, none⟩) (show w.heap.size + 1 ≠ w.heap.size + 1 + 1 by omega) (.map (some (w.heap.size + 1)))) (p := ⟨w.heap.size + 1 + 1, 4, none⟩) (show w.heap.size + 1 ≠ w.heap.size + 1 + 1 by omega) (.slice none 0 0)) (row_setC (row_setC (row_setC (row_setC (row_setC (row_base6 hrp (show w.heap.size ≤ ((((w.alloc (rowU n)).alloc (.map #[] 0)).alloc boxZ)).drew.heap.size by first | exact Nat.le_refl _ | (simp; done) | (simp; omega))) (p := ⟨w.heap.size + 1 + 1, 0, none⟩) (fun x hx => show x ≠ w.heap.size + 1 + 1 from by have h8 := hlt x hx; omega) (.slice a n cap)) (p := ⟨w.heap.size + 1 + 1, 1, none⟩) (fun x hx => show x ≠ w.heap.size + 1 + 1 from by have h8 := hlt x hx; omega) (.slice ap n cp)) (p := ⟨w.heap.size + 1 + 1, 2, none⟩) (fun x hx => show x ≠ w.heap.size + 1 + 1 from by have h8 := hlt x hx; omega) (.slice (some ⟨w.heap.size, 0, none⟩) n n)) (p := ⟨w.heap.size + 1 + 1, 3, none⟩) (fun x hx => show x ≠ w.heap.size + 1 + 1 from by have h8 := hlt x hx; omega) (.map (some (w.heap.size + 1)))) (p := ⟨w.heap.size + 1 + 1, 4, none⟩) (fun x hx => show x ≠ w.heap.size + 1 + 1 from by have h8 := hlt x hx; omega) (.slice none 0 0)) ⟨by omega, by omega, by omega, by omega, by omega, by omega⟩ (fun x hx => by have h8 := hlt x hx; omega)
theorem leaf96 {w v3 : World} {a ap : Option Addr} {cap cp n : Nat} {l : List Int} (hB3 : Below w.heap.size w v3) (hb3 : Below (((w.alloc (rowU n)).alloc (.map #[] 0))).drew.heap.size (((w.alloc (rowU n)).alloc (.map #[] 0))).drew v3) (hu : At v3 (w.heap.size) (rowU n)) (hm : At v3 (w.heap.size + 1) (.map #[] 0)) (hrp : v3.ownsRow (((w.alloc (rowU n)).alloc (.map #[] 0))).drew.heap.size 3 1 (.slice ap n cp) n (vals l)) : StartC w (v3.alloc (.cells #[.slice a n cap, .slice ap n cp, .slice (some ⟨w.heap.size, 0, none⟩) n n, .map (some (w.heap.size + 1)), .slice none 0 0] 133)) n (v3.heap.size) (.slice a n cap) l := by
  have hsz : w.heap.size + 2 ≤ v3.heap.size := by have h8 := hb3.size; simp at h8; omega
  have hlt : ∀ x, (Value.slice ap n cp).ownBlock = some x → w.heap.size + 2 ≤ x ∧ x < v3.heap.size := fun x hx => by have h8 := hrp.lt x hx; simp at h8; omega
  exact start_box (bu := w.heap.size) (bf := w.heap.size + 1) (CBox.new (by simp)) (bel_alloc hB3 (.cells #[.slice a n cap, .slice ap n cp, .slice (some ⟨w.heap.size, 0, none⟩) n n, .map (some (w.heap.size + 1)), .slice none 0 0] 133)) (At.alloc hu (.cells #[.slice a n cap, .slice ap n cp, .slice (some ⟨w.heap.size, 0, none⟩) n n, .map (some (w.heap.size + 1)), .slice none 0 0] 133)) (At.alloc hm (.cells #[.slice a n cap, .slice ap n cp, .slice (some ⟨w.heap.size, 0, none⟩) n n, .map (some (w.heap.size + 1)), .slice none 0 0] 133)) (World.ownsRow.alloc (row_base6 hrp (show w.heap.size ≤ (((w.alloc (rowU n)).alloc (.map #[] 0))).drew.heap.size by first | exact Nat.le_refl _ | (simp; done) | (simp; omega))) (.cells #[.slice a n cap, .slice ap n cp, .slice (some ⟨w.heap.size, 0, none⟩) n n, .map (some (w.heap.size + 1)), .slice none 0 0] 133)) ⟨by omega, by omega, by omega, by omega, by omega, by omega⟩ (fun x hx => by have h8 := hlt x hx; omega)
theorem leaf106 {w v3 : World} {a ap : Option Addr} {cap cp n : Nat} {l : List Int} (hB3 : Below w.heap.size w v3) (hb3 : Below ((w.alloc (rowU n))).drew.heap.size ((w.alloc (rowU n))).drew v3) (hu : At v3 (w.heap.size) (rowU n)) (hrp : v3.ownsRow ((w.alloc (rowU n))).drew.heap.size 3 1 (.slice ap n cp) n (vals l)) : StartC w ((v3.alloc (.cells #[.slice a n cap, .slice ap n cp, .slice (some ⟨w.heap.size, 0, none⟩) n n, .map (some (v3.heap.size + 1)), .slice none 0 0] 133)).alloc (.map #[] 0)) n (v3.heap.size) (.slice a n cap) l := by
  have hsz : w.heap.size + 1 ≤ v3.heap.size := by have h8 := hb3.size; simp at h8; omega
  have hlt : ∀ x, (Value.slice ap n cp).ownBlock = some x → w.heap.size + 1 ≤ x ∧ x < v3.heap.size := fun x hx => by have h8 := hrp.lt x hx; simp at h8; omega
  exact start_box (bu := w.heap.size) (bf := v3.heap.size + 1) (CBox.alloc (CBox.new (by simp)) (.map #[] 0)) (bel_alloc (bel_alloc hB3 (.cells #[.slice a n cap, .slice ap n cp, .slice (some ⟨w.heap.size, 0, none⟩) n n, .map (some (v3.heap.size + 1)), .slice none 0 0] 133)) (.map #[] 0)) (At.alloc (At.alloc hu (.cells #[.slice a n cap, .slice ap n cp, .slice (some ⟨w.heap.size, 0, none⟩) n n, .map (some (v3.heap.size + 1)), .slice none 0 0] 133)) (.map #[] 0)) (At.new' (.map #[] 0) (by simp)) (World.ownsRow.alloc (World.ownsRow.alloc (row_base6 hrp (show w.heap.size ≤ ((w.alloc (rowU n))).drew.heap.size by first | exact Nat.le_refl _ | (simp; done) | (simp; omega))) (.cells #[.slice a n cap, .slice ap n cp, .slice (some ⟨w.heap.size, 0, none⟩) n n, .map (some (v3.heap.size + 1)), .slice none 0 0] 133)) (.map #[] 0)) ⟨by omega, by omega, by omega, by omega, by omega, by omega⟩ (fun x hx => by have h8 := hlt x hx; omega)
theorem leaf116 {w v3 : World} {a ap : Option Addr} {cap cp n : Nat} {l : List Int} (hB3 : Below w.heap.size w v3) (hb3 : Below ((w.alloc (rowU n))).drew.heap.size ((w.alloc (rowU n))).drew v3) (hu : At v3 (w.heap.size) (rowU n)) (hrp : v3.ownsRow ((w.alloc (rowU n))).drew.heap.size 3 1 (.slice ap n cp) n (vals l)) : StartC w ((v3.alloc (.map #[] 0)).alloc (.cells #[.slice a n cap, .slice ap n cp, .slice (some ⟨w.heap.size, 0, none⟩) n n, .map (some (v3.heap.size)), .slice none 0 0] 133)) n (v3.heap.size + 1) (.slice a n cap) l := by
  have hsz : w.heap.size + 1 ≤ v3.heap.size := by have h8 := hb3.size; simp at h8; omega
  have hlt : ∀ x, (Value.slice ap n cp).ownBlock = some x → w.heap.size + 1 ≤ x ∧ x < v3.heap.size := fun x hx => by have h8 := hrp.lt x hx; simp at h8; omega
  exact start_box (bu := w.heap.size) (bf := v3.heap.size) (CBox.new (by simp)) (bel_alloc (bel_alloc hB3 (.map #[] 0)) (.cells #[.slice a n cap, .slice ap n cp, .slice (some ⟨w.heap.size, 0, none⟩) n n, .map (some (v3.heap.size)), .slice none 0 0] 133)) (At.alloc (At.alloc hu (.map #[] 0)) (.cells #[.slice a n cap, .slice ap n cp, .slice (some ⟨w.heap.size, 0, none⟩) n n, .map (some (v3.heap.size)), .slice none 0 0] 133)) (At.alloc (At.new' (.map #[] 0) (by simp)) (.cells #[.slice a n cap, .slice ap n cp, .slice (some ⟨w.heap.size, 0, none⟩) n n, .map (some (v3.heap.size)), .slice none 0 0] 133)) (World.ownsRow.alloc (World.ownsRow.alloc (row_base6 hrp (show w.heap.size ≤ ((w.alloc (rowU n))).drew.heap.size by first | exact Nat.le_refl _ | (simp; done) | (simp; omega))) (.map #[] 0)) (.cells #[.slice a n cap, .slice ap n cp, .slice (some ⟨w.heap.size, 0, none⟩) n n, .map (some (v3.heap.size)), .slice none 0 0] 133)) ⟨by omega, by omega, by omega, by omega, by omega, by omega⟩ (fun x hx => by have h8 := hlt x hx; omega)
theorem leaf126 {w v3 : World} {a ap : Option Addr} {cap cp n : Nat} {l : List Int} (hB3 : Below w.heap.size w v3) (hb3 : Below ((((w.alloc (.map #[] 0)).alloc boxZ).alloc (rowU n))).drew.heap.size ((((w.alloc (.map #[] 0)).alloc boxZ).alloc (rowU n))).drew v3) (hm : At v3 (w.heap.size) (.map #[] 0)) (hz : At v3 (w.heap.size + 1) boxZ) (hu : At v3 (w.heap.size + 1 + 1) (rowU n)) (hrp : v3.ownsRow ((((w.alloc (.map #[] 0)).alloc boxZ).alloc (rowU n))).drew.heap.size 3 1 (.slice ap n cp) n (vals l)) : StartC w (((((v3.setCell ⟨w.heap.size + 1, 0, none⟩ (.slice a n cap)).setCell ⟨w.heap.size + 1, 1, none⟩ (.slice ap n cp)).setCell ⟨w.heap.size + 1, 2, none⟩ (.slice (some ⟨w.heap.size + 1 + 1, 0, none⟩) n n)).setCell ⟨w.heap.size + 1, 3, none⟩ (.map (some (w.heap.size)))).setCell ⟨w.heap.size + 1, 4, none⟩ (.slice none 0 0)) n (w.heap.size + 1) (.slice a n cap) l := by
  have hsz : w.heap.size + 3 ≤ v3.heap.size := by have h8 := hb3.size; simp at h8; omega
  have hlt : ∀ x, (Value.slice ap n cp).ownBlock = some x → w.heap.size + 3 ≤ x ∧ x < v3.heap.size := fun x hx => by have h8 := hrp.lt x hx; simp at h8; omega
  exact start_box (bu := w.heap.size + 1 + 1) (bf := w.heap.size) (CBox.set hz) (Below.setCell (Below.setCell (Below.setCell (Below.setCell (Below.setCell hB3 (p := ⟨w.heap.size + 1, 0, none⟩) (show w.heap.size ≤ w.heap.size + 1 by omega) (.slice a n cap)) (p := ⟨w.heap.size + 1, 1, none⟩) (show w.heap.size ≤ w.heap.size + 1 by omega) (.slice ap n cp)) (p := ⟨w.heap.size + 1, 2, none⟩) (show w.heap.size ≤ w.heap.size + 1 by omega) (.slice (some ⟨w.heap.size + 1 + 1, 0, none⟩) n n)) (p := ⟨w.heap.size + 1, 3, none⟩) (show w.heap.size ≤ w.heap.size + 1 by omega) (.map (some (w.heap.size)))) (p := ⟨w.heap.size + 1, 4, none⟩) (show w.heap.size ≤ w.heap.size + 1 by omega) (.slice none 0 0)) (At.setCell (At.setCell (At.setCell (At.setCell (At.setCell hu (p := ⟨w.heap.size + 1, 0, none⟩) (show w.heap.size + 1 + 1 ≠ w.heap.size + 1 by omega) (.slice a n cap)) (p := ⟨w.heap.size + 1, 1, none⟩) (show w.heap.size + 1 + 1 ≠ w.heap.size + 1 by omega) (.slice ap n cp)) (p := ⟨w.heap.size + 1, 2, none⟩) (show w.heap.size + 1 + 1 ≠ w.heap.size + 1 by omega) (.slice (some ⟨w.heap.size + 1 + 1, 0, none⟩) n n)) (p := ⟨w.heap.size + 1, 3, none⟩) (show w.heap.size + 1 + 1 ≠ w.heap.size + 1 by omega) (.map (some (w.heap.size)))) (p := ⟨w.heap.size + 1, 4, none⟩) (show w.heap.size + 1 + 1 ≠ w.heap.size + 1 by omega) (.slice none 0 0)) (At.setCell (At.setCell (At.setCell (At.setCell (At.setCell hm (p := ⟨w.heap.size + 1, 0, none⟩) (show w.heap.size ≠ w.heap.size + 1 by omega) (.slice a n cap)) (p := ⟨w.heap.size + 1, 1, none⟩) (show w.heap.size ≠ w.heap.size + 1 by omega) (.slice ap n cp)) (p := ⟨w.heap.size + 1, 2, none⟩) (show w.heap.size ≠ w.heap.size + 1 by omega) (.slice (some ⟨w.heap.size + 1 + 1, 0, none⟩) n n)) (p := ⟨w.heap.size + 1, 3, none⟩) (show w.heap.size ≠ w.heap.size + 1 by omega) (.map (some (w.heap.size)))) (p := ⟨w.heap.size + 1, 4, none⟩) (show w.heap.size ≠ w.heap.size + 1 by omega) (.slice none 0 0)) (row_setC (row_setC (row_setC (row_setC (row_setC (row_base6 hrp (show w.heap.size ≤ ((((w.alloc (.map #[] 0)).alloc boxZ).alloc (rowU n))).drew.heap.size by first | exact Nat.le_refl _ | (simp; done) | (simp; omega))) (p := ⟨w.heap.size + 1, 0, none⟩) (fun x hx => show x ≠ w.heap.size + 1 from by have h8 := hlt x hx; omega) (.slice a n cap)) (p := ⟨w.heap.size + 1, 1, none⟩) (fun x hx => show x ≠ w.heap.size + 1 from by have h8 := hlt x hx; omega) (.slice ap n cp)) (p := ⟨w.heap.size + 1, 2, none⟩) (fun x hx => show x ≠ w.heap.size + 1 from by have h8 := hlt x hx; omega) (.slice (some ⟨w.heap.size + 1 + 1, 0, none⟩) n n)) (p := ⟨w.heap.size + 1, 3, none⟩) (fun x hx => show x ≠ w.heap.size + 1 from by have h8 := hlt x hx; omega) (.map (some (w.heap.size)))) (p := ⟨w.heap.size + 1, 4, none⟩) (fun x hx => show x ≠ w.heap.size + 1 from by have h8 := hlt x hx; omega) (.slice none 0 0)) ⟨by omega, by omega, by omega, by omega, by omega, by omega⟩ (fun x hx => by have h8 := hlt x hx; omega)
theorem leaf136 {w v3 : World} {a ap : Option Addr} {cap cp n : Nat} {l : List Int} (hB3 : Below w.heap.size w v3) (hb3 : Below (((w.alloc (.map #[] 0)).alloc boxZ)).drew.heap.size (((w.alloc (.map #[] 0)).alloc boxZ)).drew v3) (hm : At v3 (w.heap.size) (.map #[] 0)) (hz : At v3 (w.heap.size + 1) boxZ) (hrp : v3.ownsRow (((w.alloc (.map #[] 0)).alloc boxZ)).drew.heap.size 3 1 (.slice ap n cp) n (vals l)) : StartC w ((((((v3.setCell ⟨w.heap.size + 1, 0, none⟩ (.slice a n cap)).setCell ⟨w.heap.size + 1, 1, none⟩ (.slice ap n cp)).setCell ⟨w.heap.size + 1, 2, none⟩ (.slice (some ⟨v3.heap.size, 0, none⟩) n n)).setCell ⟨w.heap.size + 1, 3, none⟩ (.map (some (w.heap.size)))).setCell ⟨w.heap.size + 1, 4, none⟩ (.slice none 0 0)).alloc (rowU n)) n (w.heap.size + 1) (.slice a n cap) l := by
  have hsz : w.heap.size + 2 ≤ v3.heap.size := by have h8 := hb3.size; simp at h8; omega
  have hlt : ∀ x, (Value.slice ap n cp).ownBlock = some x → w.heap.size + 2 ≤ x ∧ x < v3.heap.size := fun x hx => by have h8 := hrp.lt x hx; simp at h8; omega
  exact start_box (bu := v3.heap.size) (bf := w.heap.size) (CBox.alloc (CBox.set hz) (rowU n)) (bel_alloc (Below.setCell (Below.setCell (Below.setCell (Below.setCell (Below.setCell hB3 (p := ⟨w.heap.size + 1, 0, none⟩) (show w.heap.size ≤ w.heap.size + 1 by omega) (.slice a n cap)) (p := ⟨w.heap.size + 1, 1, none⟩) (show w.heap.size ≤ w.heap.size + 1 by omega) (.slice ap n cp)) (p := ⟨w.heap.size + 1, 2, none⟩) (show w.heap.size ≤ w.heap.size + 1 by omega) (.slice (some ⟨v3.heap.size, 0, none⟩) n n)) (p := ⟨w.heap.size + 1, 3, none⟩) (show w.heap.size ≤ w.heap.size + 1 by omega) (.map (some (w.heap.size)))) (p := ⟨w.heap.size + 1, 4, none⟩) (show w.heap.size ≤ w.heap.size + 1 by omega) (.slice none 0 0)) (rowU n)) (At.new' (rowU n) (by simp)) (At.alloc (At.setCell (At.setCell (At.setCell (At.setCell (At.setCell hm (p := ⟨w.heap.size + 1, 0, none⟩) (show w.heap.size ≠ w.heap.size + 1 by omega) (.slice a n cap)) (p := ⟨w.heap.size + 1, 1, none⟩) (show w.heap.size ≠ w.heap.size + 1 by omega) (.slice ap n cp)) (p := ⟨w.heap.size + 1, 2, none⟩) (show w.heap.size ≠ w.heap.size + 1 by omega) (.slice (some ⟨v3.heap.size, 0, none⟩) n n)) (p := ⟨w.heap.size + 1, 3, none⟩) (show w.heap.size ≠ w.heap.size + 1 by omega) (.map (some (w.heap.size)))) (p := ⟨w.heap.size + 1, 4, none⟩) (show w.heap.size ≠ w.heap.size + 1 by omega) (.slice none 0 0)) (rowU n)) (World.ownsRow.alloc (row_setC (row_setC (row_setC (row_setC (row_setC (row_base6 hrp (show w.heap.size ≤ (((w.alloc (.map #[] 0)).alloc boxZ)).drew.heap.size by first | exact Nat.le_refl _ | (simp; done) | (simp; omega))) (p := ⟨w.heap.size + 1, 0, none⟩) (fun x hx => show x ≠ w.heap.size + 1 from by have h8 := hlt x hx; omega) (.slice a n cap)) (p := ⟨w.heap.size + 1, 1, none⟩) (fun x hx => show x ≠ w.heap.size + 1 from by have h8 := hlt x hx; omega) (.slice ap n cp)) (p := ⟨w.heap.size + 1, 2, none⟩) (fun x hx => show x ≠ w.heap.size + 1 from by have h8 := hlt x hx; omega) (.slice (some ⟨v3.heap.size, 0, none⟩) n n)) (p := ⟨w.heap.size + 1, 3, none⟩) (fun x hx => show x ≠ w.heap.size + 1 from by have h8 := hlt x hx; omega) (.map (some (w.heap.size)))) (p := ⟨w.heap.size + 1, 4, none⟩) (fun x hx => show x ≠ w.heap.size + 1 from by have h8 := hlt x hx; omega) (.slice none 0 0)) (rowU n)) ⟨by omega, by omega, by omega, by omega, by omega, by omega⟩ (fun x hx => by have h8 := hlt x hx; omega)
theorem leaf146 {w v3 : World} {a ap : Option Addr} {cap cp n : Nat} {l : List Int} (hB3 : Below w.heap.size w v3) (hb3 : Below ((((w.alloc (.map #[] 0)).alloc (rowU n)).alloc boxZ)).drew.heap.size ((((w.alloc (.map #[] 0)).alloc (rowU n)).alloc boxZ)).drew v3) (hm : At v3 (w.heap.size) (.map #[] 0)) (hu : At v3 (w.heap.size + 1) (rowU n)) (hz : At v3 (w.heap.size + 1 + 1) boxZ) (hrp : v3.ownsRow ((((w.alloc (.map #[] 0)).alloc (rowU n)).alloc boxZ)).drew.heap.size 3 1 (.slice ap n cp) n (vals l)) : StartC w (((((v3.setCell ⟨w.heap.size + 1 + 1, 0, none⟩ (.slice a n cap)).setCell ⟨w.heap.size + 1 + 1, 1, none⟩ (.slice ap n cp)).setCell ⟨w.heap.size + 1 + 1, 2, none⟩ (.slice (some ⟨w.heap.size + 1, 0, none⟩) n n)).setCell ⟨w.heap.size + 1 + 1, 3, none⟩ (.map (some (w.heap.size)))).setCell ⟨w.heap.size + 1 + 1, 4, none⟩ (.slice none 0 0)) n (w.heap.size + 1 + 1) (.slice a n cap) l := by
  have hsz : w.heap.size + 3 ≤ v3.heap.size := by have h8 := hb3.size; simp at h8; omega
  have hlt : ∀ x, (Value.slice ap n cp).ownBlock = some x → w.heap.size + 3 ≤ x ∧ x < v3.heap.size := fun x hx => by have h8 := hrp.lt x hx; simp at h8; omega
  exact start_box (bu := w.heap.size + 1) (bf := w.heap.size) (CBox.set hz) (Below.setCell (Below.setCell (Below.setCell (Below.setCell (Below.setCell hB3 (p := ⟨w.heap.size + 1 + 1, 0, none⟩) (show w.heap.size ≤ w.heap.size + 1 + 1 by omega) (.slice a n cap)) (p := ⟨w.heap.size + 1 + 1, 1, none⟩) (show w.heap.size ≤ w.heap.size + 1 + 1 by omega) (.slice ap n cp)) (p := ⟨w.heap.size + 1 + 1, 2, none⟩) (show w.heap.size ≤ w.heap.size + 1 + 1 by omega) (.slice (some ⟨w.heap.size + 1, 0, none⟩) n n)) (p := ⟨w.heap.size + 1 + 1, 3, none⟩) (show w.heap.size ≤ w.heap.size + 1 + 1 by omega) (.map (some (w.heap.size)))) (p := ⟨w.heap.size + 1 + 1, 4, none⟩) (show w.heap.size ≤ w.heap.size + 1 + 1 by omega) (.slice none 0 0)) (At.setCell (At.setCell (At.setCell (At.setCell (At.setCell hu (p := ⟨w.heap.size + 1 + 1, 0, none⟩) (show w.heap.size + 1 ≠ w.heap.size + 1 + 1 by omega) (.slice a n cap)) (p := ⟨w.heap.size + 1 + 1, 1, none⟩) (show w.heap.size + 1 ≠ w.heap.size + 1 + 1 by omega) (.slice ap n cp)) (p := ⟨w.heap.size + 1 + 1, 2, none⟩) (show w.heap.size + 1 ≠ w.heap.size + 1 + 1 by omega) (.slice (some ⟨w.heap.size + 1, 0, none⟩) n n)) (p := ⟨w.heap.size + 1 + 1, 3, none⟩) (show w.heap.size + 1 ≠ w.heap.size + 1 + 1 by omega) (.map (some (w.heap.size)))) (p := ⟨w.heap.size + 1 + 1, 4, none⟩) (show w.heap.size + 1 ≠ w.heap.size + 1 + 1 by omega) (.slice none 0 0)) (At.setCell (At.setCell (At.setCell (At.setCell (At.setCell hm (p := ⟨w.heap.size + 1 + 1, 0, none⟩) (show w.heap.size ≠ w.heap.size + 1 + 1 by omega) (.slice a n cap)) (p := ⟨w.heap.size + 1 + 1, 1, none⟩) (show w.heap.size ≠ w.heap.size + 1 + 1 by omega) (.slice ap n cp)) (p := ⟨w.heap.size + 1 + 1, 2, none⟩) (show w.heap.size ≠ w.heap.size + 1 + 1 by omega) (.slice (some ⟨w.heap.size + 1, 0, none⟩) n n)) (p := ⟨w.heap.size + 1 + 1, 3, none⟩) (show w.heap.size ≠ w.heap.size + 1 + 1 by omega) (.map (some (w.heap.size)))) (p := ⟨w.heap.size + 1 + 1, 4, none⟩) (show w.heap.size ≠ w.heap.size + 1 + 1 by omega) (.slice none 0 0)) (row_setC (row_setC (row_setC (row_setC (row_setC (row_base6 hrp (show w.heap.size ≤ ((((w.alloc (.map #[] 0)).alloc (rowU n)).alloc boxZ)).drew.heap.size by first | exact Nat.le_refl _ | (simp; done) | (simp; omega))) (p := ⟨w.heap.size + 1 + 1, 0, none⟩) (fun x hx => show x ≠ w.heap.size + 1 + 1 from by have h8 := hlt x hx; omega) (.slice a n cap)) (p := ⟨w.heap.size + 1 + 1, 1, none⟩) (fun x hx => show x ≠ w.heap.size + 1 + 1 from by have h8 := hlt x hx; omega) (.slice ap n cp)) (p := ⟨w.heap.size + 1 + 1, 2, none⟩) (fun x hx => show x ≠ w.heap.size + 1 + 1 from by have h8 := hlt x hx; omega) (.slice (some ⟨w.heap.size + 1, 0, none⟩) n n)) (p := ⟨w.heap.size + 1 + 1, 3, none⟩) (fun x hx => show x ≠ w.heap.size + 1 + 1 from by have h8 := hlt x hx; omega) (.map (some (w.heap.size)))) (p := ⟨w.heap.size + 1 + 1, 4, none⟩) (fun x hx => show x ≠ w.heap.size + 1 + 1 from by have h8 := hlt x hx; omega) (.slice none 0 0)) ⟨by omega, by omega, by omega, by omega, by omega, by omega⟩ (fun x hx => by have h8 := hlt x hx; omega)
theorem leaf156 {w v3 : World} {a ap : Option Addr} {cap cp n : Nat} {l : List Int} (hB3 : Below w.heap.size w v3) (hb3 : Below (((w.alloc (.map #[] 0)).alloc (rowU n))).drew.heap.size (((w.alloc (.map #[] 0)).alloc (rowU n))).drew v3) (hm : At v3 (w.heap.size) (.map #[] 0)) (hu : At v3 (w.heap.size + 1) (rowU n)) (hrp : v3.ownsRow (((w.alloc (.map #[] 0)).alloc (rowU n))).drew.heap.size 3 1 (.slice ap n cp) n (vals l)) : StartC w (v3.alloc (.cells #[.slice a n cap, .slice ap n cp, .slice (some ⟨w.heap.size + 1, 0, none⟩) n n, .map (some (w.heap.size)), .slice none 0 0] 133)) n (v3.heap.size) (.slice a n cap) l := by
  have hsz : w.heap.size + 2 ≤ v3.heap.size := by have h8 := hb3.size; simp at h8; omega
  have hlt : ∀ x, (Value.slice ap n cp).ownBlock = some x → w.heap.size + 2 ≤ x ∧ x < v3.heap.size := fun x hx => by have h8 := hrp.lt x hx; simp at h8; omega
  exact start_box (bu := w.heap.size + 1) (bf := w.heap.size) (CBox.new (by simp)) (bel_alloc hB3 (.cells #[.slice a n cap, .slice ap n cp, .slice (some ⟨w.heap.size + 1, 0, none⟩) n n, .map (some (w.heap.size)), .slice none 0 0] 133)) (At.alloc hu (.cells #[.slice a n cap, .slice ap n cp, .slice (some ⟨w.heap.size + 1, 0, none⟩) n n, .map (some (w.heap.size)), .slice none 0 0] 133)) (At.alloc hm (.cells #[.slice a n cap, .slice ap n cp, .slice (some ⟨w.heap.size + 1, 0, none⟩) n n, .map (some (w.heap.size)), .slice none 0 0] 133)) (World.ownsRow.alloc (row_base6 hrp (show w.heap.size ≤ (((w.alloc (.map #[] 0)).alloc (rowU n))).drew.heap.size by first | exact Nat.le_refl _ | (simp; done) | (simp; omega))) (.cells #[.slice a n cap, .slice ap n cp, .slice (some ⟨w.heap.size + 1, 0, none⟩) n n, .map (some (w.heap.size)), .slice none 0 0] 133)) ⟨by omega, by omega, by omega, by omega, by omega, by omega⟩ (fun x hx => by have h8 := hlt x hx; omega)
theorem leaf166 {w v3 : World} {a ap : Option Addr} {cap cp n : Nat} {l : List Int} (hB3 : Below w.heap.size w v3) (hb3 : Below ((w.alloc (.map #[] 0))).drew.heap.size ((w.alloc (.map #[] 0))).drew v3) (hm : At v3 (w.heap.size) (.map #[] 0)) (hrp : v3.ownsRow ((w.alloc (.map #[] 0))).drew.heap.size 3 1 (.slice ap n cp) n (vals l)) : StartC w ((v3.alloc (.cells #[.slice a n cap, .slice ap n cp, .slice (some ⟨v3.heap.size + 1, 0, none⟩) n n, .map (some (w.heap.size)), .slice none 0 0] 133)).alloc (rowU n)) n (v3.heap.size) (.slice a n cap) l := by
  have hsz : w.heap.size + 1 ≤ v3.heap.size := by have h8 := hb3.size; simp at h8; omega
  have hlt : ∀ x, (Value.slice ap n cp).ownBlock = some x → w.heap.size + 1 ≤ x ∧ x < v3.heap.size := fun x hx => by have h8 := hrp.lt x hx; simp at h8; omega
  exact start_box (bu := v3.heap.size + 1) (bf := w.heap.size) (CBox.alloc (CBox.new (by simp)) (rowU n)) (bel_alloc (bel_alloc hB3 (.cells #[.slice a n cap, .slice ap n cp, .slice (some ⟨v3.heap.size + 1, 0, none⟩) n n, .map (some (w.heap.size)), .slice none 0 0] 133)) (rowU n)) (At.new' (rowU n) (by simp)) (At.alloc (At.alloc hm (.cells #[.slice a n cap, .slice ap n cp, .slice (some ⟨v3.heap.size + 1, 0, none⟩) n n, .map (some (w.heap.size)), .slice none 0 0] 133)) (rowU n)) (World.ownsRow.alloc (World.ownsRow.alloc (row_base6 hrp (show w.heap.size ≤ ((w.alloc (.map #[] 0))).drew.heap.size by first | exact Nat.le_refl _ | (simp; done) | (simp; omega))) (.cells #[.slice a n cap, .slice ap n cp, .slice (some ⟨v3.heap.size + 1, 0, none⟩) n n, .map (some (w.heap.size)), .slice none 0 0] 133)) (rowU n)) ⟨by omega, by omega, by omega, by omega, by omega, by omega⟩ (fun x hx => by have h8 := hlt x hx; omega)
theorem leaf176 {w v3 : World} {a ap : Option Addr} {cap cp n : Nat} {l : List Int} (hB3 : Below w.heap.size w v3) (hb3 : Below ((w.alloc (.map #[] 0))).drew.heap.size ((w.alloc (.map #[] 0))).drew v3) (hm : At v3 (w.heap.size) (.map #[] 0)) (hrp : v3.ownsRow ((w.alloc (.map #[] 0))).drew.heap.size 3 1 (.slice ap n cp) n (vals l)) : StartC w ((v3.alloc (rowU n)).alloc (.cells #[.slice a n cap, .slice ap n cp, .slice (some ⟨v3.heap.size, 0, none⟩) n n, .map (some (w.heap.size)), .slice none 0 0] 133)) n (v3.heap.size + 1) (.slice a n cap) l := by
  have hsz : w.heap.size + 1 ≤ v3.heap.size := by have h8 := hb3.size; simp at h8; omega
  have hlt : ∀ x, (Value.slice ap n cp).ownBlock = some x → w.heap.size + 1 ≤ x ∧ x < v3.heap.size := fun x hx => by have h8 := hrp.lt x hx; simp at h8; omega
  exact start_box (bu := v3.heap.size) (bf := w.heap.size) (CBox.new (by simp)) (bel_alloc (bel_alloc hB3 (rowU n)) (.cells #[.slice a n cap, .slice ap n cp, .slice (some ⟨v3.heap.size, 0, none⟩) n n, .map (some (w.heap.size)), .slice none 0 0] 133)) (At.alloc (At.new' (rowU n) (by simp)) (.cells #[.slice a n cap, .slice ap n cp, .slice (some ⟨v3.heap.size, 0, none⟩) n n, .map (some (w.heap.size)), .slice none 0 0] 133)) (At.alloc (At.alloc hm (rowU n)) (.cells #[.slice a n cap, .slice ap n cp, .slice (some ⟨v3.heap.size, 0, none⟩) n n, .map (some (w.heap.size)), .slice none 0 0] 133)) (World.ownsRow.alloc (World.ownsRow.alloc (row_base6 hrp (show w.heap.size ≤ ((w.alloc (.map #[] 0))).drew.heap.size by first | exact Nat.le_refl _ | (simp; done) | (simp; omega))) (rowU n)) (.cells #[.slice a n cap, .slice ap n cp, .slice (some ⟨v3.heap.size, 0, none⟩) n n, .map (some (w.heap.size)), .slice none 0 0] 133)) ⟨by omega, by omega, by omega, by omega, by omega, by omega⟩ (fun x hx => by have h8 := hlt x hx; omega)
theorem leaf186 {w v3 : World} {a ap : Option Addr} {cap cp n : Nat} {l : List Int} (hB3 : Below w.heap.size w v3) (hb3 : Below (w).drew.heap.size (w).drew v3) (hrp : v3.ownsRow (w).drew.heap.size 3 1 (.slice ap n cp) n (vals l)) : StartC w (((v3.alloc (.cells #[.slice a n cap, .slice ap n cp, .slice (some ⟨v3.heap.size + 1, 0, none⟩) n n, .map (some (v3.heap.size + 1 + 1)), .slice none 0 0] 133)).alloc (rowU n)).alloc (.map #[] 0)) n (v3.heap.size) (.slice a n cap) l := by
  have hsz : w.heap.size ≤ v3.heap.size := by have h8 := hb3.size; simp at h8; omega
  have hlt : ∀ x, (Value.slice ap n cp).ownBlock = some x → w.heap.size ≤ x ∧ x < v3.heap.size := fun x hx => by have h8 := hrp.lt x hx; simp at h8; omega
  exact start_box (bu := v3.heap.size + 1) (bf := v3.heap.size + 1 + 1) (CBox.alloc (CBox.alloc (CBox.new (by simp)) (rowU n)) (.map #[] 0)) (bel_alloc (bel_alloc (bel_alloc hB3 (.cells #[.slice a n cap, .slice ap n cp, .slice (some ⟨v3.heap.size + 1, 0, none⟩) n n, .map (some (v3.heap.size + 1 + 1)), .slice none 0 0] 133)) (rowU n)) (.map #[] 0)) (At.alloc (At.new' (rowU n) (by simp)) (.map #[] 0)) (At.new' (.map #[] 0) (by simp)) (World.ownsRow.alloc (World.ownsRow.alloc (World.ownsRow.alloc (row_base6 hrp (show w.heap.size ≤ (w).drew.heap.size by first | exact Nat.le_refl _ | (simp; done) | (simp; omega))) (.cells #[.slice a n cap, .slice ap n cp, .slice (some ⟨v3.heap.size + 1, 0, none⟩) n n, .map (some (v3.heap.size + 1 + 1)), .slice none 0 0] 133)) (rowU n)) (.map #[] 0)) ⟨by omega, by omega, by omega, by omega, by omega, by omega⟩ (fun x hx => by have h8 := hlt x hx; omega)
theorem leaf196 {w v3 : World} {a ap : Option Addr} {cap cp n : Nat} {l : List Int} (hB3 : Below w.heap.size w v3) (hb3 : Below (w).drew.heap.size (w).drew v3) (hrp : v3.ownsRow (w).drew.heap.size 3 1 (.slice ap n cp) n (vals l)) : StartC w (((v3.alloc (.cells #[.slice a n cap, .slice ap n cp, .slice (some ⟨v3.heap.size + 1 + 1, 0, none⟩) n n, .map (some (v3.heap.size + 1)), .slice none 0 0] 133)).alloc (.map #[] 0)).alloc (rowU n)) n (v3.heap.size) (.slice a n cap) l := by
  have hsz : w.heap.size ≤ v3.heap.size := by have h8 := hb3.size; simp at h8; omega
  have hlt : ∀ x, (Value.slice ap n cp).ownBlock = some x → w.heap.size ≤ x ∧ x < v3.heap.size := fun x hx => by have h8 := hrp.lt x hx; simp at h8; omega
  exact start_box (bu := v3.heap.size + 1 + 1) (bf := v3.heap.size + 1) (CBox.alloc (CBox.alloc (CBox.new (by simp)) (.map #[] 0)) (rowU n)) (bel_alloc (bel_alloc (bel_alloc hB3 (.cells #[.slice a n cap, .slice ap n cp, .slice (some ⟨v3.heap.size + 1 + 1, 0, none⟩) n n, .map (some (v3.heap.size + 1)), .slice none 0 0] 133)) (.map #[] 0)) (rowU n)) (At.new' (rowU n) (by simp)) (At.alloc (At.new' (.map #[] 0) (by simp)) (rowU n)) (World.ownsRow.alloc (World.ownsRow.alloc (World.ownsRow.alloc (row_base6 hrp (show w.heap.size ≤ (w).drew.heap.size by first | exact Nat.le_refl _ | (simp; done) | (simp; omega))) (.cells #[.slice a n cap, .slice ap n cp, .slice (some ⟨v3.heap.size + 1 + 1, 0, none⟩) n n, .map (some (v3.heap.size + 1)), .slice none 0 0] 133)) (.map #[] 0)) (rowU n)) ⟨by omega, by omega, by omega, by omega, by omega, by omega⟩ (fun x hx => by have h8 := hlt x hx; omega)
theorem leaf206 {w v3 : World} {a ap : Option Addr} {cap cp n : Nat} {l : List Int} (hB3 : Below w.heap.size w v3) (hb3 : Below (w).drew.heap.size (w).drew v3) (hrp : v3.ownsRow (w).drew.heap.size 3 1 (.slice ap n cp) n (vals l)) : StartC w (((v3.alloc (rowU n)).alloc (.cells #[.slice a n cap, .slice ap n cp, .slice (some ⟨v3.heap.size, 0, none⟩) n n, .map (some (v3.heap.size + 1 + 1)), .slice none 0 0] 133)).alloc (.map #[] 0)) n (v3.heap.size + 1) (.slice a n cap) l := by
  have hsz : w.heap.size ≤ v3.heap.size := by have h8 := hb3.size; simp at h8; omega
  have hlt : ∀ x, (Value.slice ap n cp).ownBlock = some x → w.heap.size ≤ x ∧ x < v3.heap.size := fun x hx => by have h8 := hrp.lt x hx; simp at h8; omega
  exact start_box (bu := v3.heap.size) (bf := v3.heap.size + 1 + 1) (CBox.alloc (CBox.new (by simp)) (.map #[] 0)) (bel_alloc (bel_alloc (bel_alloc hB3 (rowU n)) (.cells #[.slice a n cap, .slice ap n cp, .slice (some ⟨v3.heap.size, 0, none⟩) n n, .map (some (v3.heap.size + 1 + 1)), .slice none 0 0] 133)) (.map #[] 0)) (At.alloc (At.alloc (At.new' (rowU n) (by simp)) (.cells #[.slice a n cap, .slice ap n cp, .slice (some ⟨v3.heap.size, 0, none⟩) n n, .map (some (v3.heap.size + 1 + 1)), .slice none 0 0] 133)) (.map #[] 0)) (At.new' (.map #[] 0) (by simp)) (World.ownsRow.alloc (World.ownsRow.alloc (World.ownsRow.alloc (row_base6 hrp (show w.heap.size ≤ (w).drew.heap.size by first | exact Nat.le_refl _ | (simp; done) | (simp; omega))) (rowU n)) (.cells #[.slice a n cap, .slice ap n cp, .slice (some ⟨v3.heap.size, 0, none⟩) n n, .map (some (v3.heap.size + 1 + 1)), .slice none 0 0] 133)) (.map #[] 0)) ⟨by omega, by omega, by omega, by omega, by omega, by omega⟩ (fun x hx => by have h8 := hlt x hx; omega)
theorem leaf216 {w v3 : World} {a ap : Option Addr} {cap cp n : Nat} {l : List Int} (hB3 : Below w.heap.size w v3) (hb3 : Below (w).drew.heap.size (w).drew v3) (hrp : v3.ownsRow (w).drew.heap.size 3 1 (.slice ap n cp) n (vals l)) : StartC w (((v3.alloc (rowU n)).alloc (.map #[] 0)).alloc (.cells #[.slice a n cap, .slice ap n cp, .slice (some ⟨v3.heap.size, 0, none⟩) n n, .map (some (v3.heap.size + 1)), .slice none 0 0] 133)) n (v3.heap.size + 1 + 1) (.slice a n cap) l := by
  have hsz : w.heap.size ≤ v3.heap.size := by have h8 := hb3.size; simp at h8; omega
  have hlt : ∀ x, (Value.slice ap n cp).ownBlock = some x → w.heap.size ≤ x ∧ x < v3.heap.size := fun x hx => by have h8 := hrp.lt x hx; simp at h8; omega
  exact start_box (bu := v3.heap.size) (bf := v3.heap.size + 1) (CBox.new (by simp)) (bel_alloc (bel_alloc (bel_alloc hB3 (rowU n)) (.map #[] 0)) (.cells #[.slice a n cap, .slice ap n cp, .slice (some ⟨v3.heap.size, 0, none⟩) n n, .map (some (v3.heap.size + 1)), .slice none 0 0] 133)) (At.alloc (At.alloc (At.new' (rowU n) (by simp)) (.map #[] 0)) (.cells #[.slice a n cap, .slice ap n cp, .slice (some ⟨v3.heap.size, 0, none⟩) n n, .map (some (v3.heap.size + 1)), .slice none 0 0] 133)) (At.alloc (At.new' (.map #[] 0) (by simp)) (.cells #[.slice a n cap, .slice ap n cp, .slice (some ⟨v3.heap.size, 0, none⟩) n n, .map (some (v3.heap.size + 1)), .slice none 0 0] 133)) (World.ownsRow.alloc (World.ownsRow.alloc (World.ownsRow.alloc (row_base6 hrp (show w.heap.size ≤ (w).drew.heap.size by first | exact Nat.le_refl _ | (simp; done) | (simp; omega))) (rowU n)) (.map #[] 0)) (.cells #[.slice a n cap, .slice ap n cp, .slice (some ⟨v3.heap.size, 0, none⟩) n n, .map (some (v3.heap.size + 1)), .slice none 0 0] 133)) ⟨by omega, by omega, by omega, by omega, by omega, by omega⟩ (fun x hx => by have h8 := hlt x hx; omega)
theorem leaf226 {w v3 : World} {a ap : Option Addr} {cap cp n : Nat} {l : List Int} (hB3 : Below w.heap.size w v3) (hb3 : Below (w).drew.heap.size (w).drew v3) (hrp : v3.ownsRow (w).drew.heap.size 3 1 (.slice ap n cp) n (vals l)) : StartC w (((v3.alloc (.map #[] 0)).alloc (.cells #[.slice a n cap, .slice ap n cp, .slice (some ⟨v3.heap.size + 1 + 1, 0, none⟩) n n, .map (some (v3.heap.size)), .slice none 0 0] 133)).alloc (rowU n)) n (v3.heap.size + 1) (.slice a n cap) l := by
  have hsz : w.heap.size ≤ v3.heap.size := by have h8 := hb3.size; simp at h8; omega
  have hlt : ∀ x, (Value.slice ap n cp).ownBlock = some x → w.heap.size ≤ x ∧ x < v3.heap.size := fun x hx => by have h8 := hrp.lt x hx; simp at h8; omega
  exact start_box (bu := v3.heap.size + 1 + 1) (bf := v3.heap.size) (CBox.alloc (CBox.new (by simp)) (rowU n)) (bel_alloc (bel_alloc (bel_alloc hB3 (.map #[] 0)) (.cells #[.slice a n cap, .slice ap n cp, .slice (some ⟨v3.heap.size + 1 + 1, 0, none⟩) n n, .map (some (v3.heap.size)), .slice none 0 0] 133)) (rowU n)) (At.new' (rowU n) (by simp)) (At.alloc (At.alloc (At.new' (.map #[] 0) (by simp)) (.cells #[.slice a n cap, .slice ap n cp, .slice (some ⟨v3.heap.size + 1 + 1, 0, none⟩) n n, .map (some (v3.heap.size)), .slice none 0 0] 133)) (rowU n)) (World.ownsRow.alloc (World.ownsRow.alloc (World.ownsRow.alloc (row_base6 hrp (show w.heap.size ≤ (w).drew.heap.size by first | exact Nat.le_refl _ | (simp; done) | (simp; omega))) (.map #[] 0)) (.cells #[.slice a n cap, .slice ap n cp, .slice (some ⟨v3.heap.size + 1 + 1, 0, none⟩) n n, .map (some (v3.heap.size)), .slice none 0 0] 133)) (rowU n)) ⟨by omega, by omega, by omega, by omega, by omega, by omega⟩ (fun x hx => by have h8 := hlt x hx; omega)
theorem leaf236 {w v3 : World} {a ap : Option Addr} {cap cp n : Nat} {l : List Int} (hB3 : Below w.heap.size w v3) (hb3 : Below (w).drew.heap.size (w).drew v3) (hrp : v3.ownsRow (w).drew.heap.size 3 1 (.slice ap n cp) n (vals l)) : StartC w (((v3.alloc (.map #[] 0)).alloc (rowU n)).alloc (.cells #[.slice a n cap, .slice ap n cp, .slice (some ⟨v3.heap.size + 1, 0, none⟩) n n, .map (some (v3.heap.size)), .slice none 0 0] 133)) n (v3.heap.size + 1 + 1) (.slice a n cap) l := by
  have hsz : w.heap.size ≤ v3.heap.size := by have h8 := hb3.size; simp at h8; omega
  have hlt : ∀ x, (Value.slice ap n cp).ownBlock = some x → w.heap.size ≤ x ∧ x < v3.heap.size := fun x hx => by have h8 := hrp.lt x hx; simp at h8; omega
  exact start_box (bu := v3.heap.size + 1) (bf := v3.heap.size) (CBox.new (by simp)) (bel_alloc (bel_alloc (bel_alloc hB3 (.map #[] 0)) (rowU n)) (.cells #[.slice a n cap, .slice ap n cp, .slice (some ⟨v3.heap.size + 1, 0, none⟩) n n, .map (some (v3.heap.size)), .slice none 0 0] 133)) (At.alloc (At.new' (rowU n) (by simp)) (.cells #[.slice a n cap, .slice ap n cp, .slice (some ⟨v3.heap.size + 1, 0, none⟩) n n, .map (some (v3.heap.size)), .slice none 0 0] 133)) (At.alloc (At.alloc (At.new' (.map #[] 0) (by simp)) (rowU n)) (.cells #[.slice a n cap, .slice ap n cp, .slice (some ⟨v3.heap.size + 1, 0, none⟩) n n, .map (some (v3.heap.size)), .slice none 0 0] 133)) (World.ownsRow.alloc (World.ownsRow.alloc (World.ownsRow.alloc (row_base6 hrp (show w.heap.size ≤ (w).drew.heap.size by first | exact Nat.le_refl _ | (simp; done) | (simp; omega))) (.map #[] 0)) (rowU n)) (.cells #[.slice a n cap, .slice ap n cp, .slice (some ⟨v3.heap.size + 1, 0, none⟩) n n, .map (some (v3.heap.size)), .slice none 0 0] 133)) ⟨by omega, by omega, by omega, by omega, by omega, by omega⟩ (fun x hx => by have h8 := hlt x hx; omega)
end Go.Proofs.YtobgkfpjokfbaaaGreatDoor
namespace Go.Proofs.YtobgkfpjokfbaaaGreatDoor
open Go.ChangeShapes Go.WideShapes Go.ChangeAt Go.RowKit
open Go.MapKept Go.ChangeMaps
set_option linter.unusedVariables false

/-- A closing that has come from another one: its row of parts and its row of users lie where they lay. -/
def CloE (w0 w' : World) (n C bu bf : Nat) (na vp : Value) (l : List Int) (U : Nat → List Int) (S : FD) : Prop := Below w0.heap.size w0 w' ∧ ∃ T V vd, Clo w' w0.heap.size T n C bu bf na vp vd V l U S.1 S.2

set_option maxHeartbeats 6400000 in
set_option maxRecDepth 20000 in
theorem join_same {w0 w : World} {T : Nat → Nat} {n C bu bf : Nat} {vp vd : Value} {V : Nat → Value} {l : List Int} {U : Nat → List Int} {F : Sh → Option Int} {D : List (Int × Int)} {na : Value} {i j : Nat}
    (hb : Below w0.heap.size w0 w) (hC : Clo w w0.heap.size T n C bu bf na vp vd V l U F D) (hi : i < n) (hj : j < n) (he : l.getD i 0 = l.getD j 0) :
    Calls Tryz.prog 105 #[.pointer (some ⟨C, 0, none⟩), .int .i64 i, .int .i64 j] w fun e w' => e = .returned (.tuple #[]) ∧ CloE w0 w' n C bu bf na vp l U (F, D) := by
  have hll : l.length = n := by have := hC.rp.1; simpa [vals] using this
  obtain ⟨bp, cp, rfl, hbp, _⟩ : ∃ bp cp, vp = .slice (some ⟨bp, 0, none⟩) n cp ∧ bp < w.heap.size ∧ n ≤ cp := by
    rcases hC.rp.2 with ⟨_, h0⟩ | ⟨g, cap, cur, e, _, hg, hcap, _⟩
    · omega
    · exact ⟨g, cap, e, (Array.getElem?_eq_some_iff.1 hg).1, hcap⟩
  have HQ : Hid (∀ W, Below w.heap.size w W → CloE w0 W n C bu bf na (.slice (some ⟨bp, 0, none⟩) n cp) l U (F, D)) := fun W hW => ⟨hb.trans (hW.mono hb.size), T, V, vd, hC.keep hW⟩
  have c1 := hC.c1
  have ci : w.cell? ⟨bp, i, none⟩ = some (.int .i64 (l.getD i 0)) := (hC.rp.cellAt i (by omega)).trans (vals_at (by omega))
  have cj : w.cell? ⟨bp, j, none⟩ = some (.int .i64 (l.getD j 0)) := (hC.rp.cellAt j (by omega)).trans (vals_at (by omega))
  have d1 : w.drew.cell? ⟨C, 1, none⟩ = some (.slice (some ⟨bp, 0, none⟩) n cp) := c1
  have hil : (i : Int) < n := by omega
  have hjl : (j : Int) < n := by omega
  rw [he] at ci
  obtain ⟨z, hz⟩ : ∃ z, l.getD j 0 = z := ⟨_, rfl⟩
  rw [hz] at ci cj
  have di : w.drew.cell? ⟨bp, i, none⟩ = some (.int .i64 z) := ci
  have dj : w.drew.cell? ⟨bp, j, none⟩ = some (.int .i64 z) := cj
  have hm : min z z = z := Int.min_self z
  have hM : max z z = z := Int.max_self z
  clear hC hb he hll hz
  go_enter Tryz.func105, Tryz.ntmps105
  go_upto_region 0 with fail
  go_cut [6, 7] from 15 to 44 (fun x y wx => x = .int .i64 z ∧ y = .int .i64 z ∧ Below w.heap.size w wx)
  case first =>
    go_region
    all_goals
      go_wp2_with fail
      go_meet
      exact ⟨by first | rfl | rw [hm], by first | rfl | rw [hM], (Below.refl _ _).drew⟩
  case rest =>
  obtain ⟨rfl, rfl, hB⟩ := hcut
  have HE := (show Hid _ from HQ.out wc hB)
  have hzz : (z == z) = true := by simp
  clear c1 ci cj d1 di dj hm hM hB HQ
  go_wp2_with fail
  first | go_end0 | (refine bodyPost_ret (results_none rfl _ _ _) rfl ?_)
  exact ⟨rfl, HE.out⟩
end Go.Proofs.YtobgkfpjokfbaaaGreatDoor
namespace Go.Proofs.YtobgkfpjokfbaaaGreatDoor
open Go.ChangeShapes Go.WideShapes Go.ChangeAt Go.RowKit
open Go.MapKept Go.ChangeMaps
set_option linter.unusedVariables false

set_option maxHeartbeats 6400000 in
set_option maxRecDepth 20000 in
theorem join_apart {w0 w : World} {T : Nat → Nat} {n C bu bf : Nat} {vp vd : Value} {V : Nat → Value} {l : List Int} {U : Nat → List Int} {F : Sh → Option Int} {D : List (Int × Int)} {a : Option Addr} {cap : Nat} {p : List EN} {i j g s : Nat}
    (hE : ESl w0 a n p) (hb : Below w0.heap.size w0 w) (hC : Clo w w0.heap.size T n C bu bf (.slice a n cap) vp vd V l U F D) (hN : nodesB p = true) (hI : InE p) (hP : PartsN p.length l) (hU : Users p l U p.length) (hi : i < n) (hj : j < n) (hne : l.getD i 0 ≠ l.getD j 0)
    (hg : max (l.getD i 0) (l.getD j 0) = (g : Int)) (hs : min (l.getD i 0) (l.getD j 0) = (s : Int)) (hD : D.length + (U g).length ≤ 100000) (hUs : (U s).length ≤ 100000) :
    Calls Tryz.prog 105 #[.pointer (some ⟨C, 0, none⟩), .int .i64 i, .int .i64 j] w fun e w' => e = .returned (.tuple #[]) ∧ CloE w0 w' n C bu bf (.slice a n cap) vp (joinPL l i j) (moveU U (s : Int) (g : Int)) ((U g).foldl (placeL p (joinPL l i j)) (dropF p l F (U g), D)) := by
  have hpl : p.length = n := hE.1
  have hn120 : n ≤ 120 := by have := ((nodesB_iff p).1 hN).1; omega
  have hll : l.length = n := by have := hC.rp.1; simpa [vals] using this
  obtain ⟨g', s', hg', hs', hgs, hgn, hsn, hgr, hsr, hget⟩ := join_facts hP (by omega : i < p.length) (by omega : j < p.length) hne
  obtain rfl : g' = g := by omega
  obtain rfl : s' = s := by omega
  clear hg' hs'
  rw [hpl] at hgn hsn
  obtain ⟨bn, off, rfl, hbl, hc⟩ := hE.at (by omega)
  obtain ⟨bp, cp, rfl, hbp, _⟩ : ∃ bp cp, vp = .slice (some ⟨bp, 0, none⟩) n cp ∧ bp < w.heap.size ∧ n ≤ cp := by
    rcases hC.rp.2 with ⟨_, h0⟩ | ⟨g, cap, cur, e, _, hg, hcap, _⟩
    · omega
    · exact ⟨g, cap, e, (Array.getElem?_eq_some_iff.1 hg).1, hcap⟩
  have hm' : Hid (l.getD i 0 ≠ l.getD j 0) := hne
  have c1 := hC.c1
  have ci : w.cell? ⟨bp, i, none⟩ = some (.int .i64 (l.getD i 0)) := (hC.rp.cellAt i (by omega)).trans (vals_at (by omega))
  have cj : w.cell? ⟨bp, j, none⟩ = some (.int .i64 (l.getD j 0)) := (hC.rp.cellAt j (by omega)).trans (vals_at (by omega))
  have d1 : w.drew.cell? ⟨C, 1, none⟩ = some (.slice (some ⟨bp, 0, none⟩) n cp) := c1
  have di : w.drew.cell? ⟨bp, i, none⟩ = some (.int .i64 (l.getD i 0)) := ci
  have dj : w.drew.cell? ⟨bp, j, none⟩ = some (.int .i64 (l.getD j 0)) := cj
  have hil : (i : Int) < n := by omega
  have hjl : (j : Int) < n := by omega
  have hsg : ((s' : Int) == (g' : Int)) = false := by simp; omega
  -- the plain facts, hidden
  have HPl : Hid (partB l = true ∧ nodesB p = true ∧ InE p ∧ p.length = n ∧ PartsN p.length l ∧ (∀ v ∈ U g', ∃ k : Nat, v = k ∧ k < n) ∧ setP l (placesL l (g' : Int)) (s' : Int) = joinPL l i j ∧ PartsN p.length (joinPL l i j) ∧ partB (joinPL l i j) = true) := by
    have hJ := joinPL_parts hP (by omega : i < p.length) (by omega : j < p.length)
    exact ⟨parts_par hP (by omega), hN, hI, hpl, hP, fun v hv => by
      obtain ⟨k, e, hk⟩ := hU.mem g' v hv
      exact ⟨k, e, by omega⟩, setP_join hP (by omega) (by omega) hg hs, hJ, parts_par hJ (by omega)⟩
  have HEn : Hid (ESl w0 (some ⟨bn, off, none⟩) n p) := hE
  have HQ : Hid (∀ W, Below w.heap.size w W → Below w0.heap.size w0 W ∧ Clo W w0.heap.size T n C bu bf (.slice (some ⟨bn, off, none⟩) n cap) (.slice (some ⟨bp, 0, none⟩) n cp) vd V l U F D) := fun W hW => ⟨hb.trans (hW.mono hb.size), hC.keep hW⟩
  obtain ⟨zi, hzi⟩ : ∃ z, l.getD i 0 = z := ⟨_, rfl⟩
  obtain ⟨zj, hzj⟩ : ∃ z, l.getD j 0 = z := ⟨_, rfl⟩
  rw [hzi, hzj] at hg hs
  rw [hzi] at ci di
  rw [hzj] at cj dj
  clear hE hC hb hN hI hP hU hne hget hgr hsr hzi hzj hc
  go_enter Tryz.func105, Tryz.ntmps105
  go_upto_region 0 with fail
  go_cut [6, 7] from 15 to 44 (fun x y wx => x = .int .i64 s' ∧ y = .int .i64 g' ∧ Below w.heap.size w wx)
  case first =>
    go_region
    all_goals
      go_wp2_with fail
      go_meet
      exact ⟨by first | rfl | rw [hs], by first | rfl | rw [hg], (Below.refl _ _).drew⟩
  case rest =>
  obtain ⟨rfl, rfl, hB⟩ := hcut
  obtain ⟨W1, hW1⟩ : ∃ W1, W1 = wc := ⟨_, rfl⟩
  subst hW1
  obtain ⟨hb1, hC1⟩ := HQ.out W1 hB
  clear c1 ci cj d1 di dj hg hs hB HQ hm'
  obtain ⟨au, cu, hVg, hcu⟩ := row_slice (hC1.ru g' hgn)
  have hUg := hC1.ru g' hgn
  obtain ⟨au', cu', hVg', hSu⟩ := Sl.vals hUg
  rw [hVg] at hVg'
  obtain ⟨rfl, rfl⟩ : au = au' ∧ cu = cu' := by cases hVg'; exact ⟨rfl, rfl⟩
  clear hVg'
  have u2 := hC1.c2
  have ug := (hC1.cu g' hgn).1
  rw [hVg] at ug
  have hgl : (g' : Int) < n := by omega
  obtain ⟨m, hm⟩ : ∃ m, (U g').length = m := ⟨_, rfl⟩
  rw [hm] at ug hSu hVg
  have hmm : m ≤ 100000 := by omega
  have HV : Hid (V g' = .slice au m cu) := hVg
  have hSu1 : Hid ((U g').length = m) := hm
  clear hm
  have HB1 := (show Hid _ from hb1)
  have HC1 := (show Hid _ from hC1)
  have HSu : Hid (Sl W1 au m (U g')) := hSu
  clear hUg hVg hSu hb1 hC1
  go_wp2_with fail
  go_loopw [57] (fun x wr => ∃ k : Nat, k ≤ m ∧ x = .int .i64 k ∧ Hid (Below w0.heap.size w0 wr ∧ Clo wr w0.heap.size T n C bu bf (.slice (some ⟨bn, off, none⟩) n cap) (.slice (some ⟨bp, 0, none⟩) n cp) vd V l U (dropF p l F ((U g').take k)) D)) (fun x wr => m - (intOf x).toNat)
  case atStart => exact ⟨0, Nat.zero_le _, rfl, HB1.out, HC1.out⟩
  case round =>
    obtain ⟨k, hk, rfl, hR⟩ := hrel
    obtain ⟨wq, hwq⟩ : ∃ x, x = wr := ⟨_, rfl⟩
    subst hwq
    by_cases hkm : k < m
    · have hkm' : (k : Int) < m := by omega
      obtain ⟨hbq, hCq⟩ := hR.out
      have hmU : (U g').length = m := hSu1.out
      obtain ⟨u, hu, hun⟩ := HPl.out.2.2.2.2.2.1 ((U g').getD k 0) (by rw [getI_lt (by omega)]; exact List.getElem_mem _)
      obtain ⟨bu', ou', rfl, hbu, hcu'⟩ : ∃ b off, au = some ⟨b, off, none⟩ ∧ b < wq.heap.size ∧ ∀ i, i < m → wq.cell? ⟨b, off + i, none⟩ = some (.int .i64 ((U g').getD i 0)) := by
        have hr := hCq.ru g' hgn
        rw [HV.out, hmU] at hr
        obtain ⟨a2, c2, e2, hs2⟩ := Sl.vals hr
        cases e2
        rcases hs2.2 with h0 | h0
        · omega
        · exact h0
      have cu0 := hcu' k hkm
      rw [hu] at cu0
      obtain ⟨bn', off', e', hbl', hc'⟩ := HEn.out.at (show 0 < n by omega)
      cases e'
      obtain ⟨ak, lk, ck, d1, d2, d3, hlk, hck, hSk⟩ := hc' u hun
      obtain ⟨x, hx⟩ : ∃ x, p.getD u e0 = x := ⟨_, rfl⟩
      have hfk := ((nodesB_iff p).1 HPl.out.2.1).2 u (by have := HPl.out.2.2.2.1; omega)
      have hkids := fun t ht => kid_natI (k := u) (j := t) HPl.out.2.1 (by have := HPl.out.2.2.2.1; omega) ht
      have hfew := fit_few hfk
      have hsi := sh_in HPl.out.1 hfk (HPl.out.2.2.1 u (by have := HPl.out.2.2.2.1; omega))
      rw [hx] at d1 d2 hSk hfew hkids hsi
      obtain ⟨xo, xn, xk⟩ := x
      simp only at d1 d2 hSk hfew hkids
      have hSl := hSk.1
      have hSp : Sl wq (some ⟨bp, 0, none⟩) n l := by
        obtain ⟨a2, c2, e2, hs2⟩ := Sl.vals hCq.rp
        cases e2
        exact hs2
      have HSh := fun (W : World) (hW : Below wq.heap.size wq W) => shape_any xo xn ak (some ⟨bp, 0, none⟩) lk ck n cp xk l W (hSk.keep (hbq.trans (hW.mono hbq.size))) (hSp.keep hW) (by omega) (fun j hj => by
        obtain ⟨y, h1, h2⟩ := hkids j (by omega)
        exact ⟨y, h1, by omega⟩)
      have HX : ∀ W : World, (wq.heap.size ≤ W.heap.size ∧ ∀ b, b < wq.heap.size → b ≠ bf → W.heap[b]? = wq.heap[b]?) → (W.cell? ⟨C, 0, none⟩ = some (.slice (some ⟨bn, off, none⟩) n cap) ∧ W.cell? ⟨C, 1, none⟩ = some (.slice (some ⟨bp, 0, none⟩) n cp) ∧ W.cell? ⟨C, 3, none⟩ = some (.map (some bf)) ∧ W.cell? ⟨bn, off + u * 3, none⟩ = some (.int .i64 xo) ∧ W.cell? ⟨bn, off + u * 3 + 1, none⟩ = some (.int .i64 xn) ∧ W.cell? ⟨bn, off + u * 3 + 2, none⟩ = some (.slice ak lk ck)) := fun W hw => by
        have nC : C ≠ bf := fun e => by have h1 := hCq.hC.2.2; have h2 := hCq.hf.2.2; rw [e] at h1; omega
        have nb : bn ≠ bf := fun e => by have h1 := hCq.hf.1; omega
        have q0 := hw.2 C hCq.hC.2.1 nC
        have q1 := hw.2 bn (by have := hbq.size; omega) nb
        have z1 := (hbq.cell (p := ⟨bn, off + u * 3, none⟩) hbl).trans d1
        have z2 := (hbq.cell (p := ⟨bn, off + u * 3 + 1, none⟩) hbl).trans d2
        have z3 := (hbq.cell (p := ⟨bn, off + u * 3 + 2, none⟩) hbl).trans d3
        exact ⟨(World.cell?_of_block (a := ⟨C, 0, none⟩) q0).trans hCq.c0, (World.cell?_of_block (a := ⟨C, 1, none⟩) q0).trans hCq.c1, (World.cell?_of_block (a := ⟨C, 3, none⟩) q0).trans hCq.c3, (World.cell?_of_block (a := ⟨bn, off + u * 3, none⟩) q1).trans z1, (World.cell?_of_block (a := ⟨bn, off + u * 3 + 1, none⟩) q1).trans z2, (World.cell?_of_block (a := ⟨bn, off + u * 3 + 2, none⟩) q1).trans z3⟩
      have hdrop : setS (dropF p l F ((U g').take k)) (shO l (xo, xn, xk)) none = dropF p l F ((U g').take (k + 1)) := by
        rw [take_snocI (by omega), drop_snoc, hu, Int.toNat_natCast, hx]
      have HDel : ∀ W : World, Below wq.heap.size wq W → ∃ o, (∀ ty, (Builtin.delete_ #[110, 115] ty #[.map (some bf), shV (shO l (xo, xn, xk))]).run Tryz.prog W = .ok (.tuple #[]) (setBlock W bf o)) ∧ Hid (Below w0.heap.size w0 (setBlock W bf o) ∧ Clo (setBlock W bf o) w0.heap.size T n C bu bf (.slice (some ⟨bn, off, none⟩) n cap) (.slice (some ⟨bp, 0, none⟩) n cp) vd V l U (dropF p l F ((U g').take (k + 1))) D) ∧ (setBlock W bf o).cell? ⟨C, 0, none⟩ = some (.slice (some ⟨bn, off, none⟩) n cap) ∧ (setBlock W bf o).cell? ⟨C, 1, none⟩ = some (.slice (some ⟨bp, 0, none⟩) n cp) ∧ (setBlock W bf o).cell? ⟨C, 3, none⟩ = some (.map (some bf)) ∧ (setBlock W bf o).cell? ⟨bn, off + u * 3, none⟩ = some (.int .i64 xo) ∧ (setBlock W bf o).cell? ⟨bn, off + u * 3 + 1, none⟩ = some (.int .i64 xn) ∧ (setBlock W bf o).cell? ⟨bn, off + u * 3 + 2, none⟩ = some (.slice ak lk ck) := fun W hW => by
        have hCW := hCq.keep hW
        obtain ⟨o, ho, hw⟩ := hCW.rf.delete hsi 0
        have h2 := hCW.setMap hw
        rw [hdrop] at h2
        exact ⟨o, fun ty => ho, ⟨below_setB (hbq.trans (hW.mono hbq.size)) hCW.hf.1, h2⟩, HX (setBlock W bf o) ⟨by rw [setB_size]; exact hW.size, fun b hb hn => (setB_ne b hn).trans (hW.block b hb)⟩⟩
      have hXb : ∀ W, Below wq.heap.size wq W → (wq.heap.size ≤ W.heap.size ∧ ∀ b, b < wq.heap.size → b ≠ bf → W.heap[b]? = wq.heap[b]?) := fun W hW => ⟨hW.size, fun b hb _ => hW.block b hb⟩
      have hBd : Below wq.heap.size wq wq.drew := (Below.refl _ _).drew
      have zD := HX wq.drew (hXb _ hBd)
      have hul : (u : Int) < n := by omega
      unfold shV at HSh HDel
      clear hCq hR hbq hcu' hc' hSk hSp hfk hkids hsi hx d1 d2 d3 hfew hu hdrop
      generalize shO l (xo, xn, xk) = e at HSh HDel
      obtain ⟨so, sn, sa, sb, sc⟩ := e
      simp only at HSh HDel
      go_wp2_with fail
      go_region_held3 (fun w' => w'.cell? ⟨C, 0, none⟩ = some (.slice (some ⟨bn, off, none⟩) n cap) ∧ w'.cell? ⟨C, 1, none⟩ = some (.slice (some ⟨bp, 0, none⟩) n cp) ∧ w'.cell? ⟨C, 3, none⟩ = some (.map (some bf)) ∧ w'.cell? ⟨bn, off + u * 3, none⟩ = some (.int .i64 xo) ∧ w'.cell? ⟨bn, off + u * 3 + 1, none⟩ = some (.int .i64 xn) ∧ w'.cell? ⟨bn, off + u * 3 + 2, none⟩ = some (.slice ak lk ck))
        (first | with_reducible assumption | assumption)
        (first
        | (go_at_call 84; with_reducible refine Calls.mono (HSh wq.drew hBd) ?_; rintro e v3 ⟨rfl, hb3⟩; have hB3 : Below wq.heap.size wq v3 := hBd.trans (hb3.mono hBd.size); have z3 := HX v3 (hXb _ hB3); obtain ⟨o3, hd3, hz3, z4⟩ := HDel v3 hB3; clear hb3))
      go_wp2_with fail
      go_roundw
      case rel => exact ⟨k + 1, by omega, by go_num, hz3.out⟩
      case measure => simp [intOf]; omega
    · obtain rfl : k = m := by omega
      have hmU : (U g').length = k := hSu1.out
      obtain ⟨hbq, hCq0⟩ := hR.out
      rw [List.take_of_length_le (by omega)] at hCq0
      obtain ⟨F1, hF1⟩ : ∃ F1, dropF p l F (U g') = F1 := ⟨_, rfl⟩
      rw [hF1] at hCq0
      have hSp : Sl wq (some ⟨bp, 0, none⟩) n l := by
        obtain ⟨a2, c2, e2, hs2⟩ := Sl.vals hCq0.rp
        cases e2
        exact hs2
      have HPl2 := (show Hid _ from places_any (some ⟨bp, 0, none⟩) n cp l (g' : Int) wq hSp (by omega))
      have c1 := hCq0.c1
      have hbps : bp < wq.heap.size := by have := (hCq0.rp.lt bp rfl).2; exact this
      have HCq := (show Hid _ from hCq0)
      have Hbq := (show Hid _ from hbq)
      clear hR hCq0 hbq hSp
      go_wp2_with fail
      refine Calls.mono HPl2.out ?_
      rintro e w2 ⟨vx, rfl, hrx, hb2⟩
      obtain ⟨ax, cx, hvx, hcx⟩ := row_slice hrx
      subst hvx
      obtain ⟨mx, hmx⟩ : ∃ mx, (placesL l (g' : Int)).length = mx := ⟨_, rfl⟩
      have hmxl : mx ≤ n := by have := places_len l (g' : Int); omega
      rw [hmx] at hrx
      have HC2 : Hid (Below w0.heap.size w0 w2 ∧ Clo w2 w0.heap.size T n C bu bf (.slice (some ⟨bn, off, none⟩) n cap) (.slice (some ⟨bp, 0, none⟩) n cp) vd V l U F1 D) := ⟨Hbq.out.trans (hb2.mono Hbq.out.size), HCq.out.keep hb2⟩
      have HRx : Hid (w2.ownsRow wq.heap.size 3 1 (.slice ax mx cx) mx (vals (placesL l (g' : Int)))) := hrx
      have hmx1 : Hid ((placesL l (g' : Int)).length = mx) := hmx
      clear HPl2 c1 hb2 hrx hmx hcx HCq Hbq
      try rw [hmx1.out]
      go_wp2_with fail
      go_loopw [85] (fun x wr => ∃ q : Nat, q ≤ mx ∧ x = .int .i64 q ∧ Hid (Below w0.heap.size w0 wr ∧ Clo wr w0.heap.size T n C bu bf (.slice (some ⟨bn, off, none⟩) n cap) (.slice (some ⟨bp, 0, none⟩) n cp) vd V (setP l ((placesL l (g' : Int)).take q) (s' : Int)) U F1 D ∧ wr.ownsRow wq.heap.size 3 1 (.slice ax mx cx) mx (vals (placesL l (g' : Int))))) (fun x wr => mx - (intOf x).toNat)
      case atStart => exact ⟨0, Nat.zero_le _, rfl, HC2.out.1, HC2.out.2, HRx.out⟩
      case round =>
        obtain ⟨q, hq, rfl, hR⟩ := hrel
        obtain ⟨wt, hwt⟩ : ∃ x, x = wr := ⟨_, rfl⟩
        subst hwt
        by_cases hqm : q < mx
        · have hqm' : (q : Int) < mx := by omega
          obtain ⟨hbt, hCt, hrt⟩ := hR.out
          have hxl : (placesL l (g' : Int)).length = mx := hmx1.out
          obtain ⟨c, hcn, hc⟩ : ∃ c : Nat, c < n ∧ (placesL l (g' : Int)).getD q 0 = (c : Int) := by
            have hmem : (placesL l (g' : Int)).getD q 0 ∈ placesL l (g' : Int) := by rw [getI_lt (by omega)]; exact List.getElem_mem _
            obtain ⟨c, hc1, hc2⟩ := List.mem_map.1 hmem
            refine ⟨c, ?_, hc2.symm⟩
            have := List.mem_filter.1 hc1
            have := List.mem_range.1 this.1
            omega
          obtain ⟨gx, hgx1, hgx2⟩ := own_openC hrt (by omega)
          subst hgx1
          have cx0 : wt.cell? ⟨gx, q, none⟩ = some (.int .i64 c) := by
            rw [← hc]
            exact (hrt.cellAt q (by omega)).trans (vals_at (by omega))
          have c1 := hCt.c1
          have hlt : (setP l ((placesL l (g' : Int)).take q) (s' : Int)).length = n := by rw [setP_len]; exact hll
          have cc : wt.cell? ⟨bp, c, none⟩ = some (.int .i64 ((setP l ((placesL l (g' : Int)).take q) (s' : Int)).getD c 0)) := (hCt.rp.cellAt c (by omega)).trans (vals_at (by omega))
          have cf := hCt.rp.frozenAt c
          have hcl : (c : Int) < n := by omega
          have HN : Hid (Below w0.heap.size w0 (wt.setCell ⟨bp, c, none⟩ (.int .i64 (s' : Int))) ∧ Clo (wt.setCell ⟨bp, c, none⟩ (.int .i64 (s' : Int))) w0.heap.size T n C bu bf (.slice (some ⟨bn, off, none⟩) n cap) (.slice (some ⟨bp, 0, none⟩) n cp) vd V (setP l ((placesL l (g' : Int)).take (q + 1)) (s' : Int)) U F1 D ∧ (wt.setCell ⟨bp, c, none⟩ (.int .i64 (s' : Int))).ownsRow wq.heap.size 3 1 (.slice (some ⟨gx, 0, none⟩) mx cx) mx (vals (placesL l (g' : Int)))) := by
            refine ⟨hbt.setCell (p := ⟨bp, c, none⟩) (hCt.rp.lt bp rfl).1 _, ?_, ownsRow_setCell_below hrt hbps _⟩
            have := hCt.setPart rfl hcn (s' : Int)
            rw [take_snocI (by omega), setP_snoc, hc, Int.toNat_natCast]
            exact this
          clear hR hbt hCt hrt hc hxl
          go_wp2_with fail
          go_roundw
          case rel => exact ⟨q + 1, by omega, by go_num, HN.out⟩
          case measure => simp [intOf]; omega
        · obtain rfl : q = mx := by omega
          obtain ⟨hbt, hCt, -⟩ := hR.out
          rw [List.take_of_length_le (by rw [hmx1.out]; exact Nat.le_refl _), HPl.out.2.2.2.2.2.2.1] at hCt
          obtain ⟨l', hl'⟩ : ∃ l', joinPL l i j = l' := ⟨_, rfl⟩
          have HJ : Hid (partB l' = true ∧ joinPL l i j = l') := ⟨by rw [← hl']; exact HPl.out.2.2.2.2.2.2.2.2, hl'⟩
          rw [hl'] at hCt
          have HC3 : Hid (Below w0.heap.size w0 wt ∧ Clo wt w0.heap.size T n C bu bf (.slice (some ⟨bn, off, none⟩) n cap) (.slice (some ⟨bp, 0, none⟩) n cp) vd V l' U F1 D) := ⟨hbt, hCt⟩
          clear hR hbt hCt HC2 HRx
          go_wp2_with fail
          go_loopw [99] (fun x wr => ∃ q : Nat, q ≤ k ∧ x = .int .i64 q ∧ Hid (Below w0.heap.size w0 wr ∧ ∃ T1 vd1, Clo wr w0.heap.size T1 n C bu bf (.slice (some ⟨bn, off, none⟩) n cap) (.slice (some ⟨bp, 0, none⟩) n cp) vd1 V l' U (((U g').take q).foldl (placeL p l') (F1, D)).1 (((U g').take q).foldl (placeL p l') (F1, D)).2)) (fun x wr => k - (intOf x).toNat)
          case atStart => exact ⟨0, Nat.zero_le _, rfl, HC3.out.1, T, vd, HC3.out.2⟩
          case round =>
            obtain ⟨q, hq, rfl, hR⟩ := hrel
            obtain ⟨wu, hwu⟩ : ∃ x, x = wr := ⟨_, rfl⟩
            subst hwu
            by_cases hqk : q < k
            · have hqk' : (q : Int) < k := by omega
              obtain ⟨hbu, T1, vd1, hCu⟩ := hR.out
              obtain ⟨u, hu, hun⟩ := HPl.out.2.2.2.2.2.1 ((U g').getD q 0) (by rw [getI_lt (by omega)]; exact List.getElem_mem _)
              obtain ⟨bu', ou', rfl, hbu', hcu'⟩ : ∃ b off, au = some ⟨b, off, none⟩ ∧ b < wu.heap.size ∧ ∀ i, i < k → wu.cell? ⟨b, off + i, none⟩ = some (.int .i64 ((U g').getD i 0)) := by
                have hr := hCu.ru g' hgn
                rw [HV.out, hmU] at hr
                obtain ⟨a2, c2, e2, hs2⟩ := Sl.vals hr
                cases e2
                rcases hs2.2 with h0 | h0
                · omega
                · exact h0
              have cu0 := hcu' q hqk
              rw [hu] at cu0
              have hlen := places_len6 p l' ((U g').take q) (F1, D)
              have HPc := (show Hid _ from place_any (k := u) HEn.out hbu hCu HPl.out.2.1 HPl.out.2.2.1 HJ.out.1 hun (by rw [List.length_take] at hlen; simp only at hlen; omega))
              have hstep : Hid (placeL p l' (((U g').take q).foldl (placeL p l') (F1, D)) u = ((U g').take (q + 1)).foldl (placeL p l') (F1, D)) := by
                show placeL p l' (((U g').take q).foldl (placeL p l') (F1, D)) u = ((U g').take (q + 1)).foldl (placeL p l') (F1, D)
                rw [take_snocI (by omega), List.foldl_append, hu]
                rfl
              clear hR hbu hCu hu hcu' hlen
              go_wp2_with fail
              refine Calls.mono HPc.out ?_
              rintro e w7 ⟨rfl, hb7, T7, vd7, hC7⟩
              have HN : Hid (Below w0.heap.size w0 w7 ∧ ∃ T1 vd1, Clo w7 w0.heap.size T1 n C bu bf (.slice (some ⟨bn, off, none⟩) n cap) (.slice (some ⟨bp, 0, none⟩) n cp) vd1 V l' U (((U g').take (q + 1)).foldl (placeL p l') (F1, D)).1 (((U g').take (q + 1)).foldl (placeL p l') (F1, D)).2) := by
                refine ⟨hb7, T7, vd7, ?_⟩
                rw [← hstep.out]
                exact hC7
              clear HPc hb7 hC7 hstep
              go_wp2_with fail
              go_roundw
              case rel => exact ⟨q + 1, by omega, by go_num, HN.out⟩
              case measure => simp [intOf]; omega
            · obtain rfl : q = k := by omega
              obtain ⟨hbu, T1, vd1, hCu⟩ := hR.out
              rw [List.take_of_length_le (by omega)] at hCu
              have hrs := hCu.ru s' hsn
              have hrg := hCu.ru g' hgn
              have bus := (hCu.cu s' hsn).1
              obtain ⟨as', cs', hVs, hcs⟩ := row_slice hrs
              rw [HV.out, hmU] at hrg
              have hrsd : wu.drew.ownsRow w0.heap.size 3 1 (V s') (U s').length (vals (U s')) := hrs.drew
              have hrun : ∃ v6 w6, (Builtin.append_ #[23, 23] 23 #[V s', .slice au q cu]).run Tryz.prog wu.drew = .ok v6 w6 ∧ w6.ownsRow w0.heap.size 3 1 v6 ((U s').length + (U g').length) (vals (U s') ++ vals (U g')) ∧ wu.drew.grownBy w6 (V s').ownBlock ∧ (v6.ownBlock = (V s').ownBlock ∨ v6.ownBlock = some wu.drew.heap.size) := by
                obtain ⟨i0, hi0, hz0, hz1, hz2⟩ := info_parts infoInt
                rcases hrg.2 with ⟨he, h0⟩ | ⟨gg, cg, cur, he, _⟩
                · have hnil : U g' = [] := List.length_eq_zero_iff.1 (by omega)
                  refine ⟨V s', wu.drew, ?_, ?_, World.grownBy.refl _ _, .inl rfl⟩
                  · rw [he]
                    exact run_append_owned_none _ w0.heap.size _ _ _ i0 1 Tryz.underlying23 hi0 _ _ _ hrsd
                  · rw [hnil]
                    simpa [vals] using hrsd
                · obtain ⟨v6, w6, r1, r2, r3, _, r4⟩ := run_append_own_at (w := wu.drew) w0.heap.size 23 23 3 i0 (.int .i64 0) 1 8 Tryz.underlying23 hi0 hz0 hz1 hz2 rfl (by decide) (V s') (U s').length (vals (U s')) hrsd ⟨gg, 0, none⟩ q cu (vals (U g')) (by simp [vals, hmU]) (by
                    intro jj u hu
                    rw [add_at, Nat.zero_add]
                    have hjl : jj < q := by
                      have := (List.getElem?_eq_some_iff.1 hu).1
                      simp [vals] at this; omega
                    have hrg' := hrg
                    rw [he] at hrg'
                    exact (hrg'.cellAt jj (by omega)).trans hu) (by
                    intro u hu
                    obtain ⟨z, _, rfl⟩ := List.mem_map.1 hu
                    rfl) (by unfold maxLen; omega) (by omega) hbu.size
                  rw [hmU]
                  exact ⟨v6, w6, by rw [he]; cases he; exact r1, r2, r3, r4⟩
              obtain ⟨v6, w6, r1, r2, r3, r4⟩ := hrun
              obtain ⟨a6, c6, rfl, _⟩ := row_slice r2
              have hCd := hCu.keep (w' := wu.drew) (Below.refl _ _).drew
              obtain ⟨q1, q2, q3, q4⟩ := hCd.userRow hsn r2 r3 r4
              have hUeq : (fun y => if y = s' then U s' ++ U g' else U y) = moveU U (s' : Int) (g' : Int) := by
                funext y
                unfold moveU
                by_cases e : y = s'
                · subst e; rw [if_pos rfl, if_pos rfl, Int.toNat_natCast]
                · rw [if_neg e, if_neg (by omega)]
              rw [hUeq] at q4
              have HFin : Hid (CloE w0 (w6.setCell ⟨bu, s', none⟩ (.slice a6 ((U s').length + (U g').length) c6)) n C bu bf (.slice (some ⟨bn, off, none⟩) n cap) (.slice (some ⟨bp, 0, none⟩) n cp) (joinPL l i j) (moveU U (s' : Int) (g' : Int)) ((U g').foldl (placeL p (joinPL l i j)) (dropF p l F (U g'), D))) := by
                refine ⟨?_, tagAt T1 (.slice a6 ((U s').length + (U g').length) c6) (5 + s'), fun y => if y = s' then .slice a6 ((U s').length + (U g').length) c6 else V y, vd1, ?_⟩
                · have h0 := (hbu.drew).grown r3 hbu.size (fun x hx => ((hCu.ru s' hsn).lt x hx).1)
                  exact h0.setCell (p := ⟨bu, s', none⟩) hCu.hu.1 _
                · rw [HJ.out.2, hF1]
                  exact q4
              have c2 := hCu.c2
              have d2 : wu.drew.cell? ⟨C, 2, none⟩ = some (.slice (some ⟨bu, 0, none⟩) n n) := c2
              rw [hVs] at bus r1 q1
              have dus : wu.drew.cell? ⟨bu, s', none⟩ = some (.slice as' (U s').length cs') := bus
              have hsl : (s' : Int) < n := by omega
              clear hR hbu hCu hrs hrg hrsd r2 r3 r4 hCd q4 hUeq hVs
              go_wp2_with fail
              go_region_law (refine step_append6 rfl _ _ 23 rfl (.slice as' (U s').length cs') (.slice au q cu) rfl rfl r1 ?_)
              all_goals
                go_wp2_with fail
                first | go_end0 | (refine bodyPost_ret (results_none rfl _ _ _) rfl ?_)
                have h9 := HFin.out
                rw [hmU] at h9
                exact ⟨rfl, h9⟩
end Go.Proofs.YtobgkfpjokfbaaaGreatDoor
