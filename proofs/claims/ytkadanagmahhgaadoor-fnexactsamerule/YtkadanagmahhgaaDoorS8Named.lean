/-
  PROVED HERE: what the model answers of a term by other names. No other condition than that the term is not empty, and its variables lie within 0..3.
-/
import Derived.Test.YtkadanagmahhgaaDoorS8Ren
import Derived.Test.YtkadanagmahhgaaDoorOwn
namespace Go.Proofs.YtkadanagmahhgaaDoor
open Go.ChangeShapes Go.WideShapes Go.ChangeAt Go.RowKit
set_option linter.unusedVariables false

/-- A term whose first k variables have other names. -/
def halfM (f : Int → Int) (l : List (Int × Int)) (k : Nat) : List (Int × Int) := nmL f (l.take k) ++ l.drop k
theorem halfM_len (f : Int → Int) (l : List (Int × Int)) (k : Nat) : (halfM f l k).length = l.length := by
  unfold halfM
  rw [List.length_append, nmL_len, List.length_take, List.length_drop]
  omega
theorem halfM_at {f : Int → Int} {l : List (Int × Int)} {k : Nat} (h : k < l.length) : (halfM f l k).getD k (0, 0) = l.getD k (0, 0) := by
  unfold halfM
  rw [List.getD_eq_getElem?_getD, List.getElem?_append_right (by rw [nmL_len, List.length_take]; omega), nmL_len, List.length_take, List.getElem?_drop, show k + (k - min k l.length) = k by omega, ← List.getD_eq_getElem?_getD]
theorem halfM_next {f : Int → Int} {l : List (Int × Int)} {k : Nat} (h : k < l.length) : (halfM f l (k + 1)).getD k (0, 0) = (if (l.getD k (0, 0)).1 = 2 then ((l.getD k (0, 0)).1, f (l.getD k (0, 0)).2) else l.getD k (0, 0)) ∧ ∀ j, j ≠ k → (halfM f l (k + 1)).getD j (0, 0) = (halfM f l k).getD j (0, 0) := by
  have hr : (nmL f (l.take k)).length = k := by rw [nmL_len, List.length_take]; omega
  have e : halfM f l (k + 1) = nmL f (l.take k) ++ ((if (l.getD k (0, 0)).1 = 2 then ((l.getD k (0, 0)).1, f (l.getD k (0, 0)).2) else l.getD k (0, 0)) :: l.drop (k + 1)) := by
    unfold halfM
    rw [takeN h]
    unfold nmL
    rw [List.map_append, List.append_assoc]
    rfl
  have e2 : halfM f l k = nmL f (l.take k) ++ (l.getD k (0, 0) :: l.drop (k + 1)) := by
    unfold halfM
    rw [List.drop_eq_getElem_cons h, List.getD_eq_getElem?_getD, List.getElem?_eq_getElem h]
    rfl
  rw [e, e2]
  exact getD_mid _ _ _ _ hr
set_option maxHeartbeats 3200000 in
set_option maxRecDepth 20000 in
theorem named_any (b off len cap : Nat) (l : List (Int × Int)) (nb no nc : Nat) (q : List Int) (w : World) (h : NSl w (some ⟨b, off, none⟩) len l) (hq : Sl w (some ⟨nb, no, none⟩) 4 q) (hv : VR l) (h1 : 1 ≤ len) (hn : len ≤ 40) :
    Calls Tryd.prog 19 #[.slice (some ⟨b, off, none⟩) len cap, .slice (some ⟨nb, no, none⟩) 4 nc] w fun e w' => ∃ (g c : Nat), e = .returned (.slice (some ⟨g, 0, none⟩) len c) ∧ NSl w' (some ⟨g, 0, none⟩) len (nmL (lk q) l) ∧ Below w.heap.size w w' := by
  have hll := h.1
  have HC := (show Hid _ from own_any b off len cap l w h (by omega))
  have HQ : Hid (∀ W (v : Nat), Below w.heap.size w W → v < 4 → W.cell? ⟨nb, no + v, none⟩ = some (.int .i64 (lk q (v : Int)))) := fun W v hW hv => by
    rcases hq.2 with h0 | ⟨b', off', e, hl, hc⟩
    · omega
    · cases e
      rw [(hW.cell (p := ⟨nb, no + v, none⟩) hl), hc v hv]
      simp [lk]
  clear h hq
  go_enter Tryd.func19, Tryd.ntmps19
  go_wp2_with fail
  refine Calls.mono HC.out ?_
  rintro e w2 ⟨v, rfl, ho, hb2⟩
  obtain ⟨g, c, rfl, hg, hW2⟩ := Wr8.of ho h1
  have HS : Hid (Wr8 w2 g len (halfM (lk q) l 0) ∧ Below w.heap.size w w2) := ⟨hW2, hb2⟩
  clear HC ho hb2 hW2
  go_wp2_with fail
  go_loopw [12] (fun x wr => ∃ (k : Nat), k ≤ len ∧ x = .int .i64 k ∧ Hid (Wr8 wr g len (halfM (lk q) l k) ∧ Below w.heap.size w wr)) (fun x _ => len - (intOf x).toNat)
  case atStart => exact ⟨0, Nat.zero_le _, rfl, HS⟩
  case round =>
    obtain ⟨k, hk, rfl, hR⟩ := hrel
    clear HS
    by_cases hlt : k < len
    · have hkl : (k : Int) < len := by omega
      obtain ⟨⟨c1, c2⟩, f2⟩ := hR.out.1.2.2 k hlt
      have hgl := hR.out.1.2.1
      rw [halfM_at (by omega)] at c1 c2
      have hne := halfM_next (f := lk q) (l := l) (k := k) (by omega)
      have hmem : l.getD k (0, 0) ∈ l := by rw [List.getD_eq_getElem?_getD, List.getElem?_eq_getElem (by omega)]; exact List.getElem_mem _
      have hvk := hv _ hmem
      obtain ⟨x, hx⟩ : ∃ x, l.getD k (0, 0) = x := ⟨_, rfl⟩
      rw [hx] at c1 c2 hne hvk
      obtain ⟨x1, x2⟩ := x
      simp only at c1 c2 hne hvk
      obtain ⟨W4, hW4⟩ : ∃ W4, wr.alloc (.cells #[.int .i64 x1, .int .i64 x2] 44) = W4 := ⟨_, rfl⟩
      have hb4 : Below wr.heap.size wr W4 := by rw [← hW4]; exact (Below.refl _ _).alloc (Nat.le_refl _) _
      have m0 : W4.cell? ⟨wr.heap.size, 0, none⟩ = some (.int .i64 x1) := by rw [← hW4]; simp [go_sem]
      have m1 : W4.cell? ⟨wr.heap.size, 1, none⟩ = some (.int .i64 x2) := by rw [← hW4]; simp [go_sem]
      by_cases e : x1 = 2
      · subst e
        have hv4 := hvk rfl
        obtain ⟨vn, rfl⟩ := Int.eq_ofNat_of_zero_le hv4.1
        have hvn : vn < 4 := by omega
        have hB4 : Below w.heap.size w W4 := hR.out.2.trans (hb4.mono hR.out.2.size)
        have q4 := HQ.out W4 vn hB4 hvn
        have hvi : (vn : Int) < 4 := by omega
        have d1 : W4.cell? ⟨g, k * 2 + 1, none⟩ = some (.int .i64 (vn : Int)) := (hb4.cell (p := ⟨g, k * 2 + 1, none⟩) hgl).trans c2
        have d2 : W4.frozen? ⟨g, k * 2 + 1, none⟩ = false := (hb4.frozen (p := ⟨g, k * 2 + 1, none⟩) hgl).trans f2
        have HP : Hid (Wr8 (W4.setCell ⟨g, k * 2 + 1, none⟩ (.int .i64 (lk q (vn : Int)))) g len (halfM (lk q) l (k + 1)) ∧ Below w.heap.size w (W4.setCell ⟨g, k * 2 + 1, none⟩ (.int .i64 (lk q (vn : Int))))) := by
          refine ⟨(hR.out.1.of_block hb4.size (hb4.block g hgl)).set hlt (by rw [halfM_len]; exact hll) ?_ hne.2, hB4.setCell (by show w.heap.size ≤ g; omega) _⟩
          rw [hne.1, if_pos rfl, halfM_at (by omega), hx]
        clear hne hmem hvk hx hR hll hb4 hB4
        go_wp2_with fail
        (try rw [hW4])
        go_wp2
        exact ⟨⟨k + 1, by omega, by go_num, HP⟩, by simp [intOf]; omega⟩
      · have e2 : (x1 == 2) = false := by simpa using e
        have HP : Hid (Wr8 W4 g len (halfM (lk q) l (k + 1)) ∧ Below w.heap.size w W4) := by
          have hsame : halfM (lk q) l (k + 1) = halfM (lk q) l k := by
            refine List.ext_getElem (by rw [halfM_len, halfM_len]) fun j h1 h2 => ?_
            have : (halfM (lk q) l (k + 1)).getD j (0, 0) = (halfM (lk q) l k).getD j (0, 0) := by
              by_cases e' : j = k
              · subst e'
                rw [hne.1, halfM_at (by omega), hx, if_neg e]
              · exact hne.2 j e'
            simpa [List.getD_eq_getElem?_getD, h1, h2] using this
          exact ⟨by rw [hsame]; exact hR.out.1.of_block hb4.size (hb4.block g hgl), hR.out.2.trans (hb4.mono hR.out.2.size)⟩
        clear hne hmem hvk hx hR hll e hb4
        go_wp2_with fail
        (try rw [hW4])
        go_wp2
        exact ⟨⟨k + 1, by omega, by go_num, HP⟩, by simp [intOf]; omega⟩
    · obtain rfl : k = len := by omega
      have hd : halfM (lk q) l k = nmL (lk q) l := by
        unfold halfM
        rw [take_all hll, List.drop_eq_nil_of_le (by omega), List.append_nil]
      have HP := (show Hid _ from hR.out)
      rw [hd] at HP
      clear hR hd
      go_wp2
      go_ret
      exact ⟨g, c, rfl, HP.out.1.nsl, HP.out.2⟩
end Go.Proofs.YtkadanagmahhgaaDoor
