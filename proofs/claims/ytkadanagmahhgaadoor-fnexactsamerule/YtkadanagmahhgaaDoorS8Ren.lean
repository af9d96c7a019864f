/-
  PROVED HERE: what the program's naming of a term's variables answers and leaves. No other condition than that the term is not empty, and its variables lie within 0..3.
-/
import Derived.Test.YtkadanagmahhgaaDoorS8Name
namespace Go.Proofs.YtkadanagmahhgaaDoor
open Go.ChangeShapes Go.WideShapes Go.ChangeAt Go.RowKit
set_option linter.unusedVariables false

/-- A list of nodes that may be written, in a block of its own. -/
def Wr8 (w : World) (g len : Nat) (l : List (Int × Int)) : Prop := l.length = len ∧ g < w.heap.size ∧ ∀ i, i < len → (w.cell? ⟨g, i * 2, none⟩ = some (.int .i64 (l.getD i (0, 0)).1) ∧ w.cell? ⟨g, i * 2 + 1, none⟩ = some (.int .i64 (l.getD i (0, 0)).2)) ∧ w.frozen? ⟨g, i * 2 + 1, none⟩ = false
theorem Wr8.nsl {w : World} {g len : Nat} {l : List (Int × Int)} (h : Wr8 w g len l) : NSl w (some ⟨g, 0, none⟩) len l :=
  ⟨h.1, .inr ⟨g, 0, rfl, h.2.1, fun i hi => ⟨by rw [Nat.zero_add]; exact (h.2.2 i hi).1.1, by rw [Nat.zero_add]; exact (h.2.2 i hi).1.2⟩⟩⟩
theorem Wr8.of_block {w w' : World} {g len : Nat} {l : List (Int × Int)} (h : Wr8 w g len l) (hs : w.heap.size ≤ w'.heap.size) (hb : w'.heap[g]? = w.heap[g]?) : Wr8 w' g len l :=
  ⟨h.1, Nat.lt_of_lt_of_le h.2.1 hs, fun i hi => ⟨⟨(World.cell?_of_block (a := ⟨g, i * 2, none⟩) hb).trans (h.2.2 i hi).1.1, (World.cell?_of_block (a := ⟨g, i * 2 + 1, none⟩) hb).trans (h.2.2 i hi).1.2⟩, (World.frozen?_of_block (a := ⟨g, i * 2 + 1, none⟩) hb).trans (h.2.2 i hi).2⟩⟩
theorem Wr8.of {w : World} {base n : Nat} {v : Value} {l : List (Int × Int)} (h : w.ownsRow base 44 2 v n (flat l)) (h1 : 1 ≤ n) : ∃ g c, v = .slice (some ⟨g, 0, none⟩) n c ∧ base ≤ g ∧ Wr8 w g n l := by
  have hl : l.length = n := by have := h.1; rw [flat_len] at this; omega
  rcases h.2 with ⟨rfl, h0⟩ | ⟨g, cap, cur, rfl, hg, hh, r⟩
  · omega
  · refine ⟨g, cap, rfl, hg, hl, owns_lt h, fun i hi => ⟨⟨?_, ?_⟩, h.frozenAt _⟩⟩
    · rw [h.cellAt (i * 2) (by omega)]; exact (flat_get l i (by omega)).1
    · rw [h.cellAt (i * 2 + 1) (by omega)]; exact (flat_get l i (by omega)).2
theorem Wr8.set {w : World} {g len k : Nat} {l l' : List (Int × Int)} {x : Int} (h : Wr8 w g len l) (hk : k < len) (hl : l'.length = len) (h1 : l'.getD k (0, 0) = ((l.getD k (0, 0)).1, x)) (h2 : ∀ j, j ≠ k → l'.getD j (0, 0) = l.getD j (0, 0)) : Wr8 (w.setCell ⟨g, k * 2 + 1, none⟩ (.int .i64 x)) g len l' := by
  refine ⟨hl, by simpa [World.setCell] using h.2.1, fun i hi => ⟨⟨?_, ?_⟩, by simpa [go_sem] using (h.2.2 i hi).2⟩⟩
  · rw [World.cell?_setCell_other _ _ _ _ (fun e => by injection e with _ e _; omega)]
    by_cases e : i = k
    · subst e; rw [h1]; exact (h.2.2 i hi).1.1
    · rw [h2 i e]; exact (h.2.2 i hi).1.1
  · by_cases e : i = k
    · subst e; rw [h1]; exact World.cell?_setCell_same _ _ _ (h.2.2 i hi).1.2
    · rw [World.cell?_setCell_other _ _ _ _ (fun e' => by injection e' with _ e' _; omega), h2 i e]; exact (h.2.2 i hi).1.2
set_option maxHeartbeats 3200000 in
set_option maxRecDepth 20000 in
theorem renamed_any (q : Nat) (ms : List Int) (b off len cap : Nat) (l : List (Int × Int)) (w : World) (hN : Nmg w q ms) (h : NSl w (some ⟨b, off, none⟩) len l) (hv : VR l) (h1 : 1 ≤ len) (hn : len ≤ 40) (hl : ms.length ≤ 100) :
    Calls Tryd.prog 23 #[.pointer (some ⟨q, 0, none⟩), .slice (some ⟨b, off, none⟩) len cap] w fun e w' => ∃ (g c : Nat), e = .returned (.slice (some ⟨g, 0, none⟩) len c) ∧ Wr8 w' g len (renL ms l) ∧ w.heap.size ≤ g ∧ Nmg w' q (metL ms l) ∧ w.grownBy w' (some q) := by
  have hll := h.1
  have HC := (show Hid _ from clone_any b off len cap l w h (by omega))
  have HN : Hid (Nmg w q ms) := hN
  have HNa : Hid (∀ W ms v, Nmg W q ms → ms.length ≤ 1000 → 0 ≤ v ∧ v < 4 → Calls Tryd.prog 31 #[.pointer (some ⟨q, 0, none⟩), .int .i64 v] W fun e w' => e = .returned (.int .i64 ((ix v ms : Nat) : Int)) ∧ Nmg w' q (addM ms v) ∧ W.grownBy w' (some q)) := fun W ms v h1 h2 h3 => nameOf_any q ms v W h1 h2 h3
  have hqs : q < w.heap.size := hN.1
  clear h hN
  go_enter Tryd.func23, Tryd.ntmps23
  go_wp2_with fail
  refine Calls.mono HC.out ?_
  rintro e w2 ⟨v, rfl, ho, hb2⟩
  obtain ⟨g, c, rfl, hg, hW2⟩ := Wr8.of ho h1
  have HS : Hid (Wr8 w2 g len (halfN ms l 0) ∧ Nmg w2 q (metL ms (l.take 0)) ∧ w.grownBy w2 (some q)) := ⟨hW2, HN.out.keep hb2, grown8_below _ hb2⟩
  clear HC ho hb2 hW2 HN
  go_wp2_with fail
  go_loopw [11] (fun x wr => ∃ (k : Nat), k ≤ len ∧ x = .int .i64 k ∧ Hid (Wr8 wr g len (halfN ms l k) ∧ Nmg wr q (metL ms (l.take k)) ∧ w.grownBy wr (some q))) (fun x _ => len - (intOf x).toNat)
  case atStart => exact ⟨0, Nat.zero_le _, rfl, HS⟩
  case round =>
    obtain ⟨k, hk, rfl, hR⟩ := hrel
    clear HS
    by_cases hlt : k < len
    · have hkl : (k : Int) < len := by omega
      obtain ⟨⟨c1, c2⟩, f2⟩ := hR.out.1.2.2 k hlt
      have hgl := hR.out.1.2.1
      rw [halfN_at (by omega)] at c1 c2
      have hne := halfN_next (ms := ms) (l := l) (k := k) (by omega)
      have htk := takeN (l := l) (k := k) (by omega)
      have hmem : l.getD k (0, 0) ∈ l := by rw [List.getD_eq_getElem?_getD, List.getElem?_eq_getElem (by omega)]; exact List.getElem_mem _
      have hvk := hv _ hmem
      have hml := metL_len (l.take k) ms
      rw [List.length_take] at hml
      obtain ⟨x, hx⟩ : ∃ x, l.getD k (0, 0) = x := ⟨_, rfl⟩
      rw [hx] at c1 c2 hne htk hvk
      obtain ⟨x1, x2⟩ := x
      simp only at c1 c2
      by_cases e : x1 = 2
      · subst e
        have hv4 := hvk rfl
        have HC5 := (show Hid _ from HNa.out wr (metL ms (l.take k)) x2 hR.out.2.1 (by omega) hv4)
        have HP : Hid (∀ w5, Nmg w5 q (addM (metL ms (l.take k)) x2) → wr.grownBy w5 (some q) → (w5.cell? ⟨g, k * 2 + 1, none⟩ = some (.int .i64 x2) ∧ w5.frozen? ⟨g, k * 2 + 1, none⟩ = false) ∧ (Wr8 (w5.setCell ⟨g, k * 2 + 1, none⟩ (.int .i64 ((ix x2 (metL ms (l.take k)) : Nat) : Int))) g len (halfN ms l (k + 1)) ∧ Nmg (w5.setCell ⟨g, k * 2 + 1, none⟩ (.int .i64 ((ix x2 (metL ms (l.take k)) : Nat) : Int))) q (metL ms (l.take (k + 1))) ∧ w.grownBy (w5.setCell ⟨g, k * 2 + 1, none⟩ (.int .i64 ((ix x2 (metL ms (l.take k)) : Nat) : Int))) (some q))) := fun w5 h5 g5 => by
          have hgb : w5.heap[g]? = wr.heap[g]? := g5.block g hgl (by intro e; have := Option.some.inj e; omega)
          have hW5 := hR.out.1.of_block g5.size hgb
          refine ⟨⟨(World.cell?_of_block (a := ⟨g, k * 2 + 1, none⟩) hgb).trans c2, (World.frozen?_of_block (a := ⟨g, k * 2 + 1, none⟩) hgb).trans f2⟩, hW5.set hlt (by rw [halfN_len]; exact hll) ?_ hne.2, ?_, ?_⟩
          · rw [hne.1, halfN_at (by omega), hx]; rfl
          · rw [htk, metL_snoc]
            exact h5.of_block (by simp [World.setCell]) (Below.heap_setCell _ _ _ _ (by show q ≠ g; omega))
          · have hgw := grown8_trans hR.out.2.2 g5
            exact ⟨hgw.os, hgw.tape, hgw.output, by simpa [World.setCell] using hgw.size, fun i hi hn => (Below.heap_setCell _ _ _ _ (by show i ≠ g; omega)).trans (hgw.block i hi hn)⟩
        clear hne htk hmem hvk hml hx hR hll
        go_wp2_with fail
        refine Calls.mono HC5.out ?_
        rintro e w5 ⟨rfl, h5, g5⟩
        obtain ⟨⟨d1, d2⟩, hF⟩ := HP.out w5 h5 g5
        have HFn := (show Hid _ from hF)
        clear HC5 HP h5 g5 hF
        go_wp2
        exact ⟨⟨k + 1, by omega, by go_num, HFn⟩, by simp [intOf]; omega⟩
      · have e2 : (x1 == 2) = false := by simpa using e
        have HP : Hid (Wr8 wr g len (halfN ms l (k + 1)) ∧ Nmg wr q (metL ms (l.take (k + 1))) ∧ w.grownBy wr (some q)) := by
          have hsame : halfN ms l (k + 1) = halfN ms l k := by
            refine List.ext_getElem (by rw [halfN_len, halfN_len]) fun j h1 h2 => ?_
            have : (halfN ms l (k + 1)).getD j (0, 0) = (halfN ms l k).getD j (0, 0) := by
              by_cases e' : j = k
              · subst e'
                rw [hne.1, halfN_at (by omega), hx]
                unfold renX
                rw [if_neg e]
              · exact hne.2 j e'
            simpa [List.getD_eq_getElem?_getD, h1, h2] using this
          refine ⟨by rw [hsame]; exact hR.out.1, ?_, hR.out.2.2⟩
          rw [htk, metL_snoc]
          unfold nextM
          rw [if_neg e]
          exact hR.out.2.1
        clear hne htk hmem hvk hml hx hR hll e
        go_wp2
        exact ⟨⟨k + 1, by omega, by go_num, HP⟩, by simp [intOf]; omega⟩
    · obtain rfl : k = len := by omega
      have hd : halfN ms l k = renL ms l := by
        unfold halfN
        rw [take_all hll, List.drop_eq_nil_of_le (by omega), List.append_nil]
      have HP := (show Hid _ from hR.out)
      rw [hd, take_all hll] at HP
      clear hR hd
      go_wp2
      go_ret
      exact ⟨g, c, rfl, HP.out.1, hg, HP.out.2.1, HP.out.2.2⟩
end Go.Proofs.YtkadanagmahhgaaDoor
