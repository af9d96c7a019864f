/-
  PROVED HERE: what the laws' own marking of answers that are graphs does, and that the marks are held. No other condition. what the laws' own marking of answers that are graphs leaves, and that it is held. No other condition.
-/
import Derived.Test.YtbmgflapagbkcaaDoorG6Ends
import Derived.Test.YtbmgflapagbkcaaDoorA6Own
import Derived.Test.YtbmgflapagbkcaaDoorIntsAll
namespace Go.Proofs.YtbmgflapagbkcaaDoor
open Go.ChangeShapes Go.WideShapes Go.ChangeAt Go.RowKit
set_option linter.unusedVariables false

/-- A list of nodes of one's own, in blocks of P. -/
def EMineP (w : World) (P : Nat → Prop) (g len : Nat) (p : List EN) : Prop :=
  p.length = len ∧ P g ∧ g < w.heap.size ∧ ∃ bs : Nat → Nat, (∀ i, i < len → P (bs i) ∧ bs i < w.heap.size ∧ bs i ≠ g ∧ ∀ j, j < i → bs j ≠ bs i) ∧
    ∀ i, i < len → (∃ c, (p.getD i e0).2.2.length ≤ c ∧ w.cell? ⟨g, i * 3 + 2, none⟩ = some (.slice (some ⟨bs i, 0, none⟩) (p.getD i e0).2.2.length c)) ∧ w.cell? ⟨g, i * 3, none⟩ = some (.int .i64 (p.getD i e0).1) ∧ w.cell? ⟨g, i * 3 + 1, none⟩ = some (.int .i64 (p.getD i e0).2.1) ∧ w.frozen? ⟨g, i * 3, none⟩ = false ∧ w.frozen? ⟨g, i * 3 + 1, none⟩ = false ∧
      ∀ j, j < (p.getD i e0).2.2.length → w.cell? ⟨bs i, j, none⟩ = some (.int .i64 ((p.getD i e0).2.2.getD j 0)) ∧ w.frozen? ⟨bs i, j, none⟩ = false
theorem EMineP.keep {w w' : World} {P : Nat → Prop} {g len : Nat} {p : List EN} (h : EMineP w P g len p) (hb : Below w.heap.size w w') : EMineP w' P g len p := by
  obtain ⟨h1, h2, h3, bs, h4, h5⟩ := h
  refine ⟨h1, h2, Nat.lt_of_lt_of_le h3 hb.size, bs, fun i hi => ?_, fun i hi => ?_⟩
  · obtain ⟨a, b, c, d⟩ := h4 i hi
    exact ⟨a, Nat.lt_of_lt_of_le b hb.size, c, d⟩
  · obtain ⟨⟨c, hc, c1⟩, c2, c3, c4, c5, c6⟩ := h5 i hi
    exact ⟨⟨c, hc, (hb.cell (p := ⟨g, i * 3 + 2, none⟩) h3).trans c1⟩, (hb.cell (p := ⟨g, i * 3, none⟩) h3).trans c2, (hb.cell (p := ⟨g, i * 3 + 1, none⟩) h3).trans c3, (hb.frozen (p := ⟨g, i * 3, none⟩) h3).trans c4, (hb.frozen (p := ⟨g, i * 3 + 1, none⟩) h3).trans c5, fun j hj => ⟨(hb.cell (p := ⟨bs i, j, none⟩) (h4 i hi).2.1).trans (c6 j hj).1, (hb.frozen (p := ⟨bs i, j, none⟩) (h4 i hi).2.1).trans (c6 j hj).2⟩⟩
/-- A graph of the program's own: its nodes' blocks are none of the parts'. -/
theorem GOwn.mineP {w : World} {S : Nat → Prop} {va vb : Value} {g : GS} (h : GOwn w true S va vb g) (h0 : 0 < g.1.length) : ∃ gg ca, va = .slice (some ⟨gg, 0, none⟩) g.1.length ca ∧ EMineP w (fun b => S b ∧ vb.ownBlock ≠ some b) gg g.1.length g.1 := by
  obtain ⟨xs, kv, h1, h2, h3, h4, h5⟩ := h
  rcases h1.2 with ⟨rfl, h00⟩ | ⟨gg, cap, cur, rfl, _, hgg, hc, _⟩
  · omega
  · have hlt := (Array.getElem?_eq_some_iff.1 hgg).1
    have hl := h1.1
    refine ⟨gg, cap, rfl, rfl, h3 gg rfl, hlt, fun i => ((kv i).ownBlock).getD 0, fun i hi => ?_, fun i hi => ?_⟩
    · obtain ⟨k1, k2, k3, a, c, hv, hc', hm, hs, hin, hf⟩ := h5 i hi
      obtain ⟨b, rfl, hb⟩ := hf rfl
      have hob : (kv i).ownBlock = some b := by rw [hv]; rfl
      have hx := hin b hob
      simp only [hob, Option.getD_some]
      refine ⟨⟨hx.1.1, hx.1.2.2.1⟩, hx.2, fun e => hx.1.2.1 (by rw [e]; rfl), fun j hj e => ?_⟩
      have hj' : j < g.1.length := by omega
      obtain ⟨_, _, _, a', c'', hv', _, _, _, _, hf'⟩ := h5 j hj'
      obtain ⟨b', rfl, _⟩ := hf' rfl
      have hob' : (kv j).ownBlock = some b' := by rw [hv']; rfl
      have : (kv j).ownBlock ≠ some b := hx.1.2.2.2 j hj
      rw [hob'] at this e
      simp only [Option.getD_some] at e
      exact this (by rw [e])
    · obtain ⟨k1, k2, k3, a, c, hv, hc', hm, hs, hin, hf⟩ := h5 i hi
      obtain ⟨b, rfl, hb⟩ := hf rfl
      have hob : (kv i).ownBlock = some b := by rw [hv]; rfl
      simp only [hob, Option.getD_some]
      refine ⟨⟨c, hc', by rw [h1.cellAt (i * 3 + 2) (by omega), k3, hv]⟩, by rw [h1.cellAt (i * 3) (by omega)]; exact k1, by rw [h1.cellAt (i * 3 + 1) (by omega)]; exact k2, h1.frozenAt (i * 3), h1.frozenAt (i * 3 + 1), fun j hj => ⟨?_, hb j hj⟩⟩
      rcases hs.2 with h00 | ⟨b', off, e, _, hcell⟩
      · omega
      · cases e
        have := hcell j hj
        rwa [Nat.zero_add] at this
/-- What has been marked so far. -/
def MarkP (w wr : World) (P : Nat → Prop) (g len : Nat) (bs : Nat → Nat) (p : List EN) (k j : Nat) : Prop :=
  KB P w wr ∧ (∀ i, i < len → ∃ c, (p.getD i e0).2.2.length ≤ c ∧ wr.cell? ⟨g, i * 3 + 2, none⟩ = some (.slice (some ⟨bs i, 0, none⟩) (p.getD i e0).2.2.length c)) ∧
  (∀ i, i < j → wr.cell? ⟨g, i * 3, none⟩ = some (.int .i64 ((stE k p i : Nat) : Int)) ∧ wr.cell? ⟨g, i * 3 + 1, none⟩ = some (.int .i64 ((stE k p i + 1 : Nat) : Int)) ∧ Sl wr (some ⟨bs i, 0, none⟩) (p.getD i e0).2.2.length (marksI (stE k p i + 2) (p.getD i e0).2.2.length)) ∧
  (∀ i, j ≤ i → i < len → (∃ v, wr.cell? ⟨g, i * 3, none⟩ = some v) ∧ wr.frozen? ⟨g, i * 3, none⟩ = false ∧ (∃ v, wr.cell? ⟨g, i * 3 + 1, none⟩ = some v) ∧ wr.frozen? ⟨g, i * 3 + 1, none⟩ = false ∧ MineI wr (bs i) (p.getD i e0).2.2.length)
/-- The two numbers of a node, marked. -/
theorem markP_head {w wr : World} {P : Nat → Prop} {g len j k : Nat} {bs : Nat → Nat} {p : List EN} (h : MarkP w wr P g len bs p k j) (hj : j < len) (hbs : ∀ i, i < len → P (bs i) ∧ bs i < w.heap.size ∧ bs i ≠ g ∧ ∀ t, t < i → bs t ≠ bs i) (hg : P g) {x y : Int} {W2 : World}
    (hW : (wr.setCell ⟨g, j * 3, none⟩ (.int .i64 x)).setCell ⟨g, j * 3 + 1, none⟩ (.int .i64 y) = W2) :
    KB P w W2 ∧ W2.heap.size = wr.heap.size ∧ W2.cell? ⟨g, j * 3, none⟩ = some (.int .i64 x) ∧ W2.cell? ⟨g, j * 3 + 1, none⟩ = some (.int .i64 y) ∧ (∀ o, o ≠ j * 3 → o ≠ j * 3 + 1 → W2.cell? ⟨g, o, none⟩ = wr.cell? ⟨g, o, none⟩) ∧ (∀ o, W2.frozen? ⟨g, o, none⟩ = wr.frozen? ⟨g, o, none⟩) ∧ ∀ b, b ≠ g → W2.heap[b]? = wr.heap[b]? := by
  obtain ⟨⟨v, hv⟩, hf, ⟨u, hu⟩, hfu, hmine⟩ := h.2.2.2 j (Nat.le_refl _) hj
  obtain ⟨t1, t2, t3⟩ := one_set wr g (j * 3) (.int .i64 x) ⟨v, hv⟩
  obtain ⟨s1, s2, s3⟩ := one_set (wr.setCell ⟨g, j * 3, none⟩ (.int .i64 x)) g (j * 3 + 1) (.int .i64 y) ⟨u, (t2 _ (by omega)).trans hu⟩
  rw [hW] at s1 s2 s3
  have hoth : ∀ b, b ≠ g → W2.heap[b]? = wr.heap[b]? := fun b hb => by
    rw [← hW, Below.heap_setCell _ _ _ _ hb, Below.heap_setCell _ _ _ _ hb]
  have hsz : W2.heap.size = wr.heap.size := by rw [← hW]; simp [World.setCell]
  refine ⟨h.1.trans (T := P) ⟨by rw [← hW]; rfl, by rw [← hW]; rfl, by rw [← hW]; rfl, by omega, fun b _ hk => hoth b (fun e => hk (by rw [e]; exact hg))⟩ (fun _ _ h => h), hsz, (s2 _ (by omega)).trans t1, s1, fun o h1 h2 => (s2 o h2).trans (t2 o h1), fun o => ?_, hoth⟩
  rw [← hW]; simp [go_sem]
theorem markP_step {w wr W2 w3 : World} {P : Nat → Prop} {g len j k : Nat} {bs : Nat → Nat} {p : List EN} (h : MarkP w wr P g len bs p k j) (hj : j < len) (hbs : ∀ i, i < len → P (bs i) ∧ bs i < w.heap.size ∧ bs i ≠ g ∧ ∀ t, t < i → bs t ≠ bs i) (hg : P g) (hgs : g < wr.heap.size) (hss : ∀ i, i < len → bs i < wr.heap.size) {x y : Int}
    (hW : (wr.setCell ⟨g, j * 3, none⟩ (.int .i64 x)).setCell ⟨g, j * 3 + 1, none⟩ (.int .i64 y) = W2) (hx : x = ((stE k p j : Nat) : Int)) (hy : y = ((stE k p j + 1 : Nat) : Int))
    (g3 : W2.grownBy w3 (some (bs j))) (s3 : Sl w3 (some ⟨bs j, 0, none⟩) (p.getD j e0).2.2.length (marksI (stE k p j + 2) (p.getD j e0).2.2.length)) :
    MarkP w w3 P g len bs p k (j + 1) := by
  obtain ⟨m1, m2, m3, m4, m5, m6, m7⟩ := markP_head h hj hbs hg hW
  obtain ⟨h1, h2, h3, h4⟩ := h
  have hgj : bs j ≠ g := (hbs j hj).2.2.1
  have hblk : w3.heap[g]? = W2.heap[g]? := g3.block g (by omega) (fun e => hgj (Option.some.inj e).symm)
  have hc : ∀ o, w3.cell? ⟨g, o, none⟩ = W2.cell? ⟨g, o, none⟩ := fun o => World.cell?_of_block (a := ⟨g, o, none⟩) hblk
  have hfz : ∀ o, w3.frozen? ⟨g, o, none⟩ = wr.frozen? ⟨g, o, none⟩ := fun o => (World.frozen?_of_block (a := ⟨g, o, none⟩) hblk).trans (m6 o)
  have hob : ∀ i, i < len → i ≠ j → w3.heap[bs i]? = wr.heap[bs i]? := fun i hi hne => by
    have hbi : bs i ≠ bs j := by
      rcases Nat.lt_or_gt_of_ne hne with hlt | hlt
      · exact (hbs j hj).2.2.2 i hlt
      · exact fun e => (hbs i hi).2.2.2 j hlt e.symm
    rw [g3.block (bs i) (by have := hss i hi; omega) (fun e => hbi (Option.some.inj e)), m7 _ (hbs i hi).2.2.1]
  have hs3 : wr.heap.size ≤ w3.heap.size := by have := g3.size; omega
  refine ⟨m1.grown g3 (fun y hy _ => by cases hy; exact (hbs j hj).1), fun i hi => ?_, fun i hi => ?_, fun i hi hl => ?_⟩
  · obtain ⟨c, hc', c1⟩ := h2 i hi
    exact ⟨c, hc', by rw [hc, m5 _ (by omega) (by omega)]; exact c1⟩
  · by_cases e : i = j
    · subst e
      exact ⟨by rw [hc, m3, hx], by rw [hc, m4, hy], s3⟩
    · obtain ⟨c1, c2, c3⟩ := h3 i (by omega)
      exact ⟨by rw [hc, m5 _ (by omega) (by omega)]; exact c1, by rw [hc, m5 _ (by omega) (by omega)]; exact c2, slE_block c3 hs3 (hob i (by omega) e)⟩
  · obtain ⟨⟨v', hv'⟩, hf', ⟨u', hu'⟩, hfu', hm'⟩ := h4 i (by omega) hl
    exact ⟨⟨v', by rw [hc, m5 _ (by omega) (by omega)]; exact hv'⟩, by rw [hfz]; exact hf', ⟨u', by rw [hc, m5 _ (by omega) (by omega)]; exact hu'⟩, by rw [hfz]; exact hfu', mineE_block hm' hs3 (hob i hl (by omega))⟩
set_option maxHeartbeats 1600000 in
theorem markP_any (P : Nat → Prop) (g len cap k : Nat) (p : List EN) (w : World) (h : EMineP w P g len p) (hk : 1 ≤ k) (hn : stE k p len ≤ 4194304) (hp : ∀ i, i < len → (p.getD i e0).2.2.length ≤ 1048576) (hlb : len ≤ 1048576) :
    Calls Tryd.prog 26 #[.slice (some ⟨g, 0, none⟩) len cap, .int .i64 k] w fun e w' => e = .returned (.int .i64 (stE k p len : Nat)) ∧ KB P w w' ∧ ∀ W, w'.heap.size ≤ W.heap.size → (∀ b, P b → W.heap[b]? = w'.heap[b]?) → ESl W (some ⟨g, 0, none⟩) len (marksE k p) := by
  obtain ⟨h1, h2, h3, bs, h4, h5⟩ := h
  have HM0 : Hid (MarkP w w P g len bs p k 0) := ⟨KB.refl _ _, fun i hi => (h5 i hi).1, fun i hi => absurd hi (by omega), fun i _ hi => ⟨⟨_, (h5 i hi).2.1⟩, (h5 i hi).2.2.2.1, ⟨_, (h5 i hi).2.2.1⟩, (h5 i hi).2.2.2.2.1, by have := (h4 i hi).2.1; omega, fun j hj => ⟨⟨_, ((h5 i hi).2.2.2.2.2 j hj).1⟩, ((h5 i hi).2.2.2.2.2 j hj).2⟩⟩⟩
  have HB := (show Hid _ from h4)
  have HP := (show Hid _ from hp)
  have hmono := fun i hi => stE_mono k p i hi
  rw [h1] at hmono
  have HMo := (show Hid _ from hmono)
  clear h5 h4 hmono hp
  go_enter Tryd.func26, Tryd.ntmps26
  go_wp2
  go_loopw [1, 5] (fun x i wr => ∃ (j : Nat), j ≤ len ∧ i = .int .i64 j ∧ x = .int .i64 (stE k p j : Nat) ∧ w.heap.size ≤ wr.heap.size ∧ Hid (MarkP w wr P g len bs p k j)) (fun _ i _ => len - (intOf i).toNat)
  case atStart => exact ⟨0, Nat.zero_le _, rfl, by simp [stE], Nat.le_refl _, HM0⟩
  case round =>
    obtain ⟨j, hj, rfl, rfl, hsw, HR⟩ := hrel
    clear HM0
    by_cases hlt : j < len
    · obtain ⟨c, hc, c1⟩ := HR.out.2.1 j hlt
      obtain ⟨⟨v, hv⟩, hf, ⟨u, hu⟩, hfu, hmine⟩ := HR.out.2.2.2 j (Nat.le_refl _) hlt
      have hst := stE_step k p j (by omega)
      have hle := HMo.out (j + 1) (by omega)
      have hpj := HP.out j hlt
      obtain ⟨s, hs⟩ : ∃ s, stE k p j = s := ⟨_, rfl⟩
      obtain ⟨L, hL⟩ : ∃ L, (p.getD j e0).2.2.length = L := ⟨_, rfl⟩
      rw [hs, hL] at hst
      rw [hL] at c1 hmine hc hpj
      rw [hs]
      obtain ⟨W2, hW2⟩ : ∃ W2, (wr.setCell ⟨g, j * 3, none⟩ (.int .i64 (s : Int))).setCell ⟨g, j * 3 + 1, none⟩ (.int .i64 ((s : Int) + 1)) = W2 := ⟨_, rfl⟩
      obtain ⟨m1, m2, m3, m4, m5, m6, m7⟩ := markP_head HR.out hlt HB.out h2 hW2
      have hgs : g < wr.heap.size := by omega
      have hss : ∀ i, i < len → bs i < wr.heap.size := fun i hi => by have := (HB.out i hi).2.1; omega
      have d1 : W2.cell? ⟨g, j * 3 + 2, none⟩ = some (.slice (some ⟨bs j, 0, none⟩) L c) := (m5 _ (by omega) (by omega)).trans c1
      have hm2 : MineI W2 (bs j) L := mineE_block hmine (by omega) (m7 _ (HB.out j hlt).2.2.1)
      have HC := (show Hid _ from markI_any (bs j) L c (s + 2) W2 hm2 hpj (by omega))
      have HP2 : Hid (∀ w3, W2.grownBy w3 (some (bs j)) → Sl w3 (some ⟨bs j, 0, none⟩) L (marksI (s + 2) L) → MarkP w w3 P g len bs p k (j + 1)) := fun w3 g3 s3 => markP_step HR.out hlt HB.out h2 hgs hss hW2 (by rw [hs]) (by rw [hs]; omega) g3 (by rw [hs, hL]; exact s3)
      have hjl : (j : Int) < len := by omega
      have hu1 : (wr.setCell ⟨g, j * 3, none⟩ (.int .i64 (s : Int))).cell? ⟨g, j * 3 + 1, none⟩ = some u := by
        obtain ⟨t1, t2, t3⟩ := one_set wr g (j * 3) (.int .i64 (s : Int)) ⟨v, hv⟩
        exact (t2 _ (by omega)).trans hu
      have hfu1 : (wr.setCell ⟨g, j * 3, none⟩ (.int .i64 (s : Int))).frozen? ⟨g, j * 3 + 1, none⟩ = false := by simpa [go_sem] using hfu
      have HST : Hid (stE k p (j + 1) = s + 2 + L) := hst
      have hb1 : (s : Int) + 2 + L ≤ 4194304 := by omega
      have e2 : ((s + 2 : Nat) : Int) = (s : Int) + 1 + 1 := by omega
      have e3 : ((s + 2 + L : Nat) : Int) = (s : Int) + 1 + 1 + L := by omega
      rw [e2, e3] at HC
      have hsz2 : W2.heap.size = wr.heap.size := m2
      clear hst hle hL hs HR hmine m1 m3 m4 m5 m6 m7 hm2 hss e2 e3
      go_wp2_with fail
      (try rw [hW2])
      refine Calls.mono HC.out ?_
      rintro e w3 ⟨rfl, g3, s3⟩
      have HR2 := (show Hid _ from HP2.out w3 g3 s3)
      have hsz3 := g3.size
      clear HC HP2 g3 s3 hW2
      go_wp2
      go_roundw
      case rel => exact ⟨j + 1, by omega, by go_num, by rw [HST.out]; congr 1, by omega, HR2⟩
      case measure => simp [intOf]; omega
    · obtain rfl : j = len := by omega
      go_wp2
      go_ret
      refine ⟨rfl, HR.out.1, fun W hWs hWb => ⟨by rw [marksE_len]; exact h1, .inr ⟨g, 0, rfl, by omega, fun i hi => ?_⟩⟩⟩
      obtain ⟨c, hc, c1⟩ := HR.out.2.1 i hi
      obtain ⟨d1, d2, d3⟩ := HR.out.2.2.1 i hi
      have eg := hWb g h2
      have eb := hWb (bs i) (HB.out i hi).1
      rw [marksE_get k p i (by omega), Nat.zero_add]
      exact ⟨_, _, c, (World.cell?_of_block (a := ⟨g, i * 3, none⟩) eg).trans d1, (World.cell?_of_block (a := ⟨g, i * 3 + 1, none⟩) eg).trans d2, (World.cell?_of_block (a := ⟨g, i * 3 + 2, none⟩) eg).trans c1, by have := HP.out i hi; omega, hc, slE_block d3 hWs eb⟩
end Go.Proofs.YtbmgflapagbkcaaDoor
namespace Go.Proofs.YtbmgflapagbkcaaDoor
open Go.ChangeShapes Go.WideShapes Go.ChangeAt Go.RowKit
set_option linter.unusedVariables false

set_option maxHeartbeats 1600000 in
set_option maxRecDepth 20000 in
theorem heldE_any (a : Option Addr) (len cap k : Nat) (p : List EN) (w : World) (h : ESl w a len (marksE k p)) (hk : 1 ≤ k) (hpl : p.length = len) (hn : stE k p len ≤ 1048577) :
    Calls Tryd.prog 41 #[.slice a len cap, .int .i64 k] w fun e w' => e = .returned (.int .i64 (stE k p len : Nat)) ∧ w' = w := by
  have hmono := fun i hi => stE_mono k p i hi
  rw [hpl] at hmono
  have HMo := (show Hid _ from hmono)
  have hlb : len ≤ 1048577 := by unfold stE at hn; omega
  clear hmono
  go_enter Tryd.func41, Tryd.ntmps41
  go_wp2
  go_loopw [1, 5] (fun x i wr => ∃ (j : Nat), j ≤ len ∧ i = .int .i64 j ∧ x = .int .i64 (stE k p j : Nat) ∧ wr = w) (fun _ i _ => len - (intOf i).toNat)
  case atStart => exact ⟨0, Nat.zero_le _, rfl, by simp [stE], rfl⟩
  case round =>
    obtain ⟨j, hj, rfl, rfl, rfl⟩ := hrel
    by_cases hlt : j < len
    · obtain ⟨b, off, rfl, hbl, hc⟩ := h.at (by omega)
      obtain ⟨ai, li, ci, c1, c2, c3, hli, hci, hS⟩ := hc j hlt
      rw [marksE_get k p j (by omega)] at hS c1 c2
      simp only at hS c1 c2
      have hst := stE_step k p j (by omega)
      have hle := HMo.out (j + 1) (by omega)
      obtain ⟨s, hs⟩ : ∃ s, stE k p j = s := ⟨_, rfl⟩
      have hs1 : 1 ≤ s := by rw [← hs]; unfold stE; omega
      obtain ⟨L, hL⟩ : ∃ L, (p.getD j e0).2.2.length = L := ⟨_, rfl⟩
      rw [hs, hL] at hst hS
      rw [hs] at c1 c2
      rw [hs]
      obtain rfl : li = L := by have := hS.1; rw [marksI_len] at this; omega
      have HC := (show Hid _ from heldI_any ai li ci (s + 2) wr hS (by omega) (by omega))
      have HST : Hid (stE k p (j + 1) = s + 2 + li) := hst
      have hjl : (j : Int) < len := by omega
      have hb1 : (s : Int) + 2 + li ≤ 1048577 := by omega
      have e2 : ((s + 2 : Nat) : Int) = (s : Int) + 1 + 1 := by omega
      have e3 : ((s + 2 + li : Nat) : Int) = (s : Int) + 1 + 1 + li := by omega
      have e4 : ((s + 1 : Nat) : Int) = (s : Int) + 1 := by omega
      rw [e2, e3] at HC
      rw [e4] at c2
      clear hc hS hst hle hs hL e2 e3 e4
      go_wp2_with fail
      refine Calls.mono HC.out ?_
      rintro e w1 ⟨rfl, rfl⟩
      clear HC
      go_wp2
      go_roundw
      case rel => exact ⟨j + 1, by omega, by go_num, by rw [HST.out]; congr 1, by first | trivial | rfl⟩
      case measure => simp [intOf]; omega
    · obtain rfl : j = len := by omega
      go_wp2
      go_ret
      exact ⟨rfl, rfl⟩
theorem markE_nil (a : Option Addr) (cap k : Nat) (w : World) : Calls Tryd.prog 26 #[.slice a 0 cap, .int .i64 k] w fun e w' => e = .returned (.int .i64 (k : Int)) ∧ w' = w := by
  go_enter Tryd.func26, Tryd.ntmps26
  go_wp2
  refine wp_loop_rounds 1 ?_
  rw [rounds_succ]
  go_wp2
  go_ret
  exact ⟨rfl, rfl⟩
theorem markI_nil (a : Option Addr) (cap k : Nat) (w : World) : Calls Tryd.prog 27 #[.slice a 0 cap, .int .i64 k] w fun e w' => e = .returned (.int .i64 (k : Int)) ∧ w' = w := by
  go_enter Tryd.func27, Tryd.ntmps27
  go_wp2
  refine wp_loop_rounds 1 ?_
  rw [rounds_succ]
  go_wp2
  go_ret
  exact ⟨rfl, rfl⟩
/-- An answer that is a graph, or none. -/
def AnsI (w : World) (S : Nat → Prop) (va vb : Value) (g : GS) : Prop := (va = .slice none 0 0 ∧ vb = .slice none 0 0 ∧ g = ([], [])) ∨ (GOwn w true S va vb g ∧ 0 < g.1.length ∧ g.1.length ≤ 120 ∧ g.2.length = g.1.length ∧ ∀ i, i < g.1.length → (g.1.getD i e0).2.2.length ≤ 3)
def ansK (g : GS) : Nat := stE 1 g.1 g.1.length + g.2.length
/-- Marks that are held. -/
def HeldG (w : World) (va vb : Value) (g : GS) : Prop := g.1.length ≤ 120 ∧ g.2.length = g.1.length ∧ stE 1 g.1 g.1.length ≤ 1000 ∧ ∃ a ca b cb, va = .slice a g.1.length ca ∧ vb = .slice b g.2.length cb ∧ ESl w a g.1.length (marksE 1 g.1) ∧ Sl w b g.2.length (marksI (stE 1 g.1 g.1.length) g.2.length)
theorem stE_few {p : List EN} (h : p.length ≤ 120) (h3 : ∀ i, i < p.length → (p.getD i e0).2.2.length ≤ 3) : stE 1 p p.length ≤ 1000 := by
  have : ∀ i, i ≤ p.length → stE 1 p i ≤ 1 + 5 * i := by
    intro i
    induction i with
    | zero => intro _; simp [stE]
    | succ i ih =>
      intro hi
      rw [stE_step 1 p i (by omega)]
      have := ih (by omega)
      have := h3 i (by omega)
      omega
  have := this _ (Nat.le_refl _)
  omega
theorem AnsI.reads {w : World} {S : Nat → Prop} {va vb : Value} {g : GS} (h : AnsI w S va vb g) : ∃ a ca b cb, va = .slice a g.1.length ca ∧ vb = .slice b g.2.length cb ∧ ESl w a g.1.length g.1 ∧ Sl w b g.2.length g.2 ∧ g.1.length ≤ 120 ∧ g.2.length = g.1.length ∧ ∀ i, i < g.1.length → (g.1.getD i e0).2.2.length ≤ 3 := by
  rcases h with ⟨rfl, rfl, rfl⟩ | ⟨h, _, h1, h2, h3⟩
  · exact ⟨none, 0, none, 0, rfl, rfl, ⟨rfl, .inl rfl⟩, ⟨rfl, .inl rfl⟩, by simp, rfl, fun i hi => absurd hi (Nat.not_lt_zero _)⟩
  · obtain ⟨a, ca, b, cb, e1, e2, e3, e4⟩ := h.reads
    exact ⟨a, ca, b, cb, e1, e2, e3, e4, h1, h2, h3⟩
theorem AnsI.map {w w' : World} {S S' : Nat → Prop} {va vb : Value} {g : GS} (h : AnsI w S va vb g) (hs : w.heap.size ≤ w'.heap.size) (hk : ∀ b, S b → b < w.heap.size → w'.heap[b]? = w.heap[b]?) (hS : ∀ b, b < w.heap.size → S b → S' b) : AnsI w' S' va vb g := by
  rcases h with h | ⟨h, r⟩
  · exact .inl h
  · exact .inr ⟨h.map hs hk hS, r⟩
theorem HeldG.keep {w w' : World} {va vb : Value} {g : GS} (h : HeldG w va vb g) (hb : Below w.heap.size w w') : HeldG w' va vb g := by
  obtain ⟨h1, h2, h3, a, ca, b, cb, h4, h5, h6, h7⟩ := h
  exact ⟨h1, h2, h3, a, ca, b, cb, h4, h5, h6.keep hb, h7.keep hb⟩
set_option maxHeartbeats 1600000 in
theorem heldA_any (va vb : Value) (g : GS) (w : World) (h : HeldG w va vb g) :
    Calls Tryd.prog 16 #[.agg #[va, vb], .int .i64 1] w fun e w' => e = .returned (.int .i64 ((ansK g : Nat) : Int)) ∧ Below w.heap.size w w' := by
  obtain ⟨h1, h2, h3, a, ca, b, cb, rfl, rfl, h6, h7⟩ := h
  unfold ansK
  obtain ⟨p, l⟩ := g
  simp only at h1 h2 h3 h6 h7 ⊢
  obtain ⟨W1, hW1⟩ : ∃ W1, w.alloc (.cells #[.slice a p.length ca, .slice b l.length cb] 32) = W1 := ⟨_, rfl⟩
  have hb1 : Below w.heap.size w W1 := by rw [← hW1]; exact (Below.refl _ _).alloc (Nat.le_refl _) _
  have n0 : W1.cell? ⟨w.heap.size, 0, none⟩ = some (.slice a p.length ca) := by rw [← hW1]; simp [go_sem]
  have n1 : W1.cell? ⟨w.heap.size, 1, none⟩ = some (.slice b l.length cb) := by rw [← hW1]; simp [go_sem]
  have HE := (show Hid _ from heldE_any a p.length ca 1 p W1 (h6.keep hb1) (by omega) rfl (by omega))
  have HI := (show Hid _ from heldI_any b l.length cb (stE 1 p p.length) W1 (h7.keep hb1) (by omega) (by omega))
  have HB := (show Hid _ from hb1)
  obtain ⟨s, hs⟩ : ∃ s, stE 1 p p.length = s := ⟨_, rfl⟩
  rw [hs] at HE HI h3 ⊢
  have hs0 : ¬ (s : Int) < 0 := by omega
  have hs2 : ¬ ((s + l.length : Nat) : Int) < 0 := by omega
  obtain ⟨q, hq⟩ : ∃ q : Nat, s + l.length = q := ⟨_, rfl⟩
  rw [hq] at HI hs2 ⊢
  obtain ⟨L, hL⟩ : ∃ L, l.length = L := ⟨_, rfl⟩
  obtain ⟨N, hN⟩ : ∃ N, p.length = N := ⟨_, rfl⟩
  rw [hL] at HI n1 hW1 ⊢
  rw [hN] at HE n0 hW1 ⊢
  clear h6 h7 hb1 hs h1 h2 h3 hq hL hN
  go_enter Tryd.func16, Tryd.ntmps16
  go_wp2_with fail
  (try rw [hW1])
  refine Calls.mono HE.out ?_
  rintro e w2 ⟨rfl, rfl⟩
  clear HE hW1
  go_wp2_with fail
  refine Calls.mono HI.out ?_
  rintro e w3 ⟨rfl, rfl⟩
  clear HI
  go_wp2
  go_ret
  exact ⟨rfl, HB.out⟩
set_option maxHeartbeats 1600000 in
theorem markA_any (va vb : Value) (g : GS) (S : Nat → Prop) (w : World) (h : AnsI w S va vb g) :
    Calls Tryd.prog 14 #[.agg #[va, vb], .int .i64 1] w fun e w' => e = .returned (.int .i64 ((ansK g : Nat) : Int)) ∧ KB S w w' ∧ HeldG w' va vb g := by
  rcases h with ⟨rfl, rfl, rfl⟩ | ⟨hG, h0, h120, hlp, h3⟩
  · have HE : Hid (∀ W, Calls Tryd.prog 26 #[.slice none 0 0, .int .i64 1] W fun e w' => e = .returned (.int .i64 1) ∧ w' = W) := fun W => markE_nil none 0 1 W
    have HI : Hid (∀ W, Calls Tryd.prog 27 #[.slice none 0 0, .int .i64 1] W fun e w' => e = .returned (.int .i64 1) ∧ w' = W) := fun W => markI_nil none 0 1 W
    have HB : Hid (∀ o, Below w.heap.size w (w.alloc o)) := fun o => (Below.refl _ _).alloc (Nat.le_refl _) o
    have e1 : ((ansK ([], []) : Nat) : Int) = 1 := rfl
    rw [e1]
    go_enter Tryd.func14, Tryd.ntmps14
    go_wp2_with fail
    refine Calls.mono (HE.out _) ?_
    rintro e w2 ⟨rfl, rfl⟩
    clear HE
    go_wp2_with fail
    refine Calls.mono (HI.out _) ?_
    rintro e w3 ⟨rfl, rfl⟩
    clear HI
    go_wp2
    go_ret
    exact ⟨rfl, KB.of (HB.out _), by simp, rfl, by simp [stE], none, 0, none, 0, rfl, rfl, ⟨rfl, .inl rfl⟩, ⟨rfl, .inl rfl⟩⟩
  · obtain ⟨gg, ca, rfl, hM⟩ := hG.mineP h0
    have hst := stE_few h120 h3
    have hrow := hG.row.2.1
    have hSb := hG.row.2.2.2
    obtain ⟨p, l⟩ := g
    simp only at hM hst hrow hlp h0 h120 h3 ⊢
    rcases hrow.2 with ⟨_, e0'⟩ | ⟨gp, cb, cur, rfl, _, _, _⟩
    · omega
    unfold ansK
    simp only
    have hMI := MineI.of hrow
    obtain ⟨W1, hW1⟩ : ∃ W1, w.alloc (.cells #[.slice (some ⟨gg, 0, none⟩) p.length ca, .slice (some ⟨gp, 0, none⟩) l.length cb] 32) = W1 := ⟨_, rfl⟩
    have hb1 : Below w.heap.size w W1 := by rw [← hW1]; exact (Below.refl _ _).alloc (Nat.le_refl _) _
    have hs1 : W1.heap.size = w.heap.size + 1 := by rw [← hW1]; simp
    have n0 : W1.cell? ⟨w.heap.size, 0, none⟩ = some (.slice (some ⟨gg, 0, none⟩) p.length ca) := by rw [← hW1]; simp [go_sem]
    have n1 : W1.cell? ⟨w.heap.size, 1, none⟩ = some (.slice (some ⟨gp, 0, none⟩) l.length cb) := by rw [← hW1]; simp [go_sem]
    have hgpl : gp < w.heap.size := owns_lt hrow
    have hM2 : EMineP w (fun b => (S b ∧ b ≠ gp) ∧ b < w.heap.size) gg p.length p := by
      obtain ⟨m1, m2, m3, bs, m4, m5⟩ := hM
      refine ⟨m1, ⟨⟨m2.1, fun e => m2.2 (by rw [e]; rfl)⟩, m3⟩, m3, bs, fun i hi => ?_, m5⟩
      obtain ⟨a, b, c, d⟩ := m4 i hi
      exact ⟨⟨⟨a.1, fun e => a.2 (by rw [e]; rfl)⟩, b⟩, b, c, d⟩
    have HM := (show Hid _ from markP_any (fun b => (S b ∧ b ≠ gp) ∧ b < w.heap.size) gg p.length ca 1 p W1 (hM2.keep hb1) (by omega) (by omega) (fun i hi => by have := h3 i hi; omega) (by omega))
    have HX : Hid (∀ W, KB (fun b => (S b ∧ b ≠ gp) ∧ b < w.heap.size) W1 W → W.cell? ⟨w.heap.size, 1, none⟩ = some (.slice (some ⟨gp, 0, none⟩) l.length cb) ∧ MineI W gp l.length ∧ KB S w W) := fun W hW => ⟨(hW.cell (p := ⟨w.heap.size, 1, none⟩) (by show w.heap.size < _; omega) (fun h => Nat.lt_irrefl _ h.2)).trans n1, mineE_block (hMI.keep hb1) hW.size (hW.block gp (by omega) (fun h => h.1.2 rfl)), (KB.of hb1).trans hW (fun b _ h => h.1.1)⟩
    have hSgp : S gp := hSb gp rfl
    have hne : gg ≠ gp := hM2.2.1.1.2
    have HF : Hid (∀ W2 W3 : World, KB (fun b => (S b ∧ b ≠ gp) ∧ b < w.heap.size) W1 W2 → (∀ W, W2.heap.size ≤ W.heap.size → (∀ b, ((S b ∧ b ≠ gp) ∧ b < w.heap.size) → W.heap[b]? = W2.heap[b]?) → ESl W (some ⟨gg, 0, none⟩) p.length (marksE 1 p)) → W2.grownBy W3 (some gp) → Sl W3 (some ⟨gp, 0, none⟩) l.length (marksI (stE 1 p p.length) l.length) → KB S w W3 ∧ HeldG W3 (.slice (some ⟨gg, 0, none⟩) p.length ca) (.slice (some ⟨gp, 0, none⟩) l.length cb) (p, l)) := fun W2 W3 k1 k2 k3 k4 => by
      have hs12 := k1.size
      refine ⟨((KB.of hb1).trans k1 (fun b _ h => h.1.1)).grown k3 (fun y hy _ => by cases hy; exact hSgp), h120, hlp, hst, _, _, _, _, rfl, rfl, k2 W3 k3.size (fun b hb => k3.block b (by omega) (fun e => hb.1.2 (Option.some.inj e))), k4⟩
    obtain ⟨s, hs⟩ : ∃ s, stE 1 p p.length = s := ⟨_, rfl⟩
    rw [hs] at HM HF hst ⊢
    have HI : Hid (∀ W, MineI W gp l.length → Calls Tryd.prog 27 #[.slice (some ⟨gp, 0, none⟩) l.length cb, .int .i64 s] W fun e w' => e = .returned (.int .i64 (s + l.length : Nat)) ∧ W.grownBy w' (some gp) ∧ Sl w' (some ⟨gp, 0, none⟩) l.length (marksI s l.length)) := fun W hW => markI_any gp l.length cb s W hW (by omega) (by omega)
    obtain ⟨q, hq⟩ : ∃ q : Nat, s + l.length = q := ⟨_, rfl⟩
    rw [hq] at HI ⊢
    have HWs : Hid (W1.heap.size = w.heap.size + 1) := hs1
    clear hM hM2 hMI hG hrow hSb hb1 hs h0 h120 hlp h3 hst hq hs1
    go_enter Tryd.func14, Tryd.ntmps14
    go_wp2_with fail
    (try rw [hW1])
    refine Calls.mono HM.out ?_
    rintro e w2 ⟨rfl, k2, k3⟩
    obtain ⟨q1, qM, _⟩ := HX.out w2 k2
    have HI2 := (show Hid _ from HI.out w2 qM)
    have HF2 := (show Hid _ from fun W3 => HF.out w2 W3 k2 k3)
    clear HM hW1 HX HI HF k2 k3 qM
    go_wp2_with fail
    refine Calls.mono HI2.out ?_
    rintro e w3 ⟨rfl, g3, s3⟩
    have HE := (show Hid _ from HF2.out w3 g3 s3)
    clear HI2 HF2 g3 s3
    go_wp2
    go_ret
    exact ⟨rfl, HE.out.1, HE.out.2⟩
end Go.Proofs.YtbmgflapagbkcaaDoor
