/-
  PROVED HERE: what the laws' own marking of a list of products leaves. No other condition.
-/
import Derived.Test.YtpjgjpjfchfmlaaDoorMonoMine
import Derived.Test.YtpjgjpjfchfmlaaDoorMarkI
namespace Go.Proofs.YtpjgjpjfchfmlaaDoor
open Go.ChangeShapes Go.WideShapes Go.ChangeAt Go.RowKit
set_option linter.unusedVariables false

/-- Only blocks from lo to hi may be other ones. -/
def TurnIn (lo hi : Nat) (w w' : World) : Prop := w.grownBy w' none ∨ (w'.os = w.os ∧ w'.tape = w.tape ∧ w'.output = w.output ∧ w.heap.size ≤ w'.heap.size ∧ ∀ b, b < w.heap.size → (b < lo ∨ hi ≤ b) → w'.heap[b]? = w.heap[b]?)
theorem TurnIn.refl (lo hi : Nat) (w : World) : TurnIn lo hi w w := .inr ⟨rfl, rfl, rfl, Nat.le_refl _, fun _ _ _ => rfl⟩
theorem TurnIn.all {lo hi : Nat} {w w' : World} (h : TurnIn lo hi w w') : w'.os = w.os ∧ w'.tape = w.tape ∧ w'.output = w.output ∧ w.heap.size ≤ w'.heap.size ∧ ∀ b, b < w.heap.size → (b < lo ∨ hi ≤ b) → w'.heap[b]? = w.heap[b]? := by
  rcases h with h | h
  · exact ⟨h.os, h.tape, h.output, h.size, fun b hb _ => h.block b hb (by simp)⟩
  · exact h
theorem TurnIn.trans {lo hi : Nat} {w w' w'' : World} (h : TurnIn lo hi w w') (h' : TurnIn lo hi w' w'') : TurnIn lo hi w w'' := by
  obtain ⟨a1, a2, a3, a4, a5⟩ := h.all
  obtain ⟨b1, b2, b3, b4, b5⟩ := h'.all
  exact .inr ⟨b1.trans a1, b2.trans a2, b3.trans a3, Nat.le_trans a4 b4, fun b hb hk => (b5 b (by omega) hk).trans (a5 b hb hk)⟩
theorem TurnIn.below {lo hi : Nat} {w w' : World} (h : TurnIn lo hi w w') (hl : lo ≤ w.heap.size) : Below lo w w' := by
  obtain ⟨a1, a2, a3, a4, a5⟩ := h.all
  exact ⟨a1, a2, a3, a4, fun b hb => a5 b (by omega) (.inl hb)⟩
theorem TurnIn.of_grown {lo hi r : Nat} {w w' : World} (h : w.grownBy w' (some r)) (h1 : lo ≤ r) (h2 : r < hi) : TurnIn lo hi w w' :=
  .inr ⟨h.os, h.tape, h.output, h.size, fun b hb hk => h.block b hb (by intro e; have := Option.some.inj e; omega)⟩
theorem TurnIn.wide {lo hi lo' hi' : Nat} {w w' : World} (h : TurnIn lo hi w w') (h1 : lo' ≤ lo) (h2 : hi ≤ hi') : TurnIn lo' hi' w w' := by
  obtain ⟨a1, a2, a3, a4, a5⟩ := h.all
  exact .inr ⟨a1, a2, a3, a4, fun b hb hk => a5 b hb (by omega)⟩
/-- Where the marks of a product begin. -/
def stN (k : Nat) (p : List Mon) (i : Nat) : Nat := k + ((p.take i).map fun m => m.1.length).sum + i
theorem stN_step (k : Nat) (p : List Mon) (i : Nat) (h : i < p.length) : stN k p (i + 1) = stN k p i + (p.getD i ([], 0)).1.length + 1 := by
  have e : p.getD i ([], 0) = p[i] := by rw [List.getD_eq_getElem?_getD, List.getElem?_eq_getElem h]; rfl
  unfold stN
  rw [List.take_succ_eq_append_getElem h, e, List.map_append, List.sum_append]
  simp only [List.map_cons, List.map_nil, List.sum_cons, List.sum_nil]
  omega
theorem stN_mono (k : Nat) (p : List Mon) : ∀ i, i ≤ p.length → stN k p i ≤ stN k p p.length := by
  intro i hi
  have : ∀ d, i + d ≤ p.length → stN k p i ≤ stN k p (i + d) := by
    intro d
    induction d with
    | zero => intro _; exact Nat.le_refl _
    | succ d ih => intro hd; have := ih (by omega); have := stN_step k p (i + d) (by omega); rw [← Nat.add_assoc]; omega
  have := this (p.length - i) (by omega)
  rwa [show i + (p.length - i) = p.length from by omega] at this
/-- What marking leaves. -/
def marksP (k : Nat) (p : List Mon) : List Mon := (List.range p.length).map fun i => (marksI (stN k p i) (p.getD i ([], 0)).1.length, ((stN k p i + (p.getD i ([], 0)).1.length : Nat) : Int))
theorem marksP_len (k : Nat) (p : List Mon) : (marksP k p).length = p.length := by simp [marksP]
theorem marksP_get (k : Nat) (p : List Mon) (i : Nat) (h : i < p.length) : (marksP k p).getD i ([], 0) = (marksI (stN k p i) (p.getD i ([], 0)).1.length, ((stN k p i + (p.getD i ([], 0)).1.length : Nat) : Int)) := by
  simp [marksP, List.getD_eq_getElem?_getD, h]
/-- What has been marked so far. -/
def MarkRel (w wr : World) (lo hi g len : Nat) (bs : Nat → Nat) (p : List Mon) (k j : Nat) : Prop :=
  TurnIn lo hi w wr ∧ (∀ i, i < len → ∃ c, (p.getD i ([], 0)).1.length ≤ c ∧ wr.cell? ⟨g, i * 2, none⟩ = some (.slice (some ⟨bs i, 0, none⟩) (p.getD i ([], 0)).1.length c)) ∧
  (∀ i, i < j → wr.cell? ⟨g, i * 2 + 1, none⟩ = some (.int .i64 ((stN k p i + (p.getD i ([], 0)).1.length : Nat) : Int)) ∧ Sl wr (some ⟨bs i, 0, none⟩) (p.getD i ([], 0)).1.length (marksI (stN k p i) (p.getD i ([], 0)).1.length)) ∧
  (∀ i, j ≤ i → i < len → (∃ v, wr.cell? ⟨g, i * 2 + 1, none⟩ = some v) ∧ wr.frozen? ⟨g, i * 2 + 1, none⟩ = false ∧ MineI wr (bs i) (p.getD i ([], 0)).1.length)
theorem Sl.block {w w' : World} {b off len : Nat} {l : List Int} (h : Sl w (some ⟨b, off, none⟩) len l) (hs : w.heap.size ≤ w'.heap.size) (hb : w'.heap[b]? = w.heap[b]?) : Sl w' (some ⟨b, off, none⟩) len l := by
  refine ⟨h.1, ?_⟩
  rcases h.2 with h0 | ⟨b', off', e, hlt, hc⟩
  · exact .inl h0
  · cases e
    exact .inr ⟨b, off, rfl, Nat.lt_of_lt_of_le hlt hs, fun i hi => (World.cell?_of_block (a := ⟨b, off + i, none⟩) hb).trans (hc i hi)⟩
theorem MineI.block {w w' : World} {b len : Nat} (h : MineI w b len) (hs : w.heap.size ≤ w'.heap.size) (hb : w'.heap[b]? = w.heap[b]?) : MineI w' b len := by
  refine ⟨Nat.lt_of_lt_of_le h.1 hs, fun i hi => ?_⟩
  obtain ⟨⟨v, hv⟩, hf⟩ := h.2 i hi
  exact ⟨⟨v, (World.cell?_of_block (a := ⟨b, i, none⟩) hb).trans hv⟩, (World.frozen?_of_block (a := ⟨b, i, none⟩) hb).trans hf⟩
theorem mark_stepP {w wr w2 : World} {lo hi g len j k : Nat} {bs : Nat → Nat} {p : List Mon} (h : MarkRel w wr lo hi g len bs p k j) (hj : j < len) (hbs : ∀ i, i < len → lo ≤ bs i ∧ bs i < hi ∧ bs i ≠ g ∧ ∀ t, t < i → bs t ≠ bs i) (hg : lo ≤ g ∧ g < hi) (hgs : g < wr.heap.size) (hss : ∀ i, i < len → bs i < wr.heap.size)
    (g2 : wr.grownBy w2 (some (bs j))) (s2 : Sl w2 (some ⟨bs j, 0, none⟩) (p.getD j ([], 0)).1.length (marksI (stN k p j) (p.getD j ([], 0)).1.length)) {x : Int} (hx : x = ((stN k p j + (p.getD j ([], 0)).1.length : Nat) : Int)) :
    MarkRel w (w2.setCell ⟨g, j * 2 + 1, none⟩ (.int .i64 x)) lo hi g len bs p k (j + 1) := by
  obtain ⟨h1, h2, h3, h4⟩ := h
  have hgj : bs j ≠ g := (hbs j hj).2.2.1
  have hblk : w2.heap[g]? = wr.heap[g]? := g2.block g hgs (fun e => hgj (Option.some.inj e).symm)
  obtain ⟨⟨v, hv⟩, hf, hmine⟩ := h4 j (Nat.le_refl _) hj
  have hv2 := (World.cell?_of_block (a := ⟨g, j * 2 + 1, none⟩) hblk).trans hv
  obtain ⟨t1, t2, t3⟩ := one_set w2 g (j * 2 + 1) (.int .i64 x) ⟨v, hv2⟩
  have hoth : ∀ b, b ≠ g → (w2.setCell ⟨g, j * 2 + 1, none⟩ (.int .i64 x)).heap[b]? = w2.heap[b]? := fun b hb => Below.heap_setCell _ _ _ _ hb
  have hsz : (w2.setCell ⟨g, j * 2 + 1, none⟩ (.int .i64 x)).heap.size = w2.heap.size := by simp [World.setCell]
  have T2 : TurnIn lo hi wr w2 := TurnIn.of_grown g2 (hbs j hj).1 (hbs j hj).2.1
  have T3 : TurnIn lo hi w2 (w2.setCell ⟨g, j * 2 + 1, none⟩ (.int .i64 x)) := TurnIn.of_grown (grown_setI (World.grownBy.refl _ _) _ _) hg.1 hg.2
  refine ⟨(h1.trans T2).trans T3, fun i hi => ?_, fun i hi => ?_, fun i hi hl => ?_⟩
  · obtain ⟨c, hc, c1⟩ := h2 i hi
    refine ⟨c, hc, ?_⟩
    rw [t2 (i * 2) (by omega), World.cell?_of_block (a := ⟨g, i * 2, none⟩) hblk]
    exact c1
  · by_cases e : i = j
    · subst e
      exact ⟨by rw [t1, hx], s2.block (by rw [hsz]; exact Nat.le_refl _) (hoth _ hgj)⟩
    · obtain ⟨c1, c2⟩ := h3 i (by omega)
      have hbi : bs i ≠ bs j := (hbs j hj).2.2.2 i (by omega)
      refine ⟨by rw [t2 (i * 2 + 1) (by omega), World.cell?_of_block (a := ⟨g, i * 2 + 1, none⟩) hblk]; exact c1, (c2.block (w' := w2) g2.size (g2.block _ (hss i (by omega)) (fun e => hbi (Option.some.inj e)))).block (by rw [hsz]; exact Nat.le_refl _) (hoth _ (hbs i (by omega)).2.2.1)⟩
  · obtain ⟨⟨v', hv'⟩, hf', hm'⟩ := h4 i (by omega) hl
    have hbi : bs i ≠ bs j := fun e => (hbs i hl).2.2.2 j (by omega) e.symm
    refine ⟨⟨v', by rw [t2 (i * 2 + 1) (by omega), World.cell?_of_block (a := ⟨g, i * 2 + 1, none⟩) hblk]; exact hv'⟩, by rw [t3, World.frozen?_of_block (a := ⟨g, i * 2 + 1, none⟩) hblk]; exact hf', (hm'.block (w' := w2) g2.size (g2.block _ (hss i hl) (fun e => hbi (Option.some.inj e)))).block (by rw [hsz]; exact Nat.le_refl _) (hoth _ (hbs i hl).2.2.1)⟩
set_option maxHeartbeats 1600000 in
theorem markP_any (lo hi g len cap k : Nat) (p : List Mon) (w : World) (h : PMine w lo hi g len p) (hk : 1 ≤ k) (hn : stN k p len ≤ 1048577) :
    Calls Tryd.prog 12 #[.slice (some ⟨g, 0, none⟩) len cap, .int .i64 k] w fun e w' => e = .returned (.int .i64 (stN k p len : Nat)) ∧ TurnIn lo hi w w' ∧ PSl w' (some ⟨g, 0, none⟩) len (marksP k p) := by
  obtain ⟨h1, h2, h3, hw, bs, h4, h5⟩ := h
  have HM0 : Hid (MarkRel w w lo hi g len bs p k 0) := ⟨TurnIn.refl _ _ _, fun i hi => (h5 i hi).1, fun i hi => absurd hi (by omega), fun i _ hi => ⟨⟨_, (h5 i hi).2.1⟩, (h5 i hi).2.2.1, by have := (h4 i hi).2.1; omega, fun j hj => ⟨⟨_, ((h5 i hi).2.2.2 j hj).1⟩, ((h5 i hi).2.2.2 j hj).2⟩⟩⟩
  have HB := (show Hid _ from h4)
  have hmono := fun i hi => stN_mono k p i hi
  rw [h1] at hmono
  have HMo := (show Hid _ from hmono)
  have hlb : len ≤ 1048577 := by unfold stN at hn; omega
  clear h5 h4 hmono
  go_enter Tryd.func12, Tryd.ntmps12
  go_wp2
  go_loopw [1, 5] (fun x i wr => ∃ (j : Nat), j ≤ len ∧ i = .int .i64 j ∧ x = .int .i64 (stN k p j : Nat) ∧ w.heap.size ≤ wr.heap.size ∧ Hid (MarkRel w wr lo hi g len bs p k j)) (fun _ i _ => len - (intOf i).toNat)
  case atStart => exact ⟨0, Nat.zero_le _, rfl, by simp [stN], Nat.le_refl _, HM0⟩
  case round =>
    obtain ⟨j, hj, rfl, rfl, hsw, HR⟩ := hrel
    clear HM0
    by_cases hlt : j < len
    · obtain ⟨c, hc, c1⟩ := HR.out.2.1 j hlt
      obtain ⟨⟨v, hv⟩, hf, hmine⟩ := HR.out.2.2.2 j (Nat.le_refl _) hlt
      have hst := stN_step k p j (by omega)
      have hle := HMo.out (j + 1) (by omega)
      obtain ⟨L, hL⟩ : ∃ L, (p.getD j ([], 0)).1.length = L := ⟨_, rfl⟩
      obtain ⟨s, hs⟩ : ∃ s, stN k p j = s := ⟨_, rfl⟩
      rw [hL] at c1 hmine hc
      rw [hL, hs] at hst
      rw [hs] at ⊢
      have hs1 : 1 ≤ s := by rw [← hs]; unfold stN; omega
      have HC := (show Hid _ from markI_any (bs j) L c s wr hmine (by omega) (by omega))
      have HP : Hid (∀ w2, wr.grownBy w2 (some (bs j)) → Sl w2 (some ⟨bs j, 0, none⟩) L (marksI s L) → MarkRel w (w2.setCell ⟨g, j * 2 + 1, none⟩ (.int .i64 ((s : Int) + L))) lo hi g len bs p k (j + 1) ∧ w2.cell? ⟨g, j * 2 + 1, none⟩ = some v ∧ w2.frozen? ⟨g, j * 2 + 1, none⟩ = false) := fun w2 g2 s2 => by
        have hblk : w2.heap[g]? = wr.heap[g]? := g2.block g (by omega) (fun e => (HB.out j hlt).2.2.1 (Option.some.inj e).symm)
        exact ⟨mark_stepP HR.out hlt HB.out ⟨h2, h3⟩ (by omega) (fun i hi => by have := (HB.out i hi).2.1; omega) g2 (by rw [hL, hs]; exact s2) (by rw [hL, hs]; omega), (World.cell?_of_block (a := ⟨g, j * 2 + 1, none⟩) hblk).trans hv, (World.frozen?_of_block (a := ⟨g, j * 2 + 1, none⟩) hblk).trans hf⟩
      have hjl : (j : Int) < len := by omega
      have hb1 : (s : Int) + L + 1 ≤ 1048577 := by omega
      have HST : Hid (stN k p (j + 1) = s + L + 1) := hst
      clear hst hle hL hs HR hmine hv hf
      go_wp2_with fail
      refine Calls.mono HC.out ?_
      rintro e w2 ⟨rfl, g2, s2⟩
      obtain ⟨hR2, v2, f2⟩ := HP.out w2 g2 s2
      have HR2 := (show Hid _ from hR2)
      have hsz2 := g2.size
      clear HC HP g2 s2 hR2 c1
      go_wp2
      go_roundw
      case rel => exact ⟨j + 1, by omega, by go_num, by rw [HST.out]; congr 1, by simp [World.setCell]; omega, HR2⟩
      case measure => simp [intOf]; omega
    · obtain rfl : j = len := by omega
      go_wp2
      go_ret
      refine ⟨rfl, HR.out.1, by rw [marksP_len]; exact h1, .inr ⟨g, 0, rfl, by omega, fun i hi => ?_⟩⟩
      obtain ⟨c, hc, c1⟩ := HR.out.2.1 i hi
      obtain ⟨d1, d2⟩ := HR.out.2.2.1 i hi
      rw [marksP_get k p i (by omega), Nat.zero_add]
      exact ⟨_, _, c, c1, by have := stN_step k p i (by omega); have := HMo.out (i + 1) (by omega); omega, hc, d2, d1⟩
end Go.Proofs.YtpjgjpjfchfmlaaDoor
