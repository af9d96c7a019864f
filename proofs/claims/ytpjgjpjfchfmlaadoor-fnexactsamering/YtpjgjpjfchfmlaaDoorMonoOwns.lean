/-
  PROVED HERE: what the laws' own marking of a list of products leaves. No other condition. that the laws' own comparing finds lists of the same products to be the same, at every list of at most a million. No other condition. what marking, holding and comparing of answers that are lists of products tell. No other condition.
-/
import Derived.Test.YtpjgjpjfchfmlaaDoorMonoMine
import Derived.Test.YtpjgjpjfchfmlaaDoorIntsAll
import Derived.Test.YtpjgjpjfchfmlaaDoorPolyCmp
import Derived.Test.YtpjgjpjfchfmlaaDoorAhead
import Derived.Deep.RegionWith
import Derived.Test.YtpjgjpjfchfmlaaDoorOrder
import Derived.Test.YtpjgjpjfchfmlaaDoorPolyAddM
namespace Go.Proofs.YtpjgjpjfchfmlaaDoor
open Go.ChangeShapes Go.WideShapes Go.ChangeAt Go.RowKit
set_option linter.unusedVariables false

/-- Only blocks from lo to hi may be other ones. -/
def TurnIn (lo hi : Nat) (w w' : World) : Prop := w.grownBy w' none ∨ (w'.os = w.os ∧ w'.tape = w.tape ∧ w'.output = w.output ∧ w.heap.size ≤ w'.heap.size ∧ ∀ b, b < w.heap.size → (b < lo ∨ hi ≤ b) → w'.heap[b]? = w.heap[b]?)
theorem TurnIn.refl (lo hi : Nat) (w : World) : TurnIn lo hi w w := .inr ⟨rfl, rfl, rfl, Nat.le_refl _, fun _ _ _ => rfl⟩
theorem TurnIn.all {lo hi : Nat} {w w' : World} (h : TurnIn lo hi w w') : w'.os = w.os ∧ w'.tape = w.tape ∧ w'.output = w.output ∧ w.heap.size ≤ w'.heap.size ∧ ∀ b, b < w.heap.size → (b < lo ∨ hi ≤ b) → w'.heap[b]? = w.heap[b]? := by
  rcases h with h | h
  · exact ⟨h.os, h.tape, h.output, h.size, fun b hb _ => h.block b hb (by simp)⟩
  · exact h
theorem TurnIn.trans {lo hi : Nat} {w w' w'' : World} (h : TurnIn lo hi w w') (h' : TurnIn lo hi w' w'') : TurnIn lo hi w w'' := by
  obtain ⟨a1, a2, a3, a4, a5⟩ := h.all
  obtain ⟨b1, b2, b3, b4, b5⟩ := h'.all
  exact .inr ⟨b1.trans a1, b2.trans a2, b3.trans a3, Nat.le_trans a4 b4, fun b hb hk => (b5 b (by omega) hk).trans (a5 b hb hk)⟩
theorem TurnIn.below {lo hi : Nat} {w w' : World} (h : TurnIn lo hi w w') (hl : lo ≤ w.heap.size) : Below lo w w' := by
  obtain ⟨a1, a2, a3, a4, a5⟩ := h.all
  exact ⟨a1, a2, a3, a4, fun b hb => a5 b (by omega) (.inl hb)⟩
theorem TurnIn.of_grown {lo hi r : Nat} {w w' : World} (h : w.grownBy w' (some r)) (h1 : lo ≤ r) (h2 : r < hi) : TurnIn lo hi w w' :=
  .inr ⟨h.os, h.tape, h.output, h.size, fun b hb hk => h.block b hb (by intro e; have := Option.some.inj e; omega)⟩
theorem TurnIn.wide {lo hi lo' hi' : Nat} {w w' : World} (h : TurnIn lo hi w w') (h1 : lo' ≤ lo) (h2 : hi ≤ hi') : TurnIn lo' hi' w w' := by
  obtain ⟨a1, a2, a3, a4, a5⟩ := h.all
  exact .inr ⟨a1, a2, a3, a4, fun b hb hk => a5 b hb (by omega)⟩
/-- Where the marks of a product begin. -/
def stN (k : Nat) (p : List Mon) (i : Nat) : Nat := k + ((p.take i).map fun m => m.1.length).sum + i
theorem stN_step (k : Nat) (p : List Mon) (i : Nat) (h : i < p.length) : stN k p (i + 1) = stN k p i + (p.getD i ([], 0)).1.length + 1 := by
  have e : p.getD i ([], 0) = p[i] := by rw [List.getD_eq_getElem?_getD, List.getElem?_eq_getElem h]; rfl
  unfold stN
  rw [List.take_succ_eq_append_getElem h, e, List.map_append, List.sum_append]
  simp only [List.map_cons, List.map_nil, List.sum_cons, List.sum_nil]
  omega
theorem stN_mono (k : Nat) (p : List Mon) : ∀ i, i ≤ p.length → stN k p i ≤ stN k p p.length := by
  intro i hi
  have : ∀ d, i + d ≤ p.length → stN k p i ≤ stN k p (i + d) := by
    intro d
    induction d with
    | zero => intro _; exact Nat.le_refl _
    | succ d ih => intro hd; have := ih (by omega); have := stN_step k p (i + d) (by omega); rw [← Nat.add_assoc]; omega
  have := this (p.length - i) (by omega)
  rwa [show i + (p.length - i) = p.length from by omega] at this
/-- What marking leaves. -/
def marksP (k : Nat) (p : List Mon) : List Mon := (List.range p.length).map fun i => (marksI (stN k p i) (p.getD i ([], 0)).1.length, ((stN k p i + (p.getD i ([], 0)).1.length : Nat) : Int))
theorem marksP_len (k : Nat) (p : List Mon) : (marksP k p).length = p.length := by simp [marksP]
theorem marksP_get (k : Nat) (p : List Mon) (i : Nat) (h : i < p.length) : (marksP k p).getD i ([], 0) = (marksI (stN k p i) (p.getD i ([], 0)).1.length, ((stN k p i + (p.getD i ([], 0)).1.length : Nat) : Int)) := by
  simp [marksP, List.getD_eq_getElem?_getD, h]
/-- What has been marked so far. -/
def MarkRel (w wr : World) (lo hi g len : Nat) (bs : Nat → Nat) (p : List Mon) (k j : Nat) : Prop :=
  TurnIn lo hi w wr ∧ (∀ i, i < len → ∃ c, (p.getD i ([], 0)).1.length ≤ c ∧ wr.cell? ⟨g, i * 2, none⟩ = some (.slice (some ⟨bs i, 0, none⟩) (p.getD i ([], 0)).1.length c)) ∧
  (∀ i, i < j → wr.cell? ⟨g, i * 2 + 1, none⟩ = some (.int .i64 ((stN k p i + (p.getD i ([], 0)).1.length : Nat) : Int)) ∧ Sl wr (some ⟨bs i, 0, none⟩) (p.getD i ([], 0)).1.length (marksI (stN k p i) (p.getD i ([], 0)).1.length)) ∧
  (∀ i, j ≤ i → i < len → (∃ v, wr.cell? ⟨g, i * 2 + 1, none⟩ = some v) ∧ wr.frozen? ⟨g, i * 2 + 1, none⟩ = false ∧ MineI wr (bs i) (p.getD i ([], 0)).1.length)
theorem Sl.block {w w' : World} {b off len : Nat} {l : List Int} (h : Sl w (some ⟨b, off, none⟩) len l) (hs : w.heap.size ≤ w'.heap.size) (hb : w'.heap[b]? = w.heap[b]?) : Sl w' (some ⟨b, off, none⟩) len l := by
  refine ⟨h.1, ?_⟩
  rcases h.2 with h0 | ⟨b', off', e, hlt, hc⟩
  · exact .inl h0
  · cases e
    exact .inr ⟨b, off, rfl, Nat.lt_of_lt_of_le hlt hs, fun i hi => (World.cell?_of_block (a := ⟨b, off + i, none⟩) hb).trans (hc i hi)⟩
theorem MineI.block {w w' : World} {b len : Nat} (h : MineI w b len) (hs : w.heap.size ≤ w'.heap.size) (hb : w'.heap[b]? = w.heap[b]?) : MineI w' b len := by
  refine ⟨Nat.lt_of_lt_of_le h.1 hs, fun i hi => ?_⟩
  obtain ⟨⟨v, hv⟩, hf⟩ := h.2 i hi
  exact ⟨⟨v, (World.cell?_of_block (a := ⟨b, i, none⟩) hb).trans hv⟩, (World.frozen?_of_block (a := ⟨b, i, none⟩) hb).trans hf⟩
theorem mark_stepP {w wr w2 : World} {lo hi g len j k : Nat} {bs : Nat → Nat} {p : List Mon} (h : MarkRel w wr lo hi g len bs p k j) (hj : j < len) (hbs : ∀ i, i < len → lo ≤ bs i ∧ bs i < hi ∧ bs i ≠ g ∧ ∀ t, t < i → bs t ≠ bs i) (hg : lo ≤ g ∧ g < hi) (hgs : g < wr.heap.size) (hss : ∀ i, i < len → bs i < wr.heap.size)
    (g2 : wr.grownBy w2 (some (bs j))) (s2 : Sl w2 (some ⟨bs j, 0, none⟩) (p.getD j ([], 0)).1.length (marksI (stN k p j) (p.getD j ([], 0)).1.length)) {x : Int} (hx : x = ((stN k p j + (p.getD j ([], 0)).1.length : Nat) : Int)) :
    MarkRel w (w2.setCell ⟨g, j * 2 + 1, none⟩ (.int .i64 x)) lo hi g len bs p k (j + 1) := by
  obtain ⟨h1, h2, h3, h4⟩ := h
  have hgj : bs j ≠ g := (hbs j hj).2.2.1
  have hblk : w2.heap[g]? = wr.heap[g]? := g2.block g hgs (fun e => hgj (Option.some.inj e).symm)
  obtain ⟨⟨v, hv⟩, hf, hmine⟩ := h4 j (Nat.le_refl _) hj
  have hv2 := (World.cell?_of_block (a := ⟨g, j * 2 + 1, none⟩) hblk).trans hv
  obtain ⟨t1, t2, t3⟩ := one_set w2 g (j * 2 + 1) (.int .i64 x) ⟨v, hv2⟩
  have hoth : ∀ b, b ≠ g → (w2.setCell ⟨g, j * 2 + 1, none⟩ (.int .i64 x)).heap[b]? = w2.heap[b]? := fun b hb => Below.heap_setCell _ _ _ _ hb
  have hsz : (w2.setCell ⟨g, j * 2 + 1, none⟩ (.int .i64 x)).heap.size = w2.heap.size := by simp [World.setCell]
  have T2 : TurnIn lo hi wr w2 := TurnIn.of_grown g2 (hbs j hj).1 (hbs j hj).2.1
  have T3 : TurnIn lo hi w2 (w2.setCell ⟨g, j * 2 + 1, none⟩ (.int .i64 x)) := TurnIn.of_grown (grown_setI (World.grownBy.refl _ _) _ _) hg.1 hg.2
  refine ⟨(h1.trans T2).trans T3, fun i hi => ?_, fun i hi => ?_, fun i hi hl => ?_⟩
  · obtain ⟨c, hc, c1⟩ := h2 i hi
    refine ⟨c, hc, ?_⟩
    rw [t2 (i * 2) (by omega), World.cell?_of_block (a := ⟨g, i * 2, none⟩) hblk]
    exact c1
  · by_cases e : i = j
    · subst e
      exact ⟨by rw [t1, hx], s2.block (by rw [hsz]; exact Nat.le_refl _) (hoth _ hgj)⟩
    · obtain ⟨c1, c2⟩ := h3 i (by omega)
      have hbi : bs i ≠ bs j := (hbs j hj).2.2.2 i (by omega)
      refine ⟨by rw [t2 (i * 2 + 1) (by omega), World.cell?_of_block (a := ⟨g, i * 2 + 1, none⟩) hblk]; exact c1, (c2.block (w' := w2) g2.size (g2.block _ (hss i (by omega)) (fun e => hbi (Option.some.inj e)))).block (by rw [hsz]; exact Nat.le_refl _) (hoth _ (hbs i (by omega)).2.2.1)⟩
  · obtain ⟨⟨v', hv'⟩, hf', hm'⟩ := h4 i (by omega) hl
    have hbi : bs i ≠ bs j := fun e => (hbs i hl).2.2.2 j (by omega) e.symm
    refine ⟨⟨v', by rw [t2 (i * 2 + 1) (by omega), World.cell?_of_block (a := ⟨g, i * 2 + 1, none⟩) hblk]; exact hv'⟩, by rw [t3, World.frozen?_of_block (a := ⟨g, i * 2 + 1, none⟩) hblk]; exact hf', (hm'.block (w' := w2) g2.size (g2.block _ (hss i hl) (fun e => hbi (Option.some.inj e)))).block (by rw [hsz]; exact Nat.le_refl _) (hoth _ (hbs i hl).2.2.1)⟩
set_option maxHeartbeats 1600000 in
theorem markP_any (lo hi g len cap k : Nat) (p : List Mon) (w : World) (h : PMine w lo hi g len p) (hk : 1 ≤ k) (hn : stN k p len ≤ 1048577) :
    Calls Tryd.prog 12 #[.slice (some ⟨g, 0, none⟩) len cap, .int .i64 k] w fun e w' => e = .returned (.int .i64 (stN k p len : Nat)) ∧ TurnIn lo hi w w' ∧ PSl w' (some ⟨g, 0, none⟩) len (marksP k p) := by
  obtain ⟨h1, h2, h3, hw, bs, h4, h5⟩ := h
  have HM0 : Hid (MarkRel w w lo hi g len bs p k 0) := ⟨TurnIn.refl _ _ _, fun i hi => (h5 i hi).1, fun i hi => absurd hi (by omega), fun i _ hi => ⟨⟨_, (h5 i hi).2.1⟩, (h5 i hi).2.2.1, by have := (h4 i hi).2.1; omega, fun j hj => ⟨⟨_, ((h5 i hi).2.2.2 j hj).1⟩, ((h5 i hi).2.2.2 j hj).2⟩⟩⟩
  have HB := (show Hid _ from h4)
  have hmono := fun i hi => stN_mono k p i hi
  rw [h1] at hmono
  have HMo := (show Hid _ from hmono)
  have hlb : len ≤ 1048577 := by unfold stN at hn; omega
  clear h5 h4 hmono
  go_enter Tryd.func12, Tryd.ntmps12
  go_wp2
  go_loopw [1, 5] (fun x i wr => ∃ (j : Nat), j ≤ len ∧ i = .int .i64 j ∧ x = .int .i64 (stN k p j : Nat) ∧ w.heap.size ≤ wr.heap.size ∧ Hid (MarkRel w wr lo hi g len bs p k j)) (fun _ i _ => len - (intOf i).toNat)
  case atStart => exact ⟨0, Nat.zero_le _, rfl, by simp [stN], Nat.le_refl _, HM0⟩
  case round =>
    obtain ⟨j, hj, rfl, rfl, hsw, HR⟩ := hrel
    clear HM0
    by_cases hlt : j < len
    · obtain ⟨c, hc, c1⟩ := HR.out.2.1 j hlt
      obtain ⟨⟨v, hv⟩, hf, hmine⟩ := HR.out.2.2.2 j (Nat.le_refl _) hlt
      have hst := stN_step k p j (by omega)
      have hle := HMo.out (j + 1) (by omega)
      obtain ⟨L, hL⟩ : ∃ L, (p.getD j ([], 0)).1.length = L := ⟨_, rfl⟩
      obtain ⟨s, hs⟩ : ∃ s, stN k p j = s := ⟨_, rfl⟩
      rw [hL] at c1 hmine hc
      rw [hL, hs] at hst
      rw [hs] at ⊢
      have hs1 : 1 ≤ s := by rw [← hs]; unfold stN; omega
      have HC := (show Hid _ from markI_any (bs j) L c s wr hmine (by omega) (by omega))
      have HP : Hid (∀ w2, wr.grownBy w2 (some (bs j)) → Sl w2 (some ⟨bs j, 0, none⟩) L (marksI s L) → MarkRel w (w2.setCell ⟨g, j * 2 + 1, none⟩ (.int .i64 ((s : Int) + L))) lo hi g len bs p k (j + 1) ∧ w2.cell? ⟨g, j * 2 + 1, none⟩ = some v ∧ w2.frozen? ⟨g, j * 2 + 1, none⟩ = false) := fun w2 g2 s2 => by
        have hblk : w2.heap[g]? = wr.heap[g]? := g2.block g (by omega) (fun e => (HB.out j hlt).2.2.1 (Option.some.inj e).symm)
        exact ⟨mark_stepP HR.out hlt HB.out ⟨h2, h3⟩ (by omega) (fun i hi => by have := (HB.out i hi).2.1; omega) g2 (by rw [hL, hs]; exact s2) (by rw [hL, hs]; omega), (World.cell?_of_block (a := ⟨g, j * 2 + 1, none⟩) hblk).trans hv, (World.frozen?_of_block (a := ⟨g, j * 2 + 1, none⟩) hblk).trans hf⟩
      have hjl : (j : Int) < len := by omega
      have hb1 : (s : Int) + L + 1 ≤ 1048577 := by omega
      have HST : Hid (stN k p (j + 1) = s + L + 1) := hst
      clear hst hle hL hs HR hmine hv hf
      go_wp2_with fail
      refine Calls.mono HC.out ?_
      rintro e w2 ⟨rfl, g2, s2⟩
      obtain ⟨hR2, v2, f2⟩ := HP.out w2 g2 s2
      have HR2 := (show Hid _ from hR2)
      have hsz2 := g2.size
      clear HC HP g2 s2 hR2 c1
      go_wp2
      go_roundw
      case rel => exact ⟨j + 1, by omega, by go_num, by rw [HST.out]; congr 1, by simp [World.setCell]; omega, HR2⟩
      case measure => simp [intOf]; omega
    · obtain rfl : j = len := by omega
      go_wp2
      go_ret
      refine ⟨rfl, HR.out.1, by rw [marksP_len]; exact h1, .inr ⟨g, 0, rfl, by omega, fun i hi => ?_⟩⟩
      obtain ⟨c, hc, c1⟩ := HR.out.2.1 i hi
      obtain ⟨d1, d2⟩ := HR.out.2.2.1 i hi
      rw [marksP_get k p i (by omega), Nat.zero_add]
      exact ⟨_, _, c, c1, by have := stN_step k p i (by omega); have := HMo.out (i + 1) (by omega); omega, hc, d2, d1⟩
end Go.Proofs.YtpjgjpjfchfmlaaDoor
namespace Go.Proofs.YtpjgjpjfchfmlaaDoor
open Go.ChangeShapes Go.WideShapes Go.ChangeAt Go.RowKit
set_option linter.unusedVariables false

theorem eqM_same (a b : Option Addr) (len ca cb : Nat) (l : List Int) (y : Int) (w : World) (h : Sl w a len l) (h' : Sl w b len l) (hn : len ≤ 1048576) :
    Calls Tryd.prog 23 #[.agg #[.slice a len ca, .int .i64 y], .agg #[.slice b len cb, .int .i64 y]] w fun e w' => e = .returned (.bool true) ∧ Below w.heap.size w w' := by
  obtain ⟨W1, hW1⟩ : ∃ W1, (w.alloc (.cells #[.slice a len ca, .int .i64 y] 51)).alloc (.cells #[.slice b len cb, .int .i64 y] 51) = W1 := ⟨_, rfl⟩
  have hb1 : Below w.heap.size w W1 := by rw [← hW1]; exact ((Below.refl _ _).alloc (Nat.le_refl _) _).alloc (by simp) _
  have hsz : W1.heap.size = w.heap.size + 2 := by rw [← hW1]; simp
  have n0 : W1.cell? ⟨w.heap.size, 0, none⟩ = some (.slice a len ca) := by rw [← hW1]; simp [go_sem]
  have n1 : W1.cell? ⟨w.heap.size, 1, none⟩ = some (.int .i64 y) := by rw [← hW1]; simp [go_sem]
  have m0 : W1.cell? ⟨w.heap.size + 1, 0, none⟩ = some (.slice b len cb) := by rw [← hW1]; simp [go_sem]
  have m1 : W1.cell? ⟨w.heap.size + 1, 1, none⟩ = some (.int .i64 y) := by rw [← hW1]; simp [go_sem]
  have HE := (show Hid _ from eqI_same a b len ca cb l W1 (h.keep hb1) (h'.keep hb1) hn)
  have hyy : (y != y) = false := by simp
  clear h h'
  go_enter Tryd.func23, Tryd.ntmps23
  go_wp2_with fail
  (try rw [hW1])
  refine Calls.mono HE.out ?_
  rintro e w2 ⟨rfl, hb2⟩
  have q1 := (hb2.cell (p := ⟨w.heap.size, 1, none⟩) (by show w.heap.size < _; omega)).trans n1
  have q2 := (hb2.cell (p := ⟨w.heap.size + 1, 1, none⟩) (by show w.heap.size + 1 < _; omega)).trans m1
  have HB : Hid (Below w.heap.size w w2) := hb1.trans (hb2.mono hb1.size)
  clear hb2 HE n0 n1 m0 m1 hW1 hb1
  go_wp2
  go_ret
  exact ⟨rfl, HB.out⟩
set_option maxHeartbeats 1600000 in
theorem eqP_same (a b : Option Addr) (len ca cb : Nat) (p : List Mon) (w : World) (h : PSl w a len p) (h' : PSl w b len p) (hn : len ≤ 1048576) (hp : ∀ i, i < len → (p.getD i ([], 0)).1.length ≤ 1048576) :
    Calls Tryd.prog 9 #[.slice a len ca, .slice b len cb] w fun e w' => e = .returned (.bool true) ∧ Below w.heap.size w w' := by
  have hne : ((len : Int) != len) = false := by simp
  go_enter Tryd.func9, Tryd.ntmps9
  go_wp2
  go_loopw [5] (fun i wr => ∃ (k : Nat), k ≤ len ∧ i = .int .i64 k ∧ Below w.heap.size w wr) (fun i _ => len - (intOf i).toNat)
  case atStart => exact ⟨0, Nat.zero_le _, rfl, Below.refl _ _⟩
  case round =>
    obtain ⟨k, hk, rfl, hbr⟩ := hrel
    by_cases hlt : k < len
    · obtain ⟨b1, off, rfl, hbl, hc⟩ := (h.keep hbr).at (by omega)
      obtain ⟨b2, off', rfl, hbl', hc'⟩ := (h'.keep hbr).at (by omega)
      obtain ⟨ai, li, ci, c1, hli, hci, hS, c2⟩ := hc k hlt
      obtain ⟨aj, lj, cj, d1, hlj, hcj, hS', d2⟩ := hc' k hlt
      have hpk := hp k hlt
      generalize (p.getD k ([], 0)).1 = l at hS hS' hpk
      generalize (p.getD k ([], 0)).2 = y at c2 d2
      obtain rfl : li = lj := by have := hS.1; have := hS'.1; omega
      have hlt' : (k : Int) < len := by omega
      have HE : Hid (∀ x : Ahead wr, Calls Tryd.prog 23 #[.agg #[.slice ai li ci, .int .i64 y], .agg #[.slice aj li cj, .int .i64 y]] x.w fun e w' => e = .returned (.bool true) ∧ Below x.w.heap.size x.w w') := fun x => eqM_same ai aj li ci cj l y x.w (hS.keep x.h) (hS'.keep x.h) (by have := hS.1; omega)
      have k1 : ∀ x : Ahead wr, x.w.cell? ⟨b1, off + k * 2, none⟩ = some (.slice ai li ci) := fun x => (x.h.cell (p := ⟨b1, off + k * 2, none⟩) hbl).trans c1
      have k2 : ∀ x : Ahead wr, x.w.cell? ⟨b1, off + k * 2 + 1, none⟩ = some (.int .i64 y) := fun x => (x.h.cell (p := ⟨b1, off + k * 2 + 1, none⟩) hbl).trans c2
      have k3 : ∀ x : Ahead wr, x.w.cell? ⟨b2, off' + k * 2, none⟩ = some (.slice aj li cj) := fun x => (x.h.cell (p := ⟨b2, off' + k * 2, none⟩) hbl').trans d1
      have k4 : ∀ x : Ahead wr, x.w.cell? ⟨b2, off' + k * 2 + 1, none⟩ = some (.int .i64 y) := fun x => (x.h.cell (p := ⟨b2, off' + k * 2 + 1, none⟩) hbl').trans d2
      clear hc hc' h h' hS hS' hp
      go_wp2_with fail
      have hne := ahead_some wr
      refine wp_region_ahead (by kernel_rfl) (by kernel_rfl) ?_
      repeat (first
        | go_big_quiet_skip
        | (go_big_quiet_want; go_big_quiet_op; first | go_big_quiet_on | (apply Exists.intro; refine ⟨fun x => ?_, ?_⟩; (focus (exact ahead_of (HE.out x))); go_big_quiet_on)))
      refine wpQuiet_nil ?_
      intro _ hw'
      obtain ⟨xq, rfl⟩ := hw'
      have hB := hbr.trans (xq.h.mono hbr.size)
      go_wp2
      go_roundw
      case rel => exact ⟨k + 1, by omega, by go_num, hB⟩
      case measure => simp [intOf]; omega
    · go_wp2
      go_ret
      exact ⟨rfl, hbr⟩
end Go.Proofs.YtpjgjpjfchfmlaaDoor
namespace Go.Proofs.YtpjgjpjfchfmlaaDoor
open Go.ChangeShapes Go.WideShapes Go.ChangeAt Go.RowKit
set_option linter.unusedVariables false

set_option maxHeartbeats 1600000 in
set_option maxRecDepth 20000 in
theorem heldP_any (a : Option Addr) (len cap k : Nat) (p : List Mon) (w : World) (h : PSl w a len (marksP k p)) (hk : 1 ≤ k) (hpl : p.length = len) (hn : stN k p len ≤ 1048577) :
    Calls Tryd.prog 13 #[.slice a len cap, .int .i64 k] w fun e w' => e = .returned (.int .i64 (stN k p len : Nat)) ∧ w' = w := by
  have hmono := fun i hi => stN_mono k p i hi
  rw [hpl] at hmono
  have HMo := (show Hid _ from hmono)
  have hlb : len ≤ 1048577 := by unfold stN at hn; omega
  clear hmono
  go_enter Tryd.func13, Tryd.ntmps13
  go_wp2
  go_loopw [1, 5] (fun x i wr => ∃ (j : Nat), j ≤ len ∧ i = .int .i64 j ∧ x = .int .i64 (stN k p j : Nat) ∧ wr = w) (fun _ i _ => len - (intOf i).toNat)
  case atStart => exact ⟨0, Nat.zero_le _, rfl, by simp [stN], rfl⟩
  case round =>
    obtain ⟨j, hj, rfl, rfl, rfl⟩ := hrel
    by_cases hlt : j < len
    · obtain ⟨b, off, rfl, hbl, hc⟩ := h.at (by omega)
      obtain ⟨ai, li, ci, c1, hli, hci, hS, c2⟩ := hc j hlt
      rw [marksP_get k p j (by omega)] at hS c2
      simp only at hS c2
      have hst := stN_step k p j (by omega)
      have hle := HMo.out (j + 1) (by omega)
      obtain ⟨s, hs⟩ : ∃ s, stN k p j = s := ⟨_, rfl⟩
      have hs1 : 1 ≤ s := by rw [← hs]; unfold stN; omega
      obtain ⟨L, hL⟩ : ∃ L, (p.getD j ([], 0)).1.length = L := ⟨_, rfl⟩
      rw [hs, hL] at hst hS c2
      rw [hs]
      obtain rfl : li = L := by have := hS.1; rw [marksI_len] at this; omega
      have HC := (show Hid _ from heldI_any ai li ci s wr hS (by omega) (by omega))
      obtain ⟨t, ht⟩ : ∃ t : Nat, s + li = t := ⟨_, rfl⟩
      rw [ht] at hst c2 HC
      have HST : Hid (stN k p (j + 1) = t + 1) := hst
      have hjl : (j : Int) < len := by omega
      have hb1 : t ≤ 1048577 := by omega
      clear hc hS hst hle hs hL ht
      go_wp2_with fail
      refine Calls.mono HC.out ?_
      rintro e w1 ⟨rfl, rfl⟩
      clear HC
      go_wp2
      go_roundw
      case rel => exact ⟨j + 1, by omega, by go_num, by rw [HST.out]; congr 1, by first | trivial | rfl⟩
      case measure => simp [intOf]; omega
    · obtain rfl : j = len := by omega
      go_wp2
      go_ret
      exact ⟨rfl, rfl⟩
/-- Few products of four powers each. -/
def Few4 (q : List Mon) : Prop := q.length ≤ 40 ∧ ∀ i, i < q.length → (q.getD i ([], 0)).1.length = 4
theorem few_st {q : List Mon} (h : Few4 q) : stN 1 q q.length ≤ 1000 := by
  have : ∀ i, i ≤ q.length → stN 1 q i = 1 + 5 * i := by
    intro i
    induction i with
    | zero => intro _; simp [stN]
    | succ i ih =>
      intro hi
      rw [stN_step 1 q i (by omega), ih (by omega), h.2 i (by omega)]
      omega
  rw [this _ (Nat.le_refl _)]
  have := h.1
  omega
theorem OwnV.spec {w : World} {lo : Nat} {v : Value} {q : List Mon} (h : OwnV w lo v q) (hf : Few4 q) : SpecV w v q := by
  rcases h with ⟨rfl, a, cap, rfl⟩ | ⟨g, cap, rfl, h2, h3, h4⟩
  · exact ⟨a, cap, rfl, rfl, .inl rfl⟩
  · exact ⟨_, _, rfl, h4.psl (fun i hi => by have := hf.2 i hi; omega)⟩
/-- In memory of its own from lo to hi. -/
def OwnIn (w : World) (lo hi : Nat) (v : Value) (q : List Mon) : Prop := (q = [] ∧ ∃ a cap, v = .slice a 0 cap) ∨ ∃ g cap, v = .slice (some ⟨g, 0, none⟩) q.length cap ∧ PMine w lo hi g q.length q
theorem OwnV.within {w : World} {lo : Nat} {v : Value} {q : List Mon} (h : OwnV w lo v q) : OwnIn w lo w.heap.size v q := by
  rcases h with h | ⟨g, cap, h1, _, _, h4⟩
  · exact .inl h
  · exact .inr ⟨g, cap, h1, h4⟩
theorem OwnIn.map {w w' : World} {lo hi : Nat} {v : Value} {q : List Mon} (h : OwnIn w lo hi v q) (hs : hi ≤ w'.heap.size) (hk : ∀ b, lo ≤ b → b < hi → w'.heap[b]? = w.heap[b]?) : OwnIn w' lo hi v q := by
  rcases h with h | ⟨g, cap, h1, h4⟩
  · exact .inl h
  · exact .inr ⟨g, cap, h1, h4.map (Nat.le_refl _) (Nat.le_refl _) hs hk⟩
theorem OwnIn.keep {w w' : World} {lo hi : Nat} {v : Value} {q : List Mon} (h : OwnIn w lo hi v q) (hh : hi ≤ w.heap.size) (hb : Below w.heap.size w w') : OwnIn w' lo hi v q :=
  h.map (Nat.le_trans hh hb.size) (fun b _ hlt => hb.block b (by omega))
theorem OwnIn.spec {w : World} {lo hi : Nat} {v : Value} {q : List Mon} (h : OwnIn w lo hi v q) (hf : Few4 q) : SpecV w v q := by
  rcases h with ⟨rfl, a, cap, rfl⟩ | ⟨g, cap, rfl, h4⟩
  · exact ⟨a, cap, rfl, rfl, .inl rfl⟩
  · exact ⟨_, _, rfl, h4.psl (fun i hi => by have := hf.2 i hi; omega)⟩
theorem mark_none (a : Option Addr) (cap : Nat) (k : Int) (w : World) : Calls Tryd.prog 12 #[.slice a 0 cap, .int .i64 k] w fun e w' => e = .returned (.int .i64 k) ∧ w' = w := by
  go_enter Tryd.func12, Tryd.ntmps12
  go_wp2
  go_loopw [1, 5] (fun x i wr => i = .int .i64 0 ∧ x = .int .i64 k ∧ wr = w) (fun _ _ _ => 0)
  case atStart => exact ⟨rfl, rfl, rfl⟩
  case round =>
    obtain ⟨rfl, rfl, rfl⟩ := hrel
    go_wp2
    go_ret
    exact ⟨rfl, rfl⟩
theorem markV_any (lo hi : Nat) (v : Value) (q : List Mon) (w : World) (h : OwnIn w lo hi v q) (hf : Few4 q) :
    Calls Tryd.prog 12 #[v, .int .i64 1] w fun e w' => e = .returned (.int .i64 (stN 1 q q.length : Nat)) ∧ TurnIn lo hi w w' ∧ SpecV w' v (marksP 1 q) := by
  rcases h with ⟨rfl, a, cap, rfl⟩ | ⟨g, cap, rfl, h4⟩
  · refine (mark_none a cap 1 w).mono ?_
    rintro e w' ⟨rfl, rfl⟩
    exact ⟨rfl, TurnIn.refl _ _ _, a, cap, rfl, rfl, .inl rfl⟩
  · have := few_st hf
    refine (markP_any lo hi g q.length cap 1 q w h4 (by omega) (by omega)).mono ?_
    rintro e w' ⟨rfl, h1, h2⟩
    exact ⟨rfl, h1, some ⟨g, 0, none⟩, cap, by rw [marksP_len], by rw [marksP_len]; exact h2⟩
theorem heldV_any (v : Value) (q : List Mon) (w : World) (h : SpecV w v (marksP 1 q)) (hf : Few4 q) :
    Calls Tryd.prog 13 #[v, .int .i64 1] w fun e w' => e = .returned (.int .i64 (stN 1 q q.length : Nat)) ∧ w' = w := by
  obtain ⟨a, cap, rfl, hP⟩ := h
  have := few_st hf
  rw [marksP_len] at hP ⊢
  exact heldP_any a q.length cap 1 q w hP (by omega) rfl (by omega)
theorem eqV_same (u v : Value) (q : List Mon) (w : World) (h : SpecV w u q) (h' : SpecV w v q) (hf : Few4 q) : Calls Tryd.prog 9 #[u, v] w fun e w' => e = .returned (.bool true) ∧ Below w.heap.size w w' := by
  obtain ⟨a, ca, rfl, hP⟩ := h
  obtain ⟨b, cb, rfl, hQ⟩ := h'
  have := hf.1
  exact eqP_same a b q.length ca cb q w hP hQ (by omega) (fun i hi => by have := hf.2 i hi; omega)
theorem few_of {q : List Mon} (h : polyB q = true) : Few4 q := ⟨poly_len h, fun i hi => by
  have hm : q.getD i ([], 0) ∈ q := by rw [List.getD_eq_getElem?_getD, List.getElem?_eq_getElem hi]; exact List.getElem_mem _
  have : ∀ (prev : Option (List Int)) (q : List Mon), gpF prev q = true → ∀ x ∈ q, powB x.1 = true := by
    intro prev q
    induction q generalizing prev with
    | nil => intro _ x hx; cases hx
    | cons m r ih =>
      intro hq x hx
      rw [gpF, Bool.and_eq_true] at hq
      rcases List.mem_cons.1 hx with rfl | hx
      · have h1 := hq.1; unfold fitM at h1; rw [Bool.and_eq_true, Bool.and_eq_true] at h1; exact h1.1.1
      · exact ih _ hq.2 x hx
  unfold polyB at h
  rw [Bool.and_eq_true] at h
  exact pow_len (this _ q h.1 _ hm)⟩
theorem few_nil : Few4 [] := ⟨by simp, fun i hi => absurd hi (by simp)⟩
theorem SpecV.turn {w w' : World} {lo hi : Nat} {v : Value} {q : List Mon} {base : Nat} {w0 : World} (h : SpecV w0 v q) (hb : Below w0.heap.size w0 w') : SpecV w' v q := h.keep hb
end Go.Proofs.YtpjgjpjfchfmlaaDoor
