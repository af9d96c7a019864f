/-
  PROVED HERE: what the laws' own marking of answers that are graphs leaves, and that it is held. No other condition. what the program's AddTerm answers, at every graph and every list of nodes, in a world whose table of arities is laid. No other condition. what the program's AddTerm answers, at every graph and every list of nodes, in a world whose table of arities is laid. No other condition.
-/
import Derived.Test.YtobgkfpjokfbaaaGreatDoorRun22
import Derived.Test.YtobgkfpjokfbaaaGreatDoorRun16
import Derived.Test.YtobgkfpjokfbaaaGreatDoorRun20
import Derived.Test.YtobgkfpjokfbaaaGreatDoorRun21
namespace Go.Proofs.YtobgkfpjokfbaaaGreatDoor
open Go.ChangeShapes Go.WideShapes Go.ChangeAt Go.RowKit
set_option linter.unusedVariables false

set_option maxHeartbeats 1600000 in
set_option maxRecDepth 20000 in
theorem heldE_any (a : Option Addr) (len cap k : Nat) (p : List EN) (w : World) (h : ESl w a len (marksE k p)) (hk : 1 ≤ k) (hpl : p.length = len) (hn : stE k p len ≤ 1048577) :
    Calls Tryz.prog 38 #[.slice a len cap, .int .i64 k] w fun e w' => e = .returned (.int .i64 (stE k p len : Nat)) ∧ w' = w := by
  have hmono := fun i hi => stE_mono k p i hi
  rw [hpl] at hmono
  have HMo := (show Hid _ from hmono)
  have hlb : len ≤ 1048577 := by unfold stE at hn; omega
  clear hmono
  go_enter Tryz.func38, Tryz.ntmps38
  go_wp2
  go_loopw [1, 5] (fun x i wr => ∃ (j : Nat), j ≤ len ∧ i = .int .i64 j ∧ x = .int .i64 (stE k p j : Nat) ∧ wr = w) (fun _ i _ => len - (intOf i).toNat)
  case atStart => exact ⟨0, Nat.zero_le _, rfl, by simp [stE], rfl⟩
  case round =>
    obtain ⟨j, hj, rfl, rfl, rfl⟩ := hrel
    by_cases hlt : j < len
    · obtain ⟨b, off, rfl, hbl, hc⟩ := h.at (by omega)
      obtain ⟨ai, li, ci, c1, c2, c3, hli, hci, hS⟩ := hc j hlt
      rw [marksE_get k p j (by omega)] at hS c1 c2
      simp only at hS c1 c2
      have hst := stE_step k p j (by omega)
      have hle := HMo.out (j + 1) (by omega)
      obtain ⟨s, hs⟩ : ∃ s, stE k p j = s := ⟨_, rfl⟩
      have hs1 : 1 ≤ s := by rw [← hs]; unfold stE; omega
      obtain ⟨L, hL⟩ : ∃ L, (p.getD j e0).2.2.length = L := ⟨_, rfl⟩
      rw [hs, hL] at hst hS
      rw [hs] at c1 c2
      rw [hs]
      obtain rfl : li = L := by have := hS.1; rw [marksI_len] at this; omega
      have HC := (show Hid _ from heldI_any ai li ci (s + 2) wr hS (by omega) (by omega))
      have HST : Hid (stE k p (j + 1) = s + 2 + li) := hst
      have hjl : (j : Int) < len := by omega
      have hb1 : (s : Int) + 2 + li ≤ 1048577 := by omega
      have e2 : ((s + 2 : Nat) : Int) = (s : Int) + 1 + 1 := by omega
      have e3 : ((s + 2 + li : Nat) : Int) = (s : Int) + 1 + 1 + li := by omega
      have e4 : ((s + 1 : Nat) : Int) = (s : Int) + 1 := by omega
      rw [e2, e3] at HC
      rw [e4] at c2
      clear hc hS hst hle hs hL e2 e3 e4
      go_wp2_with fail
      refine Calls.mono HC.out ?_
      rintro e w1 ⟨rfl, rfl⟩
      clear HC
      go_wp2
      go_roundw
      case rel => exact ⟨j + 1, by omega, by go_num, by rw [HST.out]; congr 1, by first | trivial | rfl⟩
      case measure => simp [intOf]; omega
    · obtain rfl : j = len := by omega
      go_wp2
      go_ret
      exact ⟨rfl, rfl⟩
theorem markE_nil (a : Option Addr) (cap k : Nat) (w : World) : Calls Tryz.prog 35 #[.slice a 0 cap, .int .i64 k] w fun e w' => e = .returned (.int .i64 (k : Int)) ∧ w' = w := by
  go_enter Tryz.func35, Tryz.ntmps35
  go_wp2
  refine wp_loop_rounds 1 ?_
  rw [rounds_succ]
  go_wp2
  go_ret
  exact ⟨rfl, rfl⟩
theorem markI_nil (a : Option Addr) (cap k : Nat) (w : World) : Calls Tryz.prog 36 #[.slice a 0 cap, .int .i64 k] w fun e w' => e = .returned (.int .i64 (k : Int)) ∧ w' = w := by
  go_enter Tryz.func36, Tryz.ntmps36
  go_wp2
  refine wp_loop_rounds 1 ?_
  rw [rounds_succ]
  go_wp2
  go_ret
  exact ⟨rfl, rfl⟩
/-- An answer that is a graph, or none. -/
def AnsI (w : World) (S : Nat → Prop) (va vb : Value) (g : GS) : Prop := (va = .slice none 0 0 ∧ vb = .slice none 0 0 ∧ g = ([], [])) ∨ (GOwn w true S va vb g ∧ 0 < g.1.length ∧ g.1.length ≤ 120 ∧ g.2.length = g.1.length ∧ ∀ i, i < g.1.length → (g.1.getD i e0).2.2.length ≤ 3)
def ansK (g : GS) : Nat := stE 1 g.1 g.1.length + g.2.length
/-- Marks that are held. -/
def HeldG (w : World) (va vb : Value) (g : GS) : Prop := g.1.length ≤ 120 ∧ g.2.length = g.1.length ∧ stE 1 g.1 g.1.length ≤ 1000 ∧ ∃ a ca b cb, va = .slice a g.1.length ca ∧ vb = .slice b g.2.length cb ∧ ESl w a g.1.length (marksE 1 g.1) ∧ Sl w b g.2.length (marksI (stE 1 g.1 g.1.length) g.2.length)
theorem stE_few {p : List EN} (h : p.length ≤ 120) (h3 : ∀ i, i < p.length → (p.getD i e0).2.2.length ≤ 3) : stE 1 p p.length ≤ 1000 := by
  have : ∀ i, i ≤ p.length → stE 1 p i ≤ 1 + 5 * i := by
    intro i
    induction i with
    | zero => intro _; simp [stE]
    | succ i ih =>
      intro hi
      rw [stE_step 1 p i (by omega)]
      have := ih (by omega)
      have := h3 i (by omega)
      omega
  have := this _ (Nat.le_refl _)
  omega
theorem AnsI.reads {w : World} {S : Nat → Prop} {va vb : Value} {g : GS} (h : AnsI w S va vb g) : ∃ a ca b cb, va = .slice a g.1.length ca ∧ vb = .slice b g.2.length cb ∧ ESl w a g.1.length g.1 ∧ Sl w b g.2.length g.2 ∧ g.1.length ≤ 120 ∧ g.2.length = g.1.length ∧ ∀ i, i < g.1.length → (g.1.getD i e0).2.2.length ≤ 3 := by
  rcases h with ⟨rfl, rfl, rfl⟩ | ⟨h, _, h1, h2, h3⟩
  · exact ⟨none, 0, none, 0, rfl, rfl, ⟨rfl, .inl rfl⟩, ⟨rfl, .inl rfl⟩, by simp, rfl, fun i hi => absurd hi (Nat.not_lt_zero _)⟩
  · obtain ⟨a, ca, b, cb, e1, e2, e3, e4⟩ := h.reads
    exact ⟨a, ca, b, cb, e1, e2, e3, e4, h1, h2, h3⟩
theorem AnsI.map {w w' : World} {S S' : Nat → Prop} {va vb : Value} {g : GS} (h : AnsI w S va vb g) (hs : w.heap.size ≤ w'.heap.size) (hk : ∀ b, S b → b < w.heap.size → w'.heap[b]? = w.heap[b]?) (hS : ∀ b, b < w.heap.size → S b → S' b) : AnsI w' S' va vb g := by
  rcases h with h | ⟨h, r⟩
  · exact .inl h
  · exact .inr ⟨h.map hs hk hS, r⟩
theorem HeldG.keep {w w' : World} {va vb : Value} {g : GS} (h : HeldG w va vb g) (hb : Below w.heap.size w w') : HeldG w' va vb g := by
  obtain ⟨h1, h2, h3, a, ca, b, cb, h4, h5, h6, h7⟩ := h
  exact ⟨h1, h2, h3, a, ca, b, cb, h4, h5, h6.keep hb, h7.keep hb⟩
set_option maxHeartbeats 1600000 in
theorem heldA_any (va vb : Value) (g : GS) (w : World) (h : HeldG w va vb g) :
    Calls Tryz.prog 18 #[.agg #[va, vb], .int .i64 1] w fun e w' => e = .returned (.int .i64 ((ansK g : Nat) : Int)) ∧ Below w.heap.size w w' := by
  obtain ⟨h1, h2, h3, a, ca, b, cb, rfl, rfl, h6, h7⟩ := h
  unfold ansK
  obtain ⟨p, l⟩ := g
  simp only at h1 h2 h3 h6 h7 ⊢
  obtain ⟨W1, hW1⟩ : ∃ W1, w.alloc (.cells #[.slice a p.length ca, .slice b l.length cb] 36) = W1 := ⟨_, rfl⟩
  have hb1 : Below w.heap.size w W1 := by rw [← hW1]; exact (Below.refl _ _).alloc (Nat.le_refl _) _
  have n0 : W1.cell? ⟨w.heap.size, 0, none⟩ = some (.slice a p.length ca) := by rw [← hW1]; simp [go_sem]
  have n1 : W1.cell? ⟨w.heap.size, 1, none⟩ = some (.slice b l.length cb) := by rw [← hW1]; simp [go_sem]
  have HE := (show Hid _ from heldE_any a p.length ca 1 p W1 (h6.keep hb1) (by omega) rfl (by omega))
  have HI := (show Hid _ from heldI_any b l.length cb (stE 1 p p.length) W1 (h7.keep hb1) (by omega) (by omega))
  have HB := (show Hid _ from hb1)
  obtain ⟨s, hs⟩ : ∃ s, stE 1 p p.length = s := ⟨_, rfl⟩
  rw [hs] at HE HI h3 ⊢
  have hs0 : ¬ (s : Int) < 0 := by omega
  have hs2 : ¬ ((s + l.length : Nat) : Int) < 0 := by omega
  obtain ⟨q, hq⟩ : ∃ q : Nat, s + l.length = q := ⟨_, rfl⟩
  rw [hq] at HI hs2 ⊢
  obtain ⟨L, hL⟩ : ∃ L, l.length = L := ⟨_, rfl⟩
  obtain ⟨N, hN⟩ : ∃ N, p.length = N := ⟨_, rfl⟩
  rw [hL] at HI n1 hW1 ⊢
  rw [hN] at HE n0 hW1 ⊢
  clear h6 h7 hb1 hs h1 h2 h3 hq hL hN
  go_enter Tryz.func18, Tryz.ntmps18
  go_wp2_with fail
  (try rw [hW1])
  refine Calls.mono HE.out ?_
  rintro e w2 ⟨rfl, rfl⟩
  clear HE hW1
  go_wp2_with fail
  refine Calls.mono HI.out ?_
  rintro e w3 ⟨rfl, rfl⟩
  clear HI
  go_wp2
  go_ret
  exact ⟨rfl, HB.out⟩
set_option maxHeartbeats 1600000 in
theorem markA_any (va vb : Value) (g : GS) (S : Nat → Prop) (w : World) (h : AnsI w S va vb g) :
    Calls Tryz.prog 15 #[.agg #[va, vb], .int .i64 1] w fun e w' => e = .returned (.int .i64 ((ansK g : Nat) : Int)) ∧ KB S w w' ∧ HeldG w' va vb g := by
  rcases h with ⟨rfl, rfl, rfl⟩ | ⟨hG, h0, h120, hlp, h3⟩
  · have HE : Hid (∀ W, Calls Tryz.prog 35 #[.slice none 0 0, .int .i64 1] W fun e w' => e = .returned (.int .i64 1) ∧ w' = W) := fun W => markE_nil none 0 1 W
    have HI : Hid (∀ W, Calls Tryz.prog 36 #[.slice none 0 0, .int .i64 1] W fun e w' => e = .returned (.int .i64 1) ∧ w' = W) := fun W => markI_nil none 0 1 W
    have HB : Hid (∀ o, Below w.heap.size w (w.alloc o)) := fun o => (Below.refl _ _).alloc (Nat.le_refl _) o
    have e1 : ((ansK ([], []) : Nat) : Int) = 1 := rfl
    rw [e1]
    go_enter Tryz.func15, Tryz.ntmps15
    go_wp2_with fail
    refine Calls.mono (HE.out _) ?_
    rintro e w2 ⟨rfl, rfl⟩
    clear HE
    go_wp2_with fail
    refine Calls.mono (HI.out _) ?_
    rintro e w3 ⟨rfl, rfl⟩
    clear HI
    go_wp2
    go_ret
    exact ⟨rfl, KB.of (HB.out _), by simp, rfl, by simp [stE], none, 0, none, 0, rfl, rfl, ⟨rfl, .inl rfl⟩, ⟨rfl, .inl rfl⟩⟩
  · obtain ⟨gg, ca, rfl, hM⟩ := hG.mineP h0
    have hst := stE_few h120 h3
    have hrow := hG.row.2.1
    have hSb := hG.row.2.2.2
    obtain ⟨p, l⟩ := g
    simp only at hM hst hrow hlp h0 h120 h3 ⊢
    rcases hrow.2 with ⟨_, e0'⟩ | ⟨gp, cb, cur, rfl, _, _, _⟩
    · omega
    unfold ansK
    simp only
    have hMI := MineI.of hrow
    obtain ⟨W1, hW1⟩ : ∃ W1, w.alloc (.cells #[.slice (some ⟨gg, 0, none⟩) p.length ca, .slice (some ⟨gp, 0, none⟩) l.length cb] 36) = W1 := ⟨_, rfl⟩
    have hb1 : Below w.heap.size w W1 := by rw [← hW1]; exact (Below.refl _ _).alloc (Nat.le_refl _) _
    have hs1 : W1.heap.size = w.heap.size + 1 := by rw [← hW1]; simp
    have n0 : W1.cell? ⟨w.heap.size, 0, none⟩ = some (.slice (some ⟨gg, 0, none⟩) p.length ca) := by rw [← hW1]; simp [go_sem]
    have n1 : W1.cell? ⟨w.heap.size, 1, none⟩ = some (.slice (some ⟨gp, 0, none⟩) l.length cb) := by rw [← hW1]; simp [go_sem]
    have hgpl : gp < w.heap.size := owns_lt hrow
    have hM2 : EMineP w (fun b => (S b ∧ b ≠ gp) ∧ b < w.heap.size) gg p.length p := by
      obtain ⟨m1, m2, m3, bs, m4, m5⟩ := hM
      refine ⟨m1, ⟨⟨m2.1, fun e => m2.2 (by rw [e]; rfl)⟩, m3⟩, m3, bs, fun i hi => ?_, m5⟩
      obtain ⟨a, b, c, d⟩ := m4 i hi
      exact ⟨⟨⟨a.1, fun e => a.2 (by rw [e]; rfl)⟩, b⟩, b, c, d⟩
    have HM := (show Hid _ from markP_any (fun b => (S b ∧ b ≠ gp) ∧ b < w.heap.size) gg p.length ca 1 p W1 (hM2.keep hb1) (by omega) (by omega) (fun i hi => by have := h3 i hi; omega) (by omega))
    have HX : Hid (∀ W, KB (fun b => (S b ∧ b ≠ gp) ∧ b < w.heap.size) W1 W → W.cell? ⟨w.heap.size, 1, none⟩ = some (.slice (some ⟨gp, 0, none⟩) l.length cb) ∧ MineI W gp l.length ∧ KB S w W) := fun W hW => ⟨(hW.cell (p := ⟨w.heap.size, 1, none⟩) (by show w.heap.size < _; omega) (fun h => Nat.lt_irrefl _ h.2)).trans n1, mineE_block (hMI.keep hb1) hW.size (hW.block gp (by omega) (fun h => h.1.2 rfl)), (KB.of hb1).trans hW (fun b _ h => h.1.1)⟩
    have hSgp : S gp := hSb gp rfl
    have hne : gg ≠ gp := hM2.2.1.1.2
    have HF : Hid (∀ W2 W3 : World, KB (fun b => (S b ∧ b ≠ gp) ∧ b < w.heap.size) W1 W2 → (∀ W, W2.heap.size ≤ W.heap.size → (∀ b, ((S b ∧ b ≠ gp) ∧ b < w.heap.size) → W.heap[b]? = W2.heap[b]?) → ESl W (some ⟨gg, 0, none⟩) p.length (marksE 1 p)) → W2.grownBy W3 (some gp) → Sl W3 (some ⟨gp, 0, none⟩) l.length (marksI (stE 1 p p.length) l.length) → KB S w W3 ∧ HeldG W3 (.slice (some ⟨gg, 0, none⟩) p.length ca) (.slice (some ⟨gp, 0, none⟩) l.length cb) (p, l)) := fun W2 W3 k1 k2 k3 k4 => by
      have hs12 := k1.size
      refine ⟨((KB.of hb1).trans k1 (fun b _ h => h.1.1)).grown k3 (fun y hy _ => by cases hy; exact hSgp), h120, hlp, hst, _, _, _, _, rfl, rfl, k2 W3 k3.size (fun b hb => k3.block b (by omega) (fun e => hb.1.2 (Option.some.inj e))), k4⟩
    obtain ⟨s, hs⟩ : ∃ s, stE 1 p p.length = s := ⟨_, rfl⟩
    rw [hs] at HM HF hst ⊢
    have HI : Hid (∀ W, MineI W gp l.length → Calls Tryz.prog 36 #[.slice (some ⟨gp, 0, none⟩) l.length cb, .int .i64 s] W fun e w' => e = .returned (.int .i64 (s + l.length : Nat)) ∧ W.grownBy w' (some gp) ∧ Sl w' (some ⟨gp, 0, none⟩) l.length (marksI s l.length)) := fun W hW => markI_any gp l.length cb s W hW (by omega) (by omega)
    obtain ⟨q, hq⟩ : ∃ q : Nat, s + l.length = q := ⟨_, rfl⟩
    rw [hq] at HI ⊢
    have HWs : Hid (W1.heap.size = w.heap.size + 1) := hs1
    clear hM hM2 hMI hG hrow hSb hb1 hs h0 h120 hlp h3 hst hq hs1
    go_enter Tryz.func15, Tryz.ntmps15
    go_wp2_with fail
    (try rw [hW1])
    refine Calls.mono HM.out ?_
    rintro e w2 ⟨rfl, k2, k3⟩
    obtain ⟨q1, qM, _⟩ := HX.out w2 k2
    have HI2 := (show Hid _ from HI.out w2 qM)
    have HF2 := (show Hid _ from fun W3 => HF.out w2 W3 k2 k3)
    clear HM hW1 HX HI HF k2 k3 qM
    go_wp2_with fail
    refine Calls.mono HI2.out ?_
    rintro e w3 ⟨rfl, g3, s3⟩
    have HE := (show Hid _ from HF2.out w3 g3 s3)
    clear HI2 HF2 g3 s3
    go_wp2
    go_ret
    exact ⟨rfl, HE.out.1, HE.out.2⟩
end Go.Proofs.YtobgkfpjokfbaaaGreatDoor
namespace Go.Proofs.YtobgkfpjokfbaaaGreatDoor
open Go.ChangeShapes Go.WideShapes Go.ChangeAt Go.RowKit
set_option linter.unusedVariables false

def clsPu : Cls := fun g n kids => clsP g (n.1, n.2, kids)
theorem clsP_some {g : GS} {x : EN} {r : GS × Int} (h : clsP g x = some r) : r = putL g x ∧ ¬ (findL g.1 g.2 x = none ∧ g.1.length = 120) := by
  unfold clsP at h
  by_cases h0 : findL g.1 g.2 x = none ∧ g.1.length = 120
  · rw [if_pos h0] at h; cases h
  · rw [if_neg h0] at h; exact ⟨(Option.some.inj h).symm, h0⟩
theorem clsP_len {g : GS} {x : EN} {r : GS × Int} (h : clsP g x = some r) (h120 : g.1.length ≤ 120) : r.1.1.length ≤ 120 := by
  obtain ⟨h1, h2⟩ := clsP_some h
  rw [h1]
  cases hf : findL g.1 g.2 x with
  | some v => rw [putL_some hf]; exact h120
  | none =>
    rw [putL_none hf]
    simp only [List.length_append, List.length_singleton]
    have : g.1.length ≠ 120 := fun e => h2 ⟨hf, e⟩
    omega
theorem clsPu_keeps : Keeps clsPu := ⟨fun g n kids r hg h120 hf hr => by
  have hl := clsP_len hr h120
  have hp := putL_good hg (x := (n.1, n.2, kids)) hf.ok hf.cl
  rw [← (clsP_some hr).1] at hp
  exact ⟨hp.1, hp.2.1, hp.2.2.1, hl⟩⟩
theorem put_run : ∀ (t : List (Int × Int)) (g : GS) (Q : List Int), g.1.length ≤ 120 → runO clsPu t (g, Q) = if (runA none t (g, Q)).1.1.length ≤ 120 then some (runA none t (g, Q)) else none
  | [], g, Q, h => by
    show some (g, Q) = if g.1.length ≤ 120 then some (g, Q) else none
    rw [if_pos h]
  | n :: t, g, Q, h => by
    have e2 : stepA none (g, Q) n = ((putL g (n.1, n.2, Q.drop (Q.length - (ar n.1).toNat))).1, Q.take (Q.length - (ar n.1).toNat) ++ [(putL g (n.1, n.2, Q.drop (Q.length - (ar n.1).toNat))).2]) := rfl
    have hge := runA_ge t (stepA none (g, Q) n)
    show (stepO clsPu (g, Q) n).bind (runO clsPu t) = if (runA none t (stepA none (g, Q) n)).1.1.length ≤ 120 then some (runA none t (stepA none (g, Q) n)) else none
    cases hc : clsP g (n.1, n.2, Q.drop (Q.length - (ar n.1).toNat)) with
    | some r =>
      rw [stepO_some (cls := clsPu) hc]
      have hr := (clsP_some hc).1
      rw [e2, ← hr]
      exact put_run t r.1 _ (clsP_len hc h)
    | none =>
      rw [stepO_none (cls := clsPu) hc]
      have h0 : findL g.1 g.2 (n.1, n.2, Q.drop (Q.length - (ar n.1).toNat)) = none ∧ g.1.length = 120 := by
        unfold clsP at hc
        by_cases h0 : findL g.1 g.2 (n.1, n.2, Q.drop (Q.length - (ar n.1).toNat)) = none ∧ g.1.length = 120
        · exact h0
        · rw [if_neg h0] at hc; cases hc
      have hlen : (stepA none (g, Q) n).1.1.length = g.1.length + 1 := by rw [e2, putL_none h0.1]; simp
      rw [if_neg (by omega)]; rfl
theorem addT_run {p : List EN} {l : List Int} {t : List (Int × Int)} (hg : graphB p l = true) (ht : goodB t = true) : addT p l t = (runO clsPu t ((p, l), [])).map (fun r => (r.1, r.2.getD 0 0)) := by
  have h120 := ((graphB_good p l).1 hg).1
  unfold addT
  rw [hg, ht, put_run t (p, l) [] h120]
  simp only [Bool.and_self, if_pos]
  unfold roomA
  split <;> rfl
theorem addT_good {p : List EN} {l : List Int} {t : List (Int × Int)} {r : GS × Int} (h : addT p l t = some r) : GoodG r.1 ∧ 0 < r.1.1.length ∧ r.1.1.length ≤ 120 := by
  unfold addT at h
  by_cases hc : (graphB p l && goodB t) = true
  · rw [if_pos hc] at h
    rw [Bool.and_eq_true] at hc
    obtain ⟨hp, ht1, ht40⟩ := good_pile hc.2
    have hgood := ((graphB_good p l).1 hc.1).2
    have hr := runA_good (b := none) t (p, l) [] 1 hp hgood (fun c hc => by cases hc) (bok_none _ _)
    have hfr := (runA_frame none [] t (p, l) [] 1 hp).2
    unfold roomA at h
    by_cases h0 : (runA none t ((p, l), [])).1.1.length ≤ 120
    · rw [if_pos h0] at h
      cases h
      refine ⟨hr.1, ?_, h0⟩
      have hlen : (runA none t ((p, l), [])).2.length = 1 := by omega
      have hmem : (runA none t ((p, l), [])).2.getD 0 0 ∈ (runA none t ((p, l), [])).2 := by rw [getI_lt (by omega)]; exact List.getElem_mem _
      have := (hr.2.1 _ hmem)
      have h1 := this.1
      have h2 := this.2.1
      show 0 < (runA none t ((p, l), [])).1.1.length
      omega
    · rw [if_neg h0] at h; cases h
  · rw [if_neg hc] at h; cases h
set_option maxHeartbeats 1600000 in
theorem told_yes (s : Nat) (c : Int) (a b : Option Addr) (n ca n2 cb : Nat) (w : World) (h0 : w.cell? ⟨s, 0, none⟩ = some (.slice a n ca)) (h1 : w.cell? ⟨s, 1, none⟩ = some (.slice b n2 cb)) (hs : s < w.heap.size) :
    Calls Tryz.prog 60 #[.pointer (some ⟨s, 0, none⟩), .int .i64 c, .bool true] w fun e w' => e = .returned (.tuple #[.agg #[.slice a n ca, .slice b n2 cb], .int .i64 c, .bool true]) ∧ Below w.heap.size w w' := by
  have hne : ¬ s = w.heap.size := by omega
  have HB : Hid (∀ o v0 v1, Below w.heap.size w (((w.alloc o).setCell ⟨w.heap.size, 0, none⟩ v0).setCell ⟨w.heap.size, 1, none⟩ v1)) := fun o v0 v1 => (((Below.refl _ _).alloc (Nat.le_refl _) o).setCell (by show w.heap.size ≤ w.heap.size; omega) _).setCell (by show w.heap.size ≤ w.heap.size; omega) _
  have HB2 : Hid (∀ o, Below w.heap.size w (w.alloc o)) := fun o => (Below.refl _ _).alloc (Nat.le_refl _) o
  have d0 : ∀ o, (w.alloc o).cell? ⟨s, 0, none⟩ = some (.slice a n ca) := fun o => ((HB2.out o).cell (p := ⟨s, 0, none⟩) hs).trans h0
  have d1 : ∀ o, (w.alloc o).cell? ⟨s, 1, none⟩ = some (.slice b n2 cb) := fun o => ((HB2.out o).cell (p := ⟨s, 1, none⟩) hs).trans h1
  clear h0 h1
  go_enter Tryz.func60, Tryz.ntmps60
  go_wp2
  refine bodyPost_ret (v := .tuple #[.agg #[.slice a n ca, .slice b n2 cb], .int .i64 c, .bool true]) ?_ ?_ ?_
  · simp [results, Tryz.results60, go_sem, *]
  · rfl
  · exact ⟨rfl, by first | exact HB2.out _ | exact HB.out _ _ _⟩
set_option maxHeartbeats 1600000 in
theorem told_no (v : Value) (c : Int) (w : World) :
    Calls Tryz.prog 60 #[v, .int .i64 c, .bool false] w fun e w' => e = .returned (.tuple #[.agg #[.slice none 0 0, .slice none 0 0], .int .i64 0, .bool false]) ∧ Below w.heap.size w w' := by
  have HB : Hid (∀ o v0 v1, Below w.heap.size w (((w.alloc o).setCell ⟨w.heap.size, 0, none⟩ v0).setCell ⟨w.heap.size, 1, none⟩ v1)) := fun o v0 v1 => (((Below.refl _ _).alloc (Nat.le_refl _) o).setCell (by show w.heap.size ≤ w.heap.size; omega) _).setCell (by show w.heap.size ≤ w.heap.size; omega) _
  have HB2 : Hid (∀ o, Below w.heap.size w (w.alloc o)) := fun o => (Below.refl _ _).alloc (Nat.le_refl _) o
  go_enter Tryz.func60, Tryz.ntmps60
  go_wp2
  refine bodyPost_ret (v := .tuple #[.agg #[.slice none 0 0, .slice none 0 0], .int .i64 0, .bool false]) ?_ ?_ ?_
  · simp [results, Tryz.results60, go_sem, *]
  · rfl
  · exact ⟨rfl, by first | exact HB2.out _ | exact HB.out _ _ _⟩
end Go.Proofs.YtobgkfpjokfbaaaGreatDoor
namespace Go.Proofs.YtobgkfpjokfbaaaGreatDoor
open Go.ChangeShapes Go.WideShapes Go.ChangeAt Go.RowKit
set_option linter.unusedVariables false

end Go.Proofs.YtobgkfpjokfbaaaGreatDoor
