/-
  PROVED HERE: what the model's AddNode answers, at every graph and every node. No other condition.
-/
import Derived.Test.YtbmgflapagbkcaaDoorA6NodeP
import Derived.Test.YtbmgflapagbkcaaDoorE6Node
namespace Go.Proofs.YtbmgflapagbkcaaDoor
open Go.ChangeShapes Go.WideShapes Go.ChangeAt Go.RowKit
set_option linter.unusedVariables false

theorem box7 {Wa W5 w7 : World} {S : Nat → Prop} (h : Below (Wa.alloc (.cells #[.slice none 0 0, .slice none 0 0] 32)).heap.size (Wa.alloc (.cells #[.slice none 0 0, .slice none 0 0] 32)) W5) (hk : KB S W5 w7) (hn : ¬ S Wa.heap.size) : (w7.cell? ⟨Wa.heap.size, 0, none⟩ = some (.slice none 0 0) ∧ w7.cell? ⟨Wa.heap.size, 1, none⟩ = some (.slice none 0 0)) ∧ w7.frozen? ⟨Wa.heap.size, 0, none⟩ = false ∧ w7.frozen? ⟨Wa.heap.size, 1, none⟩ = false ∧ Wa.heap.size < W5.heap.size := by
  have hs : Wa.heap.size < (Wa.alloc (.cells #[.slice none 0 0, .slice none 0 0] 32)).heap.size := by simp
  have hs5 := h.size
  have hb : w7.heap[Wa.heap.size]? = (Wa.alloc (.cells #[.slice none 0 0, .slice none 0 0] 32)).heap[Wa.heap.size]? := (hk.block _ (by omega) hn).trans (h.block _ hs)
  exact ⟨⟨(World.cell?_of_block (a := ⟨Wa.heap.size, 0, none⟩) hb).trans (by simp [go_sem]), (World.cell?_of_block (a := ⟨Wa.heap.size, 1, none⟩) hb).trans (by simp [go_sem])⟩, (World.frozen?_of_block (a := ⟨Wa.heap.size, 0, none⟩) hb).trans (by simp [go_sem]), (World.frozen?_of_block (a := ⟨Wa.heap.size, 1, none⟩) hb).trans (by simp [go_sem]), by omega⟩
/-- Where the region ends: the graph lies apart from all that was there, and the box at bx holds it. -/
def EndA (W1 w8 : World) (bx : Nat) (a6 : Option Addr) (ca6 : Nat) (b6 : Option Addr) (cb6 : Nat) (R : GS) : Prop :=
  Below W1.heap.size W1 w8 ∧ GOwn w8 false (fun x => W1.heap.size ≤ x) (.slice a6 R.1.length ca6) (.slice b6 R.2.length cb6) R ∧ ESl w8 a6 R.1.length R.1 ∧ Sl w8 b6 R.2.length R.2 ∧ (w8.cell? ⟨bx, 0, none⟩ = some (.slice a6 R.1.length ca6) ∧ w8.cell? ⟨bx, 1, none⟩ = some (.slice b6 R.2.length cb6)) ∧ bx < w8.heap.size
theorem end_of {W1 w8 : World} {bx : Nat} {a6 : Option Addr} {ca6 : Nat} {b6 : Option Addr} {cb6 : Nat} {R : GS} (h1 : Below W1.heap.size W1 w8) (h2 : GOwn w8 false (fun x => W1.heap.size ≤ x) (.slice a6 R.1.length ca6) (.slice b6 R.2.length cb6) R) (h3 : w8.cell? ⟨bx, 0, none⟩ = some (.slice a6 R.1.length ca6) ∧ w8.cell? ⟨bx, 1, none⟩ = some (.slice b6 R.2.length cb6)) (h4 : bx < w8.heap.size) : EndA W1 w8 bx a6 ca6 b6 cb6 R := by
  obtain ⟨a', ca', b', cb', e1, e2, hE, hL⟩ := h2.reads
  injection e1 with e1 _ _
  injection e2 with e2 _ _
  subst e1
  subst e2
  exact ⟨h1, h2, hE, hL, h3, h4⟩
theorem end_alloc {W1 w7 : World} {S : Nat → Prop} {a6 : Option Addr} {ca6 : Nat} {b6 : Option Addr} {cb6 : Nat} {R : GS} (hB : Below W1.heap.size W1 w7) (hG : GOwn w7 false S (.slice a6 R.1.length ca6) (.slice b6 R.2.length cb6) R) (hS : ∀ b', S b' → b' < w7.heap.size → W1.heap.size ≤ b') :
    EndA W1 (w7.alloc (.cells #[.slice a6 R.1.length ca6, .slice b6 R.2.length cb6] 32)) w7.heap.size a6 ca6 b6 cb6 R := by
  have hb : Below w7.heap.size w7 (w7.alloc (.cells #[.slice a6 R.1.length ca6, .slice b6 R.2.length cb6] 32)) := (Below.refl _ _).alloc (Nat.le_refl _) _
  exact end_of (hB.trans (hb.mono hB.size)) ((hG.sets (fun b hl h => hS b h hl)).keep hb) ⟨by simp [go_sem], by simp [go_sem]⟩ (by simp)
theorem end_set {W1 w7 : World} {bx : Nat} {S : Nat → Prop} {a6 : Option Addr} {ca6 : Nat} {b6 : Option Addr} {cb6 : Nat} {R : GS} {u0 u1 : Value} (hB : Below W1.heap.size W1 w7) (hG : GOwn w7 false S (.slice a6 R.1.length ca6) (.slice b6 R.2.length cb6) R) (hS : ∀ b', S b' → b' < w7.heap.size → bx ≠ b' ∧ W1.heap.size ≤ b')
    (p0 : w7.cell? ⟨bx, 0, none⟩ = some u0) (p1 : w7.cell? ⟨bx, 1, none⟩ = some u1) (h1 : W1.heap.size ≤ bx) (h2 : bx < w7.heap.size) :
    EndA W1 ((w7.setCell ⟨bx, 0, none⟩ (.slice a6 R.1.length ca6)).setCell ⟨bx, 1, none⟩ (.slice b6 R.2.length cb6)) bx a6 ca6 b6 cb6 R := by
  have hs : ((w7.setCell ⟨bx, 0, none⟩ (.slice a6 R.1.length ca6)).setCell ⟨bx, 1, none⟩ (.slice b6 R.2.length cb6)).heap.size = w7.heap.size := by rw [setCell_size, setCell_size]
  refine end_of ((hB.setCell h1 _).setCell h1 _) (hG.map (by rw [hs]; exact Nat.le_refl _) (fun b hb hl => by rw [setCell_block _ _ _ (hS b hb hl).1, setCell_block _ _ _ (hS b hb hl).1]) (fun b hl hb => (hS b hb hl).2)) ⟨?_, ?_⟩ (by omega)
  · rw [World.cell?_setCell_other _ _ _ _ (fun e => by injection e with _ e _; exact absurd e (by decide))]
    exact World.cell?_setCell_same _ _ _ p0
  · refine World.cell?_setCell_same _ _ _ (u := u1) ?_
    rw [World.cell?_setCell_other _ _ _ _ (fun e => by injection e with _ e _; exact absurd e (by decide))]
    exact p1
/-- What holds of each world behind it. -/
def EndB (w W : World) (bx : Nat) (a6 : Option Addr) (ca6 : Nat) (b6 : Option Addr) (cb6 : Nat) (R : GS) : Prop :=
  (W.cell? ⟨w.heap.size + 1 + 1, 0, none⟩ = some (.slice none 0 0) ∧ W.cell? ⟨w.heap.size + 1 + 1, 1, none⟩ = some (.slice none 0 0) ∧ W.frozen? ⟨w.heap.size + 1 + 1, 0, none⟩ = false ∧ W.frozen? ⟨w.heap.size + 1 + 1, 1, none⟩ = false) ∧ (W.cell? ⟨bx, 0, none⟩ = some (.slice a6 R.1.length ca6) ∧ W.cell? ⟨bx, 1, none⟩ = some (.slice b6 R.2.length cb6)) ∧
  ∀ v0 v1, GOwn ((W.setCell ⟨w.heap.size + 1 + 1, 0, none⟩ v0).setCell ⟨w.heap.size + 1 + 1, 1, none⟩ v1) false (fun x => w.heap.size ≤ x) (.slice a6 R.1.length ca6) (.slice b6 R.2.length cb6) R ∧ Below w.heap.size w ((W.setCell ⟨w.heap.size + 1 + 1, 0, none⟩ v0).setCell ⟨w.heap.size + 1 + 1, 1, none⟩ v1)
theorem end_b {w W1 w8 : World} {bx : Nat} {a6 : Option Addr} {ca6 : Nat} {b6 : Option Addr} {cb6 : Nat} {R : GS} {P : World → Prop} (hE : EndA W1 w8 bx a6 ca6 b6 cb6 R)
    (hC : ∀ W, Below W1.heap.size W1 W → P W ∧ (W.cell? ⟨w.heap.size + 1 + 1, 0, none⟩ = some (.slice none 0 0) ∧ W.cell? ⟨w.heap.size + 1 + 1, 1, none⟩ = some (.slice none 0 0) ∧ W.frozen? ⟨w.heap.size + 1 + 1, 0, none⟩ = false ∧ W.frozen? ⟨w.heap.size + 1 + 1, 1, none⟩ = false) ∧ ∀ v0 v1, Below w.heap.size w ((W.setCell ⟨w.heap.size + 1 + 1, 0, none⟩ v0).setCell ⟨w.heap.size + 1 + 1, 1, none⟩ v1))
    (hZ : w.heap.size + 3 = W1.heap.size) (W : World) (hW : Below w8.heap.size w8 W) : EndB w W bx a6 ca6 b6 cb6 R := by
  obtain ⟨hB, hG, _, _, ⟨x0, x1⟩, hx⟩ := hE
  obtain ⟨-, y, z⟩ := hC W (hB.trans (hW.mono hB.size))
  refine ⟨y, ⟨(hW.cell (p := ⟨bx, 0, none⟩) hx).trans x0, (hW.cell (p := ⟨bx, 1, none⟩) hx).trans x1⟩, fun v0 v1 => ⟨?_, z v0 v1⟩⟩
  refine (hG.keep hW).map (by rw [setCell_size, setCell_size]; exact Nat.le_refl _) (fun b' hb' hl => ?_) (fun b' hl hb' => ?_)
  · have hne : w.heap.size + 1 + 1 ≠ b' := by
      have : W1.heap.size ≤ b' := hb'
      omega
    rw [setCell_block _ _ _ hne, setCell_block _ _ _ hne]
  · have : W1.heap.size ≤ b' := hb'
    show w.heap.size ≤ b'
    omega
set_option maxHeartbeats 3200000 in
set_option maxRecDepth 20000 in
theorem specAddNode_any (a b : Option Addr) (len cap lb cb : Nat) (p : List EN) (l : List Int) (op n : Int) (ka : Option Addr) (kl kc : Nat) (kids : List Int) (w : World) (h : ESl w a len p) (hl : Sl w b lb l) (hk : Sl w ka kl kids) (hn : InI n) (hm : len ≤ 9223372036854775807) (hm2 : lb ≤ 9223372036854775807) (hm3 : kl ≤ 9223372036854775807) :
    Calls Tryd.prog 8 #[.agg #[.slice a len cap, .slice b lb cb], .agg #[.int .i64 op, .int .i64 n, .slice ka kl kc]] w fun e w' => ∃ va vb, e = .returned (.tuple #[.agg #[va, vb], .int .i64 (ansC (addN p l op n kids)), .bool (addN p l op n kids).isSome]) ∧ GOwn w' false (fun x => w.heap.size ≤ x) va vb (ansG (addN p l op n kids)) ∧ Below w.heap.size w w' := by
  have hll := h.1
  have hl1 := hl.1
  have hkl := hk.1
  obtain ⟨W1, hW1⟩ : ∃ W1, ((w.alloc (.cells #[.slice a len cap, .slice b lb cb] 32)).alloc (.cells #[.int .i64 op, .int .i64 n, .slice ka kl kc] 36)).alloc (.cells #[.slice none 0 0, .slice none 0 0] 32) = W1 := ⟨_, rfl⟩
  have hb1 : Below w.heap.size w W1 := by rw [← hW1]; exact (((Below.refl _ _).alloc (Nat.le_refl _) _).alloc (by simp) _).alloc (by simp; omega) _
  have hs1 : W1.heap.size = w.heap.size + 3 := by rw [← hW1]; simp
  have n0 : W1.cell? ⟨w.heap.size, 0, none⟩ = some (.slice a len cap) := by rw [← hW1]; simp [go_sem]
  have n1 : W1.cell? ⟨w.heap.size, 1, none⟩ = some (.slice b lb cb) := by rw [← hW1]; simp [go_sem]
  have m0 : W1.cell? ⟨w.heap.size + 1, 0, none⟩ = some (.int .i64 op) := by rw [← hW1]; simp [go_sem]
  have m1 : W1.cell? ⟨w.heap.size + 1, 1, none⟩ = some (.int .i64 n) := by rw [← hW1]; simp [go_sem]
  have m2 : W1.cell? ⟨w.heap.size + 1, 2, none⟩ = some (.slice ka kl kc) := by rw [← hW1]; simp [go_sem]
  have r0 : W1.cell? ⟨w.heap.size + 1 + 1, 0, none⟩ = some (.slice none 0 0) := by rw [← hW1]; simp [go_sem]
  have r1 : W1.cell? ⟨w.heap.size + 1 + 1, 1, none⟩ = some (.slice none 0 0) := by rw [← hW1]; simp [go_sem]
  have f0 : W1.frozen? ⟨w.heap.size + 1 + 1, 0, none⟩ = false := by rw [← hW1]; simp [go_sem]
  have f1 : W1.frozen? ⟨w.heap.size + 1 + 1, 1, none⟩ = false := by rw [← hW1]; simp [go_sem]
  have HG := (show Hid _ from specGraph_any a b len cap lb cb p l W1 (h.keep hb1) (hl.keep hb1) hm hm2)
  have HNo : Hid (∀ W, Calls Tryd.prog 31 #[.agg #[.int .i64 op, .int .i64 n, .slice ka kl kc]] W fun e w' => e = .returned (.bool (nodeOk op n kids.length)) ∧ Below W.heap.size W w') := fun W => by rw [hkl]; exact node_any op n ka kl kc W
  have HAl : Hid (∀ W, Below W1.heap.size W1 W → Calls Tryd.prog 32 #[.slice ka kl kc, .int .i64 0, .int .i64 ((len : Int) - 1)] W fun e w' => e = .returned (.bool (kidsB kids 0 ((p.length : Int) - 1))) ∧ w' = W) := fun W hW => by rw [hll]; exact kidsAll_any ka kl kc kids 0 _ W ((hk.keep hb1).keep hW) hm3
  have HC : Hid (∀ W, Below W1.heap.size W1 W → (W.cell? ⟨w.heap.size, 0, none⟩ = some (.slice a len cap) ∧ W.cell? ⟨w.heap.size, 1, none⟩ = some (.slice b lb cb) ∧ W.cell? ⟨w.heap.size + 1, 0, none⟩ = some (.int .i64 op) ∧ W.cell? ⟨w.heap.size + 1, 1, none⟩ = some (.int .i64 n) ∧ W.cell? ⟨w.heap.size + 1, 2, none⟩ = some (.slice ka kl kc)) ∧ (W.cell? ⟨w.heap.size + 1 + 1, 0, none⟩ = some (.slice none 0 0) ∧ W.cell? ⟨w.heap.size + 1 + 1, 1, none⟩ = some (.slice none 0 0) ∧ W.frozen? ⟨w.heap.size + 1 + 1, 0, none⟩ = false ∧ W.frozen? ⟨w.heap.size + 1 + 1, 1, none⟩ = false) ∧ ∀ v0 v1, Below w.heap.size w ((W.setCell ⟨w.heap.size + 1 + 1, 0, none⟩ v0).setCell ⟨w.heap.size + 1 + 1, 1, none⟩ v1)) := fun W hW => by
    have hX := hb1.trans (hW.mono hb1.size)
    exact ⟨⟨(hW.cell (p := ⟨w.heap.size, 0, none⟩) (by show w.heap.size < _; omega)).trans n0, (hW.cell (p := ⟨w.heap.size, 1, none⟩) (by show w.heap.size < _; omega)).trans n1, (hW.cell (p := ⟨w.heap.size + 1, 0, none⟩) (by show w.heap.size + 1 < _; omega)).trans m0, (hW.cell (p := ⟨w.heap.size + 1, 1, none⟩) (by show w.heap.size + 1 < _; omega)).trans m1, (hW.cell (p := ⟨w.heap.size + 1, 2, none⟩) (by show w.heap.size + 1 < _; omega)).trans m2⟩, ⟨(hW.cell (p := ⟨w.heap.size + 1 + 1, 0, none⟩) (by show w.heap.size + 1 + 1 < _; omega)).trans r0, (hW.cell (p := ⟨w.heap.size + 1 + 1, 1, none⟩) (by show w.heap.size + 1 + 1 < _; omega)).trans r1, (hW.frozen (p := ⟨w.heap.size + 1 + 1, 0, none⟩) (by show w.heap.size + 1 + 1 < _; omega)).trans f0, (hW.frozen (p := ⟨w.heap.size + 1 + 1, 1, none⟩) (by show w.heap.size + 1 + 1 < _; omega)).trans f1⟩, fun v0 v1 => (hX.setCell (by show w.heap.size ≤ w.heap.size + 1 + 1; omega) _).setCell (by show w.heap.size ≤ w.heap.size + 1 + 1; omega) _⟩
  unfold addN
  cases hgb : graphB p l with
  | false =>
    rw [hgb] at HG
    rw [Bool.false_and, if_neg (by decide)]
    clear h hl hk hb1 hs1 r0 r1 f0 f1 HNo HAl m0 m1 m2
    go_enter Tryd.func8, Tryd.ntmps8
    go_wp2_with fail
    (try rw [hW1])
    refine Calls.mono HG.out ?_
    rintro e w2 ⟨rfl, hb2⟩
    obtain ⟨-, ⟨y0, y1, y2, y3⟩, hfin⟩ := HC.out w2 hb2
    have HF := (show Hid _ from hfin)
    clear HG hW1 HC hb2 hfin
    go_wp2
    refine bodyPost_ret (v := .tuple #[.agg #[.slice none 0 0, .slice none 0 0], .int .i64 0, .bool false]) ?_ ?_ ?_
    · simp [results, Tryd.results8, go_sem, *]
    · rfl
    · exact ⟨_, _, rfl, gown_nil _ _ _, HF.out _ _⟩
  | true =>
    rw [hgb] at HG
    rw [Bool.true_and]
    cases hno : nodeOk op n kids.length with
    | false =>
      rw [hno] at HNo
      rw [Bool.false_and, if_neg (by decide)]
      clear h hl hk hb1 hs1 r0 r1 f0 f1 HAl
      go_enter Tryd.func8, Tryd.ntmps8
      go_wp2_with fail
      (try rw [hW1])
      refine Calls.mono HG.out ?_
      rintro e w2 ⟨rfl, hb2⟩
      obtain ⟨⟨c0, c1, c2, c3, c4⟩, -, -⟩ := HC.out w2 hb2
      have HB2 := (show Hid _ from hb2)
      clear HG hW1 hb2
      go_wp2_with fail
      refine Calls.mono (HNo.out _) ?_
      rintro e w3 ⟨rfl, hb3⟩
      obtain ⟨-, ⟨y0, y1, y2, y3⟩, hfin⟩ := HC.out w3 (HB2.out.trans (hb3.mono HB2.out.size))
      have HF := (show Hid _ from hfin)
      clear HNo HC hb3 hfin c0 c1 c2 c3 c4
      go_wp2
      refine bodyPost_ret (v := .tuple #[.agg #[.slice none 0 0, .slice none 0 0], .int .i64 0, .bool false]) ?_ ?_ ?_
      · simp [results, Tryd.results8, go_sem, *]
      · rfl
      · exact ⟨_, _, rfl, gown_nil _ _ _, HF.out _ _⟩
    | true =>
      rw [hno] at HNo
      rw [Bool.true_and]
      cases hkb : kidsB kids 0 ((p.length : Int) - 1) with
      | false =>
        rw [hkb] at HAl
        rw [if_neg (by decide)]
        clear h hl hk hb1 hs1 r0 r1 f0 f1
        go_enter Tryd.func8, Tryd.ntmps8
        go_wp2_with fail
        (try rw [hW1])
        refine Calls.mono HG.out ?_
        rintro e w2 ⟨rfl, hb2⟩
        obtain ⟨⟨c0, c1, c2, c3, c4⟩, -, -⟩ := HC.out w2 hb2
        have HB2 := (show Hid _ from hb2)
        clear HG hW1 hb2
        go_wp2_with fail
        refine Calls.mono (HNo.out _) ?_
        rintro e w3 ⟨rfl, hb3⟩
        have hB3 := HB2.out.trans (hb3.mono HB2.out.size)
        obtain ⟨⟨d0, d1, d2, d3, d4⟩, -, -⟩ := HC.out w3 hB3
        have HA3 := (show Hid _ from HAl.out w3 hB3)
        have HB3 := (show Hid _ from hB3)
        clear HNo hb3 c0 c1 c2 c3 c4 hB3 HB2 HAl
        go_wp2_with fail
        refine Calls.mono HA3.out ?_
        rintro e w4 ⟨rfl, rfl⟩
        obtain ⟨-, ⟨y0, y1, y2, y3⟩, hfin⟩ := HC.out w4 HB3.out
        have HF := (show Hid _ from hfin)
        clear HA3 HC hfin d0 d1 d2 d3 d4
        go_wp2
        refine bodyPost_ret (v := .tuple #[.agg #[.slice none 0 0, .slice none 0 0], .int .i64 0, .bool false]) ?_ ?_ ?_
        · simp [results, Tryd.results8, go_sem, *]
        · rfl
        · exact ⟨_, _, rfl, gown_nil _ _ _, HF.out _ _⟩
      | true =>
        rw [hkb] at HAl
        rw [if_pos rfl]
        obtain ⟨h120, hgood⟩ := (graphB_good p l).1 hgb
        have hlp := hgood.2.1
        simp only at hlp
        have hfit := addN_fits (l := l) hno hkb hn
        have har := nodeOk_ar hno
        have hpg := putL_good hgood (x := (op, n, kidsL l kids)) (fits_ok hfit) (kidsL_cl hgood hfit)
        have hpl := putL_len (p, l) (op, n, kidsL l kids)
        obtain ⟨R, hR⟩ : ∃ R, putL (p, l) (op, n, kidsL l kids) = R := ⟨_, rfl⟩
        have HPu : Hid (∀ (s3 : Nat) (W4 W5 : World) (va vb kv : Value), GOwn W4 false (fun x => s3 ≤ x) va vb (p, l) → s3 ≤ W4.heap.size → Below W4.heap.size W4 W5 → W5.ownsRow W4.heap.size 3 1 kv kl (vals (kidsL l kids)) → Calls Tryd.prog 33 #[.agg #[va, vb], .agg #[.int .i64 op, .int .i64 n, kv]] W5 fun e w' => ∃ va' vb', e = .returned (.tuple #[.agg #[va', vb'], .int .i64 R.2]) ∧ GOwn w' false (fun b' => (s3 ≤ b' ∧ b' < W4.heap.size) ∨ W5.heap.size ≤ b' ∨ kv.ownBlock = some b') va' vb' R.1 ∧ KB (fun x => s3 ≤ x ∧ x < W4.heap.size) W5 w') := fun s3 W4 W5 va vb kv g1 g2 g4 g3 => by
          have hkk : (kidsL l kids).length = kl := by rw [kidsL_len]; exact hkl
          have hG5 : GOwn W5 false (fun x => s3 ≤ x ∧ x < W4.heap.size) va vb (p, l) := (g1.sets (S' := fun x => s3 ≤ x ∧ x < W4.heap.size) (fun b hb h => ⟨h, hb⟩)).keep g4
          have hkd := kid_of (lo := W4.heap.size) (l := kidsL l kids) (by rw [hkk]; exact g3) (by omega)
          refine (l6Put_any va vb kv (p, l) (op, n, kidsL l kids) _ W5 hG5 hgood (hkd.map (Nat.le_refl _) (fun _ _ _ => rfl) (fun y hy hl h0 h1 => by omega)) (by simp only; omega)).mono ?_
          rw [hR]
          exact fun e w' h => h
        rw [hR] at hpg hpl ⊢
        have hgr := graphB_of hpg.1
        simp only at hpl
        have HO : Hid (∀ W, Below W1.heap.size W1 W → Calls Tryd.prog 34 #[.agg #[.slice a len cap, .slice b lb cb]] W fun e w' => ∃ va vb, e = .returned (.agg #[va, vb]) ∧ GOwn w' false (fun x => W.heap.size ≤ x) va vb (p, l) ∧ Below W.heap.size W w') := fun W hW => l6Own_any a b len cap lb cb p l W ((h.keep hb1).keep hW) ((hl.keep hb1).keep hW) (by omega) (by omega) (fun i hi => good_few hgood i (by simp only; omega))
        have HKi : Hid (∀ W, Below W1.heap.size W1 W → Calls Tryd.prog 35 #[.slice b lb cb, .slice ka kl kc] W fun e w' => ∃ v : Value, e = .returned v ∧ w'.ownsRow W.heap.size 3 1 v kl (vals (kidsL l kids)) ∧ Below W.heap.size W w') := fun W hW => spKids_any b ka lb cb kl kc l kids W ((hl.keep hb1).keep hW) ((hk.keep hb1).keep hW) (by omega) (fun i hi => by
          obtain ⟨y, e1, e2⟩ := hfit.rng i (by omega)
          exact ⟨y, e1, by simp only at e2; omega⟩)
        have HG2 : Hid (∀ (W : World) (a6 b6 : Option Addr) (ca6 cb6 : Nat), ESl W a6 R.1.1.length R.1.1 → Sl W b6 R.1.2.length R.1.2 → Calls Tryd.prog 30 #[.agg #[.slice a6 R.1.1.length ca6, .slice b6 R.1.2.length cb6]] W fun e w' => e = .returned (.bool (decide (R.1.1.length ≤ 120))) ∧ Below W.heap.size W w') := fun W a6 b6 ca6 cb6 e1 e2 => by
          have := specGraph_any a6 b6 R.1.1.length ca6 R.1.2.length cb6 R.1.1 R.1.2 W e1 e2 (by omega) (by have := hpg.1.2.1; omega)
          rw [hgr] at this
          exact this
        have HZ : Hid (w.heap.size + 3 = W1.heap.size) := hs1.symm
        clear h hl hk hb1 hs1 r0 r1 f0 f1 hpg hpl hgr hR hgood hlp hgb hno hkb hfit har
        by_cases h00 : R.1.1.length ≤ 120
        · rw [if_pos h00]
          rw [decide_eq_true h00] at HG2
          go_enter Tryd.func8, Tryd.ntmps8
          go_wp2_with fail
          (try rw [hW1])
          refine Calls.mono HG.out ?_
          rintro e w2 ⟨rfl, hb2⟩
          obtain ⟨⟨c0, c1, c2, c3, c4⟩, -, -⟩ := HC.out w2 hb2
          have HB2 := (show Hid _ from hb2)
          clear HG hW1 hb2
          go_wp2_with fail
          refine Calls.mono (HNo.out _) ?_
          rintro e w3 ⟨rfl, hb3⟩
          have hB3 := HB2.out.trans (hb3.mono HB2.out.size)
          obtain ⟨⟨d0, d1, d2, d3, d4⟩, -, -⟩ := HC.out w3 hB3
          have HA3 := (show Hid _ from HAl.out w3 hB3)
          have HB3 := (show Hid _ from hB3)
          clear HNo hb3 c0 c1 c2 c3 c4 hB3 HB2 HAl
          go_wp2_with fail
          refine Calls.mono HA3.out ?_
          rintro e w4 ⟨rfl, rfl⟩
          have hBd : Below W1.heap.size W1 w4.drew := HB3.out.drew
          have zD := (HC.out w4.drew hBd).1
          have hBdA : Below W1.heap.size W1 (w4.drew.alloc (.cells #[.slice none 0 0, .slice none 0 0] 32)) := hBd.alloc hBd.size _
          have sA := fun o : Obj => (HC.out (w4.drew.alloc o) (hBd.alloc hBd.size o)).1
          clear HA3 d0 d1 d2 d3 d4
          go_wp2_with fail
          go_region_held3 (fun w' => w'.cell? ⟨w.heap.size, 0, none⟩ = some (.slice a len cap) ∧ w'.cell? ⟨w.heap.size, 1, none⟩ = some (.slice b lb cb) ∧ w'.cell? ⟨w.heap.size + 1, 0, none⟩ = some (.int .i64 op) ∧ w'.cell? ⟨w.heap.size + 1, 1, none⟩ = some (.int .i64 n) ∧ w'.cell? ⟨w.heap.size + 1, 2, none⟩ = some (.slice ka kl kc))
            (first | assumption | exact sA _ | exact sB _ | exact sC _ | exact sE _ | exact sS _ _)
            (first
            | (go_at_call 34; first
                | (refine Calls.mono (HO.out w4.drew hBd) ?_; rintro r w5 ⟨va, vb, rfl, hG5, hb5⟩; have hB5 : Below W1.heap.size W1 w5 := hBd.trans (hb5.mono hBd.size); have h35 : w4.drew.heap.size ≤ w5.heap.size := hb5.size; have z5 := (HC.out w5 hB5).1; have sB := fun o : Obj => (HC.out (w5.alloc o) (hB5.alloc hB5.size o)).1; have HP5 := (show Hid _ from fun W5 kv => HPu.out w4.drew.heap.size w5 W5 va vb kv hG5 h35); clear hG5 hb5)
                | (refine Calls.mono (HO.out (w4.drew.alloc (.cells #[.slice none 0 0, .slice none 0 0] 32)) hBdA) ?_; rintro r w5 ⟨va, vb, rfl, hG5, hb5⟩; have hB5 : Below W1.heap.size W1 w5 := hBdA.trans (hb5.mono hBdA.size); have h35 : (w4.drew.alloc (.cells #[.slice none 0 0, .slice none 0 0] 32)).heap.size ≤ w5.heap.size := hb5.size; have z5 := (HC.out w5 hB5).1; have HP5 := (show Hid _ from fun W5 kv => HPu.out (w4.drew.alloc (.cells #[.slice none 0 0, .slice none 0 0] 32)).heap.size w5 W5 va vb kv hG5 h35); have wayA : 1 = 1 := rfl; clear hG5))
            | (go_at_call 35; first
                | (refine Calls.mono (HKi.out w5 hB5) ?_; rintro r w6 ⟨kv, rfl, hr6, hb6⟩; obtain ⟨kva, kvc, rfl, _⟩ := row_slice hr6; have hB6 : Below W1.heap.size W1 w6 := hB5.trans (hb6.mono hB5.size); have z6 := (HC.out w6 hB6).1; have sC := fun o : Obj => (HC.out (w6.alloc o) (hB6.alloc hB6.size o)).1)
                | (refine Calls.mono (HKi.out (w5.alloc (.cells #[.slice none 0 0, .slice none 0 0] 32)) (hB5.alloc hB5.size _)) ?_; rintro r w6 ⟨kv, rfl, hr6, hb6a⟩; obtain ⟨kva, kvc, rfl, _⟩ := row_slice hr6; have hB6 : Below W1.heap.size W1 w6 := (hB5.alloc hB5.size _).trans (hb6a.mono (hB5.alloc hB5.size _).size); have z6 := (HC.out w6 hB6).1))
            | (go_at_call 33; have hd0 := hBd.size; have hd1 := hBdA.size; have hd2 : (w4.drew.alloc (.cells #[.slice none 0 0, .slice none 0 0] 32)).heap.size = w4.drew.heap.size + 1 := (by simp); first
                | (refine Calls.mono (HP5.out w6 _ hb6 hr6) ?_; rintro r w7 ⟨va', vb', rfl, hG7, hk7⟩; obtain ⟨a6, ca6, b6, cb6, rfl, rfl, hE7, hL7⟩ := hG7.reads; have hB7 : Below W1.heap.size W1 w7 := hB6.trans (hk7.below (n := W1.heap.size) (fun x _ h => by omega) hB6.size); have z7 := (HC.out w7 hB7).1; first
                    | (revert wayA; intro wayA; obtain ⟨⟨p0', p1'⟩, p2', p3', p4'⟩ := box7 (hb5.trans (hb6.mono hb5.size)) hk7 (by omega); have p0 : w7.cell? ⟨w4.heap.size, 0, none⟩ = some (.slice none 0 0) := p0'; have p1 : w7.cell? ⟨w4.heap.size, 1, none⟩ = some (.slice none 0 0) := p1'; have p2 : w7.frozen? ⟨w4.heap.size, 0, none⟩ = false := p2'; have p3 : w7.frozen? ⟨w4.heap.size, 1, none⟩ = false := p3'; have hd9 : W1.heap.size ≤ w4.heap.size := hd0; have sS := fun v0 v1 : Value => (HC.out ((w7.setCell ⟨w4.heap.size, 0, none⟩ v0).setCell ⟨w4.heap.size, 1, none⟩ v1) ((hB7.setCell (by show W1.heap.size ≤ w4.heap.size; omega) _).setCell (by show W1.heap.size ≤ w4.heap.size; omega) _)).1; have hA1 : True := trivial)
                    | (have sE := fun o : Obj => (HC.out (w7.alloc o) (hB7.alloc hB7.size o)).1))
                | (refine Calls.mono (HP5.out w6 _ (((Below.refl _ _).alloc (Nat.le_refl _) _).trans (hb6a.mono (by simp))) (own_base hr6 (by simp))) ?_; rintro r w7 ⟨va', vb', rfl, hG7, hk7⟩; obtain ⟨a6, ca6, b6, cb6, rfl, rfl, hE7, hL7⟩ := hG7.reads; have hB7 : Below W1.heap.size W1 w7 := hB6.trans (hk7.below (n := W1.heap.size) (fun x _ h => by omega) hB6.size); have z7 := (HC.out w7 hB7).1; obtain ⟨⟨p0, p1⟩, p2, p3, p4⟩ := box7 hb6a hk7 (by omega); have hd5 := hB5.size; have sS := fun v0 v1 : Value => (HC.out ((w7.setCell ⟨w5.heap.size, 0, none⟩ v0).setCell ⟨w5.heap.size, 1, none⟩ v1) ((hB7.setCell (by show W1.heap.size ≤ w5.heap.size; omega) _).setCell (by show W1.heap.size ≤ w5.heap.size; omega) _)).1)
                | (refine Calls.mono (HP5.out (w6.alloc (.cells #[.slice none 0 0, .slice none 0 0] 32)) _ (hb6.alloc hb6.size _) (hr6.alloc _)) ?_; have hB6a := hB6.alloc hB6.size (.cells #[.slice none 0 0, .slice none 0 0] 32); rintro r w7 ⟨va', vb', rfl, hG7, hk7⟩; obtain ⟨a6, ca6, b6, cb6, rfl, rfl, hE7, hL7⟩ := hG7.reads; have hB7 : Below W1.heap.size W1 w7 := hB6a.trans (hk7.below (n := W1.heap.size) (fun x _ h => by omega) hB6a.size); have z7 := (HC.out w7 hB7).1; obtain ⟨⟨p0, p1⟩, p2, p3, p4⟩ := box7 (Below.refl _ _) hk7 (by have := hb6.size; omega); have hd6 := hB6.size; have sS := fun v0 v1 : Value => (HC.out ((w7.setCell ⟨w6.heap.size, 0, none⟩ v0).setCell ⟨w6.heap.size, 1, none⟩ v1) ((hB7.setCell (by show W1.heap.size ≤ w6.heap.size; omega) _).setCell (by show W1.heap.size ≤ w6.heap.size; omega) _)).1)))
          · have HE : Hid (EndA W1 (w7.alloc (.cells #[.slice a6 R.1.1.length ca6, .slice b6 R.1.2.length cb6] 32)) w7.heap.size a6 ca6 b6 cb6 R.1) := by have q0 := hb6.size; exact end_alloc hB7 hG7 (fun b' hb' hl => by rcases hb' with h | h | h <;> first | (have := hr6.lt b' h; omega) | omega)
            obtain ⟨w8, hw8⟩ : ∃ w8, w7.alloc (.cells #[.slice a6 R.1.1.length ca6, .slice b6 R.1.2.length cb6] 32) = w8 := ⟨_, rfl⟩
            obtain ⟨bx, hbx⟩ : ∃ bx, w7.heap.size = bx := ⟨_, rfl⟩
            rw [hw8, hbx] at HE
            have HFN : Hid (∀ W, Below w8.heap.size w8 W → EndB w W bx a6 ca6 b6 cb6 R.1) := fun W hW => end_b HE.out (fun W hW => HC.out W hW) HZ.out W hW
            have HG8 := (show Hid _ from HG2.out w8 a6 b6 ca6 cb6 HE.out.2.2.1 HE.out.2.2.2.1)
            obtain ⟨x0, x1⟩ := HE.out.2.2.2.2.1
            rw [hw8, hbx]
            clear hG7 hk7 hE7 hL7 hB7 z7 hr6 hB6 z6 hB5 z5 h35 HP5 hBd hBdA zD sA HE HO HKi HPu HG2 HC hw8 hbx
            (try clear hb6)
            (try clear hb6a)
            (try clear hb5)
            (try clear sB)
            (try clear sC)
            (try clear sE)
            (try clear sS)
            go_wp2_with fail
            refine Calls.mono HG8.out ?_
            rintro e w9 ⟨rfl, hb9⟩
            obtain ⟨⟨y0, y1, y2, y3⟩, ⟨y4, y5⟩, hfin⟩ := HFN.out w9 hb9
            have HF := (show Hid _ from hfin)
            clear HG8 HFN hb9 hfin x0 x1
            go_wp2
            refine bodyPost_ret (v := .tuple #[.agg #[.slice a6 R.1.1.length ca6, .slice b6 R.1.2.length cb6], .int .i64 R.2, .bool true]) ?_ ?_ ?_
            · simp [results, Tryd.results8, go_sem, *]
            · rfl
            · exact ⟨_, _, rfl, (HF.out _ _).1, (HF.out _ _).2⟩
          · have HE : Hid (EndA W1 ((w7.setCell ⟨w6.heap.size, 0, none⟩ (.slice a6 R.1.1.length ca6)).setCell ⟨w6.heap.size, 1, none⟩ (.slice b6 R.1.2.length cb6)) w6.heap.size a6 ca6 b6 cb6 R.1) := by have q0 := hb6.size; have q1 : (w6.alloc (.cells #[.slice none 0 0, .slice none 0 0] 32)).heap.size = w6.heap.size + 1 := (by simp); exact end_set hB7 hG7 (fun b' hb' hl => by rcases hb' with h | h | h <;> first | (have := hr6.lt b' h; omega) | omega) p0 p1 (by omega) (by have := hk7.size; omega)
            obtain ⟨w8, hw8⟩ : ∃ w8, (w7.setCell ⟨w6.heap.size, 0, none⟩ (.slice a6 R.1.1.length ca6)).setCell ⟨w6.heap.size, 1, none⟩ (.slice b6 R.1.2.length cb6) = w8 := ⟨_, rfl⟩
            obtain ⟨bx, hbx⟩ : ∃ bx, w6.heap.size = bx := ⟨_, rfl⟩
            rw [hw8, hbx] at HE
            have HFN : Hid (∀ W, Below w8.heap.size w8 W → EndB w W bx a6 ca6 b6 cb6 R.1) := fun W hW => end_b HE.out (fun W hW => HC.out W hW) HZ.out W hW
            have HG8 := (show Hid _ from HG2.out w8 a6 b6 ca6 cb6 HE.out.2.2.1 HE.out.2.2.2.1)
            obtain ⟨x0, x1⟩ := HE.out.2.2.2.2.1
            rw [hw8, hbx]
            clear hG7 hk7 hE7 hL7 hB7 z7 hr6 hB6 z6 hB5 z5 h35 HP5 hBd hBdA zD sA HE HO HKi HPu HG2 HC hw8 hbx
            (try clear hb6)
            (try clear hb6a)
            (try clear hb5)
            (try clear sB)
            (try clear sC)
            (try clear sE)
            (try clear sS)
            go_wp2_with fail
            refine Calls.mono HG8.out ?_
            rintro e w9 ⟨rfl, hb9⟩
            obtain ⟨⟨y0, y1, y2, y3⟩, ⟨y4, y5⟩, hfin⟩ := HFN.out w9 hb9
            have HF := (show Hid _ from hfin)
            clear HG8 HFN hb9 hfin x0 x1
            go_wp2
            refine bodyPost_ret (v := .tuple #[.agg #[.slice a6 R.1.1.length ca6, .slice b6 R.1.2.length cb6], .int .i64 R.2, .bool true]) ?_ ?_ ?_
            · simp [results, Tryd.results8, go_sem, *]
            · rfl
            · exact ⟨_, _, rfl, (HF.out _ _).1, (HF.out _ _).2⟩
          · have HE : Hid (EndA W1 ((w7.setCell ⟨w5.heap.size, 0, none⟩ (.slice a6 R.1.1.length ca6)).setCell ⟨w5.heap.size, 1, none⟩ (.slice b6 R.1.2.length cb6)) w5.heap.size a6 ca6 b6 cb6 R.1) := by have q0 := hb6a.size; have q1 : (w5.alloc (.cells #[.slice none 0 0, .slice none 0 0] 32)).heap.size = w5.heap.size + 1 := (by simp); exact end_set hB7 hG7 (fun b' hb' hl => by rcases hb' with h | h | h <;> first | (have := hr6.lt b' h; omega) | omega) p0 p1 (by omega) (by have := hk7.size; omega)
            obtain ⟨w8, hw8⟩ : ∃ w8, (w7.setCell ⟨w5.heap.size, 0, none⟩ (.slice a6 R.1.1.length ca6)).setCell ⟨w5.heap.size, 1, none⟩ (.slice b6 R.1.2.length cb6) = w8 := ⟨_, rfl⟩
            obtain ⟨bx, hbx⟩ : ∃ bx, w5.heap.size = bx := ⟨_, rfl⟩
            rw [hw8, hbx] at HE
            have HFN : Hid (∀ W, Below w8.heap.size w8 W → EndB w W bx a6 ca6 b6 cb6 R.1) := fun W hW => end_b HE.out (fun W hW => HC.out W hW) HZ.out W hW
            have HG8 := (show Hid _ from HG2.out w8 a6 b6 ca6 cb6 HE.out.2.2.1 HE.out.2.2.2.1)
            obtain ⟨x0, x1⟩ := HE.out.2.2.2.2.1
            rw [hw8, hbx]
            clear hG7 hk7 hE7 hL7 hB7 z7 hr6 hB6 z6 hB5 z5 h35 HP5 hBd hBdA zD sA HE HO HKi HPu HG2 HC hw8 hbx
            (try clear hb6)
            (try clear hb6a)
            (try clear hb5)
            (try clear sB)
            (try clear sC)
            (try clear sE)
            (try clear sS)
            go_wp2_with fail
            refine Calls.mono HG8.out ?_
            rintro e w9 ⟨rfl, hb9⟩
            obtain ⟨⟨y0, y1, y2, y3⟩, ⟨y4, y5⟩, hfin⟩ := HFN.out w9 hb9
            have HF := (show Hid _ from hfin)
            clear HG8 HFN hb9 hfin x0 x1
            go_wp2
            refine bodyPost_ret (v := .tuple #[.agg #[.slice a6 R.1.1.length ca6, .slice b6 R.1.2.length cb6], .int .i64 R.2, .bool true]) ?_ ?_ ?_
            · simp [results, Tryd.results8, go_sem, *]
            · rfl
            · exact ⟨_, _, rfl, (HF.out _ _).1, (HF.out _ _).2⟩
          · have HE : Hid (EndA W1 ((w7.setCell ⟨w4.heap.size, 0, none⟩ (.slice a6 R.1.1.length ca6)).setCell ⟨w4.heap.size, 1, none⟩ (.slice b6 R.1.2.length cb6)) w4.heap.size a6 ca6 b6 cb6 R.1) := by have q0 := hb6.size; have q2 : w4.drew.heap.size = w4.heap.size := rfl; exact end_set hB7 hG7 (fun b' hb' hl => by rcases hb' with h | h | h <;> first | (have := hr6.lt b' h; omega) | omega) p0 p1 (by omega) (by have := hk7.size; omega)
            obtain ⟨w8, hw8⟩ : ∃ w8, (w7.setCell ⟨w4.heap.size, 0, none⟩ (.slice a6 R.1.1.length ca6)).setCell ⟨w4.heap.size, 1, none⟩ (.slice b6 R.1.2.length cb6) = w8 := ⟨_, rfl⟩
            obtain ⟨bx, hbx⟩ : ∃ bx, w4.heap.size = bx := ⟨_, rfl⟩
            rw [hw8, hbx] at HE
            have HFN : Hid (∀ W, Below w8.heap.size w8 W → EndB w W bx a6 ca6 b6 cb6 R.1) := fun W hW => end_b HE.out (fun W hW => HC.out W hW) HZ.out W hW
            have HG8 := (show Hid _ from HG2.out w8 a6 b6 ca6 cb6 HE.out.2.2.1 HE.out.2.2.2.1)
            obtain ⟨x0, x1⟩ := HE.out.2.2.2.2.1
            rw [hw8, hbx]
            clear hG7 hk7 hE7 hL7 hB7 z7 hr6 hB6 z6 hB5 z5 h35 HP5 hBd hBdA zD sA HE HO HKi HPu HG2 HC hw8 hbx
            (try clear hb6)
            (try clear hb6a)
            (try clear hb5)
            (try clear sB)
            (try clear sC)
            (try clear sE)
            (try clear sS)
            go_wp2_with fail
            refine Calls.mono HG8.out ?_
            rintro e w9 ⟨rfl, hb9⟩
            obtain ⟨⟨y0, y1, y2, y3⟩, ⟨y4, y5⟩, hfin⟩ := HFN.out w9 hb9
            have HF := (show Hid _ from hfin)
            clear HG8 HFN hb9 hfin x0 x1
            go_wp2
            refine bodyPost_ret (v := .tuple #[.agg #[.slice a6 R.1.1.length ca6, .slice b6 R.1.2.length cb6], .int .i64 R.2, .bool true]) ?_ ?_ ?_
            · simp [results, Tryd.results8, go_sem, *]
            · rfl
            · exact ⟨_, _, rfl, (HF.out _ _).1, (HF.out _ _).2⟩
        · rw [if_neg h00]
          rw [decide_eq_false h00] at HG2
          go_enter Tryd.func8, Tryd.ntmps8
          go_wp2_with fail
          (try rw [hW1])
          refine Calls.mono HG.out ?_
          rintro e w2 ⟨rfl, hb2⟩
          obtain ⟨⟨c0, c1, c2, c3, c4⟩, -, -⟩ := HC.out w2 hb2
          have HB2 := (show Hid _ from hb2)
          clear HG hW1 hb2
          go_wp2_with fail
          refine Calls.mono (HNo.out _) ?_
          rintro e w3 ⟨rfl, hb3⟩
          have hB3 := HB2.out.trans (hb3.mono HB2.out.size)
          obtain ⟨⟨d0, d1, d2, d3, d4⟩, -, -⟩ := HC.out w3 hB3
          have HA3 := (show Hid _ from HAl.out w3 hB3)
          have HB3 := (show Hid _ from hB3)
          clear HNo hb3 c0 c1 c2 c3 c4 hB3 HB2 HAl
          go_wp2_with fail
          refine Calls.mono HA3.out ?_
          rintro e w4 ⟨rfl, rfl⟩
          have hBd : Below W1.heap.size W1 w4.drew := HB3.out.drew
          have zD := (HC.out w4.drew hBd).1
          have hBdA : Below W1.heap.size W1 (w4.drew.alloc (.cells #[.slice none 0 0, .slice none 0 0] 32)) := hBd.alloc hBd.size _
          have sA := fun o : Obj => (HC.out (w4.drew.alloc o) (hBd.alloc hBd.size o)).1
          clear HA3 d0 d1 d2 d3 d4
          go_wp2_with fail
          go_region_held3 (fun w' => w'.cell? ⟨w.heap.size, 0, none⟩ = some (.slice a len cap) ∧ w'.cell? ⟨w.heap.size, 1, none⟩ = some (.slice b lb cb) ∧ w'.cell? ⟨w.heap.size + 1, 0, none⟩ = some (.int .i64 op) ∧ w'.cell? ⟨w.heap.size + 1, 1, none⟩ = some (.int .i64 n) ∧ w'.cell? ⟨w.heap.size + 1, 2, none⟩ = some (.slice ka kl kc))
            (first | assumption | exact sA _ | exact sB _ | exact sC _ | exact sE _ | exact sS _ _)
            (first
            | (go_at_call 34; first
                | (refine Calls.mono (HO.out w4.drew hBd) ?_; rintro r w5 ⟨va, vb, rfl, hG5, hb5⟩; have hB5 : Below W1.heap.size W1 w5 := hBd.trans (hb5.mono hBd.size); have h35 : w4.drew.heap.size ≤ w5.heap.size := hb5.size; have z5 := (HC.out w5 hB5).1; have sB := fun o : Obj => (HC.out (w5.alloc o) (hB5.alloc hB5.size o)).1; have HP5 := (show Hid _ from fun W5 kv => HPu.out w4.drew.heap.size w5 W5 va vb kv hG5 h35); clear hG5 hb5)
                | (refine Calls.mono (HO.out (w4.drew.alloc (.cells #[.slice none 0 0, .slice none 0 0] 32)) hBdA) ?_; rintro r w5 ⟨va, vb, rfl, hG5, hb5⟩; have hB5 : Below W1.heap.size W1 w5 := hBdA.trans (hb5.mono hBdA.size); have h35 : (w4.drew.alloc (.cells #[.slice none 0 0, .slice none 0 0] 32)).heap.size ≤ w5.heap.size := hb5.size; have z5 := (HC.out w5 hB5).1; have HP5 := (show Hid _ from fun W5 kv => HPu.out (w4.drew.alloc (.cells #[.slice none 0 0, .slice none 0 0] 32)).heap.size w5 W5 va vb kv hG5 h35); have wayA : 1 = 1 := rfl; clear hG5))
            | (go_at_call 35; first
                | (refine Calls.mono (HKi.out w5 hB5) ?_; rintro r w6 ⟨kv, rfl, hr6, hb6⟩; obtain ⟨kva, kvc, rfl, _⟩ := row_slice hr6; have hB6 : Below W1.heap.size W1 w6 := hB5.trans (hb6.mono hB5.size); have z6 := (HC.out w6 hB6).1; have sC := fun o : Obj => (HC.out (w6.alloc o) (hB6.alloc hB6.size o)).1)
                | (refine Calls.mono (HKi.out (w5.alloc (.cells #[.slice none 0 0, .slice none 0 0] 32)) (hB5.alloc hB5.size _)) ?_; rintro r w6 ⟨kv, rfl, hr6, hb6a⟩; obtain ⟨kva, kvc, rfl, _⟩ := row_slice hr6; have hB6 : Below W1.heap.size W1 w6 := (hB5.alloc hB5.size _).trans (hb6a.mono (hB5.alloc hB5.size _).size); have z6 := (HC.out w6 hB6).1))
            | (go_at_call 33; have hd0 := hBd.size; have hd1 := hBdA.size; have hd2 : (w4.drew.alloc (.cells #[.slice none 0 0, .slice none 0 0] 32)).heap.size = w4.drew.heap.size + 1 := (by simp); first
                | (refine Calls.mono (HP5.out w6 _ hb6 hr6) ?_; rintro r w7 ⟨va', vb', rfl, hG7, hk7⟩; obtain ⟨a6, ca6, b6, cb6, rfl, rfl, hE7, hL7⟩ := hG7.reads; have hB7 : Below W1.heap.size W1 w7 := hB6.trans (hk7.below (n := W1.heap.size) (fun x _ h => by omega) hB6.size); have z7 := (HC.out w7 hB7).1; first
                    | (revert wayA; intro wayA; obtain ⟨⟨p0', p1'⟩, p2', p3', p4'⟩ := box7 (hb5.trans (hb6.mono hb5.size)) hk7 (by omega); have p0 : w7.cell? ⟨w4.heap.size, 0, none⟩ = some (.slice none 0 0) := p0'; have p1 : w7.cell? ⟨w4.heap.size, 1, none⟩ = some (.slice none 0 0) := p1'; have p2 : w7.frozen? ⟨w4.heap.size, 0, none⟩ = false := p2'; have p3 : w7.frozen? ⟨w4.heap.size, 1, none⟩ = false := p3'; have hd9 : W1.heap.size ≤ w4.heap.size := hd0; have sS := fun v0 v1 : Value => (HC.out ((w7.setCell ⟨w4.heap.size, 0, none⟩ v0).setCell ⟨w4.heap.size, 1, none⟩ v1) ((hB7.setCell (by show W1.heap.size ≤ w4.heap.size; omega) _).setCell (by show W1.heap.size ≤ w4.heap.size; omega) _)).1; have hA1 : True := trivial)
                    | (have sE := fun o : Obj => (HC.out (w7.alloc o) (hB7.alloc hB7.size o)).1))
                | (refine Calls.mono (HP5.out w6 _ (((Below.refl _ _).alloc (Nat.le_refl _) _).trans (hb6a.mono (by simp))) (own_base hr6 (by simp))) ?_; rintro r w7 ⟨va', vb', rfl, hG7, hk7⟩; obtain ⟨a6, ca6, b6, cb6, rfl, rfl, hE7, hL7⟩ := hG7.reads; have hB7 : Below W1.heap.size W1 w7 := hB6.trans (hk7.below (n := W1.heap.size) (fun x _ h => by omega) hB6.size); have z7 := (HC.out w7 hB7).1; obtain ⟨⟨p0, p1⟩, p2, p3, p4⟩ := box7 hb6a hk7 (by omega); have hd5 := hB5.size; have sS := fun v0 v1 : Value => (HC.out ((w7.setCell ⟨w5.heap.size, 0, none⟩ v0).setCell ⟨w5.heap.size, 1, none⟩ v1) ((hB7.setCell (by show W1.heap.size ≤ w5.heap.size; omega) _).setCell (by show W1.heap.size ≤ w5.heap.size; omega) _)).1)
                | (refine Calls.mono (HP5.out (w6.alloc (.cells #[.slice none 0 0, .slice none 0 0] 32)) _ (hb6.alloc hb6.size _) (hr6.alloc _)) ?_; have hB6a := hB6.alloc hB6.size (.cells #[.slice none 0 0, .slice none 0 0] 32); rintro r w7 ⟨va', vb', rfl, hG7, hk7⟩; obtain ⟨a6, ca6, b6, cb6, rfl, rfl, hE7, hL7⟩ := hG7.reads; have hB7 : Below W1.heap.size W1 w7 := hB6a.trans (hk7.below (n := W1.heap.size) (fun x _ h => by omega) hB6a.size); have z7 := (HC.out w7 hB7).1; obtain ⟨⟨p0, p1⟩, p2, p3, p4⟩ := box7 (Below.refl _ _) hk7 (by have := hb6.size; omega); have hd6 := hB6.size; have sS := fun v0 v1 : Value => (HC.out ((w7.setCell ⟨w6.heap.size, 0, none⟩ v0).setCell ⟨w6.heap.size, 1, none⟩ v1) ((hB7.setCell (by show W1.heap.size ≤ w6.heap.size; omega) _).setCell (by show W1.heap.size ≤ w6.heap.size; omega) _)).1)))
          · have HE : Hid (EndA W1 (w7.alloc (.cells #[.slice a6 R.1.1.length ca6, .slice b6 R.1.2.length cb6] 32)) w7.heap.size a6 ca6 b6 cb6 R.1) := by have q0 := hb6.size; exact end_alloc hB7 hG7 (fun b' hb' hl => by rcases hb' with h | h | h <;> first | (have := hr6.lt b' h; omega) | omega)
            obtain ⟨w8, hw8⟩ : ∃ w8, w7.alloc (.cells #[.slice a6 R.1.1.length ca6, .slice b6 R.1.2.length cb6] 32) = w8 := ⟨_, rfl⟩
            obtain ⟨bx, hbx⟩ : ∃ bx, w7.heap.size = bx := ⟨_, rfl⟩
            rw [hw8, hbx] at HE
            have HFN : Hid (∀ W, Below w8.heap.size w8 W → EndB w W bx a6 ca6 b6 cb6 R.1) := fun W hW => end_b HE.out (fun W hW => HC.out W hW) HZ.out W hW
            have HG8 := (show Hid _ from HG2.out w8 a6 b6 ca6 cb6 HE.out.2.2.1 HE.out.2.2.2.1)
            obtain ⟨x0, x1⟩ := HE.out.2.2.2.2.1
            rw [hw8, hbx]
            clear hG7 hk7 hE7 hL7 hB7 z7 hr6 hB6 z6 hB5 z5 h35 HP5 hBd hBdA zD sA HE HO HKi HPu HG2 HC hw8 hbx
            (try clear hb6)
            (try clear hb6a)
            (try clear hb5)
            (try clear sB)
            (try clear sC)
            (try clear sE)
            (try clear sS)
            go_wp2_with fail
            refine Calls.mono HG8.out ?_
            rintro e w9 ⟨rfl, hb9⟩
            obtain ⟨⟨y0, y1, y2, y3⟩, ⟨y4, y5⟩, hfin⟩ := HFN.out w9 hb9
            have HF := (show Hid _ from hfin)
            clear HG8 HFN hb9 hfin x0 x1
            go_wp2
            refine bodyPost_ret (v := .tuple #[.agg #[.slice none 0 0, .slice none 0 0], .int .i64 0, .bool false]) ?_ ?_ ?_
            · simp [results, Tryd.results8, go_sem, *]
            · rfl
            · exact ⟨_, _, rfl, gown_nil _ _ _, (HF.out _ _).2⟩
          · have HE : Hid (EndA W1 ((w7.setCell ⟨w6.heap.size, 0, none⟩ (.slice a6 R.1.1.length ca6)).setCell ⟨w6.heap.size, 1, none⟩ (.slice b6 R.1.2.length cb6)) w6.heap.size a6 ca6 b6 cb6 R.1) := by have q0 := hb6.size; have q1 : (w6.alloc (.cells #[.slice none 0 0, .slice none 0 0] 32)).heap.size = w6.heap.size + 1 := (by simp); exact end_set hB7 hG7 (fun b' hb' hl => by rcases hb' with h | h | h <;> first | (have := hr6.lt b' h; omega) | omega) p0 p1 (by omega) (by have := hk7.size; omega)
            obtain ⟨w8, hw8⟩ : ∃ w8, (w7.setCell ⟨w6.heap.size, 0, none⟩ (.slice a6 R.1.1.length ca6)).setCell ⟨w6.heap.size, 1, none⟩ (.slice b6 R.1.2.length cb6) = w8 := ⟨_, rfl⟩
            obtain ⟨bx, hbx⟩ : ∃ bx, w6.heap.size = bx := ⟨_, rfl⟩
            rw [hw8, hbx] at HE
            have HFN : Hid (∀ W, Below w8.heap.size w8 W → EndB w W bx a6 ca6 b6 cb6 R.1) := fun W hW => end_b HE.out (fun W hW => HC.out W hW) HZ.out W hW
            have HG8 := (show Hid _ from HG2.out w8 a6 b6 ca6 cb6 HE.out.2.2.1 HE.out.2.2.2.1)
            obtain ⟨x0, x1⟩ := HE.out.2.2.2.2.1
            rw [hw8, hbx]
            clear hG7 hk7 hE7 hL7 hB7 z7 hr6 hB6 z6 hB5 z5 h35 HP5 hBd hBdA zD sA HE HO HKi HPu HG2 HC hw8 hbx
            (try clear hb6)
            (try clear hb6a)
            (try clear hb5)
            (try clear sB)
            (try clear sC)
            (try clear sE)
            (try clear sS)
            go_wp2_with fail
            refine Calls.mono HG8.out ?_
            rintro e w9 ⟨rfl, hb9⟩
            obtain ⟨⟨y0, y1, y2, y3⟩, ⟨y4, y5⟩, hfin⟩ := HFN.out w9 hb9
            have HF := (show Hid _ from hfin)
            clear HG8 HFN hb9 hfin x0 x1
            go_wp2
            refine bodyPost_ret (v := .tuple #[.agg #[.slice none 0 0, .slice none 0 0], .int .i64 0, .bool false]) ?_ ?_ ?_
            · simp [results, Tryd.results8, go_sem, *]
            · rfl
            · exact ⟨_, _, rfl, gown_nil _ _ _, (HF.out _ _).2⟩
          · have HE : Hid (EndA W1 ((w7.setCell ⟨w5.heap.size, 0, none⟩ (.slice a6 R.1.1.length ca6)).setCell ⟨w5.heap.size, 1, none⟩ (.slice b6 R.1.2.length cb6)) w5.heap.size a6 ca6 b6 cb6 R.1) := by have q0 := hb6a.size; have q1 : (w5.alloc (.cells #[.slice none 0 0, .slice none 0 0] 32)).heap.size = w5.heap.size + 1 := (by simp); exact end_set hB7 hG7 (fun b' hb' hl => by rcases hb' with h | h | h <;> first | (have := hr6.lt b' h; omega) | omega) p0 p1 (by omega) (by have := hk7.size; omega)
            obtain ⟨w8, hw8⟩ : ∃ w8, (w7.setCell ⟨w5.heap.size, 0, none⟩ (.slice a6 R.1.1.length ca6)).setCell ⟨w5.heap.size, 1, none⟩ (.slice b6 R.1.2.length cb6) = w8 := ⟨_, rfl⟩
            obtain ⟨bx, hbx⟩ : ∃ bx, w5.heap.size = bx := ⟨_, rfl⟩
            rw [hw8, hbx] at HE
            have HFN : Hid (∀ W, Below w8.heap.size w8 W → EndB w W bx a6 ca6 b6 cb6 R.1) := fun W hW => end_b HE.out (fun W hW => HC.out W hW) HZ.out W hW
            have HG8 := (show Hid _ from HG2.out w8 a6 b6 ca6 cb6 HE.out.2.2.1 HE.out.2.2.2.1)
            obtain ⟨x0, x1⟩ := HE.out.2.2.2.2.1
            rw [hw8, hbx]
            clear hG7 hk7 hE7 hL7 hB7 z7 hr6 hB6 z6 hB5 z5 h35 HP5 hBd hBdA zD sA HE HO HKi HPu HG2 HC hw8 hbx
            (try clear hb6)
            (try clear hb6a)
            (try clear hb5)
            (try clear sB)
            (try clear sC)
            (try clear sE)
            (try clear sS)
            go_wp2_with fail
            refine Calls.mono HG8.out ?_
            rintro e w9 ⟨rfl, hb9⟩
            obtain ⟨⟨y0, y1, y2, y3⟩, ⟨y4, y5⟩, hfin⟩ := HFN.out w9 hb9
            have HF := (show Hid _ from hfin)
            clear HG8 HFN hb9 hfin x0 x1
            go_wp2
            refine bodyPost_ret (v := .tuple #[.agg #[.slice none 0 0, .slice none 0 0], .int .i64 0, .bool false]) ?_ ?_ ?_
            · simp [results, Tryd.results8, go_sem, *]
            · rfl
            · exact ⟨_, _, rfl, gown_nil _ _ _, (HF.out _ _).2⟩
          · have HE : Hid (EndA W1 ((w7.setCell ⟨w4.heap.size, 0, none⟩ (.slice a6 R.1.1.length ca6)).setCell ⟨w4.heap.size, 1, none⟩ (.slice b6 R.1.2.length cb6)) w4.heap.size a6 ca6 b6 cb6 R.1) := by have q0 := hb6.size; have q2 : w4.drew.heap.size = w4.heap.size := rfl; exact end_set hB7 hG7 (fun b' hb' hl => by rcases hb' with h | h | h <;> first | (have := hr6.lt b' h; omega) | omega) p0 p1 (by omega) (by have := hk7.size; omega)
            obtain ⟨w8, hw8⟩ : ∃ w8, (w7.setCell ⟨w4.heap.size, 0, none⟩ (.slice a6 R.1.1.length ca6)).setCell ⟨w4.heap.size, 1, none⟩ (.slice b6 R.1.2.length cb6) = w8 := ⟨_, rfl⟩
            obtain ⟨bx, hbx⟩ : ∃ bx, w4.heap.size = bx := ⟨_, rfl⟩
            rw [hw8, hbx] at HE
            have HFN : Hid (∀ W, Below w8.heap.size w8 W → EndB w W bx a6 ca6 b6 cb6 R.1) := fun W hW => end_b HE.out (fun W hW => HC.out W hW) HZ.out W hW
            have HG8 := (show Hid _ from HG2.out w8 a6 b6 ca6 cb6 HE.out.2.2.1 HE.out.2.2.2.1)
            obtain ⟨x0, x1⟩ := HE.out.2.2.2.2.1
            rw [hw8, hbx]
            clear hG7 hk7 hE7 hL7 hB7 z7 hr6 hB6 z6 hB5 z5 h35 HP5 hBd hBdA zD sA HE HO HKi HPu HG2 HC hw8 hbx
            (try clear hb6)
            (try clear hb6a)
            (try clear hb5)
            (try clear sB)
            (try clear sC)
            (try clear sE)
            (try clear sS)
            go_wp2_with fail
            refine Calls.mono HG8.out ?_
            rintro e w9 ⟨rfl, hb9⟩
            obtain ⟨⟨y0, y1, y2, y3⟩, ⟨y4, y5⟩, hfin⟩ := HFN.out w9 hb9
            have HF := (show Hid _ from hfin)
            clear HG8 HFN hb9 hfin x0 x1
            go_wp2
            refine bodyPost_ret (v := .tuple #[.agg #[.slice none 0 0, .slice none 0 0], .int .i64 0, .bool false]) ?_ ?_ ?_
            · simp [results, Tryd.results8, go_sem, *]
            · rfl
            · exact ⟨_, _, rfl, gown_nil _ _ _, (HF.out _ _).2⟩
end Go.Proofs.YtbmgflapagbkcaaDoor
