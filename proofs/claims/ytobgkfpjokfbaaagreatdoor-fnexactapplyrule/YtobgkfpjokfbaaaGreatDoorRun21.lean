/-
  PROVED HERE: what the program's put answers at a shelf of a good graph of at most 120 nodes. No other condition. that the laws' own comparing finds the same lists of ints to be the same, at every list of at most a million. No other condition. what the laws' own copying and comparing of graphs answers: that the same graphs are the same, at every list of at most a million. No other condition.
-/
import Derived.Test.YtobgkfpjokfbaaaGreatDoorRun20
import Derived.Test.YtobgkfpjokfbaaaGreatDoorRun2
import Derived.Test.YtobgkfpjokfbaaaGreatDoorRun11
import Derived.Test.YtobgkfpjokfbaaaGreatDoorRun19
namespace Go.Proofs.YtobgkfpjokfbaaaGreatDoor
open Go.ChangeShapes Go.WideShapes Go.ChangeAt Go.RowKit
open Go.MapKept Go.ChangeMaps
set_option linter.unusedVariables false

theorem sl_kb {w w' : World} {S : Nat → Prop} {a : Option Addr} {n : Nat} {l : List Int} (h : Sl w a n l) (hb : KB S w w') (ha : ∀ x, (Value.slice a n n).ownBlock = some x → ¬ S x) : Sl w' a n l := sl_block h (fun x hx hl => hb.block x hl (ha x hx)) hb.size
set_option maxHeartbeats 6400000 in
set_option maxRecDepth 20000 in
theorem putI_any (s m : Nat) (S : Nat → Prop) (g : GS) (op n : Int) (a : Option Addr) (len cap : Nat) (kids : List Int) (w : World) (hT : Shelf w S s m g) (hg : GoodG g) (h120 : g.1.length ≤ 120) (hk : Sl w a len kids) (ha : ∀ x, (Value.slice a len len).ownBlock = some x → ¬ S x) (hf : Fits g op n kids) :
    Calls Tryz.prog 59 #[.pointer (some ⟨s, 0, none⟩), .agg #[.int .i64 op, .int .i64 n, .slice a len cap]] w fun e w' => e = .returned (.tuple #[.int .i64 (((clsP g (op, n, kidsL g.2 kids)).map (fun r => r.2)).getD 0), .bool (clsP g (op, n, kidsL g.2 kids)).isSome]) ∧ KB S w w' ∧ (∀ r, clsP g (op, n, kidsL g.2 kids) = some r → Shelf w' (fun b => S b ∨ w.heap.size ≤ b) s m r.1) := by
  have hT0 := hT
  have HF : Hid (∀ W, Below w.heap.size w W → Calls Tryz.prog 58 #[.pointer (some ⟨s, 0, none⟩), .agg #[.int .i64 op, .int .i64 n, .slice a len cap]] W fun e w' => e = .returned (.tuple #[.int .i64 ((findL g.1 g.2 (op, n, kidsL g.2 kids)).getD 0), .bool (findL g.1 g.2 (op, n, kidsL g.2 kids)).isSome]) ∧ Below W.heap.size W w') := fun W hW => find_any s m S g op n a len cap kids W (hT.keep hW) hg (by omega) (hk.keep hW) hf
  obtain ⟨W1, hW1⟩ : ∃ W1, w.alloc (.cells #[.int .i64 op, .int .i64 n, .slice a len cap] 80) = W1 := ⟨_, rfl⟩
  have hb1 : Below w.heap.size w W1 := by rw [← hW1]; exact (Below.refl _ _).alloc (Nat.le_refl _) _
  have hs1 : W1.heap.size = w.heap.size + 1 := by rw [← hW1]; simp
  have n0 : W1.cell? ⟨w.heap.size, 0, none⟩ = some (.int .i64 op) := by rw [← hW1]; simp [go_sem]
  have n1 : W1.cell? ⟨w.heap.size, 1, none⟩ = some (.int .i64 n) := by rw [← hW1]; simp [go_sem]
  have n2 : W1.cell? ⟨w.heap.size, 2, none⟩ = some (.slice a len cap) := by rw [← hW1]; simp [go_sem]
  have HF1 := (show Hid _ from HF.out W1 hb1)
  cases hfl : findL g.1 g.2 (op, n, kidsL g.2 kids) with
  | some v =>
    have hc : clsP g (op, n, kidsL g.2 kids) = some (g, v) := by
      unfold clsP
      rw [if_neg (fun h => by rw [hfl] at h; cases h.1), putL_some hfl]
    rw [hc]
    rw [hfl] at HF1
    simp only [Option.getD_some, Option.isSome_some, Option.map_some] at HF1 ⊢
    have HX : Hid (∀ W, Below W1.heap.size W1 W → KB S w W ∧ Shelf W (fun b => S b ∨ w.heap.size ≤ b) s m g) := fun W hW => by
      have hX := hb1.trans (hW.mono hb1.size)
      exact ⟨KB.of hX, (hT0.keep hX).sets (fun b _ h => .inl h)⟩
    clear hT hT0 hk ha hf hb1 hfl hc HF hg hs1
    go_enter Tryz.func59, Tryz.ntmps59
    go_wp2_with fail
    (try rw [hW1])
    refine Calls.mono HF1.out ?_
    rintro e w2 ⟨rfl, hb2⟩
    have HX2 := (show Hid _ from HX.out w2 hb2)
    clear HF1 HX hW1 hb2
    go_wp2
    go_ret2
    exact ⟨rfl, HX2.out.1, fun r hr => by cases hr; exact HX2.out.2⟩
  | none =>
    rw [hfl] at HF1
    simp only [Option.getD_none, Option.isSome_none] at HF1
    obtain ⟨p, l⟩ := g
    obtain ⟨va, vb, f, h1, h2, h3, h4, h5, h6, h7, h8, h9, h10, h11, h12, h13⟩ := hT
    obtain ⟨ga, ca, gb, cb, rfl, rfl, _, hL⟩ := h8.reads
    simp only at h7 h8 h120 hfl hL
    have hlp := hg.2.1
    simp only at hlp
    by_cases h00 : p.length = 120
    · have hc : clsP (p, l) (op, n, kidsL l kids) = none := by unfold clsP; rw [if_pos ⟨hfl, h00⟩]
      rw [hc]
      simp only [Option.map_none, Option.getD_none, Option.isSome_none]
      have HX : Hid (∀ W, Below W1.heap.size W1 W → KB S w W) := fun W hW => KB.of (hb1.trans (hW.mono hb1.size))
      have hse : ((p.length : Int) == 120) = true := by simp; omega
      have HC : Hid (∀ W, Below W1.heap.size W1 W → W.cell? ⟨s, 0, none⟩ = some (.slice ga p.length ca)) := fun W hW => ((hb1.trans (hW.mono hb1.size)).cell (p := ⟨s, 0, none⟩) h12).trans h1
      clear hT0 hk ha hf hb1 hfl hc HF hg hs1 h1 h2 h3 h4 h5 h6 h7 h8 hL hlp h00
      go_enter Tryz.func59, Tryz.ntmps59
      go_wp2_with fail
      (try rw [hW1])
      refine Calls.mono HF1.out ?_
      rintro e w2 ⟨rfl, hb2⟩
      have HX2 := (show Hid _ from HX.out w2 hb2)
      have c0 := HC.out w2 hb2
      clear HF1 HX hW1 hb2 HC
      go_wp2
      go_ret2
      exact ⟨rfl, HX2.out, fun r hr => by cases hr⟩
    · have hc : clsP (p, l) (op, n, kidsL l kids) = some ((p ++ [(op, n, kidsL l kids)], l ++ [(p.length : Int)]), (p.length : Int)) := by
        unfold clsP
        rw [if_neg (fun h => h00 h.2)]
        exact congrArg some (putL_none (g := (p, l)) hfl)
      rw [hc]
      simp only [Option.map_some, Option.getD_some, Option.isSome_some]
      have hse : ((p.length : Int) == 120) = false := by simp; omega
      have hll := hk.1
      have har := nodeOk_ar hf.ok
      have hsi := fits_sh hg (by simp only; omega) hf
      have hadd := held_add hg h7 hf hfl
      simp only at hsi hadd
      obtain ⟨j0, hj, jz0, jz1, jz2⟩ := info_parts infoENode
      obtain ⟨i0, hi, hz0, hz1, hz2⟩ := info_parts infoInt
      have HM0 : Hid (∀ W, Below W1.heap.size W1 W → Mid w W S s m (.slice ga p.length ca) (.slice gb l.length cb) p l f) := fun W hW => by
        have hX := hb1.trans (hW.mono hb1.size)
        exact ⟨(hX.cell (p := ⟨s, 0, none⟩) h12).trans h1, (hX.cell (p := ⟨s, 1, none⟩) h12).trans h2, (hX.cell (p := ⟨s, 2, none⟩) h12).trans h3, (hX.frozen (p := ⟨s, 0, none⟩) h12).trans h4, (hX.frozen (p := ⟨s, 1, none⟩) h12).trans h5, h6.keep hX, (h8.sets (fun b hl hb => .inl ⟨hb.1, hb.2.1, hb.2.2, hl⟩)).keep hX, KB.of hX⟩
      -- cells that stay
      have HCk : Hid (∀ (W W' : World), W1.heap.size ≤ W.heap.size → (∀ b, b < W1.heap.size → b ≠ m → W'.heap[b]? = W1.heap[b]?) → W'.cell? ⟨w.heap.size, 0, none⟩ = some (.int .i64 op) ∧ W'.cell? ⟨w.heap.size, 1, none⟩ = some (.int .i64 n) ∧ W'.cell? ⟨w.heap.size, 2, none⟩ = some (.slice a len cap) ∧ W'.cell? ⟨s, 1, none⟩ = some (.slice gb l.length cb) ∧ W'.cell? ⟨s, 2, none⟩ = some (.map (some m))) := fun W W' _ h => by
        have e1 := h w.heap.size (by omega) (by omega)
        have e2 := h s (by omega) h9
        have x1 := (hb1.cell (p := ⟨s, 1, none⟩) h12).trans h2
        have x2 := (hb1.cell (p := ⟨s, 2, none⟩) h12).trans h3
        exact ⟨(World.cell?_of_block (a := ⟨w.heap.size, 0, none⟩) e1).trans n0, (World.cell?_of_block (a := ⟨w.heap.size, 1, none⟩) e1).trans n1, (World.cell?_of_block (a := ⟨w.heap.size, 2, none⟩) e1).trans n2, (World.cell?_of_block (a := ⟨s, 1, none⟩) e2).trans x1, (World.cell?_of_block (a := ⟨s, 2, none⟩) e2).trans x2⟩
      have HSh : Hid (∀ W, Below W1.heap.size W1 W → Calls Tryz.prog 84 #[.agg #[.int .i64 op, .int .i64 n, .slice a len cap], .slice gb l.length cb] W fun e w' => e = .returned (shV (shO l (op, n, kids))) ∧ Below W.heap.size W w') := fun W hW => by
        have hX := hb1.trans (hW.mono hb1.size)
        exact shape_any op n a gb len cap l.length cb kids l W (hk.keep hX) (hL.keep hX) (by omega) (fun j hj => by
          obtain ⟨y, e1, e2⟩ := hf.rng j (by omega)
          exact ⟨y, e1, by simp only at e2; omega⟩)
      have HQ : Hid (∀ W, Below W1.heap.size W1 W → ∃ W5, (Instr.mapUpdate 110 (.map (some m)) (shV (shO l (op, n, kids))) (.int .i64 (p.length : Int))).run Tryz.prog W = .ok () W5 ∧ (W5.cell? ⟨w.heap.size, 0, none⟩ = some (.int .i64 op) ∧ W5.cell? ⟨w.heap.size, 1, none⟩ = some (.int .i64 n) ∧ W5.cell? ⟨w.heap.size, 2, none⟩ = some (.slice a len cap) ∧ W5.cell? ⟨s, 1, none⟩ = some (.slice gb l.length cb) ∧ W5.cell? ⟨s, 2, none⟩ = some (.map (some m))) ∧ W1.heap.size ≤ W5.heap.size ∧ Hid (Mid w W5 S s m (.slice ga p.length ca) (.slice gb l.length cb) p l (setS f (shO l (op, n, kids)) (some (p.length : Int))) ∧ Sl W5 a len kids ∧ Sl W5 gb l.length l)) := fun W hW => by
        have hX := hb1.trans (hW.mono hb1.size)
        obtain ⟨o, ho, hw⟩ := (h6.keep hX).store hsi (p.length : Int)
        have hne : ∀ b, b ≠ m → (setBlock W m o).heap[b]? = W.heap[b]? := fun b hb => setB_ne b hb
        obtain ⟨k1, k2, k3, k4, k5, k6, k7, k8⟩ := HM0.out W hW
        have hmW : m < W.heap.size := Nat.lt_of_lt_of_le h13 hX.size
        have e := hne s h9
        have hkb : KB (fun b => b = m) W (setBlock W m o) := ⟨rfl, rfl, rfl, by rw [setB_size]; exact Nat.le_refl _, fun b _ hn => hne b hn⟩
        refine ⟨_, ho, HCk.out W _ hW.size (fun b hb hn => (hne b hn).trans (hW.block b hb)), by rw [setB_size]; exact hW.size, ⟨(World.cell?_of_block (a := ⟨s, 0, none⟩) e).trans k1, (World.cell?_of_block (a := ⟨s, 1, none⟩) e).trans k2, (World.cell?_of_block (a := ⟨s, 2, none⟩) e).trans k3, (World.frozen?_of_block (a := ⟨s, 0, none⟩) e).trans k4, (World.frozen?_of_block (a := ⟨s, 1, none⟩) e).trans k5, hw _ (setB_get hmW), k7.map (by rw [setB_size]; exact Nat.le_refl _) (fun b hb _ => hne b (fun e => by rcases hb with h | h; exact h.2.2.1 e; omega)) (fun _ _ h => h), k8.trans hkb (fun b hb e => by rw [e]; exact h11)⟩, sl_kb (hk.keep hX) hkb (fun x hx e => ha x hx (by rw [e]; exact h11)), sl_kb (hL.keep hX) hkb (fun x hx e => ?_)⟩
        have := (h8.row.2.2.2 x (by rw [own_slice gb _ _ _ _]; exact hx)).2.2
        exact this e
      have HWc : Hid (∀ (W5 W : World), Sl W5 a len kids → Sl W5 gb l.length l → Below W5.heap.size W5 W → Calls Tryz.prog 85 #[.agg #[.int .i64 op, .int .i64 n, .slice a len cap], .slice gb l.length cb] W fun e w' => ∃ g, e = .returned (.agg #[.int .i64 op, .int .i64 n, .slice (some ⟨g, 0, none⟩) len len]) ∧ Below W.heap.size W w' ∧ W.heap.size ≤ g ∧ g < w'.heap.size ∧ (∀ i, i < len → w'.cell? ⟨g, i, none⟩ = some (.int .i64 ((kidsL l kids).getD i 0)) ∧ w'.frozen? ⟨g, i, none⟩ = false)) := fun W5 W ha5 hb5 hW => withC_any op n a gb len cap l.length cb kids l W (ha5.keep hW) (hb5.keep hW) (by omega) (fun j hj => by
          obtain ⟨y, e1, e2⟩ := hf.rng j (by omega)
          exact ⟨y, e1, by simp only at e2; omega⟩)
      have HZ : Hid (s ≠ m ∧ (S s ∧ S m ∧ s < w.heap.size ∧ m < w.heap.size) ∧ W1.heap.size = w.heap.size + 1 ∧ p.length < 120 ∧ len ≤ 3 ∧ l.length = p.length ∧ (kidsL l kids).length = len ∧ Held (p ++ [(op, n, kidsL l kids)]) (l ++ [(p.length : Int)]) (p.length + 1) (setS f (shO l (op, n, kids)) (some (p.length : Int)))) := ⟨h9, ⟨h10, h11, h12, h13⟩, hs1, by omega, by omega, hlp, by rw [kidsL_len]; exact hll, hadd⟩
      unfold shV at HSh HQ
      generalize shO l (op, n, kids) = e at HSh HQ HZ
      obtain ⟨so, sn, sa, sb, sc⟩ := e
      simp only at HSh HQ
      have hpl : p.length ≤ 119 := by omega
      have hpl2 : l.length ≤ 119 := by omega
      clear hT0 hk ha hf hb1 hfl hc HF hg hs1 h1 h2 h3 h4 h5 h6 h7 h8 hL hlp h00 hadd hsi hll har
      go_enter Tryz.func59, Tryz.ntmps59
      go_wp2_with fail
      (try rw [hW1])
      refine Calls.mono HF1.out ?_
      rintro e w2 ⟨rfl, hb2⟩
      obtain ⟨c0, _⟩ := HM0.out w2 hb2
      have hD2 : Below W1.heap.size W1 w2.drew := below_drawn hb2 1
      have zD := HCk.out w2 w2.drew hb2.size (fun b hb _ => hb2.block b hb)
      have HSh2 := (show Hid _ from HSh.out w2.drew hD2)
      have HB2 := (show Hid _ from hD2)
      clear HF1 hW1 HSh hb2 hD2 n0 n1 n2
      go_wp2_with fail
      go_region_held3 (fun w' => w'.cell? ⟨w.heap.size, 0, none⟩ = some (.int .i64 op) ∧ w'.cell? ⟨w.heap.size, 1, none⟩ = some (.int .i64 n) ∧ w'.cell? ⟨w.heap.size, 2, none⟩ = some (.slice a len cap) ∧ w'.cell? ⟨s, 1, none⟩ = some (.slice gb l.length cb) ∧ w'.cell? ⟨s, 2, none⟩ = some (.map (some m)))
        (assumption)
        (first
        | (go_at_call 84; refine Calls.mono HSh2.out ?_; rintro r w4 ⟨rfl, hb4⟩; have hB4 := HB2.out.trans (hb4.mono HB2.out.size); have z4 := HCk.out w4 w4 hB4.size (fun b hb _ => hB4.block b hb); obtain ⟨W5, hS5, z5, hs5, HN5⟩ := HQ.out w4 hB4; clear hb4))
      obtain ⟨z50, z51, z52, _, _⟩ := z5
      clear HSh2 HQ z4 hB4 HB2 zD HCk HM0
      obtain ⟨hmid, hsa5, hsb5⟩ := HN5.out
      have hz := HZ.out
      have hD5 : Below W5.heap.size W5 W5.drew := below_drawn (Below.refl _ _) 1
      have HWc5 := (show Hid _ from HWc.out W5 W5.drew hsa5 hsb5 hD5)
      have hlt5 : s < W5.heap.size ∧ m < W5.heap.size ∧ w.heap.size < W5.heap.size := by omega
      have bx0 : W5.cell? ⟨w.heap.size, 0, none⟩ = some (.int .i64 op) := z50
      have HC8 : Hid (∀ W, Below W5.heap.size W5 W → W.cell? ⟨w.heap.size, 0, none⟩ = some (.int .i64 op) ∧ W.cell? ⟨w.heap.size, 1, none⟩ = some (.int .i64 n) ∧ W.cell? ⟨w.heap.size, 2, none⟩ = some (.slice a len cap) ∧ W.cell? ⟨s, 0, none⟩ = some (.slice ga p.length ca) ∧ W.cell? ⟨s, 1, none⟩ = some (.slice gb l.length cb)) := fun W hW => ⟨(hW.cell (p := ⟨w.heap.size, 0, none⟩) hlt5.2.2).trans z50, (hW.cell (p := ⟨w.heap.size, 1, none⟩) hlt5.2.2).trans z51, (hW.cell (p := ⟨w.heap.size, 2, none⟩) hlt5.2.2).trans z52, (hW.cell (p := ⟨s, 0, none⟩) hlt5.1).trans hmid.1, (hW.cell (p := ⟨s, 1, none⟩) hlt5.1).trans hmid.2.1⟩
      have HV8 : Hid (∀ (w6 : World) (gk : Nat), Below W5.heap.size W5 w6 → W5.heap.size ≤ gk → gk < w6.heap.size → (∀ i, i < len → w6.cell? ⟨gk, i, none⟩ = some (.int .i64 ((kidsL l kids).getD i 0)) ∧ w6.frozen? ⟨gk, i, none⟩ = false) →
          ∃ xs, (w6.alloc (.cells #[.int .i64 op, .int .i64 n, .slice (some ⟨gk, 0, none⟩) len len] 80)).ownsRow 0 80 3 (.slice ga p.length ca) p.length xs ∧ ∀ w7 v7, w7.ownsRow 0 80 3 v7 (p.length + 1) (xs ++ [.int .i64 op, .int .i64 n, .slice (some ⟨gk, 0, none⟩) len len]) → (w6.alloc (.cells #[.int .i64 op, .int .i64 n, .slice (some ⟨gk, 0, none⟩) len len] 80)).grownBy w7 (Value.slice ga p.length ca).ownBlock → (v7.ownBlock = (Value.slice ga p.length ca).ownBlock ∨ v7.ownBlock = some (w6.alloc (.cells #[.int .i64 op, .int .i64 n, .slice (some ⟨gk, 0, none⟩) len len] 80)).heap.size) →
            w7.cell? ⟨s, 0, none⟩ = some (.slice ga p.length ca) ∧ w7.cell? ⟨s, 1, none⟩ = some (.slice gb l.length cb) ∧ w7.frozen? ⟨s, 0, none⟩ = false ∧ Hid (Mid w (w7.setCell ⟨s, 0, none⟩ v7) S s m v7 (.slice gb l.length cb) (p ++ [(op, n, kidsL l kids)]) l (setS f (so, sn, sa, sb, sc) (some (p.length : Int))) ∧ w.heap.size + 1 ≤ (w7.setCell ⟨s, 0, none⟩ v7).heap.size)) := fun w6 gk hb6 hg1 hg2 hcg => by
        have hbA : Below W5.heap.size W5 (w6.alloc (.cells #[.int .i64 op, .int .i64 n, .slice (some ⟨gk, 0, none⟩) len len] 80)) := hb6.alloc hb6.size _
        have hmA := hmid.keep hlt5.1 hlt5.2.1 hbA
        obtain ⟨⟨xs, hxs⟩, _⟩ := hmA.2.2.2.2.2.2.1.row
        have hbl : Below w6.heap.size w6 (w6.alloc (.cells #[.int .i64 op, .int .i64 n, .slice (some ⟨gk, 0, none⟩) len len] 80)) := (Below.refl _ _).alloc (Nat.le_refl _) _
        have hkid : KidAt (w6.alloc (.cells #[.int .i64 op, .int .i64 n, .slice (some ⟨gk, 0, none⟩) len len] 80)) true (fun b => w.heap.size + 1 ≤ b) (.slice (some ⟨gk, 0, none⟩) len len) (kidsL l kids) := by
          have hkl := hz.2.2.2.2.2.2.1
          refine ⟨some ⟨gk, 0, none⟩, len, by rw [hkl], by omega, by omega, ⟨rfl, .inr ⟨gk, 0, rfl, Nat.lt_of_lt_of_le hg2 hbl.size, fun i hi => ?_⟩⟩, fun x hx => ?_, fun _ => ⟨gk, rfl, fun j hj => (hbl.frozen (p := ⟨gk, j, none⟩) hg2).trans (hcg j (by omega)).2⟩⟩
          · rw [Nat.zero_add]; exact (hbl.cell (p := ⟨gk, i, none⟩) hg2).trans (hcg i (by omega)).1
          · have e : gk = x := by injection hx
            subst e
            exact ⟨by omega, Nat.lt_of_lt_of_le hg2 hbl.size⟩
        refine ⟨xs, hxs, fun w7 v7 k1 k2 k3 => ?_⟩
        have hres := hmA.nodes (x := (op, n, kidsL l kids)) hz.1 hz.2.1 hxs k1 k2 k3 hkid (fun b hb => ⟨W5, hmid.2.2.2.2.2.2.1, hbA, by have e : gk = b := (by injection hb); omega⟩) (by have := hbA.size; omega)
        refine ⟨hres.2.1, hres.2.2.1, hres.2.2.2, hres.1, ?_⟩
        rw [setCell_size]
        have := k2.size
        have := hbA.size
        omega
      have HFin : Hid (∀ (W8 : World) (v7 : Value), Mid w W8 S s m v7 (.slice gb l.length cb) (p ++ [(op, n, kidsL l kids)]) l (setS f (so, sn, sa, sb, sc) (some (p.length : Int))) → w.heap.size + 1 ≤ W8.heap.size → (W8.alloc (.cells #[.int .i64 (p.length : Int)] 3)).ownsRow 0 3 1 (.slice gb l.length cb) l.length (vals l) ∧ ∀ w9 v9, w9.ownsRow 0 3 1 v9 (l.length + 1) (vals l ++ [.int .i64 (p.length : Int)]) → (W8.alloc (.cells #[.int .i64 (p.length : Int)] 3)).grownBy w9 (Value.slice gb l.length cb).ownBlock → (v9.ownBlock = (Value.slice gb l.length cb).ownBlock ∨ v9.ownBlock = some (W8.alloc (.cells #[.int .i64 (p.length : Int)] 3)).heap.size) → w9.cell? ⟨s, 1, none⟩ = some (.slice gb l.length cb) ∧ w9.frozen? ⟨s, 1, none⟩ = false ∧ Hid (KB S w (w9.setCell ⟨s, 1, none⟩ v9) ∧ Shelf (w9.setCell ⟨s, 1, none⟩ v9) (fun b => S b ∨ w.heap.size ≤ b) s m (p ++ [(op, n, kidsL l kids)], l ++ [(p.length : Int)]))) := fun W8 v7 hm8 hs8 => by
        have hbA : Below W8.heap.size W8 (W8.alloc (.cells #[.int .i64 (p.length : Int)] 3)) := (Below.refl _ _).alloc (Nat.le_refl _) _
        have hmA := hm8.keep (by omega) (by omega) hbA
        refine ⟨hmA.2.2.2.2.2.2.1.row.2.1, fun w9 v9 k1 k2 k3 => ?_⟩
        have hres := hmA.parts hz.1 hz.2.1 k1 k2 k3 (by have := hbA.size; omega)
        obtain ⟨⟨t1, t2, t3, t4, t5, t6, t7, t8⟩, t9, t10⟩ := hres
        have hs9 : s < (w9.setCell ⟨s, 1, none⟩ v9).heap.size ∧ m < (w9.setCell ⟨s, 1, none⟩ v9).heap.size := by
          rw [setCell_size]
          have := k2.size
          have := hbA.size
          omega
        refine ⟨t9, t10, t8, v7, v9, _, t1, t2, t3, t4, t5, t6, ?_, t7.sets (fun b hl hb => ?_), hz.1, .inl hz.2.1.1, .inl hz.2.1.2.1, hs9.1, hs9.2⟩
        · have := hz.2.2.2.2.2.2.2
          simp only [List.length_append, List.length_singleton]
          exact this
        · rcases hb with hb | hb
          · exact ⟨.inl hb.1, hb.2.1, hb.2.2.1⟩
          · exact ⟨.inr (by omega), by omega, by omega⟩
      obtain ⟨d0, d1, d2, d3, d4⟩ := HC8.out W5.drew hD5
      clear hmid hsa5 hsb5 HN5 HWc z50 z51 z52 bx0 hz HZ hlt5
      go_wp2_with fail
      go_region_law (first
        | (obtain ⟨xs, hxs, hnext⟩ := HV.out; refine step_append rfl _ _ 34 rfl 0 80 j0 (.agg #[.int .i64 0, .int .i64 0, .slice none 0 0]) 3 40 Tryz.underlying34 hj jz0 jz1 jz2 rfl (by decide) _ _ _ rfl hxs ⟨w6.heap.size, 0, none⟩ 1 1 [_, _, _] rfl rfl (cell_new3 _ _ _ _ _) (one_cell3 _ _ _ _ _) (by unfold maxLen; omega) (by omega) (Nat.zero_le _) ?_; intro v7 w7 k1 k2 k3; obtain ⟨a7, c7, rfl, _⟩ := row_slice k1; obtain ⟨t0, t1, t2, HN⟩ := hnext w7 _ k1 k2 k3; clear hnext hxs k1 k2 k3 HV)
        | (go_simp; go_at_call 85; refine Calls.mono HWc5.out ?_; rintro r w6 ⟨gk, rfl, hb6, hg1, hg2, hcg⟩
           have hB6 : Below W5.heap.size W5 w6 := hD5.trans hb6
           obtain ⟨e0, e1, e2, e3, e4⟩ := HC8.out w6 hB6
           have zB := fun o => (HC8.out (w6.alloc o) (hB6.alloc hB6.size o)).2.2.2.1
           have HV := (show Hid _ from HV8.out w6 gk hB6 hg1 hg2 hcg)
           clear hb6 hB6 hg1 hg2 hcg))
      all_goals
        obtain ⟨hm8, hs8⟩ := HN.out
        have c81 := hm8.2.1
        obtain ⟨hr9, hx9⟩ := HFin.out _ _ hm8 hs8
        have HX9 := (show Hid _ from hx9)
        clear HV8 HC8 HWc5 HFin HN hm8 hs8 hx9 d0 d1 d2 d3 d4 hD5
        go_wp2_with (at_builtin; refine wpList_append_own_at _ rfl _ _ 23 rfl 0 3 i0 (.int .i64 0) 1 8 Tryz.underlying23 hi hz0 hz1 hz2 rfl (by decide) _ _ _ rfl hr9 ⟨w7.heap.size, 0, none⟩ 1 1 [_] (by first | rfl | simp [World.setCell]) rfl (by first | exact cell_new1 _ _ _ _ | (have := cell_new1 (w7.setCell ⟨s, 0, none⟩ (.slice a7 (p.length + 1) c7)) .i64 (p.length : Int) 3; rw [setCell_size] at this; exact this)) (one_cell1 _ _) (by unfold maxLen; omega) (by omega) (Nat.zero_le _) ?_; intro v9 w9 k1 k2 _ k3; obtain ⟨b9, c9, rfl, _⟩ := row_slice k1; obtain ⟨y1, y2, HN9⟩ := HX9.out w9 _ k1 k2 k3; clear HX9 hr9 k1 k2 k3)
        go_ret2
        exact ⟨rfl, HN9.out.1, fun r hr => by cases hr; exact HN9.out.2⟩
end Go.Proofs.YtobgkfpjokfbaaaGreatDoor
namespace Go.Proofs.YtobgkfpjokfbaaaGreatDoor
open Go.ChangeShapes Go.WideShapes Go.ChangeAt Go.RowKit
set_option linter.unusedVariables false

theorem eqI_same (a b : Option Addr) (len cap cap' : Nat) (l : List Int) (w : World) (h : Sl w a len l) (h' : Sl w b len l) (hn : len ≤ 1048576) :
    Calls Tryz.prog 33 #[.slice a len cap, .slice b len cap'] w fun e w' => e = .returned (.bool true) ∧ Below w.heap.size w w' := by
  obtain ⟨hlen, hsl⟩ := h
  obtain ⟨_, hsl'⟩ := h'
  have hne : ((len : Int) != len) = false := by simp
  go_enter Tryz.func33, Tryz.ntmps33
  go_wp2
  go_loopw [5] (fun i wr => ∃ (k : Nat), k ≤ len ∧ i = .int .i64 k ∧ Below w.heap.size w wr) (fun i _ => len - (intOf i).toNat)
  case atStart => exact ⟨0, Nat.zero_le _, rfl, Below.refl _ _⟩
  case round =>
    obtain ⟨k, hk, rfl, hbr⟩ := hrel
    by_cases hlt : k < len
    · obtain ⟨b1, off, rfl, hbl, hc⟩ : ∃ b off, a = some ⟨b, off, none⟩ ∧ b < w.heap.size ∧ ∀ i, i < len → w.cell? ⟨b, off + i, none⟩ = some (.int .i64 (l.getD i 0)) := by
        rcases hsl with h0 | h0
        · omega
        · exact h0
      obtain ⟨b2, off', rfl, hbl', hc'⟩ : ∃ b' off, b = some ⟨b', off, none⟩ ∧ b' < w.heap.size ∧ ∀ i, i < len → w.cell? ⟨b', off + i, none⟩ = some (.int .i64 (l.getD i 0)) := by
        rcases hsl' with h0 | h0
        · omega
        · exact h0
      have hck : wr.cell? ⟨b1, off + k, none⟩ = some (.int .i64 (l.getD k 0)) := (hbr.cell (p := ⟨b1, off + k, none⟩) hbl).trans (hc k hlt)
      have hck' : wr.cell? ⟨b2, off' + k, none⟩ = some (.int .i64 (l.getD k 0)) := (hbr.cell (p := ⟨b2, off' + k, none⟩) hbl').trans (hc' k hlt)
      clear hc hc' hsl hsl'
      generalize l.getD k 0 = z at hck hck'
      have hlt' : (k : Int) < len := by omega
      go_wp2
      go_quiet (fail)
      go_wp2
      go_roundw
      case rel => exact ⟨k + 1, by omega, by go_num, Go.below_drewN hbr _⟩
      case measure => simp [intOf]; omega
    · go_wp2
      go_ret
      exact ⟨rfl, hbr⟩
end Go.Proofs.YtobgkfpjokfbaaaGreatDoor
namespace Go.Proofs.YtobgkfpjokfbaaaGreatDoor
open Go.ChangeShapes Go.WideShapes Go.ChangeAt Go.RowKit
set_option linter.unusedVariables false

set_option maxHeartbeats 800000 in
theorem copyG_any (a b : Option Addr) (len cap lb cb : Nat) (p : List EN) (l : List Int) (w : World) (h : ESl w a len p) (hl : Sl w b lb l) (hn : len ≤ 1048576) (hp : ∀ i, i < len → (p.getD i e0).2.2.length ≤ 1048576) (hn2 : lb ≤ 1048576) :
    Calls Tryz.prog 8 #[.agg #[.slice a len cap, .slice b lb cb]] w fun e w' => ∃ g gp hi, e = .returned (.agg #[.slice (some ⟨g, 0, none⟩) len len, .slice (some ⟨gp, 0, none⟩) lb lb]) ∧ Below w.heap.size w w' ∧ w.heap.size ≤ g ∧ EMine w' g hi g len p ∧ hi ≤ gp ∧ MineI w' gp lb ∧ Sl w' (some ⟨gp, 0, none⟩) lb l := by
  obtain ⟨W1, hW1⟩ : ∃ W1, ((w.alloc (.cells #[.slice a len cap, .slice b lb cb] 25)).alloc (.cells #[.slice none 0 0, .slice none 0 0] 36)).alloc (.cells #[.slice none 0 0, .slice none 0 0] 36) = W1 := ⟨_, rfl⟩
  have hb1 : Below w.heap.size w W1 := by rw [← hW1]; exact (((Below.refl _ _).alloc (Nat.le_refl _) _).alloc (by simp) _).alloc (by simp; omega) _
  have hsz : W1.heap.size = w.heap.size + 3 := by rw [← hW1]; simp
  have n0 : W1.cell? ⟨w.heap.size, 0, none⟩ = some (.slice a len cap) := by rw [← hW1]; simp [go_sem]
  have n1 : W1.cell? ⟨w.heap.size, 1, none⟩ = some (.slice b lb cb) := by rw [← hW1]; simp [go_sem]
  have m0 : W1.cell? ⟨w.heap.size + 1, 0, none⟩ = some (.slice none 0 0) := by rw [← hW1]; simp [go_sem]
  have m1 : W1.cell? ⟨w.heap.size + 1, 1, none⟩ = some (.slice none 0 0) := by rw [← hW1]; simp [go_sem]
  have o0 : W1.cell? ⟨w.heap.size + 1 + 1, 0, none⟩ = some (.slice none 0 0) := by rw [← hW1]; simp [go_sem]
  have o1 : W1.cell? ⟨w.heap.size + 1 + 1, 1, none⟩ = some (.slice none 0 0) := by rw [← hW1]; simp [go_sem]
  have f0 : W1.frozen? ⟨w.heap.size + 1, 0, none⟩ = false := by rw [← hW1]; simp [go_sem]
  have f1 : W1.frozen? ⟨w.heap.size + 1, 1, none⟩ = false := by rw [← hW1]; simp [go_sem]
  have f2 : W1.frozen? ⟨w.heap.size + 1 + 1, 0, none⟩ = false := by rw [← hW1]; simp [go_sem]
  have f3 : W1.frozen? ⟨w.heap.size + 1 + 1, 1, none⟩ = false := by rw [← hW1]; simp [go_sem]
  have HC := (show Hid _ from copyE_mine a len cap p W1 (h.keep hb1) hn hp)
  have HI : Hid (∀ W, Below w.heap.size w W → Calls Tryz.prog 26 #[.slice b lb cb] W fun e w' => e = .returned (.slice (some ⟨W.heap.size, 0, none⟩) lb lb) ∧ Below W.heap.size W w' ∧ Sl w' (some ⟨W.heap.size, 0, none⟩) lb l ∧ MineI w' W.heap.size lb) := fun W hW => copyI_mine b lb cb l W (hl.keep hW) hn2
  clear h hl
  go_enter Tryz.func8, Tryz.ntmps8
  go_wp2_with fail
  (try rw [hW1])
  refine Calls.mono HC.out ?_
  rintro e w2 ⟨rfl, hb2, hE2⟩
  have lt1 : w.heap.size < W1.heap.size := by omega
  have lt2 : w.heap.size + 1 < W1.heap.size := by omega
  have lt3 : w.heap.size + 1 + 1 < W1.heap.size := by omega
  have q1 := (hb2.cell (p := ⟨w.heap.size, 1, none⟩) lt1).trans n1
  have q2 := (hb2.cell (p := ⟨w.heap.size + 1, 0, none⟩) lt2).trans m0
  have q3 := (hb2.cell (p := ⟨w.heap.size + 1, 1, none⟩) lt2).trans m1
  have q4 := (hb2.cell (p := ⟨w.heap.size + 1 + 1, 0, none⟩) lt3).trans o0
  have q5 := (hb2.cell (p := ⟨w.heap.size + 1 + 1, 1, none⟩) lt3).trans o1
  have r2 := (hb2.frozen (p := ⟨w.heap.size + 1, 0, none⟩) lt2).trans f0
  have r3 := (hb2.frozen (p := ⟨w.heap.size + 1, 1, none⟩) lt2).trans f1
  have r4 := (hb2.frozen (p := ⟨w.heap.size + 1 + 1, 0, none⟩) lt3).trans f2
  have r5 := (hb2.frozen (p := ⟨w.heap.size + 1 + 1, 1, none⟩) lt3).trans f3
  have hB2 : Below w.heap.size w w2 := hb1.trans (hb2.mono hb1.size)
  have hg2 : W1.heap.size < w2.heap.size := hE2.2.2.1
  obtain ⟨g, hg⟩ : ∃ g, W1.heap.size = g := ⟨_, rfl⟩
  rw [hg] at hE2 hg2 lt1 lt2 lt3 ⊢
  clear hb2 HC hb1 n0 n1 m0 m1 o0 o1 f0 f1 f2 f3 hW1 hsz hg
  obtain ⟨W3, hW3⟩ : ∃ W3, w2.setCell ⟨w.heap.size + 1 + 1, 0, none⟩ (.slice (some ⟨g, 0, none⟩) len len) = W3 := ⟨_, rfl⟩
  have hB3 : Below w.heap.size w W3 := by rw [← hW3]; exact hB2.setCell (by show w.heap.size ≤ w.heap.size + 1 + 1; omega) _
  have hs3 : W3.heap.size = w2.heap.size := by rw [← hW3]; simp [World.setCell]
  have hE3 : EMine W3 g w2.heap.size g len p := hE2.map (Nat.le_refl _) (Nat.le_refl _) (by omega) (fun b h1 h2 => by rw [← hW3]; exact Below.heap_setCell _ _ _ _ (by show b ≠ w.heap.size + 1 + 1; omega))
  have l0 : w.heap.size < W3.heap.size := by omega
  have l1 : w.heap.size + 1 < W3.heap.size := by omega
  have l2 : w.heap.size + 1 + 1 < W3.heap.size := by omega
  have s1 : W3.cell? ⟨w.heap.size, 1, none⟩ = some (.slice b lb cb) := by rw [← hW3]; simp [go_sem, q1]
  have s2 : W3.cell? ⟨w.heap.size + 1, 0, none⟩ = some (.slice none 0 0) := by rw [← hW3]; simp [go_sem, q2]
  have s3 : W3.cell? ⟨w.heap.size + 1, 1, none⟩ = some (.slice none 0 0) := by rw [← hW3]; simp [go_sem, q3]
  have s4 : W3.cell? ⟨w.heap.size + 1 + 1, 0, none⟩ = some (.slice (some ⟨g, 0, none⟩) len len) := by rw [← hW3]; simp [go_sem, q4]
  have s5 : W3.cell? ⟨w.heap.size + 1 + 1, 1, none⟩ = some (.slice none 0 0) := by rw [← hW3]; simp [go_sem, q5]
  have u2 : W3.frozen? ⟨w.heap.size + 1, 0, none⟩ = false := by rw [← hW3]; simpa [go_sem] using r2
  have u3 : W3.frozen? ⟨w.heap.size + 1, 1, none⟩ = false := by rw [← hW3]; simpa [go_sem] using r3
  have u5 : W3.frozen? ⟨w.heap.size + 1 + 1, 1, none⟩ = false := by rw [← hW3]; simpa [go_sem] using r5
  have HE3 : Hid (EMine W3 g w2.heap.size g len p) := hE3
  have HB3 := (show Hid _ from hB3)
  have HI3 := (show Hid _ from HI.out W3 hB3)
  clear hE2 hB2 hE3 hB3 HI
  go_wp2_with fail
  (try rw [hW3])
  refine Calls.mono HI3.out ?_
  rintro e w4 ⟨rfl, hb4, hs4, hm4⟩
  have a2 := (hb4.cell (p := ⟨w.heap.size + 1, 0, none⟩) l1).trans s2
  have a3 := (hb4.cell (p := ⟨w.heap.size + 1, 1, none⟩) l1).trans s3
  have a4 := (hb4.cell (p := ⟨w.heap.size + 1 + 1, 0, none⟩) l2).trans s4
  have a5 := (hb4.cell (p := ⟨w.heap.size + 1 + 1, 1, none⟩) l2).trans s5
  have b2 := (hb4.frozen (p := ⟨w.heap.size + 1, 0, none⟩) l1).trans u2
  have b3 := (hb4.frozen (p := ⟨w.heap.size + 1, 1, none⟩) l1).trans u3
  have b5 := (hb4.frozen (p := ⟨w.heap.size + 1 + 1, 1, none⟩) l2).trans u5
  have HX : Hid (Below w.heap.size w w4 ∧ EMine w4 g w2.heap.size g len p ∧ Sl w4 (some ⟨W3.heap.size, 0, none⟩) lb l ∧ MineI w4 W3.heap.size lb) := ⟨HB3.out.trans (hb4.mono HB3.out.size), HE3.out.keep hb4, hs4, hm4⟩
  have hgp : w2.heap.size ≤ W3.heap.size := by omega
  obtain ⟨gp, hgp'⟩ : ∃ gp, W3.heap.size = gp := ⟨_, rfl⟩
  rw [hgp'] at HX hgp ⊢
  clear hb4 hs4 hm4 HE3 HB3 HI3 hW3 s1 s2 s3 s4 s5 u2 u3 u5 q1 q2 q3 q4 q5 r2 r3 r4 r5 l0 l1 l2 hs3 hgp'
  have HP : Hid (∀ v1 v2 v3 : Value, ∀ w5, ((w4.setCell ⟨w.heap.size + 1 + 1, 1, none⟩ v1).setCell ⟨w.heap.size + 1, 0, none⟩ v2).setCell ⟨w.heap.size + 1, 1, none⟩ v3 = w5 → Below w.heap.size w w5 ∧ EMine w5 g w2.heap.size g len p ∧ MineI w5 gp lb ∧ Sl w5 (some ⟨gp, 0, none⟩) lb l) := fun v1 v2 v3 w5 h5 => by
    obtain ⟨x1, x2, x3, x4⟩ := HX.out
    have hs5 : w5.heap.size = w4.heap.size := by rw [← h5]; simp [World.setCell]
    have hblk : ∀ b, g ≤ b → w5.heap[b]? = w4.heap[b]? := fun b hb => by
      rw [← h5, Below.heap_setCell _ _ _ _ (by show b ≠ w.heap.size + 1; omega), Below.heap_setCell _ _ _ _ (by show b ≠ w.heap.size + 1; omega), Below.heap_setCell _ _ _ _ (by show b ≠ w.heap.size + 1 + 1; omega)]
    have hx2 := x2.2.2.2.1
    have hgg := x2.2.2.1
    refine ⟨?_, x2.map (Nat.le_refl _) (Nat.le_refl _) (by omega) (fun b h1 _ => hblk b h1), ⟨by have := x4.1; omega, fun i hi => ?_⟩, x3.1, .inr ⟨gp, 0, rfl, by have := x4.1; omega, fun i hi => ?_⟩⟩
    · rw [← h5]; exact ((x1.setCell (by show w.heap.size ≤ w.heap.size + 1 + 1; omega) _).setCell (by show w.heap.size ≤ w.heap.size + 1; omega) _).setCell (by show w.heap.size ≤ w.heap.size + 1; omega) _
    · obtain ⟨⟨v, hv⟩, hf⟩ := x4.2 i hi
      exact ⟨⟨v, (World.cell?_of_block (a := ⟨gp, i, none⟩) (hblk gp (by omega))).trans hv⟩, (World.frozen?_of_block (a := ⟨gp, i, none⟩) (hblk gp (by omega))).trans hf⟩
    · rcases x3.2 with h0 | ⟨b', off, e, _, hc⟩
      · omega
      · cases e
        exact (World.cell?_of_block (a := ⟨gp, 0 + i, none⟩) (hblk gp (by omega))).trans (hc i hi)
  go_wp2
  refine bodyPost_ret (v := .agg #[.slice (some ⟨g, 0, none⟩) len len, .slice (some ⟨gp, 0, none⟩) lb lb]) (by simp [results, Tryz.results8, go_sem, *]) rfl ⟨g, gp, w2.heap.size, rfl, ?_⟩
  obtain ⟨x1, x2, x3, x4⟩ := HP.out _ _ _ _ rfl
  exact ⟨x1, by omega, x2, hgp, x3, x4⟩
theorem eqE_same (op n : Int) (a b : Option Addr) (len cap cap' : Nat) (l : List Int) (w : World) (h : Sl w a len l) (h' : Sl w b len l) (hn : len ≤ 1048576) :
    Calls Tryz.prog 63 #[.agg #[.int .i64 op, .int .i64 n, .slice a len cap], .agg #[.int .i64 op, .int .i64 n, .slice b len cap']] w fun e w' => e = .returned (.bool true) ∧ Below w.heap.size w w' := by
  obtain ⟨W1, hW1⟩ : ∃ W1, (w.alloc (.cells #[.int .i64 op, .int .i64 n, .slice a len cap] 80)).alloc (.cells #[.int .i64 op, .int .i64 n, .slice b len cap'] 80) = W1 := ⟨_, rfl⟩
  have hb1 : Below w.heap.size w W1 := by rw [← hW1]; exact ((Below.refl _ _).alloc (Nat.le_refl _) _).alloc (by simp) _
  have n0 : W1.cell? ⟨w.heap.size, 0, none⟩ = some (.int .i64 op) := by rw [← hW1]; simp [go_sem]
  have n1 : W1.cell? ⟨w.heap.size, 1, none⟩ = some (.int .i64 n) := by rw [← hW1]; simp [go_sem]
  have n2 : W1.cell? ⟨w.heap.size, 2, none⟩ = some (.slice a len cap) := by rw [← hW1]; simp [go_sem]
  have m0 : W1.cell? ⟨w.heap.size + 1, 0, none⟩ = some (.int .i64 op) := by rw [← hW1]; simp [go_sem]
  have m1 : W1.cell? ⟨w.heap.size + 1, 1, none⟩ = some (.int .i64 n) := by rw [← hW1]; simp [go_sem]
  have m2 : W1.cell? ⟨w.heap.size + 1, 2, none⟩ = some (.slice b len cap') := by rw [← hW1]; simp [go_sem]
  have HE := (show Hid _ from eqI_same a b len cap cap' l W1 (h.keep hb1) (h'.keep hb1) hn)
  have HB := (show Hid _ from hb1)
  have i1 : (op != op) = false := by simp
  have i2 : (n != n) = false := by simp
  clear h h' hb1
  go_enter Tryz.func63, Tryz.ntmps63
  go_wp2_with fail
  (try rw [hW1])
  refine Calls.mono HE.out ?_
  rintro e w2 ⟨rfl, hb2⟩
  have HB2 : Hid (Below w.heap.size w w2) := HB.out.trans (hb2.mono HB.out.size)
  clear HE hb2 hW1
  go_wp2
  go_ret
  exact ⟨rfl, HB2.out⟩
set_option maxHeartbeats 1600000 in
set_option maxRecDepth 20000 in
theorem eqES_same (a b : Option Addr) (len cap cap' : Nat) (p : List EN) (w : World) (h : ESl w a len p) (h' : ESl w b len p) (hn : len ≤ 1048576) (hp : ∀ i, i < len → (p.getD i e0).2.2.length ≤ 1048576) :
    Calls Tryz.prog 32 #[.slice a len cap, .slice b len cap'] w fun e w' => e = .returned (.bool true) ∧ Below w.heap.size w w' := by
  have hne : ((len : Int) != len) = false := by simp
  have HS : Hid (ESl w a len p ∧ ESl w b len p) := ⟨h, h'⟩
  have HP := (show Hid _ from hp)
  clear h h' hp
  go_enter Tryz.func32, Tryz.ntmps32
  go_wp2_with fail
  go_loopw [5] (fun i wr => ∃ (k : Nat), k ≤ len ∧ i = .int .i64 k ∧ Below w.heap.size w wr) (fun i _ => len - (intOf i).toNat)
  case atStart => exact ⟨0, Nat.zero_le _, rfl, Below.refl _ _⟩
  case round =>
    obtain ⟨k, hk, rfl, hbr⟩ := hrel
    by_cases hlt : k < len
    · obtain ⟨bn, on, rfl, hbl, hc⟩ := (HS.out.1.keep hbr).at (by omega)
      obtain ⟨ai, li, ci, c1, c2, c3, hli, hci, hS⟩ := hc k hlt
      obtain ⟨bm, om, rfl, hbm, hd⟩ := (HS.out.2.keep hbr).at (by omega)
      obtain ⟨aj, lj, cj, d1, d2, d3, hlj, hcj, hS'⟩ := hd k hlt
      have hpk := HP.out k hlt
      obtain ⟨m, hm⟩ : ∃ m, p.getD k e0 = m := ⟨_, rfl⟩
      obtain ⟨xo, xn, xk⟩ := m
      rw [hm] at c1 c2 d1 d2 hS hS' hpk
      simp only at c1 c2 d1 d2 hS hS' hpk
      obtain rfl : li = lj := by rw [← hS.1, ← hS'.1]
      have hl1 := hS.1
      have hlt' : (k : Int) < len := by omega
      have g0 : ∀ x : Ahead wr, x.w.cell? ⟨bn, on + k * 3, none⟩ = some (.int .i64 xo) := fun x => (x.h.cell (p := ⟨bn, on + k * 3, none⟩) hbl).trans c1
      have g1 : ∀ x : Ahead wr, x.w.cell? ⟨bn, on + k * 3 + 1, none⟩ = some (.int .i64 xn) := fun x => (x.h.cell (p := ⟨bn, on + k * 3 + 1, none⟩) hbl).trans c2
      have g2 : ∀ x : Ahead wr, x.w.cell? ⟨bn, on + k * 3 + 2, none⟩ = some (.slice ai li ci) := fun x => (x.h.cell (p := ⟨bn, on + k * 3 + 2, none⟩) hbl).trans c3
      have g3 : ∀ x : Ahead wr, x.w.cell? ⟨bm, om + k * 3, none⟩ = some (.int .i64 xo) := fun x => (x.h.cell (p := ⟨bm, om + k * 3, none⟩) hbm).trans d1
      have g4 : ∀ x : Ahead wr, x.w.cell? ⟨bm, om + k * 3 + 1, none⟩ = some (.int .i64 xn) := fun x => (x.h.cell (p := ⟨bm, om + k * 3 + 1, none⟩) hbm).trans d2
      have g5 : ∀ x : Ahead wr, x.w.cell? ⟨bm, om + k * 3 + 2, none⟩ = some (.slice aj li cj) := fun x => (x.h.cell (p := ⟨bm, om + k * 3 + 2, none⟩) hbm).trans d3
      have HA : Hid (∀ x : Ahead wr, Calls Tryz.prog 63 #[.agg #[.int .i64 xo, .int .i64 xn, .slice ai li ci], .agg #[.int .i64 xo, .int .i64 xn, .slice aj li cj]] x.w fun e w' => e = .returned (.bool true) ∧ Below x.w.heap.size x.w w') := fun x => eqE_same xo xn ai aj li ci cj xk x.w (hS.keep x.h) (hS'.keep x.h) (by omega)
      have HFx : Hid (∀ x : Ahead wr, Below w.heap.size w x.w) := fun x => hbr.trans (x.h.mono hbr.size)
      clear hc hd hS hS' c1 c2 c3 d1 d2 d3 hm hpk hbr
      go_wp2_with fail
      have hne' := ahead_some wr
      refine wp_region_ahead (by kernel_rfl) (by kernel_rfl) ?_
      repeat (first
        | go_big_quiet_skip
        | (go_big_quiet_want; go_big_quiet_op; first | go_big_quiet_on | (apply Exists.intro; refine ⟨fun x => ?_, ?_⟩; (focus (exact ahead_of (HA.out x))); go_big_quiet_on)))
      refine wpQuiet_nil ?_
      intro _ hw'
      obtain ⟨xq, rfl⟩ := hw'
      go_wp2
      exact ⟨⟨k + 1, by omega, by go_num, HFx.out xq⟩, by simp [intOf]; omega⟩
    · go_wp2
      go_ret
      exact ⟨rfl, hbr⟩
theorem eqG_same (a b a' b' : Option Addr) (len cap cap' lb cb cb' : Nat) (p : List EN) (l : List Int) (w : World) (h : ESl w a len p) (h' : ESl w a' len p) (hl : Sl w b lb l) (hl' : Sl w b' lb l) (hn : len ≤ 1048576) (hp : ∀ i, i < len → (p.getD i e0).2.2.length ≤ 1048576) (hn2 : lb ≤ 1048576) :
    Calls Tryz.prog 12 #[.agg #[.slice a len cap, .slice b lb cb], .agg #[.slice a' len cap', .slice b' lb cb']] w fun e w' => e = .returned (.bool true) ∧ Below w.heap.size w w' := by
  obtain ⟨W1, hW1⟩ : ∃ W1, (w.alloc (.cells #[.slice a len cap, .slice b lb cb] 36)).alloc (.cells #[.slice a' len cap', .slice b' lb cb'] 36) = W1 := ⟨_, rfl⟩
  have hb1 : Below w.heap.size w W1 := by rw [← hW1]; exact ((Below.refl _ _).alloc (Nat.le_refl _) _).alloc (by simp) _
  have hsz : W1.heap.size = w.heap.size + 2 := by rw [← hW1]; simp
  have n0 : W1.cell? ⟨w.heap.size, 0, none⟩ = some (.slice a len cap) := by rw [← hW1]; simp [go_sem]
  have n1 : W1.cell? ⟨w.heap.size, 1, none⟩ = some (.slice b lb cb) := by rw [← hW1]; simp [go_sem]
  have m0 : W1.cell? ⟨w.heap.size + 1, 0, none⟩ = some (.slice a' len cap') := by rw [← hW1]; simp [go_sem]
  have m1 : W1.cell? ⟨w.heap.size + 1, 1, none⟩ = some (.slice b' lb cb') := by rw [← hW1]; simp [go_sem]
  have lt0 : w.heap.size < W1.heap.size := by omega
  have lt1 : w.heap.size + 1 < W1.heap.size := by omega
  have HE := (show Hid _ from eqES_same a a' len cap cap' p W1 (h.keep hb1) (h'.keep hb1) hn hp)
  have HI : Hid (∀ W, Below W1.heap.size W1 W → Calls Tryz.prog 33 #[.slice b lb cb, .slice b' lb cb'] W fun e w' => e = .returned (.bool true) ∧ Below W.heap.size W w') := fun W hW => eqI_same b b' lb cb cb' l W ((hl.keep hb1).keep hW) ((hl'.keep hb1).keep hW) hn2
  have HF : Hid (∀ W, Below W1.heap.size W1 W → Below w.heap.size w W) := fun W hW => hb1.trans (hW.mono hb1.size)
  clear h h' hl hl' hb1 hsz
  go_enter Tryz.func12, Tryz.ntmps12
  go_wp2_with fail
  (try rw [hW1])
  refine Calls.mono HE.out ?_
  rintro e w2 ⟨rfl, hb2⟩
  have q1 := (hb2.cell (p := ⟨w.heap.size, 1, none⟩) lt0).trans n1
  have q2 := (hb2.cell (p := ⟨w.heap.size + 1, 1, none⟩) lt1).trans m1
  have HI2 := (show Hid _ from HI.out w2 hb2)
  clear HE hW1 HI
  go_wp2_with fail
  refine Calls.mono HI2.out ?_
  rintro e w3 ⟨rfl, hb3⟩
  have HB3 : Hid (Below w.heap.size w w3) := HF.out _ (hb2.trans (hb3.mono hb2.size))
  clear HI2 hb2 hb3
  go_wp2
  go_ret
  exact ⟨rfl, HB3.out⟩
end Go.Proofs.YtobgkfpjokfbaaaGreatDoor
