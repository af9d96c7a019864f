/-
  PROVED HERE: the laws' own drawn sums of products: some list of products, not too long, in new memory, whatever the bytes. No condition.
-/
import Derived.Test.YtpjgjpjfchfmlaaGreatDoorDrawRing
import Derived.Test.YtpjgjpjfchfmlaaGreatDoorSPolyAll
import Derived.Deep.RegionHeld3
namespace Go.Proofs.YtpjgjpjfchfmlaaGreatDoor
open Go.ChangeShapes Go.WideShapes Go.ChangeAt Go.RowKit
set_option linter.unusedVariables false

theorem chooseL {α : Type} (d : α) {n : Nat} {P : Nat → α → Prop} (h : ∀ i, i < n → ∃ x, P i x) : ∃ f : Nat → α, ∀ i, i < n → P i (f i) :=
  ⟨fun i => if h' : i < n then (h i h').choose else d, fun i hi => by show P i (if h' : i < n then (h i h').choose else d); rw [dif_pos hi]; exact (h i hi).choose_spec⟩
/-- Some numbers, some products, in blocks from B on. -/
def AnyI (w : World) (B : Nat) (a : Option Addr) (l : Nat) : Prop := l = 0 ∨ ∃ b o, a = some ⟨b, o, none⟩ ∧ B ≤ b ∧ b < w.heap.size ∧ ∀ j, j < l → ∃ z : Int, w.cell? ⟨b, o + j, none⟩ = some (.int .i64 z)
def AnyQ (w : World) (B : Nat) (v : Value) (n : Nat) : Prop := ∃ a cap, v = .slice a n cap ∧ (n = 0 ∨ ∃ b off, a = some ⟨b, off, none⟩ ∧ B ≤ b ∧ b < w.heap.size ∧ ∀ i, i < n → ∃ ai li ci, w.cell? ⟨b, off + i * 2, none⟩ = some (.slice ai li ci) ∧ li ≤ 9223372036854775807 ∧ li ≤ ci ∧ AnyI w B ai li ∧ ∃ z : Int, w.cell? ⟨b, off + i * 2 + 1, none⟩ = some (.int .i64 z) ∧ InI z)
theorem AnyI.list {w : World} {B : Nat} {a : Option Addr} {l : Nat} (h : AnyI w B a l) : ∃ e, Sl w a l e := by
  rcases h with rfl | ⟨b, o, rfl, _, hb, hc⟩
  · exact ⟨[], rfl, .inl rfl⟩
  · obtain ⟨f, hf⟩ := chooseL (0 : Int) hc
    refine ⟨(List.range l).map f, by simp, .inr ⟨b, o, rfl, hb, fun i hi => ?_⟩⟩
    have e : ((List.range l).map f).getD i 0 = f i := by simp [List.getD_eq_getElem?_getD, hi]
    rw [e]
    exact hf i hi
theorem AnyQ.list {w : World} {B : Nat} {v : Value} {n : Nat} (h : AnyQ w B v n) : ∃ q, SpecV w v q ∧ (∀ x ∈ q, InI x.2) ∧ q.length = n := by
  obtain ⟨a, cap, rfl, h⟩ := h
  rcases h with rfl | ⟨b, off, rfl, _, hb, hc⟩
  · exact ⟨[], ⟨a, cap, rfl, rfl, .inl rfl⟩, (fun x hx => by cases hx), rfl⟩
  · have hc' : ∀ i, i < n → ∃ m : Mon, ∃ ai li ci, w.cell? ⟨b, off + i * 2, none⟩ = some (.slice ai li ci) ∧ li ≤ 9223372036854775807 ∧ li ≤ ci ∧ Sl w ai li m.1 ∧ w.cell? ⟨b, off + i * 2 + 1, none⟩ = some (.int .i64 m.2) ∧ InI m.2 := fun i hi => by
      obtain ⟨ai, li, ci, h1, h2, h3, h4, z, h5, h6⟩ := hc i hi
      obtain ⟨e, he⟩ := h4.list
      exact ⟨(e, z), ai, li, ci, h1, h2, h3, he, h5, h6⟩
    obtain ⟨f, hf⟩ := chooseL (([], 0) : Mon) hc'
    refine ⟨(List.range n).map f, ⟨some ⟨b, off, none⟩, cap, by simp, by simp, ?_⟩, fun x hx => ?_, by simp⟩
    · by_cases h0 : n = 0
      · exact .inl (by simp [h0])
      · refine .inr ⟨b, off, rfl, hb, fun i hi => ?_⟩
        have hi' : i < n := by simpa using hi
        have e : ((List.range n).map f).getD i ([], 0) = f i := by simp [List.getD_eq_getElem?_getD, hi']
        rw [e]
        obtain ⟨ai, li, ci, h1, h2, h3, h4, h5, _⟩ := hf i hi'
        exact ⟨ai, li, ci, h1, h2, h3, h4, h5⟩
    · simp only [List.mem_map, List.mem_range] at hx
      obtain ⟨i, hi, rfl⟩ := hx
      obtain ⟨ai, li, ci, _, _, _, _, _, h6⟩ := hf i hi
      exact h6
theorem AnyI.map {w w' : World} {B : Nat} {a : Option Addr} {l : Nat} (h : AnyI w B a l) (hs : w.heap.size ≤ w'.heap.size) (hk : ∀ b o, B ≤ b → b < w.heap.size → ∀ z : Int, w.cell? ⟨b, o, none⟩ = some (.int .i64 z) → ∃ z' : Int, w'.cell? ⟨b, o, none⟩ = some (.int .i64 z')) : AnyI w' B a l := by
  rcases h with rfl | ⟨b, o, rfl, h1, hb, hc⟩
  · exact .inl rfl
  · exact .inr ⟨b, o, rfl, h1, by omega, fun j hj => by obtain ⟨z, hz⟩ := hc j hj; exact hk b _ h1 hb z hz⟩
theorem AnyQ.map {w w' : World} {B : Nat} {v : Value} {n : Nat} (h : AnyQ w B v n) (hs : w.heap.size ≤ w'.heap.size) (hk : ∀ b o, B ≤ b → b < w.heap.size → ∀ z : Int, w.cell? ⟨b, o, none⟩ = some (.int .i64 z) → ∃ z' : Int, w'.cell? ⟨b, o, none⟩ = some (.int .i64 z') ∧ (InI z → InI z')) (hl : ∀ b o, B ≤ b → b < w.heap.size → ∀ a l c, w.cell? ⟨b, o, none⟩ = some (.slice a l c) → w'.cell? ⟨b, o, none⟩ = some (.slice a l c)) : AnyQ w' B v n := by
  obtain ⟨a, cap, rfl, h⟩ := h
  refine ⟨a, cap, rfl, ?_⟩
  rcases h with rfl | ⟨b, off, rfl, h1, hb, hc⟩
  · exact .inl rfl
  · refine .inr ⟨b, off, rfl, h1, by omega, fun i hi => ?_⟩
    obtain ⟨ai, li, ci, k1, k2, k3, k4, z, k5, k6⟩ := hc i hi
    obtain ⟨z', k7, k8⟩ := hk b _ h1 hb z k5
    exact ⟨ai, li, ci, hl b _ h1 hb _ _ _ k1, k2, k3, k4.map hs (fun b o g1 g2 z hz => by obtain ⟨z', q1, _⟩ := hk b o g1 g2 z hz; exact ⟨z', q1⟩), z', k7, k8 k6⟩
theorem AnyQ.blocks {w w' : World} {B : Nat} {v : Value} {n : Nat} (h : AnyQ w B v n) (hs : w.heap.size ≤ w'.heap.size) (hk : ∀ b, B ≤ b → b < w.heap.size → w'.heap[b]? = w.heap[b]?) : AnyQ w' B v n :=
  h.map hs (fun b o h1 h2 z hz => ⟨z, (World.cell?_of_block (a := ⟨b, o, none⟩) (hk b h1 h2)).trans hz, id⟩) (fun b o h1 h2 a l c hz => (World.cell?_of_block (a := ⟨b, o, none⟩) (hk b h1 h2)).trans hz)
theorem AnyQ.keep {w w' : World} {B : Nat} {v : Value} {n : Nat} (h : AnyQ w B v n) (hb : Below w.heap.size w w') : AnyQ w' B v n := h.blocks hb.size (fun b _ hs => hb.block b hs)
theorem AnyQ.grown {w w' : World} {B c : Nat} {v : Value} {n : Nat} (h : AnyQ w B v n) (hg : w.grownBy w' (some c)) (hc : c < B) : AnyQ w' B v n := h.blocks hg.size (fun b h1 hs => hg.block b hs (fun e => by cases e; omega))
theorem AnyQ.base {w : World} {B B' : Nat} {v : Value} {n : Nat} (h : AnyQ w B v n) (hb : B' ≤ B) : AnyQ w B' v n := by
  obtain ⟨a, cap, rfl, h⟩ := h
  refine ⟨a, cap, rfl, ?_⟩
  rcases h with rfl | ⟨b, off, rfl, h1, hbl, hc⟩
  · exact .inl rfl
  · refine .inr ⟨b, off, rfl, by omega, hbl, fun i hi => ?_⟩
    obtain ⟨ai, li, ci, k1, k2, k3, k4, k5⟩ := hc i hi
    refine ⟨ai, li, ci, k1, k2, k3, ?_, k5⟩
    rcases k4 with rfl | ⟨b', o', rfl, g1, g2, g3⟩
    · exact .inl rfl
    · exact .inr ⟨b', o', rfl, by omega, g2, g3⟩
/-- A number is written where a number was. -/
theorem AnyQ.set {w : World} {B : Nat} {v : Value} {n : Nat} (h : AnyQ w B v n) (p : Addr) (y x : Int) (hy : w.cell? p = some (.int .i64 y)) (hx : InI x) : AnyQ (w.setCell p (.int .i64 x)) B v n := by
  refine h.map (by simp [World.setCell]) (fun b o _ _ z hz => ?_) (fun b o _ _ a l c hz => ?_)
  · by_cases e : p = ⟨b, o, none⟩
    · subst e
      exact ⟨x, World.cell?_setCell_same _ _ _ hy, fun _ => hx⟩
    · exact ⟨z, by rw [World.cell?_setCell_other _ _ _ _ e]; exact hz, id⟩
  · have e : p ≠ ⟨b, o, none⟩ := fun e => by subst e; rw [hz] at hy; cases hy
    rw [World.cell?_setCell_other _ _ _ _ e]; exact hz
theorem AnyQ.row {w : World} {B : Nat} {v : Value} {vs : List (Value × Int)} {q : List Mon} (h : PRow w B (fun b => B ≤ b) v vs q) (hq : ∀ x ∈ q, InI x.2) : AnyQ w B v q.length := by
  obtain ⟨h1, h2, h3⟩ := h
  rcases h1.2 with ⟨rfl, h0⟩ | ⟨g, cap, cur, rfl, hb, hg, _⟩
  · exact ⟨none, 0, by rw [h0], .inl h0⟩
  · refine ⟨_, _, rfl, .inr ⟨g, 0, rfl, hb, Array.getElem?_eq_some_iff.1 hg |>.1, fun i hi => ?_⟩⟩
    obtain ⟨k1, k2⟩ := flatV_get vs i (by omega)
    obtain ⟨⟨b', o', l', c', e1, e2, e3, e4, e5, e6, e7⟩, e8⟩ := h3 i hi
    rw [e1] at k1
    rw [Nat.zero_add]
    refine ⟨_, l', c', (h1.cellAt (i * 2) (by omega)).trans k1, by omega, e2, .inr ⟨b', o', rfl, e4.1, e5, fun j hj => ⟨_, e7 j hj⟩⟩, _, (h1.cellAt (i * 2 + 1) (by omega)).trans k2, ?_⟩
    rw [e8]
    exact hq _ (by rw [List.getD_eq_getElem?_getD, List.getElem?_eq_getElem hi]; exact List.getElem_mem hi)

set_option maxHeartbeats 3200000 in
set_option maxRecDepth 20000 in
theorem poly_any (w : World) (c n : Nat) (h : Cur w c n) (hn : n ≤ 40000) :
    Calls Tryz.prog 39 #[.pointer (some ⟨c, 0, none⟩)] w fun e w' => ∃ (v : Value) (k : Nat), e = .returned v ∧ AnyQ w' w.heap.size v k ∧ k ≤ 50 ∧ Drew w w' c n 3100 := by
  have hcl := h.lt
  obtain ⟨i0, hi, hz0, hz1, hz2⟩ := info_parts infoMono
  have C1 := (show Hid _ from ring_any w c n h (by omega))
  clear h
  go_enter Tryz.func39, Tryz.ntmps39
  go_wp2_with fail
  refine Calls.mono C1.out ?_
  rintro e w1 ⟨t, l, rfl, hNR, ⟨n1, hn1, hc1⟩, hg1⟩
  obtain ⟨a, len, cap, rfl, hS, hlen, hNI, _⟩ := hNR
  have C2 := (show Hid _ from specPolyOf_own a len cap l w1 hS (by omega) hNI.at)
  have hgood : ∀ s, ofT l = some s → GoodS s := by
    unfold ofT
    by_cases hr : isRingB l = true
    · rw [if_pos hr]
      unfold isRingB at hr
      rw [Bool.and_eq_true] at hr
      exact fun s e => ofF_good (fun k _ => hNI.at k) (vars4 (good_pile hr.1).1) _ _ s e
    · rw [if_neg hr]; intro s e; cases e
  have hgq : ((ofT l).getD []).length ≤ 40 ∧ (∀ x ∈ (ofT l).getD [], x.1.length = 4 ∧ InI x.2) := by
    cases e : ofT l with
    | none => exact ⟨by simp, fun x hx => by cases hx⟩
    | some s => exact ⟨poly_len (hgood s e).1, (hgood s e).fine⟩
  generalize (ofT l).getD [] = q at C2 hgq
  generalize (ofT l).isSome = ok at C2
  obtain ⟨hq40, hqf⟩ := hgq
  have HQF := (show Hid _ from hqf)
  clear C1 hS hNI hgood hlen hqf
  go_wp2_with fail
  refine Calls.mono C2.out ?_
  rintro e w2 ⟨v, rfl, hB2, hb2⟩
  have hs1 := hg1.size
  have hG2 := grown_own hg1 (grown_of hb2) (fun r hr => by cases hr)
  have hc2 := hc1.kept (grown_of hb2) (fun r hr => by cases hr)
  obtain ⟨hV, vs, hP, hF⟩ := hB2.base hs1
  obtain ⟨a2, cap2, rfl, hPS⟩ := hV
  clear C2 hc1 hb2 hg1 hB2
  have hA2 : AnyQ w2 w.heap.size (.slice a2 q.length cap2) q.length := AnyQ.row hP (fun x hx => (HQF.out x hx).2)
  have HA2 := (show Hid _ from hA2)
  clear hA2
  by_cases h0 : q.length = 0
  · have hz : ¬ (0 : Int) < q.length := by omega
    obtain ⟨Q, hQ⟩ : ∃ Q, q.length = Q := ⟨_, rfl⟩
    rw [hQ] at HA2 hz ⊢
    clear hP hF hPS
    go_wp2
    go_ret
    exact ⟨_, Q, rfl, HA2.out, by omega, ⟨n1, by omega, hc2⟩, hG2⟩
  · have hz : (0 : Int) < q.length := by omega
    have C3 := (show Hid _ from pick_any w2 c n1 20 hc2 (by omega) (by decide) (by decide))
    clear hc2
    go_wp2_with fail
    refine Calls.mono C3.out ?_
    rintro e w3 ⟨x, rfl, x0, x1, hc3, hg3⟩
    have hG3 := gtrans hG2 hg3
    have hA3 : AnyQ w3 w.heap.size (.slice a2 q.length cap2) q.length := AnyQ.grown HA2.out hg3 hcl
    have HA3 := (show Hid _ from hA3)
    have hblk : ∀ b, w.heap.size ≤ b → b < w2.heap.size → w3.heap[b]? = w2.heap[b]? := fun b h1 h2 => hg3.block b h2 (fun e => by cases e; omega)
    have hown : w2.ownsRow w.heap.size 57 2 (.slice a2 q.length cap2) q.length (flatV vs) := hP.1
    have hvl := hP.2.1
    have hrg := own_ge hown
    have hown3 := own_grown hown hg3 (fun x hx e => by cases e; have := hrg _ hx; omega)
    obtain ⟨g, rfl, hg0, hg1⟩ : ∃ g, a2 = some ⟨g, 0, none⟩ ∧ w.heap.size ≤ g ∧ g < w3.heap.size := by
      rcases hown3.2 with ⟨h1, h2⟩ | ⟨g, cap', cur, h1, h2, h3, _⟩
      · omega
      · cases h1
        exact ⟨g, rfl, h2, Array.getElem?_eq_some_iff.1 h3 |>.1⟩
    obtain ⟨k1, k2⟩ := flatV_get vs 0 (by omega)
    rw [Nat.zero_mul] at k1 k2
    have c0 := (hown3.cellAt 0 (by omega)).trans k1
    have c1 := (hown3.cellAt (0 + 1) (by omega)).trans k2
    have f1 := hown3.frozenAt 1
    have hp0 := (hP.2.2 0 (by omega)).1
    obtain ⟨b', o', l', c', e1, e2, e3, e4, e5, e6, e7⟩ := id hp0
    have hl4 : l' = 4 := by
      have := (HQF.out (q.getD 0 ([], 0)) (by rw [List.getD_eq_getElem?_getD, List.getElem?_eq_getElem (by omega)]; exact List.getElem_mem _)).1
      omega
    have hv0 : vs.getD 0 (.nilIface, 0) ∈ vs := by rw [List.getD_eq_getElem?_getD, List.getElem?_eq_getElem (by omega)]; exact List.getElem_mem _
    have fz := hF _ hv0 b' o' l' c' e1
    have d0 := (World.cell?_of_block (a := ⟨b', o' + 0, none⟩) (hblk b' e4.1 e5)).trans (e7 0 (by omega))
    have g0 : w3.frozen? ⟨b', o' + 0, none⟩ = false := (World.frozen?_of_block (a := ⟨b', o' + 0, none⟩) (hblk b' e4.1 e5)).trans (fz _)
    rw [e1] at c0
    rw [Nat.add_zero] at d0 g0
    subst hl4
    have hb'3 : b' < w3.heap.size := Nat.lt_of_lt_of_le e5 hg3.size
    have hne : b' ≠ g := fun e => by
      have := e4.2
      rw [e] at this
      exact this rfl
    have hx3 : x = 0 ∨ x = 1 ∨ x = 2 ∨ ((x == 0) = false ∧ (x == 1) = false ∧ (x == 2) = false) := by
      by_cases e0 : x = 0
      · exact .inl e0
      · by_cases e1 : x = 1
        · exact .inr (.inl e1)
        · by_cases e2 : x = 2
          · exact .inr (.inr (.inl e2))
          · exact .inr (.inr (.inr ⟨by simpa using e0, by simpa using e1, by simpa using e2⟩))
    obtain ⟨Q, hQ⟩ : ∃ Q, q.length = Q := ⟨_, rfl⟩
    have hP3 : PRow w3 w.heap.size (fun b => w.heap.size ≤ b) (.slice (some ⟨g, 0, none⟩) q.length cap2) vs q := by
      refine ⟨hown3, hvl, fun i hi => ?_⟩
      obtain ⟨t1, t2⟩ := hP.2.2 i hi
      exact ⟨t1.map hg3.size (fun b hb hs => ⟨hb, hblk b hb.1 hs⟩), t2⟩
    have HP3 := (show Hid _ from hP3)
    have HOWN3 := (show Hid _ from hown3)
    rw [hQ] at HA3 hz hq40
    clear C3 hP hF hPS hp0 e7 fz hA3 HA2 hown hP3 hown3 hblk hg3 hG2 k1 k2 h0
    rcases hx3 with rfl | rfl | rfl | ⟨y0, y1, y2⟩
    · have HS : Hid (AnyQ (w3.setCell ⟨g, 1, none⟩ (.int .i64 0)) w.heap.size (.slice (some ⟨g, 0, none⟩) Q cap2) Q) := AnyQ.set HA3.out _ _ 0 c1 (by unfold InI; omega)
      have HG : Hid (w.grownBy (w3.setCell ⟨g, 1, none⟩ (.int .i64 0)) (some c) ∧ Cur (w3.setCell ⟨g, 1, none⟩ (.int .i64 0)) c (n1 + 1)) := ⟨⟨hG3.os, hG3.tape, hG3.output, by have := hG3.size; simpa [World.setCell] using this, fun i hi hne => (Below.heap_setCell _ _ _ _ (fun e => by simp at e; omega)).trans (hG3.block i hi hne)⟩, hc3.kept (row := some g) ⟨rfl, rfl, rfl, by simp [World.setCell], fun i hi hne => Below.heap_setCell _ _ _ _ (fun e => hne (by rw [e]))⟩ (fun r hr => by cases hr; omega)⟩
      rw [hQ]
      clear HP3 HOWN3 HA3 d0 g0
      go_wp2
      go_ret
      exact ⟨_, Q, rfl, HS.out, by omega, ⟨n1 + 1, by omega, HG.out.2⟩, HG.out.1⟩
    · have hbD : Below w3.heap.size w3 w3.drew := below_drewN (Below.refl _ _) 1
      have hbA : Below w3.heap.size w3 (w3.alloc (.cells #[.int .i64 9, .int .i64 10, .int .i64 (-1)] 3)).drew := below_drewN ((Below.refl _ _).alloc (Nat.le_refl _) _) 1
      have hcA := hc3.kept (grown_of hbA) (fun r hr => by cases hr)
      have CA : Hid (Calls Tryz.prog 74 #[.pointer (some ⟨c, 0, none⟩), .slice (some ⟨w3.heap.size, 0, none⟩) 3 3] ((w3.alloc (.cells #[.int .i64 9, .int .i64 10, .int .i64 (-1)] 3)).drew) fun e w' => ∃ z : Int, InI z ∧ e = .returned (.int .i64 z) ∧ Cur w' c (n1 + 1 + 1) ∧ ((w3.alloc (.cells #[.int .i64 9, .int .i64 10, .int .i64 (-1)] 3)).drew).grownBy w' (some c)) := by
        refine (among_any ((w3.alloc (.cells #[.int .i64 9, .int .i64 10, .int .i64 (-1)] 3)).drew) c (n1 + 1) w3.heap.size 3 [9, 10, -1] hcA (by omega) (by decide) (by decide) (by omega) (fun i hi => by
          have : i = 0 ∨ i = 1 ∨ i = 2 := by simp at hi; omega
          rcases this with rfl | rfl | rfl <;> simp [go_sem])).mono ?_
        rintro e w' ⟨i, hi, rfl, h1, h2⟩
        refine ⟨_, ?_, rfl, h1, h2⟩
        have : i = 0 ∨ i = 1 ∨ i = 2 := by simp at hi; omega
        rcases this with rfl | rfl | rfl <;> (unfold InI; simp)
      have zD : w3.drew.cell? ⟨g, 0, none⟩ = some (.slice (some ⟨b', o', none⟩) 4 c') := (hbD.cell (p := ⟨g, 0, none⟩) hg1).trans c0
      have zA : (w3.alloc (.cells #[.int .i64 9, .int .i64 10, .int .i64 (-1)] 3)).drew.cell? ⟨g, 0, none⟩ = some (.slice (some ⟨b', o', none⟩) 4 c') := (hbA.cell (p := ⟨g, 0, none⟩) hg1).trans c0
      have hG4 := grown_own hG3 (grown_of hbA) (fun r hr => by cases hr)
      have HF : Hid (∀ w4 (z : Int), InI z → (w3.alloc (.cells #[.int .i64 9, .int .i64 10, .int .i64 (-1)] 3)).drew.grownBy w4 (some c) → Cur w4 c (n1 + 1 + 1) → w4.cell? ⟨g, 0, none⟩ = some (.slice (some ⟨b', o', none⟩) 4 c') ∧ w4.cell? ⟨b', o', none⟩ = some (.int .i64 ((q.getD 0 ([], 0)).1.getD 0 0)) ∧ w4.frozen? ⟨b', o', none⟩ = false ∧ (w4.setCell ⟨b', o', none⟩ (.int .i64 z)).cell? ⟨g, 0, none⟩ = some (.slice (some ⟨b', o', none⟩) 4 c') ∧ AnyQ (w4.setCell ⟨b', o', none⟩ (.int .i64 z)) w.heap.size (.slice (some ⟨g, 0, none⟩) Q cap2) Q ∧ w.grownBy (w4.setCell ⟨b', o', none⟩ (.int .i64 z)) (some c) ∧ Cur (w4.setCell ⟨b', o', none⟩ (.int .i64 z)) c (n1 + 1 + 1)) := fun w4 z hz4 g4 c4 => by
        have blk : ∀ b, w.heap.size ≤ b → b < w3.heap.size → w4.heap[b]? = w3.heap[b]? := fun b h1 h2 => (g4.block b (Nat.lt_of_lt_of_le h2 hbA.size) (fun e => by cases e; omega)).trans (hbA.block b h2)
        have t1 := (World.cell?_of_block (a := ⟨g, 0, none⟩) (blk g hg0 hg1)).trans c0
        have t2 := (World.cell?_of_block (a := ⟨b', o', none⟩) (blk b' e4.1 hb'3)).trans d0
        have t3 := (World.frozen?_of_block (a := ⟨b', o', none⟩) (blk b' e4.1 hb'3)).trans g0
        have A4 : AnyQ w4 w.heap.size (.slice (some ⟨g, 0, none⟩) Q cap2) Q := AnyQ.blocks HA3.out (Nat.le_trans hbA.size g4.size) blk
        have G4 := gtrans hG4 g4
        have e41 := e4.1
        refine ⟨t1, t2, t3, by rw [World.cell?_setCell_other _ _ _ _ (fun e => hne (by injection e))]; exact t1, A4.set _ _ z t2 hz4, ⟨G4.os, G4.tape, G4.output, by have := G4.size; simpa [World.setCell] using this, fun i hi hne => (Below.heap_setCell _ _ _ _ (fun e => by simp at e; omega)).trans (G4.block i hi hne)⟩, c4.kept (row := some b') ⟨rfl, rfl, rfl, by simp [World.setCell], fun i hi hne => Below.heap_setCell _ _ _ _ (fun e => hne (by rw [e]))⟩ (fun r hr => by cases hr; omega)⟩
      have hQ0 : 0 < Q := by omega
      rw [hQ]
      clear HP3 HOWN3 HA3 hc3 hcA hG3 hG4 hbD hbA c1 f1 g0 d0 hrg
      go_wp2_with fail
      go_region_held3 (fun w' => w'.cell? ⟨g, 0, none⟩ = some (.slice (some ⟨b', o', none⟩) 4 c'))
        (assumption)
        (first | (go_at_call 74; refine Calls.mono CA.out ?_; rintro r w4 ⟨zz, hzz, rfl, hc4, hg4⟩; obtain ⟨z4, y4, y5, z5, HF6⟩ := HF.out w4 zz hzz hg4 hc4; have HF7 := (show Hid _ from HF6); clear hc4 hg4 HF6 hzz))
      clear CA HF zD zA z4 y4 y5 z5
      go_wp2
      go_ret
      exact ⟨_, Q, rfl, HF7.out.1, by omega, ⟨n1 + 1 + 1, by omega, HF7.out.2.2⟩, HF7.out.2.1⟩
    · obtain ⟨y, hy⟩ : ∃ y, (vs.getD 0 (.nilIface, 0)).2 = y := ⟨_, rfl⟩
      rw [hy] at c1
      have hbA : Below w3.heap.size w3 (w3.alloc (.cells #[.slice (some ⟨b', o', none⟩) 4 c', .int .i64 y] 57)) := (Below.refl _ _).alloc (Nat.le_refl _) _
      have hcA := hc3.kept (grown_of hbA) (fun r hr => by cases hr)
      have hGA := grown_own hG3 (grown_of hbA) (fun r hr => by cases hr)
      have hp3 := (HP3.out.2.2 0 (by omega)).1.keep hbA
      rw [e1] at hp3
      have hyI : InI y := by
        rw [← hy, (HP3.out.2.2 0 (by omega)).2]
        exact (HQF.out _ (by rw [List.getD_eq_getElem?_getD, List.getElem?_eq_getElem (by omega)]; exact List.getElem_mem _)).2
      have HOA : Hid ((w3.alloc (.cells #[.slice (some ⟨b', o', none⟩) 4 c', .int .i64 y] 57)).ownsRow w.heap.size 57 2 (.slice (some ⟨g, 0, none⟩) Q cap2) Q (flatV vs)) := by
        have := own_keep HOWN3.out hbA
        rwa [hQ] at this
      have HFin : Hid (∀ v5 w5, w5.ownsRow w.heap.size 57 2 v5 (Q + 1) (flatV vs ++ [.slice (some ⟨b', o', none⟩) 4 c', .int .i64 y]) → (w3.alloc (.cells #[.slice (some ⟨b', o', none⟩) 4 c', .int .i64 y] 57)).grownBy w5 (some g) → (v5.ownBlock = some g ∨ v5.ownBlock = some (w3.alloc (.cells #[.slice (some ⟨b', o', none⟩) 4 c', .int .i64 y] 57)).heap.size) → AnyQ w5 w.heap.size v5 (Q + 1) ∧ Cur w5 c (n1 + 1) ∧ w.grownBy w5 (some c)) := fun v5 w5 h5 g5 a5 => by
        have hh := PRow.push (n := y) HP3.out hbA g5 (by rw [hQ]; exact h5) a5 hp3
        refine ⟨?_, hcA.kept g5 (fun r hr => by cases hr; omega), grown_own hGA g5 (fun r hr => by cases hr; omega)⟩
        have := AnyQ.row hh (fun x hx => by
          rcases List.mem_append.1 hx with hx | hx
          · exact (HQF.out x hx).2
          · rw [List.mem_singleton.1 hx]; exact hyI)
        rw [List.length_append, hQ] at this
        exact this
      have hsA : w.heap.size ≤ w3.heap.size := hG3.size
      have hQ0 : 0 < Q := by omega
      rw [hQ]
      clear HP3 HOWN3 HA3 hc3 hcA hG3 hGA hbA f1 g0 d0 hp3 hyI hy
      go_wp2_with (at_builtin; refine wpList_append_own_at _ rfl _ _ 26 rfl w.heap.size 57 i0 (.agg #[.slice none 0 0, .int .i64 0]) 2 32 Tryz.underlying26 hi hz0 hz1 hz2 rfl (by decide) _ Q (flatV vs) rfl HOA.out ⟨w3.heap.size, 0, none⟩ 1 1 [.slice (some ⟨b', o', none⟩) 4 c', .int .i64 y] rfl (by simp) (two_newV w3 _ _ _) (two_oneV rfl _) (by unfold maxLen; omega) (by omega) (by simp; omega) ?_; intro v5 w5 hown5 hg5 _ hat5)
      obtain ⟨f1, f2, f3⟩ := HFin.out v5 w5 hown5 hg5 hat5
      clear hown5 hg5 hat5 HFin HOA
      go_ret
      exact ⟨_, Q + 1, rfl, f1, by omega, ⟨n1 + 1, by omega, f2⟩, f3⟩
    · rw [hQ]
      clear HP3 HOWN3 d0 g0 c0 c1
      go_wp2
      go_ret
      exact ⟨_, Q, rfl, HA3.out, by omega, ⟨n1 + 1, by omega, hc3⟩, hG3⟩
end Go.Proofs.YtpjgjpjfchfmlaaGreatDoor
