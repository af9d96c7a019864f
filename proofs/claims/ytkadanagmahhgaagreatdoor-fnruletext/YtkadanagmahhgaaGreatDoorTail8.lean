/-
  PROVED HERE: the laws' own drawn rule: two lists of nodes, not too long, in new memory, whatever the bytes. No condition. what the laws on rules draw: DrawGoodRule, DrawRuleText. No condition. what DrawReadRule draws: some text, not too long, whatever the bytes. No condition. what the laws' own comparing answers at equal lists, and whether a number is in a list. No condition.
-/
import Derived.Test.YtkadanagmahhgaaGreatDoorTail7
import Derived.Test.YtkadanagmahhgaaGreatDoorRun17
import Derived.Deep.CutRange
import Derived.Test.YtkadanagmahhgaaGreatDoorRun0
import Derived.Test.YtkadanagmahhgaaGreatDoorRun8
import Derived.Test.YtkadanagmahhgaaGreatDoorRun7
import Derived.Test.YtkadanagmahhgaaGreatDoorRun1
import Derived.Laws.StructEq
namespace Go.Proofs.YtkadanagmahhgaaGreatDoor
open Go.ChangeShapes Go.WideShapes Go.ChangeAt Go.RowKit
set_option linter.unusedVariables false

theorem RuleBox.both {w wx : World} {c n' B3 : Nat} {a : Option Addr} {m ca : Nat} {b : Option Addr} {k cb : Nat} {p q : List (Int × Int)} (h : RuleBox w wx c n' B3 a m ca b k cb p q) {a' : Option Addr} {m' ca' : Nat} {p' : List (Int × Int)} {b' : Option Addr} {k' cb' : Nat} {q' : List (Int × Int)}
    (hp : NewR wx (w.heap.size + 1) (.slice a' m' ca') p') (ap : ∀ y, a' = some y → y.block ≠ B3) (hq : NewR wx (w.heap.size + 1) (.slice b' k' cb') q') (aq : ∀ y, b' = some y → y.block ≠ B3) :
    RuleBox w ((wx.setCell ⟨B3, 0, none⟩ (.slice a' m' ca')).setCell ⟨B3, 1, none⟩ (.slice b' k' cb')) c n' B3 a' m' ca' b' k' cb' p' q' :=
  (h.left hp ap).right (hq.block8 (by simp [World.setCell]) (fun y e => Below.heap_setCell _ _ _ _ (aq y e))) aq
theorem NewR.nil8 (w : World) (B : Nat) : NewR w B (.slice none 0 0) [] := ⟨none, 0, 0, rfl, ⟨rfl, .inl rfl⟩, by simp, fun x hx => (by cases hx), fun x hx => (by cases hx)⟩
theorem NewR.lt8 {w : World} {B : Nat} {a : Option Addr} {m ca : Nat} {l : List (Int × Int)} (h : NewR w B (.slice a m ca) l) : ∀ y, a = some y → B ≤ y.block := fun y e => by
  obtain ⟨a', len', cap', e', h1, h2, h3, h4⟩ := h
  cases e'
  exact h4 y e
set_option maxHeartbeats 3200000 in
set_option maxRecDepth 20000 in
theorem rule8_any (w : World) (c n : Nat) (h : Cur w c n) (hn : n ≤ 90000) :
    Calls Tryz.prog 41 #[.pointer (some ⟨c, 0, none⟩)] w fun e w' => ∃ (v u : Value) (p q : List (Int × Int)), e = .returned (.agg #[v, u]) ∧ NewR w' w.heap.size v p ∧ NewR w' w.heap.size u q ∧ Drew w w' c n 2600 := by
  have hcl := h.lt
  obtain ⟨W1, hW1⟩ : ∃ W1, w.alloc (.cells #[.slice none 0 0, .slice none 0 0] 26) = W1 := ⟨_, rfl⟩
  have hb1 : Below w.heap.size w W1 := by rw [← hW1]; exact (Below.refl _ _).alloc (Nat.le_refl _) _
  have hs1 : W1.heap.size = w.heap.size + 1 := by rw [← hW1]; simp
  have r0 : W1.cell? ⟨w.heap.size, 0, none⟩ = some (.slice none 0 0) := by rw [← hW1]; simp [go_sem]
  have r1 : W1.cell? ⟨w.heap.size, 1, none⟩ = some (.slice none 0 0) := by rw [← hW1]; simp [go_sem]
  have s0 : W1.frozen? ⟨w.heap.size, 0, none⟩ = false := by rw [← hW1]; simp [go_sem]
  have s1 : W1.frozen? ⟨w.heap.size, 1, none⟩ = false := by rw [← hW1]; simp [go_sem]
  have HT := (show Hid _ from ruleText8_any W1 c n (h.kept (grown_of hb1) (fun r hr => by cases hr)) (by omega))
  have HB1 := (show Hid _ from hb1)
  have HR1 := (show Hid _ from And.intro (And.intro r0 r1) (And.intro s0 s1))
  clear h hb1 r0 r1 s0 s1
  go_enter Tryz.func41, Tryz.ntmps41
  go_wp2_with fail
  refine Calls.mono HT.out ?_
  rintro e w2 ⟨s, rfl, hs, ⟨n2, hn2, hc2⟩, hg2⟩
  have HS := (show Hid _ from specReadRule_any s w2 (by omega))
  have hs2 := hg2.size
  have HG2 : Hid (w.grownBy w2 (some c)) := gtrans (grown_of8 HB1.out) hg2
  have HC2 := (show Hid _ from hc2)
  have HR2 : Hid (w2.heap[w.heap.size]? = W1.heap[w.heap.size]?) := hg2.block _ (by omega) (fun e => by have := Option.some.inj e; omega)
  clear HT hg2 hc2
  go_wp2_with fail
  refine Calls.mono HS.out ?_
  rintro e w3 ⟨v, u, rfl, hTw, hb3⟩
  obtain ⟨hN1, hN2⟩ := twoR_new hTw
  have hv := World.ownsRow.lt hTw.1
  have hu := World.ownsRow.lt hTw.2.1
  clear HS hTw
  generalize ruleL s.data.toList = p at hN1
  generalize ruleR s.data.toList = q at hN2
  generalize ruleOk s.data.toList = ok
  generalize ruleAt s.data.toList = at8
  obtain ⟨a, ca, rfl⟩ := hN1.shape
  obtain ⟨b, cb, rfl⟩ := hN2.shape
  have hs3 := hb3.size
  have HBX : Hid (RuleBox w (w3.alloc (.cells #[.slice a p.length ca, .slice b q.length cb] 26)) c n2 w3.heap.size a p.length ca b q.length cb p q) := by
    have hb4 : Below w3.heap.size w3 (w3.alloc (.cells #[.slice a p.length ca, .slice b q.length cb] 26)) := (Below.refl _ _).alloc (Nat.le_refl _) _
    have hb24 := hb3.trans (hb4.mono hb3.size)
    have er := (hb24.block w.heap.size (by omega))
    refine ⟨by simp [go_sem], by simp [go_sem], by simp [go_sem], by simp [go_sem], ⟨hcl, by omega, by simp⟩, (hN1.keep8 hb4).base (by omega), (hN2.keep8 hb4).base (by omega), fun y e => ?_, fun y e => ?_, (show Cur w2 c n2 from HC2.out).kept (grown_of hb24) (fun r hr => by cases hr), gtrans HG2.out (grown_of8 hb24),
      (World.cell?_of_block (a := ⟨w.heap.size, 0, none⟩) (er.trans HR2.out)).trans HR1.out.1.1, (World.cell?_of_block (a := ⟨w.heap.size, 1, none⟩) (er.trans HR2.out)).trans HR1.out.1.2, (World.frozen?_of_block (a := ⟨w.heap.size, 0, none⟩) (er.trans HR2.out)).trans HR1.out.2.1, (World.frozen?_of_block (a := ⟨w.heap.size, 1, none⟩) (er.trans HR2.out)).trans HR1.out.2.2⟩
    · have := (hv y.block (by rw [e]; rfl)).2; omega
    · have := (hu y.block (by rw [e]; rfl)).2; omega
  clear hN1 hN2 hv hu HC2 HG2 HR2 HR1 HB1
  go_upto_if 14 with fail
  generalize w3.alloc (.cells #[.slice a p.length ca, .slice b q.length cb] 26) = W4 at HBX ⊢
  generalize w3.heap.size = B3 at HBX ⊢
  have HPT : Hid (∀ W n', n' ≤ 100000 → Cur W c n' → Calls Tryz.prog 79 #[.pointer (some ⟨c, 0, none⟩)] W fun e w' => ∃ (v : Value) (l : List (Int × Int)), e = .returned v ∧ NewR w' W.heap.size v l ∧ Drew W w' c n' 600) := fun W n' hn' hW => pattern_any W c n' hW hn'
  go_cut [] from 14 to 19 (fun wx => ∃ (n' : Nat) (a : Option Addr) (m ca : Nat) (b : Option Addr) (k cb : Nat) (p q : List (Int × Int)), n' ≤ n + 1900 ∧ RuleBox w wx c n' B3 a m ca b k cb p q)
  case first =>
    cases ok with
    | true =>
      go_wp2_with fail
      go_meet
      exact ⟨n2, _, _, _, _, _, _, _, _, by omega, HBX.out⟩
    | false =>
      have HB4 := HBX.out
      have HP1 := (show Hid _ from HPT.out W4 n2 (by omega) HB4.cur)
      have hlt := HB4.lt
      clear HB4
      go_wp2_with fail
      refine Calls.mono HP1.out ?_
      rintro e w5 ⟨v5, p5, rfl, hN5, ⟨n5, hn5, hc5⟩, hg5⟩
      have hs5 := hg5.size
      have HB5 : Hid (RuleBox w w5 c n5 B3 a p.length ca b q.length cb p q) := HBX.out.drew hg5 hc5
      have HP2 := (show Hid _ from HPT.out w5 n5 (by omega) hc5)
      clear HP1 hc5 hg5
      go_wp2_with fail
      refine Calls.mono HP2.out ?_
      rintro e w6 ⟨v6, p6, rfl, hN6, ⟨n6, hn6, hc6⟩, hg6⟩
      have hs6 := hg6.size
      have hN56 := hN5.grown8 hg6 (by omega)
      obtain ⟨a5, k5, rfl⟩ := hN5.shape
      obtain ⟨a6, k6, rfl⟩ := hN6.shape
      have HB6 := HB5.out.drew hg6 hc6
      have g5 := hN56.lt8
      have g6 := hN6.lt8
      have HB7 : Hid (RuleBox w ((w6.setCell ⟨B3, 0, none⟩ (.slice a5 p5.length k5)).setCell ⟨B3, 1, none⟩ (.slice a6 p6.length k6)) c n6 B3 a5 p5.length k5 a6 p6.length k6 p5 p6) :=
        HB6.both (hN56.base (by omega)) (fun y e => by have := g5 y e; omega) (hN6.base (by omega)) (fun y e => by have := g6 y e; omega)
      have x0 := HB6.c0
      have x1 := HB6.c1
      have y0 := HB6.f0
      have y1 := HB6.f1
      clear HP2 hc6 hg6 HB6 HB5 HBX hN5 hN6 hN56 g5 g6
      go_wp2_with fail
      go_meet
      exact ⟨n6, _, _, _, _, _, _, _, _, by omega, HB7.out⟩
  case rest =>
    clear HBX
    clear hs hs1 hs2 hs3 hb3 hW1
    obtain ⟨n', a', m', ca', b', k', cb', p', q', hn', HB⟩ := hcut
    obtain ⟨w7, hw7⟩ : ∃ x, x = wc := ⟨_, rfl⟩
    subst hw7
    have HO := (show Hid _ from once_any w7 c n' 20 HB.cur (by omega) (by decide) (by decide))
    have HB7 := (show Hid _ from HB)
    clear HB
    go_wp2_with fail
    refine Calls.mono HO.out ?_
    rintro e w8 ⟨one, rfl, hc8, hg8⟩
    have HB8 : Hid (RuleBox w w8 c (n' + 1) B3 a' m' ca' b' k' cb' p' q') := HB7.out.drew hg8 hc8
    clear HO HB7 hc8 hg8
    go_upto_if 21 with fail
    go_cut [] from 22 to 24 (fun wx => ∃ (n' : Nat) (b : Option Addr) (k cb : Nat) (q : List (Int × Int)), n' ≤ n + 2600 ∧ RuleBox w wx c n' B3 a' m' ca' b k cb p' q)
    case first =>
      cases one with
      | false =>
        go_wp2_with fail
        go_meet
        exact ⟨n' + 1, _, _, _, _, by omega, HB8.out⟩
      | true =>
        have HP1 := (show Hid _ from HPT.out w8 (n' + 1) (by omega) HB8.out.cur)
        have hlt := HB8.out.lt
        go_wp2_with fail
        refine Calls.mono HP1.out ?_
        rintro e w9 ⟨v9, p9, rfl, hN9, ⟨n9, hn9, hc9⟩, hg9⟩
        have hs9 := hg9.size
        obtain ⟨a9, k9, rfl⟩ := hN9.shape
        have HB9 := HB8.out.drew hg9 hc9
        have g9 := hN9.lt8
        have HB10 : Hid (RuleBox w (w9.setCell ⟨B3, 1, none⟩ (.slice a9 p9.length k9)) c n9 B3 a' m' ca' a9 p9.length k9 p' p9) := HB9.right (hN9.base (by omega)) (fun y e => by have := g9 y e; omega)
        have x0 := HB9.c0
        have x1 := HB9.c1
        have y0 := HB9.f0
        have y1 := HB9.f1
        clear HP1 hc9 hg9 HB9 HB8 hN9 g9
        go_wp2_with fail
        go_meet
        exact ⟨n9, _, _, _, _, by omega, HB10.out⟩
    case rest =>
      clear HB8 HPT
      obtain ⟨n'', b'', k'', cb'', q'', hn'', HB⟩ := hcut
      obtain ⟨w10, hw10⟩ : ∃ x, x = wc := ⟨_, rfl⟩
      subst hw10
      have x0 := HB.c0
      have x1 := HB.c1
      have r0 := HB.r0
      have r1 := HB.r1
      have t0 := HB.s0
      have t1 := HB.s1
      have HF := (show Hid _ from HB.fin (n := n) (K := 2600) hn'' (.slice a' m' ca') (.slice b'' k'' cb''))
      clear HB
      go_wp2
      refine bodyPost_ret (v := .agg #[.slice a' m' ca', .slice b'' k'' cb'']) ?_ ?_ ?_
      · simp [results, Tryz.results41, go_sem, *]
      · rfl
      · exact ⟨_, _, _, _, rfl, HF.out⟩
end Go.Proofs.YtkadanagmahhgaaGreatDoor
namespace Go.Proofs.YtkadanagmahhgaaGreatDoor
open Go.ChangeShapes Go.WideShapes Go.ChangeAt Go.RowKit
set_option linter.unusedVariables false

/-- A rule that was drawn: two lists of nodes in new memory. -/
def NewRule (w w' : World) (e : Ending) : Prop := ∃ (a : Option Addr) (ca : Nat) (b : Option Addr) (cb : Nat) (p q : List (Int × Int)), e = .returned (.agg #[.slice a p.length ca, .slice b q.length cb]) ∧ NewR w' w.heap.size (.slice a p.length ca) p ∧ NewR w' w.heap.size (.slice b q.length cb) q ∧ Below w.heap.size w w'
/-- A box of two cells that a rule is handed back in. -/
theorem NewRule.box {w w1 : World} {B : Nat} {a : Option Addr} {m ca : Nat} {b : Option Addr} {k cb : Nat} {p q : List (Int × Int)} (hB : w.heap.size < B) (hp : NewR w1 B (.slice a m ca) p) (hq : NewR w1 B (.slice b k cb) q) (hb : Below w.heap.size w w1) (x y : Value) :
    NewR ((w1.setCell ⟨w.heap.size, 0, none⟩ x).setCell ⟨w.heap.size, 1, none⟩ y) w.heap.size (.slice a m ca) p ∧ NewR ((w1.setCell ⟨w.heap.size, 0, none⟩ x).setCell ⟨w.heap.size, 1, none⟩ y) w.heap.size (.slice b k cb) q ∧ Below w.heap.size w ((w1.setCell ⟨w.heap.size, 0, none⟩ x).setCell ⟨w.heap.size, 1, none⟩ y) := by
  have hs : ((w1.setCell ⟨w.heap.size, 0, none⟩ x).setCell ⟨w.heap.size, 1, none⟩ y).heap.size = w1.heap.size := by simp [World.setCell]
  have hbl : ∀ i, i ≠ w.heap.size → ((w1.setCell ⟨w.heap.size, 0, none⟩ x).setCell ⟨w.heap.size, 1, none⟩ y).heap[i]? = w1.heap[i]? := fun i hi => (Below.heap_setCell _ _ _ _ hi).trans (Below.heap_setCell _ _ _ _ hi)
  have gp := hp.lt8
  have gq := hq.lt8
  exact ⟨(hp.block8 (by rw [hs]; exact Nat.le_refl _) (fun y e => hbl _ (by have := gp y e; omega))).base (by omega), (hq.block8 (by rw [hs]; exact Nat.le_refl _) (fun y e => hbl _ (by have := gq y e; omega))).base (by omega), (hb.setCell (Nat.le_refl _) _).setCell (Nat.le_refl _) _⟩
set_option maxHeartbeats 1600000 in
set_option maxRecDepth 20000 in
theorem drawGoodRule (w : World) (a : Option Addr) (len cap : Nat) (hb : Bytes w w.heap.size a len) (hl : len ≤ 1048576) :
    Calls Tryz.prog 18 #[.slice a len cap] w fun e w' => NewRule w w' e := by
  obtain ⟨W1, hW1⟩ : ∃ W1, w.alloc (.cells #[.slice none 0 0, .slice none 0 0] 26) = W1 := ⟨_, rfl⟩
  have hb1 : Below w.heap.size w W1 := by rw [← hW1]; exact (Below.refl _ _).alloc (Nat.le_refl _) _
  have hs1 : W1.heap.size = w.heap.size + 1 := by rw [← hW1]; simp
  have r0 : W1.cell? ⟨w.heap.size, 0, none⟩ = some (.slice none 0 0) := by rw [← hW1]; simp [go_sem]
  have r1 : W1.cell? ⟨w.heap.size, 1, none⟩ = some (.slice none 0 0) := by rw [← hW1]; simp [go_sem]
  have s0 : W1.frozen? ⟨w.heap.size, 0, none⟩ = false := by rw [← hW1]; simp [go_sem]
  have s1 : W1.frozen? ⟨w.heap.size, 1, none⟩ = false := by rw [← hW1]; simp [go_sem]
  have hc := cur_new W1 a len cap (hb.keep hb1) hl
  have h9 : (0 : Nat) ≤ 90000 := Nat.zero_le _
  have HR := (show Hid _ from rule8_any _ _ 0 hc h9)
  have HB1 := (show Hid _ from hb1)
  have HR1 := (show Hid _ from And.intro (And.intro r0 r1) (And.intro s0 s1))
  have HS1 := (show Hid _ from hs1)
  clear hb hc hb1 r0 r1 s0 s1 hs1
  go_enter Tryz.func18, Tryz.ntmps18
  go_wp2_with fail
  refine Calls.mono HR.out ?_
  rintro e w1 ⟨v, u, p, q, rfl, hp, hq, ⟨n1, hn1, hc1⟩, hg1⟩
  have hbw := drew_below hg1
  have hs1 := HS1.out
  obtain ⟨a1, c1, rfl⟩ := hp.shape
  obtain ⟨a2, c2, rfl⟩ := hq.shape
  have HF := (show Hid _ from NewRule.box (w := w) (by simp; omega) hp hq (HB1.out.trans (hbw.mono HB1.out.size)) (.slice a1 p.length c1) (.slice a2 q.length c2))
  have r0 := (hbw.cell (p := ⟨w.heap.size, 0, none⟩) (by show w.heap.size < _; omega)).trans HR1.out.1.1
  have r1 := (hbw.cell (p := ⟨w.heap.size, 1, none⟩) (by show w.heap.size < _; omega)).trans HR1.out.1.2
  have er := hbw.block w.heap.size (by omega)
  have s0 := (World.frozen?_of_block (a := ⟨w.heap.size, 0, none⟩) er).trans HR1.out.2.1
  have s1 := (World.frozen?_of_block (a := ⟨w.heap.size, 1, none⟩) er).trans HR1.out.2.2
  clear HR hp hq hc1 hg1 hbw er HR1 HB1 hW1 hs1 HS1
  go_wp2
  refine bodyPost_ret (v := .agg #[.slice a1 p.length c1, .slice a2 q.length c2]) ?_ ?_ ?_
  · simp [results, Tryz.results18, go_sem, *]
  · rfl
  · exact ⟨_, _, _, _, _, _, rfl, HF.out⟩
set_option maxHeartbeats 1600000 in
set_option maxRecDepth 20000 in
theorem drawRuleText (w : World) (a : Option Addr) (len cap : Nat) (hb : Bytes w w.heap.size a len) (hl : len ≤ 1048576) :
    Calls Tryz.prog 6 #[.slice a len cap] w fun e w' => NewRule w w' e := by
  obtain ⟨W1, hW1⟩ : ∃ W1, w.alloc (.cells #[.slice none 0 0, .slice none 0 0] 26) = W1 := ⟨_, rfl⟩
  have hb1 : Below w.heap.size w W1 := by rw [← hW1]; exact (Below.refl _ _).alloc (Nat.le_refl _) _
  have hs1 : W1.heap.size = w.heap.size + 1 := by rw [← hW1]; simp
  have r0 : W1.cell? ⟨w.heap.size, 0, none⟩ = some (.slice none 0 0) := by rw [← hW1]; simp [go_sem]
  have r1 : W1.cell? ⟨w.heap.size, 1, none⟩ = some (.slice none 0 0) := by rw [← hW1]; simp [go_sem]
  have s0 : W1.frozen? ⟨w.heap.size, 0, none⟩ = false := by rw [← hW1]; simp [go_sem]
  have s1 : W1.frozen? ⟨w.heap.size, 1, none⟩ = false := by rw [← hW1]; simp [go_sem]
  have HR := (show Hid _ from drawGoodRule W1 a len cap (hb.keep hb1) hl)
  have HB1 := (show Hid _ from hb1)
  have HR1 := (show Hid _ from And.intro (And.intro r0 r1) (And.intro s0 s1))
  have HS1 := (show Hid _ from hs1)
  clear hb hb1 r0 r1 s0 s1 hs1
  go_enter Tryz.func6, Tryz.ntmps6
  go_wp2_with fail
  refine Calls.mono HR.out ?_
  rintro e w1 ⟨a1, c1, a2, c2, p, q, rfl, hp, hq, hbw⟩
  have hs1 := HS1.out
  have HF := (show Hid _ from NewRule.box (w := w) (by omega) hp hq (HB1.out.trans (hbw.mono HB1.out.size)) (.slice a1 p.length c1) (.slice a2 q.length c2))
  have r0 := (hbw.cell (p := ⟨w.heap.size, 0, none⟩) (by show w.heap.size < _; omega)).trans HR1.out.1.1
  have r1 := (hbw.cell (p := ⟨w.heap.size, 1, none⟩) (by show w.heap.size < _; omega)).trans HR1.out.1.2
  have er := hbw.block w.heap.size (by omega)
  have s0 := (World.frozen?_of_block (a := ⟨w.heap.size, 0, none⟩) er).trans HR1.out.2.1
  have s1 := (World.frozen?_of_block (a := ⟨w.heap.size, 1, none⟩) er).trans HR1.out.2.2
  clear HR hp hq hbw er HR1 HB1 hW1 hs1 HS1
  go_wp2
  refine bodyPost_ret (v := .agg #[.slice a1 p.length c1, .slice a2 q.length c2]) ?_ ?_ ?_
  · simp [results, Tryz.results6, go_sem, *]
  · rfl
  · exact ⟨_, _, _, _, _, _, rfl, HF.out⟩
end Go.Proofs.YtkadanagmahhgaaGreatDoor
namespace Go.Proofs.YtkadanagmahhgaaGreatDoor
open Go.ChangeShapes Go.WideShapes Go.ChangeAt Go.RowKit
open Odd
set_option linter.unusedVariables false
attribute [local go_sem] conv1 isByte_some byteIn_some

theorem size8_k {a b k : Nat} (h : a ≤ b + 1) (hs : b + k ≤ 3002) (hk : 0 < k) : a + (k - 1) ≤ 3002 := by omega
set_option maxHeartbeats 2000000 in
theorem spoilt8_any (w : World) (c n : Nat) (t : ByteArray) (h : Cur w c n) (hn : n ≤ 10000) (ht : t.size ≤ 3000) :
    Calls Tryz.prog 28 #[.pointer (some ⟨c, 0, none⟩), .string t, .string ⟨#[40, 97, 61, 62, 49, 43]⟩] w fun e w' => ∃ s : ByteArray, e = .returned (.string s) ∧ s.size ≤ 3002 ∧ Drew w w' c n 20 := by
  go_enter Tryz.func28, Tryz.ntmps28
  go_wp2_with fail
  refine (pick_any w c n 2 h (by omega) (by decide) (by decide)).mono ?_
  rintro e w1 ⟨v, rfl, v0, v1, hc1, hg1⟩
  clear h
  obtain ⟨q, rfl⟩ := Int.eq_ofNat_of_zero_le v0
  have hq : q ≤ 1 := by omega
  go_wp2_with fail
  go_loopw [1, 7] (fun x i wr => ∃ (k : Nat) (s : ByteArray) (j : Nat), k ≤ 2 ∧ i = .int .i64 k ∧ x = .string s ∧ s.size + k ≤ 3002 ∧ (j + 4 * k ≤ n + 9 ∧ Cur wr c j) ∧ w.grownBy wr (some c)) (fun _ i _ => (intOf i).toNat)
  case atStart => exact ⟨q + 1, t, n + 1, by omega, by go_num, rfl, by omega, ⟨by omega, hc1⟩, hg1⟩
  case round =>
    obtain ⟨k, s, j, hk, rfl, rfl, hsz, ⟨hj, hcr⟩, hgr⟩ := hrel
    clear hc1 hg1
    by_cases h0 : 0 < k ∧ 0 < s.size
    · obtain ⟨hk0, hs0⟩ := h0
      have i0 : (0 : Int) < k := by omega
      have i1 : (0 : Int) < s.size := by omega
      go_wp2_with fail
      refine (pick_gen wr c j _ hcr (by omega) (by omega) (by omega)).mono ?_
      rintro e w2 ⟨a, rfl, a0, a1, ⟨j2, hj2, hc2⟩, hg2⟩
      have hg12 := gtrans hgr hg2
      clear hcr hgr hg2
      obtain ⟨p, rfl⟩ := Int.eq_ofNat_of_zero_le a0
      go_wp2_with fail
      refine (pick_any w2 c j2 6 hc2 (by omega) (by decide) (by decide)).mono ?_
      rintro e w3 ⟨b, rfl, b0, b1, hc3, hg3⟩
      have hg13 := gtrans hg12 hg3
      clear hc2 hg12 hg3
      obtain ⟨r, rfl⟩ := Int.eq_ofNat_of_zero_le b0
      have hr : r < 6 := by omega
      have hr' : (r : Int) < 6 := by omega
      go_wp2_with fail
      have hc4 : ∀ o, Cur (w3.alloc o) c (j2 + 1) := fun o => hc3.kept (World.grownBy_alloc w3 o none) (fun r hr => by cases hr)
      refine (pick_any _ c _ 3 (hc4 _) (by omega) (by decide) (by decide)).mono ?_
      rintro e w4 ⟨d, rfl, d0, d1, hc5, hg5⟩
      have hg14 : w.grownBy w4 (some c) := gtrans (gtrans hg13 (World.grownBy_alloc w3 _ (some c))) hg5
      clear hc3 hc4 hg13 hg5
      have hp : p < s.size := by omega
      have hd : d = 0 ∨ d = 1 ∨ d = 2 := by omega
      rcases hd with rfl | rfl | rfl
      · go_wp2_with fail
        go_quiet (fail)
        go_wp2
        go_roundw
        case rel => exact ⟨k - 1, _, j2 + 1 + 1, by omega, by congr 1; omega, rfl, size8_k (size_a s _ p hp) hsz hk0, ⟨by omega, hc5⟩, drewn hg14 _⟩
        case measure => simp [intOf]; omega
      · go_wp2_with fail
        go_quiet (fail)
        go_wp2
        go_roundw
        case rel => exact ⟨k - 1, _, j2 + 1 + 1, by omega, by congr 1; omega, rfl, size8_k (size_b s _ p hp) hsz hk0, ⟨by omega, hc5⟩, drewn hg14 _⟩
        case measure => simp [intOf]; omega
      · go_wp2_with fail
        go_quiet (fail)
        go_wp2
        go_roundw
        case rel => exact ⟨k - 1, _, j2 + 1 + 1, by omega, by congr 1; omega, rfl, size8_k (size_c s p hp) hsz hk0, ⟨by omega, hc5⟩, drewn hg14 _⟩
        case measure => simp [intOf]; omega
    · go_wp2
      all_goals
        go_ret
        exact ⟨s, rfl, by omega, ⟨j, by omega, hcr⟩, hgr⟩
set_option maxHeartbeats 1600000 in
set_option maxRecDepth 20000 in
theorem drawReadRule (w : World) (a : Option Addr) (len cap : Nat) (hb : Bytes w w.heap.size a len) (hl : len ≤ 1048576) :
    Calls Tryz.prog 11 #[.slice a len cap] w fun e w' => ∃ s : ByteArray, e = .returned (.string s) ∧ s.size ≤ 3002 ∧ Below w.heap.size w w' := by
  have hc := cur_new w a len cap hb hl
  have h9 : (0 : Nat) ≤ 100000 := Nat.zero_le _
  have HT := (show Hid _ from ruleText8_any _ _ 0 hc h9)
  clear hc hb
  go_enter Tryz.func11, Tryz.ntmps11
  go_wp2_with fail
  refine Calls.mono HT.out ?_
  rintro e w1 ⟨S, rfl, hLs, ⟨n1, hn1, hc2⟩, hG2⟩
  clear HT h9
  have HP := (show Hid _ from pick_any w1 _ n1 4 hc2 (by omega) (by decide) (by decide))
  clear hc2
  go_wp2_with fail
  refine Calls.mono HP.out ?_
  rintro e w3 ⟨q, rfl, q0, q1, hc3, hg3⟩
  have hG3 := gtrans hG2 hg3
  clear HP hG2 hg3
  by_cases e0 : q = 0
  · subst e0
    have HP := (show Hid _ from spoilt8_any w3 _ _ S hc3 (by omega) hLs)
    clear hc3
    go_wp2_with fail
    refine Calls.mono HP.out ?_
    rintro e w4 ⟨S4, rfl, hS4, ⟨n4, hn4, hc4⟩, hg4⟩
    have hG4 := gtrans hG3 hg4
    clear HP
    go_wp2
    go_ret
    exact ⟨_, rfl, hS4, drew_below hG4⟩
  by_cases e1 : q = 1
  · subst e1
    have hlt3 := hc3.lt
    have hc4 : ∀ o, Cur (w3.alloc o) w.heap.size (n1 + 1) := fun o => hc3.kept (World.grownBy_alloc w3 o none) (fun r hr => by cases hr)
    go_wp2_with fail
    refine (of8_any _ _ _ w3.heap.size 7 7 (hc4 _) (by omega) (by decide) (by decide) hlt3 (texts8_cells w3 _ _ 7 ?hC)).mono ?_
    case hC =>
      intro i hi
      rcases (show i = 0 ∨ i = 1 ∨ i = 2 ∨ i = 3 ∨ i = 4 ∨ i = 5 ∨ i = 6 by omega) with rfl | rfl | rfl | rfl | rfl | rfl | rfl
      all_goals exact ⟨_, rfl, by decide⟩
    rintro e w6 ⟨S6, rfl, hS6, ⟨n6, hn6, hc7⟩, hg6⟩
    have hG6 := gtrans (gtrans hG3 (World.grownBy_alloc w3 _ (some w.heap.size))) hg6
    go_wp2
    go_ret
    exact ⟨_, rfl, by omega, drew_below hG6⟩
  · have k0 : (q == 0) = false := by simpa using e0
    have k1 : (q == 1) = false := by simpa using e1
    clear e0 e1
    go_wp2
    go_ret
    exact ⟨_, rfl, by omega, drew_below hG3⟩
end Go.Proofs.YtkadanagmahhgaaGreatDoor
namespace Go.Proofs.YtkadanagmahhgaaGreatDoor
open Go.ChangeShapes Go.WideShapes Go.ChangeAt Go.RowKit
set_option linter.unusedVariables false

theorem eqNd (a b c d : Int) (w : World) : (Op.equalIn 10000 66 (.agg #[.int .i64 a, .int .i64 b]) (.agg #[.int .i64 c, .int .i64 d])).run Tryz.prog w = .ok (a == c && b == d) w := by
  have hS : Tryz.prog.underlying 66 = some (.struct (Tryz.prog.fieldsOf 66)) := by kernel_rfl
  have hp : Tryz.prog.stoodInHeld 66 = false := by kernel_rfl
  rw [show (10000 : Nat) = 9999 + 1 from rfl, run_equalIn_agg w 9999 66 _ _ hS hp]
  simp only [Program.fieldsOf, Tryz.underlying66]
  go_simp
  by_cases h1 : a = c <;> by_cases h2 : b = d <;> simp [h1, h2]
theorem neqNd (a b : Int) (w : World) : (binOp .neq 66 (.agg #[.int .i64 a, .int .i64 b]) (.agg #[.int .i64 a, .int .i64 b])).run Tryz.prog w = .ok (.bool false) w := by
  rw [run_neq_struct, eqNd]
  simp
theorem guardNd : Tryz.prog.eqGuardType Tryz.prog.depth 66 = false := by kernel_rfl
set_option maxRecDepth 20000 in
theorem sameN_same (a b : Option Addr) (len cap cap' : Nat) (l : List (Int × Int)) (w : World) (h : NSl w a len l) (h' : NSl w b len l) (hn : len ≤ 1048576) :
    Calls Tryz.prog 25 #[.slice a len cap, .slice b len cap'] w fun e w' => e = .returned (.bool true) ∧ Below w.heap.size w w' := by
  have hne : ((len : Int) != len) = false := by simp
  go_enter Tryz.func25, Tryz.ntmps25
  go_wp2_with fail
  go_loopw [13] (fun i wr => ∃ (k : Nat), k ≤ len ∧ i = .int .i64 k ∧ Below w.heap.size w wr) (fun i _ => len - (intOf i).toNat)
  case atStart => exact ⟨0, Nat.zero_le _, rfl, Below.refl _ _⟩
  case round =>
    obtain ⟨k, hk, rfl, hbr⟩ := hrel
    by_cases hlt : k < len
    · obtain ⟨b1, off, rfl, hbl, hc⟩ := h.at (by omega)
      obtain ⟨b2, off', rfl, hbl', hc'⟩ := h'.at (by omega)
      have c1 := (hbr.cell (p := ⟨b1, off + k * 2, none⟩) hbl).trans (hc k hlt).1
      have c2 := (hbr.cell (p := ⟨b1, off + k * 2 + 1, none⟩) hbl).trans (hc k hlt).2
      have d1 := (hbr.cell (p := ⟨b2, off' + k * 2, none⟩) hbl').trans (hc' k hlt).1
      have d2 := (hbr.cell (p := ⟨b2, off' + k * 2 + 1, none⟩) hbl').trans (hc' k hlt).2
      clear hc hc' h h'
      generalize (l.getD k (0, 0)).1 = x at c1 d1
      generalize (l.getD k (0, 0)).2 = y at c2 d2
      have hlt' : (k : Int) < len := by omega
      have hq := fun W => neqNd x y W
      have hgd := guardNd
      go_wp2_with fail
      go_quiet (fail)
      have hbb := below_drawn hbr nq
      go_wp2
      go_roundw
      case rel => exact ⟨k + 1, by omega, by go_num, hbb⟩
      case measure => simp [intOf]; omega
    · go_wp2
      go_ret
      exact ⟨rfl, hbr⟩
end Go.Proofs.YtkadanagmahhgaaGreatDoor
