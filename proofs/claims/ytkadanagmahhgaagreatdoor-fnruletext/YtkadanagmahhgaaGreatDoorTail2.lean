/-
  PROVED HERE: the laws' own drawn terms, of sums and products mostly: some list of nodes, not too long, in new memory, whatever the bytes. No condition. the laws' own drawn pattern: some list of nodes, not too long, in new memory, whatever the bytes. No condition. what the laws of chapter 3 draw: terms, and some texts, whatever the bytes. No condition. what DrawTermText and DrawReadTerm draw, whatever the bytes. No condition.
-/
import Derived.Test.YtkadanagmahhgaaGreatDoorTail1
import Derived.Deep.RegionWith
import Derived.Test.YtkadanagmahhgaaGreatDoorRun6
import Derived.Test.YtkadanagmahhgaaGreatDoorRun10
namespace Go.Proofs.YtkadanagmahhgaaGreatDoor
open Go.ChangeShapes Go.WideShapes Go.ChangeAt Go.RowKit
set_option linter.unusedVariables false

theorem NumsIn.at {l : List (Int × Int)} (h : NumsIn l) (k : Nat) : InI (l.getD k (0, 0)).2 := by
  by_cases hk : k < l.length
  · have e : l.getD k (0, 0) = l[k] := by rw [List.getD_eq_getElem?_getD, List.getElem?_eq_getElem hk]; rfl
    rw [e]
    exact h _ (List.getElem_mem hk)
  · rw [List.getD_eq_getElem?_getD, List.getElem?_eq_none (by omega)]
    unfold InI
    simp
/-- A drawn list of nodes. -/
def NewR (w : World) (B : Nat) (v : Value) (l : List (Int × Int)) : Prop := ∃ a len cap, v = .slice a len cap ∧ NSl w a len l ∧ len ≤ 100 ∧ NumsIn l ∧ ∀ x, a = some x → B ≤ x.block
theorem NewR.of {w : World} {B e : Nat} {v : Value} {l : List (Int × Int)} (h : w.ownsRow B e 2 v l.length (flat l)) (hl : l.length ≤ 100) (hN : NumsIn l) : NewR w B v l := by
  obtain ⟨a, cap, rfl, hs⟩ := NSl.row h
  exact ⟨a, _, cap, rfl, hs, hl, hN, fun x hx => own_ge h _ (by rw [hx]; rfl)⟩
theorem NewR.base {w : World} {B B' : Nat} {v : Value} {l : List (Int × Int)} (h : NewR w B v l) (hb : B' ≤ B) : NewR w B' v l := by
  obtain ⟨a, len, cap, h1, h2, h3, h4, h5⟩ := h
  exact ⟨a, len, cap, h1, h2, h3, h4, fun x hx => Nat.le_trans hb (h5 x hx)⟩

theorem l2Num_any8 (x : Int) (w : World) : Calls Tryz.prog 95 #[.int .i64 x] w fun e w' => e = .returned (.agg #[.int .i64 1, .int .i64 x]) ∧ Below w.heap.size w w' := by
  go_enter Tryz.func95, Tryz.ntmps95
  go_wp2
  exact bodyPost_ret (v := .agg #[.int .i64 1, .int .i64 x]) (by simp [results, Tryz.results95, go_sem]) rfl ⟨rfl, (Below.refl _ _).alloc (Nat.le_refl _) _⟩
theorem four_new (w : World) (a b x y : Int) (t : TypeId) : ∀ j u, [Value.int .i64 a, .int .i64 b, .int .i64 x, .int .i64 y][j]? = some u → (w.alloc (.cells #[.int .i64 a, .int .i64 b, .int .i64 x, .int .i64 y] t)).cell? ((⟨w.heap.size, 0, none⟩ : Addr).add j) = some u := by
  intro j u hj
  match j, hj with
  | 0, hj => simp at hj; subst hj; simp [Addr.add]
  | 1, hj => simp at hj; subst hj; simp [Addr.add]
  | 2, hj => simp at hj; subst hj; simp [Addr.add]
  | 3, hj => simp at hj; subst hj; simp [Addr.add]
theorem four_one (a b x y : Int) : ∀ u ∈ [Value.int .i64 a, .int .i64 b, .int .i64 x, .int .i64 y], u.oneCell' = true := by
  intro u hu
  simp at hu
  rcases hu with rfl | rfl | rfl | rfl <;> rfl

end Go.Proofs.YtkadanagmahhgaaGreatDoor
namespace Go.Proofs.YtkadanagmahhgaaGreatDoor
open Go.ChangeShapes Go.WideShapes Go.ChangeAt Go.RowKit
set_option linter.unusedVariables false

theorem l2Var8_any (x : Int) (w : World) : Calls Tryz.prog 97 #[.int .i64 x] w fun e w' => e = .returned (.agg #[.int .i64 2, .int .i64 x]) ∧ Below w.heap.size w w' := by
  go_enter Tryz.func97, Tryz.ntmps97
  go_wp2
  exact bodyPost_ret (v := .agg #[.int .i64 2, .int .i64 x]) (by simp [results, Tryz.results97, go_sem]) rfl ⟨rfl, (Below.refl _ _).alloc (Nat.le_refl _) _⟩
/-- A list of nodes written out in a new block. -/
theorem lit_new (w : World) (B : Nat) (hB : B ≤ w.heap.size) (l : List (Int × Int)) (cs : Array Value) (t : TypeId) (hc : cs = (flat l).toArray) (hl : l.length ≤ 100) (hN : NumsIn l) : NewR (w.alloc (.cells cs t)) B (.slice (some ⟨w.heap.size, 0, none⟩) l.length l.length) l := by
  subst hc
  refine ⟨_, l.length, l.length, rfl, ⟨rfl, .inr ⟨w.heap.size, 0, rfl, by simp, fun i hi => ?_⟩⟩, hl, hN, fun x hx => by cases hx; exact hB⟩
  have h2 := flat_get l i hi
  refine ⟨?_, ?_⟩
  · rw [Nat.zero_add]; simp [go_sem, h2.1]
  · rw [Nat.zero_add]; simp [go_sem, h2.2]
theorem grown_of8 {a b : World} {r : Option Nat} (h : Below a.heap.size a b) : a.grownBy b r := ⟨h.os, h.tape, h.output, h.size, fun i hi _ => h.block i hi⟩
theorem nums8 (l : List (Int × Int)) (h : l.all (fun x => decide (-9223372036854775808 ≤ x.2 ∧ x.2 ≤ 9223372036854775807)) = true) : NumsIn l := fun x hx => by
  have h2 := List.all_eq_true.1 h x hx
  have h3 := of_decide_eq_true h2
  exact h3
set_option maxHeartbeats 6400000 in
set_option maxRecDepth 20000 in
theorem pattern_any (w : World) (c n : Nat) (h : Cur w c n) (hn : n ≤ 100000) :
    Calls Tryz.prog 79 #[.pointer (some ⟨c, 0, none⟩)] w fun e w' => ∃ (v : Value) (l : List (Int × Int)), e = .returned v ∧ NewR w' w.heap.size v l ∧ Drew w w' c n 600 := by
  have hcl := h.lt
  have HV : Hid (∀ (x : Int) W, Calls Tryz.prog 97 #[.int .i64 x] W fun e w' => e = .returned (.agg #[.int .i64 2, .int .i64 x]) ∧ Below W.heap.size W w') := fun x W => l2Var8_any x W
  have HC : Hid (∀ W, Below w.heap.size w W → Cur W c n) := fun W hW => h.kept (grown_of hW) (fun r hr => by cases hr)
  have HP : Hid (∀ W, Cur W c n → Calls Tryz.prog 27 #[.pointer (some ⟨c, 0, none⟩), .int .i64 7] W fun e w' => ∃ v : Int, e = .returned (.int .i64 v) ∧ 0 ≤ v ∧ v < 7 ∧ Cur w' c (n + 1) ∧ W.grownBy w' (some c)) := fun W hW => pick_any W c n 7 hW (by omega) (by decide) (by decide)
  clear h
  go_enter Tryz.func79, Tryz.ntmps79
  go_wp2_with fail
  refine Calls.mono (HV.out 0 _) ?_
  rintro e w1 ⟨rfl, hb1⟩
  go_wp2_with fail
  refine Calls.mono (HV.out 1 _) ?_
  rintro e w3 ⟨rfl, hb3⟩
  have hb2 : Below w1.heap.size w1 (w1.alloc (.cells #[.int .i64 2, .int .i64 0] 66)) := (Below.refl _ _).alloc (Nat.le_refl _) _
  have a0 : (w1.alloc (.cells #[.int .i64 2, .int .i64 0] 66)).cell? ⟨w1.heap.size, 0, none⟩ = some (.int .i64 2) := by simp [go_sem]
  have a1 : (w1.alloc (.cells #[.int .i64 2, .int .i64 0] 66)).cell? ⟨w1.heap.size, 1, none⟩ = some (.int .i64 0) := by simp [go_sem]
  have hs2 : w1.heap.size < (w1.alloc (.cells #[.int .i64 2, .int .i64 0] 66)).heap.size := by simp
  generalize w1.alloc (.cells #[.int .i64 2, .int .i64 0] 66) = W2 at hb2 hb3 a0 a1 hs2
  obtain ⟨B1, hB1⟩ : ∃ B1, w1.heap.size = B1 := ⟨_, rfl⟩
  have hB1w : w.heap.size ≤ B1 := by rw [← hB1]; exact hb1.size
  have hbw2 : Below w.heap.size w W2 := hb1.trans (hb2.mono hb1.size)
  rw [hB1] at a0 a1 hs2 ⊢
  clear hb1 hb2 hB1
  go_wp2_with fail
  have hW4 : True := trivial
  have hb4 : Below w3.heap.size w3 (w3.alloc (.cells #[.int .i64 2, .int .i64 1] 66)) := (Below.refl _ _).alloc (Nat.le_refl _) _
  have b0 : (w3.alloc (.cells #[.int .i64 2, .int .i64 1] 66)).cell? ⟨w3.heap.size, 0, none⟩ = some (.int .i64 2) := by simp [go_sem]
  have b1 : (w3.alloc (.cells #[.int .i64 2, .int .i64 1] 66)).cell? ⟨w3.heap.size, 1, none⟩ = some (.int .i64 1) := by simp [go_sem]
  have hs4 : w3.heap.size < (w3.alloc (.cells #[.int .i64 2, .int .i64 1] 66)).heap.size := by simp
  generalize w3.alloc (.cells #[.int .i64 2, .int .i64 1] 66) = W4 at hb4 b0 b1 hs4 ⊢
  obtain ⟨B3, hB3⟩ : ∃ B3, w3.heap.size = B3 := ⟨_, rfl⟩
  have hB3w : W2.heap.size ≤ B3 := by rw [← hB3]; exact hb3.size
  rw [hB3] at b0 b1 hs4 ⊢
  have hb24 : Below W2.heap.size W2 W4 := hb3.trans (hb4.mono hb3.size)
  have c0 := (hb24.cell (p := ⟨B1, 0, none⟩) hs2).trans a0
  have c1 := (hb24.cell (p := ⟨B1, 1, none⟩) hs2).trans a1
  have hbw4 : Below w.heap.size w W4 := hbw2.trans (hb24.mono hbw2.size)
  have HP4 := (show Hid _ from HP.out W4 (HC.out _ hbw4))
  have HB4 := (show Hid _ from hbw4)
  clear a0 a1 hb3 hb4 hb24 hbw2 hbw4 HP HC
  refine Calls.mono HP4.out ?_
  rintro e w6 ⟨v, rfl, v0, v1, hc6, hg6⟩
  clear HP4 hW4 hB3
  have z0 := hg6.cell c0 (by intro e; have := Option.some.inj e; (try simp only at this); have := hs2; omega)
  have z1 := hg6.cell c1 (by intro e; have := Option.some.inj e; (try simp only at this); have := hs2; omega)
  have z2 := hg6.cell b0 (by intro e; have := Option.some.inj e; (try simp only at this); omega)
  have z3 := hg6.cell b1 (by intro e; have := Option.some.inj e; (try simp only at this); omega)
  have hG6 : w.grownBy w6 (some c) := gtrans (grown_of8 HB4.out) hg6
  have hs6 : B1 < w6.heap.size ∧ B3 < w6.heap.size := by have := hg6.size; omega
  have HS : Hid (Cur w6 c (n + 1) ∧ (∀ W, Below w6.heap.size w6 W → w.heap.size ≤ W.heap.size) ∧ ∀ W, Below w6.heap.size w6 W → Drew w W c n 600) := ⟨hc6, fun W hW => Nat.le_trans hG6.size hW.size, fun W hW => ⟨⟨n + 1, by omega, hc6.kept (grown_of hW) (fun r hr => by cases hr)⟩, gtrans hG6 (grown_of8 hW)⟩⟩
  have HBX : Hid (∀ W, Below w6.heap.size w6 W → W.cell? ⟨B1, 0, none⟩ = some (.int .i64 2) ∧ W.cell? ⟨B1, 1, none⟩ = some (.int .i64 0) ∧ W.cell? ⟨B3, 0, none⟩ = some (.int .i64 2) ∧ W.cell? ⟨B3, 1, none⟩ = some (.int .i64 1)) := fun W hW => ⟨(hW.cell (p := ⟨B1, 0, none⟩) hs6.1).trans z0, (hW.cell (p := ⟨B1, 1, none⟩) hs6.1).trans z1, (hW.cell (p := ⟨B3, 0, none⟩) hs6.2).trans z2, (hW.cell (p := ⟨B3, 1, none⟩) hs6.2).trans z3⟩
  clear c0 c1 b0 b1 hg6 hc6 hs2 hs4 HB4
  have hv : v = 0 ∨ v = 1 ∨ v = 2 ∨ v = 3 ∨ v = 4 ∨ v = 5 ∨ v = 6 := by omega
  rcases hv with rfl | rfl | rfl | rfl | rfl | rfl | rfl
  · have HL : Hid (∀ W, Below w6.heap.size w6 W → NewR (W.alloc (.cells #[.int .i64 2, .int .i64 0, .int .i64 2, .int .i64 1, .int .i64 4, .int .i64 0] 66)) w.heap.size (.slice (some ⟨W.heap.size, 0, none⟩) 3 3) [(2, 0), (2, 1), (4, 0)] ∧ Drew w (W.alloc (.cells #[.int .i64 2, .int .i64 0, .int .i64 2, .int .i64 1, .int .i64 4, .int .i64 0] 66)) c n 600) := fun W hW => ⟨lit_new W _ (HS.out.2.1 W hW) [(2, 0), (2, 1), (4, 0)] _ _ rfl (by decide) (nums8 _ (by decide)), HS.out.2.2 _ (hW.alloc hW.size _)⟩
    go_wp2
    go_ret
    exact ⟨_, _, rfl, (HL.out _ (Below.refl _ _)).1, (HL.out _ (Below.refl _ _)).2⟩
  · have HL : Hid (∀ W, Below w6.heap.size w6 W → NewR (W.alloc (.cells #[.int .i64 2, .int .i64 0, .int .i64 2, .int .i64 0, .int .i64 4, .int .i64 0] 66)) w.heap.size (.slice (some ⟨W.heap.size, 0, none⟩) 3 3) [(2, 0), (2, 0), (4, 0)] ∧ Drew w (W.alloc (.cells #[.int .i64 2, .int .i64 0, .int .i64 2, .int .i64 0, .int .i64 4, .int .i64 0] 66)) c n 600) := fun W hW => ⟨lit_new W _ (HS.out.2.1 W hW) [(2, 0), (2, 0), (4, 0)] _ _ rfl (by decide) (nums8 _ (by decide)), HS.out.2.2 _ (hW.alloc hW.size _)⟩
    go_wp2
    go_ret
    exact ⟨_, _, rfl, (HL.out _ (Below.refl _ _)).1, (HL.out _ (Below.refl _ _)).2⟩
  · have HL : Hid (∀ W, Below w6.heap.size w6 W → NewR (W.alloc (.cells #[.int .i64 2, .int .i64 0, .int .i64 2, .int .i64 1, .int .i64 6, .int .i64 0] 66)) w.heap.size (.slice (some ⟨W.heap.size, 0, none⟩) 3 3) [(2, 0), (2, 1), (6, 0)] ∧ Drew w (W.alloc (.cells #[.int .i64 2, .int .i64 0, .int .i64 2, .int .i64 1, .int .i64 6, .int .i64 0] 66)) c n 600) := fun W hW => ⟨lit_new W _ (HS.out.2.1 W hW) [(2, 0), (2, 1), (6, 0)] _ _ rfl (by decide) (nums8 _ (by decide)), HS.out.2.2 _ (hW.alloc hW.size _)⟩
    go_wp2
    go_ret
    exact ⟨_, _, rfl, (HL.out _ (Below.refl _ _)).1, (HL.out _ (Below.refl _ _)).2⟩
  · obtain ⟨d0, d1, d2, d3⟩ := HBX.out w6.drew (Below.refl _ _).drew
    have H36 := (show Hid _ from HV.out 2 w6.drew)
    go_wp2_with fail
    go_region_with (go_at_call 97; refine Calls.mono H36.out ?_; rintro e w7 ⟨rfl, hb7⟩; have hB7 : Below w6.heap.size w6 w7 := (Below.refl _ _).drew.trans hb7; obtain ⟨x0, x1, x2, x3⟩ := HBX.out w7 hB7; have HB7 := (show Hid _ from hB7); clear H36 hb7 hB7)
    all_goals
      go_wp2
      go_ret
      exact ⟨_, [(2, 0), (2, 1), (4, 0), (2, 2), (4, 0)], rfl, lit_new w7 _ (HS.out.2.1 _ HB7.out) [(2, 0), (2, 1), (4, 0), (2, 2), (4, 0)] _ _ rfl (by decide) (nums8 _ (by decide)), HS.out.2.2 _ (HB7.out.alloc HB7.out.size _)⟩
  · obtain ⟨d0, d1, d2, d3⟩ := HBX.out w6.drew (Below.refl _ _).drew
    have H43 := (show Hid _ from num_any w6.drew c (n + 1) (HS.out.1.kept (grown_of (Below.refl _ _).drew) (fun r hr => by cases hr)) (by omega))
    have HN : Hid (∀ (x : Int) W, Calls Tryz.prog 95 #[.int .i64 x] W fun e w' => e = .returned (.agg #[.int .i64 1, .int .i64 x]) ∧ Below W.heap.size W w') := fun x W => l2Num_any x W
    have hG6d : w.grownBy w6.drew (some c) := gtrans hG6 (grown_of8 (Below.refl _ _).drew)
    have hcB : c < B1 := by omega
    have hs6d : B1 < w6.drew.heap.size := hs6.1
    go_wp2_with fail
    go_region_with (first
      | (go_at_call 96; refine Calls.mono H43.out ?_; rintro e w7 ⟨x, rfl, hx, ⟨n7, hn7, hc7⟩, hg7⟩; have x0 := hg7.cell d0 (by intro e; have := Option.some.inj e; (try simp only at this); omega); have x1 := hg7.cell d1 (by intro e; have := Option.some.inj e; (try simp only at this); omega); have H44 := (show Hid _ from HN.out x w7); have hs7 : B1 < w7.heap.size := Nat.lt_of_lt_of_le hs6d hg7.size; clear H43)
      | (go_at_call 95; refine Calls.mono H44.out ?_; rintro e w8 ⟨rfl, hb8⟩; have y0 := (hb8.cell (p := ⟨B1, 0, none⟩) hs7).trans x0; have y1 := (hb8.cell (p := ⟨B1, 1, none⟩) hs7).trans x1; clear H44))
    all_goals
      have hG8 : w.grownBy w8 (some c) := gtrans (gtrans hG6d hg7) (grown_of8 hb8)
      have HE : Hid (∀ o : Obj, Drew w (w8.alloc o) c n 600) := fun o => ⟨⟨n7, by omega, hc7.kept (grown_of (hb8.alloc hb8.size o)) (fun r hr => by cases hr)⟩, gtrans hG8 (grown_of8 ((Below.refl _ _).alloc (Nat.le_refl _) o))⟩
      have hs8 := hG8.size
      go_wp2
      go_ret
      exact ⟨_, [(2, 0), (1, x), (6, 0)], rfl, lit_new w8 _ hs8 [(2, 0), (1, x), (6, 0)] _ _ rfl (by simp) (fun y hy => by simp at hy; rcases hy with rfl | rfl | rfl; exact ⟨by decide, by decide⟩; exact hx; exact ⟨by decide, by decide⟩), HE.out _⟩
  · have HL : Hid (∀ W, Below w6.heap.size w6 W → NewR (W.alloc (.cells #[.int .i64 2, .int .i64 0] 66)) w.heap.size (.slice (some ⟨W.heap.size, 0, none⟩) 1 1) [(2, 0)] ∧ Drew w (W.alloc (.cells #[.int .i64 2, .int .i64 0] 66)) c n 600) := fun W hW => ⟨lit_new W _ (HS.out.2.1 W hW) [(2, 0)] _ _ rfl (by decide) (nums8 _ (by decide)), HS.out.2.2 _ (hW.alloc hW.size _)⟩
    go_wp2
    go_ret
    exact ⟨_, _, rfl, (HL.out _ (Below.refl _ _)).1, (HL.out _ (Below.refl _ _)).2⟩
  · have CA := (show Hid _ from all_any w6)
    go_wp2_with fail
    refine Calls.mono CA.out ?_
    rintro e w7 ⟨rfl, ho7, hb7⟩
    have CT := tree_any 2 (by omega) w7 c (n + 1) w6.heap.size 11 (HS.out.1.kept (grown_of hb7) (fun r hr => by cases hr)) (by rw [show draws 2 = 190 from by decide]; omega) (by omega) ho7
    have CT' := (show Hid _ from CT)
    have hG7 : w.grownBy w7 (some c) := gtrans hG6 (grown_of8 hb7)
    clear CA CT hb7 ho7
    go_wp2_with fail
    refine Calls.mono CT'.out ?_
    rintro e w8 ⟨v8, l, rfl, hown, hl1, hl2, HNL, ⟨n3, hn3, hc3⟩, hg3⟩
    have hd2 : draws 2 = 190 := by decide
    have hm2 : most 2 = 13 := by decide
    have HE : Hid (NewR w8 w.heap.size v8 l ∧ Drew w w8 c n 600) := ⟨(NewR.of hown (by omega) HNL.out).base hG7.size, ⟨n3, by omega, hc3⟩, gtrans hG7 hg3⟩
    clear CT' hown hc3 hg3
    go_wp2
    go_ret
    exact ⟨_, l, rfl, HE.out⟩
end Go.Proofs.YtkadanagmahhgaaGreatDoor
namespace Go.Proofs.YtkadanagmahhgaaGreatDoor
open Go.ChangeShapes Go.WideShapes Go.ChangeAt Go.RowKit
open Odd
set_option linter.unusedVariables false
attribute [local go_sem] conv1 isByte_some byteIn_some

theorem pick_big (w : World) (c n : Nat) (m : Int) (h : Cur w c n) (hn : n + 1 < 1048576) (hm : 200 < m) (hm' : m ≤ 60000) :
    Calls Tryz.prog 27 #[.pointer (some ⟨c, 0, none⟩), .int .i64 m] w fun e w' => ∃ v : Int, e = .returned (.int .i64 v) ∧ 0 ≤ v ∧ v < m ∧ Cur w' c (n + 2) ∧ w.grownBy w' (some c) := by
  have hN := (show Hid _ from next_any w c n h (by omega))
  clear h
  have h1 : ¬ m ≤ 1 := by omega
  go_enter Tryz.func27, Tryz.ntmps27
  go_wp2_with fail
  refine Calls.mono hN.out ?_
  rintro e w1 ⟨v, rfl, v0, v1, hc, hg⟩
  have hN2 := (show Hid _ from next_any w1 c (n + 1) hc (by omega))
  clear hN hc
  go_wp2_with fail
  refine Calls.mono hN2.out ?_
  rintro e w2 ⟨u, rfl, u0, u1, hc2, hg2⟩
  have hw : IntKind.i64.wrap (IntKind.i64.wrap (v * 256) + u) = v * 256 + u := by rw [IntKind.wrap_i64, IntKind.wrap_i64]; omega
  go_wp2
  go_ret
  refine ⟨_, rfl, ?_, ?_, hc2, gtrans hg hg2⟩
  · exact Int.emod_nonneg _ (by omega)
  · exact Int.emod_lt_of_pos _ (by omega)
theorem pick_gen (w : World) (c n : Nat) (m : Int) (h : Cur w c n) (hn : n + 1 < 1048576) (hm : 1 ≤ m) (hm' : m ≤ 60000) :
    Calls Tryz.prog 27 #[.pointer (some ⟨c, 0, none⟩), .int .i64 m] w fun e w' => ∃ v : Int, e = .returned (.int .i64 v) ∧ 0 ≤ v ∧ v < m ∧ Drew w w' c n 2 := by
  by_cases h2 : 2 ≤ m
  · by_cases h3 : m ≤ 200
    · exact (pick_any w c n m h (by omega) h2 h3).mono fun e w' ⟨v, he, v0, v1, hc, hg⟩ => ⟨v, he, v0, v1, ⟨_, by omega, hc⟩, hg⟩
    · exact (pick_big w c n m h hn (by omega) hm').mono fun e w' ⟨v, he, v0, v1, hc, hg⟩ => ⟨v, he, v0, v1, ⟨_, by omega, hc⟩, hg⟩
  · have h1 : m ≤ 1 := by omega
    go_enter Tryz.func27, Tryz.ntmps27
    go_wp2
    go_ret
    exact ⟨0, rfl, by omega, by omega, ⟨n, by omega, h⟩, World.grownBy.refl _ _⟩
theorem of_any (w : World) (c n b L cap : Nat) (h : Cur w c n) (hn : n + 1 < 1048576) (hl : 1 ≤ L) (hl' : L ≤ 200) (hbc : c < b)
    (hcell : ∀ i, i < L → ∃ s : ByteArray, w.cell? ⟨b, i, none⟩ = some (.string s) ∧ s.size ≤ 20) :
    Calls Tryz.prog 29 #[.pointer (some ⟨c, 0, none⟩), .slice (some ⟨b, 0, none⟩) L cap] w fun e w' => ∃ s : ByteArray, e = .returned (.string s) ∧ s.size ≤ 20 ∧ Drew w w' c n 2 := by
  go_enter Tryz.func29, Tryz.ntmps29
  go_wp2_with fail
  refine (pick_gen w c n _ h hn (by omega) (by omega)).mono ?_
  rintro e w1 ⟨v, rfl, v0, v1, hd⟩
  obtain ⟨i, rfl⟩ := Int.eq_ofNat_of_zero_le v0
  have hi : i < L := by omega
  obtain ⟨s, hs, hsz⟩ := hcell i hi
  have hci : w1.cell? ⟨b, i, none⟩ = some (.string s) := hd.2.cell hs (by intro e; simp at e; omega)
  clear hcell h hs
  go_wp2
  go_ret
  exact ⟨s, rfl, hsz, hd⟩
theorem size_a (s : ByteArray) (c : UInt8) (p : Nat) (hp : p < s.size) : (s.extract 0 p ++ ⟨#[c]⟩ ++ s.extract p s.size).size ≤ s.size + 1 := by
  have : (⟨#[c]⟩ : ByteArray).size = 1 := rfl
  simp [ByteArray.size_append, ByteArray.size_extract, this]; omega
theorem size_b (s : ByteArray) (c : UInt8) (p : Nat) (hp : p < s.size) : (s.extract 0 p ++ ⟨#[c]⟩ ++ s.extract (p + 1) s.size).size ≤ s.size + 1 := by
  have : (⟨#[c]⟩ : ByteArray).size = 1 := rfl
  simp [ByteArray.size_append, ByteArray.size_extract, this]; omega
theorem size_c (s : ByteArray) (p : Nat) (hp : p < s.size) : (s.extract 0 p ++ s.extract (p + 1) s.size).size ≤ s.size + 1 := by
  simp [ByteArray.size_append, ByteArray.size_extract]; omega
theorem size_k {a b k : Nat} (h : a ≤ b + 1) (hs : b + k ≤ 1202) (hk : 0 < k) : a + (k - 1) ≤ 1202 := by omega
theorem drewn {w w1 : World} {c : Nat} (h : w.grownBy w1 (some c)) (n : Nat) : w.grownBy (w1.drewN n) (some c) := ⟨h.os, h.tape, h.output, h.size, h.block⟩
def spoils : List UInt8 := [40, 97, 49, 60, 43, 45, 61, 63, 58, 41, 126]
set_option maxHeartbeats 2000000 in
theorem spoilt_any (w : World) (c n : Nat) (t : ByteArray) (h : Cur w c n) (hn : n ≤ 10000) (ht : t.size ≤ 1200) :
    Calls Tryz.prog 28 #[.pointer (some ⟨c, 0, none⟩), .string t, .string ⟨#[40, 97, 49, 60, 43, 45, 61, 63, 58, 41, 126]⟩] w fun e w' => ∃ s : ByteArray, e = .returned (.string s) ∧ s.size ≤ 1202 ∧ Drew w w' c n 20 := by
  go_enter Tryz.func28, Tryz.ntmps28
  go_wp2_with fail
  refine (pick_any w c n 2 h (by omega) (by decide) (by decide)).mono ?_
  rintro e w1 ⟨v, rfl, v0, v1, hc1, hg1⟩
  clear h
  obtain ⟨q, rfl⟩ := Int.eq_ofNat_of_zero_le v0
  have hq : q ≤ 1 := by omega
  go_wp2_with fail
  go_loopw [1, 7] (fun x i wr => ∃ (k : Nat) (s : ByteArray) (j : Nat), k ≤ 2 ∧ i = .int .i64 k ∧ x = .string s ∧ s.size + k ≤ 1202 ∧ (j + 4 * k ≤ n + 9 ∧ Cur wr c j) ∧ w.grownBy wr (some c)) (fun _ i _ => (intOf i).toNat)
  case atStart => exact ⟨q + 1, t, n + 1, by omega, by go_num, rfl, by omega, ⟨by omega, hc1⟩, hg1⟩
  case round =>
    obtain ⟨k, s, j, hk, rfl, rfl, hsz, ⟨hj, hcr⟩, hgr⟩ := hrel
    clear hc1 hg1
    by_cases h0 : 0 < k ∧ 0 < s.size
    · obtain ⟨hk0, hs0⟩ := h0
      have i0 : (0 : Int) < k := by omega
      have i1 : (0 : Int) < s.size := by omega
      go_wp2_with fail
      refine (pick_gen wr c j _ hcr (by omega) (by omega) (by omega)).mono ?_
      rintro e w2 ⟨a, rfl, a0, a1, ⟨j2, hj2, hc2⟩, hg2⟩
      have hg12 := gtrans hgr hg2
      clear hcr hgr hg2
      obtain ⟨p, rfl⟩ := Int.eq_ofNat_of_zero_le a0
      go_wp2_with fail
      refine (pick_any w2 c j2 11 hc2 (by omega) (by decide) (by decide)).mono ?_
      rintro e w3 ⟨b, rfl, b0, b1, hc3, hg3⟩
      have hg13 := gtrans hg12 hg3
      clear hc2 hg12 hg3
      obtain ⟨r, rfl⟩ := Int.eq_ofNat_of_zero_le b0
      have hr : r < 11 := by omega
      have hr' : (r : Int) < 11 := by omega
      go_wp2_with fail
      have hc4 : ∀ o, Cur (w3.alloc o) c (j2 + 1) := fun o => hc3.kept (World.grownBy_alloc w3 o none) (fun r hr => by cases hr)
      refine (pick_any _ c _ 3 (hc4 _) (by omega) (by decide) (by decide)).mono ?_
      rintro e w4 ⟨d, rfl, d0, d1, hc5, hg5⟩
      have hg14 : w.grownBy w4 (some c) := gtrans (gtrans hg13 (World.grownBy_alloc w3 _ (some c))) hg5
      clear hc3 hc4 hg13 hg5
      have hp : p < s.size := by omega
      have hd : d = 0 ∨ d = 1 ∨ d = 2 := by omega
      rcases hd with rfl | rfl | rfl
      · go_wp2_with fail
        go_quiet (fail)
        go_wp2
        go_roundw
        case rel => exact ⟨k - 1, _, j2 + 1 + 1, by omega, by congr 1; omega, rfl, size_k (size_a s _ p hp) hsz hk0, ⟨by omega, hc5⟩, drewn hg14 _⟩
        case measure => simp [intOf]; omega
      · go_wp2_with fail
        go_quiet (fail)
        go_wp2
        go_roundw
        case rel => exact ⟨k - 1, _, j2 + 1 + 1, by omega, by congr 1; omega, rfl, size_k (size_b s _ p hp) hsz hk0, ⟨by omega, hc5⟩, drewn hg14 _⟩
        case measure => simp [intOf]; omega
      · go_wp2_with fail
        go_quiet (fail)
        go_wp2
        go_roundw
        case rel => exact ⟨k - 1, _, j2 + 1 + 1, by omega, by congr 1; omega, rfl, size_k (size_c s p hp) hsz hk0, ⟨by omega, hc5⟩, drewn hg14 _⟩
        case measure => simp [intOf]; omega
    · go_wp2
      all_goals
        go_ret
        exact ⟨s, rfl, by omega, ⟨j, by omega, hcr⟩, hgr⟩
end Go.Proofs.YtkadanagmahhgaaGreatDoor
namespace Go.Proofs.YtkadanagmahhgaaGreatDoor
open Go.ChangeShapes Go.WideShapes Go.ChangeAt Go.RowKit
open Odd
set_option linter.unusedVariables false

theorem termT_len {l : List (Int × Int)} (hn : InN l) : (termT l).length ≤ 1000 := by
  unfold termT
  split
  · next h => exact text_len h (fun k _ => itoa_len _ (hn k))
  · simp
theorem texts_cells (W : World) (C : Array Value) (t : TypeId) (n : Nat) (hC : ∀ i, i < n → ∃ s : ByteArray, C[i]? = some (.string s) ∧ s.size ≤ 20) : ∀ i, i < n → ∃ s : ByteArray, (W.alloc (.cells C t)).cell? ⟨W.heap.size, i, none⟩ = some (.string s) ∧ s.size ≤ 20 := by
  intro i hi
  obtain ⟨s, h1, h2⟩ := hC i hi
  exact ⟨s, by rw [World.cell?_alloc_at _ _ _ _ rfl]; exact h1, h2⟩
end Go.Proofs.YtkadanagmahhgaaGreatDoor
