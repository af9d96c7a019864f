/-
  PROVED HERE: what the model's and the program's ShippedRules answer. The tables are laid, and the library's bound on short searches holds some number. No other condition. what the program's ShippedRules answers. The tables are laid, and the library's bound on short searches holds some number. No other condition. what the laws' comparing, marking and asking of rows of rules answer, and the law FnExactShippedRules's own run. The tables are laid, and the library's bound on short searches holds some number. No other condition.
-/
import Derived.Test.YtbchehpggoampaaDoorAxRows
import Derived.Test.YtbchehpggoampaaDoorAhead
namespace Go.Proofs.YtbchehpggoampaaDoor
open Go.ChangeShapes Go.WideShapes Go.ChangeAt Go.RowKit
set_option linter.unusedVariables false

def axThree : List (List UInt8) := [axTs.getD 0 [], axTs.getD 1 [], axTs.getD 4 []]
def shipT : List (List UInt8) := shTs ++ axThree
theorem sh_strs (w : World) : Strs (w.alloc (.cells #[.string ⟨#[40, 97, 43, 98, 41, 61, 62, 40, 98, 43, 97, 41]⟩, .string ⟨#[40, 40, 97, 43, 98, 41, 43, 99, 41, 61, 62, 40, 97, 43, 40, 98, 43, 99, 41, 41]⟩, .string ⟨#[40, 97, 42, 98, 41, 61, 62, 40, 98, 42, 97, 41]⟩, .string ⟨#[40, 40, 97, 42, 98, 41, 42, 99, 41, 61, 62, 40, 97, 42, 40, 98, 42, 99, 41, 41]⟩, .string ⟨#[40, 97, 43, 48, 41, 61, 62, 97]⟩, .string ⟨#[40, 97, 42, 49, 41, 61, 62, 97]⟩, .string ⟨#[40, 97, 45, 98, 41, 61, 62, 40, 97, 43, 126, 98, 41]⟩, .string ⟨#[126, 126, 97, 61, 62, 97]⟩, .string ⟨#[40, 97, 42, 50, 41, 61, 62, 40, 97, 60, 60, 49, 41]⟩, .string ⟨#[40, 97, 43, 97, 41, 61, 62, 40, 97, 42, 50, 41]⟩, .string ⟨#[40, 40, 97, 42, 99, 41, 43, 40, 98, 42, 99, 41, 41, 61, 62, 40, 40, 97, 43, 98, 41, 42, 99, 41]⟩, .string ⟨#[40, 97, 42, 45, 49, 41, 61, 62, 126, 97]⟩, .string ⟨#[40, 97, 45, 48, 41, 61, 62, 97]⟩] 9)) w.heap.size 13 shTs := by
  refine ⟨rfl, by simp, fun i hi => ?_⟩
  rcases (show i = 0 ∨ i = 1 ∨ i = 2 ∨ i = 3 ∨ i = 4 ∨ i = 5 ∨ i = 6 ∨ i = 7 ∨ i = 8 ∨ i = 9 ∨ i = 10 ∨ i = 11 ∨ i = 12 by omega) with rfl | rfl | rfl | rfl | rfl | rfl | rfl | rfl | rfl | rfl | rfl | rfl | rfl <;> exact ⟨by simp [go_sem, shTs], by decide⟩
theorem ship_strs (w : World) (s0 s1 s4 : ByteArray) (h0 : s0 = ⟨(axTs.getD 0 []).toArray⟩) (h1 : s1 = ⟨(axTs.getD 1 []).toArray⟩) (h4 : s4 = ⟨(axTs.getD 4 []).toArray⟩) : Strs (w.alloc (.cells #[.string ⟨#[40, 97, 43, 98, 41, 61, 62, 40, 98, 43, 97, 41]⟩, .string ⟨#[40, 40, 97, 43, 98, 41, 43, 99, 41, 61, 62, 40, 97, 43, 40, 98, 43, 99, 41, 41]⟩, .string ⟨#[40, 97, 42, 98, 41, 61, 62, 40, 98, 42, 97, 41]⟩, .string ⟨#[40, 40, 97, 42, 98, 41, 42, 99, 41, 61, 62, 40, 97, 42, 40, 98, 42, 99, 41, 41]⟩, .string ⟨#[40, 97, 43, 48, 41, 61, 62, 97]⟩, .string ⟨#[40, 97, 42, 49, 41, 61, 62, 97]⟩, .string ⟨#[40, 97, 45, 98, 41, 61, 62, 40, 97, 43, 126, 98, 41]⟩, .string ⟨#[126, 126, 97, 61, 62, 97]⟩, .string ⟨#[40, 97, 42, 50, 41, 61, 62, 40, 97, 60, 60, 49, 41]⟩, .string ⟨#[40, 97, 43, 97, 41, 61, 62, 40, 97, 42, 50, 41]⟩, .string ⟨#[40, 40, 97, 42, 99, 41, 43, 40, 98, 42, 99, 41, 41, 61, 62, 40, 40, 97, 43, 98, 41, 42, 99, 41]⟩, .string ⟨#[40, 97, 42, 45, 49, 41, 61, 62, 126, 97]⟩, .string ⟨#[40, 97, 45, 48, 41, 61, 62, 97]⟩, .string s0, .string s1, .string s4] 9)) w.heap.size 16 shipT := by
  refine ⟨rfl, by simp, fun i hi => ?_⟩
  rcases (show i = 0 ∨ i = 1 ∨ i = 2 ∨ i = 3 ∨ i = 4 ∨ i = 5 ∨ i = 6 ∨ i = 7 ∨ i = 8 ∨ i = 9 ∨ i = 10 ∨ i = 11 ∨ i = 12 ∨ i = 13 ∨ i = 14 ∨ i = 15 by omega) with rfl | rfl | rfl | rfl | rfl | rfl | rfl | rfl | rfl | rfl | rfl | rfl | rfl | rfl | rfl | rfl <;> exact ⟨by first | (simp [go_sem, shipT, shTs, axThree]; done) | (simp [go_sem, shipT, shTs, axThree, h0, h1, h4]; done) | (rw [h0] at *; simp [go_sem, shipT, shTs, axThree]), by decide⟩
/-- A row of rules that were read of texts. -/
def RowsR (w w' : World) (n : Nat) (ts : List (List UInt8)) (e : Ending) : Prop := ∃ (a : Option Addr) (d : Nat) (xs : List Value), e = .returned (.slice a n d) ∧ w'.ownsRow w.heap.size 29 2 (.slice a n d) n xs ∧ Read w' w.heap.size (Value.slice a n d).ownBlock xs ts ∧ Below w.heap.size w w'
set_option maxHeartbeats 800000 in
set_option maxRecDepth 20000 in
theorem l8Shipped_any (w : World) : Calls Tryd.prog 47 #[] w fun e w' => e = .returned (.slice (some ⟨w.heap.size, 0, none⟩) 16 16) ∧ Strs w' w.heap.size 16 shipT ∧ Below w.heap.size w w' := by
  obtain ⟨s0, h0⟩ : ∃ s : ByteArray, s = ⟨(axTs.getD 0 []).toArray⟩ := ⟨_, rfl⟩
  obtain ⟨s1, h1⟩ : ∃ s : ByteArray, s = ⟨(axTs.getD 1 []).toArray⟩ := ⟨_, rfl⟩
  obtain ⟨s4, h4⟩ : ∃ s : ByteArray, s = ⟨(axTs.getD 4 []).toArray⟩ := ⟨_, rfl⟩
  have H0 : Hid (∀ W, Calls Tryd.prog 38 #[.int .i64 0] W fun e w' => e = .returned (.string s0) ∧ w' = W) := fun W => by rw [h0]; exact l8Axiom_any 0 W (by decide)
  have H1 : Hid (∀ W, Calls Tryd.prog 38 #[.int .i64 1] W fun e w' => e = .returned (.string s1) ∧ w' = W) := fun W => by rw [h1]; exact l8Axiom_any 1 W (by decide)
  have H4 : Hid (∀ W, Calls Tryd.prog 38 #[.int .i64 4] W fun e w' => e = .returned (.string s4) ∧ w' = W) := fun W => by rw [h4]; exact l8Axiom_any 4 W (by decide)
  have HS : Hid (Strs (w.alloc (.cells #[.string ⟨#[40, 97, 43, 98, 41, 61, 62, 40, 98, 43, 97, 41]⟩, .string ⟨#[40, 40, 97, 43, 98, 41, 43, 99, 41, 61, 62, 40, 97, 43, 40, 98, 43, 99, 41, 41]⟩, .string ⟨#[40, 97, 42, 98, 41, 61, 62, 40, 98, 42, 97, 41]⟩, .string ⟨#[40, 40, 97, 42, 98, 41, 42, 99, 41, 61, 62, 40, 97, 42, 40, 98, 42, 99, 41, 41]⟩, .string ⟨#[40, 97, 43, 48, 41, 61, 62, 97]⟩, .string ⟨#[40, 97, 42, 49, 41, 61, 62, 97]⟩, .string ⟨#[40, 97, 45, 98, 41, 61, 62, 40, 97, 43, 126, 98, 41]⟩, .string ⟨#[126, 126, 97, 61, 62, 97]⟩, .string ⟨#[40, 97, 42, 50, 41, 61, 62, 40, 97, 60, 60, 49, 41]⟩, .string ⟨#[40, 97, 43, 97, 41, 61, 62, 40, 97, 42, 50, 41]⟩, .string ⟨#[40, 40, 97, 42, 99, 41, 43, 40, 98, 42, 99, 41, 41, 61, 62, 40, 40, 97, 43, 98, 41, 42, 99, 41]⟩, .string ⟨#[40, 97, 42, 45, 49, 41, 61, 62, 126, 97]⟩, .string ⟨#[40, 97, 45, 48, 41, 61, 62, 97]⟩, .string s0, .string s1, .string s4] 9)) w.heap.size 16 shipT) := ship_strs w s0 s1 s4 h0 h1 h4
  clear h0 h1 h4
  go_enter Tryd.func47, Tryd.ntmps47
  go_wp2_with fail
  refine Calls.mono (H0.out _) ?_
  rintro e w2 ⟨rfl, rfl⟩
  go_wp2_with fail
  refine Calls.mono (H1.out _) ?_
  rintro e w3 ⟨rfl, rfl⟩
  go_wp2_with fail
  refine Calls.mono (H4.out _) ?_
  rintro e w4 ⟨rfl, rfl⟩
  go_wp2
  go_ret
  exact ⟨rfl, HS.out, (Below.refl _ _).alloc (Nat.le_refl _) _⟩
set_option maxHeartbeats 3200000 in
set_option maxRecDepth 20000 in
theorem specShipped_any (w : World) : Calls Tryd.prog 22 #[] w fun e w' => RowsR w w' 16 shipT e := by
  obtain ⟨i0, hi, hz0, hz1, hz2⟩ := info_parts infoRule
  have HSh := (show Hid _ from l8Shipped_any w)
  have HRd : Hid (∀ (t : ByteArray) W, t.size ≤ 1048576 → Calls Tryd.prog 37 #[.string t] W fun e w' => ∃ v u, e = .returned (.agg #[v, u]) ∧ TwoR w' W.heap.size v u (ruleL t.data.toList) (ruleR t.data.toList) ∧ Below W.heap.size W w') := fun t W h1 => l8Read_any t W h1
  unfold RowsR
  obtain ⟨ts, hts⟩ : ∃ ts, shipT = ts := ⟨_, rfl⟩
  rw [hts] at HSh ⊢
  have hlen : ts.length = 16 := by rw [← hts]; rfl
  clear hts
  go_enter Tryd.func22, Tryd.ntmps22
  go_wp2_with fail
  refine Calls.mono HSh.out ?_
  rintro e w1 ⟨rfl, hS1, hb1⟩
  have HS : Hid (Strs w1 w.heap.size 16 ts) := hS1
  have HB1 := (show Hid _ from hb1)
  clear HSh hS1 hb1
  go_wp2_with fail
  go_loopw [1, 6] (fun y i wr => ∃ (k : Nat) (a : Option Addr) (d : Nat) (xs : List Value), k ≤ 16 ∧ i = .int .i64 k ∧ y = .slice a k d ∧ Hid (wr.ownsRow w1.heap.size 29 2 (.slice a k d) k xs ∧ Read wr w1.heap.size (Value.slice a k d).ownBlock xs (ts.take k) ∧ Below w1.heap.size w1 wr)) (fun _ i _ => 16 - (intOf i).toNat)
  case atStart => exact ⟨0, none, 0, [], Nat.zero_le _, rfl, rfl, World.ownsRow_nil _ _ _ _, Read.nil _ _ _, Below.refl _ _⟩
  case round =>
    obtain ⟨k, a, d, xs, hk, rfl, rfl, hR⟩ := hrel
    by_cases hlt : k < 16
    · obtain ⟨ho, hrd, hbr⟩ := hR.out
      obtain ⟨hc, hl⟩ := ((HS.out.keep hbr).2.2 k hlt)
      have hkl : (k : Int) < 16 := by omega
      have hak : Hid (ts.take (k + 1) = ts.take k ++ [ts.getD k []]) := take_snoc (by omega)
      obtain ⟨t, ht⟩ : ∃ t, ts.getD k [] = t := ⟨_, rfl⟩
      rw [ht] at hc hl hak
      have HC := (show Hid _ from HRd.out (⟨t.toArray⟩ : ByteArray) wr (by show t.toArray.size ≤ _; simp; omega))
      have e1 : (⟨t.toArray⟩ : ByteArray).data.toList = t := by simp
      rw [e1] at HC
      clear ho hrd hbr hl ht e1
      go_wp2_with fail
      refine Calls.mono HC.out ?_
      rintro e w2 ⟨v, u, rfl, hTwo, hb2⟩
      obtain ⟨av, cv, rfl⟩ := own_shape hTwo.1
      obtain ⟨au, cu, rfl⟩ := own_shape hTwo.2.1
      have HTwo : Hid (TwoR w2 wr.heap.size _ _ _ _ ∧ Below wr.heap.size wr w2) := ⟨hTwo, hb2⟩
      have hrow : w2.ownsRow w1.heap.size 29 2 (.slice a k d) k xs := own_keep hR.out.1 hb2
      have hwlo : w1.heap.size ≤ w2.heap.size := Nat.le_trans hR.out.2.2.size hb2.size
      obtain ⟨m1, hm1⟩ : ∃ m, (ruleL t).length = m := ⟨_, rfl⟩
      obtain ⟨m2, hm2⟩ : ∃ m, (ruleR t).length = m := ⟨_, rfl⟩
      rw [hm1, hm2] at HTwo
      rw [hm1, hm2]
      clear HC
      have HNX : Hid (∀ (X : World) (v6 : Value) (w6 : World), Below w2.heap.size w2 X → X.grownBy w6 (Value.slice a k d).ownBlock → (v6.ownBlock = (Value.slice a k d).ownBlock ∨ v6.ownBlock = some X.heap.size) → Read w6 w1.heap.size v6.ownBlock (xs ++ [.slice av m1 cv, .slice au m2 cu]) (ts.take (k + 1)) ∧ Below w1.heap.size w1 w6) := fun X v6 w6 hX hg h6 => by
        obtain ⟨ho, hrd, hbr⟩ := hR.out
        obtain ⟨hT2, hb2⟩ := HTwo.out
        have hbX : Below wr.heap.size wr X := hb2.trans (hX.mono hb2.size)
        rw [hak.out]
        refine ⟨hrd.snoc hbX (hT2.keep hX) (Nat.le_refl _) hbr.size hg rfl (fun x hx => own_in ho x hx) ?_, (hbr.trans (hbX.mono hbr.size)).grown hg (Nat.le_trans hbr.size hbX.size) (fun r hr => own_ge ho r hr)⟩
        rcases h6 with h | h
        · exact .inl h
        · exact .inr ⟨_, h, Nat.le_refl _⟩
      have HX2 : Hid (w2.ownsRow w1.heap.size 29 2 (.slice a k d) k xs ∧ w1.heap.size ≤ w2.heap.size ∧ Below w2.heap.size w2 (w2.alloc (.cells #[.slice av m1 cv, .slice au m2 cu] 29))) := ⟨hrow, hwlo, (Below.refl _ _).alloc (Nat.le_refl _) _⟩
      clear hTwo hb2 hrow hwlo HTwo hak HRd hR hm1 hm2
      go_wp2_with (at_builtin; refine wpList_append_own_at _ rfl _ _ 42 rfl w1.heap.size 29 i0 (.agg #[.slice none 0 0, .slice none 0 0]) 2 48 Tryd.underlying42 hi hz0 hz1 hz2 rfl (by decide) _ _ _ rfl (HX2.out.1.alloc _) ⟨w2.heap.size, 0, none⟩ 1 1 [_, _] rfl rfl (cell_newR _ _ _ _) (one_cellR _ _ _ _ _ _) (by unfold maxLen; omega) (by omega) (by have := HX2.out.2.1; simp; omega) ?_; intro v6 w6 k1 k2 _ k3; obtain ⟨a6, c6, rfl⟩ := row_slice2 k1; have HN6 := (show Hid _ from HNX.out _ _ _ HX2.out.2.2 k2 k3); have HK1 := (show Hid _ from k1); clear k1 k2 k3)
      go_roundw
      case rel => exact ⟨k + 1, a6, c6, _, by omega, by go_num, by first | trivial | rfl, HK1.out, HN6.out.1, HN6.out.2⟩
      case measure => simp [intOf]; omega
    · obtain rfl : k = 16 := by omega
      have hall : ts.take 16 = ts := List.take_of_length_le (by omega)
      rw [hall] at hR
      clear hall
      go_wp2
      go_ret
      exact ⟨_, _, _, rfl, own_base hR.out.1 HB1.out.size, ⟨hR.out.2.1.1, fun i hi => (hR.out.2.1.2.1 i hi).low HB1.out.size, hR.out.2.1.2.2⟩, HB1.out.trans (hR.out.2.2.mono HB1.out.size)⟩
end Go.Proofs.YtbchehpggoampaaDoor
namespace Go.Proofs.YtbchehpggoampaaDoor
open Go.ChangeShapes Go.WideShapes Go.ChangeAt Go.RowKit
set_option linter.unusedVariables false

/-- A row of numbers lies in memory. -/
def Nums (w : World) (b n : Nat) (ks : List Nat) : Prop := ks.length = n ∧ b < w.heap.size ∧ ∀ i, i < n → w.cell? ⟨b, i, none⟩ = some (.int .i64 (ks.getD i 0 : Nat)) ∧ ks.getD i 0 < 12
theorem Nums.keep {w w' : World} {b n : Nat} {ks : List Nat} (h : Nums w b n ks) (hb : Below w.heap.size w w') : Nums w' b n ks := ⟨h.1, Nat.lt_of_lt_of_le h.2.1 hb.size, fun i hi => ⟨(hb.cell (p := ⟨b, i, none⟩) h.2.1).trans (h.2.2 i hi).1, (h.2.2 i hi).2⟩⟩
theorem map_snoc {ks : List Nat} {k : Nat} (h : k < ks.length) : (ks.take (k + 1)).map (fun n => axTs.getD n []) = (ks.take k).map (fun n => axTs.getD n []) ++ [axTs.getD (ks.getD k 0) []] := by
  have e : ks.take (k + 1) = ks.take k ++ [ks.getD k 0] := by rw [List.take_add_one, List.getD_eq_getElem?_getD, List.getElem?_eq_getElem h]; rfl
  rw [e, List.map_append]
  rfl
set_option maxHeartbeats 3200000 in
set_option maxRecDepth 20000 in
theorem someAxioms_any (b n c : Nat) (ks : List Nat) (w : World) (hE : Env w) (hT : Tab w) (hM : MaxL w) (hS : Nums w b n ks) (hn : n ≤ 100) :
    Calls Tryd.prog 49 #[.slice (some ⟨b, 0, none⟩) n c] w fun e w' => RowsR w w' n (ks.map fun n => axTs.getD n []) e := by
  obtain ⟨i0, hi, hz0, hz1, hz2⟩ := info_parts infoRule
  have hlen := hS.1
  have HIm : Hid (∀ (j : Nat) W, j < 12 → Below w.heap.size w W → Calls Tryd.prog 15 #[.int .i64 (j : Int)] W fun e w' => ∃ (v u : Value), e = .returned (.tuple #[.agg #[v, u], .bool true]) ∧ TwoR w' W.heap.size v u (ruleL (axTs.getD j [])) (ruleR (axTs.getD j [])) ∧ Below W.heap.size W w') := fun j W hj hW => by
    have := implAxiom_any (j : Int) W (hE.keep hW) (hT.keeps hW) (hM.keep hW)
    unfold AxR at this
    have e1 : axIs (j : Int) = true := decide_eq_true ⟨by omega, by omega⟩
    have e2 : axP (j : Int) = ruleL (axTs.getD j []) := by unfold axP axT; rw [if_pos e1, Int.toNat_natCast]
    have e3 : axQ (j : Int) = ruleR (axTs.getD j []) := by unfold axQ axT; rw [if_pos e1, Int.toNat_natCast]
    rw [e1, e2, e3] at this
    exact this
  have HS : Hid (Nums w b n ks) := hS
  unfold RowsR
  clear hE hT hM hS
  go_enter Tryd.func49, Tryd.ntmps49
  go_wp2_with fail
  go_loopw [3, 10] (fun y i wr => ∃ (k : Nat) (a : Option Addr) (d : Nat) (xs : List Value), k ≤ n ∧ i = .int .i64 k ∧ y = .slice a k d ∧ Hid (wr.ownsRow w.heap.size 29 2 (.slice a k d) k xs ∧ Read wr w.heap.size (Value.slice a k d).ownBlock xs ((ks.take k).map fun n => axTs.getD n []) ∧ Below w.heap.size w wr)) (fun _ i _ => n - (intOf i).toNat)
  case atStart => exact ⟨0, none, 0, [], Nat.zero_le _, rfl, rfl, World.ownsRow_nil _ _ _ _, Read.nil _ _ _, Below.refl _ _⟩
  case round =>
    obtain ⟨k, a, d, xs, hk, rfl, rfl, hR⟩ := hrel
    by_cases hlt : k < n
    · obtain ⟨ho, hrd, hbr⟩ := hR.out
      obtain ⟨hc, hl⟩ := ((HS.out.keep hbr).2.2 k hlt)
      have hkl : (k : Int) < n := by omega
      have hak := (show Hid _ from map_snoc (ks := ks) (k := k) (by omega))
      obtain ⟨j, hj⟩ : ∃ j, ks.getD k 0 = j := ⟨_, rfl⟩
      rw [hj] at hc hl hak
      have HC := (show Hid _ from HIm.out j wr hl hbr)
      obtain ⟨t, ht⟩ : ∃ t, axTs.getD j [] = t := ⟨_, rfl⟩
      rw [ht] at hak HC
      clear ho hrd hbr hl hj ht
      go_wp2_with fail
      refine Calls.mono HC.out ?_
      rintro e w2 ⟨v, u, rfl, hTwo, hb2⟩
      obtain ⟨av, cv, rfl⟩ := own_shape hTwo.1
      obtain ⟨au, cu, rfl⟩ := own_shape hTwo.2.1
      have HTwo : Hid (TwoR w2 wr.heap.size _ _ _ _ ∧ Below wr.heap.size wr w2) := ⟨hTwo, hb2⟩
      have hrow : w2.ownsRow w.heap.size 29 2 (.slice a k d) k xs := own_keep hR.out.1 hb2
      have hwlo : w.heap.size ≤ w2.heap.size := Nat.le_trans hR.out.2.2.size hb2.size
      obtain ⟨m1, hm1⟩ : ∃ m, (ruleL t).length = m := ⟨_, rfl⟩
      obtain ⟨m2, hm2⟩ : ∃ m, (ruleR t).length = m := ⟨_, rfl⟩
      rw [hm1, hm2] at HTwo
      rw [hm1, hm2]
      clear HC
      have HNX : Hid (∀ (X : World) (v6 : Value) (w6 : World), Below w2.heap.size w2 X → X.grownBy w6 (Value.slice a k d).ownBlock → (v6.ownBlock = (Value.slice a k d).ownBlock ∨ v6.ownBlock = some X.heap.size) → Read w6 w.heap.size v6.ownBlock (xs ++ [.slice av m1 cv, .slice au m2 cu]) ((ks.take (k + 1)).map fun n => axTs.getD n []) ∧ Below w.heap.size w w6) := fun X v6 w6 hX hg h6 => by
        obtain ⟨ho, hrd, hbr⟩ := hR.out
        obtain ⟨hT2, hb2⟩ := HTwo.out
        have hbX : Below wr.heap.size wr X := hb2.trans (hX.mono hb2.size)
        rw [hak.out]
        refine ⟨hrd.snoc hbX (hT2.keep hX) (Nat.le_refl _) hbr.size hg rfl (fun x hx => own_in ho x hx) ?_, (hbr.trans (hbX.mono hbr.size)).grown hg (Nat.le_trans hbr.size hbX.size) (fun r hr => own_ge ho r hr)⟩
        rcases h6 with h | h
        · exact .inl h
        · exact .inr ⟨_, h, Nat.le_refl _⟩
      obtain ⟨X2, hX2⟩ : ∃ X, w2.alloc (.cells #[.slice av m1 cv, .slice au m2 cu] 29) = X := ⟨_, rfl⟩
      have hbX2 : Below w2.heap.size w2 X2 := by rw [← hX2]; exact (Below.refl _ _).alloc (Nat.le_refl _) _
      have e0 : X2.cell? ⟨w2.heap.size, 0, none⟩ = some (.slice av m1 cv) := by rw [← hX2]; simp [go_sem]
      have e1 : X2.cell? ⟨w2.heap.size, 1, none⟩ = some (.slice au m2 cu) := by rw [← hX2]; simp [go_sem]
      have HX2 : Hid (X2.ownsRow w.heap.size 29 2 (.slice a k d) k xs ∧ w.heap.size ≤ X2.heap.size ∧ Below w2.heap.size w2 (X2.alloc (.cells #[.slice av m1 cv, .slice au m2 cu] 29))) := ⟨own_keep hrow hbX2, Nat.le_trans hwlo hbX2.size, hbX2.alloc hbX2.size _⟩
      have hkn : k < 100 := by omega
      clear hTwo hb2 hrow hwlo hbX2 HTwo hak HIm hR hm1 hm2
      go_wp2_with (at_builtin; refine wpList_append_own_at _ rfl _ _ 42 rfl w.heap.size 29 i0 (.agg #[.slice none 0 0, .slice none 0 0]) 2 48 Tryd.underlying42 hi hz0 hz1 hz2 rfl (by decide) _ _ _ rfl (HX2.out.1.alloc _) ⟨X2.heap.size, 0, none⟩ 1 1 [_, _] rfl rfl (cell_newR _ _ _ _) (one_cellR _ _ _ _ _ _) (by unfold maxLen; omega) (by omega) (by have := HX2.out.2.1; simp; omega) ?_; intro v6 w6 k1 k2 _ k3; obtain ⟨a6, c6, rfl⟩ := row_slice2 k1; have HN6 := (show Hid _ from HNX.out _ _ _ HX2.out.2.2 k2 k3); have HK1 := (show Hid _ from k1); clear k1 k2 k3)
      go_roundw
      case rel => exact ⟨k + 1, a6, c6, _, by omega, by go_num, by first | trivial | rfl, HK1.out, HN6.out.1, HN6.out.2⟩
      case measure => simp [intOf]; omega
    · obtain rfl : k = n := by omega
      have hall : ks.take k = ks := List.take_of_length_le (by omega)
      rw [hall] at hR
      clear hall
      go_wp2
      go_ret
      exact ⟨_, _, _, rfl, hR.out.1, hR.out.2.1, hR.out.2.2⟩
theorem read_append {w w6 : World} {lo : Nat} {g g' r : Option Nat} {xs ys : List Value} {ts us : List (List UInt8)} {h : Option Nat} {l2 : Nat} (hx : Read w lo g xs ts) (hy : Read w l2 h ys us) (hl : ∀ i x, i < ts.length → InB (xs.getD (i * 2) nov) (xs.getD (i * 2 + 1) nov) x → x < l2) (hlo : lo ≤ l2)
    (hg : w.grownBy w6 r) (hr : r = g) (hgl : ∀ x, g = some x → x < l2) (hg' : g' = g ∨ ∃ n, g' = some n ∧ w.heap.size ≤ n) : Read w6 lo g' (xs ++ ys) (ts ++ us) := by
  subst hr
  obtain ⟨x1, x2, x3, x4⟩ := hx
  obtain ⟨y1, y2, y3, y4⟩ := hy
  have hxl := @Read.lt w lo r xs ts ⟨x1, x2, x3, x4⟩
  have hyl := @Read.lt w l2 h ys us ⟨y1, y2, y3, y4⟩
  have e1 : ∀ i, i < ts.length → (xs ++ ys).getD (i * 2) nov = xs.getD (i * 2) nov ∧ (xs ++ ys).getD (i * 2 + 1) nov = xs.getD (i * 2 + 1) nov ∧ (ts ++ us).getD i [] = ts.getD i [] := fun i hi => ⟨getV_app (by omega), getV_app (by omega), getT_app hi⟩
  have e2 : ∀ i, ts.length ≤ i → (xs ++ ys).getD (i * 2) nov = ys.getD ((i - ts.length) * 2) nov ∧ (xs ++ ys).getD (i * 2 + 1) nov = ys.getD ((i - ts.length) * 2 + 1) nov ∧ (ts ++ us).getD i [] = us.getD (i - ts.length) [] := fun i hi => by
    refine ⟨?_, ?_, ?_⟩
    · rw [List.getD_eq_getElem?_getD, List.getElem?_append_right (by omega), ← List.getD_eq_getElem?_getD, x1]
      congr 1; omega
    · rw [List.getD_eq_getElem?_getD, List.getElem?_append_right (by omega), ← List.getD_eq_getElem?_getD, x1]
      congr 1; omega
    · rw [List.getD_eq_getElem?_getD, List.getElem?_append_right (by omega), ← List.getD_eq_getElem?_getD]
  refine ⟨by rw [List.length_append, List.length_append]; omega, fun i hi => ?_, fun i x hi hx e => ?_, fun i j x y hij hj hx hy => ?_⟩
  · rw [List.length_append] at hi
    by_cases hlt : i < ts.length
    · obtain ⟨a1, a2, a3⟩ := e1 i hlt
      rw [a1, a2, a3]
      exact (x2 i hlt).grownR hg (fun x hx e => x3 i x hlt hx e)
    · obtain ⟨a1, a2, a3⟩ := e2 i (by omega)
      rw [a1, a2, a3]
      exact ((y2 (i - ts.length) (by omega)).grownR hg (fun x hx e => by have := hgl x e; have := (hyl (by omega) hx).2; omega)).low hlo
  · rw [List.length_append] at hi
    by_cases hlt : i < ts.length
    · obtain ⟨a1, a2, a3⟩ := e1 i hlt
      rw [a1, a2] at hx
      rcases hg' with e' | ⟨n, e', hn⟩
      · exact x3 i x hlt hx (e' ▸ e)
      · rw [e'] at e; injection e with e; have := (hxl hlt hx).1; omega
    · obtain ⟨a1, a2, a3⟩ := e2 i (by omega)
      rw [a1, a2] at hx
      have hh := hyl (by omega) hx
      rcases hg' with e' | ⟨n, e', hn⟩
      · have := hgl x (e' ▸ e); omega
      · rw [e'] at e; injection e with e; omega
  · rw [List.length_append] at hj
    by_cases hlt : j < ts.length
    · obtain ⟨a1, a2, a3⟩ := e1 i (by omega)
      obtain ⟨b1, b2, b3⟩ := e1 j hlt
      rw [a1, a2] at hx
      rw [b1, b2] at hy
      exact x4 i j x y hij hlt hx hy
    · obtain ⟨b1, b2, b3⟩ := e2 j (by omega)
      rw [b1, b2] at hy
      by_cases hli : i < ts.length
      · obtain ⟨a1, a2, a3⟩ := e1 i hli
        rw [a1, a2] at hx
        have := hl i x hli hx
        have := (hyl (by omega) hy).2
        omega
      · obtain ⟨a1, a2, a3⟩ := e2 i (by omega)
        rw [a1, a2] at hx
        exact y4 (i - ts.length) (j - ts.length) x y (by omega) (by omega) hx hy
set_option maxHeartbeats 3200000 in
set_option maxRecDepth 20000 in
theorem implShipped_any (w : World) (hE : Env w) (hT : Tab w) (hM : MaxL w) : Calls Tryd.prog 23 #[] w fun e w' => RowsR w w' 16 shipT e := by
  obtain ⟨i0, hi, hz0, hz1, hz2⟩ := info_parts infoRule
  obtain ⟨W1, hW1⟩ : ∃ W1, w.alloc (.cells #[.string ⟨#[40, 97, 43, 98, 41, 61, 62, 40, 98, 43, 97, 41]⟩, .string ⟨#[40, 40, 97, 43, 98, 41, 43, 99, 41, 61, 62, 40, 97, 43, 40, 98, 43, 99, 41, 41]⟩, .string ⟨#[40, 97, 42, 98, 41, 61, 62, 40, 98, 42, 97, 41]⟩, .string ⟨#[40, 40, 97, 42, 98, 41, 42, 99, 41, 61, 62, 40, 97, 42, 40, 98, 42, 99, 41, 41]⟩, .string ⟨#[40, 97, 43, 48, 41, 61, 62, 97]⟩, .string ⟨#[40, 97, 42, 49, 41, 61, 62, 97]⟩, .string ⟨#[40, 97, 45, 98, 41, 61, 62, 40, 97, 43, 126, 98, 41]⟩, .string ⟨#[126, 126, 97, 61, 62, 97]⟩, .string ⟨#[40, 97, 42, 50, 41, 61, 62, 40, 97, 60, 60, 49, 41]⟩, .string ⟨#[40, 97, 43, 97, 41, 61, 62, 40, 97, 42, 50, 41]⟩, .string ⟨#[40, 40, 97, 42, 99, 41, 43, 40, 98, 42, 99, 41, 41, 61, 62, 40, 40, 97, 43, 98, 41, 42, 99, 41]⟩, .string ⟨#[40, 97, 42, 45, 49, 41, 61, 62, 126, 97]⟩, .string ⟨#[40, 97, 45, 48, 41, 61, 62, 97]⟩] 9) = W1 := ⟨_, rfl⟩
  have hb1 : Below w.heap.size w W1 := by rw [← hW1]; exact (Below.refl _ _).alloc (Nat.le_refl _) _
  have hS : Strs W1 w.heap.size 13 shTs := by rw [← hW1]; exact sh_strs w
  have HR := (show Hid _ from rulesOf_any w.heap.size 13 13 shTs W1 (hE.keep hb1) (hT.keeps hb1) (hM.keep hb1) hS (by decide))
  have HSo : Hid (∀ (X : World), Below w.heap.size w X → Calls Tryd.prog 49 #[.slice (some ⟨X.heap.size, 0, none⟩) 3 3] (X.alloc (.cells #[.int .i64 0, .int .i64 1, .int .i64 4] 3)) fun e w' => ∃ (a : Option Addr) (d : Nat) (xs : List Value), e = .returned (.slice a 3 d) ∧ w'.ownsRow X.heap.size 29 2 (.slice a 3 d) 3 xs ∧ Read w' X.heap.size (Value.slice a 3 d).ownBlock xs axThree ∧ Below X.heap.size X w') := fun X hX => by
    have hbX : Below X.heap.size X (X.alloc (.cells #[.int .i64 0, .int .i64 1, .int .i64 4] 3)) := (Below.refl _ _).alloc (Nat.le_refl _) _
    have hY := hX.trans (hbX.mono hX.size)
    have hN : Nums (X.alloc (.cells #[.int .i64 0, .int .i64 1, .int .i64 4] 3)) X.heap.size 3 [0, 1, 4] := ⟨rfl, by simp, fun i hi => by
      rcases (show i = 0 ∨ i = 1 ∨ i = 2 by omega) with rfl | rfl | rfl <;> exact ⟨by simp [go_sem], by decide⟩⟩
    refine (someAxioms_any X.heap.size 3 3 [0, 1, 4] _ (hE.keep hY) (hT.keeps hY) (hM.keep hY) hN (by decide)).mono ?_
    rintro e w' ⟨a, d, xs, rfl, h1, h2, h3⟩
    exact ⟨a, d, xs, rfl, own_base h1 hbX.size, ⟨h2.1, fun i hi => (h2.2.1 i hi).low hbX.size, h2.2.2⟩, hbX.trans (h3.mono hbX.size)⟩
  have HB := (show Hid _ from hb1)
  unfold RowsR
  clear hE hT hM hS hb1
  go_enter Tryd.func23, Tryd.ntmps23
  go_wp2_with fail
  (try rw [hW1])
  refine Calls.mono HR.out ?_
  rintro e w2 ⟨a, d, xs, rfl, hown, hrd, hb2⟩
  have HA : Hid (w2.ownsRow w.heap.size 29 2 (.slice a 13 d) 13 xs ∧ Read w2 w.heap.size (Value.slice a 13 d).ownBlock xs shTs ∧ Below w.heap.size w w2) := ⟨own_base hown HB.out.size, ⟨hrd.1, fun i hi => (hrd.2.1 i hi).low HB.out.size, hrd.2.2⟩, HB.out.trans (hb2.mono HB.out.size)⟩
  have HC := (show Hid _ from HSo.out w2 HA.out.2.2)
  clear hown hrd hb2 HR HSo hW1
  go_wp2_with fail
  refine Calls.mono HC.out ?_
  rintro e w3 ⟨a3, d3, ys, rfl, hown3, hrd3, hb3⟩
  obtain ⟨g3, e3, hcell3⟩ : ∃ g, a3 = some ⟨g, 0, none⟩ ∧ ∀ j u, ys[j]? = some u → w3.cell? ((⟨g, 0, none⟩ : Addr).add j) = some u := by
    rcases hown3.2 with ⟨_, h0⟩ | ⟨g, cp, cur, e, _⟩
    · cases h0
    · injection e with e1 e2 e3
      subst e1
      refine ⟨g, rfl, fun j u hj => ?_⟩
      have hlt : j < 3 * 2 := by have := (List.getElem?_eq_some_iff.1 hj).1; have := hown3.1; omega
      rw [add_to, Nat.zero_add, hown3.cellAt j hlt]
      exact hj
  subst e3
  have h1 : ∀ u ∈ ys, u.oneCell' = true := fun u hu => by
    obtain ⟨j, hj, rfl⟩ := List.getElem_of_mem hu
    have hyl : ys.length = 6 := hown3.1
    have hT := hrd3.2.1 (j / 2) (by show j / 2 < 3; omega)
    have e : ys[j] = ys.getD j nov := by rw [List.getD_eq_getElem?_getD, List.getElem?_eq_getElem hj]; rfl
    rcases (show j = j / 2 * 2 ∨ j = j / 2 * 2 + 1 by omega) with h | h
    · obtain ⟨p, c, e'⟩ := own_shape hT.1
      rw [e, h, e']; rfl
    · obtain ⟨p, c, e'⟩ := own_shape hT.2.1
      rw [e, h, e']; rfl
  have hrow3 : w3.ownsRow w.heap.size 29 2 (.slice a 13 d) 13 xs := own_keep HA.out.1 hb3
  have HFIN : Hid (∀ (v6 : Value) (w6 : World), w3.grownBy w6 (Value.slice a 13 d).ownBlock → (v6.ownBlock = (Value.slice a 13 d).ownBlock ∨ v6.ownBlock = some w3.heap.size) → Read w6 w.heap.size v6.ownBlock (xs ++ ys) shipT ∧ Below w.heap.size w w6) := fun v6 w6 hg h6 => by
    obtain ⟨ho, hrd, hbw⟩ := HA.out
    refine ⟨read_append (hrd.keep hb3) hrd3 (fun i x hi hx => (hrd.lt hi hx).1) hbw.size hg rfl (fun x hx => own_in ho x hx) ?_, (hbw.trans (hb3.mono hbw.size)).grown hg (Nat.le_trans hbw.size hb3.size) (fun r hr => own_ge ho r hr)⟩
    rcases h6 with h | h
    · exact .inl h
    · exact .inr ⟨_, h, Nat.le_refl _⟩
  have hyl : ys.length = 3 * 2 := hown3.1
  have hw3 : w.heap.size ≤ w3.heap.size := Nat.le_trans HA.out.2.2.size hb3.size
  clear HC hown3 hrd3 hb3 HA
  go_wp2_with (at_builtin; refine wpList_append_own_at _ rfl _ _ 42 rfl w.heap.size 29 i0 (.agg #[.slice none 0 0, .slice none 0 0]) 2 48 Tryd.underlying42 hi hz0 hz1 hz2 rfl (by decide) _ _ _ rfl hrow3 ⟨g3, 0, none⟩ 3 d3 ys rfl hyl hcell3 h1 (by unfold maxLen; omega) (by omega) hw3 ?_; intro v6 w6 k1 k2 _ k3; obtain ⟨a6, c6, rfl⟩ := row_slice2 k1; have HN6 := (show Hid _ from HFIN.out _ _ k2 k3); have HK1 := (show Hid _ from k1); clear k1 k2 k3)
  go_ret
  exact ⟨_, _, _, rfl, HK1.out, HN6.out.1, HN6.out.2⟩
end Go.Proofs.YtbchehpggoampaaDoor
namespace Go.Proofs.YtbchehpggoampaaDoor
open Go.ChangeShapes Go.WideShapes Go.ChangeAt Go.RowKit
set_option linter.unusedVariables false

/-- The cells of a row of rules. -/
theorem row_cells {w : World} {lo n : Nat} {a : Option Addr} {d : Nat} {xs : List Value} (h : w.ownsRow lo 29 2 (.slice a n d) n xs) (hn : 0 < n) : ∃ g, a = some ⟨g, 0, none⟩ ∧ g < w.heap.size ∧ lo ≤ g ∧ ∀ i, i < n → w.cell? ⟨g, i * 2, none⟩ = some (xs.getD (i * 2) nov) ∧ w.cell? ⟨g, i * 2 + 1, none⟩ = some (xs.getD (i * 2 + 1) nov) := by
  have hl := h.1
  rcases h.2 with ⟨_, h0⟩ | ⟨g, cp, cur, e, hb, hg, _⟩
  · omega
  · injection e with e1 e2 e3
    subst e1
    refine ⟨g, rfl, (Array.getElem?_eq_some_iff.1 hg).1, hb, fun i hi => ⟨?_, ?_⟩⟩
    · rw [h.cellAt (i * 2) (by omega), List.getD_eq_getElem?_getD, List.getElem?_eq_getElem (by omega)]; rfl
    · rw [h.cellAt (i * 2 + 1) (by omega), List.getD_eq_getElem?_getD, List.getElem?_eq_getElem (by omega)]; rfl
set_option maxHeartbeats 1600000 in
theorem eqRows_any (lo lo' n d d' : Nat) (a a' g g' : Option Addr) (gb gb' : Option Nat) (xs ys : List Value) (ts : List (List UInt8)) (w : World) (h : w.ownsRow lo 29 2 (.slice a n d) n xs) (hr : Read w lo gb xs ts) (h' : w.ownsRow lo' 29 2 (.slice a' n d') n ys) (hr' : Read w lo' gb' ys ts) (hn : 0 < n ∧ n ≤ 1000) (ht : ts.length = n) :
    Calls Tryd.prog 24 #[.slice a n d, .slice a' n d'] w fun e w' => e = .returned (.bool true) ∧ Below w.heap.size w w' := by
  obtain ⟨b1, rfl, hb1, _, hc1⟩ := row_cells h hn.1
  obtain ⟨b2, rfl, hb2, _, hc2⟩ := row_cells h' hn.1
  have hne : ((n : Int) != n) = false := by simp
  have HK : Hid (∀ W, Below w.heap.size w W → ∀ i, i < n → ∃ (p1 p2 q1 q2 : Option Addr) (m1 m2 c1 c2 e1 e2 : Nat) (P Q : List (Int × Int)), (W.cell? ⟨b1, i * 2, none⟩ = some (.slice p1 m1 c1) ∧ W.cell? ⟨b1, i * 2 + 1, none⟩ = some (.slice p2 m2 c2) ∧ W.cell? ⟨b2, i * 2, none⟩ = some (.slice q1 m1 e1) ∧ W.cell? ⟨b2, i * 2 + 1, none⟩ = some (.slice q2 m2 e2)) ∧ (NSl W p1 m1 P ∧ NSl W q1 m1 P ∧ NSl W p2 m2 Q ∧ NSl W q2 m2 Q) ∧ m1 ≤ 1000 ∧ m2 ≤ 1000) := fun W hW i hi => by
    have T1 := hr.2.1 i (by omega)
    have T2 := hr'.2.1 i (by omega)
    obtain ⟨k1, k2⟩ := hc1 i hi
    obtain ⟨l1, l2⟩ := hc2 i hi
    obtain ⟨p1, c1, e1, s1⟩ := NSl.row T1.1
    obtain ⟨p2, c2, e2, s2⟩ := NSl.row T1.2.1
    obtain ⟨q1, c3, e3, s3⟩ := NSl.row T2.1
    obtain ⟨q2, c4, e4, s4⟩ := NSl.row T2.2.1
    rw [e1] at k1
    rw [e2] at k2
    rw [e3] at l1
    rw [e4] at l2
    exact ⟨p1, p2, q1, q2, _, _, c1, c2, c3, c4, _, _, ⟨(hW.cell (p := ⟨b1, i * 2, none⟩) hb1).trans k1, (hW.cell (p := ⟨b1, i * 2 + 1, none⟩) hb1).trans k2, (hW.cell (p := ⟨b2, i * 2, none⟩) hb2).trans l1, (hW.cell (p := ⟨b2, i * 2 + 1, none⟩) hb2).trans l2⟩, ⟨s1.keep hW, s3.keep hW, s2.keep hW, s4.keep hW⟩, by have := ruleL_len (ts.getD i []); omega, by have := ruleR_len (ts.getD i []); omega⟩
  have hn0 := hn.1
  have hn1 := hn.2
  clear h h' hr hr' hc1 hc2 hb1 hb2 hn
  go_enter Tryd.func24, Tryd.ntmps24
  go_wp2_with fail
  go_loopw [5] (fun i wr => ∃ (k : Nat), k ≤ n ∧ i = .int .i64 k ∧ Below w.heap.size w wr) (fun i _ => n - (intOf i).toNat)
  case atStart => exact ⟨0, Nat.zero_le _, rfl, Below.refl _ _⟩
  case round =>
    obtain ⟨k, hk, rfl, hbr⟩ := hrel
    by_cases hlt : k < n
    · obtain ⟨p1, p2, q1, q2, m1, m2, c1, c2, e1, e2, P, Q, ⟨k1, k2, l1, l2⟩, ⟨s1, s2, s3, s4⟩, j1, j2⟩ := HK.out wr hbr k hlt
      have hkl : (k : Int) < n := by omega
      have hl1 : b1 < wr.heap.size := World.block_lt_of_cell? _ _ k1
      have hl2 : b2 < wr.heap.size := World.block_lt_of_cell? _ _ l1
      have g0 : ∀ x : Ahead wr, x.w.cell? ⟨b1, k * 2, none⟩ = some (.slice p1 m1 c1) := fun x => (x.h.cell (p := ⟨b1, k * 2, none⟩) hl1).trans k1
      have g1 : ∀ x : Ahead wr, x.w.cell? ⟨b1, k * 2 + 1, none⟩ = some (.slice p2 m2 c2) := fun x => (x.h.cell (p := ⟨b1, k * 2 + 1, none⟩) hl1).trans k2
      have g2 : ∀ x : Ahead wr, x.w.cell? ⟨b2, k * 2, none⟩ = some (.slice q1 m1 e1) := fun x => (x.h.cell (p := ⟨b2, k * 2, none⟩) hl2).trans l1
      have g3 : ∀ x : Ahead wr, x.w.cell? ⟨b2, k * 2 + 1, none⟩ = some (.slice q2 m2 e2) := fun x => (x.h.cell (p := ⟨b2, k * 2 + 1, none⟩) hl2).trans l2
      have HA : Hid (∀ x : Ahead wr, Calls Tryd.prog 13 #[.agg #[.slice p1 m1 c1, .slice p2 m2 c2], .agg #[.slice q1 m1 e1, .slice q2 m2 e2]] x.w fun e w' => e = .returned (.bool true) ∧ Below x.w.heap.size x.w w') := fun x => eqR_same p1 p2 q1 q2 m1 c1 e1 m2 c2 e2 P Q x.w (s1.keep x.h) (s2.keep x.h) (s3.keep x.h) (s4.keep x.h) (by omega) (by omega)
      have HFx : Hid (∀ x : Ahead wr, Below w.heap.size w x.w) := fun x => hbr.trans (x.h.mono hbr.size)
      have k0 : (0 : Int) ≤ k := by omega
      clear s1 s2 s3 s4 hbr k1 k2 l1 l2 hl1 hl2
      go_wp2_with fail
      have hne' := ahead_some wr
      refine wp_region_ahead (by kernel_rfl) (by kernel_rfl) ?_
      repeat (first
        | go_big_quiet_skip
        | (go_big_quiet_want; go_big_quiet_op; first | go_big_quiet_on | (apply Exists.intro; refine ⟨fun x => ?_, ?_⟩; (focus (exact ahead_of (HA.out x))); go_big_quiet_on)))
      refine wpQuiet_nil ?_
      intro _ hw'
      obtain ⟨xq, rfl⟩ := hw'
      go_wp2
      exact ⟨⟨k + 1, by omega, by go_num, HFx.out xq⟩, by simp [intOf]; omega⟩
    · obtain rfl : k = n := by omega
      go_wp2
      go_ret
      exact ⟨rfl, hbr⟩
/-- The cells of a row. -/
def RowC (w : World) (b n : Nat) (xs : List Value) : Prop := b < w.heap.size ∧ ∀ i, i < n → w.cell? ⟨b, i * 2, none⟩ = some (xs.getD (i * 2) nov) ∧ w.cell? ⟨b, i * 2 + 1, none⟩ = some (xs.getD (i * 2 + 1) nov)
theorem RowC.keep {w w' : World} {b n : Nat} {xs : List Value} (h : RowC w b n xs) (hb : Below w.heap.size w w') : RowC w' b n xs := ⟨Nat.lt_of_lt_of_le h.1 hb.size, fun i hi => ⟨(hb.cell (p := ⟨b, i * 2, none⟩) h.1).trans (h.2 i hi).1, (hb.cell (p := ⟨b, i * 2 + 1, none⟩) h.1).trans (h.2 i hi).2⟩⟩
theorem RowC.grown {w w' : World} {b n : Nat} {xs : List Value} {r : Option Nat} (h : RowC w b n xs) (hg : w.grownBy w' r) (hr : r ≠ some b) : RowC w' b n xs := by
  have hb := hg.block b h.1 (Ne.symm hr)
  exact ⟨Nat.lt_of_lt_of_le h.1 hg.size, fun i hi => ⟨(World.cell?_of_block (a := ⟨b, i * 2, none⟩) hb).trans (h.2 i hi).1, (World.cell?_of_block (a := ⟨b, i * 2 + 1, none⟩) hb).trans (h.2 i hi).2⟩⟩
/-- Where the marks of rule i begin. -/
def stR (ts : List (List UInt8)) : Nat → Nat
  | 0 => 1
  | i + 1 => stR ts i + 2 * (ruleL (ts.getD i [])).length + 2 * (ruleR (ts.getD i [])).length
theorem stR_le (ts : List (List UInt8)) : ∀ i, 1 ≤ stR ts i ∧ stR ts i ≤ 1 + 28 * i
  | 0 => ⟨Nat.le_refl _, Nat.le_refl _⟩
  | i + 1 => by
    have := stR_le ts i
    have := ruleL_len (ts.getD i [])
    have := ruleR_len (ts.getD i [])
    show 1 ≤ stR ts i + 2 * (ruleL (ts.getD i [])).length + 2 * (ruleR (ts.getD i [])).length ∧ stR ts i + 2 * (ruleL (ts.getD i [])).length + 2 * (ruleR (ts.getD i [])).length ≤ _
    omega
theorem HeldR.grownR {w w' : World} {k : Nat} {v u : Value} {m n : Nat} {r : Option Nat} (h : HeldR w k v u m n) (hg : w.grownBy w' r) (hne : ∀ x, InB v u x → r ≠ some x) : HeldR w' k v u m n := by
  obtain ⟨a, c, b, d, rfl, rfl, h3, h4⟩ := h
  exact ⟨a, c, b, d, rfl, rfl, nsl_grown h3 hg (fun x hx => hne x (.inl hx)), nsl_grown h4 hg (fun x hx => hne x (.inr hx))⟩
/-- The rules ahead of k are marked, those from k on are as they were. -/
def Half (w : World) (lo : Nat) (xs : List Value) (ts : List (List UInt8)) (k : Nat) : Prop :=
  (∀ i, i < k → HeldR w (stR ts i) (xs.getD (i * 2) nov) (xs.getD (i * 2 + 1) nov) (ruleL (ts.getD i [])).length (ruleR (ts.getD i [])).length) ∧ ∀ i, k ≤ i → i < ts.length → TwoR w lo (xs.getD (i * 2) nov) (xs.getD (i * 2 + 1) nov) (ruleL (ts.getD i [])) (ruleR (ts.getD i []))
/-- No two rules share a block, nor does one share the row's. -/
def Apart (b : Nat) (xs : List Value) (n : Nat) : Prop :=
  (∀ i x, i < n → InB (xs.getD (i * 2) nov) (xs.getD (i * 2 + 1) nov) x → x ≠ b) ∧ ∀ i j x, i < n → j < n → i ≠ j → InB (xs.getD (i * 2) nov) (xs.getD (i * 2 + 1) nov) x → ¬ InB (xs.getD (j * 2) nov) (xs.getD (j * 2 + 1) nov) x
theorem Read.apart {w : World} {lo b : Nat} {xs : List Value} {ts : List (List UInt8)} (h : Read w lo (some b) xs ts) : Apart b xs ts.length := by
  refine ⟨fun i x hi hx e => h.2.2.1 i x hi hx (by rw [e]), fun i j x hi hj hne hx hy => ?_⟩
  rcases Nat.lt_or_gt_of_ne hne with h1 | h1
  · have := h.2.2.2 i j x x h1 hj hx hy; omega
  · have := h.2.2.2 j i x x h1 hi hy hx; omega
theorem half_step {w1 w2 w3 : World} {lo b k : Nat} {xs : List Value} {ts : List (List UInt8)} (h : Half w1 lo xs ts k) (hA : Apart b xs ts.length) (hk : k < ts.length) (g2 : w1.grownBy w2 (xs.getD (k * 2) nov).ownBlock) (g3 : w2.grownBy w3 (xs.getD (k * 2 + 1) nov).ownBlock)
    (hH : HeldR w3 (stR ts k) (xs.getD (k * 2) nov) (xs.getD (k * 2 + 1) nov) (ruleL (ts.getD k [])).length (ruleR (ts.getD k [])).length) : Half w3 lo xs ts (k + 1) := by
  have hx : ∀ i, i < ts.length → i ≠ k → ∀ x, InB (xs.getD (i * 2) nov) (xs.getD (i * 2 + 1) nov) x → (xs.getD (k * 2) nov).ownBlock ≠ some x ∧ (xs.getD (k * 2 + 1) nov).ownBlock ≠ some x := fun i hi hne x hx =>
    ⟨fun e => hA.2 i k x hi hk hne hx (.inl e), fun e => hA.2 i k x hi hk hne hx (.inr e)⟩
  refine ⟨fun i hi => ?_, fun i hi hl => ?_⟩
  · by_cases e : i = k
    · subst e; exact hH
    · exact ((h.1 i (by omega)).grownR g2 (fun x hx' => (hx i (by omega) e x hx').1)).grownR g3 (fun x hx' => (hx i (by omega) e x hx').2)
  · exact ((h.2 i (by omega) hl).grownR g2 (fun x hx' => (hx i hl (by omega) x hx').1)).grownR g3 (fun x hx' => (hx i hl (by omega) x hx').2)
set_option maxHeartbeats 1600000 in
set_option maxRecDepth 20000 in
theorem markRows_any (lo n d b : Nat) (xs : List Value) (ts : List (List UInt8)) (w : World) (hc : RowC w b n xs) (hh : Half w lo xs ts 0) (hA : Apart b xs n) (ht : ts.length = n) (hn : n ≤ 1000) (hlo : lo ≤ w.heap.size) :
    Calls Tryd.prog 25 #[.slice (some ⟨b, 0, none⟩) n d, .int .i64 1] w fun e w' => e = .returned (.int .i64 (stR ts n : Nat)) ∧ Below lo w w' ∧ RowC w' b n xs ∧ Half w' lo xs ts n := by
  have HA : Hid (Apart b xs ts.length) := by rw [ht]; exact hA
  have H0 : Hid (RowC w b n xs ∧ Half w lo xs ts 0) := ⟨hc, hh⟩
  clear hc hh hA
  go_enter Tryd.func25, Tryd.ntmps25
  go_wp2_with fail
  go_loopw [1, 5] (fun y i wr => ∃ (k : Nat), k ≤ n ∧ i = .int .i64 k ∧ y = .int .i64 (stR ts k : Nat) ∧ Hid (Below lo w wr ∧ RowC wr b n xs ∧ Half wr lo xs ts k)) (fun _ i _ => n - (intOf i).toNat)
  case atStart => exact ⟨0, Nat.zero_le _, rfl, rfl, (Below.refl _ _).mono hlo, H0.out.1, H0.out.2⟩
  case round =>
    obtain ⟨k, hk, rfl, rfl, hR⟩ := hrel
    by_cases hlt : k < n
    · obtain ⟨hbr, hrow, hhalf⟩ := hR.out
      have hkl : (k : Int) < n := by omega
      have k0 : (0 : Int) ≤ k := by omega
      have T := hhalf.2 k (Nat.le_refl _) (by omega)
      obtain ⟨c0, c1⟩ := hrow.2 k hlt
      obtain ⟨pv, cv, ev⟩ := own_shape T.1
      obtain ⟨pu, cu, eu⟩ := own_shape T.2.1
      have hs := stR_le ts k
      have hl1 := ruleL_len (ts.getD k [])
      have hl2 := ruleR_len (ts.getD k [])
      have hst : stR ts (k + 1) = stR ts k + 2 * (ruleL (ts.getD k [])).length + 2 * (ruleR (ts.getD k [])).length := rfl
      have M1 := markK_row lo _ (stR ts k) _ _ _ wr T.1 (by omega) (by omega)
      have hbv : ∀ x, InB (xs.getD (k * 2) nov) (xs.getD (k * 2 + 1) nov) x → x ≠ b ∧ lo ≤ x := fun x hx => ⟨HA.out.1 k x (by omega) hx, by
        rcases hx with hx | hx
        · exact own_ge T.1 x hx
        · exact own_ge T.2.1 x hx⟩
      have HM2 : Hid (∀ w2, wr.grownBy w2 (xs.getD (k * 2) nov).ownBlock → w2.cell? ⟨b, k * 2 + 1, none⟩ = some (xs.getD (k * 2 + 1) nov) ∧ Calls Tryd.prog 40 #[xs.getD (k * 2 + 1) nov, .int .i64 ((stR ts k + 2 * (ruleL (ts.getD k [])).length : Nat) : Int)] w2 fun e w' => e = .returned (.int .i64 (stR ts (k + 1) : Nat)) ∧ w2.grownBy w' (xs.getD (k * 2 + 1) nov).ownBlock ∧ ∃ a cap, xs.getD (k * 2 + 1) nov = .slice a (ruleR (ts.getD k [])).length cap ∧ NSl w' a (ruleR (ts.getD k [])).length (marks (stR ts k + 2 * (ruleL (ts.getD k [])).length) (ruleR (ts.getD k [])).length)) := fun w2 hg => by
        refine ⟨((hrow.grown hg (fun e => (hbv b (.inl e)).1 rfl)).2 k hlt).2, ?_⟩
        rw [hst]
        exact markK_row lo _ _ _ _ _ w2 (own_grown T.2.1 hg (fun x hx e => T.2.2 x e.symm hx)) (by omega) (by omega)
      have HFN : Hid (∀ w2 w3, wr.grownBy w2 (xs.getD (k * 2) nov).ownBlock → (∃ a cap, xs.getD (k * 2) nov = .slice a (ruleL (ts.getD k [])).length cap ∧ NSl w2 a (ruleL (ts.getD k [])).length (marks (stR ts k) (ruleL (ts.getD k [])).length)) → w2.grownBy w3 (xs.getD (k * 2 + 1) nov).ownBlock → (∃ a cap, xs.getD (k * 2 + 1) nov = .slice a (ruleR (ts.getD k [])).length cap ∧ NSl w3 a (ruleR (ts.getD k [])).length (marks (stR ts k + 2 * (ruleL (ts.getD k [])).length) (ruleR (ts.getD k [])).length)) → Below lo w w3 ∧ RowC w3 b n xs ∧ Half w3 lo xs ts (k + 1)) := fun w2 w3 g2 m2 g3 m3 => by
        obtain ⟨a2, p2, e2, s2⟩ := m2
        obtain ⟨a3, p3, e3, s3⟩ := m3
        have hlw : lo ≤ wr.heap.size := Nat.le_trans hlo hbr.size
        refine ⟨(hbr.grown g2 hlw (fun r hr => (hbv r (.inl hr)).2)).grown g3 (Nat.le_trans hlw g2.size) (fun r hr => (hbv r (.inr hr)).2), (hrow.grown g2 (fun e => (hbv b (.inl e)).1 rfl)).grown g3 (fun e => (hbv b (.inr e)).1 rfl), half_step hhalf HA.out (by omega) g2 g3 ?_⟩
        refine ⟨a2, p2, a3, p3, e2, e3, nsl_grown (cap := p2) s2 g3 (fun x hx e => T.2.2 x (by rw [e2]; exact hx) e), s3⟩
      have HM1 := (show Hid _ from M1)
      clear hbr hrow hhalf T hs hl1 hl2 hst M1 hbv hR
      generalize (ruleL (ts.getD k [])).length = m1 at ev HM1 HM2 HFN
      generalize (ruleR (ts.getD k [])).length = m2 at eu HM2 HFN
      generalize xs.getD (k * 2) nov = v at c0 ev HM1 HM2 HFN
      generalize xs.getD (k * 2 + 1) nov = u at c1 eu HM2 HFN
      subst ev
      subst eu
      go_wp2_with fail
      refine Calls.mono HM1.out ?_
      rintro e w2 ⟨rfl, hg2, m2⟩
      obtain ⟨q1, hC2⟩ := HM2.out w2 hg2
      have HC2 := (show Hid _ from hC2)
      have HG2 := (show Hid _ from hg2)
      have HM3 := (show Hid _ from m2)
      clear HM1 HM2 hC2 hg2 m2 c0 c1
      go_wp2_with fail
      refine Calls.mono HC2.out ?_
      rintro e w3 ⟨rfl, hg3, m3⟩
      have HF := (show Hid _ from HFN.out w2 w3 HG2.out HM3.out hg3 m3)
      clear HFN HC2 HG2 HM3 hg3 m3 q1
      go_wp2
      go_roundw
      case rel => exact ⟨k + 1, by omega, by go_num, by first | trivial | rfl, HF.out⟩
      case measure => simp [intOf]; omega
    · obtain rfl : k = n := by omega
      go_wp2
      go_ret
      exact ⟨rfl, hR.out.1, hR.out.2.1, hR.out.2.2⟩
theorem heldRows_any (n d b : Nat) (xs : List Value) (ts : List (List UInt8)) (w : World) (hc : RowC w b n xs) (hh : ∀ i, i < n → HeldR w (stR ts i) (xs.getD (i * 2) nov) (xs.getD (i * 2 + 1) nov) (ruleL (ts.getD i [])).length (ruleR (ts.getD i [])).length) (hn : n ≤ 1000) :
    Calls Tryd.prog 26 #[.slice (some ⟨b, 0, none⟩) n d, .int .i64 1] w fun e w' => e = .returned (.int .i64 (stR ts n : Nat)) ∧ w' = w := by
  have H0 : Hid (RowC w b n xs ∧ ∀ i, i < n → HeldR w (stR ts i) (xs.getD (i * 2) nov) (xs.getD (i * 2 + 1) nov) (ruleL (ts.getD i [])).length (ruleR (ts.getD i [])).length) := ⟨hc, hh⟩
  clear hc hh
  go_enter Tryd.func26, Tryd.ntmps26
  go_wp2_with fail
  go_loopw [1, 5] (fun y i wr => ∃ (k : Nat), k ≤ n ∧ i = .int .i64 k ∧ y = .int .i64 (stR ts k : Nat) ∧ wr = w) (fun _ i _ => n - (intOf i).toNat)
  case atStart => exact ⟨0, Nat.zero_le _, rfl, rfl, rfl⟩
  case round =>
    obtain ⟨k, hk, rfl, rfl, rfl⟩ := hrel
    by_cases hlt : k < n
    · have hkl : (k : Int) < n := by omega
      have k0 : (0 : Int) ≤ k := by omega
      obtain ⟨c0, c1⟩ := H0.out.1.2 k hlt
      obtain ⟨av, cv, au, cu, ev, eu, s1, s2⟩ := H0.out.2 k hlt
      have hs := stR_le ts k
      have hl1 := ruleL_len (ts.getD k [])
      have hl2 := ruleR_len (ts.getD k [])
      have hst : stR ts (k + 1) = stR ts k + 2 * (ruleL (ts.getD k [])).length + 2 * (ruleR (ts.getD k [])).length := rfl
      have HV := (show Hid _ from held_any av _ cv (stR ts k) _ s1 (by omega) (by omega))
      have HU := held_any au _ cu (stR ts k + 2 * (ruleL (ts.getD k [])).length) _ s2 (by omega) (by omega)
      rw [← hst] at HU
      have HU := (show Hid _ from HU)
      have z1 : ¬ ((stR ts k + 2 * (ruleL (ts.getD k [])).length : Nat) : Int) < 0 := by omega
      have z2 : ¬ ((stR ts (k + 1) : Nat) : Int) < 0 := by omega
      rw [ev] at c0
      rw [eu] at c1
      clear ev eu s1 s2 hs hl1 hl2 hst
      generalize (ruleL (ts.getD k [])).length = m1 at c0 HV HU z1
      generalize (ruleR (ts.getD k [])).length = m2 at c1 HU
      generalize ((stR ts k + 2 * m1 : Nat) : Int) = x at HV HU z1
      go_wp2_with fail
      refine Calls.mono HV.out ?_
      rintro e w2 ⟨rfl, rfl⟩
      go_wp2_with fail
      refine Calls.mono HU.out ?_
      rintro e w3 ⟨rfl, rfl⟩
      go_wp2
      go_roundw
      case rel => exact ⟨k + 1, by omega, by go_num, by first | trivial | rfl, by first | trivial | rfl⟩
      case measure => simp [intOf]; omega
    · obtain rfl : k = n := by omega
      go_wp2
      go_ret
      exact ⟨rfl, rfl⟩
theorem Read.under {w w' : World} {lo b : Nat} {g : Option Nat} {xs : List Value} {ts : List (List UInt8)} (h : Read w b g xs ts) (hb : Below lo w w') (hl : ∀ i x, i < ts.length → InB (xs.getD (i * 2) nov) (xs.getD (i * 2 + 1) nov) x → x < lo) : Read w' b g xs ts :=
  ⟨h.1, fun i hi => (h.2.1 i hi).under hb (fun x hx => hl i x hi (.inl hx)) (fun x hx => hl i x hi (.inr hx)), h.2.2⟩
theorem shipT_len : shipT.length = 16 := rfl
set_option maxHeartbeats 3200000 in
theorem shippedLaw_any (w : World) (hE : Env w) (hT : Tab w) (hM : MaxL w) :
    Calls Tryd.prog 7 #[] w fun e w' => e = .returned (.bool true) ∧ Below w.heap.size w w' := by
  have HSp := (show Hid _ from specShipped_any w)
  have HIm : Hid (∀ W, Below w.heap.size w W → Calls Tryd.prog 23 #[] W fun e w' => RowsR W w' 16 shipT e) := fun W hW => implShipped_any W (hE.keep hW) (hT.keeps hW) (hM.keep hW)
  have hlen := shipT_len
  generalize shipT = ts at HSp HIm hlen
  unfold RowsR at HSp HIm
  have HQ : Hid (∀ W lo lo' d d' a a' xs ys, W.ownsRow lo 29 2 (.slice a 16 d) 16 xs → Read W lo (Value.slice a 16 d).ownBlock xs ts → W.ownsRow lo' 29 2 (.slice a' 16 d') 16 ys → Read W lo' (Value.slice a' 16 d').ownBlock ys ts → Calls Tryd.prog 24 #[.slice a 16 d, .slice a' 16 d'] W fun e w' => e = .returned (.bool true) ∧ Below W.heap.size W w') := fun W lo lo' d d' a a' xs ys h1 h2 h3 h4 => eqRows_any lo lo' 16 d d' a a' none none _ _ xs ys ts W h1 h2 h3 h4 ⟨by decide, by decide⟩ hlen
  have HMI : Hid (∀ W lo d b xs, RowC W b 16 xs → Half W lo xs ts 0 → Apart b xs 16 → lo ≤ W.heap.size → Calls Tryd.prog 25 #[.slice (some ⟨b, 0, none⟩) 16 d, .int .i64 1] W fun e w' => e = .returned (.int .i64 (stR ts 16 : Nat)) ∧ Below lo W w' ∧ RowC w' b 16 xs ∧ Half w' lo xs ts 16) := fun W lo d b xs h1 h2 h3 h4 => markRows_any lo 16 d b xs ts W h1 h2 h3 hlen (by decide) h4
  have HH : Hid (∀ W d b xs, RowC W b 16 xs → (∀ i, i < 16 → HeldR W (stR ts i) (xs.getD (i * 2) nov) (xs.getD (i * 2 + 1) nov) (ruleL (ts.getD i [])).length (ruleR (ts.getD i [])).length) → Calls Tryd.prog 26 #[.slice (some ⟨b, 0, none⟩) 16 d, .int .i64 1] W fun e w' => e = .returned (.int .i64 (stR ts 16 : Nat)) ∧ w' = W) := fun W d b xs h1 h2 => heldRows_any 16 d b xs ts W h1 h2 (by decide)
  have hq1 : ¬ ((stR ts 16 : Nat) : Int) < 0 := by omega
  obtain ⟨zq, hzq⟩ : ∃ z, ((stR ts 16 : Nat) : Int) = z := ⟨_, rfl⟩
  rw [hzq] at HMI HH hq1
  have hqq : (zq != zq) = false := by simp
  clear hE hT hM hzq
  go_enter Tryd.func7, Tryd.ntmps7
  go_wp2_with fail
  refine Calls.mono HSp.out ?_
  rintro e w3 ⟨aW, dW, xW, rfl, oW3, rW3, hb3⟩
  have hWin : Hid ((∀ i x, i < ts.length → InB (xW.getD (i * 2) nov) (xW.getD (i * 2 + 1) nov) x → x < w3.heap.size) ∧ ∀ x, (Value.slice aW 16 dW).ownBlock = some x → x < w3.heap.size) := ⟨fun i x hi hx => (rW3.lt hi hx).1, fun x hx => own_in oW3 x hx⟩
  have hB3 := hb3
  have HI3 := (show Hid _ from HIm.out w3 hB3)
  clear hb3 HSp
  go_wp2_with fail
  refine Calls.mono HI3.out ?_
  rintro e w5 ⟨aG, dG, xG, rfl, oG5, rG5, hb5⟩
  obtain ⟨bG, rfl, hbG, _, hcG⟩ := row_cells oG5 (by decide)
  have rG5' : Read w5 w3.heap.size (some bG) xG ts := rG5
  have hB5 := hB3.trans (hb5.mono hB3.size)
  have rW5 := rW3.keep hb5
  have oW5 := own_keep oW3 hb5
  have HAp : Hid (Apart bG xG 16 ∧ RowC w5 bG 16 xG ∧ Half w5 w3.heap.size xG ts 0 ∧ w3.heap.size ≤ w5.heap.size) := ⟨by have := rG5'.apart; rw [hlen] at this; exact this, ⟨hbG, hcG⟩, ⟨fun i hi => absurd hi (Nat.not_lt_zero _), fun i _ hi => rG5'.2.1 i hi⟩, hb5.size⟩
  have HQ5 := (show Hid _ from HQ.out w5 _ _ _ _ _ _ _ _ oG5 rG5 oW5 rW5)
  have HW5 : Hid (w5.ownsRow w.heap.size 29 2 (.slice aW 16 dW) 16 xW ∧ Read w5 w.heap.size (Value.slice aW 16 dW).ownBlock xW ts ∧ Below w.heap.size w w5 ∧ w.heap.size ≤ w3.heap.size) := ⟨oW5, rW5, hB5, hB3.size⟩
  clear hb5 rW3 oW3 hB3 hB5 rW5 oW5 oG5 rG5 rG5' hbG hcG HI3
  go_wp2_with fail
  refine Calls.mono HQ5.out ?_
  rintro e w6 ⟨rfl, hb6⟩
  have HAp6 : Hid (RowC w6 bG 16 xG ∧ Half w6 w3.heap.size xG ts 0 ∧ w3.heap.size ≤ w6.heap.size) := ⟨HAp.out.2.1.keep hb6, ⟨fun i hi => absurd hi (Nat.not_lt_zero _), fun i h hi => (HAp.out.2.2.1.2 i h hi).keep hb6⟩, Nat.le_trans HAp.out.2.2.2 hb6.size⟩
  have HW6 : Hid (w6.ownsRow w.heap.size 29 2 (.slice aW 16 dW) 16 xW ∧ Read w6 w.heap.size (Value.slice aW 16 dW).ownBlock xW ts ∧ Below w.heap.size w w6) := ⟨own_keep HW5.out.1 hb6, HW5.out.2.1.keep hb6, HW5.out.2.2.1.trans (hb6.mono HW5.out.2.2.1.size)⟩
  have HM6 := (show Hid _ from HMI.out w6 w3.heap.size dG bG xG HAp6.out.1 HAp6.out.2.1 HAp.out.1 HAp6.out.2.2)
  clear hb6 HQ5 HMI
  go_wp2_with fail
  refine Calls.mono HM6.out ?_
  rintro e w11 ⟨rfl, hg11, hr11, hh11⟩
  have HG11 : Hid (RowC w11 bG 16 xG ∧ ∀ i, i < 16 → HeldR w11 (stR ts i) (xG.getD (i * 2) nov) (xG.getD (i * 2 + 1) nov) (ruleL (ts.getD i [])).length (ruleR (ts.getD i [])).length) := ⟨hr11, hh11.1⟩
  have HW11 : Hid (w11.ownsRow w.heap.size 29 2 (.slice aW 16 dW) 16 xW ∧ Read w11 w.heap.size (Value.slice aW 16 dW).ownBlock xW ts ∧ Below w.heap.size w w11) := ⟨own_low HW6.out.1 hg11 hWin.out.2, HW6.out.2.1.under hg11 hWin.out.1, HW6.out.2.2.trans (hg11.mono HW5.out.2.2.2)⟩
  have HH11 := (show Hid _ from HH.out w11 dG bG xG HG11.out.1 HG11.out.2)
  clear hg11 hr11 hh11 HM6 HW6 HAp6 HAp
  go_wp2_with fail
  refine Calls.mono HH11.out ?_
  rintro e w12 ⟨rfl, rfl⟩
  have HI12 := (show Hid _ from HIm.out _ HW11.out.2.2)
  clear HH11
  go_wp2_with fail
  refine Calls.mono HI12.out ?_
  rintro e w14 ⟨aH, dH, xH, rfl, oH14, rH14, hb14⟩
  have HQ14 := (show Hid _ from HQ.out w14 _ _ _ _ _ _ _ _ oH14 rH14 (own_keep HW11.out.1 hb14) (HW11.out.2.1.keep hb14))
  have HG14 : Hid (RowC w14 bG 16 xG ∧ (∀ i, i < 16 → HeldR w14 (stR ts i) (xG.getD (i * 2) nov) (xG.getD (i * 2 + 1) nov) (ruleL (ts.getD i [])).length (ruleR (ts.getD i [])).length) ∧ Below w.heap.size w w14) := ⟨HG11.out.1.keep hb14, fun i hi => (HG11.out.2 i hi).keep hb14, HW11.out.2.2.trans (hb14.mono HW11.out.2.2.size)⟩
  clear HI12 oH14 rH14 hb14 HG11 HW11
  go_wp2_with fail
  refine Calls.mono HQ14.out ?_
  rintro e w15 ⟨rfl, hb15⟩
  have HH15 := (show Hid _ from HH.out w15 dG bG xG (HG14.out.1.keep hb15) (fun i hi => (HG14.out.2.1 i hi).keep hb15))
  have HB15 := (show Hid _ from HG14.out.2.2.trans (hb15.mono HG14.out.2.2.size))
  clear HQ14 HG14 hb15
  go_wp2_with fail
  refine Calls.mono HH15.out ?_
  rintro e w16 ⟨rfl, rfl⟩
  go_wp2
  go_ret
  exact ⟨rfl, HB15.out⟩
end Go.Proofs.YtbchehpggoampaaDoor
