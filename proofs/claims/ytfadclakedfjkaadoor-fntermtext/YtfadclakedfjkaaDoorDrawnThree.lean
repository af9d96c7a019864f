/-
  PROVED HERE: what the laws of chapter 3 draw: terms, and some texts, whatever the bytes. No condition. what DrawTermText and DrawReadTerm draw, whatever the bytes. No condition.
-/
import Derived.Test.YtfadclakedfjkaaDoorDrawing
import Derived.Test.YtfadclakedfjkaaDoorText
import Derived.Test.YtfadclakedfjkaaDoorPlainRead
namespace Go.Proofs.YtfadclakedfjkaaDoor
open Go.ChangeShapes Go.WideShapes Go.ChangeAt Go.RowKit
open Odd
set_option linter.unusedVariables false
attribute [local go_sem] conv1 isByte_some byteIn_some

theorem pick_big (w : World) (c n : Nat) (m : Int) (h : Cur w c n) (hn : n + 1 < 1048576) (hm : 200 < m) (hm' : m ≤ 60000) :
    Calls Tryd.prog 32 #[.pointer (some ⟨c, 0, none⟩), .int .i64 m] w fun e w' => ∃ v : Int, e = .returned (.int .i64 v) ∧ 0 ≤ v ∧ v < m ∧ Cur w' c (n + 2) ∧ w.grownBy w' (some c) := by
  have hN := (show Hid _ from next_any w c n h (by omega))
  clear h
  have h1 : ¬ m ≤ 1 := by omega
  go_enter Tryd.func32, Tryd.ntmps32
  go_wp2_with fail
  refine Calls.mono hN.out ?_
  rintro e w1 ⟨v, rfl, v0, v1, hc, hg⟩
  have hN2 := (show Hid _ from next_any w1 c (n + 1) hc (by omega))
  clear hN hc
  go_wp2_with fail
  refine Calls.mono hN2.out ?_
  rintro e w2 ⟨u, rfl, u0, u1, hc2, hg2⟩
  have hw : IntKind.i64.wrap (IntKind.i64.wrap (v * 256) + u) = v * 256 + u := by rw [IntKind.wrap_i64, IntKind.wrap_i64]; omega
  go_wp2
  go_ret
  refine ⟨_, rfl, ?_, ?_, hc2, gtrans hg hg2⟩
  · exact Int.emod_nonneg _ (by omega)
  · exact Int.emod_lt_of_pos _ (by omega)
theorem pick_gen (w : World) (c n : Nat) (m : Int) (h : Cur w c n) (hn : n + 1 < 1048576) (hm : 1 ≤ m) (hm' : m ≤ 60000) :
    Calls Tryd.prog 32 #[.pointer (some ⟨c, 0, none⟩), .int .i64 m] w fun e w' => ∃ v : Int, e = .returned (.int .i64 v) ∧ 0 ≤ v ∧ v < m ∧ Drew w w' c n 2 := by
  by_cases h2 : 2 ≤ m
  · by_cases h3 : m ≤ 200
    · exact (pick_any w c n m h (by omega) h2 h3).mono fun e w' ⟨v, he, v0, v1, hc, hg⟩ => ⟨v, he, v0, v1, ⟨_, by omega, hc⟩, hg⟩
    · exact (pick_big w c n m h hn (by omega) hm').mono fun e w' ⟨v, he, v0, v1, hc, hg⟩ => ⟨v, he, v0, v1, ⟨_, by omega, hc⟩, hg⟩
  · have h1 : m ≤ 1 := by omega
    go_enter Tryd.func32, Tryd.ntmps32
    go_wp2
    go_ret
    exact ⟨0, rfl, by omega, by omega, ⟨n, by omega, h⟩, World.grownBy.refl _ _⟩
theorem of_any (w : World) (c n b L cap : Nat) (h : Cur w c n) (hn : n + 1 < 1048576) (hl : 1 ≤ L) (hl' : L ≤ 200) (hbc : c < b)
    (hcell : ∀ i, i < L → ∃ s : ByteArray, w.cell? ⟨b, i, none⟩ = some (.string s) ∧ s.size ≤ 20) :
    Calls Tryd.prog 34 #[.pointer (some ⟨c, 0, none⟩), .slice (some ⟨b, 0, none⟩) L cap] w fun e w' => ∃ s : ByteArray, e = .returned (.string s) ∧ s.size ≤ 20 ∧ Drew w w' c n 2 := by
  go_enter Tryd.func34, Tryd.ntmps34
  go_wp2_with fail
  refine (pick_gen w c n _ h hn (by omega) (by omega)).mono ?_
  rintro e w1 ⟨v, rfl, v0, v1, hd⟩
  obtain ⟨i, rfl⟩ := Int.eq_ofNat_of_zero_le v0
  have hi : i < L := by omega
  obtain ⟨s, hs, hsz⟩ := hcell i hi
  have hci : w1.cell? ⟨b, i, none⟩ = some (.string s) := hd.2.cell hs (by intro e; simp at e; omega)
  clear hcell h hs
  go_wp2
  go_ret
  exact ⟨s, rfl, hsz, hd⟩
theorem size_a (s : ByteArray) (c : UInt8) (p : Nat) (hp : p < s.size) : (s.extract 0 p ++ ⟨#[c]⟩ ++ s.extract p s.size).size ≤ s.size + 1 := by
  have : (⟨#[c]⟩ : ByteArray).size = 1 := rfl
  simp [ByteArray.size_append, ByteArray.size_extract, this]; omega
theorem size_b (s : ByteArray) (c : UInt8) (p : Nat) (hp : p < s.size) : (s.extract 0 p ++ ⟨#[c]⟩ ++ s.extract (p + 1) s.size).size ≤ s.size + 1 := by
  have : (⟨#[c]⟩ : ByteArray).size = 1 := rfl
  simp [ByteArray.size_append, ByteArray.size_extract, this]; omega
theorem size_c (s : ByteArray) (p : Nat) (hp : p < s.size) : (s.extract 0 p ++ s.extract (p + 1) s.size).size ≤ s.size + 1 := by
  simp [ByteArray.size_append, ByteArray.size_extract]; omega
theorem size_k {a b k : Nat} (h : a ≤ b + 1) (hs : b + k ≤ 1202) (hk : 0 < k) : a + (k - 1) ≤ 1202 := by omega
theorem drewn {w w1 : World} {c : Nat} (h : w.grownBy w1 (some c)) (n : Nat) : w.grownBy (w1.drewN n) (some c) := ⟨h.os, h.tape, h.output, h.size, h.block⟩
def spoils : List UInt8 := [40, 97, 49, 60, 43, 45, 61, 63, 58, 41, 126]
set_option maxHeartbeats 2000000 in
theorem spoilt_any (w : World) (c n : Nat) (t : ByteArray) (h : Cur w c n) (hn : n ≤ 10000) (ht : t.size ≤ 1200) :
    Calls Tryd.prog 33 #[.pointer (some ⟨c, 0, none⟩), .string t, .string ⟨#[40, 97, 49, 60, 43, 45, 61, 63, 58, 41, 126]⟩] w fun e w' => ∃ s : ByteArray, e = .returned (.string s) ∧ s.size ≤ 1202 ∧ Drew w w' c n 20 := by
  go_enter Tryd.func33, Tryd.ntmps33
  go_wp2_with fail
  refine (pick_any w c n 2 h (by omega) (by decide) (by decide)).mono ?_
  rintro e w1 ⟨v, rfl, v0, v1, hc1, hg1⟩
  clear h
  obtain ⟨q, rfl⟩ := Int.eq_ofNat_of_zero_le v0
  have hq : q ≤ 1 := by omega
  go_wp2_with fail
  go_loopw [1, 7] (fun x i wr => ∃ (k : Nat) (s : ByteArray) (j : Nat), k ≤ 2 ∧ i = .int .i64 k ∧ x = .string s ∧ s.size + k ≤ 1202 ∧ (j + 4 * k ≤ n + 9 ∧ Cur wr c j) ∧ w.grownBy wr (some c)) (fun _ i _ => (intOf i).toNat)
  case atStart => exact ⟨q + 1, t, n + 1, by omega, by go_num, rfl, by omega, ⟨by omega, hc1⟩, hg1⟩
  case round =>
    obtain ⟨k, s, j, hk, rfl, rfl, hsz, ⟨hj, hcr⟩, hgr⟩ := hrel
    clear hc1 hg1
    by_cases h0 : 0 < k ∧ 0 < s.size
    · obtain ⟨hk0, hs0⟩ := h0
      have i0 : (0 : Int) < k := by omega
      have i1 : (0 : Int) < s.size := by omega
      go_wp2_with fail
      refine (pick_gen wr c j _ hcr (by omega) (by omega) (by omega)).mono ?_
      rintro e w2 ⟨a, rfl, a0, a1, ⟨j2, hj2, hc2⟩, hg2⟩
      have hg12 := gtrans hgr hg2
      clear hcr hgr hg2
      obtain ⟨p, rfl⟩ := Int.eq_ofNat_of_zero_le a0
      go_wp2_with fail
      refine (pick_any w2 c j2 11 hc2 (by omega) (by decide) (by decide)).mono ?_
      rintro e w3 ⟨b, rfl, b0, b1, hc3, hg3⟩
      have hg13 := gtrans hg12 hg3
      clear hc2 hg12 hg3
      obtain ⟨r, rfl⟩ := Int.eq_ofNat_of_zero_le b0
      have hr : r < 11 := by omega
      have hr' : (r : Int) < 11 := by omega
      go_wp2_with fail
      have hc4 : ∀ o, Cur (w3.alloc o) c (j2 + 1) := fun o => hc3.kept (World.grownBy_alloc w3 o none) (fun r hr => by cases hr)
      refine (pick_any _ c _ 3 (hc4 _) (by omega) (by decide) (by decide)).mono ?_
      rintro e w4 ⟨d, rfl, d0, d1, hc5, hg5⟩
      have hg14 : w.grownBy w4 (some c) := gtrans (gtrans hg13 (World.grownBy_alloc w3 _ (some c))) hg5
      clear hc3 hc4 hg13 hg5
      have hp : p < s.size := by omega
      have hd : d = 0 ∨ d = 1 ∨ d = 2 := by omega
      rcases hd with rfl | rfl | rfl
      · go_wp2_with fail
        go_quiet (fail)
        go_wp2
        go_roundw
        case rel => exact ⟨k - 1, _, j2 + 1 + 1, by omega, by congr 1; omega, rfl, size_k (size_a s _ p hp) hsz hk0, ⟨by omega, hc5⟩, drewn hg14 _⟩
        case measure => simp [intOf]; omega
      · go_wp2_with fail
        go_quiet (fail)
        go_wp2
        go_roundw
        case rel => exact ⟨k - 1, _, j2 + 1 + 1, by omega, by congr 1; omega, rfl, size_k (size_b s _ p hp) hsz hk0, ⟨by omega, hc5⟩, drewn hg14 _⟩
        case measure => simp [intOf]; omega
      · go_wp2_with fail
        go_quiet (fail)
        go_wp2
        go_roundw
        case rel => exact ⟨k - 1, _, j2 + 1 + 1, by omega, by congr 1; omega, rfl, size_k (size_c s p hp) hsz hk0, ⟨by omega, hc5⟩, drewn hg14 _⟩
        case measure => simp [intOf]; omega
    · go_wp2
      all_goals
        go_ret
        exact ⟨s, rfl, by omega, ⟨j, by omega, hcr⟩, hgr⟩
end Go.Proofs.YtfadclakedfjkaaDoor
namespace Go.Proofs.YtfadclakedfjkaaDoor
open Go.ChangeShapes Go.WideShapes Go.ChangeAt Go.RowKit
open Odd
set_option linter.unusedVariables false

theorem drawGood (w : World) (a : Option Addr) (len cap : Nat) (hb : Bytes w w.heap.size a len) (hl : len ≤ 1048576) :
    Calls Tryd.prog 22 #[.slice a len cap] w fun e w' => ∃ (v : Value) (l : List (Int × Int)), e = .returned v ∧ New w' w.heap.size v l ∧ NumsIn l ∧ Below w.heap.size w w' := by
  have hc := cur_new w a len cap hb hl
  have HT := (show Hid _ from term_any _ _ 0 hc (by decide))
  clear hc hb
  go_enter Tryd.func22, Tryd.ntmps22
  go_wp2_with fail
  refine Calls.mono HT.out ?_
  rintro e w1 ⟨v, l, rfl, hN, hI, ⟨n1, hn1, hc1⟩, hg1⟩
  have hB := drew_below hg1
  have hN' : New w1 w.heap.size v l := by
    obtain ⟨a', len', cap', e, h1, h2, h3, h4⟩ := hN
    exact ⟨a', len', cap', e, h1, h2, h3, fun x hx => Nat.le_trans (by simp) (h4 x hx)⟩
  have HN := (show Hid _ from hN')
  clear HT hN hN' hg1
  go_wp2
  go_ret
  exact ⟨_, l, rfl, HN.out, hI, hB⟩
theorem drawTerm (w : World) (a : Option Addr) (len cap : Nat) (hb : Bytes w w.heap.size a len) (hl : len ≤ 1048576) :
    Calls Tryd.prog 8 #[.slice a len cap] w fun e w' => ∃ (v : Value) (l : List (Int × Int)), e = .returned v ∧ New w' w.heap.size v l ∧ NumsIn l ∧ Below w.heap.size w w' := by
  have HT := (show Hid _ from drawGood w a len cap hb hl)
  clear hb
  go_enter Tryd.func8, Tryd.ntmps8
  go_wp2_with fail
  refine Calls.mono HT.out ?_
  rintro e w1 ⟨v, l, rfl, hN, hI, hB⟩
  have HN := (show Hid _ from hN)
  clear HT hN
  go_wp2
  go_ret
  exact ⟨_, l, rfl, HN.out, hI, hB⟩
theorem termT_len {l : List (Int × Int)} (hn : InN l) : (termT l).length ≤ 1000 := by
  unfold termT
  split
  · next h => exact text_len h (fun k _ => itoa_len _ (hn k))
  · simp
theorem texts_cells (W : World) (C : Array Value) (t : TypeId) (n : Nat) (hC : ∀ i, i < n → ∃ s : ByteArray, C[i]? = some (.string s) ∧ s.size ≤ 20) : ∀ i, i < n → ∃ s : ByteArray, (W.alloc (.cells C t)).cell? ⟨W.heap.size, i, none⟩ = some (.string s) ∧ s.size ≤ 20 := by
  intro i hi
  obtain ⟨s, h1, h2⟩ := hC i hi
  exact ⟨s, by rw [World.cell?_alloc_at _ _ _ _ rfl]; exact h1, h2⟩
set_option maxHeartbeats 2000000 in
set_option maxRecDepth 20000 in
theorem drawReadTerm (w : World) (a : Option Addr) (len cap : Nat) (hb : Bytes w w.heap.size a len) (hl : len ≤ 1048576) :
    Calls Tryd.prog 14 #[.slice a len cap] w fun e w' => ∃ s : ByteArray, e = .returned (.string s) ∧ s.size ≤ 1202 ∧ Below w.heap.size w w' := by
  have hc := cur_new w a len cap hb hl
  have HT := (show Hid _ from term_any _ _ 0 hc (by decide))
  clear hc hb
  go_enter Tryd.func14, Tryd.ntmps14
  go_wp2_with fail
  refine Calls.mono HT.out ?_
  rintro e w1 ⟨v, l, rfl, hN, hI, ⟨n1, hn1, hc1⟩, hg1⟩
  obtain ⟨a', len', cap', rfl, hs, h2, h3, h4⟩ := hN
  have hIN := inN_of hI
  have HS := (show Hid _ from specText_any a' len' cap' l w1 hs (by omega) hIN)
  have hlen := termT_len hIN
  clear HT hs hI hIN h4
  generalize termT l = L at HS hlen
  generalize goodB l = G at HS
  go_wp2_with fail
  refine Calls.mono HS.out ?_
  rintro e w2 ⟨rfl, hb2⟩
  have hc2 : Cur w2 w.heap.size n1 := hc1.kept (grown_of hb2) (fun r hr => by cases hr)
  have hG2 : (w.alloc (.cells #[.slice a len cap, .int .i64 0, .int .u64 0] 59)).grownBy w2 (some w.heap.size) := grown_own hg1 (grown_of hb2) (fun r hr => by cases hr)
  have hLs : (⟨L.toArray⟩ : ByteArray).size ≤ 1200 := by
    have e0 : (⟨L.toArray⟩ : ByteArray).size = L.length := by simp [ByteArray.size]
    omega
  clear HS hc1 hg1 hb2
  generalize (⟨L.toArray⟩ : ByteArray) = S at hLs
  have HP := (show Hid _ from pick_any w2 _ n1 5 hc2 (by omega) (by decide) (by decide))
  clear hc2
  go_wp2_with fail
  refine Calls.mono HP.out ?_
  rintro e w3 ⟨q, rfl, q0, q1, hc3, hg3⟩
  have hG3 := gtrans hG2 hg3
  clear HP hG2 hg3
  by_cases e0 : q = 0
  · subst e0
    have HP := (show Hid _ from spoilt_any w3 _ _ S hc3 (by omega) hLs)
    clear hc3
    go_wp2_with fail
    refine Calls.mono HP.out ?_
    rintro e w4 ⟨S4, rfl, hS4, ⟨n4, hn4, hc4⟩, hg4⟩
    have hG4 := gtrans hG3 hg4
    clear HP
    go_wp2
    go_ret
    exact ⟨_, rfl, hS4, drew_below hG4⟩
  by_cases e1 : q = 1
  · subst e1
    have hlt3 := hc3.lt
    have hc4 : ∀ o, Cur (w3.alloc o) w.heap.size (n1 + 1) := fun o => hc3.kept (World.grownBy_alloc w3 o none) (fun r hr => by cases hr)
    go_wp2_with fail
    refine (of_any _ _ _ w3.heap.size 18 18 (hc4 _) (by omega) (by decide) (by decide) hlt3 (texts_cells w3 _ _ 18 ?hC)).mono ?_
    case hC =>
      intro i hi
      rcases (show i = 0 ∨ i = 1 ∨ i = 2 ∨ i = 3 ∨ i = 4 ∨ i = 5 ∨ i = 6 ∨ i = 7 ∨ i = 8 ∨ i = 9 ∨ i = 10 ∨ i = 11 ∨ i = 12 ∨ i = 13 ∨ i = 14 ∨ i = 15 ∨ i = 16 ∨ i = 17 by omega) with rfl | rfl | rfl | rfl | rfl | rfl | rfl | rfl | rfl | rfl | rfl | rfl | rfl | rfl | rfl | rfl | rfl | rfl
      all_goals exact ⟨_, rfl, by decide⟩
    rintro e w6 ⟨S6, rfl, hS6, ⟨n6, hn6, hc7⟩, hg6⟩
    have hG6 := gtrans (gtrans hG3 (World.grownBy_alloc w3 _ (some w.heap.size))) hg6
    go_wp2
    go_ret
    exact ⟨_, rfl, by omega, drew_below hG6⟩
  · have k0 : (q == 0) = false := by simpa using e0
    have k1 : (q == 1) = false := by simpa using e1
    clear e0 e1
    go_wp2
    go_ret
    exact ⟨_, rfl, by omega, drew_below hG3⟩
end Go.Proofs.YtfadclakedfjkaaDoor
