/-
  PROVED HERE: what the laws' own drawing of texts answers: some short text, whatever the bytes. No condition.
-/
import Derived.Test.YtbfoaiglecpgoaaDoorCur
namespace Go.Proofs.YtbfoaiglecpgoaaDoor
open Go.ChangeShapes Go.WideShapes Go.ChangeAt Go.RowKit
open Odd
set_option linter.unusedVariables false
attribute [local go_sem] conv1 isByte_some byteIn_some

theorem pick_gen (w : World) (c n : Nat) (m : Int) (h : Cur w c n) (hn : n < 1048576) (hm : 1 ≤ m) (hm' : m ≤ 200) :
    Calls Tryd.prog 25 #[.pointer (some ⟨c, 0, none⟩), .int .i64 m] w fun e w' => ∃ v : Int, e = .returned (.int .i64 v) ∧ 0 ≤ v ∧ v < m ∧ Drew w w' c n 1 := by
  by_cases h2 : 2 ≤ m
  · exact (pick_any w c n m h hn h2 hm').mono fun e w' ⟨v, he, v0, v1, hc, hg⟩ => ⟨v, he, v0, v1, ⟨_, by omega, hc⟩, hg⟩
  · have h1 : m ≤ 1 := by omega
    go_enter Tryd.func25, Tryd.ntmps25
    go_wp2
    go_ret
    exact ⟨0, rfl, by omega, by omega, ⟨n, by omega, h⟩, World.grownBy.refl _ _⟩

theorem one_any (w : World) (c n : Nat) (m : Int) (h : Cur w c n) (hn : n < 1048576) (hm : 1 ≤ m) (hm' : m ≤ 200) :
    Calls Tryd.prog 18 #[.pointer (some ⟨c, 0, none⟩), .int .i64 m] w fun e w' => ∃ b : Bool, e = .returned (.bool b) ∧ Drew w w' c n 1 := by
  go_enter Tryd.func18, Tryd.ntmps18
  go_wp2_with fail
  refine (pick_gen w c n m h hn hm hm').mono ?_
  rintro e w1 ⟨v, rfl, v0, v1, hd⟩
  clear h
  obtain ⟨b, hb⟩ : ∃ b, (v == 0) = b := ⟨_, rfl⟩
  go_wp2
  go_ret
  exact ⟨_, rfl, hd⟩

theorem of_any (w : World) (c n b L cap : Nat) (h : Cur w c n) (hn : n < 1048576) (hl : 1 ≤ L) (hl' : L ≤ 200) (hbc : c < b)
    (hcell : ∀ i, i < L → ∃ s : ByteArray, w.cell? ⟨b, i, none⟩ = some (.string s) ∧ s.size ≤ 20) :
    Calls Tryd.prog 20 #[.pointer (some ⟨c, 0, none⟩), .slice (some ⟨b, 0, none⟩) L cap] w fun e w' => ∃ s : ByteArray, e = .returned (.string s) ∧ s.size ≤ 20 ∧ Drew w w' c n 1 := by
  go_enter Tryd.func20, Tryd.ntmps20
  go_wp2_with fail
  refine (pick_gen w c n _ h hn (by omega) (by omega)).mono ?_
  rintro e w1 ⟨v, rfl, v0, v1, hd⟩
  obtain ⟨i, rfl⟩ := Int.eq_ofNat_of_zero_le v0
  have hi : i < L := by omega
  obtain ⟨s, hs, hsz⟩ := hcell i hi
  have hci : w1.cell? ⟨b, i, none⟩ = some (.string s) := hd.2.cell hs (by intro e; simp at e; omega)
  clear hcell h hs
  go_wp2
  go_ret
  exact ⟨s, rfl, hsz, hd⟩

theorem grown_own0 {w w1 w2 : World} {c : Nat} (h : w.grownBy w1 (some c)) (hg : w1.grownBy w2 none) : w.grownBy w2 (some c) :=
  ⟨hg.os.trans h.os, hg.tape.trans h.tape, hg.output.trans h.output, Nat.le_trans h.size hg.size, fun i hi hne => (hg.block i (Nat.lt_of_lt_of_le hi h.size) (fun e => by cases e)).trans (h.block i hi hne)⟩

theorem drew_trans {w w1 w2 : World} {c n j k : Nat} (h : Drew w w1 c n j) (hg : ∀ n', n' ≤ n + j → Cur w1 c n' → ∃ m, m ≤ n' + k ∧ Cur w2 c m) (g : w1.grownBy w2 (some c)) : Drew w w2 c n (j + k) := by
  obtain ⟨⟨n', hn', hc⟩, g1⟩ := h
  obtain ⟨m, hm, hc2⟩ := hg n' hn' hc
  exact ⟨⟨m, by omega, hc2⟩, gtrans g1 g⟩

theorem size_a (s : ByteArray) (c : UInt8) (p : Nat) (hp : p < s.size) : (s.extract 0 p ++ ⟨#[c]⟩ ++ s.extract p s.size).size ≤ s.size + 1 := by
  have : (⟨#[c]⟩ : ByteArray).size = 1 := rfl
  simp [ByteArray.size_append, ByteArray.size_extract, this]; omega
theorem size_b (s : ByteArray) (c : UInt8) (p : Nat) (hp : p < s.size) : (s.extract 0 p ++ ⟨#[c]⟩ ++ s.extract (p + 1) s.size).size ≤ s.size + 1 := by
  have : (⟨#[c]⟩ : ByteArray).size = 1 := rfl
  simp [ByteArray.size_append, ByteArray.size_extract, this]; omega
theorem size_c (s : ByteArray) (p : Nat) (hp : p < s.size) : (s.extract 0 p ++ s.extract (p + 1) s.size).size ≤ s.size + 1 := by
  simp [ByteArray.size_append, ByteArray.size_extract]; omega
theorem size_k {a b k : Nat} (h : a ≤ b + 1) (hs : b + k ≤ 32) (hk : 0 < k) : a + (k - 1) ≤ 32 := by omega
theorem drewn {w w1 : World} {c : Nat} (h : w.grownBy w1 (some c)) (n : Nat) : w.grownBy (w1.drewN n) (some c) := ⟨h.os, h.tape, h.output, h.size, h.block⟩

set_option maxHeartbeats 1600000 in
theorem spoilt_any (w : World) (c n : Nat) (t : ByteArray) (h : Cur w c n) (hn : n ≤ 1000) (ht : t.size ≤ 30) :
    Calls Tryd.prog 19 #[.pointer (some ⟨c, 0, none⟩), .string t, .string ⟨#[48, 49, 45, 57]⟩] w fun e w' => ∃ s : ByteArray, e = .returned (.string s) ∧ s.size ≤ 40 ∧ Drew w w' c n 10 := by
  go_enter Tryd.func19, Tryd.ntmps19
  go_wp2_with fail
  refine (pick_any w c n 2 h (by omega) (by decide) (by decide)).mono ?_
  rintro e w1 ⟨v, rfl, v0, v1, hc1, hg1⟩
  clear h
  obtain ⟨q, rfl⟩ := Int.eq_ofNat_of_zero_le v0
  have hq : q ≤ 1 := by omega
  go_wp2_with fail
  go_loopw [1, 7] (fun x i wr => ∃ (k : Nat) (s : ByteArray) (j : Nat), k ≤ 2 ∧ i = .int .i64 k ∧ x = .string s ∧ s.size + k ≤ 32 ∧ (j + 3 * k ≤ n + 7 ∧ Cur wr c j) ∧ w.grownBy wr (some c)) (fun _ i _ => (intOf i).toNat)
  case atStart => exact ⟨q + 1, t, n + 1, by omega, by go_num, rfl, by omega, ⟨by omega, hc1⟩, hg1⟩
  case round =>
    obtain ⟨k, s, j, hk, rfl, rfl, hsz, ⟨hj, hcr⟩, hgr⟩ := hrel
    clear hc1 hg1
    by_cases h0 : 0 < k ∧ 0 < s.size
    · obtain ⟨hk0, hs0⟩ := h0
      have i0 : (0 : Int) < k := by omega
      have i1 : (0 : Int) < s.size := by omega
      go_wp2_with fail
      refine (pick_gen wr c j _ hcr (by omega) (by omega) (by omega)).mono ?_
      rintro e w2 ⟨a, rfl, a0, a1, ⟨j2, hj2, hc2⟩, hg2⟩
      have hg12 := gtrans hgr hg2
      clear hcr hgr hg2
      obtain ⟨p, rfl⟩ := Int.eq_ofNat_of_zero_le a0
      go_wp2_with fail
      refine (pick_any w2 c j2 4 hc2 (by omega) (by decide) (by decide)).mono ?_
      rintro e w3 ⟨b, rfl, b0, b1, hc3, hg3⟩
      have hg13 := gtrans hg12 hg3
      clear hc2 hg12 hg3
      obtain ⟨r, rfl⟩ := Int.eq_ofNat_of_zero_le b0
      have hr : r = 0 ∨ r = 1 ∨ r = 2 ∨ r = 3 := by omega
      go_wp2_with fail
      have hc4 : ∀ o, Cur (w3.alloc o) c (j2 + 1) := fun o => hc3.kept (World.grownBy_alloc w3 o none) (fun r hr => by cases hr)
      refine (pick_any _ c _ 3 (hc4 _) (by omega) (by decide) (by decide)).mono ?_
      rintro e w4 ⟨d, rfl, d0, d1, hc5, hg5⟩
      have hg14 : w.grownBy w4 (some c) := gtrans (gtrans hg13 (World.grownBy_alloc w3 _ (some c))) hg5
      clear hc3 hc4 hg13 hg5
      have hp : p < s.size := by omega
      have hd : d = 0 ∨ d = 1 ∨ d = 2 := by omega
      rcases hd with rfl | rfl | rfl
      · go_wp2_with fail
        go_quiet (fail)
        go_wp2
        go_roundw
        case rel => exact ⟨k - 1, _, j2 + 1 + 1, by omega, by congr 1; omega, rfl, size_k (size_a s _ p hp) hsz hk0, ⟨by omega, hc5⟩, drewn hg14 _⟩
        case measure => simp [intOf]; omega
      · go_wp2_with fail
        go_quiet (fail)
        go_wp2
        go_roundw
        case rel => exact ⟨k - 1, _, j2 + 1 + 1, by omega, by congr 1; omega, rfl, size_k (size_b s _ p hp) hsz hk0, ⟨by omega, hc5⟩, drewn hg14 _⟩
        case measure => simp [intOf]; omega
      · go_wp2_with fail
        go_quiet (fail)
        go_wp2
        go_roundw
        case rel => exact ⟨k - 1, _, j2 + 1 + 1, by omega, by congr 1; omega, rfl, size_k (size_c s p hp) hsz hk0, ⟨by omega, hc5⟩, drewn hg14 _⟩
        case measure => simp [intOf]; omega
    · go_wp2
      all_goals
        go_ret
        exact ⟨s, rfl, by omega, ⟨j, by omega, hcr⟩, hgr⟩

theorem Drew.cur {w w' : World} {c n k : Nat} (h : Drew w w' c n k) : ∃ m, m ≤ n + k ∧ Cur w' c m := h.1

theorem five (W : World) (C : Array Value) (t : TypeId) (h5 : C.size = 5) (hC : ∀ i, i < 5 → ∃ s : ByteArray, C[i]? = some (.string s) ∧ s.size ≤ 20) : ∀ i, i < 5 → ∃ s : ByteArray, (W.alloc (.cells C t)).cell? ⟨W.heap.size, i, none⟩ = some (.string s) ∧ s.size ≤ 20 := by
  intro i hi
  obtain ⟨s, h1, h2⟩ := hC i hi
  exact ⟨s, by rw [World.cell?_alloc_at _ _ _ _ rfl]; exact h1, h2⟩

set_option maxHeartbeats 1600000 in
theorem drawRead (w : World) (a : Option Addr) (len cap : Nat) (hb : Bytes w w.heap.size a len) (hl : len ≤ 1048576) :
    Calls Tryd.prog 11 #[.slice a len cap] w fun e w' => ∃ s : ByteArray, e = .returned (.string s) ∧ s.size ≤ 40 ∧ Below w.heap.size w w' := by
  have hc := cur_new w a len cap hb hl
  go_enter Tryd.func11, Tryd.ntmps11
  go_wp2_with fail
  refine (num_any _ _ 0 hc (by decide)).mono ?_
  rintro e w1 ⟨v, rfl, hv, ⟨n1, hn1, hc1⟩, hg1⟩
  clear hc
  have hlt := hc1.lt
  have hlen : (Lib.itoa v).length ≤ 21 := by
    obtain ⟨h0, h1⟩ := hv
    unfold Lib.itoa
    split
    · have := dec_len 20 v.natAbs (by decide) (by omega)
      simp; omega
    · have := dec_len 20 v.toNat (by decide) (by omega)
      omega
  have H := spec_any v w1 hv
  generalize Lib.itoa v = L at H hlen
  go_wp2_with fail
  refine H.mono ?_
  rintro e w2 ⟨rfl, hb2⟩
  have hLs : (⟨L.toArray⟩ : ByteArray).size ≤ 30 := by
    have e0 : (⟨L.toArray⟩ : ByteArray).size = L.length := by simp [ByteArray.size]
    omega
  have hg12 : w1.grownBy w2 none := ⟨hb2.os, hb2.tape, hb2.output, hb2.size, fun k hk _ => hb2.block k hk⟩
  have hc2 : Cur w2 w.heap.size n1 := hc1.kept hg12 (fun r hr => by cases hr)
  have hG2 : (w.alloc (.cells #[.slice a len cap, .int .i64 0, .int .u64 0] 40)).grownBy w2 (some w.heap.size) := grown_own0 hg1 hg12
  clear H hb2 hg12 hc1 hg1
  generalize (⟨L.toArray⟩ : ByteArray) = S at hLs
  go_wp2_with fail
  refine (one_any w2 _ n1 3 hc2 (by omega) (by decide) (by decide)).mono ?_
  rintro e w3 ⟨b3, rfl, ⟨n3, hn3, hc3⟩, hg3⟩
  have hG3 := gtrans hG2 hg3
  clear hc2 hG2 hg3
  cases b3
  · go_wp2_with fail
    refine (one_any w3 _ n3 12 hc3 (by omega) (by decide) (by decide)).mono ?_
    rintro e w5 ⟨b5, rfl, ⟨n5, hn5, hc5⟩, hg5⟩
    have hG5 := gtrans hG3 hg5
    clear hc3 hG3 hg5
    cases b5
    · go_wp2
      go_ret
      exact ⟨_, rfl, by omega, drew_below hG5⟩
    · have hc6 : ∀ o, Cur (w5.alloc o) w.heap.size n5 := fun o => hc5.kept (World.grownBy_alloc w5 o none) (fun r hr => by cases hr)
      have hlt5 := hc5.lt
      go_wp2_with fail
      refine (of_any _ _ n5 w5.heap.size 5 5 (hc6 _) (by omega) (by decide) (by decide) hlt5 (five w5 _ _ rfl ?hC)).mono ?_
      case hC =>
        intro i hi
        have : i = 0 ∨ i = 1 ∨ i = 2 ∨ i = 3 ∨ i = 4 := by omega
        rcases this with rfl | rfl | rfl | rfl | rfl
        all_goals exact ⟨_, rfl, by decide⟩
      rintro e w6 ⟨S6, rfl, hS6, ⟨n6, hn6, hc7⟩, hg6⟩
      have hG6 := gtrans (gtrans hG5 (World.grownBy_alloc w5 _ (some w.heap.size))) hg6
      go_wp2
      go_ret
      exact ⟨_, rfl, by omega, drew_below hG6⟩
  · go_wp2_with fail
    refine (spoilt_any w3 _ n3 S hc3 (by omega) hLs).mono ?_
    rintro e w4 ⟨S4, rfl, hS4, ⟨n4, hn4, hc4⟩, hg4⟩
    have hG4 := gtrans hG3 hg4
    clear hc3 hG3 hg4
    go_wp2_with fail
    refine (one_any w4 _ n4 12 hc4 (by omega) (by decide) (by decide)).mono ?_
    rintro e w5 ⟨b5, rfl, ⟨n5, hn5, hc5⟩, hg5⟩
    have hG5 := gtrans hG4 hg5
    clear hc4 hG4 hg5
    cases b5
    · go_wp2
      go_ret
      exact ⟨_, rfl, by omega, drew_below hG5⟩
    · have hc6 : ∀ o, Cur (w5.alloc o) w.heap.size n5 := fun o => hc5.kept (World.grownBy_alloc w5 o none) (fun r hr => by cases hr)
      have hlt5 := hc5.lt
      go_wp2_with fail
      refine (of_any _ _ n5 w5.heap.size 5 5 (hc6 _) (by omega) (by decide) (by decide) hlt5 (five w5 _ _ rfl ?hC)).mono ?_
      case hC =>
        intro i hi
        have : i = 0 ∨ i = 1 ∨ i = 2 ∨ i = 3 ∨ i = 4 := by omega
        rcases this with rfl | rfl | rfl | rfl | rfl
        all_goals exact ⟨_, rfl, by decide⟩
      rintro e w6 ⟨S6, rfl, hS6, ⟨n6, hn6, hc7⟩, hg6⟩
      have hG6 := gtrans (gtrans hG5 (World.grownBy_alloc w5 _ (some w.heap.size))) hg6
      go_wp2
      go_ret
      exact ⟨_, rfl, by omega, drew_below hG6⟩
end Go.Proofs.YtbfoaiglecpgoaaDoor
