/-
  PROVED HERE: what the laws of chapter 2 draw: terms, numbers, lists of terms, in new memory, whatever the bytes. No condition.
-/
import Derived.Test.YtlpefaaohcgboaaDoorTerms
import Derived.Test.YtlpefaaohcgboaaDoorMost
import Derived.Test.YtlpefaaohcgboaaDoorLots
namespace Go.Proofs.YtlpefaaohcgboaaDoor
open Go.ChangeShapes Go.WideShapes Go.ChangeAt Go.RowKit
set_option linter.unusedVariables false

theorem New.base {w : World} {B B' : Nat} {v : Value} {l : List (Int × Int)} (h : New w B v l) (hb : B' ≤ B) : New w B' v l := by
  obtain ⟨a, len, cap, e, h1, h2, h3, h4⟩ := h
  exact ⟨a, len, cap, e, h1, h2, h3, fun x hx => Nat.le_trans hb (h4 x hx)⟩
/-- Lists of nodes in a row of one's own, none of them in the row's own block. -/
def Got (w : World) (B : Nat) (p : Value) (n : Nat) (ls : List (List (Int × Int))) (xs : List Value) : Prop :=
  ls.length = n ∧ w.ownsRow B 24 1 p n xs ∧ ∀ i, i < n → ∃ a len cap, xs[i]? = some (.slice a len cap) ∧ NSl w a len (ls.getD i []) ∧ len ≤ cap ∧ (0 < len ∧ len ≤ 40) ∧ ∀ x, a = some x → B ≤ x.block ∧ p.ownBlock ≠ some x.block
theorem Got.nil (w : World) (B : Nat) : Got w B (.slice none 0 0) 0 [] [] := ⟨rfl, World.ownsRow_nil _ _ _ _, fun i hi => absurd hi (Nat.not_lt_zero _)⟩
theorem Got.grown {w w' : World} {B n c : Nat} {p : Value} {ls : List (List (Int × Int))} {xs : List Value} (h : Got w B p n ls xs) (hg : w.grownBy w' (some c)) (hc : c < B) : Got w' B p n ls xs := by
  obtain ⟨h1, h2, h3⟩ := h
  refine ⟨h1, own_grown h2 hg (fun x hx e => by have := own_ge h2 x hx; have := Option.some.inj e; omega), fun i hi => ?_⟩
  obtain ⟨a, len, cap, e1, e2, e3, e4, e5⟩ := h3 i hi
  exact ⟨a, len, cap, e1, e2.grown hg (fun x hx e => by have := (e5 x hx).1; have := Option.some.inj e; omega), e3, e4, e5⟩
theorem Got.keep {w w' : World} {B n : Nat} {p : Value} {ls : List (List (Int × Int))} {xs : List Value} (h : Got w B p n ls xs) (hb : Below w.heap.size w w') : Got w' B p n ls xs := by
  obtain ⟨h1, h2, h3⟩ := h
  refine ⟨h1, own_keep h2 hb, fun i hi => ?_⟩
  obtain ⟨a, len, cap, e1, e2, e3, e4, e5⟩ := h3 i hi
  exact ⟨a, len, cap, e1, e2.keep hb, e3, e4, e5⟩
theorem Got.base {w : World} {B B' n : Nat} {p : Value} {ls : List (List (Int × Int))} {xs : List Value} (h : Got w B p n ls xs) (hb : B' ≤ B) : Got w B' p n ls xs := by
  obtain ⟨h1, h2, h3⟩ := h
  refine ⟨h1, own_base h2 hb, fun i hi => ?_⟩
  obtain ⟨a, len, cap, e1, e2, e3, e4, e5⟩ := h3 i hi
  exact ⟨a, len, cap, e1, e2, e3, e4, fun x hx => ⟨Nat.le_trans hb (e5 x hx).1, (e5 x hx).2⟩⟩
theorem Got.push {w w5 : World} {B n B' : Nat} {p p' v : Value} {ls : List (List (Int × Int))} {xs : List Value} {l : List (Int × Int)} (h : Got w B p n ls xs) (hB' : ∀ x, p.ownBlock = some x → x < B') (hBB : B ≤ B') (hv : w.ownsRow B' 69 2 v l.length (flat l)) (hl : 1 ≤ l.length ∧ l.length ≤ 40)
    (hown : w5.ownsRow B 24 1 p' (n + 1) (xs ++ [v])) (hg : w.grownBy w5 p.ownBlock) (hat : p'.ownBlock = p.ownBlock ∨ p'.ownBlock = some w.heap.size) : Got w5 B p' (n + 1) (ls ++ [l]) (xs ++ [v]) := by
  obtain ⟨h1, h2, h3⟩ := h
  have hxl : xs.length = n := by have := h2.1; omega
  refine ⟨by simp [h1], hown, fun i hi => ?_⟩
  have key : ∀ (a : Option Addr) (len : Nat) (L : List (Int × Int)), NSl w a len L → (∀ x, a = some x → B ≤ x.block ∧ p.ownBlock ≠ some x.block) → 0 < len → NSl w5 a len L ∧ ∀ x, a = some x → B ≤ x.block ∧ p'.ownBlock ≠ some x.block := by
    intro a len L hs ha h0
    refine ⟨hs.grown hg (fun x hx e => (ha x hx).2 e.symm), fun x hx => ⟨(ha x hx).1, ?_⟩⟩
    rcases hat with e | e
    · rw [e]; exact (ha x hx).2
    · rw [e]
      intro e'
      obtain ⟨b, off, e1, hlt, _⟩ := hs.at h0
      rw [hx] at e1
      cases e1
      have := Option.some.inj e'
      simp only at this
      omega
  by_cases hin : i < n
  · obtain ⟨a, len, cap, e1, e2, e3, e4, e5⟩ := h3 i hin
    obtain ⟨k1, k2⟩ := key a len _ e2 e5 e4.1
    refine ⟨a, len, cap, by rw [List.getElem?_append_left (by omega)]; exact e1, ?_, e3, e4, k2⟩
    rw [List.getD_eq_getElem?_getD, List.getElem?_append_left (by omega), ← List.getD_eq_getElem?_getD]
    exact k1
  · obtain rfl : i = n := by omega
    have hN := New.of hv hl.2
    obtain ⟨a, len, cap, rfl, c1, c2, c3, c4⟩ := hN
    have hlen := c1.1
    obtain ⟨k1, k2⟩ := key a len l c1 (fun x hx => ⟨Nat.le_trans hBB (c4 x hx), fun e => by have := hB' _ e; have := c4 x hx; omega⟩) (by omega)
    refine ⟨a, len, cap, by rw [List.getElem?_append_right (by omega), hxl, Nat.sub_self]; rfl, ?_, c2, ⟨by omega, c3⟩, k2⟩
    rw [List.getD_eq_getElem?_getD, List.getElem?_append_right (by omega), h1, Nat.sub_self]
    exact k1
theorem Got.lists {w : World} {B n : Nat} {p : Value} {ls : List (List (Int × Int))} {xs : List Value} (h : Got w B p n ls xs) : ∃ a cap, p = .slice a n cap ∧ n ≤ cap ∧ NNSl w a n ls := by
  obtain ⟨h1, h2, h3⟩ := h
  have hxl : xs.length = n := by have := h2.1; omega
  rcases h2.2 with ⟨rfl, rfl⟩ | ⟨g, cap, cur, rfl, hb, hg, hc, _⟩
  · exact ⟨_, _, rfl, Nat.le_refl _, h1, .inl rfl⟩
  · refine ⟨_, _, rfl, hc, h1, .inr ⟨g, 0, rfl, Array.getElem?_eq_some_iff.1 hg |>.1, fun i hi => ?_⟩⟩
    obtain ⟨a, len, cap', e1, e2, e3, e4, _⟩ := h3 i hi
    exact ⟨a, len, cap', by rw [Nat.zero_add, h2.cellAt i (by omega)]; exact e1, by omega, e3, e2⟩

set_option maxHeartbeats 1600000 in
set_option maxRecDepth 20000 in
theorem drawReplace (w : World) (a : Option Addr) (len cap : Nat) (hb : Bytes w w.heap.size a len) (hl : len ≤ 1048576) :
    Calls Tryd.prog 20 #[.slice a len cap] w fun e w' => ∃ (v : Value) (l : List (Int × Int)) (k : Int) (vu : Value) (u : List (Int × Int)), e = .returned (.tuple #[v, .int .i64 k, vu]) ∧ New w' w.heap.size v l ∧ New w' w.heap.size vu u ∧ Below w.heap.size w w' := by
  have hc := cur_new w a len cap hb hl
  have hsz : (w.alloc (.cells #[.slice a len cap, .int .i64 0, .int .u64 0] 62)).heap.size = w.heap.size + 1 := by simp
  have CT := (show Hid _ from term_any _ _ 0 hc (by omega))
  rw [hsz] at CT
  have hb0 : Below w.heap.size w (w.alloc (.cells #[.slice a len cap, .int .i64 0, .int .u64 0] 62)) := (Below.refl _ _).alloc (Nat.le_refl _) _
  clear hc
  go_enter Tryd.func20, Tryd.ntmps20
  go_wp2_with fail
  refine Calls.mono CT.out ?_
  rintro e w1 ⟨v, l, rfl, hN, ⟨n1, hn1, hc1⟩, hg1⟩
  clear CT
  obtain ⟨ta, tl, tc, rfl, hs1, q1, q2, q3⟩ := hN
  have hN1 : New w1 (w.heap.size + 1) (.slice ta tl tc) l := ⟨ta, tl, tc, rfl, hs1, q1, q2, q3⟩
  have CP := (show Hid _ from pick_any w1 w.heap.size n1 ((tl : Int) + 2) hc1 (by omega) (by omega) (by omega))
  clear hs1 hc1
  go_wp2_with fail
  refine Calls.mono CP.out ?_
  rintro e w2 ⟨k, rfl, k0, k1, hc2, hg2⟩
  clear CP
  have hN2 := hN1.grown hg2 (fun x hx => by cases hx; omega)
  have hg12 := gtrans hg1 hg2
  have CA := (show Hid _ from all_any w2)
  clear hN1 hg1 hg2
  go_wp2_with fail
  refine Calls.mono CA.out ?_
  rintro e w3 ⟨rfl, ho3, hb3⟩
  clear CA
  have hc3 : Cur w3 w.heap.size (n1 + 1) := hc2.kept (grown_of hb3) (fun r hr => by cases hr)
  have hN3 := hN2.keep hb3
  have hc2l := hc2.lt
  have CU := (show Hid _ from tree_any 1 (by omega) w3 w.heap.size (n1 + 1) w2.heap.size 11 hc3 (by show n1 + 1 + 58 ≤ 500000; omega) hc2l ho3)
  have hg3 : (w.alloc (.cells #[.slice a len cap, .int .i64 0, .int .u64 0] 62)).grownBy w3 (some w.heap.size) := grown_own hg12 (grown_of hb3) (fun r hr => by cases hr)
  clear hN2 hg12 hc2 hc3 ho3 hb3
  go_wp2_with fail
  refine Calls.mono CU.out ?_
  rintro e w4 ⟨vu, u, rfl, hown, hu1, hu2, _, hg4⟩
  clear CU
  have hN4 := hN3.grown hg4 (fun x hx => by cases hx; omega)
  have hNu := New.of (own_base hown (show w.heap.size ≤ w3.heap.size from by have := hg3.size; omega)) (show u.length ≤ 40 by have : most 1 = 4 := rfl; omega)
  have hB : Below w.heap.size w w4 := drew_below (gtrans hg3 hg4)
  have HX := (show Hid _ from And.intro (hN4.base (Nat.le_succ _)) (And.intro hNu hB))
  clear hN3 hN4 hNu hB hg3 hg4 hown
  go_wp2
  go_ret3
  exact ⟨_, l, _, _, u, rfl, HX.out⟩

set_option maxHeartbeats 1600000 in
set_option maxRecDepth 20000 in
theorem drawPut (w : World) (a : Option Addr) (len cap : Nat) (hb : Bytes w w.heap.size a len) (hl : len ≤ 1048576) :
    Calls Tryd.prog 8 #[.slice a len cap] w fun e w' => ∃ (v : Value) (l : List (Int × Int)) (p : Value) (ls : List (List (Int × Int))) (xs : List Value), e = .returned (.tuple #[v, p]) ∧ New w' w.heap.size v l ∧ Got w' w.heap.size p 4 ls xs ∧ Below w.heap.size w w' := by
  obtain ⟨i0, hi, hz0, hz1, hz2⟩ := info_parts infoList
  have hc := cur_new w a len cap hb hl
  have hsz : (w.alloc (.cells #[.slice a len cap, .int .i64 0, .int .u64 0] 62)).heap.size = w.heap.size + 1 := by simp
  have CT := (show Hid _ from term_any _ _ 0 hc (by omega))
  rw [hsz] at CT
  clear hc
  have hb0 : Below w.heap.size w (w.alloc (.cells #[.slice a len cap, .int .i64 0, .int .u64 0] 62)) := (Below.refl _ _).alloc (Nat.le_refl _) _
  go_enter Tryd.func8, Tryd.ntmps8
  go_wp2_with fail
  generalize w.alloc (.cells #[.slice a len cap, .int .i64 0, .int .u64 0] 62) = W0 at CT hsz hb0 ⊢
  refine Calls.mono CT.out ?_
  rintro e w1 ⟨v, l, rfl, hN, ⟨n1, hn1, hc1⟩, hg1⟩
  clear CT
  have hcb : w.heap.size < w1.heap.size := hc1.lt
  have HN : Hid (New w1 (w.heap.size + 1) v l) := hN
  have hN0 := hg1.size
  clear hN
  go_wp2_with fail
  go_loopw [6, 7] (fun p i wr => ∃ (k : Nat) (ls : List (List (Int × Int))) (xs : List Value) (n2 : Nat), k ≤ 4 ∧ i = .int .i64 k ∧ Hid (Got wr w1.heap.size p k ls xs) ∧ n2 ≤ 1000 + k * 300 ∧ Cur wr w.heap.size n2 ∧ w1.grownBy wr (some w.heap.size)) (fun _ i _ => 4 - (intOf i).toNat)
  case atStart => exact ⟨0, [], [], n1, Nat.zero_le _, rfl, Got.nil _ _, by omega, hc1, World.grownBy.refl _ _⟩
  case round =>
    clear hc1
    obtain ⟨k, ls, xs, n2, hk, rfl, hG, hn2, hcr, hgr⟩ := hrel
    by_cases hlt : k < 4
    · have hlt' : (k : Int) < 4 := by omega
      have CP := (show Hid _ from pick_any wr w.heap.size n2 2 hcr (by omega) (by decide) (by decide))
      clear hcr
      go_wp2_with fail
      refine Calls.mono CP.out ?_
      rintro e w2 ⟨x, rfl, x0, x1, hc2, hg2⟩
      clear CP
      obtain ⟨xn, rfl⟩ := Int.eq_ofNat_of_zero_le x0
      have hG2 := hG.out.grown hg2 hcb
      have hgr2 := gtrans hgr hg2
      have hpin := own_in hG2.2.1
      have CA := (show Hid _ from all_any w2)
      clear hG hgr hg2
      go_wp2_with fail
      refine Calls.mono CA.out ?_
      rintro e w3 ⟨rfl, ho3, hb3⟩
      clear CA
      have hc3 : Cur w3 w.heap.size (n2 + 1) := hc2.kept (grown_of hb3) (fun r hr => by cases hr)
      have hG3 := hG2.keep hb3
      have hc2l := hc2.lt
      have hxd : draws xn ≤ 200 ∧ most xn ≤ 13 := by
        have : xn = 0 ∨ xn = 1 ∨ xn = 2 := by omega
        rcases this with rfl | rfl | rfl <;> decide
      have CU := (show Hid _ from tree_any xn (by omega) w3 w.heap.size (n2 + 1) w2.heap.size 11 hc3 (by omega) hc2l ho3)
      have hgr3 := grown_own hgr2 (grown_of hb3) (fun r hr => by cases hr)
      have hs3 := hb3.size
      have hs13 := hgr3.size
      clear hG2 hgr2 hc2 hc3 ho3 hb3
      go_wp2_with fail
      refine Calls.mono CU.out ?_
      rintro e w4 ⟨vu, u, rfl, hownu, hu1, hu2, ⟨n4, hn4, hc4⟩, hg4⟩
      clear CU
      have hG4 := hG3.grown hg4 hcb
      have hgr4 := gtrans hgr3 hg4
      rcases hownu.2 with ⟨_, h0⟩ | ⟨gu, cu, curu, rfl, hbu, hgu, hcu, _⟩
      · omega
      have hGa := hG4.keep ((Below.refl _ _).alloc (Nat.le_refl _) (.cells #[.slice (some ⟨gu, 0, none⟩) u.length cu] 24))
      have hua := hownu.alloc (.cells #[.slice (some ⟨gu, 0, none⟩) u.length cu] 24)
      have hca : Cur (w4.alloc (.cells #[.slice (some ⟨gu, 0, none⟩) u.length cu] 24)) w.heap.size n4 := hc4.kept (World.grownBy_alloc w4 _ none) (fun r hr => by cases hr)
      have hgra := grown_own hgr4 (World.grownBy_alloc w4 (.cells #[.slice (some ⟨gu, 0, none⟩) u.length cu] 24) none) (fun r hr => by cases hr)
      have HA := (show Hid _ from And.intro hGa (And.intro hua (And.intro hca hgra)))
      have hsz4 := hgra.size
      have hs34 := hg4.size
      clear hG3 hG4 hgr3 hgr4 hownu hg4 hc4 hGa hua hca hgra hgu
      go_wp2_with (at_builtin; refine wpList_append_own_at _ rfl _ _ 25 rfl w1.heap.size 24 i0 (.slice none 0 0) 1 24 Tryd.underlying25 hi hz0 hz1 hz2 rfl (by decide) u6 _ _ rfl HA.out.1.2.1 ⟨w4.heap.size, 0, none⟩ 1 1 [.slice (some ⟨gu, 0, none⟩) u.length cu] rfl (by simp) (cell_one_new w4 _ _) (fun z hz => by rw [List.mem_singleton.1 hz]; rfl) (by unfold maxLen; omega) (by omega) hsz4 ?_; intro v5 w5 hown5 hg5 _ hat5)
      have hge := own_ge HA.out.1.2.1
      have hG5 : Hid (Got w5 w1.heap.size v5 (k + 1) (ls ++ [u]) (xs ++ [.slice (some ⟨gu, 0, none⟩) u.length cu])) := Got.push HA.out.1 (B' := w3.heap.size) (fun x hx => by have := hpin x hx; omega) (by omega) HA.out.2.1 ⟨hu1, by omega⟩ hown5 hg5 hat5
      have hc5 : Cur w5 w.heap.size n4 := HA.out.2.2.1.kept hg5 (fun r hr => by have := hge r hr; omega)
      have hgr5 := grown_own HA.out.2.2.2 hg5 hge
      clear HA hown5 hg5 hat5
      go_roundw
      case rel => exact ⟨k + 1, ls ++ [u], _, n4, by omega, by go_num, hG5, by omega, hc5, hgr5⟩
      case measure => simp [intOf]; omega
    · obtain rfl : k = 4 := by omega
      have hNn := HN.out.grown hgr (fun x hx => by cases hx; omega)
      have hGn := hG.out
      have hB : Below w.heap.size w wr := hb0.grown (gtrans hg1 hgr) hb0.size (fun r hr => by cases hr; exact Nat.le_refl _)
      have HX : Hid (New wr w.heap.size v l ∧ Got wr w.heap.size u6 4 ls xs ∧ Below w.heap.size w wr) := ⟨hNn.base (Nat.le_succ _), hGn.base (by omega), hB⟩
      clear hNn hGn hG HN hB
      obtain ⟨ta, tl, tc, rfl, _⟩ := HX.out.1
      obtain ⟨pa, pc, rfl, _⟩ := HX.out.2.1.lists
      go_wp2
      go_ret2
      exact ⟨_, l, _, ls, xs, rfl, HX.out⟩

set_option maxHeartbeats 1600000 in
set_option maxRecDepth 20000 in
theorem drawJoin (w : World) (a : Option Addr) (len cap : Nat) (hb : Bytes w w.heap.size a len) (hl : len ≤ 1048576) :
    Calls Tryd.prog 25 #[.slice a len cap] w fun e w' => ∃ (op : Int) (p : Value) (m : Nat) (ls : List (List (Int × Int))) (xs : List Value), e = .returned (.tuple #[.int .i64 op, p]) ∧ m ≤ 3 ∧ Got w' w.heap.size p m ls xs ∧ Below w.heap.size w w' := by
  obtain ⟨i0, hi, hz0, hz1, hz2⟩ := info_parts infoList
  have hc := cur_new w a len cap hb hl
  have CT := (show Hid _ from pick_any _ _ 0 13 hc (by decide) (by decide) (by decide))
  clear hc
  have hb0 : Below w.heap.size w (w.alloc (.cells #[.slice a len cap, .int .i64 0, .int .u64 0] 62)) := (Below.refl _ _).alloc (Nat.le_refl _) _
  go_enter Tryd.func25, Tryd.ntmps25
  go_wp2_with fail
  generalize w.alloc (.cells #[.slice a len cap, .int .i64 0, .int .u64 0] 62) = W0 at CT hb0 ⊢
  refine Calls.mono CT.out ?_
  rintro e w1 ⟨op, rfl, op0, op1, hc1, hg1⟩
  clear CT
  have CL := (show Hid _ from l1Arity_any op w1)
  have har := ar_range op
  go_wp2_with fail
  refine Calls.mono CL.out ?_
  rintro e w1' ⟨rfl, rfl⟩
  clear CL
  have CM := (show Hid _ from most_any (ar op) w1')
  go_wp2_with fail
  refine Calls.mono CM.out ?_
  rintro e w1'' ⟨rfl, rfl⟩
  clear CM
  obtain ⟨m, hm, hme⟩ : ∃ m : Nat, m ≤ 3 ∧ (if ar op < 0 then 0 else ar op) = m := by
    by_cases h : ar op < 0
    · exact ⟨0, by decide, by rw [if_pos h]; rfl⟩
    · exact ⟨(ar op).toNat, by omega, by rw [if_neg h]; omega⟩
  rw [hme]
  clear hme har
  obtain ⟨w1, hww⟩ : ∃ w1, w1 = w1'' := ⟨_, rfl⟩
  subst hww
  have hcb : w.heap.size < w1.heap.size := hc1.lt
  go_wp2_with fail
  go_loopw [6, 7] (fun p i wr => ∃ (k : Nat) (ls : List (List (Int × Int))) (xs : List Value) (n2 : Nat), k ≤ m ∧ i = .int .i64 ((m - k : Nat) : Int) ∧ Hid (Got wr w1.heap.size p k ls xs) ∧ n2 ≤ 1000 + k * 300 ∧ Cur wr w.heap.size n2 ∧ w1.grownBy wr (some w.heap.size)) (fun _ i _ => (intOf i).toNat)
  case atStart => exact ⟨0, [], [], _, Nat.zero_le _, rfl, Got.nil _ _, by omega, hc1, World.grownBy.refl _ _⟩
  case round =>
    clear hc1
    obtain ⟨k, ls, xs, n2, hk, rfl, hG, hn2, hcr, hgr⟩ := hrel
    by_cases hlt : k < m
    · have hlt' : (0 : Int) < ((m - k : Nat) : Int) := by omega
      have CP := (show Hid _ from pick_any wr w.heap.size n2 3 hcr (by omega) (by decide) (by decide))
      clear hcr
      go_wp2_with fail
      refine Calls.mono CP.out ?_
      rintro e w2 ⟨x, rfl, x0, x1, hc2, hg2⟩
      clear CP
      obtain ⟨xn, rfl⟩ := Int.eq_ofNat_of_zero_le x0
      have hG2 := hG.out.grown hg2 hcb
      have hgr2 := gtrans hgr hg2
      have hpin := own_in hG2.2.1
      have CA := (show Hid _ from all_any w2)
      clear hG hgr hg2
      go_wp2_with fail
      refine Calls.mono CA.out ?_
      rintro e w3 ⟨rfl, ho3, hb3⟩
      clear CA
      have hc3 : Cur w3 w.heap.size (n2 + 1) := hc2.kept (grown_of hb3) (fun r hr => by cases hr)
      have hG3 := hG2.keep hb3
      have hc2l := hc2.lt
      have hxd : draws xn ≤ 200 ∧ most xn ≤ 13 := by
        have : xn = 0 ∨ xn = 1 ∨ xn = 2 := by omega
        rcases this with rfl | rfl | rfl <;> decide
      have CU := (show Hid _ from tree_any xn (by omega) w3 w.heap.size (n2 + 1) w2.heap.size 11 hc3 (by omega) hc2l ho3)
      have hgr3 := grown_own hgr2 (grown_of hb3) (fun r hr => by cases hr)
      have hs3 := hb3.size
      have hs13 := hgr3.size
      clear hG2 hgr2 hc2 hc3 ho3 hb3
      go_wp2_with fail
      refine Calls.mono CU.out ?_
      rintro e w4 ⟨vu, u, rfl, hownu, hu1, hu2, ⟨n4, hn4, hc4⟩, hg4⟩
      clear CU
      have hG4 := hG3.grown hg4 hcb
      have hgr4 := gtrans hgr3 hg4
      rcases hownu.2 with ⟨_, h0⟩ | ⟨gu, cu, curu, rfl, hbu, hgu, hcu, _⟩
      · omega
      have hGa := hG4.keep ((Below.refl _ _).alloc (Nat.le_refl _) (.cells #[.slice (some ⟨gu, 0, none⟩) u.length cu] 24))
      have hua := hownu.alloc (.cells #[.slice (some ⟨gu, 0, none⟩) u.length cu] 24)
      have hca : Cur (w4.alloc (.cells #[.slice (some ⟨gu, 0, none⟩) u.length cu] 24)) w.heap.size n4 := hc4.kept (World.grownBy_alloc w4 _ none) (fun r hr => by cases hr)
      have hgra := grown_own hgr4 (World.grownBy_alloc w4 (.cells #[.slice (some ⟨gu, 0, none⟩) u.length cu] 24) none) (fun r hr => by cases hr)
      have HA := (show Hid _ from And.intro hGa (And.intro hua (And.intro hca hgra)))
      have hsz4 := hgra.size
      have hs34 := hg4.size
      clear hG3 hG4 hgr3 hgr4 hownu hg4 hc4 hGa hua hca hgra hgu
      go_wp2_with (at_builtin; refine wpList_append_own_at _ rfl _ _ 25 rfl w1.heap.size 24 i0 (.slice none 0 0) 1 24 Tryd.underlying25 hi hz0 hz1 hz2 rfl (by decide) u6 _ _ rfl HA.out.1.2.1 ⟨w4.heap.size, 0, none⟩ 1 1 [.slice (some ⟨gu, 0, none⟩) u.length cu] rfl (by simp) (cell_one_new w4 _ _) (fun z hz => by rw [List.mem_singleton.1 hz]; rfl) (by unfold maxLen; omega) (by omega) hsz4 ?_; intro v5 w5 hown5 hg5 _ hat5)
      have hge := own_ge HA.out.1.2.1
      have hG5 : Hid (Got w5 w1.heap.size v5 (k + 1) (ls ++ [u]) (xs ++ [.slice (some ⟨gu, 0, none⟩) u.length cu])) := Got.push HA.out.1 (B' := w3.heap.size) (fun x hx => by have := hpin x hx; omega) (by omega) HA.out.2.1 ⟨hu1, by omega⟩ hown5 hg5 hat5
      have hc5 : Cur w5 w.heap.size n4 := HA.out.2.2.1.kept hg5 (fun r hr => by have := hge r hr; omega)
      have hgr5 := grown_own HA.out.2.2.2 hg5 hge
      clear HA hown5 hg5 hat5
      go_roundw
      case rel => exact ⟨k + 1, ls ++ [u], _, n4, by omega, by congr 1; omega, hG5, by omega, hc5, hgr5⟩
      case measure => simp [intOf]; omega
    · have hlt' : ¬ (0 : Int) < ((m - k : Nat) : Int) := by omega
      have hB : Below w.heap.size w wr := hb0.grown (gtrans hg1 hgr) hb0.size (fun r hr => by cases hr; exact Nat.le_refl _)
      have HX : Hid (Got wr w.heap.size u6 k ls xs ∧ Below w.heap.size w wr) := ⟨hG.out.base (by omega), hB⟩
      clear hG hB
      obtain ⟨pa, pc, rfl, _⟩ := HX.out.1.lists
      go_wp2
      go_ret2
      exact ⟨_, _, rfl, k, by omega, ⟨ls, xs, HX.out.1⟩, HX.out.2⟩
end Go.Proofs.YtlpefaaohcgboaaDoor
