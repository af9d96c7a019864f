/-
  PROVED HERE: what the model's and the program's tests of a class and of a bind answer, at every two lists of parts and classes. No other condition. what the model's and the program's GoodPattern answer, at every list of nodes, in a world whose table of arities is laid. No other condition. what the program's function over a bind answers, at every node, where the function that it asks for all else is a shelf's put. No other condition. plain facts on what a pattern makes with a bind. No condition. what the program's function that puts a bind ahead of another answers, at every bind and function. No other condition.
-/
import Derived.Test.YtajcddnclahhhaaDoorE6Plain
import Derived.Test.YtajcddnclahhhaaDoorP5Root
import Derived.Test.YtajcddnclahhhaaDoorP5Union
import Derived.Test.YtajcddnclahhhaaDoorGood
import Derived.Test.YtajcddnclahhhaaDoorIGoods
import Derived.Test.YtajcddnclahhhaaDoorA6AddI
import Derived.Test.YtajcddnclahhhaaDoorShelfAll
import Derived.Test.YtajcddnclahhhaaDoorAddS
namespace Go.Proofs.YtajcddnclahhhaaDoor
open Go.ChangeShapes Go.WideShapes Go.ChangeAt Go.RowKit
set_option linter.unusedVariables false

/-- A number is a class of the parts. -/
def clB (l : List Int) (k : Int) : Bool := hasB l k && (l.getD k.toNat 0 == k)
/-- Each of a bind's four is none or a class. -/
def bindB (l bs : List Int) : Bool := decide (bs.length = 4) && bs.all fun c => c == -1 || clB l c
theorem all_drop {f : Int → Bool} {bs : List Int} {k : Nat} (h : k < bs.length) : (bs.drop k).all f = (f (bs.getD k 0) && (bs.drop (k + 1)).all f) := by
  rw [List.drop_eq_getElem_cons h, List.all_cons]
  congr 2
  rw [List.getD_eq_getElem?_getD, List.getElem?_eq_getElem h]; rfl
theorem specClass_any (a b : Option Addr) (lb cap cb : Nat) (l : List Int) (k : Int) (w : World) (hl : Sl w b lb l) (hm : lb ≤ 1000000) :
    Calls Tryd.prog 32 #[.agg #[.slice a lb cap, .slice b lb cb], .int .i64 k] w fun e w' => e = .returned (.bool (clB l k)) ∧ Below w.heap.size w w' := by
  have hl1 := hl.1
  obtain ⟨W1, hW1⟩ : ∃ W1, w.alloc (.cells #[.slice a lb cap, .slice b lb cb] 34) = W1 := ⟨_, rfl⟩
  have hb1 : Below w.heap.size w W1 := by rw [← hW1]; exact (Below.refl _ _).alloc (Nat.le_refl _) _
  have n0 : W1.cell? ⟨w.heap.size, 0, none⟩ = some (.slice a lb cap) := by rw [← hW1]; simp [go_sem]
  have n1 : W1.cell? ⟨w.heap.size, 1, none⟩ = some (.slice b lb cb) := by rw [← hW1]; simp [go_sem]
  have HB := (show Hid _ from hb1)
  have HH : Hid (∀ W, Calls Tryd.prog 63 #[.int .i64 k, .int .i64 0, .int .i64 ((lb : Int) - 1)] W fun e w' => e = .returned (.bool (hasB l k)) ∧ w' = W) := fun W => specHas_any lb l hl1 k W
  unfold clB
  cases hh : hasB l k with
  | false =>
    rw [hh] at HH
    rw [Bool.false_and]
    clear hb1 hl hh
    go_enter Tryd.func32, Tryd.ntmps32
    go_wp2_with fail
    (try rw [hW1])
    refine Calls.mono (HH.out _) ?_
    rintro e w2 ⟨rfl, rfl⟩
    clear HH hW1
    go_wp2
    go_ret
    exact ⟨rfl, HB.out⟩
  | true =>
    rw [hh] at HH
    rw [Bool.true_and]
    obtain ⟨n, rfl, hn⟩ := has_iff hh
    obtain ⟨bb, bo, rfl, hbl, hc⟩ : ∃ bb bo, b = some ⟨bb, bo, none⟩ ∧ bb < W1.heap.size ∧ ∀ i, i < lb → W1.cell? ⟨bb, bo + i, none⟩ = some (.int .i64 (l.getD i 0)) := by
      rcases (hl.keep hb1).2 with h0 | h0
      · omega
      · exact h0
    have c0 := hc n (by omega)
    have i1 : (n : Int) < lb := by omega
    have i0 : (0 : Int) ≤ n := by omega
    rw [Int.toNat_natCast]
    generalize l.getD n 0 = x at c0 ⊢
    clear hb1 hl hh hc hn
    by_cases hx : x = n
    · have e1 : (x == (n : Int)) = true := by simpa using hx
      rw [e1]
      go_enter Tryd.func32, Tryd.ntmps32
      go_wp2_with fail
      (try rw [hW1])
      refine Calls.mono (HH.out _) ?_
      rintro e w2 ⟨rfl, rfl⟩
      clear HH hW1
      go_wp2
      go_ret
      exact ⟨rfl, HB.out⟩
    · have e1 : (x == (n : Int)) = false := by simpa using hx
      rw [e1]
      go_enter Tryd.func32, Tryd.ntmps32
      go_wp2_with fail
      (try rw [hW1])
      refine Calls.mono (HH.out _) ?_
      rintro e w2 ⟨rfl, rfl⟩
      clear HH hW1
      go_wp2
      go_ret
      exact ⟨rfl, HB.out⟩
theorem implClass_any (a b : Option Addr) (lb cap cb : Nat) (l : List Int) (k : Int) (w : World) (hl : Sl w b lb l) (hm : lb ≤ 1000000) :
    Calls Tryd.prog 38 #[.agg #[.slice a lb cap, .slice b lb cb], .int .i64 k] w fun e w' => e = .returned (.bool (clB l k)) ∧ Below w.heap.size w w' := by
  have hl1 := hl.1
  obtain ⟨W1, hW1⟩ : ∃ W1, w.alloc (.cells #[.slice a lb cap, .slice b lb cb] 34) = W1 := ⟨_, rfl⟩
  have hb1 : Below w.heap.size w W1 := by rw [← hW1]; exact (Below.refl _ _).alloc (Nat.le_refl _) _
  have n0 : W1.cell? ⟨w.heap.size, 0, none⟩ = some (.slice a lb cap) := by rw [← hW1]; simp [go_sem]
  have n1 : W1.cell? ⟨w.heap.size, 1, none⟩ = some (.slice b lb cb) := by rw [← hW1]; simp [go_sem]
  have HB := (show Hid _ from hb1)
  have HH : Hid (∀ W, Calls Tryd.prog 72 #[.slice b lb cb, .int .i64 k] W fun e w' => e = .returned (.bool (hasB l k)) ∧ w' = W) := fun W => implHas_any b lb cb l hl1 k W
  unfold clB
  cases hh : hasB l k with
  | false =>
    rw [hh] at HH
    rw [Bool.false_and]
    clear hb1 hl hh
    go_enter Tryd.func38, Tryd.ntmps38
    go_wp2_with fail
    (try rw [hW1])
    refine Calls.mono (HH.out _) ?_
    rintro e w2 ⟨rfl, rfl⟩
    clear HH hW1
    go_wp2
    go_ret
    exact ⟨rfl, HB.out⟩
  | true =>
    rw [hh] at HH
    rw [Bool.true_and]
    obtain ⟨n, rfl, hn⟩ := has_iff hh
    obtain ⟨bb, bo, rfl, hbl, hc⟩ : ∃ bb bo, b = some ⟨bb, bo, none⟩ ∧ bb < W1.heap.size ∧ ∀ i, i < lb → W1.cell? ⟨bb, bo + i, none⟩ = some (.int .i64 (l.getD i 0)) := by
      rcases (hl.keep hb1).2 with h0 | h0
      · omega
      · exact h0
    have c0 := hc n (by omega)
    have i1 : (n : Int) < lb := by omega
    have i0 : (0 : Int) ≤ n := by omega
    rw [Int.toNat_natCast]
    generalize l.getD n 0 = x at c0 ⊢
    clear hb1 hl hh hc hn
    by_cases hx : x = n
    · have e1 : (x == (n : Int)) = true := by simpa using hx
      rw [e1]
      go_enter Tryd.func38, Tryd.ntmps38
      go_wp2_with fail
      (try rw [hW1])
      refine Calls.mono (HH.out _) ?_
      rintro e w2 ⟨rfl, rfl⟩
      clear HH hW1
      go_wp2
      go_ret
      exact ⟨rfl, HB.out⟩
    · have e1 : (x == (n : Int)) = false := by simpa using hx
      rw [e1]
      go_enter Tryd.func38, Tryd.ntmps38
      go_wp2_with fail
      (try rw [hW1])
      refine Calls.mono (HH.out _) ?_
      rintro e w2 ⟨rfl, rfl⟩
      clear HH hW1
      go_wp2
      go_ret
      exact ⟨rfl, HB.out⟩
set_option maxHeartbeats 800000 in
theorem specBind_any (a b v : Option Addr) (lb cap cb lv cv : Nat) (l bs : List Int) (w : World) (hl : Sl w b lb l) (hv : Sl w v lv bs) (hm : lb ≤ 1000000) (hm2 : lv ≤ 9223372036854775807) :
    Calls Tryd.prog 51 #[.agg #[.slice a lb cap, .slice b lb cb], .slice v lv cv] w fun e w' => e = .returned (.bool (bindB l bs)) ∧ Below w.heap.size w w' := by
  have hv1 := hv.1
  obtain ⟨W1, hW1⟩ : ∃ W1, w.alloc (.cells #[.slice a lb cap, .slice b lb cb] 34) = W1 := ⟨_, rfl⟩
  have hb1 : Below w.heap.size w W1 := by rw [← hW1]; exact (Below.refl _ _).alloc (Nat.le_refl _) _
  have n0 : W1.cell? ⟨w.heap.size, 0, none⟩ = some (.slice a lb cap) := by rw [← hW1]; simp [go_sem]
  have n1 : W1.cell? ⟨w.heap.size, 1, none⟩ = some (.slice b lb cb) := by rw [← hW1]; simp [go_sem]
  have hs1 : w.heap.size < W1.heap.size := by rw [← hW1]; simp
  have HB : Hid (∀ W, Below W1.heap.size W1 W → Below w.heap.size w W ∧ W.cell? ⟨w.heap.size, 0, none⟩ = some (.slice a lb cap) ∧ W.cell? ⟨w.heap.size, 1, none⟩ = some (.slice b lb cb) ∧ Sl W v lv bs) := fun W hW => ⟨hb1.trans (hW.mono hb1.size), (hW.cell (p := ⟨w.heap.size, 0, none⟩) hs1).trans n0, (hW.cell (p := ⟨w.heap.size, 1, none⟩) hs1).trans n1, (hv.keep hb1).keep hW⟩
  have HCl : Hid (∀ W k, Below W1.heap.size W1 W → Calls Tryd.prog 32 #[.agg #[.slice a lb cap, .slice b lb cb], .int .i64 k] W fun e w' => e = .returned (.bool (clB l k)) ∧ Below W.heap.size W w') := fun W k hW => specClass_any a b lb cap cb l k W ((hl.keep hb1).keep hW) hm
  unfold bindB
  by_cases h4 : lv = 4
  · rw [decide_eq_true (by omega), Bool.true_and]
    have i4 : ((lv : Int) != 4) = false := by rw [h4]; decide
    have HT : Hid (bs.all (fun c => c == -1 || clB l c) = (bs.drop 0).all fun c => c == -1 || clB l c) := by rw [List.drop_zero]; rfl
    clear hl hv hb1 hs1 n0 n1 h4
    go_enter Tryd.func51, Tryd.ntmps51
    go_wp2_with fail
    (try rw [hW1])
    clear hW1
    go_loopw [12] (fun i wr => ∃ (k : Nat), k ≤ lv ∧ i = .int .i64 k ∧ Hid (bs.all (fun c => c == -1 || clB l c) = (bs.drop k).all fun c => c == -1 || clB l c) ∧ Below W1.heap.size W1 wr) (fun i _ => lv - (intOf i).toNat)
    case atStart => exact ⟨0, Nat.zero_le _, rfl, HT.out, Below.refl _ _⟩
    case round =>
      obtain ⟨k, hk, rfl, hT, hbr⟩ := hrel
      clear HT
      by_cases hlt : k < lv
      · obtain ⟨hbw, q0, q1, hvr⟩ := HB.out wr hbr
        obtain ⟨bb, bo, rfl, hbl, hc⟩ : ∃ bb bo, v = some ⟨bb, bo, none⟩ ∧ bb < wr.heap.size ∧ ∀ i, i < lv → wr.cell? ⟨bb, bo + i, none⟩ = some (.int .i64 (bs.getD i 0)) := by
          rcases hvr.2 with h0 | h0
          · omega
          · exact h0
        have c0 := hc k hlt
        have hd := all_drop (f := fun c => c == -1 || clB l c) (bs := bs) (k := k) (by omega)
        have hkl : (k : Int) < lv := by omega
        obtain ⟨x, hx⟩ : ∃ x, bs.getD k 0 = x := ⟨_, rfl⟩
        rw [hx] at c0 hd
        have hT2 := hT.out
        rw [hd] at hT2
        clear hx hvr hc hd hbw
        by_cases hm1 : x = -1
        · subst hm1
          have HT2 : Hid (bs.all (fun c => c == -1 || clB l c) = (bs.drop (k + 1)).all fun c => c == -1 || clB l c) := by
            show _ = _
            rw [hT2]; rfl
          clear hT hT2
          go_wp2
          go_roundw
          case rel => exact ⟨k + 1, by omega, by go_num, HT2, hbr⟩
          case measure => simp [intOf]; omega
        · have e1 : (x == -1) = false := by simpa using hm1
          have e2 : (x != -1) = true := by simpa using hm1
          have HC := (show Hid _ from HCl.out wr x hbr)
          cases hcl : clB l x with
          | true =>
            rw [hcl] at HC hT2
            have HT2 : Hid (bs.all (fun c => c == -1 || clB l c) = (bs.drop (k + 1)).all fun c => c == -1 || clB l c) := by
              show _ = _
              rw [hT2, Bool.or_true, Bool.true_and]
            have HBr := (show Hid _ from hbr)
            clear hT hT2 hbr hcl
            go_wp2_with fail
            refine Calls.mono HC.out ?_
            rintro e w2 ⟨rfl, hb2⟩
            have HB2 := (show Hid _ from HBr.out.trans (hb2.mono HBr.out.size))
            clear HC hb2 HBr
            go_wp2
            go_roundw
            case rel => exact ⟨k + 1, by omega, by go_num, HT2, HB2.out⟩
            case measure => simp [intOf]; omega
          | false =>
            rw [hcl, e1] at hT2
            rw [hcl] at HC
            have HT2 : Hid (bs.all (fun c => c == -1 || clB l c) = false) := hT2
            have HBr := (show Hid _ from hbr)
            clear hT hT2 hbr hcl
            go_wp2_with fail
            refine Calls.mono HC.out ?_
            rintro e w2 ⟨rfl, hb2⟩
            have HB2 := (show Hid _ from (HB.out w2 (HBr.out.trans (hb2.mono HBr.out.size))).1)
            clear HC hb2 HBr
            go_wp2
            go_ret
            exact ⟨by rw [HT2.out] <;> rfl, HB2.out⟩
      · obtain rfl : k = lv := by omega
        have HT2 : Hid (bs.all (fun c => c == -1 || clB l c) = true) := by
          exact hT.out.trans (by rw [List.drop_of_length_le (by omega)]; rfl)
        have HB2 := (show Hid _ from (HB.out wr hbr).1)
        clear hT hbr
        go_wp2
        go_ret
        exact ⟨by rw [HT2.out] <;> rfl, HB2.out⟩
  · rw [decide_eq_false (by omega), Bool.false_and]
    have i4 : ((lv : Int) != 4) = true := by rw [bne_iff_ne]; omega
    have HBw : Hid (Below w.heap.size w W1) := hb1
    clear hl hv hb1 hs1 n0 n1 HB HCl
    go_enter Tryd.func51, Tryd.ntmps51
    go_wp2
    go_ret
    exact ⟨rfl, by first | exact HBw.out | (rw [hW1]; exact HBw.out)⟩
set_option maxHeartbeats 800000 in
theorem implBind_any (a b v : Option Addr) (lb cap cb lv cv : Nat) (l bs : List Int) (w : World) (hl : Sl w b lb l) (hv : Sl w v lv bs) (hm : lb ≤ 1000000) (hm2 : lv ≤ 9223372036854775807) :
    Calls Tryd.prog 53 #[.agg #[.slice a lb cap, .slice b lb cb], .slice v lv cv] w fun e w' => e = .returned (.bool (bindB l bs)) ∧ Below w.heap.size w w' := by
  have hv1 := hv.1
  obtain ⟨W1, hW1⟩ : ∃ W1, w.alloc (.cells #[.slice a lb cap, .slice b lb cb] 34) = W1 := ⟨_, rfl⟩
  have hb1 : Below w.heap.size w W1 := by rw [← hW1]; exact (Below.refl _ _).alloc (Nat.le_refl _) _
  have n0 : W1.cell? ⟨w.heap.size, 0, none⟩ = some (.slice a lb cap) := by rw [← hW1]; simp [go_sem]
  have n1 : W1.cell? ⟨w.heap.size, 1, none⟩ = some (.slice b lb cb) := by rw [← hW1]; simp [go_sem]
  have hs1 : w.heap.size < W1.heap.size := by rw [← hW1]; simp
  have HB : Hid (∀ W, Below W1.heap.size W1 W → Below w.heap.size w W ∧ W.cell? ⟨w.heap.size, 0, none⟩ = some (.slice a lb cap) ∧ W.cell? ⟨w.heap.size, 1, none⟩ = some (.slice b lb cb) ∧ Sl W v lv bs) := fun W hW => ⟨hb1.trans (hW.mono hb1.size), (hW.cell (p := ⟨w.heap.size, 0, none⟩) hs1).trans n0, (hW.cell (p := ⟨w.heap.size, 1, none⟩) hs1).trans n1, (hv.keep hb1).keep hW⟩
  have HCl : Hid (∀ W k, Below W1.heap.size W1 W → Calls Tryd.prog 38 #[.agg #[.slice a lb cap, .slice b lb cb], .int .i64 k] W fun e w' => e = .returned (.bool (clB l k)) ∧ Below W.heap.size W w') := fun W k hW => implClass_any a b lb cap cb l k W ((hl.keep hb1).keep hW) hm
  unfold bindB
  by_cases h4 : lv = 4
  · rw [decide_eq_true (by omega), Bool.true_and]
    have i4 : ((lv : Int) != 4) = false := by rw [h4]; decide
    have HT : Hid (bs.all (fun c => c == -1 || clB l c) = (bs.drop 0).all fun c => c == -1 || clB l c) := by rw [List.drop_zero]; rfl
    clear hl hv hb1 hs1 n0 n1 h4
    go_enter Tryd.func53, Tryd.ntmps53
    go_wp2_with fail
    (try rw [hW1])
    clear hW1
    go_loopw [12] (fun i wr => ∃ (k : Nat), k ≤ lv ∧ i = .int .i64 k ∧ Hid (bs.all (fun c => c == -1 || clB l c) = (bs.drop k).all fun c => c == -1 || clB l c) ∧ Below W1.heap.size W1 wr) (fun i _ => lv - (intOf i).toNat)
    case atStart => exact ⟨0, Nat.zero_le _, rfl, HT.out, Below.refl _ _⟩
    case round =>
      obtain ⟨k, hk, rfl, hT, hbr⟩ := hrel
      clear HT
      by_cases hlt : k < lv
      · obtain ⟨hbw, q0, q1, hvr⟩ := HB.out wr hbr
        obtain ⟨bb, bo, rfl, hbl, hc⟩ : ∃ bb bo, v = some ⟨bb, bo, none⟩ ∧ bb < wr.heap.size ∧ ∀ i, i < lv → wr.cell? ⟨bb, bo + i, none⟩ = some (.int .i64 (bs.getD i 0)) := by
          rcases hvr.2 with h0 | h0
          · omega
          · exact h0
        have c0 := hc k hlt
        have hd := all_drop (f := fun c => c == -1 || clB l c) (bs := bs) (k := k) (by omega)
        have hkl : (k : Int) < lv := by omega
        obtain ⟨x, hx⟩ : ∃ x, bs.getD k 0 = x := ⟨_, rfl⟩
        rw [hx] at c0 hd
        have hT2 := hT.out
        rw [hd] at hT2
        clear hx hvr hc hd hbw
        by_cases hm1 : x = -1
        · subst hm1
          have HT2 : Hid (bs.all (fun c => c == -1 || clB l c) = (bs.drop (k + 1)).all fun c => c == -1 || clB l c) := by
            show _ = _
            rw [hT2]; rfl
          clear hT hT2
          go_wp2
          go_roundw
          case rel => exact ⟨k + 1, by omega, by go_num, HT2, hbr⟩
          case measure => simp [intOf]; omega
        · have e1 : (x == -1) = false := by simpa using hm1
          have e2 : (x != -1) = true := by simpa using hm1
          have HC := (show Hid _ from HCl.out wr x hbr)
          cases hcl : clB l x with
          | true =>
            rw [hcl] at HC hT2
            have HT2 : Hid (bs.all (fun c => c == -1 || clB l c) = (bs.drop (k + 1)).all fun c => c == -1 || clB l c) := by
              show _ = _
              rw [hT2, Bool.or_true, Bool.true_and]
            have HBr := (show Hid _ from hbr)
            clear hT hT2 hbr hcl
            go_wp2_with fail
            refine Calls.mono HC.out ?_
            rintro e w2 ⟨rfl, hb2⟩
            have HB2 := (show Hid _ from HBr.out.trans (hb2.mono HBr.out.size))
            clear HC hb2 HBr
            go_wp2
            go_roundw
            case rel => exact ⟨k + 1, by omega, by go_num, HT2, HB2.out⟩
            case measure => simp [intOf]; omega
          | false =>
            rw [hcl, e1] at hT2
            rw [hcl] at HC
            have HT2 : Hid (bs.all (fun c => c == -1 || clB l c) = false) := hT2
            have HBr := (show Hid _ from hbr)
            clear hT hT2 hbr hcl
            go_wp2_with fail
            refine Calls.mono HC.out ?_
            rintro e w2 ⟨rfl, hb2⟩
            have HB2 := (show Hid _ from (HB.out w2 (HBr.out.trans (hb2.mono HBr.out.size))).1)
            clear HC hb2 HBr
            go_wp2
            go_ret
            exact ⟨by rw [HT2.out] <;> rfl, HB2.out⟩
      · obtain rfl : k = lv := by omega
        have HT2 : Hid (bs.all (fun c => c == -1 || clB l c) = true) := by
          exact hT.out.trans (by rw [List.drop_of_length_le (by omega)]; rfl)
        have HB2 := (show Hid _ from (HB.out wr hbr).1)
        clear hT hbr
        go_wp2
        go_ret
        exact ⟨by rw [HT2.out] <;> rfl, HB2.out⟩
  · rw [decide_eq_false (by omega), Bool.false_and]
    have i4 : ((lv : Int) != 4) = true := by rw [bne_iff_ne]; omega
    have HBw : Hid (Below w.heap.size w W1) := hb1
    clear hl hv hb1 hs1 n0 n1 HB HCl
    go_enter Tryd.func53, Tryd.ntmps53
    go_wp2
    go_ret
    exact ⟨rfl, by first | exact HBw.out | (rw [hW1]; exact HBw.out)⟩
end Go.Proofs.YtajcddnclahhhaaDoor
namespace Go.Proofs.YtajcddnclahhhaaDoor
open Go.ChangeShapes Go.WideShapes Go.ChangeAt Go.RowKit
set_option linter.unusedVariables false

/-- A good term of seven nodes at most. -/
def patB (l : List (Int × Int)) : Bool := goodB l && decide (l.length ≤ 7)
theorem specPat_any (a : Option Addr) (len cap : Nat) (l : List (Int × Int)) (w : World) (h : NSl w a len l) (hm : len ≤ 9223372036854775807) :
    Calls Tryd.prog 31 #[.slice a len cap] w fun e w' => e = .returned (.bool (patB l)) ∧ Below w.heap.size w w' := by
  have hll := h.1
  have HG := (show Hid _ from specGood_any a len cap l w h hm)
  unfold patB
  by_cases h7 : len ≤ 7
  · rw [decide_eq_true (show l.length ≤ 7 by omega), Bool.and_true]
    have i7 : (len : Int) ≤ 7 := by omega
    generalize goodB l = G at HG ⊢
    clear h hll
    cases G
    all_goals
      go_enter Tryd.func31, Tryd.ntmps31
      go_wp2_with fail
      refine Calls.mono HG.out ?_
      rintro e w2 ⟨rfl, hb2⟩
      go_wp2
      go_ret
      exact ⟨by first | rfl | (simp <;> omega), hb2⟩
  · rw [decide_eq_false (show ¬ l.length ≤ 7 by omega), Bool.and_false]
    have i7 : ¬ (len : Int) ≤ 7 := by omega
    generalize goodB l = G at HG
    clear h hll
    cases G
    all_goals
      go_enter Tryd.func31, Tryd.ntmps31
      go_wp2_with fail
      refine Calls.mono HG.out ?_
      rintro e w2 ⟨rfl, hb2⟩
      go_wp2
      go_ret
      exact ⟨by first | rfl | (simp <;> omega), hb2⟩
theorem implPat_any (a : Option Addr) (len cap : Nat) (l : List (Int × Int)) (w : World) (ht : Tab w) (h : NSl w a len l) (hm : len ≤ 9223372036854775807) :
    Calls Tryd.prog 37 #[.slice a len cap] w fun e w' => e = .returned (.bool (patB l)) ∧ Below w.heap.size w w' := by
  have hll := h.1
  have HG := (show Hid _ from implGood_any a len cap l w ht h hm)
  unfold patB
  by_cases h7 : len ≤ 7
  · rw [decide_eq_true (show l.length ≤ 7 by omega), Bool.and_true]
    have i7 : (len : Int) ≤ 7 := by omega
    generalize goodB l = G at HG ⊢
    clear h hll ht
    go_enter Tryd.func37, Tryd.ntmps37
    go_wp2_with fail
    refine Calls.mono HG.out ?_
    rintro e w2 ⟨rfl, hb2⟩
    go_wp2
    go_ret
    exact ⟨by first | rfl | (simp <;> omega), hb2⟩
  · rw [decide_eq_false (show ¬ l.length ≤ 7 by omega), Bool.and_false]
    have i7 : ¬ (len : Int) ≤ 7 := by omega
    clear h hll ht HG
    go_enter Tryd.func37, Tryd.ntmps37
    go_wp2
    go_ret
    exact ⟨by first | rfl | (simp <;> omega), Below.refl _ _⟩
end Go.Proofs.YtajcddnclahhhaaDoor
namespace Go.Proofs.YtajcddnclahhhaaDoor
open Go.ChangeShapes Go.WideShapes Go.ChangeAt Go.RowKit
set_option linter.unusedVariables false

/-- Variables come to what the bind has, where that is a class; all else to what it is put to. -/
def clsBp (bs : List Int) : Cls := fun g n kids => if n.1 = 2 then (if clB g.2 (bs.getD n.2.toNat 0) = true then some (g, bs.getD n.2.toNat 0) else none) else clsPu g n kids
def dflB (n : Int × Int) : Int := if n.1 = 2 then -1 else 0
theorem isCl_iff {g : GS} (hg : GoodG g) (c : Int) : clB g.2 c = true ↔ IsCl g c := by
  unfold clB hasB IsCl
  rw [hg.2.1]
  simp only [Bool.and_eq_true, decide_eq_true_eq, beq_iff_eq]
  exact ⟨fun h => ⟨h.1.1, h.1.2, h.2⟩, fun h => ⟨⟨h.1, h.2.1⟩, h.2.2⟩⟩
theorem clsBp_keeps (bs : List Int) : Keeps (clsBp bs) := ⟨fun g n kids r hg h120 hf hr => by
  unfold clsBp at hr
  by_cases h2 : n.1 = 2
  · rw [if_pos h2] at hr
    by_cases hc : clB g.2 (bs.getD n.2.toNat 0) = true
    · rw [if_pos hc] at hr
      cases hr
      exact ⟨hg, (isCl_iff hg _).1 hc, fun c h => h, h120⟩
    · rw [if_neg hc] at hr
      cases hr
  · rw [if_neg h2] at hr
    exact clsPu_keeps.good g n kids r hg h120 hf hr⟩
/-- The boxes of what is handed over to the function, and the bind's row: all of them older than N. -/
def Boxes (w : World) (N pb pc vb vo cv : Nat) (fn : Value) (bs : List Int) : Prop :=
  w.cell? ⟨pb, 0, none⟩ = some (.slice (some ⟨vb, vo, none⟩) 4 cv) ∧ w.cell? ⟨pc, 0, none⟩ = some fn ∧ (∀ i, i < 4 → w.cell? ⟨vb, vo + i, none⟩ = some (.int .i64 (bs.getD i 0))) ∧ (pb < N ∧ pc < N ∧ vb < N) ∧ N ≤ w.heap.size
theorem Boxes.map {w w' : World} {N pb pc vb vo cv : Nat} {fn : Value} {bs : List Int} (h : Boxes w N pb pc vb vo cv fn bs) (hs : w.heap.size ≤ w'.heap.size) (hk : ∀ b, b = pb ∨ b = pc ∨ b = vb → w'.heap[b]? = w.heap[b]?) : Boxes w' N pb pc vb vo cv fn bs := by
  obtain ⟨h1, h2, h3, h4, h5⟩ := h
  exact ⟨(World.cell?_of_block (a := ⟨pb, 0, none⟩) (hk pb (.inl rfl))).trans h1, (World.cell?_of_block (a := ⟨pc, 0, none⟩) (hk pc (.inr (.inl rfl)))).trans h2, fun i hi => (World.cell?_of_block (a := ⟨vb, vo + i, none⟩) (hk vb (.inr (.inr rfl)))).trans (h3 i hi), h4, by omega⟩
/-- A shelf, apart from the boxes, whose graph has the bind's classes. -/
def ShelfB (N s m pb pc vb vo cv : Nat) (fn : Value) (bs : List Int) (w : World) (S : Nat → Prop) (g : GS) : Prop :=
  ∃ S0 : Nat → Prop, Shelf w S0 s m g ∧ (∀ b, S0 b → b < w.heap.size ∧ S b ∧ b ≠ pb ∧ b ≠ pc ∧ b ≠ vb) ∧ Boxes w N pb pc vb vo cv fn bs ∧ ∀ c ∈ bs, c = -1 ∨ IsCl g c
theorem ShelfB.map {N s m pb pc vb vo cv : Nat} {fn : Value} {bs : List Int} {w w' : World} {S S' : Nat → Prop} {g : GS} (h : ShelfB N s m pb pc vb vo cv fn bs w S g) (hs : w.heap.size ≤ w'.heap.size) (hk : ∀ b, S b → b < w.heap.size → w'.heap[b]? = w.heap[b]?) (hN : ∀ b, b < N → w'.heap[b]? = w.heap[b]?) (hS : ∀ b, b < w.heap.size → S b → S' b) : ShelfB N s m pb pc vb vo cv fn bs w' S' g := by
  obtain ⟨S0, h1, h2, h3, h4⟩ := h
  refine ⟨S0, h1.map hs (fun b hb hl => hk b (h2 b hb).2.1 hl) (fun b _ h => h), fun b hb => ?_, h3.map hs (fun b hb => ?_), h4⟩
  · obtain ⟨a1, a2, a3⟩ := h2 b hb
    exact ⟨by omega, hS b a1 a2, a3⟩
  · obtain ⟨-, -, -, ⟨l1, l2, l3⟩, -⟩ := h3
    rcases hb with rfl | rfl | rfl
    · exact hN _ l1
    · exact hN _ l2
    · exact hN _ l3
end Go.Proofs.YtajcddnclahhhaaDoor
namespace Go.Proofs.YtajcddnclahhhaaDoor
open Go.ChangeShapes Go.WideShapes Go.ChangeAt Go.RowKit
set_option linter.unusedVariables false

/-- The bind has a class for each of the variables. -/
def boundB (t : List (Int × Int)) (bs : List Int) : Bool := t.all fun n => n.1 != 2 || decide (0 ≤ bs.getD n.2.toNat 0)
/-- What a pattern makes with a bind. -/
def instT (p : List EN) (l : List Int) (t : List (Int × Int)) (bs : List Int) : Option (GS × Int) := if (graphB p l && patB t && bindB l bs && boundB t bs) = true then roomA (runA (some bs) t ((p, l), [])) else none
theorem boundB_iff (t : List (Int × Int)) (bs : List Int) : boundB t bs = true ↔ ∀ n ∈ t, n.1 = 2 → 0 ≤ bs.getD n.2.toNat 0 := by
  unfold boundB
  rw [List.all_eq_true]
  constructor
  · intro h n hn h2
    have := h n hn
    simp [h2] at this
    simpa using this
  · intro h n hn
    by_cases h2 : n.1 = 2
    · have := h n hn h2
      simp [h2]
      simpa using this
    · have : (n.1 != 2) = true := by simpa using h2
      rw [this, Bool.true_or]
theorem bindB_len {l bs : List Int} (h : bindB l bs = true) : bs.length = 4 := by
  unfold bindB at h
  rw [Bool.and_eq_true] at h
  exact of_decide_eq_true h.1
theorem bindB_each {l bs : List Int} (h : bindB l bs = true) : ∀ c ∈ bs, c = -1 ∨ clB l c = true := by
  unfold bindB at h
  rw [Bool.and_eq_true, List.all_eq_true] at h
  intro c hc
  have := h.2 c hc
  rw [Bool.or_eq_true, beq_iff_eq] at this
  exact this
theorem good_var {t : List (Int × Int)} (h : goodB t = true) : ∀ n ∈ t, n.1 = 2 → 0 ≤ n.2 ∧ n.2 < 4 := by
  intro n hn h2
  obtain ⟨hp, g1, g2⟩ := good_pile h
  obtain ⟨k, hk, rfl⟩ := List.getElem_of_mem hn
  obtain ⟨s1, s2⟩ := cnt_step hp k hk
  obtain ⟨a1, a2, a3, _⟩ := fits_iff _ _ _ _ s1
  have e : t.getD k (0, 0) = t[k] := by rw [List.getD_eq_getElem?_getD, List.getElem?_eq_getElem hk]; rfl
  rw [e] at a3
  exact a3 h2
theorem bind_cl {p : List EN} {l bs : List Int} {t : List (Int × Int)} (hg : GoodG (p, l)) (hb : bindB l bs = true) (ht : goodB t = true) (hbd : boundB t bs = true) : BOk (some bs) (p, l) t := by
  intro bs' e n hn h2
  cases e
  have h4 := good_var ht n hn h2
  have h0 := (boundB_iff t bs).1 hbd n hn h2
  have hl := bindB_len hb
  have hmem : bs.getD n.2.toNat 0 ∈ bs := by
    rw [List.getD_eq_getElem?_getD, List.getElem?_eq_getElem (by omega)]
    exact List.getElem_mem _
  rcases bindB_each hb _ hmem with h | h
  · omega
  · exact (isCl_iff hg _).1 h
/-- A class of parts stays one. -/
theorem clB_add {l : List Int} {c x : Int} (h : clB l c = true) : clB (l ++ [x]) c = true := by
  unfold clB hasB at h ⊢
  simp only [Bool.and_eq_true, decide_eq_true_eq, beq_iff_eq] at h ⊢
  refine ⟨⟨h.1.1, by rw [List.length_append]; simp; omega⟩, ?_⟩
  rw [getD_old _ _ _ (by omega)]
  exact h.2
theorem runB_ge (bs : List Int) : ∀ (t : List (Int × Int)) (s : GS × List Int), s.1.1.length ≤ (runA (some bs) t s).1.1.length
  | [], s => Nat.le_refl _
  | n :: t, s => by
    refine Nat.le_trans ?_ (runB_ge bs t (stepA (some bs) s n))
    show s.1.1.length ≤ (classA (some bs) s.1 n (s.2.drop (s.2.length - (ar n.1).toNat))).1.1.length
    unfold classA
    simp only
    split
    · exact Nat.le_refl _
    · exact putL_ge _ _
theorem inst_run (bs : List Int) : ∀ (t : List (Int × Int)) (g : GS) (Q : List Int), g.1.length ≤ 120 → (∀ n ∈ t, n.1 = 2 → clB g.2 (bs.getD n.2.toNat 0) = true) → runO (clsBp bs) t (g, Q) = if (runA (some bs) t (g, Q)).1.1.length ≤ 120 then some (runA (some bs) t (g, Q)) else none
  | [], g, Q, h, _ => by
    show some (g, Q) = if g.1.length ≤ 120 then some (g, Q) else none
    rw [if_pos h]
  | n :: t, g, Q, h, hv => by
    have hge := runB_ge bs t (stepA (some bs) (g, Q) n)
    show (stepO (clsBp bs) (g, Q) n).bind (runO (clsBp bs) t) = if (runA (some bs) t (stepA (some bs) (g, Q) n)).1.1.length ≤ 120 then some (runA (some bs) t (stepA (some bs) (g, Q) n)) else none
    by_cases h2 : n.1 = 2
    · have hc : clsBp bs g n (Q.drop (Q.length - (ar n.1).toNat)) = some (g, bs.getD n.2.toNat 0) := by
        unfold clsBp
        rw [if_pos h2, if_pos (hv n List.mem_cons_self h2)]
      have e2 : stepA (some bs) (g, Q) n = (g, Q.take (Q.length - (ar n.1).toNat) ++ [bs.getD n.2.toNat 0]) := by
        unfold stepA classA
        simp only [h2, if_true]
      rw [stepO_some (cls := clsBp bs) hc, e2]
      exact inst_run bs t g _ h (fun m hm => hv m (List.mem_cons_of_mem _ hm))
    · have hcl : clsBp bs g n (Q.drop (Q.length - (ar n.1).toNat)) = clsP g (n.1, n.2, Q.drop (Q.length - (ar n.1).toNat)) := by
        unfold clsBp clsPu
        rw [if_neg h2]
      have e2 : stepA (some bs) (g, Q) n = ((putL g (n.1, n.2, Q.drop (Q.length - (ar n.1).toNat))).1, Q.take (Q.length - (ar n.1).toNat) ++ [(putL g (n.1, n.2, Q.drop (Q.length - (ar n.1).toNat))).2]) := by
        unfold stepA classA
        simp only [h2, if_false]
      cases hc : clsP g (n.1, n.2, Q.drop (Q.length - (ar n.1).toNat)) with
      | some r =>
        rw [hc] at hcl
        rw [stepO_some (cls := clsBp bs) hcl]
        have hr := (clsP_some hc).1
        rw [e2, ← hr]
        refine inst_run bs t r.1 _ (clsP_len hc h) (fun m hm h2' => ?_)
        have hm' := hv m (List.mem_cons_of_mem _ hm) h2'
        rw [hr]
        unfold putL
        split
        · exact hm'
        · exact clB_add hm'
      | none =>
        rw [hc] at hcl
        rw [stepO_none (cls := clsBp bs) hcl]
        have h0 : findL g.1 g.2 (n.1, n.2, Q.drop (Q.length - (ar n.1).toNat)) = none ∧ g.1.length = 120 := by
          unfold clsP at hc
          by_cases h0 : findL g.1 g.2 (n.1, n.2, Q.drop (Q.length - (ar n.1).toNat)) = none ∧ g.1.length = 120
          · exact h0
          · rw [if_neg h0] at hc; cases hc
        have hlen : (stepA (some bs) (g, Q) n).1.1.length = g.1.length + 1 := by rw [e2, putL_none h0.1]; simp
        rw [if_neg (by omega)]; rfl
theorem inst_none (bs : List Int) : ∀ (t : List (Int × Int)) (s : GS × List Int), (∃ n ∈ t, n.1 = 2 ∧ bs.getD n.2.toNat 0 = -1) → runO (clsBp bs) t s = none
  | [], s, h => by obtain ⟨n, hn, _⟩ := h; cases hn
  | n :: t, (g, Q), h => by
    show (stepO (clsBp bs) (g, Q) n).bind (runO (clsBp bs) t) = none
    by_cases hn : n.1 = 2 ∧ bs.getD n.2.toNat 0 = -1
    · have hc : clsBp bs g n (Q.drop (Q.length - (ar n.1).toNat)) = none := by
        unfold clsBp
        have e1 : clB g.2 (-1) = false := (by unfold clB hasB; rfl)
        rw [if_pos hn.1, hn.2, e1, if_neg (by decide)]
      rw [stepO_none (cls := clsBp bs) hc]; rfl
    · obtain ⟨m, hm, h2⟩ := h
      have hmt : m ∈ t := by
        rcases List.mem_cons.1 hm with e | e
        · rw [e] at h2; exact absurd h2 hn
        · exact e
      cases hs : stepO (clsBp bs) (g, Q) n with
      | none => rfl
      | some r => exact inst_none bs t r ⟨m, hmt, h2⟩
theorem instT_run {p : List EN} {l bs : List Int} {t : List (Int × Int)} (hg : graphB p l = true) (ht : patB t = true) (hb : bindB l bs = true) : instT p l t bs = (runO (clsBp bs) t ((p, l), [])).map (fun r => (r.1, r.2.getD 0 0)) := by
  obtain ⟨h120, hgood⟩ := (graphB_good p l).1 hg
  have hgt : goodB t = true := by unfold patB at ht; simp only [Bool.and_eq_true] at ht; exact ht.1
  unfold instT
  rw [hg, ht, hb]
  simp only [Bool.true_and]
  by_cases hbd : boundB t bs = true
  · rw [if_pos hbd]
    have hB := bind_cl hgood hb hgt hbd
    rw [inst_run bs t (p, l) [] h120 (fun n hn h2 => (isCl_iff hgood _).2 (hB bs rfl n hn h2))]
    unfold roomA
    split <;> rfl
  · rw [if_neg hbd]
    have hno : ∃ n ∈ t, n.1 = 2 ∧ bs.getD n.2.toNat 0 = -1 := by
      apply Classical.byContradiction
      intro hno
      refine hbd ((boundB_iff t bs).2 fun n hn h2 => ?_)
      have h4 := good_var hgt n hn h2
      have hl := bindB_len hb
      have hmem : bs.getD n.2.toNat 0 ∈ bs := by
        rw [List.getD_eq_getElem?_getD, List.getElem?_eq_getElem (by omega)]
        exact List.getElem_mem _
      rcases bindB_each hb _ hmem with h | h
      · exact absurd ⟨n, hn, h2, h⟩ hno
      · exact ((isCl_iff hgood _).1 h).1
    rw [inst_none bs t _ hno]; rfl
theorem instT_good {p : List EN} {l bs : List Int} {t : List (Int × Int)} {r : GS × Int} (h : instT p l t bs = some r) : GoodG r.1 ∧ r.1.1.length ≤ 120 := by
  unfold instT at h
  by_cases hc : (graphB p l && patB t && bindB l bs && boundB t bs) = true
  · rw [if_pos hc] at h
    simp only [Bool.and_eq_true] at hc
    obtain ⟨⟨⟨c1, c2⟩, c3⟩, c4⟩ := hc
    have hgt : goodB t = true := by unfold patB at c2; simp only [Bool.and_eq_true] at c2; exact c2.1
    obtain ⟨hp, ht1, ht40⟩ := good_pile hgt
    have hgood := ((graphB_good p l).1 c1).2
    have hr := runA_good (b := some bs) t (p, l) [] 1 hp hgood (fun c hc => by cases hc) (bind_cl hgood c3 hgt c4)
    unfold roomA at h
    by_cases h0 : (runA (some bs) t ((p, l), [])).1.1.length ≤ 120
    · rw [if_pos h0] at h
      cases h
      exact ⟨hr.1, h0⟩
    · rw [if_neg h0] at h; cases h
  · rw [if_neg hc] at h; cases h
end Go.Proofs.YtajcddnclahhhaaDoor
namespace Go.Proofs.YtajcddnclahhhaaDoor
open Go.ChangeShapes Go.WideShapes Go.ChangeAt Go.RowKit
set_option linter.unusedVariables false

set_option maxHeartbeats 1600000 in
set_option maxRecDepth 20000 in
theorem withBind_any (v : Option Addr) (lv cv : Nat) (fn : Fn) (c1 c2 : Array Value) (w : World) :
    Calls Tryd.prog 55 #[.slice v lv cv, .func fn c1 c2] w fun e w' => e = .returned (.func (.func 82) #[] #[.pointer (some ⟨w.heap.size, 0, none⟩), .pointer (some ⟨w.heap.size + 1, 0, none⟩)]) ∧ Below w.heap.size w w' ∧ w'.heap.size = w.heap.size + 2 ∧ w'.cell? ⟨w.heap.size, 0, none⟩ = some (.slice v lv cv) ∧ w'.cell? ⟨w.heap.size + 1, 0, none⟩ = some (.func fn c1 c2) := by
  have hmf : ∀ (fn : Fn) (first cap : Array Value) (w : World), (Instr.makeFunc fn first cap).run Tryd.prog w = .ok (.func fn first cap) w := fun _ _ _ _ => rfl
  have HF : Hid (∀ t1 t2, Below w.heap.size w ((w.alloc (.cells #[.slice v lv cv] t1)).alloc (.cells #[.func fn c1 c2] t2)) ∧ ((w.alloc (.cells #[.slice v lv cv] t1)).alloc (.cells #[.func fn c1 c2] t2)).heap.size = w.heap.size + 2 ∧ ((w.alloc (.cells #[.slice v lv cv] t1)).alloc (.cells #[.func fn c1 c2] t2)).cell? ⟨w.heap.size, 0, none⟩ = some (.slice v lv cv) ∧ ((w.alloc (.cells #[.slice v lv cv] t1)).alloc (.cells #[.func fn c1 c2] t2)).cell? ⟨w.heap.size + 1, 0, none⟩ = some (.func fn c1 c2)) := fun t1 t2 => ⟨((Below.refl _ _).alloc (Nat.le_refl _) _).alloc (by simp) _, by simp, by simp [go_sem], by simp [go_sem]⟩
  go_enter Tryd.func55, Tryd.ntmps55
  go_wp2
  refine bodyPost_ret (v := .func (.func 82) #[] #[.pointer (some ⟨w.heap.size, 0, none⟩), .pointer (some ⟨w.heap.size + 1, 0, none⟩)]) ?_ ?_ ?_
  · simp [results, Tryd.results55, go_sem, *]
  · rfl
  · exact ⟨rfl, HF.out _ _⟩
end Go.Proofs.YtajcddnclahhhaaDoor
