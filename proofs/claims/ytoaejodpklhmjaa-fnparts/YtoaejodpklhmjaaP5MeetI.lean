/-
  PROVED HERE: what is common to two lists of parts, to the program, at every two lists. No other condition.
-/
import Derived.Test.YtoaejodpklhmjaaP5Meet
import Derived.Test.YtoaejodpklhmjaaP5Keeps
import Derived.Laws.StructEq
import Derived.Deep.RegionHeld3
namespace Go.Proofs.Ytoaejodpklhmjaa
open Go.ChangeShapes Go.WideShapes Go.ChangeAt Go.RowKit
set_option linter.unusedVariables false

theorem eqBP (a b c d : Int) (w : World) : (Op.equalIn 10000 67 (.agg #[.int .i64 a, .int .i64 b]) (.agg #[.int .i64 c, .int .i64 d])).run Try.prog w = .ok (a == c && b == d) w := by
  have hS : Try.prog.underlying 67 = some (.struct (Try.prog.fieldsOf 67)) := by kernel_rfl
  have hp : Try.prog.stoodInHeld 67 = false := by kernel_rfl
  rw [show (10000 : Nat) = 9999 + 1 from rfl, run_equalIn_agg w 9999 67 _ _ hS hp]
  simp only [Program.fieldsOf, Try.underlying67]
  go_simp
  by_cases h1 : a = c <;> by_cases h2 : b = d <;> simp [h1, h2]
theorem eqlBP (a b c d : Int) (w : World) : (binOp .eql 67 (.agg #[.int .i64 a, .int .i64 b]) (.agg #[.int .i64 c, .int .i64 d])).run Try.prog w = .ok (.bool (a == c && b == d)) w := by
  rw [run_eql_struct, eqBP]
  simp
theorem guardBP : Try.prog.eqGuardType Try.prog.depth 67 = false := by kernel_rfl
theorem infoBP : (Try.prog.info? 67).map (fun i => (i.zero, i.size, i.bytes)) = some (some (.agg #[.int .i64 0, .int .i64 0]), 2, 16) := by kernel_rfl

/-- Pairs of numbers in a block. -/
def BP (w : World) (g len : Nat) (l m : List Int) : Prop := g < w.heap.size ∧ ∀ i, i < len → w.cell? ⟨g, i * 2, none⟩ = some (.int .i64 (l.getD i 0)) ∧ w.cell? ⟨g, i * 2 + 1, none⟩ = some (.int .i64 (m.getD i 0))
theorem BP.keep {w w' : World} {g len : Nat} {l m : List Int} (h : BP w g len l m) (hb : Below w.heap.size w w') : BP w' g len l m :=
  ⟨Nat.lt_of_lt_of_le h.1 hb.size, fun i hi => ⟨(hb.cell (p := ⟨g, i * 2, none⟩) h.1).trans (h.2 i hi).1, (hb.cell (p := ⟨g, i * 2 + 1, none⟩) h.1).trans (h.2 i hi).2⟩⟩

set_option maxRecDepth 20000 in
set_option maxHeartbeats 1600000 in
theorem index_any (g len cap : Nat) (l m : List Int) (k : Nat) (w : World) (h : BP w g len l m) (hk : k < len) (hm : len ≤ 200) :
    Calls Try.prog 70 #[.slice (some ⟨g, 0, none⟩) len cap, .agg #[.int .i64 (l.getD k 0), .int .i64 (m.getD k 0)]] w fun e w' => e = .returned (.int .i64 (least l m k : Nat)) ∧ Below w.heap.size w w' := by
  have HL : Hid (∀ i, (Alike l m i k) → (∀ j, j < i → ¬ Alike l m j k) → i = least l m k) := fun i h1 h2 => least_eq l m k i h1 h2
  have hle := (least_ok l m k).1
  have HA := (show Hid _ from (least_ok l m k).2.1)
  have HS := (show Hid _ from h)
  generalize hX : l.getD k 0 = X
  generalize hY : m.getD k 0 = Y
  have HX := (show Hid _ from hX)
  have HY := (show Hid _ from hY)
  generalize least l m k = R at HL hle HA ⊢
  clear h hX hY
  go_enter Try.func70, Try.ntmps70
  go_wp2_with fail
  have hb0 : Below w.heap.size w (w.alloc (.cells #[.int .i64 X, .int .i64 Y] 67)) := (Below.refl _ _).alloc (Nat.le_refl _) _
  have b0 : (w.alloc (.cells #[.int .i64 X, .int .i64 Y] 67)).cell? ⟨w.heap.size, 0, none⟩ = some (.int .i64 X) := by simp [go_sem]
  have b1 : (w.alloc (.cells #[.int .i64 X, .int .i64 Y] 67)).cell? ⟨w.heap.size, 1, none⟩ = some (.int .i64 Y) := by simp [go_sem]
  have hsz : w.heap.size < (w.alloc (.cells #[.int .i64 X, .int .i64 Y] 67)).heap.size := by simp
  generalize w.alloc (.cells #[.int .i64 X, .int .i64 Y] 67) = w1 at hb0 b0 b1 hsz ⊢
  go_loopw [8] (fun x wr => ∃ (i : Nat), i ≤ len ∧ x = .int .i64 i ∧ Hid (∀ j, j < i → ¬ Alike l m j k) ∧ wr.cell? ⟨w.heap.size, 0, none⟩ = some (.int .i64 X) ∧ wr.cell? ⟨w.heap.size, 1, none⟩ = some (.int .i64 Y) ∧ Below w.heap.size w wr) (fun x _ => len - (intOf x).toNat)
  case atStart => exact ⟨0, Nat.zero_le _, rfl, fun j hj => absurd hj (Nat.not_lt_zero _), b0, b1, hb0⟩
  case round =>
    obtain ⟨i, hi, rfl, hn, c0, c1, hbr⟩ := hrel
    clear hb0 b0 b1 hsz
    by_cases hlt : i < len
    · have d0 := (hbr.cell (p := ⟨g, i * 2, none⟩) HS.out.1).trans (HS.out.2 i hlt).1
      have d1 := (hbr.cell (p := ⟨g, i * 2 + 1, none⟩) HS.out.1).trans (HS.out.2 i hlt).2
      have hil : (i : Int) < len := by omega
      have q : ∀ (W : World) (a b c d : Int), (binOp .eql 67 (.agg #[.int .i64 a, .int .i64 b]) (.agg #[.int .i64 c, .int .i64 d])).run Try.prog W = .ok (.bool (a == c && b == d)) W := fun W a b c d => eqlBP a b c d W
      have qg := guardBP
      by_cases e : Alike l m i k
      · have hR := HL.out i e hn.out
        subst hR
        have e1 : (X == l.getD i 0) = true := by rw [e.1, HX.out]; simp
        have e2 : (Y == m.getD i 0) = true := by rw [e.2, HY.out]; simp
        have e3 : (X == l.getD i 0 && Y == m.getD i 0) = true := by rw [e1, e2]; rfl
        clear e hn e1 e2 HL HA
        generalize l.getD i 0 = x at d0 e3
        generalize m.getD i 0 = y at d1 e3
        go_wp2
        go_quiet (fail)
        go_wp2
        go_ret
        exact ⟨rfl, below_drewN hbr _⟩
      · have HN : Hid (∀ j, j < i + 1 → ¬ Alike l m j k) := fun j hj => by
          by_cases e2 : j = i
          · subst e2; exact e
          · exact hn.out j (by omega)
        have e3 : (X == l.getD i 0 && Y == m.getD i 0) = false := by
          refine Bool.eq_false_iff.2 fun ht => e ?_
          rw [Bool.and_eq_true, beq_iff_eq, beq_iff_eq] at ht
          exact ⟨by rw [HX.out]; exact ht.1.symm, by rw [HY.out]; exact ht.2.symm⟩
        clear e hn
        generalize l.getD i 0 = x at d0 e3
        generalize m.getD i 0 = y at d1 e3
        go_wp2
        go_quiet (fail)
        go_wp2
        go_roundw
        case rel => exact ⟨i + 1, by omega, by go_num, HN, by simpa [go_sem] using c0, by simpa [go_sem] using c1, below_drewN hbr _⟩
        case measure => simp [intOf]; omega
    · exact absurd HA.out (hn.out R (by omega))

set_option maxRecDepth 20000 in
set_option maxHeartbeats 1600000 in
theorem firstAlike_any (g len cap : Nat) (l m : List Int) (w : World) (h : BP w g len l m) (hl : l.length = len) (hm : len ≤ 200) :
    Calls Try.prog 58 #[.slice (some ⟨g, 0, none⟩) len cap] w fun e w' => ∃ v : Value, e = .returned v ∧ w'.ownsRow w.heap.size 3 1 v len (vals (meetL l m)) ∧ Below w.heap.size w w' := by
  obtain ⟨i0, hi, hz0, hz1, hz2⟩ := info_parts infoInt
  have HI : Hid (∀ W k, BP W g len l m → k < len → Calls Try.prog 70 #[.slice (some ⟨g, 0, none⟩) len cap, .agg #[.int .i64 (l.getD k 0), .int .i64 (m.getD k 0)]] W fun e w' => e = .returned (.int .i64 (least l m k : Nat)) ∧ Below W.heap.size W w') := fun W k hW hk => index_any g len cap l m k W hW hk hm
  have HS := (show Hid _ from h)
  have hg := h.1
  have HM : Hid (∀ k, k < len → (meetL l m).getD k 0 = ((least l m k : Nat) : Int)) := fun k hk => meet_get (by omega)
  have hMl : (meetL l m).length = len := by rw [meet_len, hl]
  generalize meetL l m = M at HM hMl ⊢
  clear h
  go_enter Try.func58, Try.ntmps58
  go_wp2_with (at_make; refine wpList_make_full _ rfl _ _ 24 rfl w.heap.size 3 i0 (.int .i64 0) 1 Try.underlying24 hi hz0 hz1 _ _ _ _ len rfl rfl rfl rfl (by rw [hz2]; omega) (by unfold maxLen; omega) (Nat.le_refl _) ?_; intro w1 hown hgrow)
  have hb1 : Below w.heap.size w w1 := (Below.refl _ _).grown hgrow (Nat.le_refl _) (fun k hk => by cases hk)
  clear hgrow
  go_loopw [11] (fun i wr => ∃ (k : Nat) (xs : List Value), k ≤ len ∧ i = .int .i64 k ∧ wr.ownsRow w.heap.size 3 1 (.slice (some ⟨w.heap.size, 0, none⟩) len len) len xs ∧ Hid (∀ j, j < k → xs[j]? = some (.int .i64 (M.getD j 0))) ∧ Below w.heap.size w wr) (fun i _ => len - (intOf i).toNat)
  case atStart => exact ⟨0, _, Nat.zero_le _, rfl, hown, fun j hj => absurd hj (Nat.not_lt_zero _), hb1⟩
  case round =>
    obtain ⟨k, xs, hk, rfl, howr, hx, hbr⟩ := hrel
    clear hown hb1
    by_cases hlt : k < len
    · have d0 := (hbr.cell (p := ⟨g, k * 2, none⟩) hg).trans (HS.out.2 k hlt).1
      have d1 := (hbr.cell (p := ⟨g, k * 2 + 1, none⟩) hg).trans (HS.out.2 k hlt).2
      have HIk : Hid (∀ W, Below w.heap.size w W → Calls Try.prog 70 #[.slice (some ⟨g, 0, none⟩) len cap, .agg #[.int .i64 (l.getD k 0), .int .i64 (m.getD k 0)]] W fun e w' => e = .returned (.int .i64 (M.getD k 0)) ∧ Below W.heap.size W w') := fun W hW => by
        rw [HM.out k hlt]
        exact HI.out W k (BP.keep HS.out hW) hlt
      have hbr' := hbr.alloc hbr.size (.cells #[.int .i64 (l.getD k 0), .int .i64 (m.getD k 0)] 67)
      have howr' := howr.alloc (.cells #[.int .i64 (l.getD k 0), .int .i64 (m.getD k 0)] 67)
      generalize l.getD k 0 = x at d0 HIk hbr' howr'
      generalize m.getD k 0 = y at d1 HIk hbr' howr'
      clear howr
      go_wp2_with fail
      refine Calls.mono (HIk.out _ hbr') ?_
      rintro e w3 ⟨rfl, hb3⟩
      have hB := hbr'.trans (hb3.mono hbr'.size)
      have how3 := row_keep howr' hb3
      have hfr := how3.frozenAt k
      have hcg := how3.cellAt k (by omega)
      have hst := how3.stored k (.int .i64 (M.getD k 0))
      obtain ⟨z, hxk⟩ : ∃ z, xs[k]? = some z := ⟨_, List.getElem?_eq_getElem (by have := how3.1; omega)⟩
      rw [hxk] at hcg
      have R : Hid (∃ xs', (w3.setCell ⟨w.heap.size, k, none⟩ (.int .i64 (M.getD k 0))).ownsRow w.heap.size 3 1 (.slice (some ⟨w.heap.size, 0, none⟩) len len) len xs' ∧ (∀ j, j < k + 1 → xs'[j]? = some (.int .i64 (M.getD j 0))) ∧ Below w.heap.size w (w3.setCell ⟨w.heap.size, k, none⟩ (.int .i64 (M.getD k 0)))) := by
        refine ⟨_, hst.1, fun j hj => ?_, hB.setCell (Nat.le_refl _) _⟩
        rw [List.getElem?_set]
        by_cases e : k = j
        · subst e
          rw [if_pos rfl, if_pos (by have := how3.1; omega)]
        · rw [if_neg e]; exact hx.out j (by omega)
      clear hst how3 hx hxk hb3 hbr' howr' hbr
      generalize M.getD k 0 = r at R
      go_wp2
      go_roundw
      case rel =>
        obtain ⟨xs', r1, r2, r3⟩ := R.out
        exact ⟨k + 1, xs', by omega, by go_num, r1, r2, r3⟩
      case measure => simp [intOf]; omega
    · obtain rfl : k = len := by omega
      have e : xs = vals M := by
        have h1 := howr.1
        refine List.ext_getElem? fun j => ?_
        by_cases hj : j < k
        · rw [hx.out j hj, vals_at (by omega)]
        · rw [List.getElem?_eq_none (by omega), List.getElem?_eq_none (by rw [vals_len]; omega)]
      subst e
      clear hx
      go_wp2
      go_ret
      exact ⟨_, rfl, howr, hbr⟩

set_option maxRecDepth 20000 in
set_option maxHeartbeats 1600000 in
theorem implMeet_any (a : Option Addr) (len cap : Nat) (l : List Int) (b : Option Addr) (lb cb : Nat) (m : List Int) (w : World) (h : Sl w a len l) (h2 : Sl w b lb m) (hm : len ≤ 9223372036854775807) (hm2 : lb ≤ 9223372036854775807) :
    Calls Try.prog 24 #[.slice a len cap, .slice b lb cb] w fun e w' => ∃ v : Value, e = .returned (.tuple #[v, .bool (pairB l m)]) ∧ w'.ownsRow w.heap.size 3 1 v (meetR l m).length (vals (meetR l m)) ∧ Below w.heap.size w w' := by
  have hll := h.1
  have hlm := h2.1
  have HX := (show Hid _ from pairs_any a len cap l b lb cb m w h h2 hm hm2)
  unfold meetR
  cases e1 : pairB l m with
  | false =>
    rw [e1] at HX
    rw [if_neg (by decide)]
    clear h h2 e1
    go_enter Try.func24, Try.ntmps24
    go_wp2_with fail
    refine Calls.mono HX.out ?_
    rintro e w2 ⟨rfl, rfl⟩
    go_wp2
    go_ret2
    exact ⟨_, rfl, World.ownsRow_nil _ _ _ _, Below.refl _ _⟩
  | true =>
    rw [e1] at HX
    rw [if_pos rfl, meet_len, hll]
    obtain ⟨f1, f2, f3⟩ := (pair_iff l m).1 e1
    obtain ⟨g1, g2, g3⟩ := (partB_iff l).1 f2
    obtain rfl : len = lb := by omega
    have h200 : len ≤ 200 := by omega
    obtain ⟨i0, hi, hz0, hz1, hz2⟩ := info_parts infoBP
    have HF : Hid (∀ W g, BP W g len l m → Calls Try.prog 58 #[.slice (some ⟨g, 0, none⟩) len len] W fun e w' => ∃ v : Value, e = .returned v ∧ w'.ownsRow W.heap.size 3 1 v len (vals (meetL l m)) ∧ Below W.heap.size W w') := fun W g hW => firstAlike_any g len len l m W hW hll h200
    generalize meetL l m = M at HF ⊢
    have HS := (show Hid _ from h)
    have HS2 := (show Hid _ from h2)
    clear h h2 e1 f1 f2 f3 g1 g2 g3
    go_enter Try.func24, Try.ntmps24
    go_wp2_with fail
    refine Calls.mono HX.out ?_
    rintro e w2 ⟨rfl, rfl⟩
    go_wp2_with (at_make; refine wpList_make_full _ rfl _ _ 65 rfl w2.heap.size 67 i0 (.agg #[.int .i64 0, .int .i64 0]) 2 Try.underlying65 hi hz0 hz1 _ _ _ _ len rfl rfl rfl rfl (by rw [hz2]; omega) (by unfold maxLen; omega) (Nat.le_refl _) ?_; intro w1 hown hgrow)
    have hb1 : Below w2.heap.size w2 w1 := (Below.refl _ _).grown hgrow (Nat.le_refl _) (fun k hk => by cases hk)
    clear hgrow
    go_loopw [17] (fun i wr => ∃ (k : Nat) (xs : List Value), k ≤ len ∧ i = .int .i64 k ∧ wr.ownsRow w2.heap.size 67 2 (.slice (some ⟨w2.heap.size, 0, none⟩) len len) len xs ∧ Hid (∀ j, j < k → xs[j * 2]? = some (.int .i64 (l.getD j 0)) ∧ xs[j * 2 + 1]? = some (.int .i64 (m.getD j 0))) ∧ Below w2.heap.size w2 wr) (fun i _ => len - (intOf i).toNat)
    case atStart => exact ⟨0, _, Nat.zero_le _, rfl, hown, fun j hj => absurd hj (Nat.not_lt_zero _), hb1⟩
    case round =>
      obtain ⟨k, xs, hk, rfl, howr, hx, hbr⟩ := hrel
      clear hown hb1
      by_cases hlt : k < len
      · obtain ⟨b1, o1, rfl, hc⟩ := cells_of (Sl.keep HS.out hbr) (by omega)
        obtain ⟨b2, o2, rfl, hd⟩ := cells_of (Sl.keep HS2.out hbr) (by omega)
        have c1 := hc k hlt
        have d1 := hd k hlt
        have hkl : (k : Int) < len := by omega
        have fr0 := howr.frozenAt (k * 2)
        have fr1 := howr.frozenAt (k * 2 + 1)
        have hxl := howr.1
        have g0 := howr.cellAt (k * 2) (by omega)
        have g1 := howr.cellAt (k * 2 + 1) (by omega)
        obtain ⟨y0, hy0⟩ : ∃ y, xs[k * 2]? = some y := ⟨_, List.getElem?_eq_getElem (by omega)⟩
        obtain ⟨y1, hy1⟩ : ∃ y, xs[k * 2 + 1]? = some y := ⟨_, List.getElem?_eq_getElem (by omega)⟩
        rw [hy0] at g0
        rw [hy1] at g1
        have R : Hid (∃ xs', (((wr.setCell ⟨w2.heap.size, k * 2, none⟩ (.int .i64 (l.getD k 0))).setCell ⟨w2.heap.size, k * 2 + 1, none⟩ (.int .i64 (m.getD k 0))).drew).ownsRow w2.heap.size 67 2 (.slice (some ⟨w2.heap.size, 0, none⟩) len len) len xs' ∧ (∀ j, j < k + 1 → xs'[j * 2]? = some (.int .i64 (l.getD j 0)) ∧ xs'[j * 2 + 1]? = some (.int .i64 (m.getD j 0))) ∧ Below w2.heap.size w2 (((wr.setCell ⟨w2.heap.size, k * 2, none⟩ (.int .i64 (l.getD k 0))).setCell ⟨w2.heap.size, k * 2 + 1, none⟩ (.int .i64 (m.getD k 0))).drew)) := by
          have s1 := (howr.stored (k * 2) (.int .i64 (l.getD k 0))).1
          have s2 := (s1.stored (k * 2 + 1) (.int .i64 (m.getD k 0))).1
          refine ⟨_, row_keep s2 (Below.refl _ _).drew, fun j hj => ?_, ((hbr.setCell (Nat.le_refl _) _).setCell (Nat.le_refl _) _).drew⟩
          by_cases e : j = k
          · subst e
            constructor
            · rw [List.getElem?_set_ne (by omega), List.getElem?_set, if_pos rfl, if_pos (by omega)]
            · rw [List.getElem?_set, if_pos rfl, if_pos (by rw [List.length_set]; omega)]
          · obtain ⟨t1, t2⟩ := hx.out j (by omega)
            constructor
            · rw [List.getElem?_set_ne (by omega), List.getElem?_set_ne (by omega)]; exact t1
            · rw [List.getElem?_set_ne (by omega), List.getElem?_set_ne (by omega)]; exact t2
        clear hc hd hy0 hy1 howr hx hbr
        generalize l.getD k 0 = x at c1 R
        generalize m.getD k 0 = y at d1 R
        go_wp2_with fail
        go_region
        go_wp2
        go_roundw
        case rel =>
          obtain ⟨xs', r1, r2, r3⟩ := R.out
          exact ⟨k + 1, xs', by omega, by go_num, r1, r2, r3⟩
        case measure => simp [intOf]; omega
      · obtain rfl : k = len := by omega
        have hg := owns_lt howr
        have HB : Hid (BP wr w2.heap.size k l m) := ⟨hg, fun i hi => by
          have h1 := howr.1
          exact ⟨(howr.cellAt (i * 2) (by omega)).trans (hx.out i hi).1, (howr.cellAt (i * 2 + 1) (by omega)).trans (hx.out i hi).2⟩⟩
        clear hx howr
        go_wp2_with fail
        refine Calls.mono (HF.out _ _ HB.out) ?_
        rintro e w3 ⟨v, rfl, hown3, hb3⟩
        have hB := hbr.trans (hb3.mono hbr.size)
        have hO := own_base hown3 hbr.size
        clear hown3 hb3 hbr
        go_wp2
        go_ret2
        exact ⟨_, rfl, hO, hB⟩
end Go.Proofs.Ytoaejodpklhmjaa
