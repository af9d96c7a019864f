/-
  PROVED HERE: what joining the parts of two numbers answers, to the model and to the program, at every list and every two numbers. No other condition.
-/
import Derived.Test.YtoaejodpklhmjaaP5Flat
namespace Go.Proofs.Ytoaejodpklhmjaa
open Go.ChangeShapes Go.WideShapes Go.ChangeAt Go.RowKit
set_option linter.unusedVariables false

/-- JoinParts' answer. -/
def joinOk (l : List Int) (a b : Int) : Bool := partB l && hasB l a && hasB l b
def joinR (l : List Int) (a b : Int) : List Int := if joinOk l a b = true then joinL l a.toNat b.toNat else []
theorem join_cases (l : List Int) (a b : Int) : (joinOk l a b = true ∧ partB l = true ∧ hasB l a = true ∧ hasB l b = true) ∨ (joinOk l a b = false ∧ (partB l = false ∨ (partB l = true ∧ hasB l a = false) ∨ (partB l = true ∧ hasB l a = true ∧ hasB l b = false))) := by
  unfold joinOk
  cases partB l <;> cases hasB l a <;> cases hasB l b <;> simp

theorem implJoin_any (a : Option Addr) (len cap : Nat) (l : List Int) (x y : Int) (w : World) (h : Sl w a len l) (hm : len ≤ 9223372036854775807) :
    Calls Try.prog 18 #[.slice a len cap, .int .i64 x, .int .i64 y] w fun e w' => ∃ v : Value, e = .returned (.tuple #[v, .bool (joinOk l x y)]) ∧ w'.ownsRow w.heap.size 3 1 v (joinR l x y).length (vals (joinR l x y)) ∧ Below w.heap.size w w' := by
  have hll := h.1
  have HG := (show Hid _ from implParts_any a len cap l w h hm)
  have HX := (show Hid _ from implHas_any a len cap l hll x w)
  have HY := (show Hid _ from implHas_any a len cap l hll y w)
  unfold joinR
  rcases join_cases l x y with ⟨e0, e1, e2, e3⟩ | ⟨e0, he⟩
  · rw [if_pos e0, e0]
    obtain ⟨h2, hP, hF⟩ := (partB_iff l).1 e1
    obtain ⟨xn, rfl, hx⟩ := has_iff e2
    obtain ⟨yn, rfl, hy⟩ := has_iff e3
    rw [Int.toNat_natCast, Int.toNat_natCast, ← join_flat hP hF hx hy, flat_length, union_len, hll]
    have HJ := (show Hid _ from joined_any a len cap l xn yn w h hP (by omega) (by omega) (by omega))
    have hUP := union_par hP hx hy
    have hUl : (unionL l xn yn).length = len := by rw [union_len, hll]
    have HFl : Hid (∀ W (v : Value) base, W.ownsRow base 3 1 v len (vals (unionL l xn yn)) → Calls Try.prog 52 #[v] W fun e w' => ∃ v : Value, e = .returned v ∧ w'.ownsRow W.heap.size 3 1 v len (vals (flatL (unionL l xn yn))) ∧ Below W.heap.size W w') := fun W v base hW => by
      obtain ⟨g, c, rfl, _, _⟩ := own_open hW (by omega)
      obtain ⟨a', c', e', hs⟩ := Sl.vals hW
      cases e'
      exact flat_any _ len c _ W hs hUP (by omega) (fun e => by cases e)
    rw [e1] at HG
    rw [e2] at HX
    rw [e3] at HY
    generalize flatL (unionL l xn yn) = F at HFl ⊢
    generalize unionL l xn yn = U at HJ HFl
    clear e0 e1 e2 e3 h hP hF hUP
    go_enter Try.func18, Try.ntmps18
    go_wp2_with fail
    refine Calls.mono HG.out ?_
    rintro e w2 ⟨rfl, rfl⟩
    go_wp2_with fail
    refine Calls.mono HX.out ?_
    rintro e w2 ⟨rfl, rfl⟩
    go_wp2_with fail
    refine Calls.mono HY.out ?_
    rintro e w2 ⟨rfl, rfl⟩
    go_wp2_with fail
    refine Calls.mono HJ.out ?_
    rintro e w3 ⟨v, rfl, hown, hb⟩
    go_wp2_with fail
    refine Calls.mono (HFl.out _ _ _ hown) ?_
    rintro e w4 ⟨v', rfl, hown', hb'⟩
    have hB := hb.trans (hb'.mono hb.size)
    have hO := own_base hown' hb.size
    clear hown hown' hb hb'
    go_wp2
    go_ret2
    exact ⟨_, rfl, hO, hB⟩
  · rw [e0, if_neg (by decide)]
    rcases he with e1 | ⟨e1, e2⟩ | ⟨e1, e2, e3⟩
    · rw [e1] at HG
      clear e0 e1 h HX HY
      go_enter Try.func18, Try.ntmps18
      go_wp2_with fail
      refine Calls.mono HG.out ?_
      rintro e w2 ⟨rfl, rfl⟩
      go_wp2
      go_ret2
      exact ⟨_, rfl, World.ownsRow_nil _ _ _ _, Below.refl _ _⟩
    · rw [e1] at HG
      rw [e2] at HX
      clear e0 e1 e2 h HY
      go_enter Try.func18, Try.ntmps18
      go_wp2_with fail
      refine Calls.mono HG.out ?_
      rintro e w2 ⟨rfl, rfl⟩
      go_wp2_with fail
      refine Calls.mono HX.out ?_
      rintro e w2 ⟨rfl, rfl⟩
      go_wp2
      go_ret2
      exact ⟨_, rfl, World.ownsRow_nil _ _ _ _, Below.refl _ _⟩
    · rw [e1] at HG
      rw [e2] at HX
      rw [e3] at HY
      clear e0 e1 e2 e3 h
      go_enter Try.func18, Try.ntmps18
      go_wp2_with fail
      refine Calls.mono HG.out ?_
      rintro e w2 ⟨rfl, rfl⟩
      go_wp2_with fail
      refine Calls.mono HX.out ?_
      rintro e w2 ⟨rfl, rfl⟩
      go_wp2_with fail
      refine Calls.mono HY.out ?_
      rintro e w2 ⟨rfl, rfl⟩
      go_wp2
      go_ret2
      exact ⟨_, rfl, World.ownsRow_nil _ _ _ _, Below.refl _ _⟩

def askedB (l : List Int) (k : Int) : Bool := partB l && hasB l k
theorem asked_any (a : Option Addr) (len cap : Nat) (l : List Int) (k : Int) (w : World) (h : Sl w a len l) (hm : len ≤ 9223372036854775807) :
    Calls Try.prog 59 #[.slice a len cap, .int .i64 k] w fun e w' => e = .returned (.bool (askedB l k)) ∧ w' = w := by
  have hll := h.1
  have HG := (show Hid _ from specParts_any a len cap l w h hm)
  have HX := (show Hid _ from specHas_any len l hll k w)
  unfold askedB
  cases e1 : partB l with
  | true =>
    rw [e1] at HG
    rw [Bool.true_and]
    generalize hasB l k = B at HX
    clear h e1
    go_enter Try.func59, Try.ntmps59
    go_wp2_with fail
    refine Calls.mono HG.out ?_
    rintro e w2 ⟨rfl, rfl⟩
    go_wp2_with fail
    refine Calls.mono HX.out ?_
    rintro e w2 ⟨rfl, rfl⟩
    go_wp2
    go_ret
    exact ⟨rfl, rfl⟩
  | false =>
    rw [e1] at HG
    rw [Bool.false_and]
    clear h e1 HX
    go_enter Try.func59, Try.ntmps59
    go_wp2_with fail
    refine Calls.mono HG.out ?_
    rintro e w2 ⟨rfl, rfl⟩
    go_wp2
    go_ret
    exact ⟨rfl, rfl⟩

set_option maxHeartbeats 800000 in
theorem l5Join_any (a : Option Addr) (len cap : Nat) (l : List Int) (x y : Nat) (w : World) (h : Sl w a len l) (hp : ∀ k, k < l.length → 0 ≤ l.getD k 0) (hm : len ≤ 1048576) (hx : x < len) (hy : y < len) :
    Calls Try.prog 60 #[.slice a len cap, .int .i64 x, .int .i64 y] w fun e w' => ∃ v : Value, e = .returned v ∧ w'.ownsRow w.heap.size 3 1 v len (vals (joinL l x y)) ∧ Below w.heap.size w w' := by
  have hll := h.1
  have HO : Hid (∀ W, Below w.heap.size w W → Calls Try.prog 49 #[.slice a len cap] W fun e w' => ∃ v : Value, e = .returned v ∧ w'.ownsRow W.heap.size 3 1 v len (vals l) ∧ Below W.heap.size W w') := fun W hW => own5_any a len cap l W (h.keep hW) (by omega) (by omega)
  obtain ⟨b, off, rfl, hbl, hc⟩ : ∃ b off, a = some ⟨b, off, none⟩ ∧ b < w.heap.size ∧ ∀ i, i < len → w.cell? ⟨b, off + i, none⟩ = some (.int .i64 (l.getD i 0)) := by
    rcases h.2 with h0 | h0
    · omega
    · exact h0
  have hX := hp x (by omega)
  have hY := hp y (by omega)
  have cx := hc x hx
  have cy := hc y hy
  have HJ : Hid (∀ k, k < len → (joinL l x y).getD k 0 = if l.getD k 0 = max (l.getD x 0) (l.getD y 0) then min (l.getD x 0) (l.getD y 0) else l.getD k 0) := fun k hk => join_get l x y (by omega)
  have hJl : (joinL l x y).length = len := by rw [join_len, hll]
  have HC := (show Hid _ from hc)
  generalize joinL l x y = J at HJ hJl ⊢
  obtain ⟨X, hX'⟩ : ∃ X : Nat, l.getD x 0 = X := ⟨_, (Int.toNat_of_nonneg hX).symm⟩
  obtain ⟨Y, hY'⟩ : ∃ Y : Nat, l.getD y 0 = Y := ⟨_, (Int.toNat_of_nonneg hY).symm⟩
  rw [hX'] at cx HJ
  rw [hY'] at cy HJ
  rw [← nat_max, ← nat_min] at HJ
  have HM : Hid (∀ W, Calls Try.prog 51 #[.int .i64 X, .int .i64 Y] W fun e w' => e = .returned (.int .i64 (max X Y : Nat)) ∧ w' = W) := fun W => most_any X Y W
  have HN : Hid (∀ W, Calls Try.prog 50 #[.int .i64 X, .int .i64 Y] W fun e w' => e = .returned (.int .i64 (min X Y : Nat)) ∧ w' = W) := fun W => least_any X Y W
  generalize ((max X Y : Nat) : Int) = M at HM HJ
  generalize ((min X Y : Nat) : Int) = m at HN HJ
  clear h hp hc hX hY hX' hY'
  go_enter Try.func60, Try.ntmps60
  go_wp2_with fail
  go_quiet ((go_at_call 50; exact Calls.quiet_of_same (HN.out _)))
  have hb1 : Below w.heap.size w (w.drewN nq) := below_drewN (Below.refl _ _) _
  have cx1 : (w.drewN nq).cell? ⟨b, off + x, none⟩ = some (.int .i64 X) := (hb1.cell (p := ⟨b, off + x, none⟩) hbl).trans cx
  have cy1 : (w.drewN nq).cell? ⟨b, off + y, none⟩ = some (.int .i64 Y) := (hb1.cell (p := ⟨b, off + y, none⟩) hbl).trans cy
  clear cx cy
  generalize w.drewN nq = w1 at hb1 cx1 cy1 ⊢
  go_wp2_with fail
  go_quiet ((go_at_call 51; exact Calls.quiet_of_same (HM.out _)))
  have hb2 : Below w.heap.size w (w1.drewN nq) := below_drewN hb1 _
  clear cx1 cy1 hb1
  generalize w1.drewN nq = w2 at hb2 ⊢
  go_wp2_with fail
  refine Calls.mono (HO.out _ hb2) ?_
  rintro e w3 ⟨v, rfl, hown, hb3⟩
  have hB3 := hb2.trans (hb3.mono hb2.size)
  have hown' := own_base hown hb2.size
  obtain ⟨g, c, rfl, hg1, hg2⟩ := own_open hown' (by omega)
  clear hown hb2 hb3 HO HM HN
  go_wp2_with fail
  go_loopw [34] (fun i wr => ∃ (k : Nat) (xs : List Int), k ≤ len ∧ i = .int .i64 k ∧ xs.length = len ∧ wr.ownsRow w.heap.size 3 1 (.slice (some ⟨g, 0, none⟩) len c) len (vals xs) ∧ Hid (∀ j, j < len → xs.getD j 0 = if j < k then J.getD j 0 else l.getD j 0) ∧ Below w.heap.size w wr) (fun i _ => len - (intOf i).toNat)
  case atStart => exact ⟨0, l, Nat.zero_le _, rfl, hll, hown', fun j hj => by rw [if_neg (Nat.not_lt_zero _)], hB3⟩
  case round =>
    obtain ⟨k, xs, hk, rfl, hxl, hor, hx', hbr⟩ := hrel
    clear hown' hB3 hg2
    by_cases hlt : k < len
    · have ck : wr.cell? ⟨b, off + k, none⟩ = some (.int .i64 (l.getD k 0)) := (hbr.cell (p := ⟨b, off + k, none⟩) hbl).trans (HC.out k hlt)
      have hJk := HJ.out k hlt
      have hxk := hx'.out k hlt
      rw [if_neg (Nat.lt_irrefl _)] at hxk
      by_cases e : l.getD k 0 = M
      · rw [if_pos e] at hJk
        rw [e] at ck
        have hck := hor.cellAt k (by omega)
        rw [vals_at (by omega)] at hck
        have hfr := hor.frozenAt k
        have R : Hid ((xs.set k m).length = len ∧ (wr.setCell ⟨g, k, none⟩ (.int .i64 m)).ownsRow w.heap.size 3 1 (.slice (some ⟨g, 0, none⟩) len c) len (vals (xs.set k m)) ∧ (∀ j, j < len → (xs.set k m).getD j 0 = if j < k + 1 then J.getD j 0 else l.getD j 0) ∧ Below w.heap.size w (wr.setCell ⟨g, k, none⟩ (.int .i64 m))) := by
          refine ⟨by rw [List.length_set]; exact hxl, by rw [vals_set]; exact (hor.stored k _).1, fun j hj => ?_, hbr.setCell hg1 _⟩
          rw [set_getD _ _ _ _ (by omega), hx'.out j hj]
          by_cases e1 : j = k
          · subst e1; rw [if_pos rfl, if_pos (by omega), hJk]
          · rw [if_neg e1]
            by_cases e2 : j < k
            · rw [if_pos e2, if_pos (by omega)]
            · rw [if_neg e2, if_neg (by omega)]
        clear hor hx' hJk e hxk
        generalize xs.getD k 0 = z at hck
        generalize xs.set k m = ys at R
        go_wp2
        go_roundw
        case rel => exact ⟨k + 1, ys, by omega, by go_num, R.out.1, R.out.2.1, R.out.2.2.1, R.out.2.2.2⟩
        case measure => simp [intOf]; omega
      · rw [if_neg e] at hJk
        have R : Hid (∀ j, j < len → xs.getD j 0 = if j < k + 1 then J.getD j 0 else l.getD j 0) := fun j hj => by
          rw [hx'.out j hj]
          by_cases e1 : j = k
          · subst e1; rw [if_neg (Nat.lt_irrefl _), if_pos (by omega), hJk]
          · by_cases e2 : j < k
            · rw [if_pos e2, if_pos (by omega)]
            · rw [if_neg e2, if_neg (by omega)]
        have e' : (l.getD k 0 == M) = false := by simpa using e
        clear hx' hJk hxk
        generalize l.getD k 0 = z at ck e e'
        go_wp2
        go_roundw
        case rel => exact ⟨k + 1, xs, by omega, by go_num, hxl, hor, R, hbr⟩
        case measure => simp [intOf]; omega
    · obtain rfl : k = len := by omega
      have e : xs = J := list_ext (by omega) fun j hj => by
        rw [hx'.out j (by omega), if_pos (by omega)]
      subst e
      clear hx' HJ
      go_wp2
      go_ret
      exact ⟨_, rfl, hor, hbr⟩

theorem specJoin_any (a : Option Addr) (len cap : Nat) (l : List Int) (x y : Int) (w : World) (h : Sl w a len l) (hm : len ≤ 9223372036854775807) :
    Calls Try.prog 29 #[.slice a len cap, .int .i64 x, .int .i64 y] w fun e w' => ∃ v : Value, e = .returned (.tuple #[v, .bool (joinOk l x y)]) ∧ w'.ownsRow w.heap.size 3 1 v (joinR l x y).length (vals (joinR l x y)) ∧ Below w.heap.size w w' := by
  have hll := h.1
  have HX := (show Hid _ from asked_any a len cap l x w h hm)
  have HY := (show Hid _ from asked_any a len cap l y w h hm)
  unfold joinR
  have hj : joinOk l x y = (askedB l x && askedB l y) := by unfold joinOk askedB; cases partB l <;> cases hasB l x <;> cases hasB l y <;> rfl
  cases e1 : askedB l x with
  | true =>
    rw [e1] at HX
    cases e2 : askedB l y with
    | true =>
      rw [e2] at HY
      have e0 : joinOk l x y = true := by rw [hj, e1, e2]; rfl
      rw [if_pos e0, e0]
      unfold askedB at e1 e2
      rw [Bool.and_eq_true] at e1 e2
      obtain ⟨h2, hP, hF⟩ := (partB_iff l).1 e1.1
      obtain ⟨xn, rfl, hx⟩ := has_iff e1.2
      obtain ⟨yn, rfl, hy⟩ := has_iff e2.2
      rw [Int.toNat_natCast, Int.toNat_natCast, join_len, hll]
      have HJ := (show Hid _ from l5Join_any a len cap l xn yn w h (fun k hk => (hP k hk).1) (by omega) (by omega) (by omega))
      generalize joinL l xn yn = J at HJ ⊢
      clear h hj e0 e1 e2 hP hF
      go_enter Try.func29, Try.ntmps29
      go_wp2_with fail
      refine Calls.mono HX.out ?_
      rintro e w2 ⟨rfl, rfl⟩
      go_wp2_with fail
      refine Calls.mono HY.out ?_
      rintro e w2 ⟨rfl, rfl⟩
      go_wp2_with fail
      refine Calls.mono HJ.out ?_
      rintro e w3 ⟨v, rfl, hown, hb⟩
      go_wp2
      go_ret2
      exact ⟨_, rfl, hown, hb⟩
    | false =>
      rw [e2] at HY
      have e0 : joinOk l x y = false := by rw [hj, e1, e2]; rfl
      rw [e0, if_neg (by decide)]
      clear h hj e0 e1 e2
      go_enter Try.func29, Try.ntmps29
      go_wp2_with fail
      refine Calls.mono HX.out ?_
      rintro e w2 ⟨rfl, rfl⟩
      go_wp2_with fail
      refine Calls.mono HY.out ?_
      rintro e w2 ⟨rfl, rfl⟩
      go_wp2
      go_ret2
      exact ⟨_, rfl, World.ownsRow_nil _ _ _ _, Below.refl _ _⟩
  | false =>
    rw [e1] at HX
    have e0 : joinOk l x y = false := by rw [hj, e1]; rfl
    rw [e0, if_neg (by decide)]
    clear h hj e0 e1 HY
    go_enter Try.func29, Try.ntmps29
    go_wp2_with fail
    refine Calls.mono HX.out ?_
    rintro e w2 ⟨rfl, rfl⟩
    go_wp2
    go_ret2
    exact ⟨_, rfl, World.ownsRow_nil _ _ _ _, Below.refl _ _⟩
end Go.Proofs.Ytoaejodpklhmjaa
