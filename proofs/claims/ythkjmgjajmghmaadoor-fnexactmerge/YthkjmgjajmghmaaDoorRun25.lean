/-
  PROVED HERE: what making parents flat, and joining the parts of two numbers, answers, to the model and to the program, at every list and every two numbers. No other condition. what joining the parts of two numbers answers, to the model and to the program, at every list and every two numbers. No other condition.
-/
import Derived.Test.YthkjmgjajmghmaaDoorRun20
namespace Go.Proofs.YthkjmgjajmghmaaDoor
open Go.ChangeShapes Go.WideShapes Go.ChangeAt Go.RowKit
set_option linter.unusedVariables false

theorem flat_any (a : Option Addr) (len cap : Nat) (l : List Int) (w : World) (h : Sl w a len l) (hp : Par l) (hm : len ≤ 200) (hz : a = none → len = 0) :
    Calls Tryd.prog 45 #[.slice a len cap] w fun e w' => ∃ v : Value, e = .returned v ∧ w'.ownsRow w.heap.size 3 1 v len (vals (flatL l)) ∧ Below w.heap.size w w' := by
  have hll := h.1
  have HC := (show Hid _ from clone5_any a len cap l w h (by omega) hz)
  have HP := (show Hid _ from hp)
  clear h hp
  by_cases h0 : len = 0
  · subst h0
    have hl : l = [] := List.length_eq_zero_iff.1 hll
    subst hl
    clear HP hz
    go_enter Tryd.func45, Tryd.ntmps45
    go_wp2_with fail
    refine Calls.mono HC.out ?_
    rintro e w1 ⟨v, rfl, hown, hb⟩
    obtain ⟨a1, c1, rfl, hs1⟩ := Sl.vals hown
    clear HC hs1
    go_wp2_with fail
    go_loopw [10] (fun i wr => i = .int .i64 0 ∧ wr = w1) (fun i _ => 0)
    case atStart => exact ⟨rfl, rfl⟩
    case round =>
      obtain ⟨rfl, rfl⟩ := hrel
      go_wp2
      go_ret
      exact ⟨_, rfl, hown, hb⟩
  · go_enter Tryd.func45, Tryd.ntmps45
    go_wp2_with fail
    refine Calls.mono HC.out ?_
    rintro e w1 ⟨v, rfl, hown, hb⟩
    obtain ⟨g, c, rfl, hg1, hg2⟩ := own_open hown (by omega)
    clear HC hz
    go_wp2_with fail
    go_loopw [10] (fun i wr => ∃ (k : Nat) (xs : List Int), k ≤ len ∧ i = .int .i64 k ∧ xs.length = len ∧ wr.ownsRow w.heap.size 3 1 (.slice (some ⟨g, 0, none⟩) len c) len (vals xs) ∧ Hid (∀ j, j < len → xs.getD j 0 = if j < k then ((root l j : Nat) : Int) else l.getD j 0) ∧ Below w.heap.size w wr) (fun i _ => len - (intOf i).toNat)
    case atStart => exact ⟨0, l, Nat.zero_le _, rfl, hll, hown, fun j hj => by rw [if_neg (Nat.not_lt_zero _)], hb⟩
    case round =>
      obtain ⟨k, xs, hk, rfl, hxl, hor, hx, hbr⟩ := hrel
      clear hown hb hg2
      by_cases hlt : k < len
      · have hu := up_le HP.out (show k < l.length by omega)
        have he := up_eq HP.out (show k < l.length by omega)
        have hck := hor.cellAt k (by omega)
        rw [vals_at (by omega), hx.out k hlt, if_neg (Nat.lt_irrefl _), ← he] at hck
        have hcu := hor.cellAt (up l k) (by omega)
        rw [vals_at (by omega), hx.out (up l k) (by omega)] at hcu
        have hv : (if up l k < k then ((root l (up l k) : Nat) : Int) else l.getD (up l k) 0) = ((root l k : Nat) : Int) := by
          by_cases e : up l k < k
          · rw [if_pos e, root_up HP.out (by omega)]
          · have e' : up l k = k := by omega
            rw [if_neg e, e', root_self e', ← he, e']
        rw [hv] at hcu
        have hfr := hor.frozenAt k
        have hul : up l k < len := by omega
        have R : Hid ((xs.set k ((root l k : Nat) : Int)).length = len ∧ (wr.setCell ⟨g, k, none⟩ (.int .i64 (root l k : Nat))).ownsRow w.heap.size 3 1 (.slice (some ⟨g, 0, none⟩) len c) len (vals (xs.set k ((root l k : Nat) : Int))) ∧ (∀ j, j < len → (xs.set k ((root l k : Nat) : Int)).getD j 0 = if j < k + 1 then ((root l j : Nat) : Int) else l.getD j 0) ∧ Below w.heap.size w (wr.setCell ⟨g, k, none⟩ (.int .i64 (root l k : Nat)))) := by
          refine ⟨by rw [List.length_set]; exact hxl, by rw [vals_set]; exact (hor.stored k _).1, fun j hj => ?_, hbr.setCell hg1 _⟩
          rw [set_getD _ _ _ _ (by omega), hx.out j hj]
          by_cases e : j = k
          · subst e; rw [if_pos rfl, if_pos (by omega)]
          · rw [if_neg e]
            by_cases e2 : j < k
            · rw [if_pos e2, if_pos (by omega)]
            · rw [if_neg e2, if_neg (by omega)]
        clear hor hx hv he hu
        generalize up l k = u at hck hcu hul
        generalize ((root l k : Nat) : Int) = r at hcu R
        generalize xs.set k r = ys at R
        go_wp2
        go_roundw
        case rel => exact ⟨k + 1, ys, by omega, by go_num, R.out.1, R.out.2.1, R.out.2.2.1, R.out.2.2.2⟩
        case measure => simp [intOf]; omega
      · obtain rfl : k = len := by omega
        have e : xs = flatL l := list_ext (by rw [flat_length]; omega) fun j hj => by
          rw [flatL_get (by omega), hx.out j (by omega), if_pos (by omega)]
        subst e
        clear hx
        go_wp2
        go_ret
        exact ⟨_, rfl, hor, hbr⟩

def flatR (l : List Int) : List Int := if parB l = true then flatL l else []
theorem flat_take {l : List Int} {k : Nat} (hk : k < l.length) : (flatL l).take (k + 1) = (flatL l).take k ++ [((root l k : Nat) : Int)] := by
  rw [List.take_add_one]
  congr 1
  have := flatL_get hk
  rw [List.getD_eq_getElem?_getD] at this
  cases hh : (flatL l)[k]? with
  | none => rw [List.getElem?_eq_none_iff, flat_length] at hh; omega
  | some x => rw [hh] at this; simp at this; simp [this]
end Go.Proofs.YthkjmgjajmghmaaDoor
namespace Go.Proofs.YthkjmgjajmghmaaDoor
open Go.ChangeShapes Go.WideShapes Go.ChangeAt Go.RowKit
set_option linter.unusedVariables false

/-- JoinParts' answer. -/
def joinOk5 (l : List Int) (a b : Int) : Bool := partB l && hasB l a && hasB l b
def joinR (l : List Int) (a b : Int) : List Int := if joinOk5 l a b = true then joinPL l a.toNat b.toNat else []
theorem join_cases (l : List Int) (a b : Int) : (joinOk5 l a b = true ∧ partB l = true ∧ hasB l a = true ∧ hasB l b = true) ∨ (joinOk5 l a b = false ∧ (partB l = false ∨ (partB l = true ∧ hasB l a = false) ∨ (partB l = true ∧ hasB l a = true ∧ hasB l b = false))) := by
  unfold joinOk5
  cases partB l <;> cases hasB l a <;> cases hasB l b <;> simp

def askedB (l : List Int) (k : Int) : Bool := partB l && hasB l k
set_option maxHeartbeats 800000 in
theorem l5Join_any (a : Option Addr) (len cap : Nat) (l : List Int) (x y : Nat) (w : World) (h : Sl w a len l) (hp : ∀ k, k < l.length → 0 ≤ l.getD k 0) (hm : len ≤ 1048576) (hx : x < len) (hy : y < len) :
    Calls Tryd.prog 40 #[.slice a len cap, .int .i64 x, .int .i64 y] w fun e w' => ∃ v : Value, e = .returned v ∧ w'.ownsRow w.heap.size 3 1 v len (vals (joinPL l x y)) ∧ Below w.heap.size w w' := by
  have hll := h.1
  have HO : Hid (∀ W, Below w.heap.size w W → Calls Tryd.prog 49 #[.slice a len cap] W fun e w' => ∃ v : Value, e = .returned v ∧ w'.ownsRow W.heap.size 3 1 v len (vals l) ∧ Below W.heap.size W w') := fun W hW => own5_any a len cap l W (h.keep hW) (by omega) (by omega)
  obtain ⟨b, off, rfl, hbl, hc⟩ : ∃ b off, a = some ⟨b, off, none⟩ ∧ b < w.heap.size ∧ ∀ i, i < len → w.cell? ⟨b, off + i, none⟩ = some (.int .i64 (l.getD i 0)) := by
    rcases h.2 with h0 | h0
    · omega
    · exact h0
  have hX := hp x (by omega)
  have hY := hp y (by omega)
  have cx := hc x hx
  have cy := hc y hy
  have HJ : Hid (∀ k, k < len → (joinPL l x y).getD k 0 = if l.getD k 0 = max (l.getD x 0) (l.getD y 0) then min (l.getD x 0) (l.getD y 0) else l.getD k 0) := fun k hk => join_get l x y (by omega)
  have hJl : (joinPL l x y).length = len := by rw [join_len, hll]
  have HC := (show Hid _ from hc)
  generalize joinPL l x y = J at HJ hJl ⊢
  obtain ⟨X, hX'⟩ : ∃ X : Nat, l.getD x 0 = X := ⟨_, (Int.toNat_of_nonneg hX).symm⟩
  obtain ⟨Y, hY'⟩ : ∃ Y : Nat, l.getD y 0 = Y := ⟨_, (Int.toNat_of_nonneg hY).symm⟩
  rw [hX'] at cx HJ
  rw [hY'] at cy HJ
  rw [← nat_max, ← nat_min] at HJ
  have HM : Hid (∀ W, Calls Tryd.prog 57 #[.int .i64 X, .int .i64 Y] W fun e w' => e = .returned (.int .i64 (max X Y : Nat)) ∧ w' = W) := fun W => most5_any X Y W
  have HN : Hid (∀ W, Calls Tryd.prog 56 #[.int .i64 X, .int .i64 Y] W fun e w' => e = .returned (.int .i64 (min X Y : Nat)) ∧ w' = W) := fun W => least5_any X Y W
  generalize ((max X Y : Nat) : Int) = M at HM HJ
  generalize ((min X Y : Nat) : Int) = m at HN HJ
  clear h hp hc hX hY hX' hY'
  go_enter Tryd.func40, Tryd.ntmps40
  go_wp2_with fail
  go_quiet ((go_at_call 56; exact Calls.quiet_of_same (HN.out _)))
  have hb1 : Below w.heap.size w (w.drewN nq) := Go.below_drewN (Below.refl _ _) _
  have cx1 : (w.drewN nq).cell? ⟨b, off + x, none⟩ = some (.int .i64 X) := (hb1.cell (p := ⟨b, off + x, none⟩) hbl).trans cx
  have cy1 : (w.drewN nq).cell? ⟨b, off + y, none⟩ = some (.int .i64 Y) := (hb1.cell (p := ⟨b, off + y, none⟩) hbl).trans cy
  clear cx cy
  generalize w.drewN nq = w1 at hb1 cx1 cy1 ⊢
  go_wp2_with fail
  go_quiet ((go_at_call 57; exact Calls.quiet_of_same (HM.out _)))
  have hb2 : Below w.heap.size w (w1.drewN nq) := below_drewN hb1 _
  clear cx1 cy1 hb1
  generalize w1.drewN nq = w2 at hb2 ⊢
  go_wp2_with fail
  refine Calls.mono (HO.out _ hb2) ?_
  rintro e w3 ⟨v, rfl, hown, hb3⟩
  have hB3 := hb2.trans (hb3.mono hb2.size)
  have hown' := own_base hown hb2.size
  obtain ⟨g, c, rfl, hg1, hg2⟩ := own_open hown' (by omega)
  clear hown hb2 hb3 HO HM HN
  go_wp2_with fail
  go_loopw [34] (fun i wr => ∃ (k : Nat) (xs : List Int), k ≤ len ∧ i = .int .i64 k ∧ xs.length = len ∧ wr.ownsRow w.heap.size 3 1 (.slice (some ⟨g, 0, none⟩) len c) len (vals xs) ∧ Hid (∀ j, j < len → xs.getD j 0 = if j < k then J.getD j 0 else l.getD j 0) ∧ Below w.heap.size w wr) (fun i _ => len - (intOf i).toNat)
  case atStart => exact ⟨0, l, Nat.zero_le _, rfl, hll, hown', fun j hj => by rw [if_neg (Nat.not_lt_zero _)], hB3⟩
  case round =>
    obtain ⟨k, xs, hk, rfl, hxl, hor, hx', hbr⟩ := hrel
    clear hown' hB3 hg2
    by_cases hlt : k < len
    · have ck : wr.cell? ⟨b, off + k, none⟩ = some (.int .i64 (l.getD k 0)) := (hbr.cell (p := ⟨b, off + k, none⟩) hbl).trans (HC.out k hlt)
      have hJk := HJ.out k hlt
      have hxk := hx'.out k hlt
      rw [if_neg (Nat.lt_irrefl _)] at hxk
      by_cases e : l.getD k 0 = M
      · rw [if_pos e] at hJk
        rw [e] at ck
        have hck := hor.cellAt k (by omega)
        rw [vals_at (by omega)] at hck
        have hfr := hor.frozenAt k
        have R : Hid ((xs.set k m).length = len ∧ (wr.setCell ⟨g, k, none⟩ (.int .i64 m)).ownsRow w.heap.size 3 1 (.slice (some ⟨g, 0, none⟩) len c) len (vals (xs.set k m)) ∧ (∀ j, j < len → (xs.set k m).getD j 0 = if j < k + 1 then J.getD j 0 else l.getD j 0) ∧ Below w.heap.size w (wr.setCell ⟨g, k, none⟩ (.int .i64 m))) := by
          refine ⟨by rw [List.length_set]; exact hxl, by rw [vals_set]; exact (hor.stored k _).1, fun j hj => ?_, hbr.setCell hg1 _⟩
          rw [set_getD _ _ _ _ (by omega), hx'.out j hj]
          by_cases e1 : j = k
          · subst e1; rw [if_pos rfl, if_pos (by omega), hJk]
          · rw [if_neg e1]
            by_cases e2 : j < k
            · rw [if_pos e2, if_pos (by omega)]
            · rw [if_neg e2, if_neg (by omega)]
        clear hor hx' hJk e hxk
        generalize xs.getD k 0 = z at hck
        generalize xs.set k m = ys at R
        go_wp2
        go_roundw
        case rel => exact ⟨k + 1, ys, by omega, by go_num, R.out.1, R.out.2.1, R.out.2.2.1, R.out.2.2.2⟩
        case measure => simp [intOf]; omega
      · rw [if_neg e] at hJk
        have R : Hid (∀ j, j < len → xs.getD j 0 = if j < k + 1 then J.getD j 0 else l.getD j 0) := fun j hj => by
          rw [hx'.out j hj]
          by_cases e1 : j = k
          · subst e1; rw [if_neg (Nat.lt_irrefl _), if_pos (by omega), hJk]
          · by_cases e2 : j < k
            · rw [if_pos e2, if_pos (by omega)]
            · rw [if_neg e2, if_neg (by omega)]
        have e' : (l.getD k 0 == M) = false := by simpa using e
        clear hx' hJk hxk
        generalize l.getD k 0 = z at ck e e'
        go_wp2
        go_roundw
        case rel => exact ⟨k + 1, xs, by omega, by go_num, hxl, hor, R, hbr⟩
        case measure => simp [intOf]; omega
    · obtain rfl : k = len := by omega
      have e : xs = J := list_ext (by omega) fun j hj => by
        rw [hx'.out j (by omega), if_pos (by omega)]
      subst e
      clear hx' HJ
      go_wp2
      go_ret
      exact ⟨_, rfl, hor, hbr⟩

end Go.Proofs.YthkjmgjajmghmaaDoor
