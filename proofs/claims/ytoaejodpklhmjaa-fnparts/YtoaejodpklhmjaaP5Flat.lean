/-
  PROVED HERE: what making parents flat, and joining the parts of two numbers, answers, to the model and to the program, at every list and every two numbers. No other condition.
-/
import Derived.Test.YtoaejodpklhmjaaP5Union
namespace Go.Proofs.Ytoaejodpklhmjaa
open Go.ChangeShapes Go.WideShapes Go.ChangeAt Go.RowKit
set_option linter.unusedVariables false

theorem flat_any (a : Option Addr) (len cap : Nat) (l : List Int) (w : World) (h : Sl w a len l) (hp : Par l) (hm : len ≤ 200) (hz : a = none → len = 0) :
    Calls Try.prog 52 #[.slice a len cap] w fun e w' => ∃ v : Value, e = .returned v ∧ w'.ownsRow w.heap.size 3 1 v len (vals (flatL l)) ∧ Below w.heap.size w w' := by
  have hll := h.1
  have HC := (show Hid _ from clone5_any a len cap l w h (by omega) hz)
  have HP := (show Hid _ from hp)
  clear h hp
  by_cases h0 : len = 0
  · subst h0
    have hl : l = [] := List.length_eq_zero_iff.1 hll
    subst hl
    clear HP hz
    go_enter Try.func52, Try.ntmps52
    go_wp2_with fail
    refine Calls.mono HC.out ?_
    rintro e w1 ⟨v, rfl, hown, hb⟩
    obtain ⟨a1, c1, rfl, hs1⟩ := Sl.vals hown
    clear HC hs1
    go_wp2_with fail
    go_loopw [10] (fun i wr => i = .int .i64 0 ∧ wr = w1) (fun i _ => 0)
    case atStart => exact ⟨rfl, rfl⟩
    case round =>
      obtain ⟨rfl, rfl⟩ := hrel
      go_wp2
      go_ret
      exact ⟨_, rfl, hown, hb⟩
  · go_enter Try.func52, Try.ntmps52
    go_wp2_with fail
    refine Calls.mono HC.out ?_
    rintro e w1 ⟨v, rfl, hown, hb⟩
    obtain ⟨g, c, rfl, hg1, hg2⟩ := own_open hown (by omega)
    clear HC hz
    go_wp2_with fail
    go_loopw [10] (fun i wr => ∃ (k : Nat) (xs : List Int), k ≤ len ∧ i = .int .i64 k ∧ xs.length = len ∧ wr.ownsRow w.heap.size 3 1 (.slice (some ⟨g, 0, none⟩) len c) len (vals xs) ∧ Hid (∀ j, j < len → xs.getD j 0 = if j < k then ((root l j : Nat) : Int) else l.getD j 0) ∧ Below w.heap.size w wr) (fun i _ => len - (intOf i).toNat)
    case atStart => exact ⟨0, l, Nat.zero_le _, rfl, hll, hown, fun j hj => by rw [if_neg (Nat.not_lt_zero _)], hb⟩
    case round =>
      obtain ⟨k, xs, hk, rfl, hxl, hor, hx, hbr⟩ := hrel
      clear hown hb hg2
      by_cases hlt : k < len
      · have hu := up_le HP.out (show k < l.length by omega)
        have he := up_eq HP.out (show k < l.length by omega)
        have hck := hor.cellAt k (by omega)
        rw [vals_at (by omega), hx.out k hlt, if_neg (Nat.lt_irrefl _), ← he] at hck
        have hcu := hor.cellAt (up l k) (by omega)
        rw [vals_at (by omega), hx.out (up l k) (by omega)] at hcu
        have hv : (if up l k < k then ((root l (up l k) : Nat) : Int) else l.getD (up l k) 0) = ((root l k : Nat) : Int) := by
          by_cases e : up l k < k
          · rw [if_pos e, root_up HP.out (by omega)]
          · have e' : up l k = k := by omega
            rw [if_neg e, e', root_self e', ← he, e']
        rw [hv] at hcu
        have hfr := hor.frozenAt k
        have hul : up l k < len := by omega
        have R : Hid ((xs.set k ((root l k : Nat) : Int)).length = len ∧ (wr.setCell ⟨g, k, none⟩ (.int .i64 (root l k : Nat))).ownsRow w.heap.size 3 1 (.slice (some ⟨g, 0, none⟩) len c) len (vals (xs.set k ((root l k : Nat) : Int))) ∧ (∀ j, j < len → (xs.set k ((root l k : Nat) : Int)).getD j 0 = if j < k + 1 then ((root l j : Nat) : Int) else l.getD j 0) ∧ Below w.heap.size w (wr.setCell ⟨g, k, none⟩ (.int .i64 (root l k : Nat)))) := by
          refine ⟨by rw [List.length_set]; exact hxl, by rw [vals_set]; exact (hor.stored k _).1, fun j hj => ?_, hbr.setCell hg1 _⟩
          rw [set_getD _ _ _ _ (by omega), hx.out j hj]
          by_cases e : j = k
          · subst e; rw [if_pos rfl, if_pos (by omega)]
          · rw [if_neg e]
            by_cases e2 : j < k
            · rw [if_pos e2, if_pos (by omega)]
            · rw [if_neg e2, if_neg (by omega)]
        clear hor hx hv he hu
        generalize up l k = u at hck hcu hul
        generalize ((root l k : Nat) : Int) = r at hcu R
        generalize xs.set k r = ys at R
        go_wp2
        go_roundw
        case rel => exact ⟨k + 1, ys, by omega, by go_num, R.out.1, R.out.2.1, R.out.2.2.1, R.out.2.2.2⟩
        case measure => simp [intOf]; omega
      · obtain rfl : k = len := by omega
        have e : xs = flatL l := list_ext (by rw [flat_length]; omega) fun j hj => by
          rw [flat_get (by omega), hx.out j (by omega), if_pos (by omega)]
        subst e
        clear hx
        go_wp2
        go_ret
        exact ⟨_, rfl, hor, hbr⟩

def flatR (l : List Int) : List Int := if parB l = true then flatL l else []
theorem implFlat_any (a : Option Addr) (len cap : Nat) (l : List Int) (w : World) (h : Sl w a len l) (hm : len ≤ 9223372036854775807) (hz : a = none → len = 0) :
    Calls Try.prog 13 #[.slice a len cap] w fun e w' => ∃ v : Value, e = .returned (.tuple #[v, .bool (parB l)]) ∧ w'.ownsRow w.heap.size 3 1 v (flatR l).length (vals (flatR l)) ∧ Below w.heap.size w w' := by
  have hll := h.1
  have HG := (show Hid _ from implParents_any a len cap l w h hm)
  unfold flatR
  by_cases hp : parB l = true
  · rw [if_pos hp, hp, flat_length, hll]
    rw [hp] at HG
    obtain ⟨h2, hP⟩ := (parB_iff l).1 hp
    have HF := (show Hid _ from flat_any a len cap l w h hP (by omega) hz)
    generalize flatL l = F at HF ⊢
    clear h hP hp hz
    go_enter Try.func13, Try.ntmps13
    go_wp2_with fail
    refine Calls.mono HG.out ?_
    rintro e w2 ⟨rfl, rfl⟩
    go_wp2_with fail
    refine Calls.mono HF.out ?_
    rintro e w3 ⟨v, rfl, hown, hb⟩
    go_wp2
    go_ret2
    exact ⟨_, rfl, hown, hb⟩
  · have hp' : parB l = false := by simpa using hp
    rw [if_neg hp, hp']
    rw [hp'] at HG
    clear h hp hp' hz
    go_enter Try.func13, Try.ntmps13
    go_wp2_with fail
    refine Calls.mono HG.out ?_
    rintro e w2 ⟨rfl, rfl⟩
    go_wp2
    go_ret2
    exact ⟨_, rfl, World.ownsRow_nil _ _ _ _, Below.refl _ _⟩

theorem flat_take {l : List Int} {k : Nat} (hk : k < l.length) : (flatL l).take (k + 1) = (flatL l).take k ++ [((root l k : Nat) : Int)] := by
  rw [List.take_add_one]
  congr 1
  have := flat_get hk
  rw [List.getD_eq_getElem?_getD] at this
  cases hh : (flatL l)[k]? with
  | none => rw [List.getElem?_eq_none_iff, flat_length] at hh; omega
  | some x => rw [hh] at this; simp at this; simp [this]
theorem specFlat_any (a : Option Addr) (len cap : Nat) (l : List Int) (w : World) (h : Sl w a len l) (hm : len ≤ 9223372036854775807) :
    Calls Try.prog 14 #[.slice a len cap] w fun e w' => ∃ v : Value, e = .returned (.tuple #[v, .bool (parB l)]) ∧ w'.ownsRow w.heap.size 3 1 v (flatR l).length (vals (flatR l)) ∧ Below w.heap.size w w' := by
  have hll := h.1
  have HG := (show Hid _ from specParents_any a len cap l w h hm)
  unfold flatR
  by_cases hp : parB l = true
  · rw [if_pos hp, hp, flat_length, hll]
    rw [hp] at HG
    obtain ⟨h2, hP⟩ := (parB_iff l).1 hp
    obtain ⟨i0, hi, hz0, hz1, hz2⟩ := info_parts infoInt
    have HR : Hid (∀ W (k : Nat), Below w.heap.size w W → k < len → Calls Try.prog 48 #[.slice a len cap, .int .i64 k] W fun e w' => e = .returned (.tuple #[.int .i64 (root l k : Nat), .int .i64 (steps l k : Nat)]) ∧ w' = W) := fun W k hW hk => specRoot_any a len cap l k W (h.keep hW) hP (by omega) hk
    have HT : Hid (∀ k, k < len → (flatL l).take (k + 1) = (flatL l).take k ++ [((root l k : Nat) : Int)]) := fun k hk => flat_take (by omega)
    have hFl : (flatL l).length = len := by rw [flat_length, hll]
    generalize flatL l = F at HT hFl ⊢
    clear h hP hp
    go_enter Try.func14, Try.ntmps14
    go_wp2_with fail
    refine Calls.mono HG.out ?_
    rintro e w2 ⟨rfl, rfl⟩
    go_wp2_with fail
    go_loopw [4, 13] (fun x i wr => ∃ (k : Nat), k ≤ len ∧ i = .int .i64 k ∧ wr.ownsRow w2.heap.size 3 1 x k (vals (F.take k)) ∧ Below w2.heap.size w2 wr) (fun _ i _ => len - (intOf i).toNat)
    case atStart => exact ⟨0, Nat.zero_le _, rfl, World.ownsRow_nil _ _ _ _, Below.refl _ _⟩
    case round =>
      obtain ⟨k, hk, rfl, hrow, hbr⟩ := hrel
      by_cases hlt : k < len
      · have HRk := (show Hid _ from HR.out wr k hbr hlt)
        have HTk := (show Hid _ from HT.out k hlt)
        generalize root l k = r at HRk HTk
        generalize steps l k = s at HRk
        go_wp2_with fail
        refine Calls.mono HRk.out ?_
        rintro e w3 ⟨rfl, rfl⟩
        have hsz := hbr.size
        go_wp2_with (at_builtin; refine wpList_append_own _ rfl _ _ 24 rfl w2.heap.size 3 i0 (.int .i64 0) 1 8 Try.underlying24 hi hz0 hz1 hz2 rfl (by decide) _ _ _ rfl (hrow.alloc _) ⟨w3.heap.size, 0, none⟩ 1 1 [_] rfl rfl (cell_new1 _ _ _ _) (one_cell1 _ _) (by unfold maxLen; omega) (by omega) (by simp; omega) ?_; intro v' w4 hown4 hg4 _)
        have hB : Below w2.heap.size w2 w4 := (hbr.alloc hbr.size _).grown hg4 (by simp; omega) (own_ge hrow)
        have hown5 : w4.ownsRow w2.heap.size 3 1 v' (k + 1) (vals (F.take (k + 1))) := by rw [HTk.out, vals_append]; exact hown4
        clear hg4 hbr hrow hown4
        go_roundw
        case rel => exact ⟨k + 1, by omega, by go_num, hown5, hB⟩
        case measure => simp [intOf]; omega
      · obtain rfl : k = len := by omega
        rw [List.take_of_length_le (by omega)] at hrow
        go_wp2
        go_ret2
        exact ⟨_, rfl, hrow, hbr⟩
  · have hp' : parB l = false := by simpa using hp
    rw [if_neg hp, hp']
    rw [hp'] at HG
    clear h hp hp'
    go_enter Try.func14, Try.ntmps14
    go_wp2_with fail
    refine Calls.mono HG.out ?_
    rintro e w2 ⟨rfl, rfl⟩
    go_wp2
    go_ret2
    exact ⟨_, rfl, World.ownsRow_nil _ _ _ _, Below.refl _ _⟩
end Go.Proofs.Ytoaejodpklhmjaa
