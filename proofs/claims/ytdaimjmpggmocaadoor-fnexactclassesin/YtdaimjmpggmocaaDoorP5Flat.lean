/-
  PROVED HERE: what making parents flat, and joining the parts of two numbers, answers, to the model and to the program, at every list and every two numbers. No other condition.
-/
import Derived.Test.YtdaimjmpggmocaaDoorP5Union
namespace Go.Proofs.YtdaimjmpggmocaaDoor
open Go.ChangeShapes Go.WideShapes Go.ChangeAt Go.RowKit
set_option linter.unusedVariables false

theorem flat_any (a : Option Addr) (len cap : Nat) (l : List Int) (w : World) (h : Sl w a len l) (hp : Par l) (hm : len ≤ 200) (hz : a = none → len = 0) :
    Calls Tryd.prog 78 #[.slice a len cap] w fun e w' => ∃ v : Value, e = .returned v ∧ w'.ownsRow w.heap.size 3 1 v len (vals (flatL l)) ∧ Below w.heap.size w w' := by
  have hll := h.1
  have HC := (show Hid _ from clone5_any a len cap l w h (by omega) hz)
  have HP := (show Hid _ from hp)
  clear h hp
  by_cases h0 : len = 0
  · subst h0
    have hl : l = [] := List.length_eq_zero_iff.1 hll
    subst hl
    clear HP hz
    go_enter Tryd.func78, Tryd.ntmps78
    go_wp2_with fail
    refine Calls.mono HC.out ?_
    rintro e w1 ⟨v, rfl, hown, hb⟩
    obtain ⟨a1, c1, rfl, hs1⟩ := Sl.vals hown
    clear HC hs1
    go_wp2_with fail
    go_loopw [10] (fun i wr => i = .int .i64 0 ∧ wr = w1) (fun i _ => 0)
    case atStart => exact ⟨rfl, rfl⟩
    case round =>
      obtain ⟨rfl, rfl⟩ := hrel
      go_wp2
      go_ret
      exact ⟨_, rfl, hown, hb⟩
  · go_enter Tryd.func78, Tryd.ntmps78
    go_wp2_with fail
    refine Calls.mono HC.out ?_
    rintro e w1 ⟨v, rfl, hown, hb⟩
    obtain ⟨g, c, rfl, hg1, hg2⟩ := own_open hown (by omega)
    clear HC hz
    go_wp2_with fail
    go_loopw [10] (fun i wr => ∃ (k : Nat) (xs : List Int), k ≤ len ∧ i = .int .i64 k ∧ xs.length = len ∧ wr.ownsRow w.heap.size 3 1 (.slice (some ⟨g, 0, none⟩) len c) len (vals xs) ∧ Hid (∀ j, j < len → xs.getD j 0 = if j < k then ((root l j : Nat) : Int) else l.getD j 0) ∧ Below w.heap.size w wr) (fun i _ => len - (intOf i).toNat)
    case atStart => exact ⟨0, l, Nat.zero_le _, rfl, hll, hown, fun j hj => by rw [if_neg (Nat.not_lt_zero _)], hb⟩
    case round =>
      obtain ⟨k, xs, hk, rfl, hxl, hor, hx, hbr⟩ := hrel
      clear hown hb hg2
      by_cases hlt : k < len
      · have hu := up_le HP.out (show k < l.length by omega)
        have he := up_eq HP.out (show k < l.length by omega)
        have hck := hor.cellAt k (by omega)
        rw [vals_at (by omega), hx.out k hlt, if_neg (Nat.lt_irrefl _), ← he] at hck
        have hcu := hor.cellAt (up l k) (by omega)
        rw [vals_at (by omega), hx.out (up l k) (by omega)] at hcu
        have hv : (if up l k < k then ((root l (up l k) : Nat) : Int) else l.getD (up l k) 0) = ((root l k : Nat) : Int) := by
          by_cases e : up l k < k
          · rw [if_pos e, root_up HP.out (by omega)]
          · have e' : up l k = k := by omega
            rw [if_neg e, e', root_self e', ← he, e']
        rw [hv] at hcu
        have hfr := hor.frozenAt k
        have hul : up l k < len := by omega
        have R : Hid ((xs.set k ((root l k : Nat) : Int)).length = len ∧ (wr.setCell ⟨g, k, none⟩ (.int .i64 (root l k : Nat))).ownsRow w.heap.size 3 1 (.slice (some ⟨g, 0, none⟩) len c) len (vals (xs.set k ((root l k : Nat) : Int))) ∧ (∀ j, j < len → (xs.set k ((root l k : Nat) : Int)).getD j 0 = if j < k + 1 then ((root l j : Nat) : Int) else l.getD j 0) ∧ Below w.heap.size w (wr.setCell ⟨g, k, none⟩ (.int .i64 (root l k : Nat)))) := by
          refine ⟨by rw [List.length_set]; exact hxl, by rw [vals_set]; exact (hor.stored k _).1, fun j hj => ?_, hbr.setCell hg1 _⟩
          rw [set_getD _ _ _ _ (by omega), hx.out j hj]
          by_cases e : j = k
          · subst e; rw [if_pos rfl, if_pos (by omega)]
          · rw [if_neg e]
            by_cases e2 : j < k
            · rw [if_pos e2, if_pos (by omega)]
            · rw [if_neg e2, if_neg (by omega)]
        clear hor hx hv he hu
        generalize up l k = u at hck hcu hul
        generalize ((root l k : Nat) : Int) = r at hcu R
        generalize xs.set k r = ys at R
        go_wp2
        go_roundw
        case rel => exact ⟨k + 1, ys, by omega, by go_num, R.out.1, R.out.2.1, R.out.2.2.1, R.out.2.2.2⟩
        case measure => simp [intOf]; omega
      · obtain rfl : k = len := by omega
        have e : xs = flatL l := list_ext (by rw [flat_length]; omega) fun j hj => by
          rw [flatL_get (by omega), hx.out j (by omega), if_pos (by omega)]
        subst e
        clear hx
        go_wp2
        go_ret
        exact ⟨_, rfl, hor, hbr⟩

def flatR (l : List Int) : List Int := if parB l = true then flatL l else []
theorem flat_take {l : List Int} {k : Nat} (hk : k < l.length) : (flatL l).take (k + 1) = (flatL l).take k ++ [((root l k : Nat) : Int)] := by
  rw [List.take_add_one]
  congr 1
  have := flatL_get hk
  rw [List.getD_eq_getElem?_getD] at this
  cases hh : (flatL l)[k]? with
  | none => rw [List.getElem?_eq_none_iff, flat_length] at hh; omega
  | some x => rw [hh] at this; simp at this; simp [this]
end Go.Proofs.YtdaimjmpggmocaaDoor
