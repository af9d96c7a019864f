/-
  PROVED HERE: which variables the model tells of a term, at every list of nodes. No other condition.
-/
import Derived.Test.YtoppbchacdpenaaDoorPut
import Derived.Test.YtoppbchacdpenaaDoorGood
namespace Go.Proofs.YtoppbchacdpenaaDoor
open Go.ChangeShapes Go.WideShapes Go.ChangeAt Go.RowKit
set_option linter.unusedVariables false

/-- Whatever the row is. -/
theorem put_any (base : Nat) (v : Value) (len : Nat) (l : List Int) (n : Int) (w : World) (h : w.ownsRow base 3 1 v len (vals l)) (hb : base ≤ w.heap.size) (hn : len ≤ 1048576) :
    Calls Tryd.prog 61 #[v, .int .i64 n] w fun e w' => ∃ v' : Value, e = .returned v' ∧ w'.ownsRow base 3 1 v' (putL l n).length (vals (putL l n)) ∧ Below w.heap.size w w' := by
  have hll : l.length = len := by have := h.1; rw [vals_len] at this; omega
  rcases h.2 with ⟨rfl, rfl⟩ | ⟨g, cap, cur, rfl, hg, hgs, hc, _⟩
  · obtain rfl : l = [] := List.eq_nil_of_length_eq_zero hll
    refine (put_nil n w).mono ?_
    rintro e w' ⟨v', rfl, hown, hb'⟩
    exact ⟨v', rfl, own_base hown hb, hb'⟩
  · obtain ⟨a, cap', e, hs⟩ := Sl.vals h
    cases e
    refine (put_some g cap len l n w hs hc hn).mono ?_
    rintro e w' (⟨hp, rfl, rfl⟩ | ⟨v', rfl, hown, hb'⟩)
    · refine ⟨_, rfl, ?_, Below.refl _ _⟩
      rw [hp, hll]
      exact h
    · exact ⟨v', rfl, own_base hown hb, hb'⟩

/-- The variables of a list of nodes, ahead of which those of a row stood. -/
def varsF : List (Int × Int) → List Int → List Int
  | [], o => o
  | x :: l, o => if x.1 = 2 then varsF l (putL o x.2) else varsF l o
theorem putL_len (l : List Int) (n : Int) : (putL l n).length ≤ l.length + 1 := by
  unfold putL
  split
  · omega
  · have := place_le l n
    simp only [List.length_append, List.length_take, List.length_drop, List.length_cons, List.length_nil]; omega
theorem varsF_drop (l : List (Int × Int)) (k : Nat) (o : List Int) (h : k < l.length) : varsF (l.drop k) o = if (l.getD k (0, 0)).1 = 2 then varsF (l.drop (k + 1)) (putL o (l.getD k (0, 0)).2) else varsF (l.drop (k + 1)) o := by
  have e : l.getD k (0, 0) = l[k] := by rw [List.getD_eq_getElem?_getD, List.getElem?_eq_getElem h]; rfl
  rw [List.drop_eq_getElem_cons h, e]
  rfl

set_option maxHeartbeats 1600000 in
theorem vars_any (a : Option Addr) (len cap : Nat) (l : List (Int × Int)) (w : World) (h : NSl w a len l) (hn : len ≤ 524288) :
    Calls Tryd.prog 44 #[.slice a len cap] w fun e w' => ∃ v : Value, e = .returned v ∧ w'.ownsRow w.heap.size 3 1 v (varsF l []).length (vals (varsF l [])) ∧ Below w.heap.size w w' := by
  have hll := h.1
  have HS : Hid (NSl w a len l) := h
  obtain ⟨O, hO⟩ : ∃ O, varsF l [] = O := ⟨_, rfl⟩
  rw [hO]
  have HO : Hid (varsF (l.drop 0) [] = O) := by rw [List.drop_zero]; exact hO
  clear hO h
  go_enter Tryd.func44, Tryd.ntmps44
  go_wp2_with fail
  go_loopw [3, 8] (fun x i wr => ∃ (k : Nat) (o : List Int), k ≤ len ∧ i = .int .i64 k ∧ o.length ≤ k ∧ wr.ownsRow w.heap.size 3 1 x o.length (vals o) ∧ Hid (varsF (l.drop k) o = O) ∧ Below w.heap.size w wr) (fun _ i _ => len - (intOf i).toNat)
  case atStart => exact ⟨0, [], Nat.zero_le _, rfl, Nat.le_refl _, World.ownsRow_nil _ _ _ _, HO, Below.refl _ _⟩
  case round =>
    obtain ⟨k, o, hk, rfl, hok, hrow, hO, hbr⟩ := hrel
    by_cases hlt : k < len
    · obtain ⟨b, off, rfl, hbl, hc⟩ := HS.out.at (by omega)
      have c1 := (hbr.cell (p := ⟨b, off + k * 2, none⟩) hbl).trans (hc k hlt).1
      have c2 := (hbr.cell (p := ⟨b, off + k * 2 + 1, none⟩) hbl).trans (hc k hlt).2
      have hstep := varsF_drop l k o (by omega)
      rw [hO.out] at hstep
      clear hc hO
      generalize (l.getD k (0, 0)).1 = x at c1 hstep
      generalize (l.getD k (0, 0)).2 = y at c2 hstep
      have hbr' := hbr.alloc hbr.size (.cells #[.int .i64 x, .int .i64 y] 54)
      have hrow' := hrow.alloc (.cells #[.int .i64 x, .int .i64 y] 54)
      by_cases hx : x = 2
      · subst hx
        rw [if_pos rfl] at hstep
        have HN := (show Hid _ from hstep.symm)
        have hl2 := putL_len o y
        have HP := (show Hid _ from put_any w.heap.size u3 o.length o y _ hrow' hbr'.size (by omega))
        generalize putL o y = o' at HP HN hl2
        clear hstep hrow hrow' hbr
        go_wp2_with fail
        refine Calls.mono HP.out ?_
        rintro e w2 ⟨v', rfl, hown, hb2⟩
        have hB2 := hbr'.trans (hb2.mono hbr'.size)
        clear hb2 hbr' HP
        go_wp2
        go_roundw
        case rel => exact ⟨k + 1, o', by omega, by go_num, by omega, hown, HN, hB2⟩
        case measure => simp [intOf]; omega
      · rw [if_neg hx] at hstep
        have HN := (show Hid _ from hstep.symm)
        have hx2 : (x == 2) = false := by simpa using hx
        clear hstep hrow hbr hx
        go_wp2
        go_roundw
        case rel => exact ⟨k + 1, o, by omega, by go_num, by omega, hrow', HN, hbr'⟩
        case measure => simp [intOf]; omega
    · obtain rfl : k = len := by omega
      have e : o = O := by
        have := hO.out
        rwa [List.drop_of_length_le (by omega)] at this
      subst e
      clear hO HO
      go_wp2
      go_ret
      exact ⟨_, rfl, hrow, hbr⟩

def varsL (l : List (Int × Int)) : List Int := if goodB l = true then varsF l [] else []
theorem specVars_any (a : Option Addr) (len cap : Nat) (l : List (Int × Int)) (w : World) (h : NSl w a len l) (hm : len ≤ 9223372036854775807) :
    Calls Tryd.prog 18 #[.slice a len cap] w fun e w' => ∃ v : Value, e = .returned (.tuple #[v, .bool (goodB l)]) ∧ w'.ownsRow w.heap.size 3 1 v (varsL l).length (vals (varsL l)) ∧ Below w.heap.size w w' := by
  have HG := specGood_any _ len cap l w h hm
  have hll := h.1
  by_cases hg : goodB l = true
  · obtain ⟨_, g1, g2⟩ := good_pile hg
    rw [show varsL l = varsF l [] from by unfold varsL; rw [if_pos hg], hg]
    rw [hg] at HG
    have HG' := (show Hid _ from HG)
    have HV : Hid (∀ W, NSl W a len l → Calls Tryd.prog 44 #[.slice a len cap] W fun e w' => ∃ v : Value, e = .returned v ∧ w'.ownsRow W.heap.size 3 1 v (varsF l []).length (vals (varsF l [])) ∧ Below W.heap.size W w') := fun W hW => vars_any a len cap l W hW (by omega)
    generalize varsF l [] = O at HV ⊢
    clear HG hg
    go_enter Tryd.func18, Tryd.ntmps18
    go_wp2_with fail
    refine Calls.mono HG'.out ?_
    rintro e w1 ⟨rfl, hb1⟩
    go_wp2_with fail
    refine (HV.out _ (h.keep hb1)).mono ?_
    rintro e w2 ⟨v, rfl, hown, hb2⟩
    have hB := hb1.trans (hb2.mono hb1.size)
    have hown' := own_base hown hb1.size
    clear hown hb2
    go_wp2
    go_ret2
    exact ⟨_, rfl, hown', hB⟩
  · have hg' : goodB l = false := by simpa using hg
    rw [show varsL l = [] from by unfold varsL; rw [if_neg hg], hg']
    rw [hg'] at HG
    have HG' := (show Hid _ from HG)
    clear HG hg hg'
    go_enter Tryd.func18, Tryd.ntmps18
    go_wp2_with fail
    refine Calls.mono HG'.out ?_
    rintro e w1 ⟨rfl, hb1⟩
    go_wp2
    go_ret2
    exact ⟨_, rfl, World.ownsRow_nil _ _ _ _, hb1⟩
end Go.Proofs.YtoppbchacdpenaaDoor
