/-
  PROVED HERE: which numbers the model and the program tell of a number's part, at every list and every number. No other condition.
-/
import Derived.Test.YtdaimjmpggmocaaDoorP5Join
namespace Go.Proofs.YtdaimjmpggmocaaDoor
open Go.ChangeShapes Go.WideShapes Go.ChangeAt Go.RowKit
set_option linter.unusedVariables false

/-- The places, of the first k, that have a mark. -/
def pickU (p : Nat → Bool) (k : Nat) : List Int := ((List.range k).filter p).map fun i => ((i : Nat) : Int)
theorem pickU_succ (p : Nat → Bool) (k : Nat) : pickU p (k + 1) = if p k = true then pickU p k ++ [((k : Nat) : Int)] else pickU p k := by
  unfold pickU
  rw [List.range_succ, List.filter_append]
  by_cases e : p k = true
  · rw [if_pos e]; simp [e]
  · rw [if_neg e]; simp [e]
theorem pickU_len (p : Nat → Bool) (k : Nat) : (pickU p k).length ≤ k := by
  unfold pickU
  rw [List.length_map]
  exact Nat.le_trans (List.length_filter_le _ _) (by simp)
theorem pickU_mem (p : Nat → Bool) (k i : Nat) : ((i : Nat) : Int) ∈ pickU p k ↔ i < k ∧ p i = true := by
  unfold pickU
  simp only [List.mem_map, List.mem_filter, List.mem_range]
  constructor
  · rintro ⟨j, hj, e⟩
    have : j = i := by omega
    subst this
    exact hj
  · intro h
    exact ⟨i, h, rfl⟩
/-- The places of a number in a list. -/
def placesL (l : List Int) (z : Int) : List Int := pickU (fun i => l.getD i 0 == z) l.length
theorem places_len (l : List Int) (z : Int) : (placesL l z).length ≤ l.length := pickU_len _ _
/-- MembersOf's answer. -/
def membersR (l : List Int) (k : Int) : List Int := if askedB l k = true then placesL l (l.getD k.toNat 0) else []

set_option maxHeartbeats 800000 in
theorem places_any (a : Option Addr) (len cap : Nat) (l : List Int) (z : Int) (w : World) (h : Sl w a len l) (hm : len ≤ 200) :
    Calls Tryd.prog 80 #[.slice a len cap, .int .i64 z] w fun e w' => ∃ v : Value, e = .returned v ∧ w'.ownsRow w.heap.size 3 1 v (placesL l z).length (vals (placesL l z)) ∧ Below w.heap.size w w' := by
  have hll := h.1
  obtain ⟨i0, hi, hz0, hz1, hz2⟩ := info_parts infoInt
  have HS := (show Hid _ from h)
  unfold placesL
  rw [hll]
  have HU : Hid (∀ k, pickU (fun i => l.getD i 0 == z) (k + 1) = if l.getD k 0 = z then pickU (fun i => l.getD i 0 == z) k ++ [((k : Nat) : Int)] else pickU (fun i => l.getD i 0 == z) k) := fun k => by
    rw [pickU_succ]
    by_cases e : l.getD k 0 = z
    · rw [if_pos e, if_pos (by simpa using e)]
    · rw [if_neg e, if_neg (by simpa using e)]
  have HL : Hid (∀ k, (pickU (fun i => l.getD i 0 == z) k).length ≤ k) := fun k => pickU_len _ k
  have H0 : Hid (pickU (fun i => l.getD i 0 == z) 0 = []) := rfl
  generalize pickU (fun i => l.getD i 0 == z) = U at HU HL H0 ⊢
  clear h
  go_enter Tryd.func80, Tryd.ntmps80
  go_wp2_with fail
  go_loopw [5, 10] (fun x i wr => ∃ (k : Nat), k ≤ len ∧ i = .int .i64 k ∧ wr.ownsRow w.heap.size 3 1 x (U k).length (vals (U k)) ∧ Below w.heap.size w wr) (fun _ i _ => len - (intOf i).toNat)
  case atStart => exact ⟨0, Nat.zero_le _, rfl, by rw [H0.out]; exact World.ownsRow_nil _ _ _ _, Below.refl _ _⟩
  case round =>
    obtain ⟨k, hk, rfl, hrow, hbr⟩ := hrel
    by_cases hlt : k < len
    · obtain ⟨b, off, rfl, hbl, hc⟩ : ∃ b off, a = some ⟨b, off, none⟩ ∧ b < w.heap.size ∧ ∀ i, i < len → w.cell? ⟨b, off + i, none⟩ = some (.int .i64 (l.getD i 0)) := by
        rcases HS.out.2 with h0 | h0
        · omega
        · exact h0
      have ck := (hbr.cell (p := ⟨b, off + k, none⟩) hbl).trans (hc k hlt)
      have hU := HU.out k
      have hLk := HL.out k
      have hsz := hbr.size
      clear hc
      by_cases e : l.getD k 0 = z
      · rw [if_pos e] at hU
        rw [e] at ck
        have HU' := (show Hid _ from hU)
        generalize hUk : U k = P at hrow HU' hLk
        clear hU hUk e
        go_wp2_with (at_builtin; refine wpList_append_own _ rfl _ _ 23 rfl w.heap.size 3 i0 (.int .i64 0) 1 8 Tryd.underlying23 hi hz0 hz1 hz2 rfl (by decide) _ _ _ rfl (hrow.alloc _) ⟨wr.heap.size, 0, none⟩ 1 1 [_] rfl rfl (cell_new1 _ _ _ _) (one_cell1 _ _) (by unfold maxLen; omega) (by omega) (by simp; omega) ?_; intro v' w4 hown4 hg4 _)
        have hB : Below w.heap.size w w4 := (hbr.alloc hbr.size _).grown hg4 (by simp; omega) (own_ge hrow)
        have hown5 : w4.ownsRow w.heap.size 3 1 v' (U (k + 1)).length (vals (U (k + 1))) := by rw [HU'.out, vals_append, List.length_append]; exact hown4
        clear hg4 hbr hrow hown4 HU'
        go_roundw
        case rel => exact ⟨k + 1, by omega, by go_num, hown5, hB⟩
        case measure => simp [intOf]; omega
      · rw [if_neg e] at hU
        rw [← hU] at hrow
        have e' : (l.getD k 0 == z) = false := by simpa using e
        clear hU hLk
        generalize l.getD k 0 = y at ck e e'
        go_wp2
        go_roundw
        case rel => exact ⟨k + 1, by omega, by go_num, hrow, hbr⟩
        case measure => simp [intOf]; omega
    · obtain rfl : k = len := by omega
      go_wp2
      go_ret
      exact ⟨_, rfl, hrow, hbr⟩

set_option maxHeartbeats 800000 in
theorem l5Members_any (a : Option Addr) (len cap : Nat) (l : List Int) (q : Nat) (w : World) (h : Sl w a len l) (hm : len ≤ 200) (hq : q < len) :
    Calls Tryd.prog 59 #[.slice a len cap, .int .i64 q] w fun e w' => ∃ v : Value, e = .returned v ∧ w'.ownsRow w.heap.size 3 1 v (placesL l (l.getD q 0)).length (vals (placesL l (l.getD q 0))) ∧ Below w.heap.size w w' := by
  have hll := h.1
  obtain ⟨i0, hi, hz0, hz1, hz2⟩ := info_parts infoInt
  unfold placesL
  rw [hll]
  obtain ⟨b, off, rfl, hbl, hc⟩ : ∃ b off, a = some ⟨b, off, none⟩ ∧ b < w.heap.size ∧ ∀ i, i < len → w.cell? ⟨b, off + i, none⟩ = some (.int .i64 (l.getD i 0)) := by
    rcases h.2 with h0 | h0
    · omega
    · exact h0
  have cq0 := hc q hq
  have HCell := (show Hid _ from hc)
  generalize l.getD q 0 = z at cq0 ⊢
  have HU : Hid (∀ k, pickU (fun i => l.getD i 0 == z) (k + 1) = if l.getD k 0 = z then pickU (fun i => l.getD i 0 == z) k ++ [((k : Nat) : Int)] else pickU (fun i => l.getD i 0 == z) k) := fun k => by
    rw [pickU_succ]
    by_cases e : l.getD k 0 = z
    · rw [if_pos e, if_pos (by simpa using e)]
    · rw [if_neg e, if_neg (by simpa using e)]
  have HL : Hid (∀ k, (pickU (fun i => l.getD i 0 == z) k).length ≤ k) := fun k => pickU_len _ k
  have H0 : Hid (pickU (fun i => l.getD i 0 == z) 0 = []) := rfl
  have HQ := (show Hid _ from cq0)
  generalize pickU (fun i => l.getD i 0 == z) = U at HU HL H0 ⊢
  clear h hc cq0
  go_enter Tryd.func59, Tryd.ntmps59
  go_wp2_with fail
  go_loopw [5, 10] (fun x i wr => ∃ (k : Nat), k ≤ len ∧ i = .int .i64 k ∧ wr.ownsRow w.heap.size 3 1 x (U k).length (vals (U k)) ∧ Below w.heap.size w wr) (fun _ i _ => len - (intOf i).toNat)
  case atStart => exact ⟨0, Nat.zero_le _, rfl, by rw [H0.out]; exact World.ownsRow_nil _ _ _ _, Below.refl _ _⟩
  case round =>
    obtain ⟨k, hk, rfl, hrow, hbr⟩ := hrel
    by_cases hlt : k < len
    · have ck := (hbr.cell (p := ⟨b, off + k, none⟩) hbl).trans (HCell.out k hlt)
      have cq := (hbr.cell (p := ⟨b, off + q, none⟩) hbl).trans HQ.out
      have hU := HU.out k
      have hLk := HL.out k
      have hsz := hbr.size
      by_cases e : l.getD k 0 = z
      · rw [if_pos e] at hU
        rw [e] at ck
        have HU' := (show Hid _ from hU)
        generalize hUk : U k = P at hrow HU' hLk
        clear hU hUk e
        go_wp2_with (at_builtin; refine wpList_append_own _ rfl _ _ 23 rfl w.heap.size 3 i0 (.int .i64 0) 1 8 Tryd.underlying23 hi hz0 hz1 hz2 rfl (by decide) _ _ _ rfl (hrow.alloc _) ⟨wr.heap.size, 0, none⟩ 1 1 [_] rfl rfl (cell_new1 _ _ _ _) (one_cell1 _ _) (by unfold maxLen; omega) (by omega) (by simp; omega) ?_; intro v' w4 hown4 hg4 _)
        have hB : Below w.heap.size w w4 := (hbr.alloc hbr.size _).grown hg4 (by simp; omega) (own_ge hrow)
        have hown5 : w4.ownsRow w.heap.size 3 1 v' (U (k + 1)).length (vals (U (k + 1))) := by rw [HU'.out, vals_append, List.length_append]; exact hown4
        clear hg4 hbr hrow hown4 HU'
        go_roundw
        case rel => exact ⟨k + 1, by omega, by go_num, hown5, hB⟩
        case measure => simp [intOf]; omega
      · rw [if_neg e] at hU
        rw [← hU] at hrow
        have e' : (l.getD k 0 == z) = false := by simpa using e
        clear hU hLk
        generalize l.getD k 0 = y at ck e e'
        go_wp2
        go_roundw
        case rel => exact ⟨k + 1, by omega, by go_num, hrow, hbr⟩
        case measure => simp [intOf]; omega
    · obtain rfl : k = len := by omega
      go_wp2
      go_ret
      exact ⟨_, rfl, hrow, hbr⟩

theorem implMembers_any (a : Option Addr) (len cap : Nat) (l : List Int) (k : Int) (w : World) (h : Sl w a len l) (hm : len ≤ 9223372036854775807) :
    Calls Tryd.prog 60 #[.slice a len cap, .int .i64 k] w fun e w' => ∃ v : Value, e = .returned (.tuple #[v, .bool (askedB l k)]) ∧ w'.ownsRow w.heap.size 3 1 v (membersR l k).length (vals (membersR l k)) ∧ Below w.heap.size w w' := by
  have hll := h.1
  have HG := (show Hid _ from implParts_any a len cap l w h hm)
  have HX := (show Hid _ from implHas_any a len cap l hll k w)
  unfold membersR
  cases e1 : partB l with
  | true =>
    rw [e1] at HG
    cases e2 : hasB l k with
    | true =>
      rw [e2] at HX
      have e0 : askedB l k = true := by unfold askedB; rw [e1, e2]; rfl
      rw [e0, if_pos rfl]
      obtain ⟨h2, hP, hF⟩ := (partB_iff l).1 e1
      obtain ⟨kn, rfl, hk⟩ := has_iff e2
      rw [Int.toNat_natCast]
      have HM := (show Hid _ from places_any a len cap l (l.getD kn 0) w h (by omega))
      obtain ⟨b, off, rfl, hc⟩ := cells_of h (by omega)
      have ck := hc kn (by omega)
      have hkl : kn < len := by omega
      generalize placesL l (l.getD kn 0) = M at HM ⊢
      generalize l.getD kn 0 = z at HM ck
      clear h e1 e2 e0 hP hF hc
      go_enter Tryd.func60, Tryd.ntmps60
      go_wp2_with fail
      refine Calls.mono HG.out ?_
      rintro e w2 ⟨rfl, rfl⟩
      go_wp2_with fail
      refine Calls.mono HX.out ?_
      rintro e w2 ⟨rfl, rfl⟩
      go_wp2_with fail
      refine Calls.mono HM.out ?_
      rintro e w3 ⟨v, rfl, hown, hb⟩
      go_wp2
      go_ret2
      exact ⟨_, rfl, hown, hb⟩
    | false =>
      rw [e2] at HX
      have e0 : askedB l k = false := by unfold askedB; rw [e1, e2]; rfl
      rw [e0, if_neg (by decide)]
      clear h e1 e2 e0
      go_enter Tryd.func60, Tryd.ntmps60
      go_wp2_with fail
      refine Calls.mono HG.out ?_
      rintro e w2 ⟨rfl, rfl⟩
      go_wp2_with fail
      refine Calls.mono HX.out ?_
      rintro e w2 ⟨rfl, rfl⟩
      go_wp2
      go_ret2
      exact ⟨_, rfl, World.ownsRow_nil _ _ _ _, Below.refl _ _⟩
  | false =>
    rw [e1] at HG
    have e0 : askedB l k = false := by unfold askedB; rw [e1]; rfl
    rw [e0, if_neg (by decide)]
    clear h e1 e0
    go_enter Tryd.func60, Tryd.ntmps60
    go_wp2_with fail
    refine Calls.mono HG.out ?_
    rintro e w2 ⟨rfl, rfl⟩
    go_wp2
    go_ret2
    exact ⟨_, rfl, World.ownsRow_nil _ _ _ _, Below.refl _ _⟩
end Go.Proofs.YtdaimjmpggmocaaDoor
