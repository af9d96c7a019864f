/-
  PROVED HERE: how many parts the model and the program tell, at every list. No other condition. what the model's and the program's NodesIn and ClassesIn answer, at every graph and number, in a world whose table of arities is laid. No other condition.
-/
import Derived.Test.YtmbggaepckgogaaDoorRun19
import Derived.Test.YtmbggaepckgogaaDoorRun12
import Derived.Test.YtmbggaepckgogaaDoorRun17
namespace Go.Proofs.YtmbggaepckgogaaDoor
open Go.ChangeShapes Go.WideShapes Go.ChangeAt Go.RowKit
set_option linter.unusedVariables false

/-- The roots of parts. -/
def rootsL (l : List Int) : List Int := pickU (fun i => l.getD i 0 == (i : Int)) l.length
/-- CountParts' answer. -/
def countR (l : List Int) : Int := if partB l = true then ((rootsL l).length : Nat) else 0

set_option maxHeartbeats 800000 in
theorem roots_any (a : Option Addr) (len cap : Nat) (l : List Int) (w : World) (h : Sl w a len l) (hm : len ≤ 200) :
    Calls Tryd.prog 31 #[.slice a len cap] w fun e w' => ∃ v : Value, e = .returned v ∧ w'.ownsRow w.heap.size 3 1 v (rootsL l).length (vals (rootsL l)) ∧ Below w.heap.size w w' := by
  have hll := h.1
  obtain ⟨i0, hi, hz0, hz1, hz2⟩ := info_parts infoInt
  have HS := (show Hid _ from h)
  unfold rootsL
  rw [hll]
  have HU : Hid (∀ k, pickU (fun i => l.getD i 0 == (i : Int)) (k + 1) = if l.getD k 0 = (k : Int) then pickU (fun i => l.getD i 0 == (i : Int)) k ++ [((k : Nat) : Int)] else pickU (fun i => l.getD i 0 == (i : Int)) k) := fun k => by
    rw [pickU_succ]
    by_cases e : l.getD k 0 = (k : Int)
    · rw [if_pos e, if_pos (by simpa using e)]
    · rw [if_neg e, if_neg (by simpa using e)]
  have HL : Hid (∀ k, (pickU (fun i => l.getD i 0 == (i : Int)) k).length ≤ k) := fun k => pickU_len _ k
  have H0 : Hid (pickU (fun i => l.getD i 0 == (i : Int)) 0 = []) := rfl
  generalize pickU (fun i => l.getD i 0 == (i : Int)) = U at HU HL H0 ⊢
  clear h
  go_enter Tryd.func31, Tryd.ntmps31
  go_wp2_with fail
  go_loopw [3, 8] (fun x i wr => ∃ (k : Nat), k ≤ len ∧ i = .int .i64 k ∧ wr.ownsRow w.heap.size 3 1 x (U k).length (vals (U k)) ∧ Below w.heap.size w wr) (fun _ i _ => len - (intOf i).toNat)
  case atStart => exact ⟨0, Nat.zero_le _, rfl, by rw [H0.out]; exact World.ownsRow_nil _ _ _ _, Below.refl _ _⟩
  case round =>
    obtain ⟨k, hk, rfl, hrow, hbr⟩ := hrel
    by_cases hlt : k < len
    · obtain ⟨b, off, rfl, hbl, hc⟩ : ∃ b off, a = some ⟨b, off, none⟩ ∧ b < w.heap.size ∧ ∀ i, i < len → w.cell? ⟨b, off + i, none⟩ = some (.int .i64 (l.getD i 0)) := by
        rcases HS.out.2 with h0 | h0
        · omega
        · exact h0
      have ck := (hbr.cell (p := ⟨b, off + k, none⟩) hbl).trans (hc k hlt)
      have hU := HU.out k
      have hLk := HL.out k
      have hsz := hbr.size
      clear hc
      by_cases e : l.getD k 0 = (k : Int)
      · rw [if_pos e] at hU
        rw [e] at ck
        have HU' := (show Hid _ from hU)
        generalize hUk : U k = P at hrow HU' hLk
        clear hU hUk e
        go_wp2_with (at_builtin; refine wpList_append_own _ rfl _ _ 23 rfl w.heap.size 3 i0 (.int .i64 0) 1 8 Tryd.underlying23 hi hz0 hz1 hz2 rfl (by decide) _ _ _ rfl (hrow.alloc _) ⟨wr.heap.size, 0, none⟩ 1 1 [_] rfl rfl (cell_new1 _ _ _ _) (one_cell1 _ _) (by unfold maxLen; omega) (by omega) (by simp; omega) ?_; intro v' w4 hown4 hg4 _)
        have hB : Below w.heap.size w w4 := (hbr.alloc hbr.size _).grown hg4 (by simp; omega) (own_ge hrow)
        have hown5 : w4.ownsRow w.heap.size 3 1 v' (U (k + 1)).length (vals (U (k + 1))) := by rw [HU'.out, vals_append, List.length_append]; exact hown4
        clear hg4 hbr hrow hown4 HU'
        go_roundw
        case rel => exact ⟨k + 1, by omega, by go_num, hown5, hB⟩
        case measure => simp [intOf]; omega
      · rw [if_neg e] at hU
        rw [← hU] at hrow
        have e' : (l.getD k 0 == (k : Int)) = false := by simpa using e
        clear hU hLk
        generalize l.getD k 0 = y at ck e e'
        go_wp2
        go_roundw
        case rel => exact ⟨k + 1, by omega, by go_num, hrow, hbr⟩
        case measure => simp [intOf]; omega
    · obtain rfl : k = len := by omega
      go_wp2
      go_ret
      exact ⟨_, rfl, hrow, hbr⟩

end Go.Proofs.YtmbggaepckgogaaDoor
namespace Go.Proofs.YtmbggaepckgogaaDoor
open Go.ChangeShapes Go.WideShapes Go.ChangeAt Go.RowKit
set_option linter.unusedVariables false

set_option maxHeartbeats 800000 in
theorem l6Classes_any (an : Option Addr) (ln cn : Nat) (a : Option Addr) (len cap : Nat) (l : List Int) (w : World) (h : Sl w a len l) (hm : len ≤ 200) :
    Calls Tryd.prog 26 #[.agg #[.slice an ln cn, .slice a len cap]] w fun e w' => ∃ v : Value, e = .returned v ∧ w'.ownsRow w.heap.size 3 1 v (rootsL l).length (vals (rootsL l)) ∧ Below w.heap.size w w' := by
  have hll := h.1
  obtain ⟨i0, hi, hz0, hz1, hz2⟩ := info_parts infoInt
  have HS := (show Hid _ from h)
  unfold rootsL
  rw [hll]
  have HU : Hid (∀ k, pickU (fun i => l.getD i 0 == (i : Int)) (k + 1) = if l.getD k 0 = (k : Int) then pickU (fun i => l.getD i 0 == (i : Int)) k ++ [((k : Nat) : Int)] else pickU (fun i => l.getD i 0 == (i : Int)) k) := fun k => by
    rw [pickU_succ]
    by_cases e : l.getD k 0 = (k : Int)
    · rw [if_pos e, if_pos (by simpa using e)]
    · rw [if_neg e, if_neg (by simpa using e)]
  have HL : Hid (∀ k, (pickU (fun i => l.getD i 0 == (i : Int)) k).length ≤ k) := fun k => pickU_len _ k
  have H0 : Hid (pickU (fun i => l.getD i 0 == (i : Int)) 0 = []) := rfl
  generalize pickU (fun i => l.getD i 0 == (i : Int)) = U at HU HL H0 ⊢
  clear h
  have HB1 : Hid (Below w.heap.size w (w.alloc (.cells #[.slice an ln cn, .slice a len cap] 31))) := (Below.refl _ _).alloc (Nat.le_refl _) _
  go_enter Tryd.func26, Tryd.ntmps26
  go_wp2_with fail
  go_loopw [3, 9] (fun x i wr => ∃ (k : Nat), k ≤ len ∧ i = .int .i64 k ∧ wr.ownsRow w.heap.size 3 1 x (U k).length (vals (U k)) ∧ Below w.heap.size w wr) (fun _ i _ => len - (intOf i).toNat)
  case atStart => exact ⟨0, Nat.zero_le _, rfl, by rw [H0.out]; exact World.ownsRow_nil _ _ _ _, HB1.out⟩
  case round =>
    obtain ⟨k, hk, rfl, hrow, hbr⟩ := hrel
    by_cases hlt : k < len
    · obtain ⟨b, off, rfl, hbl, hc⟩ : ∃ b off, a = some ⟨b, off, none⟩ ∧ b < w.heap.size ∧ ∀ i, i < len → w.cell? ⟨b, off + i, none⟩ = some (.int .i64 (l.getD i 0)) := by
        rcases HS.out.2 with h0 | h0
        · omega
        · exact h0
      have ck := (hbr.cell (p := ⟨b, off + k, none⟩) hbl).trans (hc k hlt)
      have hU := HU.out k
      have hLk := HL.out k
      have hsz := hbr.size
      clear hc
      by_cases e : l.getD k 0 = (k : Int)
      · rw [if_pos e] at hU
        rw [e] at ck
        have HU' := (show Hid _ from hU)
        generalize hUk : U k = P at hrow HU' hLk
        clear hU hUk e
        go_wp2_with (at_builtin; refine wpList_append_own _ rfl _ _ 23 rfl w.heap.size 3 i0 (.int .i64 0) 1 8 Tryd.underlying23 hi hz0 hz1 hz2 rfl (by decide) _ _ _ rfl (hrow.alloc _) ⟨wr.heap.size, 0, none⟩ 1 1 [_] rfl rfl (cell_new1 _ _ _ _) (one_cell1 _ _) (by unfold maxLen; omega) (by omega) (by simp; omega) ?_; intro v' w4 hown4 hg4 _)
        have hB : Below w.heap.size w w4 := (hbr.alloc hbr.size _).grown hg4 (by simp; omega) (own_ge hrow)
        have hown5 : w4.ownsRow w.heap.size 3 1 v' (U (k + 1)).length (vals (U (k + 1))) := by rw [HU'.out, vals_append, List.length_append]; exact hown4
        clear hg4 hbr hrow hown4 HU'
        go_roundw
        case rel => exact ⟨k + 1, by omega, by go_num, hown5, hB⟩
        case measure => simp [intOf]; omega
      · rw [if_neg e] at hU
        rw [← hU] at hrow
        have e' : ((k : Int) == l.getD k 0) = false := by simp; exact fun h => e h.symm
        clear hU hLk
        generalize l.getD k 0 = y at ck e e'
        go_wp2
        go_roundw
        case rel => exact ⟨k + 1, by omega, by go_num, hrow, hbr⟩
        case measure => simp [intOf]; omega
    · obtain rfl : k = len := by omega
      go_wp2
      go_ret
      exact ⟨_, rfl, hrow, hbr⟩

/-- ClassesIn's answer. -/
def classesR (p : List EN) (l : List Int) : List Int := if graphB p l = true then rootsL l else []
def nodesOk (p : List EN) (l : List Int) (k : Int) : Bool := graphB p l && hasB l k
/-- NodesIn's answer. -/
def nodesR (p : List EN) (l : List Int) (k : Int) : List Int := if nodesOk p l k = true then placesL l (l.getD k.toNat 0) else []
theorem graph_parts2 {p : List EN} {l : List Int} (h : graphB p l = true) : partB l = true ∧ l.length = p.length ∧ l.length ≤ 120 := by
  obtain ⟨h1, _⟩ := (graphB_iff p l).1 h
  obtain ⟨h2, h3, h4⟩ := (headB_iff p l).1 h1
  have := ((nodesB_iff p).1 h2).1
  exact ⟨h4, h3, by omega⟩
end Go.Proofs.YtmbggaepckgogaaDoor
