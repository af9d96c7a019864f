/-
  PROVED HERE: what joining the parts of two numbers answers, to the model and to the program, at every list and every two numbers. No other condition. which numbers the model and the program tell of a number's part, at every list and every number. No other condition.
-/
import Derived.Test.YtmbggaepckgogaaDoorRun18
namespace Go.Proofs.YtmbggaepckgogaaDoor
open Go.ChangeShapes Go.WideShapes Go.ChangeAt Go.RowKit
set_option linter.unusedVariables false

/-- JoinParts' answer. -/
def joinOk5 (l : List Int) (a b : Int) : Bool := partB l && hasB l a && hasB l b
def joinR (l : List Int) (a b : Int) : List Int := if joinOk5 l a b = true then joinPL l a.toNat b.toNat else []
theorem join_cases (l : List Int) (a b : Int) : (joinOk5 l a b = true ∧ partB l = true ∧ hasB l a = true ∧ hasB l b = true) ∨ (joinOk5 l a b = false ∧ (partB l = false ∨ (partB l = true ∧ hasB l a = false) ∨ (partB l = true ∧ hasB l a = true ∧ hasB l b = false))) := by
  unfold joinOk5
  cases partB l <;> cases hasB l a <;> cases hasB l b <;> simp

def askedB (l : List Int) (k : Int) : Bool := partB l && hasB l k
end Go.Proofs.YtmbggaepckgogaaDoor
namespace Go.Proofs.YtmbggaepckgogaaDoor
open Go.ChangeShapes Go.WideShapes Go.ChangeAt Go.RowKit
set_option linter.unusedVariables false

/-- The places, of the first k, that have a mark. -/
def pickU (p : Nat → Bool) (k : Nat) : List Int := ((List.range k).filter p).map fun i => ((i : Nat) : Int)
theorem pickU_succ (p : Nat → Bool) (k : Nat) : pickU p (k + 1) = if p k = true then pickU p k ++ [((k : Nat) : Int)] else pickU p k := by
  unfold pickU
  rw [List.range_succ, List.filter_append]
  by_cases e : p k = true
  · rw [if_pos e]; simp [e]
  · rw [if_neg e]; simp [e]
theorem pickU_len (p : Nat → Bool) (k : Nat) : (pickU p k).length ≤ k := by
  unfold pickU
  rw [List.length_map]
  exact Nat.le_trans (List.length_filter_le _ _) (by simp)
theorem pickU_mem (p : Nat → Bool) (k i : Nat) : ((i : Nat) : Int) ∈ pickU p k ↔ i < k ∧ p i = true := by
  unfold pickU
  simp only [List.mem_map, List.mem_filter, List.mem_range]
  constructor
  · rintro ⟨j, hj, e⟩
    have : j = i := by omega
    subst this
    exact hj
  · intro h
    exact ⟨i, h, rfl⟩
/-- The places of a number in a list. -/
def placesL (l : List Int) (z : Int) : List Int := pickU (fun i => l.getD i 0 == z) l.length
theorem places_len (l : List Int) (z : Int) : (placesL l z).length ≤ l.length := pickU_len _ _
/-- MembersOf's answer. -/
def membersR (l : List Int) (k : Int) : List Int := if askedB l k = true then placesL l (l.getD k.toNat 0) else []

set_option maxHeartbeats 800000 in
theorem places_any (a : Option Addr) (len cap : Nat) (l : List Int) (z : Int) (w : World) (h : Sl w a len l) (hm : len ≤ 200) :
    Calls Tryd.prog 63 #[.slice a len cap, .int .i64 z] w fun e w' => ∃ v : Value, e = .returned v ∧ w'.ownsRow w.heap.size 3 1 v (placesL l z).length (vals (placesL l z)) ∧ Below w.heap.size w w' := by
  have hll := h.1
  obtain ⟨i0, hi, hz0, hz1, hz2⟩ := info_parts infoInt
  have HS := (show Hid _ from h)
  unfold placesL
  rw [hll]
  have HU : Hid (∀ k, pickU (fun i => l.getD i 0 == z) (k + 1) = if l.getD k 0 = z then pickU (fun i => l.getD i 0 == z) k ++ [((k : Nat) : Int)] else pickU (fun i => l.getD i 0 == z) k) := fun k => by
    rw [pickU_succ]
    by_cases e : l.getD k 0 = z
    · rw [if_pos e, if_pos (by simpa using e)]
    · rw [if_neg e, if_neg (by simpa using e)]
  have HL : Hid (∀ k, (pickU (fun i => l.getD i 0 == z) k).length ≤ k) := fun k => pickU_len _ k
  have H0 : Hid (pickU (fun i => l.getD i 0 == z) 0 = []) := rfl
  generalize pickU (fun i => l.getD i 0 == z) = U at HU HL H0 ⊢
  clear h
  go_enter Tryd.func63, Tryd.ntmps63
  go_wp2_with fail
  go_loopw [5, 10] (fun x i wr => ∃ (k : Nat), k ≤ len ∧ i = .int .i64 k ∧ wr.ownsRow w.heap.size 3 1 x (U k).length (vals (U k)) ∧ Below w.heap.size w wr) (fun _ i _ => len - (intOf i).toNat)
  case atStart => exact ⟨0, Nat.zero_le _, rfl, by rw [H0.out]; exact World.ownsRow_nil _ _ _ _, Below.refl _ _⟩
  case round =>
    obtain ⟨k, hk, rfl, hrow, hbr⟩ := hrel
    by_cases hlt : k < len
    · obtain ⟨b, off, rfl, hbl, hc⟩ : ∃ b off, a = some ⟨b, off, none⟩ ∧ b < w.heap.size ∧ ∀ i, i < len → w.cell? ⟨b, off + i, none⟩ = some (.int .i64 (l.getD i 0)) := by
        rcases HS.out.2 with h0 | h0
        · omega
        · exact h0
      have ck := (hbr.cell (p := ⟨b, off + k, none⟩) hbl).trans (hc k hlt)
      have hU := HU.out k
      have hLk := HL.out k
      have hsz := hbr.size
      clear hc
      by_cases e : l.getD k 0 = z
      · rw [if_pos e] at hU
        rw [e] at ck
        have HU' := (show Hid _ from hU)
        generalize hUk : U k = P at hrow HU' hLk
        clear hU hUk e
        go_wp2_with (at_builtin; refine wpList_append_own _ rfl _ _ 23 rfl w.heap.size 3 i0 (.int .i64 0) 1 8 Tryd.underlying23 hi hz0 hz1 hz2 rfl (by decide) _ _ _ rfl (hrow.alloc _) ⟨wr.heap.size, 0, none⟩ 1 1 [_] rfl rfl (cell_new1 _ _ _ _) (one_cell1 _ _) (by unfold maxLen; omega) (by omega) (by simp; omega) ?_; intro v' w4 hown4 hg4 _)
        have hB : Below w.heap.size w w4 := (hbr.alloc hbr.size _).grown hg4 (by simp; omega) (own_ge hrow)
        have hown5 : w4.ownsRow w.heap.size 3 1 v' (U (k + 1)).length (vals (U (k + 1))) := by rw [HU'.out, vals_append, List.length_append]; exact hown4
        clear hg4 hbr hrow hown4 HU'
        go_roundw
        case rel => exact ⟨k + 1, by omega, by go_num, hown5, hB⟩
        case measure => simp [intOf]; omega
      · rw [if_neg e] at hU
        rw [← hU] at hrow
        have e' : (l.getD k 0 == z) = false := by simpa using e
        clear hU hLk
        generalize l.getD k 0 = y at ck e e'
        go_wp2
        go_roundw
        case rel => exact ⟨k + 1, by omega, by go_num, hrow, hbr⟩
        case measure => simp [intOf]; omega
    · obtain rfl : k = len := by omega
      go_wp2
      go_ret
      exact ⟨_, rfl, hrow, hbr⟩

end Go.Proofs.YtmbggaepckgogaaDoor
