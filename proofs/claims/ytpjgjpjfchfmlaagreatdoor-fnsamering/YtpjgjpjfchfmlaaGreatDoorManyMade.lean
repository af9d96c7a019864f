/-
  PROVED HERE: what the model makes of a list of nodes that may be too long for a term. No other condition. plain facts on slices of slices of nodes in memory. No condition.
-/
import Derived.Test.YtpjgjpjfchfmlaaGreatDoorGood
namespace Go.Proofs.YtpjgjpjfchfmlaaGreatDoor
open Go.ChangeShapes Go.WideShapes Go.ChangeAt Go.RowKit
set_option linter.unusedVariables false

/-- A made term: itself if it is good, else nothing. -/
def madeL (l : List (Int × Int)) : List (Int × Int) := if goodB l = true then l else []
theorem made_any (base : Nat) (v : Value) (len : Nat) (l : List (Int × Int)) (w : World) (h : w.ownsRow base 77 2 v len (flat l)) (hb : base ≤ w.heap.size) (hm : len ≤ 9223372036854775807) :
    Calls Tryz.prog 53 #[v] w fun e w' => ∃ v' : Value, e = .returned (.tuple #[v', .bool (goodB l)]) ∧ w'.ownsRow base 77 2 v' (madeL l).length (flat (madeL l)) ∧ Below w.heap.size w w' := by
  obtain ⟨a, cap, rfl, hs⟩ := NSl.row h
  have HG := (show Hid _ from specGood_any a len cap l w hs hm)
  have hll := hs.1
  by_cases hg : goodB l = true
  · have e : madeL l = l := by unfold madeL; rw [if_pos hg]
    rw [e, hg, hll]
    rw [hg] at HG
    clear e hg hs
    go_enter Tryz.func53, Tryz.ntmps53
    go_wp2_with fail
    refine Calls.mono HG.out ?_
    rintro e w1 ⟨rfl, hb1⟩
    have h1 := h.kept (grown_of hb1) (by cases hv : (Value.slice a len cap).ownBlock <;> simp)
    clear h
    go_wp2
    go_ret2
    exact ⟨_, rfl, h1, hb1⟩
  · have e : madeL l = [] := by unfold madeL; rw [if_neg hg]
    have hg' : goodB l = false := by simpa using hg
    rw [e, hg']
    rw [hg'] at HG
    clear e hg hg' hs
    go_enter Tryz.func53, Tryz.ntmps53
    go_wp2_with fail
    refine Calls.mono HG.out ?_
    rintro e w1 ⟨rfl, hb1⟩
    go_wp2
    go_ret2
    exact ⟨_, rfl, World.ownsRow_nil _ _ _ _, hb1⟩

end Go.Proofs.YtpjgjpjfchfmlaaGreatDoor
namespace Go.Proofs.YtpjgjpjfchfmlaaGreatDoor
open Go.ChangeShapes Go.WideShapes Go.ChangeAt Go.RowKit
set_option linter.unusedVariables false

/-- The slice (a, len) of lists of nodes holds the lists ls in the world w. -/
def NNSl (w : World) (a : Option Addr) (len : Nat) (ls : List (List (Int × Int))) : Prop :=
  ls.length = len ∧ (len = 0 ∨ ∃ b off, a = some ⟨b, off, none⟩ ∧ b < w.heap.size ∧ ∀ i, i < len → ∃ ai li ci, w.cell? ⟨b, off + i, none⟩ = some (.slice ai li ci) ∧ li ≤ 9223372036854775807 ∧ li ≤ ci ∧ NSl w ai li (ls.getD i []))
theorem NNSl.keep {w w' : World} {a : Option Addr} {len : Nat} {ls : List (List (Int × Int))} (h : NNSl w a len ls) (hb : Below w.heap.size w w') : NNSl w' a len ls := by
  refine ⟨h.1, ?_⟩
  rcases h.2 with h0 | ⟨b, off, ha, hlt, hc⟩
  · exact .inl h0
  · refine .inr ⟨b, off, ha, Nat.lt_of_lt_of_le hlt hb.size, fun i hi => ?_⟩
    obtain ⟨ai, li, ci, h1, h2, h2', h3⟩ := hc i hi
    exact ⟨ai, li, ci, (hb.cell (p := ⟨b, off + i, none⟩) hlt).trans h1, h2, h2', h3.keep hb⟩
theorem NNSl.at {w : World} {a : Option Addr} {len : Nat} {ls : List (List (Int × Int))} (h : NNSl w a len ls) (h0 : 0 < len) :
    ∃ b off, a = some ⟨b, off, none⟩ ∧ b < w.heap.size ∧ ∀ i, i < len → ∃ ai li ci, w.cell? ⟨b, off + i, none⟩ = some (.slice ai li ci) ∧ li ≤ 9223372036854775807 ∧ li ≤ ci ∧ NSl w ai li (ls.getD i []) := by
  rcases h.2 with h1 | h1
  · omega
  · exact h1
/-- The first n lists, one behind the other. -/
def cat (ls : List (List (Int × Int))) (n : Nat) : List (Int × Int) := (ls.take n).flatten
theorem cat_zero (ls : List (List (Int × Int))) : cat ls 0 = [] := rfl
theorem cat_succ (ls : List (List (Int × Int))) (n : Nat) (h : n < ls.length) : cat ls (n + 1) = cat ls n ++ ls.getD n [] := by
  unfold cat
  rw [List.take_succ_eq_append_getElem h, List.flatten_append, List.getD_eq_getElem?_getD, List.getElem?_eq_getElem h]
  simp
theorem node_row (w : World) (x y : Int) : NSl (w.alloc (.cells #[.int .i64 x, .int .i64 y] 77)) (some ⟨w.heap.size, 0, none⟩) 1 [(x, y)] := by
  refine ⟨rfl, .inr ⟨w.heap.size, 0, rfl, by simp, fun i hi => ?_⟩⟩
  obtain rfl : i = 0 := by omega
  constructor <;> simp [go_sem]
theorem node_row_at (w : World) (s : Nat) (hs : w.heap.size = s) (x y : Int) : NSl (w.alloc (.cells #[.int .i64 x, .int .i64 y] 77)) (some ⟨s, 0, none⟩) 1 [(x, y)] := by
  subst hs
  exact node_row w x y
end Go.Proofs.YtpjgjpjfchfmlaaGreatDoor
