/-
  PROVED HERE: what slices.Concat gives of lists of nodes that are not too long. No other condition.
-/
import Derived.Test.YtlpefaaohcgboaaDoorLots
import Derived.Test.YtlpefaaohcgboaaDoorSteps
import Derived.Lib.AppendZeros
namespace Go.Proofs.YtlpefaaohcgboaaDoor
open Go.ChangeShapes Go.WideShapes Go.ChangeAt Go.RowKit
set_option linter.unusedVariables false

theorem own_cut {w : World} {base e g n cap : Nat} {xs : List Value} (h : w.ownsRow base e 2 (.slice (some ⟨g, 0, none⟩) n cap) n xs) : w.ownsRow base e 2 (.slice (some ⟨g, 0, none⟩) 0 cap) 0 [] := by
  refine ⟨rfl, ?_⟩
  rcases h.2 with ⟨h', _⟩ | ⟨g', cap', cur, h', hb, hg, hc, hm, hs, ht⟩
  · simp at h'
  · simp only [Value.slice.injEq, Option.some.injEq, Addr.mk.injEq, and_true, true_and] at h'
    obtain ⟨rfl, rfl⟩ := h'
    exact .inr ⟨g, cap, cur, rfl, hb, hg, Nat.zero_le _, hm, hs, by simp⟩
set_option maxRecDepth 20000 in
theorem grow_nil (n : Nat) (hn : n ≤ 2097152) (w : World) :
    Calls Tryd.prog 74 #[.slice none 0 0, .int .i64 n] w fun e w' => ∃ v : Value, e = .returned v ∧ w'.ownsRow w.heap.size 69 2 v 0 (flat []) ∧ Below w.heap.size w w' := by
  obtain ⟨i0, hi, hz0, hz1, hz2⟩ := info_parts infoNode
  by_cases h0 : n = 0
  · subst h0
    go_enter Tryd.func74, Tryd.ntmps74
    go_wp2
    go_ret
    exact ⟨_, rfl, World.ownsRow_nil _ _ _ _, Below.refl _ _⟩
  · have i1 : (0 : Int) < n := by omega
    have hrz : ∀ ty, (Builtin.append_ #[24, 3] ty #[.slice none 0 0, .int .i64 (n : Int)]).run Tryd.prog w = .ok (.slice (some ⟨w.heap.size, 0, none⟩) n (grownCap w n 0 69)) (w.drew.alloc (.cells (Builtin.zeroCells (Value.agg #[.int .i64 0, .int .i64 0]).cells n ++ Builtin.zeroCells (Value.agg #[.int .i64 0, .int .i64 0]).cells (grownCap w n 0 69 - n)) 69)) :=
      fun ty => Lib.run_append_nil_zeros w 24 3 ty 69 i0 _ .i64 .i64 Tryd.underlying24 Tryd.underlying3 hi hz0 n (by omega) (by omega) (by omega) (by rw [hz2]; omega)
    have hG1 := grownCap_ge w n 0 69
    have hG2 := grownCap_le_maxLen w n 0 69 (by unfold maxLen; omega)
    have hown : (w.drew.alloc (.cells (Builtin.zeroCells (Value.agg #[.int .i64 0, .int .i64 0]).cells n ++ Builtin.zeroCells (Value.agg #[.int .i64 0, .int .i64 0]).cells (grownCap w n 0 69 - n)) 69)).ownsRow w.heap.size 69 2 (.slice (some ⟨w.heap.size, 0, none⟩) 0 (grownCap w n 0 69)) 0 [] := by
      refine ⟨rfl, .inr ⟨w.heap.size, _, _, rfl, Nat.le_refl _, heap_alloc_new w.drew _, Nat.zero_le _, hG2, ?_, by simp⟩⟩
      rw [Array.size_append, size_zeroCells, size_zeroCells]
      have : (Value.agg #[.int .i64 0, .int .i64 0]).cells.size = 2 := rfl
      rw [this]
      omega
    have hb : Below w.heap.size w (w.drew.alloc (.cells (Builtin.zeroCells (Value.agg #[.int .i64 0, .int .i64 0]).cells n ++ Builtin.zeroCells (Value.agg #[.int .i64 0, .int .i64 0]).cells (grownCap w n 0 69 - n)) 69)) := (Below.refl _ _).drew.alloc (Nat.le_refl _) _
    generalize w.drew.alloc (.cells (Builtin.zeroCells (Value.agg #[.int .i64 0, .int .i64 0]).cells n ++ Builtin.zeroCells (Value.agg #[.int .i64 0, .int .i64 0]).cells (grownCap w n 0 69 - n)) 69) = W1 at hrz hown hb
    generalize grownCap w n 0 69 = G at hrz hG1 hG2 hown
    have HRZ := (show Hid _ from hrz)
    clear hrz
    go_enter Tryd.func74, Tryd.ntmps74
    go_wp2_with (at_builtin; refine Lib.wpList_append_run _ rfl _ _ _ _ rfl _ _ rfl rfl _ _ (HRZ.out _) ?_)
    go_ret
    exact ⟨_, rfl, hown, hb⟩

/-- Lists of nodes, none of them nil, in a row. -/
def Lay (w : World) (a : Option Addr) (lb : Nat) (ls : List (List (Int × Int))) : Prop :=
  ls.length = lb ∧ ∃ b off, a = some ⟨b, off, none⟩ ∧ b < w.heap.size ∧ ∀ i, i < lb → ∃ x ci, w.cell? ⟨b, off + i, none⟩ = some (.slice (some x) (ls.getD i []).length ci) ∧ ∀ j u, (flat (ls.getD i []))[j]? = some u → w.cell? (x.add j) = some u
theorem Lay.keep {w w' : World} {a : Option Addr} {lb : Nat} {ls : List (List (Int × Int))} (h : Lay w a lb ls) (hb : Below w.heap.size w w') : Lay w' a lb ls := by
  obtain ⟨h0, b, off, h1, h2, h3⟩ := h
  refine ⟨h0, b, off, h1, Nat.lt_of_lt_of_le h2 hb.size, fun i hi => ?_⟩
  obtain ⟨x, ci, c1, c2⟩ := h3 i hi
  refine ⟨x, ci, (hb.cell (p := ⟨b, off + i, none⟩) h2).trans c1, fun j u hj => ?_⟩
  have := c2 j u hj
  exact (hb.cell (World.block_lt_of_cell? w _ this)).trans this
theorem Lay.of {w : World} {a : Option Addr} {lb : Nat} {ls : List (List (Int × Int))} (h : NNSl w a lb ls) (h0 : 0 < lb) (hp : ∀ i, i < lb → 0 < (ls.getD i []).length) : Lay w a lb ls := by
  obtain ⟨b, off, h1, h2, h3⟩ := h.at h0
  refine ⟨h.1, b, off, h1, h2, fun i hi => ?_⟩
  obtain ⟨ai, li, ci, c1, _, _, c2⟩ := h3 i hi
  have hl := c2.1
  have hp' := hp i hi
  obtain ⟨b', off', rfl, _, _⟩ := c2.at (by omega)
  exact ⟨_, ci, by rw [hl]; exact c1, flat_cells c2⟩

set_option maxHeartbeats 1600000 in
set_option maxRecDepth 20000 in
theorem concat_any (a : Option Addr) (lb cb : Nat) (ls : List (List (Int × Int))) (w : World) (h : Lay w a lb ls) (hl : lb ≤ 1048576) (ht : tot ls lb ≤ 1048576) :
    Calls Tryd.prog 54 #[.slice a lb cb] w fun e w' => ∃ v : Value, e = .returned v ∧ w'.ownsRow w.heap.size 69 2 v (tot ls lb) (flat (cat ls lb)) ∧ Below w.heap.size w w' := by
  obtain ⟨i0, hi, hz0, hz1, hz2⟩ := info_parts infoNode
  have hlb := h.1
  have HS : Hid (Lay w a lb ls) := h
  have HT : Hid (∀ k, k < lb → tot ls (k + 1) = tot ls k + (ls.getD k []).length ∧ tot ls (k + 1) ≤ tot ls lb) := fun k hk => by
    have := tot_succ ls k (by omega)
    have := tot_part ls k lb hk (by omega)
    exact ⟨by omega, by omega⟩
  have HCat : Hid (∀ k, k < lb → flat (cat ls (k + 1)) = flat (cat ls k) ++ flat (ls.getD k [])) := fun k hk => by
    rw [cat_succ ls k (by omega), flat_append]
  have HG : Hid (∀ W, Calls Tryd.prog 74 #[.slice none 0 0, .int .i64 (tot ls lb : Nat)] W fun e w' => ∃ v : Value, e = .returned v ∧ w'.ownsRow W.heap.size 69 2 v 0 (flat []) ∧ Below W.heap.size W w') := fun W => grow_nil (tot ls lb) (by omega) W
  clear h
  go_enter Tryd.func54, Tryd.ntmps54
  go_wp2_with fail
  go_loopw [3, 11] (fun x i wr => ∃ k : Nat, k ≤ lb ∧ i = .int .i64 k ∧ x = .int .i64 (tot ls k : Nat) ∧ tot ls k ≤ 1048576 ∧ wr = w) (fun _ i _ => lb - (intOf i).toNat)
  case atStart => exact ⟨0, Nat.zero_le _, rfl, rfl, Nat.zero_le _, rfl⟩
  case round =>
    obtain ⟨k, hk, rfl, rfl, htk, hwr⟩ := hrel
    have hwr' : w = wr := hwr.symm
    clear hwr
    subst hwr'
    by_cases hlt : k < lb
    · obtain ⟨_, b, off, rfl, hbl, hc⟩ := HS.out
      obtain ⟨x, ci, c1, _⟩ := hc k hlt
      obtain ⟨t1, t2⟩ := HT.out k hlt
      have i1 : (k : Int) < lb := by omega
      have i2 : ¬ ((tot ls k : Nat) : Int) + ((ls.getD k []).length : Nat) < 0 := by omega
      have HN : Hid (((tot ls k : Nat) : Int) + ((ls.getD k []).length : Nat) = ((tot ls (k + 1) : Nat) : Int) ∧ tot ls (k + 1) ≤ 1048576) := ⟨by omega, by omega⟩
      have i3 : (ls.getD k []).length ≤ 1048576 := by omega
      clear hc t1 t2
      generalize (ls.getD k []).length = li at c1 i2 i3 HN
      go_wp2
      go_roundw
      case rel => exact ⟨k + 1, by omega, by go_num, by rw [HN.out.1], HN.out.2, (by first | trivial | rfl)⟩
      case measure => simp [intOf]; omega
    · obtain rfl : k = lb := by omega
      go_wp2_with fail
      refine (HG.out _).mono ?_
      rintro e w1 ⟨v, rfl, hown, hb1⟩
      go_wp2_with fail
      go_loopw [6, 27] (fun y i w4 => ∃ n : Nat, n ≤ k ∧ i = .int .i64 n ∧ w4.ownsRow w.heap.size 69 2 y (tot ls n) (flat (cat ls n)) ∧ tot ls n ≤ 1048576 ∧ Below w.heap.size w w4) (fun _ i _ => k - (intOf i).toNat)
      case atStart => exact ⟨0, Nat.zero_le _, rfl, hown, Nat.zero_le _, hb1⟩
      case round =>
        clear hown hb1
        obtain ⟨n, hn, rfl, hrow, htn, hbk⟩ := hrel
        by_cases hlt : n < k
        · obtain ⟨_, b, off, rfl, hbl, hc⟩ := HS.out.keep hbk
          obtain ⟨x, ci, c1, hcs⟩ := hc n hlt
          obtain ⟨t1, t2⟩ := HT.out n hlt
          have hcat := HCat.out n hlt
          have i1 : (n : Int) < k := by omega
          have HN : Hid (tot ls (n + 1) = tot ls n + (ls.getD n []).length ∧ flat (cat ls (n + 1)) = flat (cat ls n) ++ flat (ls.getD n []) ∧ tot ls (n + 1) ≤ 1048576) := ⟨t1, hcat, by omega⟩
          have hlen : (flat (ls.getD n [])).length = (ls.getD n []).length * 2 := flat_len _
          have hone := flat_one (ls.getD n [])
          have hli : tot ls n + (ls.getD n []).length ≤ 1048576 := by omega
          have HC2 := (show Hid _ from And.intro hcs hone)
          clear hc t1 t2 hcat hcs hone
          generalize (ls.getD n []).length = li at c1 HN hlen hli
          generalize flat (ls.getD n []) = fl at HN hlen HC2
          generalize tot ls n = tn at hrow HN hli htn
          generalize flat (cat ls n) = fc at hrow HN
          go_wp2_with (at_builtin; refine wpList_append_own _ rfl _ _ 24 rfl w.heap.size 69 i0 (.agg #[.int .i64 0, .int .i64 0]) 2 16 Tryd.underlying24 hi hz0 hz1 hz2 rfl (by decide) u6 _ _ rfl hrow x li ci fl rfl hlen HC2.out.1 HC2.out.2 (by unfold maxLen; omega) (by omega) hbk.size ?_; intro v5 w5 hown5 hg5 _)
          have hB5 : Below w.heap.size w w5 := hbk.grown hg5 hbk.size (own_ge hrow)
          clear hg5 hrow hbk
          go_roundw
          case rel => exact ⟨n + 1, by omega, by go_num, by rw [HN.out.1, HN.out.2.1]; exact hown5, HN.out.2.2, hB5⟩
          case measure => simp [intOf]; omega
        · obtain rfl : n = k := by omega
          go_wp2
          go_ret
          exact ⟨_, rfl, hrow, hbk⟩
end Go.Proofs.YtlpefaaohcgboaaDoor
