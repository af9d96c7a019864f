/-
  PROVED HERE: what the program says of a list of terms, and of a made term, in a world whose table of arities is laid. No other condition.
-/
import Derived.Test.YtlpefaaohcgboaaDoorIGood
import Derived.Test.YtlpefaaohcgboaaDoorMany
import Derived.Test.YtlpefaaohcgboaaDoorKeeps
namespace Go.Proofs.YtlpefaaohcgboaaDoor
open Go.ChangeShapes Go.WideShapes Go.ChangeAt Go.RowKit
set_option linter.unusedVariables false

def allB (ls : List (List (Int × Int))) : Bool := decide (∀ i, i < ls.length → goodB (ls.getD i []) = true)
set_option maxRecDepth 20000 in
theorem implAll_any (b : Option Addr) (lb cb : Nat) (ls : List (List (Int × Int))) (w : World) (hT : Tab w) (h : NNSl w b lb ls) (hm : lb ≤ 9223372036854775806) :
    Calls Tryd.prog 41 #[.slice b lb cb] w fun e w' => e = .returned (.bool (allB ls)) ∧ Below w.heap.size w w' := by
  have hlb := h.1
  have HT : Hid (Tab w) := hT
  have HS : Hid (NNSl w b lb ls) := h
  have HBad : Hid (∀ i, i < lb → goodB (ls.getD i []) = false → allB ls = false) := fun i hi hb => by
    unfold allB
    rw [decide_eq_false]
    intro hh
    rw [hh i (by omega)] at hb
    cases hb
  have HAll : Hid ((∀ i, i < lb → goodB (ls.getD i []) = true) → allB ls = true) := fun hh => by
    unfold allB
    rw [decide_eq_true]
    rw [hlb]; exact hh
  generalize allB ls = K at HBad HAll ⊢
  clear h hT
  go_enter Tryd.func41, Tryd.ntmps41
  go_wp2_with fail
  go_loopw [7] (fun i wr => ∃ n : Nat, n ≤ lb ∧ i = .int .i64 n ∧ Hid (∀ i, i < n → goodB (ls.getD i []) = true) ∧ Below w.heap.size w wr) (fun i _ => lb - (intOf i).toNat)
  case atStart => exact ⟨0, Nat.zero_le _, rfl, fun i hi => absurd hi (Nat.not_lt_zero _), Below.refl _ _⟩
  case round =>
    obtain ⟨n, hn, rfl, hgood, hbr⟩ := hrel
    by_cases hlt : n < lb
    · obtain ⟨bb, boff, rfl, hbl, hc⟩ := (HS.out.keep hbr).at (by omega)
      obtain ⟨ai, li, ci, cc, hli, _, hsl⟩ := hc n hlt
      have hbad := HBad.out n hlt
      have C := implGood_any ai li ci _ wr (HT.out.keeps hbr) hsl hli
      have hgn : goodB (ls.getD n []) = true → Hid (∀ i, i < n + 1 → goodB (ls.getD i []) = true) := fun hh i hi' => by
        rcases Nat.lt_or_ge i n with h0 | h0
        · exact hgood.out i h0
        · rw [show i = n from by omega]; exact hh
      clear hc hgood
      have i4 : (n : Int) < lb := by omega
      generalize ls.getD n [] = L at hsl hbad C hgn
      cases hg : goodB L with
      | false =>
        rw [hg] at C
        have HB := (show Hid _ from hbad hg)
        have C' := (show Hid _ from C)
        clear C hbad hgn hg
        go_wp2_with fail
        refine Calls.mono C'.out ?_
        rintro e w3 ⟨rfl, hb3⟩
        have hB3 := hbr.trans (hb3.mono hbr.size)
        go_wp2
        go_ret
        exact ⟨by rw [HB.out]; rfl, hB3⟩
      | true =>
        rw [hg] at C
        have HGN := hgn hg
        have C' := (show Hid _ from C)
        clear C hbad hgn hg
        go_wp2_with fail
        refine Calls.mono C'.out ?_
        rintro e w3 ⟨rfl, hb3⟩
        have hB3 := hbr.trans (hb3.mono hbr.size)
        clear hbr hb3 C'
        go_wp2
        go_roundw
        case rel => exact ⟨n + 1, by omega, by go_num, HGN, hB3⟩
        case measure => simp [intOf]; omega
    · have hh := HAll.out (fun i hi => hgood.out i (by omega))
      have n4 : ¬ (n : Int) < lb := by omega
      have HH := (show Hid _ from hh)
      clear hh HBad HAll
      go_wp2
      go_ret
      exact ⟨by rw [HH.out]; rfl, hbr⟩

theorem implWhere_any (base : Nat) (v : Value) (len : Nat) (l : List (Int × Int)) (w : World) (hT : Tab w) (h : w.ownsRow base 69 2 v len (flat l)) (hb : base ≤ w.heap.size) (hm : len ≤ 9223372036854775807) :
    Calls Tryd.prog 42 #[v] w fun e w' => ∃ v' : Value, e = .returned (.tuple #[v', .bool (goodB l)]) ∧ w'.ownsRow base 69 2 v' (if goodB l = true then l else []).length (flat (if goodB l = true then l else [])) ∧ Below w.heap.size w w' := by
  obtain ⟨a, cap, rfl, hs⟩ := NSl.row h
  have HG := (show Hid _ from implGood_any a len cap l w hT hs hm)
  have hll := hs.1
  by_cases hg : goodB l = true
  · rw [if_pos hg, hg, hll]
    rw [hg] at HG
    clear hg hs
    go_enter Tryd.func42, Tryd.ntmps42
    go_wp2_with fail
    refine Calls.mono HG.out ?_
    rintro e w1 ⟨rfl, hb1⟩
    have h1 := own_keep h hb1
    clear h
    go_wp2
    go_ret2
    exact ⟨_, rfl, h1, hb1⟩
  · have hg' : goodB l = false := by simpa using hg
    rw [if_neg hg, hg']
    rw [hg'] at HG
    clear hg hg' hs
    go_enter Tryd.func42, Tryd.ntmps42
    go_wp2_with fail
    refine Calls.mono HG.out ?_
    rintro e w1 ⟨rfl, hb1⟩
    go_wp2
    go_ret2
    exact ⟨_, rfl, World.ownsRow_nil _ _ _ _, hb1⟩
end Go.Proofs.YtlpefaaohcgboaaDoor
