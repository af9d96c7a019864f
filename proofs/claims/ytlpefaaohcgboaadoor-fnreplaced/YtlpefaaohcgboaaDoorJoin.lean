/-
  PROVED HERE: what the model says of terms joined by an op, at every number and every list of lists of nodes. No other condition.
-/
import Derived.Test.YtlpefaaohcgboaaDoorMany
import Derived.Test.YtlpefaaohcgboaaDoorIn
namespace Go.Proofs.YtlpefaaohcgboaaDoor
open Go.ChangeShapes Go.WideShapes Go.ChangeAt Go.RowKit
set_option linter.unusedVariables false

def joinIn (op : Int) (ls : List (List (Int × Int))) : Bool := decide (3 ≤ op ∧ op ≤ 11 ∧ ar op = ls.length)
def allGood (ls : List (List (Int × Int))) : Bool := decide (∀ i, i < ls.length → goodB (ls.getD i []) = true)
def joinAll (op : Int) (ls : List (List (Int × Int))) : List (Int × Int) := cat ls ls.length ++ [(op, 0)]
def joinOk (op : Int) (ls : List (List (Int × Int))) : Bool := if (joinIn op ls && allGood ls) = true then goodB (joinAll op ls) else false
def joinL (op : Int) (ls : List (List (Int × Int))) : List (Int × Int) := if (joinIn op ls && allGood ls) = true then madeL (joinAll op ls) else []

theorem cat_len (ls : List (List (Int × Int))) (h : ∀ i, i < ls.length → (ls.getD i []).length ≤ 40) : ∀ n, n ≤ ls.length → (cat ls n).length ≤ n * 40
  | 0, _ => by simp [cat]
  | n + 1, hn => by
    rw [cat_succ ls n (by omega), List.length_append]
    have := cat_len ls h n (by omega)
    have := h n (by omega)
    omega

set_option maxHeartbeats 1600000 in
theorem join_in (op : Int) (a : Option Addr) (len cap : Nat) (ls : List (List (Int × Int))) (w : World) (h : NNSl w a len ls) (h1 : 3 ≤ op) (h2 : op ≤ 11) (hl : ar op = len) :
    Calls Tryd.prog 27 #[.int .i64 op, .slice a len cap] w fun e w' => ∃ v : Value, e = .returned (.tuple #[v, .bool (joinOk op ls)]) ∧ w'.ownsRow w.heap.size 69 2 v (joinL op ls).length (flat (joinL op ls)) ∧ Below w.heap.size w w' := by
  obtain ⟨i0, hi, hz0, hz1, hz2⟩ := info_parts infoNode
  have hll := h.1
  have har := ar_range op
  have HA : ∀ W, Calls Tryd.prog 51 #[.int .i64 op] W fun e w' => e = .returned (.int .i64 len) ∧ w' = W := fun W => by
    have := l1Arity_any op W
    rwa [hl] at this
  have hin : joinIn op ls = true := by unfold joinIn; rw [hll, decide_eq_true ⟨h1, h2, hl⟩]
  have HBad : Hid (∀ i, i < len → goodB (ls.getD i []) = false → joinOk op ls = false ∧ joinL op ls = []) := fun i hi' hb => by
    have : allGood ls = false := by
      unfold allGood
      rw [decide_eq_false]
      intro hh
      rw [hh i (by omega)] at hb
      cases hb
    unfold joinOk joinL
    rw [this, Bool.and_false]
    exact ⟨rfl, rfl⟩
  have HAll : Hid ((∀ i, i < len → goodB (ls.getD i []) = true) → joinOk op ls = goodB (cat ls len ++ [(op, 0)]) ∧ joinL op ls = madeL (cat ls len ++ [(op, 0)])) := fun hh => by
    have : allGood ls = true := by unfold allGood; rw [decide_eq_true]; rw [hll]; exact hh
    unfold joinOk joinL joinAll
    rw [this, hin, hll]
    exact ⟨rfl, rfl⟩
  have HM : Hid (∀ (v : Value) (n : Nat) (L : List (Int × Int)) (W : World), W.ownsRow w.heap.size 69 2 v n (flat L) → w.heap.size ≤ W.heap.size → n ≤ 1000 → Calls Tryd.prog 43 #[v] W fun e w' => ∃ v' : Value, e = .returned (.tuple #[v', .bool (goodB L)]) ∧ w'.ownsRow w.heap.size 69 2 v' (madeL L).length (flat (madeL L)) ∧ Below W.heap.size W w') :=
    fun v n L W hr hb hn => made_any _ v _ _ W hr hb (by omega)
  have HG : Hid (∀ W ai li ci l, NSl W ai li l → li ≤ 9223372036854775807 → Calls Tryd.prog 16 #[.slice ai li ci] W fun e w' => e = .returned (.bool (goodB l)) ∧ Below W.heap.size W w') := fun W ai li ci l hW hm => specGood_any ai li ci l W hW hm
  generalize joinOk op ls = K at HBad HAll ⊢
  generalize joinL op ls = J at HBad HAll ⊢
  have HS : Hid (NNSl w a len ls) := h
  have hl3 : len ≤ 3 := by omega
  clear hin hl har h
  go_enter Tryd.func27, Tryd.ntmps27
  go_wp2_with fail
  refine (in_yes _ _ _ _ h1 h2).mono ?_
  rintro e w2 ⟨rfl, rfl⟩
  go_wp2_with fail
  refine (HA _).mono ?_
  rintro e w2 ⟨rfl, rfl⟩
  go_wp2_with fail
  go_loopw [6, 21] (fun y i wr => ∃ n : Nat, n ≤ len ∧ i = .int .i64 n ∧ wr.ownsRow w2.heap.size 69 2 y (cat ls n).length (flat (cat ls n)) ∧ (cat ls n).length ≤ n * 40 ∧ Hid (∀ i, i < n → goodB (ls.getD i []) = true) ∧ Below w2.heap.size w2 wr) (fun _ i _ => len - (intOf i).toNat)
  case atStart => exact ⟨0, Nat.zero_le _, rfl, World.ownsRow_nil _ _ _ _, by simp [cat], fun i hi => absurd hi (Nat.not_lt_zero _), Below.refl _ _⟩
  case round =>
    obtain ⟨n, hn, rfl, hrow, h40, hgood, hbr⟩ := hrel
    by_cases hlt : n < len
    · obtain ⟨b, off, rfl, hbl, hc⟩ := (HS.out.keep hbr).at (by omega)
      obtain ⟨ai, li, ci, cc, hli, _, hsl⟩ := hc n hlt
      have hcat := cat_succ ls n (by omega)
      have hbad := HBad.out n hlt
      have C := HG.out wr ai li ci _ hsl hli
      have hgn : goodB (ls.getD n []) = true → Hid (∀ i, i < n + 1 → goodB (ls.getD i []) = true) := fun hh i hi' => by
        rcases Nat.lt_or_ge i n with h0 | h0
        · exact hgood.out i h0
        · rw [show i = n from by omega]; exact hh
      clear hc hgood
      generalize ls.getD n [] = L at hsl hcat hbad C hgn
      cases hg : goodB L with
      | false =>
        rw [hg] at C
        have HB := (show Hid _ from hbad hg)
        have C' := (show Hid _ from C)
        clear C hbad hgn hg hcat
        go_wp2_with fail
        refine Calls.mono C'.out ?_
        rintro e w3 ⟨rfl, hb3⟩
        have hB3 := hbr.trans (hb3.mono hbr.size)
        go_wp2
        go_ret2
        rw [HB.out.1, HB.out.2]
        exact ⟨_, rfl, World.ownsRow_nil _ _ _ _, hB3⟩
      | true =>
        rw [hg] at C
        have HGN := hgn hg
        have C' := (show Hid _ from C)
        obtain ⟨_, g1, g2⟩ := good_pile hg
        have hL := hsl.1
        obtain ⟨b4, off4, rfl, _, _⟩ := hsl.at (by omega)
        have hfl : Hid (flat (cat ls (n + 1)) = flat (cat ls n) ++ flat L ∧ (cat ls (n + 1)).length = (cat ls n).length + li) := by
          rw [hcat, flat_append, List.length_append, hL]; exact ⟨rfl, rfl⟩
        clear C hbad hgn hg hcat
        generalize cat ls n = N0 at hrow h40 hfl
        go_wp2_with fail
        refine Calls.mono C'.out ?_
        rintro e w3 ⟨rfl, hb3⟩
        have hrow3 := hrow.kept (grown_of hb3) (by cases hv : u6.ownBlock <;> simp)
        have hB3 := hbr.trans (hb3.mono hbr.size)
        have hcs := flat_cells (hsl.keep hb3)
        clear hrow hb3 hbr C'
        go_wp2_with (at_builtin; refine wpList_append_own _ rfl _ _ 24 rfl w2.heap.size 69 i0 (.agg #[.int .i64 0, .int .i64 0]) 2 16 Tryd.underlying24 hi hz0 hz1 hz2 rfl (by decide) _ _ _ rfl hrow3 ⟨b4, off4, none⟩ li ci (flat L) rfl (by rw [flat_len]; omega) hcs (flat_one L) (by unfold maxLen; omega) (by omega) hB3.size ?_; intro v4 w4 hown4 hg4 _)
        have hB4 : Below w2.heap.size w2 w4 := hB3.grown hg4 hB3.size (own_ge hrow3)
        clear hg4 hrow3 hcs hB3
        go_roundw
        case rel =>
          exact ⟨n + 1, by omega, by go_num, by rw [hfl.out.1, hfl.out.2]; exact hown4, by have := hfl.out.2; omega, HGN, hB4⟩
        case measure => simp [intOf]; omega
    · obtain rfl : n = len := by omega
      have HF := (show Hid _ from HAll.out hgood.out)
      have hnode := node_row wr op 0
      have hba := hbr.alloc hbr.size (.cells #[.int .i64 op, .int .i64 0] 69)
      have hrow' := hrow.alloc (.cells #[.int .i64 op, .int .i64 0] 69)
      have HL : Hid (flat (cat ls n ++ [(op, 0)]) = flat (cat ls n) ++ flat [(op, 0)]) := flat_append _ _
      have hwr := hbr.size
      generalize cat ls n = N0 at hrow' h40 HF HL
      clear hrow
      go_wp2_with (at_builtin; refine wpList_append_own _ rfl _ _ 24 rfl w2.heap.size 69 i0 (.agg #[.int .i64 0, .int .i64 0]) 2 16 Tryd.underlying24 hi hz0 hz1 hz2 rfl (by decide) _ _ _ rfl hrow' ⟨wr.heap.size, 0, none⟩ 1 1 (flat [(op, 0)]) rfl rfl (flat_cells hnode) (flat_one _) (by unfold maxLen; omega) (by omega) hba.size ?_; intro v4 w4 hown4 hg4 _)
      have hB4 : Below w2.heap.size w2 w4 := hba.grown hg4 hba.size (own_ge hrow')
      rw [← HL.out] at hown4
      clear hg4 hrow' hnode hba
      refine (HM.out _ _ _ _ hown4 hB4.size (by omega)).mono ?_
      rw [← HF.out.1, ← HF.out.2]
      rintro e w6 ⟨v6, rfl, hown6, hb6⟩
      have hB6 := hB4.trans (hb6.mono hB4.size)
      clear hown4 hb6 hB4
      go_wp2
      go_ret2
      exact ⟨_, rfl, hown6, hB6⟩

theorem specJoin_any (op : Int) (a : Option Addr) (len cap : Nat) (ls : List (List (Int × Int))) (w : World) (h : NNSl w a len ls) (hm : len ≤ 9223372036854775807) :
    Calls Tryd.prog 27 #[.int .i64 op, .slice a len cap] w fun e w' => ∃ v : Value, e = .returned (.tuple #[v, .bool (joinOk op ls)]) ∧ w'.ownsRow w.heap.size 69 2 v (joinL op ls).length (flat (joinL op ls)) ∧ Below w.heap.size w w' := by
  have hll := h.1
  by_cases hin : 3 ≤ op ∧ op ≤ 11 ∧ ar op = len
  · exact join_in op a len cap ls w h hin.1 hin.2.1 hin.2.2
  · have hj : joinIn op ls = false := by unfold joinIn; rw [hll, decide_eq_false hin]
    have e1 : joinOk op ls = false := by unfold joinOk; rw [hj, Bool.false_and]; rfl
    have e2 : joinL op ls = [] := by unfold joinL; rw [hj, Bool.false_and]; rfl
    rw [e1, e2]
    clear e1 e2 hj
    by_cases ho : 3 ≤ op ∧ op ≤ 11
    · have HA : ∀ W, Calls Tryd.prog 51 #[.int .i64 op] W fun e w' => e = .returned (.int .i64 (ar op)) ∧ w' = W := fun W => l1Arity_any op W
      have hne : ((len : Int) != ar op) = true := by rw [bne_iff_ne]; intro h0; exact hin ⟨ho.1, ho.2, h0.symm⟩
      obtain ⟨h1, h2⟩ := ho
      clear hin
      generalize ar op = m at HA hne
      go_enter Tryd.func27, Tryd.ntmps27
      go_wp2_with fail
      refine (in_yes _ _ _ _ h1 h2).mono ?_
      rintro e w2 ⟨rfl, rfl⟩
      go_wp2_with fail
      refine (HA _).mono ?_
      rintro e w2 ⟨rfl, rfl⟩
      go_wp2
      go_ret2
      exact ⟨_, rfl, World.ownsRow_nil _ _ _ _, Below.refl _ _⟩
    · have i2 : op < 3 ∨ 11 < op := by omega
      clear hin ho
      go_enter Tryd.func27, Tryd.ntmps27
      go_wp2_with fail
      refine (in_no _ _ _ _ i2).mono ?_
      rintro e w2 ⟨rfl, rfl⟩
      go_wp2
      go_ret2
      exact ⟨_, rfl, World.ownsRow_nil _ _ _ _, Below.refl _ _⟩
end Go.Proofs.YtlpefaaohcgboaaDoor
