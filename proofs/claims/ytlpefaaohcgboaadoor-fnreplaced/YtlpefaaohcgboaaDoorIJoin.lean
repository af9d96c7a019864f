/-
  PROVED HERE: what the program says of terms joined by an op, at every number and every list of lists of nodes, in a world whose table of arities is laid. No other condition.
-/
import Derived.Test.YtlpefaaohcgboaaDoorIConcat
import Derived.Test.YtlpefaaohcgboaaDoorIAll
import Derived.Test.YtlpefaaohcgboaaDoorJoin
namespace Go.Proofs.YtlpefaaohcgboaaDoor
open Go.ChangeShapes Go.WideShapes Go.ChangeAt Go.RowKit
set_option linter.unusedVariables false

set_option maxHeartbeats 1600000 in
set_option maxRecDepth 20000 in
theorem implJoin_in (op : Int) (a : Option Addr) (len cap : Nat) (ls : List (List (Int × Int))) (w : World) (hT : Tab w) (h : NNSl w a len ls) (h1 : 3 ≤ op) (h2 : op ≤ 11) (hl : ar op = len) (hall : allB ls = true) :
    Calls Tryd.prog 26 #[.int .i64 op, .slice a len cap] w fun e w' => ∃ v : Value, e = .returned (.tuple #[v, .bool (joinOk op ls)]) ∧ w'.ownsRow w.heap.size 69 2 v (joinL op ls).length (flat (joinL op ls)) ∧ Below w.heap.size w w' := by
  obtain ⟨i0, hi, hz0, hz1, hz2⟩ := info_parts infoNode
  have hll := h.1
  have har := ar_range op
  have h0 : 0 < ar op := by
    rcases ops op with h' | rfl | rfl | h'
    · omega
    · omega
    · omega
    · rcases h' with rfl | rfl | rfl | rfl | rfl | rfl | rfl | rfl | rfl <;> decide
  have HA : Hid (Calls Tryd.prog 48 #[.int .i64 op] w fun e w' => e = .returned (.tuple #[.int .i64 (len : Nat), .bool true]) ∧ w' = w) := by
    have := implArity_any op w hT
    rwa [decide_eq_true (by omega), show arN op = len from by unfold arN; rw [if_pos (by omega)]; exact hl] at this
  have HAll : Hid (Calls Tryd.prog 41 #[.slice a len cap] w fun e w' => e = .returned (.bool true) ∧ Below w.heap.size w w') := by
    have := implAll_any a len cap ls w hT h (by omega)
    rwa [hall] at this
  have hin : joinIn op ls = true := by unfold joinIn; rw [hll, decide_eq_true ⟨h1, h2, hl⟩]
  have hgd : ∀ i, i < len → goodB (ls.getD i []) = true := by
    unfold allB at hall
    have := of_decide_eq_true hall
    rwa [hll] at this
  have e1 : joinOk op ls = goodB (cat ls len ++ [(op, 0)]) := by
    unfold joinOk joinAll
    rw [hin, show allGood ls = true from hall, hll]
    rfl
  have e2 : joinL op ls = madeL (cat ls len ++ [(op, 0)]) := by
    unfold joinL joinAll
    rw [hin, show allGood ls = true from hall, hll]
    rfl
  rw [e1, e2]
  have hcl := cat_len ls (fun i hi => (good_pile (hgd i (by omega))).2.2) len (by omega)
  have htot : tot ls len ≤ 120 := by unfold tot; omega
  have HCon : Hid (∀ W, Below w.heap.size w W → Calls Tryd.prog 54 #[.slice a len cap] W fun e w' => ∃ v : Value, e = .returned v ∧ w'.ownsRow W.heap.size 69 2 v (tot ls len) (flat (cat ls len)) ∧ Below W.heap.size W w') := fun W hW =>
    concat_any a len cap ls W ((Lay.of h (by omega) (fun i hi => (good_pile (hgd i hi)).2.1)).keep hW) (by omega) (by omega)
  have hLl : (cat ls len ++ [(op, 0)]).length = tot ls len + 1 := by rw [List.length_append]; rfl
  have hfl : flat (cat ls len ++ [(op, 0)]) = flat (cat ls len) ++ [.int .i64 op, .int .i64 0] := by rw [flat_append]; rfl
  have HW : Hid (∀ (v : Value) (W : World), W.ownsRow w.heap.size 69 2 v (tot ls len + 1) (flat (cat ls len) ++ [.int .i64 op, .int .i64 0]) → Below w.heap.size w W → Calls Tryd.prog 42 #[v] W fun e w' => ∃ v' : Value, e = .returned (.tuple #[v', .bool (goodB (cat ls len ++ [(op, 0)]))]) ∧ w'.ownsRow w.heap.size 69 2 v' (madeL (cat ls len ++ [(op, 0)])).length (flat (madeL (cat ls len ++ [(op, 0)]))) ∧ Below W.heap.size W w') := fun v W hr hbW => by
    rw [← hfl] at hr
    exact implWhere_any _ v _ _ W (hT.keeps hbW) hr hbW.size (by omega)
  generalize madeL (cat ls len ++ [(op, 0)]) = ML at HW ⊢
  generalize goodB (cat ls len ++ [(op, 0)]) = G at HW ⊢
  generalize tot ls len = T at HCon HW htot
  generalize flat (cat ls len) = F at HCon HW
  have i1 : ((len : Int) == 0) = false := by simp; omega
  have i2 : ((len : Int) != len) = false := by simp
  have hl3 : len ≤ 3 := by omega
  clear h hT hall hin hgd e1 e2 hcl hLl hfl
  go_enter Tryd.func26, Tryd.ntmps26
  go_wp2_with fail
  refine Calls.mono HA.out ?_
  rintro e w1 ⟨rfl, rfl⟩
  clear HA
  go_wp2_with fail
  refine Calls.mono HAll.out ?_
  rintro e w2 ⟨rfl, hb2⟩
  clear HAll
  go_wp2_with fail
  refine Calls.mono (HCon.out _ hb2) ?_
  rintro e w3 ⟨v3, rfl, hown3, hb3⟩
  have hB3 := hb2.trans (hb3.mono hb2.size)
  have hrow3 := (own_base hown3 hb2.size).alloc (.cells #[.int .i64 op, .int .i64 0] 69)
  have hnode := node_row w3 op 0
  have hba := hB3.alloc hB3.size (.cells #[.int .i64 op, .int .i64 0] 69)
  clear HCon hown3
  go_wp2_with (first | (at_builtin; refine wpList_append_own _ rfl _ _ 24 rfl w1.heap.size 69 i0 (.agg #[.int .i64 0, .int .i64 0]) 2 16 Tryd.underlying24 hi hz0 hz1 hz2 rfl (by decide) v3 _ _ rfl hrow3 ⟨w3.heap.size, 0, none⟩ 1 1 (flat [(op, 0)]) rfl rfl (flat_cells hnode) (flat_one _) (by unfold maxLen; omega) (by omega) hba.size ?_; intro v5 w5 hown5 hg5 _) | fail)
  have hB5 : Below w1.heap.size w1 w5 := hba.grown hg5 hba.size (own_ge hrow3)
  clear hg5 hrow3 hnode hba
  refine Calls.mono (HW.out _ _ hown5 hB5) ?_
  rintro e w6 ⟨v6, rfl, hown6, hb6⟩
  go_wp2
  go_ret2
  exact ⟨_, rfl, hown6, hB5.trans (hb6.mono hB5.size)⟩

theorem implJoin_any (op : Int) (a : Option Addr) (len cap : Nat) (ls : List (List (Int × Int))) (w : World) (hT : Tab w) (h : NNSl w a len ls) (hm : len ≤ 9223372036854775806) :
    Calls Tryd.prog 26 #[.int .i64 op, .slice a len cap] w fun e w' => ∃ v : Value, e = .returned (.tuple #[v, .bool (joinOk op ls)]) ∧ w'.ownsRow w.heap.size 69 2 v (joinL op ls).length (flat (joinL op ls)) ∧ Below w.heap.size w w' := by
  have hll := h.1
  have HA := (show Hid _ from implArity_any op w hT)
  by_cases hin : 3 ≤ op ∧ op ≤ 11 ∧ ar op = len
  · by_cases hall : allB ls = true
    · exact implJoin_in op a len cap ls w hT h hin.1 hin.2.1 hin.2.2 hall
    · have hall' : allB ls = false := by simpa using hall
      have e1 : joinOk op ls = false := by unfold joinOk; rw [show allGood ls = false from hall', Bool.and_false]; rfl
      have e2 : joinL op ls = [] := by unfold joinL; rw [show allGood ls = false from hall', Bool.and_false]; rfl
      have HAll : Hid (Calls Tryd.prog 41 #[.slice a len cap] w fun e w' => e = .returned (.bool false) ∧ Below w.heap.size w w') := by
        have := implAll_any a len cap ls w hT h (by omega)
        rwa [hall'] at this
      rw [e1, e2]
      have h0 : 0 < ar op := by
        rcases ops op with h' | rfl | rfl | h'
        · omega
        · omega
        · omega
        · rcases h' with rfl | rfl | rfl | rfl | rfl | rfl | rfl | rfl | rfl <;> decide
      rw [decide_eq_true (show 0 ≤ ar op by omega), show arN op = len from by unfold arN; rw [if_pos (by omega)]; exact hin.2.2] at HA
      have hr := ar_range op
      have hl3 : len ≤ 3 := by omega
      have i1 : ((len : Int) == 0) = false := by simp; omega
      have i2 : ((len : Int) != len) = false := by simp
      clear hT h hall hall' hin e1 e2 h0 hr
      go_enter Tryd.func26, Tryd.ntmps26
      go_wp2_with fail
      refine Calls.mono HA.out ?_
      rintro e w1 ⟨rfl, rfl⟩
      clear HA
      go_wp2_with fail
      refine Calls.mono HAll.out ?_
      rintro e w2 ⟨rfl, hb2⟩
      go_wp2
      go_ret2
      exact ⟨_, rfl, World.ownsRow_nil _ _ _ _, hb2⟩
  · have hj : joinIn op ls = false := by unfold joinIn; rw [hll, decide_eq_false hin]
    have e1 : joinOk op ls = false := by unfold joinOk; rw [hj, Bool.false_and]; rfl
    have e2 : joinL op ls = [] := by unfold joinL; rw [hj, Bool.false_and]; rfl
    rw [e1, e2]
    have hr := ar_range op
    by_cases h0 : 0 ≤ ar op
    · rw [decide_eq_true h0, show arN op = ar op from by unfold arN; rw [if_pos h0]] at HA
      by_cases hz : ar op = 0
      · rw [hz] at HA
        clear hT h hin e1 e2 hj hr h0 hz
        go_enter Tryd.func26, Tryd.ntmps26
        go_wp2_with fail
        refine Calls.mono HA.out ?_
        rintro e w1 ⟨rfl, rfl⟩
        go_wp2
        go_ret2
        exact ⟨_, rfl, World.ownsRow_nil _ _ _ _, Below.refl _ _⟩
      · have h3 : 3 ≤ op ∧ op ≤ 11 := by
          rcases ops op with h' | rfl | rfl | h'
          · have := ar_out op h'; omega
          · exact absurd rfl hz
          · exact absurd rfl hz
          · omega
        obtain ⟨m, hm'⟩ : ∃ m : Nat, ar op = m := ⟨(ar op).toNat, by omega⟩
        have hne : ¬ m = len := fun e => hin ⟨h3.1, h3.2, by omega⟩
        rw [hm'] at HA
        have i1 : ((m : Int) == 0) = false := by simp; omega
        have i2 : ((len : Int) != m) = true := by rw [bne_iff_ne]; omega
        clear hT h hin e1 e2 hj hr h0 hz
        go_enter Tryd.func26, Tryd.ntmps26
        go_wp2_with fail
        refine Calls.mono HA.out ?_
        rintro e w1 ⟨rfl, rfl⟩
        go_wp2
        go_ret2
        exact ⟨_, rfl, World.ownsRow_nil _ _ _ _, Below.refl _ _⟩
    · rw [decide_eq_false h0] at HA
      generalize arN op = m at HA
      clear hT h hin e1 e2 hj hr h0
      go_enter Tryd.func26, Tryd.ntmps26
      go_wp2_with fail
      refine Calls.mono HA.out ?_
      rintro e w1 ⟨rfl, rfl⟩
      go_wp2
      go_ret2
      exact ⟨_, rfl, World.ownsRow_nil _ _ _ _, Below.refl _ _⟩
end Go.Proofs.YtlpefaaohcgboaaDoor
