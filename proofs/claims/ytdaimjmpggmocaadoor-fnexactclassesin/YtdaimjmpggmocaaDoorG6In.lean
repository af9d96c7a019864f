/-
  PROVED HERE: what the model's and the program's NodesIn and ClassesIn answer, at every graph and number, in a world whose table of arities is laid. No other condition.
-/
import Derived.Test.YtdaimjmpggmocaaDoorE6Graph
import Derived.Test.YtdaimjmpggmocaaDoorI6Graph
import Derived.Test.YtdaimjmpggmocaaDoorP5Members
import Derived.Test.YtdaimjmpggmocaaDoorP5Count
namespace Go.Proofs.YtdaimjmpggmocaaDoor
open Go.ChangeShapes Go.WideShapes Go.ChangeAt Go.RowKit
set_option linter.unusedVariables false

set_option maxHeartbeats 800000 in
theorem l6Classes_any (an : Option Addr) (ln cn : Nat) (a : Option Addr) (len cap : Nat) (l : List Int) (w : World) (h : Sl w a len l) (hm : len ≤ 200) :
    Calls Tryd.prog 61 #[.agg #[.slice an ln cn, .slice a len cap]] w fun e w' => ∃ v : Value, e = .returned v ∧ w'.ownsRow w.heap.size 3 1 v (rootsL l).length (vals (rootsL l)) ∧ Below w.heap.size w w' := by
  have hll := h.1
  obtain ⟨i0, hi, hz0, hz1, hz2⟩ := info_parts infoInt
  have HS := (show Hid _ from h)
  unfold rootsL
  rw [hll]
  have HU : Hid (∀ k, pickU (fun i => l.getD i 0 == (i : Int)) (k + 1) = if l.getD k 0 = (k : Int) then pickU (fun i => l.getD i 0 == (i : Int)) k ++ [((k : Nat) : Int)] else pickU (fun i => l.getD i 0 == (i : Int)) k) := fun k => by
    rw [pickU_succ]
    by_cases e : l.getD k 0 = (k : Int)
    · rw [if_pos e, if_pos (by simpa using e)]
    · rw [if_neg e, if_neg (by simpa using e)]
  have HL : Hid (∀ k, (pickU (fun i => l.getD i 0 == (i : Int)) k).length ≤ k) := fun k => pickU_len _ k
  have H0 : Hid (pickU (fun i => l.getD i 0 == (i : Int)) 0 = []) := rfl
  generalize pickU (fun i => l.getD i 0 == (i : Int)) = U at HU HL H0 ⊢
  clear h
  have HB1 : Hid (Below w.heap.size w (w.alloc (.cells #[.slice an ln cn, .slice a len cap] 30))) := (Below.refl _ _).alloc (Nat.le_refl _) _
  go_enter Tryd.func61, Tryd.ntmps61
  go_wp2_with fail
  go_loopw [3, 9] (fun x i wr => ∃ (k : Nat), k ≤ len ∧ i = .int .i64 k ∧ wr.ownsRow w.heap.size 3 1 x (U k).length (vals (U k)) ∧ Below w.heap.size w wr) (fun _ i _ => len - (intOf i).toNat)
  case atStart => exact ⟨0, Nat.zero_le _, rfl, by rw [H0.out]; exact World.ownsRow_nil _ _ _ _, HB1.out⟩
  case round =>
    obtain ⟨k, hk, rfl, hrow, hbr⟩ := hrel
    by_cases hlt : k < len
    · obtain ⟨b, off, rfl, hbl, hc⟩ : ∃ b off, a = some ⟨b, off, none⟩ ∧ b < w.heap.size ∧ ∀ i, i < len → w.cell? ⟨b, off + i, none⟩ = some (.int .i64 (l.getD i 0)) := by
        rcases HS.out.2 with h0 | h0
        · omega
        · exact h0
      have ck := (hbr.cell (p := ⟨b, off + k, none⟩) hbl).trans (hc k hlt)
      have hU := HU.out k
      have hLk := HL.out k
      have hsz := hbr.size
      clear hc
      by_cases e : l.getD k 0 = (k : Int)
      · rw [if_pos e] at hU
        rw [e] at ck
        have HU' := (show Hid _ from hU)
        generalize hUk : U k = P at hrow HU' hLk
        clear hU hUk e
        go_wp2_with (at_builtin; refine wpList_append_own _ rfl _ _ 23 rfl w.heap.size 3 i0 (.int .i64 0) 1 8 Tryd.underlying23 hi hz0 hz1 hz2 rfl (by decide) _ _ _ rfl (hrow.alloc _) ⟨wr.heap.size, 0, none⟩ 1 1 [_] rfl rfl (cell_new1 _ _ _ _) (one_cell1 _ _) (by unfold maxLen; omega) (by omega) (by simp; omega) ?_; intro v' w4 hown4 hg4 _)
        have hB : Below w.heap.size w w4 := (hbr.alloc hbr.size _).grown hg4 (by simp; omega) (own_ge hrow)
        have hown5 : w4.ownsRow w.heap.size 3 1 v' (U (k + 1)).length (vals (U (k + 1))) := by rw [HU'.out, vals_append, List.length_append]; exact hown4
        clear hg4 hbr hrow hown4 HU'
        go_roundw
        case rel => exact ⟨k + 1, by omega, by go_num, hown5, hB⟩
        case measure => simp [intOf]; omega
      · rw [if_neg e] at hU
        rw [← hU] at hrow
        have e' : ((k : Int) == l.getD k 0) = false := by simp; exact fun h => e h.symm
        clear hU hLk
        generalize l.getD k 0 = y at ck e e'
        go_wp2
        go_roundw
        case rel => exact ⟨k + 1, by omega, by go_num, hrow, hbr⟩
        case measure => simp [intOf]; omega
    · obtain rfl : k = len := by omega
      go_wp2
      go_ret
      exact ⟨_, rfl, hrow, hbr⟩

/-- ClassesIn's answer. -/
def classesR (p : List EN) (l : List Int) : List Int := if graphB p l = true then rootsL l else []
def nodesOk (p : List EN) (l : List Int) (k : Int) : Bool := graphB p l && hasB l k
/-- NodesIn's answer. -/
def nodesR (p : List EN) (l : List Int) (k : Int) : List Int := if nodesOk p l k = true then placesL l (l.getD k.toNat 0) else []
theorem graph_parts2 {p : List EN} {l : List Int} (h : graphB p l = true) : partB l = true ∧ l.length = p.length ∧ l.length ≤ 120 := by
  obtain ⟨h1, _⟩ := (graphB_iff p l).1 h
  obtain ⟨h2, h3, h4⟩ := (headB_iff p l).1 h1
  have := ((nodesB_iff p).1 h2).1
  exact ⟨h4, h3, by omega⟩
set_option maxHeartbeats 800000 in
theorem specClasses_any (a b : Option Addr) (len cap lb cb : Nat) (p : List EN) (l : List Int) (w : World) (h : ESl w a len p) (hl : Sl w b lb l) (hm : len ≤ 9223372036854775807) (hm2 : lb ≤ 9223372036854775807) :
    Calls Tryd.prog 29 #[.agg #[.slice a len cap, .slice b lb cb]] w fun e w' => ∃ v : Value, e = .returned (.tuple #[v, .bool (graphB p l)]) ∧ w'.ownsRow w.heap.size 3 1 v (classesR p l).length (vals (classesR p l)) ∧ Below w.heap.size w w' := by
  have hll := h.1
  have hl1 := hl.1
  obtain ⟨W1, hW1⟩ : ∃ W1, w.alloc (.cells #[.slice a len cap, .slice b lb cb] 30) = W1 := ⟨_, rfl⟩
  have hb1 : Below w.heap.size w W1 := by rw [← hW1]; exact (Below.refl _ _).alloc (Nat.le_refl _) _
  have n0 : W1.cell? ⟨w.heap.size, 0, none⟩ = some (.slice a len cap) := by rw [← hW1]; simp [go_sem]
  have n1 : W1.cell? ⟨w.heap.size, 1, none⟩ = some (.slice b lb cb) := by rw [← hW1]; simp [go_sem]
  have hs1 : w.heap.size < W1.heap.size := by rw [← hW1]; simp
  have HG := (show Hid _ from specGraph_any a b len cap lb cb p l W1 (h.keep hb1) (hl.keep hb1) hm hm2)
  have HF : Hid (∀ W, Below W1.heap.size W1 W → Below w.heap.size w W) := fun W hW => hb1.trans (hW.mono hb1.size)
  have HS : Hid (∀ W, Below W1.heap.size W1 W → Sl W b lb l) := fun W hW => (hl.keep hb1).keep hW
  unfold classesR
  cases hG : graphB p l with
  | false =>
    rw [hG] at HG
    rw [if_neg (by decide)]
    clear h hl hb1 hG
    go_enter Tryd.func29, Tryd.ntmps29
    go_wp2_with fail
    (try rw [hW1])
    refine Calls.mono HG.out ?_
    rintro e w2 ⟨rfl, hb2⟩
    clear HG hW1
    go_wp2
    go_ret2
    exact ⟨_, rfl, World.ownsRow_nil _ _ _ _, HF.out _ hb2⟩
  | true =>
    rw [hG] at HG
    obtain ⟨hP, hlen, h120⟩ := graph_parts2 hG
    have h200 : lb ≤ 200 := by omega
    rw [if_pos rfl]
    have HR : Hid (∀ W, Below W1.heap.size W1 W → Calls Tryd.prog 61 #[.agg #[.slice a len cap, .slice b lb cb]] W fun e w' => ∃ v : Value, e = .returned v ∧ w'.ownsRow W.heap.size 3 1 v (rootsL l).length (vals (rootsL l)) ∧ Below W.heap.size W w') := fun W hW => l6Classes_any a len cap b lb cb l W (HS.out W hW) h200
    generalize rootsL l = L at HR ⊢
    clear h hl hb1 hG hP HS
    go_enter Tryd.func29, Tryd.ntmps29
    go_wp2_with fail
    (try rw [hW1])
    refine Calls.mono HG.out ?_
    rintro e w2 ⟨rfl, hb2⟩
    have q0 := (hb2.cell (p := ⟨w.heap.size, 0, none⟩) hs1).trans n0
    have q1 := (hb2.cell (p := ⟨w.heap.size, 1, none⟩) hs1).trans n1
    have HR2 := (show Hid _ from HR.out w2 hb2)
    clear HG hW1 HR
    go_wp2_with fail
    refine Calls.mono HR2.out ?_
    rintro e w3 ⟨v, rfl, hown, hb3⟩
    clear HR2
    have hB3 := HF.out _ (hb2.trans (hb3.mono hb2.size))
    have hO := own_base hown (Nat.le_trans (HF.out _ hb2).size (Nat.le_refl _))
    clear hown hb2 hb3
    go_wp2
    go_ret2
    exact ⟨_, rfl, hO, hB3⟩
set_option maxHeartbeats 800000 in
theorem implClasses_any (a b : Option Addr) (len cap lb cb : Nat) (p : List EN) (l : List Int) (w : World) (ht : Tab w) (h : ESl w a len p) (hl : Sl w b lb l) (hm2 : lb ≤ 9223372036854775807) (hI : InE p) :
    Calls Tryd.prog 30 #[.agg #[.slice a len cap, .slice b lb cb]] w fun e w' => ∃ v : Value, e = .returned (.tuple #[v, .bool (graphB p l)]) ∧ w'.ownsRow w.heap.size 3 1 v (classesR p l).length (vals (classesR p l)) ∧ Below w.heap.size w w' := by
  have hll := h.1
  have hl1 := hl.1
  obtain ⟨W1, hW1⟩ : ∃ W1, w.alloc (.cells #[.slice a len cap, .slice b lb cb] 30) = W1 := ⟨_, rfl⟩
  have hb1 : Below w.heap.size w W1 := by rw [← hW1]; exact (Below.refl _ _).alloc (Nat.le_refl _) _
  have n0 : W1.cell? ⟨w.heap.size, 0, none⟩ = some (.slice a len cap) := by rw [← hW1]; simp [go_sem]
  have n1 : W1.cell? ⟨w.heap.size, 1, none⟩ = some (.slice b lb cb) := by rw [← hW1]; simp [go_sem]
  have hs1 : w.heap.size < W1.heap.size := by rw [← hW1]; simp
  have HG := (show Hid _ from implGraph_any a b len cap lb cb p l W1 (ht.keeps hb1) (h.keep hb1) (hl.keep hb1) hm2 hI)
  have HF : Hid (∀ W, Below W1.heap.size W1 W → Below w.heap.size w W) := fun W hW => hb1.trans (hW.mono hb1.size)
  have HS : Hid (∀ W, Below W1.heap.size W1 W → Sl W b lb l) := fun W hW => (hl.keep hb1).keep hW
  unfold classesR
  cases hG : graphB p l with
  | false =>
    rw [hG] at HG
    rw [if_neg (by decide)]
    clear h hl hb1 hG ht
    go_enter Tryd.func30, Tryd.ntmps30
    go_wp2_with fail
    (try rw [hW1])
    refine Calls.mono HG.out ?_
    rintro e w2 ⟨rfl, hb2⟩
    clear HG hW1
    go_wp2
    go_ret2
    exact ⟨_, rfl, World.ownsRow_nil _ _ _ _, HF.out _ hb2⟩
  | true =>
    rw [hG] at HG
    obtain ⟨hP, hlen, h120⟩ := graph_parts2 hG
    have h200 : lb ≤ 200 := by omega
    rw [if_pos rfl]
    have HR : Hid (∀ W, Below W1.heap.size W1 W → Calls Tryd.prog 62 #[.slice b lb cb] W fun e w' => ∃ v : Value, e = .returned v ∧ w'.ownsRow W.heap.size 3 1 v (rootsL l).length (vals (rootsL l)) ∧ Below W.heap.size W w') := fun W hW => roots_any b lb cb l W (HS.out W hW) h200
    generalize rootsL l = L at HR ⊢
    clear h hl hb1 hG ht hP HS
    go_enter Tryd.func30, Tryd.ntmps30
    go_wp2_with fail
    (try rw [hW1])
    refine Calls.mono HG.out ?_
    rintro e w2 ⟨rfl, hb2⟩
    have q0 := (hb2.cell (p := ⟨w.heap.size, 0, none⟩) hs1).trans n0
    have q1 := (hb2.cell (p := ⟨w.heap.size, 1, none⟩) hs1).trans n1
    have HR2 := (show Hid _ from HR.out w2 hb2)
    clear HG hW1 HR
    go_wp2_with fail
    refine Calls.mono HR2.out ?_
    rintro e w3 ⟨v, rfl, hown, hb3⟩
    clear HR2
    have hB3 := HF.out _ (hb2.trans (hb3.mono hb2.size))
    have hO := own_base hown (Nat.le_trans (HF.out _ hb2).size (Nat.le_refl _))
    clear hown hb2 hb3
    go_wp2
    go_ret2
    exact ⟨_, rfl, hO, hB3⟩
set_option maxHeartbeats 800000 in
theorem specNodesIn_any (a b : Option Addr) (len cap lb cb : Nat) (p : List EN) (l : List Int) (k : Int) (w : World) (h : ESl w a len p) (hl : Sl w b lb l) (hm : len ≤ 9223372036854775807) (hm2 : lb ≤ 9223372036854775807) :
    Calls Tryd.prog 24 #[.agg #[.slice a len cap, .slice b lb cb], .int .i64 k] w fun e w' => ∃ v : Value, e = .returned (.tuple #[v, .bool (nodesOk p l k)]) ∧ w'.ownsRow w.heap.size 3 1 v (nodesR p l k).length (vals (nodesR p l k)) ∧ Below w.heap.size w w' := by
  have hll := h.1
  have hl1 := hl.1
  obtain ⟨W1, hW1⟩ : ∃ W1, w.alloc (.cells #[.slice a len cap, .slice b lb cb] 30) = W1 := ⟨_, rfl⟩
  have hb1 : Below w.heap.size w W1 := by rw [← hW1]; exact (Below.refl _ _).alloc (Nat.le_refl _) _
  have n0 : W1.cell? ⟨w.heap.size, 0, none⟩ = some (.slice a len cap) := by rw [← hW1]; simp [go_sem]
  have n1 : W1.cell? ⟨w.heap.size, 1, none⟩ = some (.slice b lb cb) := by rw [← hW1]; simp [go_sem]
  have hs1 : w.heap.size < W1.heap.size := by rw [← hW1]; simp
  have HG := (show Hid _ from specGraph_any a b len cap lb cb p l W1 (h.keep hb1) (hl.keep hb1) hm hm2)
  have HF : Hid (∀ W, Below W1.heap.size W1 W → Below w.heap.size w W) := fun W hW => hb1.trans (hW.mono hb1.size)
  have HS : Hid (∀ W, Below W1.heap.size W1 W → Sl W b lb l) := fun W hW => (hl.keep hb1).keep hW
  unfold nodesR nodesOk
  cases hG : graphB p l with
  | false =>
    rw [hG] at HG
    rw [Bool.false_and]
    rw [if_neg (by decide)]
    clear h hl hb1 hG
    go_enter Tryd.func24, Tryd.ntmps24
    go_wp2_with fail
    (try rw [hW1])
    refine Calls.mono HG.out ?_
    rintro e w2 ⟨rfl, hb2⟩
    clear HG hW1
    go_wp2
    go_ret2
    exact ⟨_, rfl, World.ownsRow_nil _ _ _ _, HF.out _ hb2⟩
  | true =>
    rw [hG] at HG
    obtain ⟨hP, hlen, h120⟩ := graph_parts2 hG
    have h200 : lb ≤ 200 := by omega
    rw [Bool.true_and]
    have HH : Hid (∀ W, Calls Tryd.prog 55 #[.int .i64 k, .int .i64 0, .int .i64 ((len : Int) - 1)] W fun e w' => e = .returned (.bool (hasB l k)) ∧ w' = W) := fun W => specHas_any len l (by omega) k W
    cases hk : hasB l k with
    | false =>
      rw [hk] at HH
      rw [if_neg (by decide)]
      clear h hl hb1 hG hP HS hk
      go_enter Tryd.func24, Tryd.ntmps24
      go_wp2_with fail
      (try rw [hW1])
      refine Calls.mono HG.out ?_
      rintro e w2 ⟨rfl, hb2⟩
      have q0 := (hb2.cell (p := ⟨w.heap.size, 0, none⟩) hs1).trans n0
      have q1 := (hb2.cell (p := ⟨w.heap.size, 1, none⟩) hs1).trans n1
      clear HG hW1
      go_wp2_with fail
      refine Calls.mono (HH.out _) ?_
      rintro e w3 ⟨rfl, rfl⟩
      clear HH
      go_wp2
      go_ret2
      exact ⟨_, rfl, World.ownsRow_nil _ _ _ _, HF.out _ hb2⟩
    | true =>
      rw [hk] at HH
      rw [if_pos rfl]
      obtain ⟨kn, rfl, hkn⟩ := has_iff hk
      rw [Int.toNat_natCast]
      have HR : Hid (∀ W, Below W1.heap.size W1 W → Calls Tryd.prog 59 #[.slice b lb cb, .int .i64 kn] W fun e w' => ∃ v : Value, e = .returned v ∧ w'.ownsRow W.heap.size 3 1 v (placesL l (l.getD kn 0)).length (vals (placesL l (l.getD kn 0))) ∧ Below W.heap.size W w') := fun W hW => l5Members_any b lb cb l kn W (HS.out W hW) h200 (by omega)
      generalize placesL l (l.getD kn 0) = L at HR ⊢
      clear h hl hb1 hG hP HS hk
      go_enter Tryd.func24, Tryd.ntmps24
      go_wp2_with fail
      (try rw [hW1])
      refine Calls.mono HG.out ?_
      rintro e w2 ⟨rfl, hb2⟩
      have q0 := (hb2.cell (p := ⟨w.heap.size, 0, none⟩) hs1).trans n0
      have q1 := (hb2.cell (p := ⟨w.heap.size, 1, none⟩) hs1).trans n1
      have HR2 := (show Hid _ from HR.out w2 hb2)
      clear HG hW1 HR
      go_wp2_with fail
      refine Calls.mono (HH.out _) ?_
      rintro e w3 ⟨rfl, rfl⟩
      clear HH
      go_wp2_with fail
      refine Calls.mono HR2.out ?_
      rintro e w3 ⟨v, rfl, hown, hb3⟩
      clear HR2
      have hB3 := HF.out _ (hb2.trans (hb3.mono hb2.size))
      have hO := own_base hown (Nat.le_trans (HF.out _ hb2).size (Nat.le_refl _))
      clear hown hb2 hb3
      go_wp2
      go_ret2
      exact ⟨_, rfl, hO, hB3⟩
set_option maxHeartbeats 800000 in
theorem implNodesIn_any (a b : Option Addr) (len cap lb cb : Nat) (p : List EN) (l : List Int) (k : Int) (w : World) (ht : Tab w) (h : ESl w a len p) (hl : Sl w b lb l) (hm2 : lb ≤ 9223372036854775807) (hI : InE p) :
    Calls Tryd.prog 25 #[.agg #[.slice a len cap, .slice b lb cb], .int .i64 k] w fun e w' => ∃ v : Value, e = .returned (.tuple #[v, .bool (nodesOk p l k)]) ∧ w'.ownsRow w.heap.size 3 1 v (nodesR p l k).length (vals (nodesR p l k)) ∧ Below w.heap.size w w' := by
  have hll := h.1
  have hl1 := hl.1
  obtain ⟨W1, hW1⟩ : ∃ W1, w.alloc (.cells #[.slice a len cap, .slice b lb cb] 30) = W1 := ⟨_, rfl⟩
  have hb1 : Below w.heap.size w W1 := by rw [← hW1]; exact (Below.refl _ _).alloc (Nat.le_refl _) _
  have n0 : W1.cell? ⟨w.heap.size, 0, none⟩ = some (.slice a len cap) := by rw [← hW1]; simp [go_sem]
  have n1 : W1.cell? ⟨w.heap.size, 1, none⟩ = some (.slice b lb cb) := by rw [← hW1]; simp [go_sem]
  have hs1 : w.heap.size < W1.heap.size := by rw [← hW1]; simp
  have HG := (show Hid _ from implGraph_any a b len cap lb cb p l W1 (ht.keeps hb1) (h.keep hb1) (hl.keep hb1) hm2 hI)
  have HF : Hid (∀ W, Below W1.heap.size W1 W → Below w.heap.size w W) := fun W hW => hb1.trans (hW.mono hb1.size)
  have HS : Hid (∀ W, Below W1.heap.size W1 W → Sl W b lb l) := fun W hW => (hl.keep hb1).keep hW
  unfold nodesR nodesOk
  cases hG : graphB p l with
  | false =>
    rw [hG] at HG
    rw [Bool.false_and]
    rw [if_neg (by decide)]
    clear h hl hb1 hG ht
    go_enter Tryd.func25, Tryd.ntmps25
    go_wp2_with fail
    (try rw [hW1])
    refine Calls.mono HG.out ?_
    rintro e w2 ⟨rfl, hb2⟩
    clear HG hW1
    go_wp2
    go_ret2
    exact ⟨_, rfl, World.ownsRow_nil _ _ _ _, HF.out _ hb2⟩
  | true =>
    rw [hG] at HG
    obtain ⟨hP, hlen, h120⟩ := graph_parts2 hG
    have h200 : lb ≤ 200 := by omega
    rw [Bool.true_and]
    have ea : askedB l k = hasB l k := by unfold askedB; rw [hP]; rfl
    have HR : Hid (∀ W, Below W1.heap.size W1 W → Calls Tryd.prog 60 #[.slice b lb cb, .int .i64 k] W fun e w' => ∃ v : Value, e = .returned (.tuple #[v, .bool (hasB l k)]) ∧ w'.ownsRow W.heap.size 3 1 v (if hasB l k = true then placesL l (l.getD k.toNat 0) else []).length (vals (if hasB l k = true then placesL l (l.getD k.toNat 0) else [])) ∧ Below W.heap.size W w') := fun W hW => by
      have := implMembers_any b lb cb l k W (HS.out W hW) hm2
      unfold membersR at this
      rwa [ea] at this
    generalize (if hasB l k = true then placesL l (l.getD k.toNat 0) else []) = L at HR ⊢
    generalize hasB l k = B at HR ⊢
    clear h hl hb1 hG ht hP HS ea
    go_enter Tryd.func25, Tryd.ntmps25
    go_wp2_with fail
    (try rw [hW1])
    refine Calls.mono HG.out ?_
    rintro e w2 ⟨rfl, hb2⟩
    have q0 := (hb2.cell (p := ⟨w.heap.size, 0, none⟩) hs1).trans n0
    have q1 := (hb2.cell (p := ⟨w.heap.size, 1, none⟩) hs1).trans n1
    have HR2 := (show Hid _ from HR.out w2 hb2)
    clear HG hW1 HR
    go_wp2_with fail
    refine Calls.mono HR2.out ?_
    rintro e w3 ⟨v, rfl, hown, hb3⟩
    clear HR2
    have hB3 := HF.out _ (hb2.trans (hb3.mono hb2.size))
    have hO := own_base hown (Nat.le_trans (HF.out _ hb2).size (Nat.le_refl _))
    clear hown hb2 hb3
    go_wp2
    go_ret2
    exact ⟨_, rfl, hO, hB3⟩
end Go.Proofs.YtdaimjmpggmocaaDoor
