/-
  PROVED HERE: what the model's BestCosts answers, at every graph. No other condition. what the program's BestCosts answers, at every graph; the tables of arities and of costs are laid. And what both answer, as one list. No other condition.
-/
import Derived.Test.YtmbggaepckgogaaDoorRun15
import Derived.Test.YtmbggaepckgogaaDoorRun20
import Derived.Test.YtmbggaepckgogaaDoorRun16
import Derived.Test.YtmbggaepckgogaaDoorRun17
namespace Go.Proofs.YtmbggaepckgogaaDoor
open Go.ChangeShapes Go.WideShapes Go.ChangeAt Go.RowKit
set_option linter.unusedVariables false

/-- The costs at the numbers L. -/
def pickC (m L : List Int) : List Int := L.map fun x => m.getD x.toNat 0
theorem pickC_len (m L : List Int) : (pickC m L).length = L.length := by simp [pickC]
theorem pickC_take (m L : List Int) {k : Nat} (hk : k < L.length) : pickC m (L.take (k + 1)) = pickC m (L.take k) ++ [m.getD (L.getD k 0).toNat 0] := by
  unfold pickC
  rw [List.take_succ_eq_append_getElem hk, List.map_append, getI_lt hk]
  rfl
theorem pickU_lt10 (f : Nat → Bool) : ∀ k, ∀ x ∈ pickU f k, 0 ≤ x ∧ x < (k : Int)
  | 0 => by
    intro x hx
    have h : pickU f 0 = [] := rfl
    rw [h] at hx
    cases hx
  | k + 1 => by
    intro x hx
    rw [pickU_succ] at hx
    split at hx
    · rcases List.mem_append.1 hx with h | h
      · have := pickU_lt10 f k x h; omega
      · have := List.mem_singleton.1 h; omega
    · have := pickU_lt10 f k x hx; omega
set_option maxHeartbeats 1600000 in
set_option maxRecDepth 20000 in
theorem specBestCosts_any (a b : Option Addr) (len cap lb cb : Nat) (p : List EN) (l : List Int) (w : World) (h : ESl w a len p) (hl : Sl w b lb l) (hm : len ≤ 9223372036854775807) (hm2 : lb ≤ 9223372036854775807) :
    Calls Tryd.prog 7 #[.agg #[.slice a len cap, .slice b lb cb]] w fun e w' => ∃ v : Value, e = .returned (.tuple #[v, .bool (graphB p l)]) ∧ (graphB p l = false → v = .slice none 0 0) ∧ (graphB p l = true → ∃ m, BestM p l m ∧ w'.ownsRow w.heap.size 3 1 v (rootsL l).length (vals (pickC m (rootsL l)))) ∧ Below w.heap.size w w' := by
  have hll := h.1
  have hl1 := hl.1
  obtain ⟨i0, hi, hz0, hz1, hz2⟩ := info_parts infoInt
  obtain ⟨W1, hW1⟩ : ∃ W1, w.alloc (.cells #[.slice a len cap, .slice b lb cb] 31) = W1 := ⟨_, rfl⟩
  have hb1 : Below w.heap.size w W1 := by rw [← hW1]; exact (Below.refl _ _).alloc (Nat.le_refl _) _
  have n0 : W1.cell? ⟨w.heap.size, 0, none⟩ = some (.slice a len cap) := by rw [← hW1]; simp [go_sem]
  have n1 : W1.cell? ⟨w.heap.size, 1, none⟩ = some (.slice b lb cb) := by rw [← hW1]; simp [go_sem]
  have hs1 : w.heap.size < W1.heap.size := by rw [← hW1]; simp
  have HG := (show Hid _ from specGraph_any a b len cap lb cb p l W1 (h.keep hb1) (hl.keep hb1) hm hm2)
  have HF : Hid (∀ W, Below W1.heap.size W1 W → Below w.heap.size w W ∧ ESl W a len p ∧ Sl W b lb l ∧ W.cell? ⟨w.heap.size, 0, none⟩ = some (.slice a len cap) ∧ W.cell? ⟨w.heap.size, 1, none⟩ = some (.slice b lb cb)) := fun W hW => ⟨hb1.trans (hW.mono hb1.size), (h.keep hb1).keep hW, (hl.keep hb1).keep hW, (hW.cell (p := ⟨w.heap.size, 0, none⟩) hs1).trans n0, (hW.cell (p := ⟨w.heap.size, 1, none⟩) hs1).trans n1⟩
  cases hG : graphB p l with
  | false =>
    rw [hG] at HG
    clear h hl hb1 hG
    go_enter Tryd.func7, Tryd.ntmps7
    go_wp2_with fail
    (try rw [hW1])
    refine Calls.mono HG.out ?_
    rintro e w2 ⟨rfl, hb2⟩
    clear HG hW1
    go_wp2
    go_ret2
    exact ⟨_, rfl, fun _ => rfl, (fun h => by cases h), (HF.out _ hb2).1⟩
  | true =>
    rw [hG] at HG
    obtain ⟨hP, hlen, h120⟩ := graph_parts2 hG
    have h200 : lb ≤ 200 := by omega
    have HR : Hid (∀ W, Below W1.heap.size W1 W → Calls Tryd.prog 26 #[.agg #[.slice a len cap, .slice b lb cb]] W fun e w' => ∃ v : Value, e = .returned v ∧ w'.ownsRow W.heap.size 3 1 v (rootsL l).length (vals (rootsL l)) ∧ Below W.heap.size W w') := fun W hW => l6Classes_any a len cap b lb cb l W (HF.out W hW).2.2.1 h200
    have HB : Hid (∀ W, Below W1.heap.size W1 W → Calls Tryd.prog 25 #[.agg #[.slice a len cap, .slice b lb cb]] W fun e w' => ∃ (v : Value) (m : List Int), e = .returned v ∧ w'.ownsRow W.heap.size 3 1 v len (vals m) ∧ BestM p l m ∧ Below W.heap.size W w') := fun W hW => l10Best_any (costG_of hG) a b len cap lb cb W (HF.out W hW).2.1 (HF.out W hW).2.2.1 (by omega) (kids_of hG).1 (fun i hi => (kids_of hG).2 i (by omega))
    have HK : Hid (len ≤ 120 ∧ (rootsL l).length ≤ len ∧ ∀ k, k < (rootsL l).length → ∃ z : Nat, (rootsL l).getD k 0 = z ∧ z < len) := by
      have hpl : l.length = len := by omega
      have hlen2 : (rootsL l).length ≤ len := by
        have := pickU_len (fun i => l.getD i 0 == (i : Int)) l.length
        unfold rootsL
        omega
      refine ⟨by omega, hlen2, fun k hk => ?_⟩
      have hm : (rootsL l).getD k 0 ∈ rootsL l := by rw [getI_lt hk]; exact List.getElem_mem _
      have := pickU_lt10 (fun i => l.getD i 0 == (i : Int)) l.length _ hm
      exact ⟨((rootsL l).getD k 0).toNat, by omega, by omega⟩
    generalize rootsL l = L at HR HK ⊢
    clear h hl hb1 hG hP
    go_enter Tryd.func7, Tryd.ntmps7
    go_wp2_with fail
    (try rw [hW1])
    refine Calls.mono HG.out ?_
    rintro e w2 ⟨rfl, hb2⟩
    obtain ⟨-, -, -, q0, q1⟩ := HF.out w2 hb2
    have HB2 := (show Hid _ from HB.out w2 hb2)
    clear HG hW1 HB n0 n1
    go_wp2_with fail
    refine Calls.mono HB2.out ?_
    rintro e w3 ⟨v3, m, rfl, hr3, hBM, hb3⟩
    obtain ⟨a3, c3, rfl, hs3⟩ := Sl.vals hr3
    have hb13 : Below W1.heap.size W1 w3 := hb2.trans (hb3.mono hb2.size)
    obtain ⟨-, -, -, q0', q1'⟩ := HF.out w3 hb13
    have HR3 := (show Hid _ from HR.out w3 hb13)
    have HBM := (show Hid (BestM p l m) from hBM)
    have HS3 := (show Hid (Sl w3 a3 len m) from hs3)
    have HB13 := (show Hid (Below W1.heap.size W1 w3) from hb13)
    clear HB2 HR hr3 hBM hs3 hb3 hb13 hb2 q0 q1
    go_wp2_with fail
    refine Calls.mono HR3.out ?_
    rintro e w4 ⟨v4, rfl, hr4, hb4⟩
    obtain ⟨a4, c4, rfl, hs4⟩ := Sl.vals hr4
    have HS4 := (show Hid (Sl w4 a4 L.length L ∧ Sl w4 a3 len m) from ⟨hs4, HS3.out.keep hb4⟩)
    have hB4 : Below w.heap.size w w4 := by
      have := HB13.out.trans (hb4.mono HB13.out.size)
      exact (HF.out _ this).1
    clear HR3 HS3 HB13 hr4 hs4 hb4 q0' q1'
    go_wp2_with fail
    obtain ⟨hn120, hLn, hLk⟩ := HK.out
    go_loopw [5, 16] (fun x i wr => ∃ (k : Nat), k ≤ L.length ∧ i = .int .i64 k ∧ wr.ownsRow w4.heap.size 3 1 x (pickC m (L.take k)).length (vals (pickC m (L.take k))) ∧ Below w4.heap.size w4 wr) (fun _ i _ => L.length - (intOf i).toNat)
    case atStart => exact ⟨0, Nat.zero_le _, rfl, by rw [List.take_zero]; exact World.ownsRow_nil _ _ _ _, Below.refl _ _⟩
    case round =>
      obtain ⟨k, hk, rfl, hrow, hbr⟩ := hrel
      by_cases hlt : k < L.length
      · obtain ⟨b4, o4, rfl, hbl4, hc4⟩ := HS4.out.1.2.resolve_left (by omega)
        obtain ⟨z, hz, hzl⟩ := hLk k hlt
        obtain ⟨b3, o3, rfl, hbl3, hc3⟩ := HS4.out.2.2.resolve_left (by omega)
        have ck := (hbr.cell (p := ⟨b4, o4 + k, none⟩) hbl4).trans (hc4 k hlt)
        have cz := (hbr.cell (p := ⟨b3, o3 + z, none⟩) hbl3).trans (hc3 z hzl)
        rw [hz] at ck
        have hU := pickC_take m L hlt
        rw [hz, Int.toNat_natCast] at hU
        have hLn2 : (pickC m (L.take k)).length ≤ 120 := by rw [pickC_len, List.length_take]; omega
        have hsz := hbr.size
        clear hc4 hc3 hz
        generalize m.getD z 0 = V at cz hU
        have HU' := (show Hid _ from hU)
        generalize hUk : pickC m (L.take k) = P at hrow HU' hLn2
        clear hU hUk
        go_wp2_with (at_builtin; refine wpList_append_own _ rfl _ _ 23 rfl w4.heap.size 3 i0 (.int .i64 0) 1 8 Tryd.underlying23 hi hz0 hz1 hz2 rfl (by decide) _ _ _ rfl (hrow.alloc _) ⟨wr.heap.size, 0, none⟩ 1 1 [_] rfl rfl (cell_new1 _ _ _ _) (one_cell1 _ _) (by unfold maxLen; omega) (by omega) (by simp; omega) ?_; intro v' w6 hown4 hg4 _)
        have hB : Below w4.heap.size w4 w6 := (hbr.alloc hbr.size _).grown hg4 (by simp; omega) (own_ge hrow)
        have hown5 : w6.ownsRow w4.heap.size 3 1 v' (pickC m (L.take (k + 1))).length (vals (pickC m (L.take (k + 1)))) := by rw [HU'.out, vals_append, List.length_append]; exact hown4
        clear hg4 hbr hrow hown4 HU'
        go_roundw
        case rel => exact ⟨k + 1, by omega, by go_num, hown5, hB⟩
        case measure => simp [intOf]; omega
      · obtain rfl : k = L.length := by omega
        rw [List.take_length] at hrow
        obtain ⟨xa, xc, rfl, _⟩ := Sl.vals hrow
        have HE : Hid (wr.ownsRow w.heap.size 3 1 (.slice xa (pickC m L).length xc) L.length (vals (pickC m L)) ∧ Below w.heap.size w wr) := by
          refine ⟨?_, hB4.trans (hbr.mono hB4.size)⟩
          have := own_base hrow hB4.size
          rw [pickC_len] at this ⊢
          exact this
        clear hrow hbr hB4 HS4 hLk
        go_wp2
        go_ret2
        exact ⟨_, rfl, (fun h => by cases h), fun _ => ⟨m, HBM.out, HE.out.1⟩, HE.out.2⟩
end Go.Proofs.YtmbggaepckgogaaDoor
namespace Go.Proofs.YtmbggaepckgogaaDoor
open Go.ChangeShapes Go.WideShapes Go.ChangeAt Go.RowKit
set_option linter.unusedVariables false

theorem pickU_mem10 (f : Nat → Bool) : ∀ k, ∀ x ∈ pickU f k, f x.toNat = true
  | 0 => by
    intro x hx
    have h : pickU f 0 = [] := rfl
    rw [h] at hx
    cases hx
  | k + 1 => by
    intro x hx
    rw [pickU_succ] at hx
    split at hx
    · rename_i hf
      rcases List.mem_append.1 hx with h | h
      · exact pickU_mem10 f k x h
      · have := List.mem_singleton.1 h
        subst this
        simpa using hf
    · exact pickU_mem10 f k x hx
set_option maxHeartbeats 1600000 in
set_option maxRecDepth 20000 in
theorem implBestCosts_any (a b : Option Addr) (len cap lb cb : Nat) (p : List EN) (l : List Int) (w : World) (hT : Tab w) (hC : Cst w) (hI : InE p) (h : ESl w a len p) (hl : Sl w b lb l) (hm : len ≤ 9223372036854775807) (hm2 : lb ≤ 9223372036854775807) :
    Calls Tryd.prog 9 #[.agg #[.slice a len cap, .slice b lb cb]] w fun e w' => ∃ v : Value, e = .returned (.tuple #[v, .bool (graphB p l)]) ∧ (graphB p l = false → v = .slice none 0 0) ∧ (graphB p l = true → ∃ m, BestC p l m ∧ w'.ownsRow w.heap.size 3 1 v (rootsL l).length (vals (pickC m (rootsL l)))) ∧ Below w.heap.size w w' := by
  have hll := h.1
  have hl1 := hl.1
  obtain ⟨i0, hi, hz0, hz1, hz2⟩ := info_parts infoInt
  obtain ⟨W1, hW1⟩ : ∃ W1, w.alloc (.cells #[.slice a len cap, .slice b lb cb] 31) = W1 := ⟨_, rfl⟩
  have hb1 : Below w.heap.size w W1 := by rw [← hW1]; exact (Below.refl _ _).alloc (Nat.le_refl _) _
  have n0 : W1.cell? ⟨w.heap.size, 0, none⟩ = some (.slice a len cap) := by rw [← hW1]; simp [go_sem]
  have n1 : W1.cell? ⟨w.heap.size, 1, none⟩ = some (.slice b lb cb) := by rw [← hW1]; simp [go_sem]
  have hs1 : w.heap.size < W1.heap.size := by rw [← hW1]; simp
  have HG := (show Hid _ from implGraph_any a b len cap lb cb p l W1 (hT.keeps hb1) (h.keep hb1) (hl.keep hb1) hm2 hI)
  have HF : Hid (∀ W, Below W1.heap.size W1 W → Below w.heap.size w W ∧ ESl W a len p ∧ Sl W b lb l ∧ W.cell? ⟨w.heap.size, 0, none⟩ = some (.slice a len cap) ∧ W.cell? ⟨w.heap.size, 1, none⟩ = some (.slice b lb cb)) := fun W hW => ⟨hb1.trans (hW.mono hb1.size), (h.keep hb1).keep hW, (hl.keep hb1).keep hW, (hW.cell (p := ⟨w.heap.size, 0, none⟩) hs1).trans n0, (hW.cell (p := ⟨w.heap.size, 1, none⟩) hs1).trans n1⟩
  cases hG : graphB p l with
  | false =>
    rw [hG] at HG
    clear h hl hb1 hG hT hC hI
    go_enter Tryd.func9, Tryd.ntmps9
    go_wp2_with fail
    (try rw [hW1])
    refine Calls.mono HG.out ?_
    rintro e w2 ⟨rfl, hb2⟩
    clear HG hW1
    go_wp2
    go_ret2
    exact ⟨_, rfl, fun _ => rfl, (fun h => by cases h), (HF.out _ hb2).1⟩
  | true =>
    rw [hG] at HG
    obtain ⟨hP, hlen, h120⟩ := graph_parts2 hG
    have h200 : lb ≤ 200 := by omega
    have HR : Hid (∀ W, Below W1.heap.size W1 W → Calls Tryd.prog 31 #[.slice b lb cb] W fun e w' => ∃ v : Value, e = .returned v ∧ w'.ownsRow W.heap.size 3 1 v (rootsL l).length (vals (rootsL l)) ∧ Below W.heap.size W w') := fun W hW => roots_any b lb cb l W (HF.out W hW).2.2.1 h200
    have HB : Hid (∀ W, Below W1.heap.size W1 W → Calls Tryd.prog 30 #[.agg #[.slice a len cap, .slice b lb cb]] W fun e w' => ∃ (v : Value) (m : List Int), e = .returned v ∧ w'.ownsRow W.heap.size 3 1 v len (vals m) ∧ BestC p l m ∧ Below W.heap.size W w') := fun W hW => (implBest_any (costG_of hG) a b len cap lb cb W ((hC.keeps hb1).keeps hW) (HF.out W hW).2.1 (HF.out W hW).2.2.1 (by omega) (kids_of hG).1 (fun i hi => (kids_of hG).2 i (by omega)) (ops_of hG)).mono fun e w' ⟨G, m, r1, r2, r3, _, r5⟩ => ⟨_, m, r1, r2, r3, r5⟩
    have HK : Hid (len ≤ 120 ∧ (rootsL l).length ≤ len ∧ ∀ k, k < (rootsL l).length → ∃ z : Nat, (rootsL l).getD k 0 = z ∧ z < len) := by
      have hpl : l.length = len := by omega
      have hlen2 : (rootsL l).length ≤ len := by
        have := pickU_len (fun i => l.getD i 0 == (i : Int)) l.length
        unfold rootsL
        omega
      refine ⟨by omega, hlen2, fun k hk => ?_⟩
      have hm : (rootsL l).getD k 0 ∈ rootsL l := by rw [getI_lt hk]; exact List.getElem_mem _
      have := pickU_lt10 (fun i => l.getD i 0 == (i : Int)) l.length _ hm
      exact ⟨((rootsL l).getD k 0).toNat, by omega, by omega⟩
    generalize rootsL l = L at HR HK ⊢
    clear h hl hb1 hG hP hT hC hI
    go_enter Tryd.func9, Tryd.ntmps9
    go_wp2_with fail
    (try rw [hW1])
    refine Calls.mono HG.out ?_
    rintro e w2 ⟨rfl, hb2⟩
    obtain ⟨-, -, -, q0, q1⟩ := HF.out w2 hb2
    have HB2 := (show Hid _ from HB.out w2 hb2)
    clear HG hW1 HB n0 n1
    go_wp2_with fail
    refine Calls.mono HB2.out ?_
    rintro e w3 ⟨v3, m, rfl, hr3, hBM, hb3⟩
    obtain ⟨a3, c3, rfl, hs3⟩ := Sl.vals hr3
    have hb13 : Below W1.heap.size W1 w3 := hb2.trans (hb3.mono hb2.size)
    obtain ⟨-, -, -, q0', q1'⟩ := HF.out w3 hb13
    have HR3 := (show Hid _ from HR.out w3 hb13)
    have HBM := (show Hid (BestC p l m) from hBM)
    have HS3 := (show Hid (Sl w3 a3 len m) from hs3)
    have HB13 := (show Hid (Below W1.heap.size W1 w3) from hb13)
    clear HB2 HR hr3 hBM hs3 hb3 hb13 hb2 q0 q1
    go_wp2_with fail
    refine Calls.mono HR3.out ?_
    rintro e w4 ⟨v4, rfl, hr4, hb4⟩
    obtain ⟨a4, c4, rfl, hs4⟩ := Sl.vals hr4
    have HS4 := (show Hid (Sl w4 a4 L.length L ∧ Sl w4 a3 len m) from ⟨hs4, HS3.out.keep hb4⟩)
    have hB4 : Below w.heap.size w w4 := by
      have := HB13.out.trans (hb4.mono HB13.out.size)
      exact (HF.out _ this).1
    clear HR3 HS3 HB13 hr4 hs4 hb4 q0' q1'
    go_wp2_with fail
    obtain ⟨hn120, hLn, hLk⟩ := HK.out
    go_loopw [5, 17] (fun x i wr => ∃ (k : Nat), k ≤ L.length ∧ i = .int .i64 k ∧ wr.ownsRow w4.heap.size 3 1 x (pickC m (L.take k)).length (vals (pickC m (L.take k))) ∧ Below w4.heap.size w4 wr) (fun _ i _ => L.length - (intOf i).toNat)
    case atStart => exact ⟨0, Nat.zero_le _, rfl, by rw [List.take_zero]; exact World.ownsRow_nil _ _ _ _, Below.refl _ _⟩
    case round =>
      obtain ⟨k, hk, rfl, hrow, hbr⟩ := hrel
      by_cases hlt : k < L.length
      · obtain ⟨b4, o4, rfl, hbl4, hc4⟩ := HS4.out.1.2.resolve_left (by omega)
        obtain ⟨z, hz, hzl⟩ := hLk k hlt
        obtain ⟨b3, o3, rfl, hbl3, hc3⟩ := HS4.out.2.2.resolve_left (by omega)
        have ck := (hbr.cell (p := ⟨b4, o4 + k, none⟩) hbl4).trans (hc4 k hlt)
        have cz := (hbr.cell (p := ⟨b3, o3 + z, none⟩) hbl3).trans (hc3 z hzl)
        rw [hz] at ck
        have hU := pickC_take m L hlt
        rw [hz, Int.toNat_natCast] at hU
        have hLn2 : (pickC m (L.take k)).length ≤ 120 := by rw [pickC_len, List.length_take]; omega
        have hsz := hbr.size
        clear hc4 hc3 hz
        generalize m.getD z 0 = V at cz hU
        have HU' := (show Hid _ from hU)
        generalize hUk : pickC m (L.take k) = P at hrow HU' hLn2
        clear hU hUk
        go_wp2_with (at_builtin; refine wpList_append_own _ rfl _ _ 23 rfl w4.heap.size 3 i0 (.int .i64 0) 1 8 Tryd.underlying23 hi hz0 hz1 hz2 rfl (by decide) _ _ _ rfl (hrow.alloc _) ⟨wr.heap.size, 0, none⟩ 1 1 [_] rfl rfl (cell_new1 _ _ _ _) (one_cell1 _ _) (by unfold maxLen; omega) (by omega) (by simp; omega) ?_; intro v' w6 hown4 hg4 _)
        have hB : Below w4.heap.size w4 w6 := (hbr.alloc hbr.size _).grown hg4 (by simp; omega) (own_ge hrow)
        have hown5 : w6.ownsRow w4.heap.size 3 1 v' (pickC m (L.take (k + 1))).length (vals (pickC m (L.take (k + 1)))) := by rw [HU'.out, vals_append, List.length_append]; exact hown4
        clear hg4 hbr hrow hown4 HU'
        go_roundw
        case rel => exact ⟨k + 1, by omega, by go_num, hown5, hB⟩
        case measure => simp [intOf]; omega
      · obtain rfl : k = L.length := by omega
        rw [List.take_length] at hrow
        obtain ⟨xa, xc, rfl, _⟩ := Sl.vals hrow
        have HE : Hid (wr.ownsRow w.heap.size 3 1 (.slice xa (pickC m L).length xc) L.length (vals (pickC m L)) ∧ Below w.heap.size w wr) := by
          refine ⟨?_, hB4.trans (hbr.mono hB4.size)⟩
          have := own_base hrow hB4.size
          rw [pickC_len] at this ⊢
          exact this
        clear hrow hbr hB4 HS4 hLk
        go_wp2
        go_ret2
        exact ⟨_, rfl, (fun h => by cases h), fun _ => ⟨m, HBM.out, HE.out.1⟩, HE.out.2⟩
/-- The costs of the classes, by the best costs B. -/
def costsR (p : List EN) (l B : List Int) : List Int := if graphB p l = true then pickC B (rootsL l) else []
theorem fewCosts (p : List EN) (l B : List Int) : (costsR p l B).length ≤ 200 := by
  unfold costsR
  split
  · rename_i h
    have := (graph_parts2 h).2.2
    rw [pickC_len]
    exact Nat.le_trans (pickU_len _ _) (by omega)
  · simp
/-- There is one list of best costs. -/
theorem best_one (p : List EN) (l : List Int) : ∃ B, ∀ m, BestC p l m → m = B := by
  by_cases h : ∃ m, BestC p l m
  · obtain ⟨B, hB⟩ := h
    exact ⟨B, fun m hm => best_unique hm hB⟩
  · exact ⟨[], fun m hm => absurd ⟨m, hm⟩ h⟩
theorem roots_cls {l : List Int} : ∀ x ∈ rootsL l, ∃ k : Nat, x = k ∧ k < l.length ∧ clsN l k = k := fun x hx => by
  have h := pickU_lt10 (fun i => l.getD i 0 == (i : Int)) l.length x hx
  have h2 := pickU_mem10 (fun i => l.getD i 0 == (i : Int)) l.length x hx
  simp only [beq_iff_eq] at h2
  refine ⟨x.toNat, by omega, by omega, ?_⟩
  unfold clsN
  rw [h2]; omega
theorem pickC_same {m m' L : List Int} (h : ∀ x ∈ L, m.getD x.toNat 0 = m'.getD x.toNat 0) : pickC m L = pickC m' L := List.map_congr_left h
theorem specCosts_any (a b : Option Addr) (len cap lb cb : Nat) (p : List EN) (l B : List Int) (hB : ∀ m, BestC p l m → m = B) (w : World) (h : ESl w a len p) (hl : Sl w b lb l) (hm : len ≤ 9223372036854775807) (hm2 : lb ≤ 9223372036854775807) :
    Calls Tryd.prog 7 #[.agg #[.slice a len cap, .slice b lb cb]] w fun e w' => ∃ v : Value, e = .returned (.tuple #[v, .bool (graphB p l)]) ∧ w'.ownsRow w.heap.size 3 1 v (costsR p l B).length (vals (costsR p l B)) ∧ Below w.heap.size w w' :=
  (specBestCosts_any a b len cap lb cb p l w h hl hm hm2).mono fun e w' ⟨v, r1, r2, r3, r4⟩ => by
    refine ⟨v, r1, ?_, r4⟩
    unfold costsR
    cases hG : graphB p l with
    | false => rw [r2 hG]; exact World.ownsRow_nil _ _ _ _
    | true =>
      obtain ⟨m, hm, hr⟩ := r3 hG
      have hlen : l.length = p.length := ((headB_iff p l).1 ((graphB_iff p l).1 hG).1).2.1
      have e : pickC m (rootsL l) = pickC B (rootsL l) := pickC_same fun x hx => by
        obtain ⟨k, rfl, hk, hc⟩ := roots_cls x hx
        have := bestM_get (costG_of hG) hm hm.2.1 (k := k) (by omega)
        rw [hc] at this
        rw [Int.toNat_natCast, this, hB _ hm.2.1]
      rw [if_pos rfl, pickC_len, ← e]
      exact hr
theorem implCosts_any (a b : Option Addr) (len cap lb cb : Nat) (p : List EN) (l B : List Int) (hB : ∀ m, BestC p l m → m = B) (w : World) (hT : Tab w) (hC : Cst w) (hI : InE p) (h : ESl w a len p) (hl : Sl w b lb l) (hm : len ≤ 9223372036854775807) (hm2 : lb ≤ 9223372036854775807) :
    Calls Tryd.prog 9 #[.agg #[.slice a len cap, .slice b lb cb]] w fun e w' => ∃ v : Value, e = .returned (.tuple #[v, .bool (graphB p l)]) ∧ w'.ownsRow w.heap.size 3 1 v (costsR p l B).length (vals (costsR p l B)) ∧ Below w.heap.size w w' :=
  (implBestCosts_any a b len cap lb cb p l w hT hC hI h hl hm hm2).mono fun e w' ⟨v, r1, r2, r3, r4⟩ => by
    refine ⟨v, r1, ?_, r4⟩
    unfold costsR
    cases hG : graphB p l with
    | false => rw [r2 hG]; exact World.ownsRow_nil _ _ _ _
    | true =>
      obtain ⟨m, hm, hr⟩ := r3 hG
      rw [if_pos rfl, pickC_len, ← hB m hm]
      exact hr
end Go.Proofs.YtmbggaepckgogaaDoor
