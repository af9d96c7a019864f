/-
  PROVED HERE: what the model makes of a list of nodes that may be too long for a term. No other condition. plain facts on slices of slices of nodes in memory. No condition. what the model's TermOf answers, at every list of products. No other condition. what the program makes of a list of nodes that may be no term. No other condition.
-/
import Derived.Test.YtkadanagmahhgaaGreatDoorRun1
import Derived.Test.YtkadanagmahhgaaGreatDoorTail4
import Derived.Test.YtkadanagmahhgaaGreatDoorRun8
import Derived.Test.YtkadanagmahhgaaGreatDoorRun24
import Derived.Test.YtkadanagmahhgaaGreatDoorRun4
namespace Go.Proofs.YtkadanagmahhgaaGreatDoor
open Go.ChangeShapes Go.WideShapes Go.ChangeAt Go.RowKit
set_option linter.unusedVariables false

/-- A made term: itself if it is good, else nothing. -/
def madeL (l : List (Int × Int)) : List (Int × Int) := if goodB l = true then l else []
theorem made_any (base : Nat) (v : Value) (len : Nat) (l : List (Int × Int)) (w : World) (h : w.ownsRow base 66 2 v len (flat l)) (hb : base ≤ w.heap.size) (hm : len ≤ 9223372036854775807) :
    Calls Tryz.prog 101 #[v] w fun e w' => ∃ v' : Value, e = .returned (.tuple #[v', .bool (goodB l)]) ∧ w'.ownsRow base 66 2 v' (madeL l).length (flat (madeL l)) ∧ Below w.heap.size w w' := by
  obtain ⟨a, cap, rfl, hs⟩ := NSl.row h
  have HG := (show Hid _ from specGood_any a len cap l w hs hm)
  have hll := hs.1
  by_cases hg : goodB l = true
  · have e : madeL l = l := by unfold madeL; rw [if_pos hg]
    rw [e, hg, hll]
    rw [hg] at HG
    clear e hg hs
    go_enter Tryz.func101, Tryz.ntmps101
    go_wp2_with fail
    refine Calls.mono HG.out ?_
    rintro e w1 ⟨rfl, hb1⟩
    have h1 := h.kept (grown_of hb1) (by cases hv : (Value.slice a len cap).ownBlock <;> simp)
    clear h
    go_wp2
    go_ret2
    exact ⟨_, rfl, h1, hb1⟩
  · have e : madeL l = [] := by unfold madeL; rw [if_neg hg]
    have hg' : goodB l = false := by simpa using hg
    rw [e, hg']
    rw [hg'] at HG
    clear e hg hg' hs
    go_enter Tryz.func101, Tryz.ntmps101
    go_wp2_with fail
    refine Calls.mono HG.out ?_
    rintro e w1 ⟨rfl, hb1⟩
    go_wp2
    go_ret2
    exact ⟨_, rfl, World.ownsRow_nil _ _ _ _, hb1⟩

end Go.Proofs.YtkadanagmahhgaaGreatDoor
namespace Go.Proofs.YtkadanagmahhgaaGreatDoor
open Go.ChangeShapes Go.WideShapes Go.ChangeAt Go.RowKit
set_option linter.unusedVariables false

/-- The slice (a, len) of lists of nodes holds the lists ls in the world w. -/
def NNSl (w : World) (a : Option Addr) (len : Nat) (ls : List (List (Int × Int))) : Prop :=
  ls.length = len ∧ (len = 0 ∨ ∃ b off, a = some ⟨b, off, none⟩ ∧ b < w.heap.size ∧ ∀ i, i < len → ∃ ai li ci, w.cell? ⟨b, off + i, none⟩ = some (.slice ai li ci) ∧ li ≤ 9223372036854775807 ∧ li ≤ ci ∧ NSl w ai li (ls.getD i []))
theorem NNSl.keep {w w' : World} {a : Option Addr} {len : Nat} {ls : List (List (Int × Int))} (h : NNSl w a len ls) (hb : Below w.heap.size w w') : NNSl w' a len ls := by
  refine ⟨h.1, ?_⟩
  rcases h.2 with h0 | ⟨b, off, ha, hlt, hc⟩
  · exact .inl h0
  · refine .inr ⟨b, off, ha, Nat.lt_of_lt_of_le hlt hb.size, fun i hi => ?_⟩
    obtain ⟨ai, li, ci, h1, h2, h2', h3⟩ := hc i hi
    exact ⟨ai, li, ci, (hb.cell (p := ⟨b, off + i, none⟩) hlt).trans h1, h2, h2', h3.keep hb⟩
theorem NNSl.at {w : World} {a : Option Addr} {len : Nat} {ls : List (List (Int × Int))} (h : NNSl w a len ls) (h0 : 0 < len) :
    ∃ b off, a = some ⟨b, off, none⟩ ∧ b < w.heap.size ∧ ∀ i, i < len → ∃ ai li ci, w.cell? ⟨b, off + i, none⟩ = some (.slice ai li ci) ∧ li ≤ 9223372036854775807 ∧ li ≤ ci ∧ NSl w ai li (ls.getD i []) := by
  rcases h.2 with h1 | h1
  · omega
  · exact h1
/-- The first n lists, one behind the other. -/
def cat (ls : List (List (Int × Int))) (n : Nat) : List (Int × Int) := (ls.take n).flatten
theorem cat_zero (ls : List (List (Int × Int))) : cat ls 0 = [] := rfl
theorem cat_succ (ls : List (List (Int × Int))) (n : Nat) (h : n < ls.length) : cat ls (n + 1) = cat ls n ++ ls.getD n [] := by
  unfold cat
  rw [List.take_succ_eq_append_getElem h, List.flatten_append, List.getD_eq_getElem?_getD, List.getElem?_eq_getElem h]
  simp
theorem node_row8 (w : World) (x y : Int) : NSl (w.alloc (.cells #[.int .i64 x, .int .i64 y] 66)) (some ⟨w.heap.size, 0, none⟩) 1 [(x, y)] := by
  refine ⟨rfl, .inr ⟨w.heap.size, 0, rfl, by simp, fun i hi => ?_⟩⟩
  obtain rfl : i = 0 := by omega
  constructor <;> simp [go_sem]
theorem node_row_at (w : World) (s : Nat) (hs : w.heap.size = s) (x y : Int) : NSl (w.alloc (.cells #[.int .i64 x, .int .i64 y] 66)) (some ⟨s, 0, none⟩) 1 [(x, y)] := by
  subst hs
  exact node_row8 w x y
end Go.Proofs.YtkadanagmahhgaaGreatDoor
namespace Go.Proofs.YtkadanagmahhgaaGreatDoor
open Go.ChangeShapes Go.WideShapes Go.ChangeAt Go.RowKit
set_option linter.unusedVariables false

theorem numN_any (n : Int) (w : World) :
    Calls Tryz.prog 95 #[.int .i64 n] w fun e w' => e = .returned (.agg #[.int .i64 1, .int .i64 n]) ∧ Below w.heap.size w w' := by
  go_enter Tryz.func95, Tryz.ntmps95
  go_wp2
  exact bodyPost_ret (v := .agg #[.int .i64 1, .int .i64 n]) (by simp [results, Tryz.results95, go_sem]) rfl ⟨rfl, by go_grown⟩
theorem varN_any (n : Int) (w : World) :
    Calls Tryz.prog 97 #[.int .i64 n] w fun e w' => e = .returned (.agg #[.int .i64 2, .int .i64 n]) ∧ Below w.heap.size w w' := by
  go_enter Tryz.func97, Tryz.ntmps97
  go_wp2
  exact bodyPost_ret (v := .agg #[.int .i64 2, .int .i64 n]) (by simp [results, Tryz.results97, go_sem]) rfl ⟨rfl, by go_grown⟩
theorem node2_row (w : World) (x y u v : Int) : NSl (w.alloc (.cells #[.int .i64 x, .int .i64 y, .int .i64 u, .int .i64 v] 66)) (some ⟨w.heap.size, 0, none⟩) 2 [(x, y), (u, v)] := by
  refine ⟨rfl, .inr ⟨w.heap.size, 0, rfl, by simp, fun i hi => ?_⟩⟩
  match i, hi with
  | 0, _ => simp [go_sem]
  | 1, _ => simp [go_sem]
/-- What a row of nodes that grows holds so far: what is still to come is X. -/
def Grow (w wr : World) (v : Value) (L X T : List (Int × Int)) : Prop := wr.ownsRow w.heap.size 66 2 v L.length (flat L) ∧ L ++ X = T ∧ Below w.heap.size w wr
/-- Behind an append of some nodes. -/
theorem Grow.push {w wr wa w5 : World} {v v5 : Value} {L M X T : List (Int × Int)} {n : Nat} (h : Grow w wr v L (M ++ X) T) (hb : Below wr.heap.size wr wa) (hn : M.length = n) (h5 : w5.ownsRow w.heap.size 66 2 v5 (L.length + n) (flat L ++ flat M)) (hg : wa.grownBy w5 v.ownBlock) : Grow w w5 v5 (L ++ M) X T := by
  obtain ⟨h1, h2, h3⟩ := h
  have hba := h3.trans (hb.mono h3.size)
  exact ⟨by rw [List.length_append, flat_append, hn]; exact h5, by rw [← h2, List.append_assoc], hba.grown hg hba.size (own_ge h1)⟩
theorem Grow.same {w wr wa w5 : World} {v v5 : Value} {L X T : List (Int × Int)} (h : Grow w wr v L X T) (hb : Below wr.heap.size wr wa) (hg : wa.grownBy w5 v.ownBlock) {p : Addr} (hp : wr.heap.size ≤ p.block) (hpa : p.block < wa.heap.size) : w5.cell? p = wa.cell? p := by
  have hne : some p.block ≠ v.ownBlock := fun e => by have := own_in h.1 p.block e.symm; omega
  exact World.cell?_of_block (hg.block _ hpa hne)
set_option maxHeartbeats 4000000 in
set_option maxRecDepth 20000 in
theorem specTerm_in (a : Option Addr) (len cap : Nat) (p : List Mon) (w : World) (h : PSl w a len p) (hp : polyB p = true) (h0 : 0 < len) :
    Calls Tryz.prog 57 #[.slice a len cap] w fun e w' => ∃ v : Value, e = .returned (.tuple #[v, .bool (goodB (termF 0 p))]) ∧ w'.ownsRow w.heap.size 66 2 v (madeL (termF 0 p)).length (flat (madeL (termF 0 p))) ∧ Below w.heap.size w w' := by
  obtain ⟨i0, hi, hz0, hz1, hz2⟩ := info_parts infoNode
  have hll := h.1
  have hlen : len ≤ 40 := by unfold polyB at hp; rw [Bool.and_eq_true] at hp; have := of_decide_eq_true hp.2; omega
  have HG := (show Hid _ from specPoly_any a len cap p w h (by omega))
  rw [hp] at HG
  have HA : Hid (∀ x ∈ p, powB x.1 = true) := by
    have : ∀ (prev : Option (List Int)) (q : List Mon), gpF prev q = true → ∀ x ∈ q, powB x.1 = true := by
      intro prev q
      induction q generalizing prev with
      | nil => intro _ x hx; cases hx
      | cons m r ih =>
        intro hq x hx
        rw [gpF, Bool.and_eq_true] at hq
        rcases List.mem_cons.1 hx with rfl | hx
        · have h1 := hq.1; unfold fitM at h1; rw [Bool.and_eq_true, Bool.and_eq_true] at h1; exact h1.1.1
        · exact ih _ hq.2 x hx
    unfold polyB at hp
    rw [Bool.and_eq_true] at hp
    exact this _ p hp.1
  have HM : Hid (∀ (v : Value) (L : List (Int × Int)) (W : World), Grow w W v L [] (termF 0 p) → L.length ≤ 100000 → Calls Tryz.prog 101 #[v] W fun e w' => ∃ v' : Value, e = .returned (.tuple #[v', .bool (goodB (termF 0 p))]) ∧ w'.ownsRow w.heap.size 66 2 v' (madeL (termF 0 p)).length (flat (madeL (termF 0 p))) ∧ Below W.heap.size W w') := fun v L W hG hl => by
    have e : L = termF 0 p := by have := hG.2.1; rwa [List.append_nil] at this
    rw [← e]
    exact made_any w.heap.size v L.length L W hG.1 hG.2.2.size (by omega)
  obtain ⟨b, off, rfl, hbl, hc⟩ := h.at h0
  have HC := (show Hid _ from hc)
  have HNum : Hid (∀ (n : Int) W, Calls Tryz.prog 95 #[.int .i64 n] W fun e w' => e = .returned (.agg #[.int .i64 1, .int .i64 n]) ∧ Below W.heap.size W w') := fun n W => numN_any n W
  have HVar : Hid (∀ (n : Int) W, Calls Tryz.prog 97 #[.int .i64 n] W fun e w' => e = .returned (.agg #[.int .i64 2, .int .i64 n]) ∧ Below W.heap.size W w') := fun n W => varN_any n W
  have hl0 : ((len : Int) == 0) = false := by simp; omega
  have hm : len ≤ 9223372036854775807 := by omega
  have HTF : Hid (∀ k, k < len → termF k (p.drop k) = monT (p.getD k ([], 0)) ++ (tailT k ++ termF (k + 1) (p.drop (k + 1)))) := fun k hk => termF_drop p k (by omega)
  have HTE : Hid (termF len (p.drop len) = []) := termF_end p len (by omega) len
  clear hc hp h
  generalize hTT : termF 0 p = T at HM ⊢
  have HT0 : Hid (termF 0 (p.drop 0) = T) := hTT
  clear hTT
  go_enter Tryz.func57, Tryz.ntmps57
  go_wp2_with fail
  refine Calls.mono HG.out ?_
  rintro r w1 ⟨rfl, hb1⟩
  clear HG
  go_wp2_with fail
  go_loopw [4, 19] (fun o i wr => ∃ (k : Nat) (L : List (Int × Int)), k ≤ len ∧ i = .int .i64 (k : Int) ∧ L.length ≤ 74 * k ∧ Hid (Grow w wr o L (termF k (p.drop k)) T)) (fun _ i _ => len - (intOf i).toNat)
  case atStart => exact ⟨0, [], by omega, rfl, by simp, World.ownsRow_nil _ _ _ _, HT0.out, hb1⟩
  case round =>
    obtain ⟨k, L, hk, rfl, hL, HR⟩ := hrel
    clear hb1 HT0
    by_cases hlt : k < len
    · obtain ⟨ai, li, ci, c1, hli, hci, hS, c2⟩ := HC.out k hlt
      have hpw := HA.out (p.getD k ([], 0)) (by
        have e1 : p.getD k ([], 0) = p[k]'(by omega) := by rw [List.getD_eq_getElem?_getD, List.getElem?_eq_getElem (by omega)]; rfl
        rw [e1]; exact List.getElem_mem _)
      have hl4 := pow_len hpw
      obtain rfl : li = 4 := by have := hS.1; omega
      have htf := HTF.out k hlt
      obtain ⟨m, hm2⟩ : ∃ m, p.getD k ([], 0) = m := ⟨_, rfl⟩
      rw [hm2] at c2 hS hpw hl4 htf
      obtain ⟨e, y⟩ := m
      simp only at c2 hS hpw hl4
      have HP : Hid (∀ j, j < 4 → ∃ q : Nat, e.getD j 0 = (q : Int) ∧ q ≤ 9) := fun j hj => by
        have h4 := pow_len hpw
        unfold powB allB at hpw
        rw [Bool.and_eq_true, List.all_eq_true] at hpw
        have e1 : e.getD j 0 = e[j]'(by omega) := by rw [List.getD_eq_getElem?_getD, List.getElem?_eq_getElem (by omega)]; rfl
        have := hpw.2 (e[j]'(by omega)) (List.getElem_mem _)
        rw [Bool.and_eq_true] at this
        have t1 := of_decide_eq_true this.1
        have t2 := of_decide_eq_true this.2
        rw [e1]
        exact ⟨(e[j]'(by omega)).toNat, by omega, by omega⟩
      rw [htf] at HR
      obtain ⟨X, hX⟩ : ∃ X, termF (k + 1) (p.drop (k + 1)) = X := ⟨_, rfl⟩
      rw [hX] at HR
      have hbr := HR.out.2.2
      have d1 := (hbr.cell (p := ⟨b, off + k * 2, none⟩) hbl).trans c1
      have d2 := (hbr.cell (p := ⟨b, off + k * 2 + 1, none⟩) hbl).trans c2
      obtain ⟨W1, hW1⟩ : ∃ W1, wr.alloc (.cells #[.slice ai 4 ci, .int .i64 y] 100) = W1 := ⟨_, rfl⟩
      have hb1 : Below wr.heap.size wr W1 := by rw [← hW1]; exact (Below.refl _ _).alloc (Nat.le_refl _) _
      have hs1 : W1.heap.size = wr.heap.size + 1 := by rw [← hW1]; simp
      have n0 : W1.cell? ⟨wr.heap.size, 0, none⟩ = some (.slice ai 4 ci) := by rw [← hW1]; simp [go_sem]
      have n1 : W1.cell? ⟨wr.heap.size, 1, none⟩ = some (.int .i64 y) := by rw [← hW1]; simp [go_sem]
      have hik : (k : Int) < len := by omega
      have hbne : ¬ b = wr.heap.size := by have := hbr.size; omega
      clear htf hpw hm2 c1 c2
      go_wp2_with fail
      (try rw [hW1])
      refine Calls.mono (HNum.out y _) ?_
      rintro r w2 ⟨rfl, hb2⟩
      have hb12 : Below wr.heap.size wr w2 := hb1.trans (hb2.mono hb1.size)
      obtain ⟨Wa, hWa⟩ : ∃ Wa, w2.alloc (.cells #[.int .i64 1, .int .i64 y] 66) = Wa := ⟨_, rfl⟩
      have hba : Below wr.heap.size wr Wa := by rw [← hWa]; exact hb12.alloc hb12.size _
      have hba2 : Below W1.heap.size W1 Wa := by rw [← hWa]; exact hb2.alloc hb2.size _
      have hnode : NSl Wa (some ⟨w2.heap.size, 0, none⟩) 1 [(1, y)] := by rw [← hWa]; exact node_row_at w2 _ rfl 1 y
      have hsa : w.heap.size ≤ Wa.heap.size := Nat.le_trans hbr.size hba.size
      have hrow := own_keep HR.out.1 hba
      have n0a := (hba2.cell (p := ⟨wr.heap.size, 0, none⟩) (by show wr.heap.size < _; omega)).trans n0
      have HFin : Hid (∀ v5 w5, w5.ownsRow w.heap.size 66 2 v5 (L.length + 1) (flat L ++ flat [(1, y)]) → Wa.grownBy w5 u4.ownBlock → Grow w w5 v5 (L ++ [(1, y)]) (powT 0 (e.drop 0) ++ (tailT k ++ X)) T ∧ w5.cell? ⟨wr.heap.size, 0, none⟩ = some (.slice ai 4 ci)) := fun v5 w5 h5 g5 =>
        ⟨Grow.push (M := [(1, y)]) (by have := HR.out; unfold monT at this; simpa using this) hba rfl h5 g5, (HR.out.same (v5 := v5) hba g5 (p := ⟨wr.heap.size, 0, none⟩) (Nat.le_refl _) (by show wr.heap.size < _; have := hba2.size; omega)).trans n0a⟩
      clear hb1 hb2 hb12 hba hba2 n0 n1 n0a HR hbr d1 d2
      go_wp2_with ((try rw [hWa]); at_builtin; refine wpList_append_own _ rfl _ _ 24 rfl w.heap.size 66 i0 (.agg #[.int .i64 0, .int .i64 0]) 2 16 Tryz.underlying24 hi hz0 hz1 hz2 rfl (by decide) _ _ _ rfl hrow ⟨w2.heap.size, 0, none⟩ 1 1 (flat [(1, y)]) rfl rfl (flat_cells hnode) (flat_one _) (by unfold maxLen; omega) (by omega) hsa ?_; intro v5 w5 hown5 hg5 _; obtain ⟨hG5, c5⟩ := HFin.out v5 w5 hown5 hg5; have HG5 : Hid (Grow w w5 v5 (L ++ [(1, y)]) (powT 0 (e.drop 0) ++ (tailT k ++ X)) T) := hG5; clear hown5 hg5 hG5 HFin hrow hnode hWa)
      have HSl : Hid (∀ W, Below w.heap.size w W → Sl W ai 4 e) := fun W hW => hS.keep hW
      clear hS
      go_loopw [4, 33] (fun o i wm => ∃ (j : Nat) (M : List (Int × Int)), j ≤ 4 ∧ i = .int .i64 (j : Int) ∧ M.length ≤ 74 * k + 1 + 18 * j ∧ Hid (Grow w wm o M (powT j (e.drop j) ++ (tailT k ++ X)) T)) (fun _ i _ => 4 - (intOf i).toNat)
      case atStart => exact ⟨0, _, by omega, rfl, by simp; omega, HG5⟩
      case round =>
        obtain ⟨j, M, hj, rfl, hM, HRm⟩ := hrel
        clear HG5 c5
        by_cases hlt2 : j < 4
        · obtain ⟨q, hq, hq9⟩ := HP.out j hlt2
          have hbm := HRm.out.2.2
          obtain ⟨be, oe, rfl, hce⟩ := cells_of (HSl.out _ hbm) (by omega)
          have ce := hce j hlt2
          rw [hq] at ce
          have hpt := powT_drop e j (by omega)
          rw [hq, Int.toNat_natCast] at hpt
          rw [hpt] at HRm
          obtain ⟨Y, hY⟩ : ∃ Y, powT (j + 1) (e.drop (j + 1)) ++ (tailT k ++ X) = Y := ⟨_, rfl⟩
          have HRq : Hid (Grow w wr u4 M (rep q j ++ Y) T) := by have := HRm.out; rw [List.append_assoc, hY] at this; exact this
          have HY : Hid (powT (j + 1) (e.drop (j + 1)) ++ (tailT k ++ X) = Y) := hY
          have i2 : (j : Int) < 4 := by omega
          clear hce hpt HRm hY hbm hq
          go_wp2_with fail
          go_loopw [4, 8] (fun o i wi => ∃ (t : Nat) (K : List (Int × Int)), t ≤ q ∧ i = .int .i64 ((q - t : Nat) : Int) ∧ K.length ≤ 74 * k + 1 + 18 * j + 2 * t ∧ Hid (Grow w wi o K (rep (q - t) j ++ Y) T)) (fun _ i _ => (intOf i).toNat)
          case atStart => exact ⟨0, M, by omega, rfl, by omega, HRq⟩
          case round =>
            obtain ⟨t, K, ht, rfl, hK, HRi⟩ := hrel
            clear HRq ce
            by_cases hlt3 : t < q
            · obtain ⟨z, hz⟩ : ∃ z, q - t = z + 1 := ⟨q - t - 1, by omega⟩
              rw [hz] at HRi ⊢
              have hbi := HRi.out.2.2
              have hzi : (0 : Int) < ((z + 1 : Nat) : Int) := by omega
              have hzz : ((z + 1 : Nat) : Int) - 1 = ((q - (t + 1) : Nat) : Int) := by omega
              have HZ : Hid (z = q - (t + 1)) := by show _ = _; omega
              clear hz
              go_wp2_with fail
              refine Calls.mono (HVar.out j _) ?_
              rintro r w2 ⟨rfl, hb2⟩
              obtain ⟨Wa, hWa⟩ : ∃ Wa, w2.alloc (.cells #[.int .i64 2, .int .i64 j, .int .i64 6, .int .i64 0] 66) = Wa := ⟨_, rfl⟩
              have hba : Below wr.heap.size wr Wa := by rw [← hWa]; exact hb2.alloc hb2.size _
              have hnode : NSl Wa (some ⟨w2.heap.size, 0, none⟩) 2 [(2, (j : Int)), (6, 0)] := by rw [← hWa]; exact node2_row w2 2 j 6 0
              have hsa : w.heap.size ≤ Wa.heap.size := Nat.le_trans hbi.size hba.size
              have hrow := own_keep HRi.out.1 hba
              have HF2 : Hid (∀ v5 w5, w5.ownsRow w.heap.size 66 2 v5 (K.length + 2) (flat K ++ flat [(2, (j : Int)), (6, 0)]) → Wa.grownBy w5 u4.ownBlock → Grow w w5 v5 (K ++ [(2, (j : Int)), (6, 0)]) (rep (q - (t + 1)) j ++ Y) T) := fun v5 w5 h5 g5 =>
                Grow.push (M := [(2, (j : Int)), (6, 0)]) (by rw [← HZ.out]; exact HRi.out) hba rfl h5 g5
              clear hb2 hba HRi hbi
              go_wp2_with ((try rw [hWa]); at_builtin; refine wpList_append_own _ rfl _ _ 24 rfl w.heap.size 66 i0 (.agg #[.int .i64 0, .int .i64 0]) 2 16 Tryz.underlying24 hi hz0 hz1 hz2 rfl (by decide) _ _ _ rfl hrow ⟨w2.heap.size, 0, none⟩ 2 2 (flat [(2, (j : Int)), (6, 0)]) rfl rfl (flat_cells hnode) (flat_one _) (by unfold maxLen; omega) (by omega) hsa ?_; intro v5 w5 hown5 hg5 _)
              have HG6 := (show Hid _ from HF2.out v5 w5 hown5 hg5)
              clear hown5 hg5 HF2 hrow hnode hWa
              go_roundw
              case rel => exact ⟨t + 1, _, by omega, by rw [← hzz]; try go_num, by simp; omega, HG6⟩
              case measure => (simp [intOf]; try omega)
            · obtain rfl : t = q := by omega
              rw [Nat.sub_self] at HRi ⊢
              have HRj : Hid (Grow w wr u4 K (powT (j + 1) (e.drop (j + 1)) ++ (tailT k ++ X)) T) := by rw [HY.out]; exact HRi.out
              clear HRi
              go_wp2
              go_roundw
              case rel => exact ⟨j + 1, K, by omega, by go_num, by omega, HRj⟩
              case measure => simp [intOf]; omega
        · obtain rfl : j = 4 := by omega
          rw [powT_end e 4 (by omega)] at HRm
          by_cases hk0 : k = 0
          · have HRk : Hid (Grow w wr u4 M (termF (k + 1) (p.drop (k + 1))) T) := by
              have := HRm.out
              unfold tailT at this
              rw [if_pos hk0, ← hX] at this
              exact this
            clear HRm
            subst hk0
            go_wp2
            go_roundw
            case rel => exact ⟨0 + 1, M, by omega, by go_num, by omega, HRk⟩
            case measure => simp [intOf]; omega
          · have hkk : (0 : Int) < (k : Int) := by omega
            have HRk : Hid (Grow w wr u4 M ([(4, 0)] ++ X) T) := by
              have := HRm.out
              unfold tailT at this
              rw [if_neg hk0] at this
              exact this
            have hbm := HRk.out.2.2
            obtain ⟨Wa, hWa⟩ : ∃ Wa, wr.alloc (.cells #[.int .i64 4, .int .i64 0] 66) = Wa := ⟨_, rfl⟩
            have hba : Below wr.heap.size wr Wa := by rw [← hWa]; exact (Below.refl _ _).alloc (Nat.le_refl _) _
            have hnode : NSl Wa (some ⟨wr.heap.size, 0, none⟩) 1 [(4, 0)] := by rw [← hWa]; exact node_row_at wr _ rfl 4 0
            have hsa : w.heap.size ≤ Wa.heap.size := Nat.le_trans hbm.size hba.size
            have hrow := own_keep HRk.out.1 hba
            have HF2 : Hid (∀ v5 w5, w5.ownsRow w.heap.size 66 2 v5 (M.length + 1) (flat M ++ flat [(4, 0)]) → Wa.grownBy w5 u4.ownBlock → Grow w w5 v5 (M ++ [(4, 0)]) (termF (k + 1) (p.drop (k + 1))) T) := fun v5 w5 h5 g5 => by
              rw [hX]; exact Grow.push (M := [(4, 0)]) HRk.out hba rfl h5 g5
            clear hba HRk HRm hbm
            go_wp2_with ((try rw [hWa]); at_builtin; refine wpList_append_own _ rfl _ _ 24 rfl w.heap.size 66 i0 (.agg #[.int .i64 0, .int .i64 0]) 2 16 Tryz.underlying24 hi hz0 hz1 hz2 rfl (by decide) _ _ _ rfl hrow ⟨wr.heap.size, 0, none⟩ 1 1 (flat [(4, 0)]) rfl rfl (flat_cells hnode) (flat_one _) (by unfold maxLen; omega) (by omega) hsa ?_; intro v5 w5 hown5 hg5 _)
            have HG6 := (show Hid _ from HF2.out v5 w5 hown5 hg5)
            clear hown5 hg5 HF2 hrow hnode hWa
            go_roundw
            case rel => exact ⟨k + 1, _, by omega, by go_num, by simp; omega, HG6⟩
            case measure => simp [intOf]; omega
    · obtain rfl : k = len := by omega
      rw [HTE.out] at HR
      have HMm := (show Hid _ from HM.out _ L _ HR.out (by omega))
      have hbr := HR.out.2.2
      clear HR
      go_wp2_with fail
      refine Calls.mono HMm.out ?_
      rintro r w6 ⟨v6, rfl, hown6, hb6⟩
      have hB6 := hbr.trans (hb6.mono hbr.size)
      clear hb6 hbr HMm
      go_wp2
      go_ret2
      exact ⟨_, rfl, hown6, hB6⟩
theorem polyB_nil : polyB [] = true := rfl
theorem good_zero : goodB [(1, 0)] = true := by decide +kernel
theorem own_lit (w : World) (x y : Int) : (w.alloc (.cells #[.int .i64 x, .int .i64 y] 66)).ownsRow w.heap.size 66 2 (.slice (some ⟨w.heap.size, 0, none⟩) 1 1) 1 (flat [(x, y)]) :=
  ⟨rfl, .inr ⟨w.heap.size, 1, #[.int .i64 x, .int .i64 y], rfl, Nat.le_refl _, by unfold World.alloc; exact Array.getElem?_push_size, by omega, by unfold maxLen; omega, rfl, rfl⟩⟩
theorem termOk_nil : termOk [] = true := by unfold termOk termP; rw [polyB_nil]; exact good_zero
theorem termR_nil : termR [] = [(1, 0)] := by unfold termR; rw [if_pos termOk_nil]; rfl
theorem termR_some {p : List Mon} (hp : polyB p = true) (h0 : 0 < p.length) : termOk p = goodB (termF 0 p) ∧ termR p = madeL (termF 0 p) := by
  have e : termP p = termF 0 p := by unfold termP; rw [if_neg (by omega)]
  have e2 : termOk p = goodB (termF 0 p) := by unfold termOk; rw [hp, e]; rfl
  refine ⟨e2, ?_⟩
  unfold termR madeL
  rw [e2, e]
theorem specTerm_any (a : Option Addr) (len cap : Nat) (p : List Mon) (w : World) (h : PSl w a len p) (hm : len ≤ 9223372036854775807) :
    Calls Tryz.prog 57 #[.slice a len cap] w fun e w' => ∃ v : Value, e = .returned (.tuple #[v, .bool (termOk p)]) ∧ w'.ownsRow w.heap.size 66 2 v (termR p).length (flat (termR p)) ∧ Below w.heap.size w w' := by
  have hll := h.1
  have HG := (show Hid _ from specPoly_any a len cap p w h hm)
  cases hp : polyB p with
  | false =>
    have e1 : termOk p = false := by unfold termOk; rw [hp]; rfl
    have e2 : termR p = [] := by unfold termR; rw [e1]; rfl
    rw [e1, e2]
    rw [hp] at HG
    clear e1 e2 hp
    go_enter Tryz.func57, Tryz.ntmps57
    go_wp2_with fail
    refine Calls.mono HG.out ?_
    rintro e w1 ⟨rfl, hb1⟩
    go_wp2
    go_ret2
    exact ⟨_, rfl, World.ownsRow_nil _ _ _ _, hb1⟩
  | true =>
    by_cases h0 : 0 < len
    · obtain ⟨e1, e2⟩ := termR_some hp (by omega)
      rw [e1, e2]
      exact specTerm_in a len cap p w h hp h0
    · obtain rfl : len = 0 := by omega
      obtain rfl : p = [] := List.eq_nil_of_length_eq_zero hll
      rw [termOk_nil, termR_nil]
      rw [hp] at HG
      have HNum : Hid (∀ W, Calls Tryz.prog 95 #[.int .i64 0] W fun e w' => e = .returned (.agg #[.int .i64 1, .int .i64 0]) ∧ Below W.heap.size W w') := fun W => numN_any 0 W
      clear hp h
      go_enter Tryz.func57, Tryz.ntmps57
      go_wp2_with fail
      refine Calls.mono HG.out ?_
      rintro e w1 ⟨rfl, hb1⟩
      go_wp2_with fail
      refine Calls.mono (HNum.out _) ?_
      rintro e w2 ⟨rfl, hb2⟩
      have hB2 := hb1.trans (hb2.mono hb1.size)
      clear hb1 hb2 HNum HG
      go_wp2
      go_ret2
      exact ⟨_, rfl, own_base (own_lit w2 1 0) hB2.size, hB2.alloc hB2.size _⟩
end Go.Proofs.YtkadanagmahhgaaGreatDoor
namespace Go.Proofs.YtkadanagmahhgaaGreatDoor
open Go.ChangeShapes Go.WideShapes Go.ChangeAt Go.RowKit
set_option linter.unusedVariables false

end Go.Proofs.YtkadanagmahhgaaGreatDoor
