/-
  PROVED HERE: a call by its contract, and an append to a row of one's own, as one step of a region that draws its order. No condition. which lists are good parents and good parts, to the model and to the program, at every list. No other condition.
-/
import Derived.Test.YthkjmgjajmghmaaDoorRows
import Derived.Test.YthkjmgjajmghmaaDoorRun0
import Derived.Deep.RegionLaw
import Derived.Maps.AppendAt
import Derived.Deep.QuietTactic
import Derived.BigQuiet
import Derived.Test.YthkjmgjajmghmaaDoorRun4
import Derived.Test.YthkjmgjajmghmaaDoorRun15
namespace Go.Proofs.YthkjmgjajmghmaaDoor
open Go.RowKit
set_option linter.unusedVariables false

theorem step_call {P : Program} {ops : Array Oper} {o : Oper} {a : Act} {w : World} {K : Act → World → Prop} {Q : Exit → Act → World → Prop} {E : Prop}
    (hg : o.guard = none) (f : FuncId) (args : Array Value) (hrun : (execOp a.eval o).run P w = .ok (.enter f args) w) (R : Ending → World → Prop) (hc : Calls P f args w R)
    (hK : ∀ e w', R e w' → ∃ v, e = .returned v ∧ K (a.put o.dst v) w') :
    if Region.wanted o (yielded ops a.tmps) = true then Oper.wp P o a w K Q else E := by
  have hw : Region.wanted o (yielded ops a.tmps) = true := by simp [Region.wanted, hg]
  rw [if_pos hw]
  unfold Oper.wp
  rw [hrun, Oper.upon_enter]
  refine hc.mono fun e w' h => ?_
  obtain ⟨v, rfl, hk⟩ := hK e w' h
  exact hk

theorem step_append {P : Program} {ops : Array Oper} {o : Oper} {a : Act} {w : World} {K : Act → World → Prop} {Q : Exit → Act → World → Prop} {E : Prop}
    (hg : o.guard = none) (s x : Operand) (t : TypeId) (ho : o.op = .call { callee := .builtin .append, args := #[s, x], argTypes := #[t, t] })
    (base : Nat) (e : TypeId) (i : TypeInfo) (z : Value) (size bytes : Nat) (ht : P.underlying t = some (.slice e)) (hi : P.info? e = some i) (hz : i.zero = some z)
    (hsize : i.size = size) (hby : i.bytes = bytes) (hzs : z.cells.size = size) (hsz : 0 < size)
    (v : Value) (n : Nat) (xs : List Value) (hs : a.eval s = v) (hown : w.ownsRow base e size v n xs)
    (ad : Addr) (m c : Nat) (news : List Value) (hx : a.eval x = .slice (some ad) m c) (hl : news.length = m * size) (hnews : ∀ j u, news[j]? = some u → w.cell? (ad.add j) = some u) (h1 : ∀ u ∈ news, u.oneCell' = true)
    (h63 : n + m ≤ maxLen) (hbytes : (n + m) * bytes ≤ 140737488355328) (hbase : base ≤ w.heap.size)
    (h : ∀ v' w', w'.ownsRow base e size v' (n + m) (xs ++ news) → w.grownBy w' v.ownBlock → (v'.ownBlock = v.ownBlock ∨ v'.ownBlock = some w.heap.size) → K (a.put o.dst v') w') :
    if Region.wanted o (yielded ops a.tmps) = true then Oper.wp P o a w K Q else E := by
  have hw : Region.wanted o (yielded ops a.tmps) = true := by simp [Region.wanted, hg]
  rw [if_pos hw]
  obtain ⟨v', w', hr, h2, h3, h4, h5⟩ := run_append_own_at (P := P) w base t o.type e i z size bytes ht hi hz hsize hby hzs hsz v n xs hown ad m c news hl hnews h1 h63 hbytes hbase
  unfold Oper.wp execOp
  simp only [ho, resolve, invoke, builtin, Sem.run_bind, Sem.run_pure, Result.andThen_ok, List.map_toArray, List.map_cons, List.map_nil, hs, hx, hr]
  exact h v' w' h2 h3 h5
theorem below_drawn {B : Nat} {w w' : World} (h : Below B w w') : ∀ n, Below B w (w'.drewN n) := fun n => ⟨h.os, h.tape, h.output, h.size, h.block⟩
end Go.Proofs.YthkjmgjajmghmaaDoor
namespace Go.Proofs.YthkjmgjajmghmaaDoor
open Go.ChangeShapes Go.WideShapes Go.ChangeAt Go.RowKit
set_option linter.unusedVariables false

theorem par_no {l : List Int} {k : Nat} (hk : k < l.length) (h : l.getD k 0 < 0 ∨ (k : Int) < l.getD k 0) : ¬ Par l := fun hp => by
  have := hp k hk
  omega
theorem implIsGood_any (a : Option Addr) (len cap : Nat) (l : List Int) (w : World) (h : Sl w a len l) (hm : len ≤ 9223372036854775807) :
    Calls Tryd.prog 68 #[.slice a len cap] w fun e w' => e = .returned (.bool (decide (Par l))) ∧ w' = w := by
  have hll := h.1
  obtain ⟨B, hB⟩ : ∃ B, decide (Par l) = B := ⟨_, rfl⟩
  rw [hB]
  have HB := (show Hid _ from hB)
  have HS := (show Hid _ from h)
  clear hB h
  go_enter Tryd.func68, Tryd.ntmps68
  go_wp2_with fail
  go_loopw [7] (fun i wr => ∃ (k : Nat), k ≤ len ∧ i = .int .i64 k ∧ Hid (∀ j, j < k → 0 ≤ l.getD j 0 ∧ l.getD j 0 ≤ (j : Int)) ∧ wr = w) (fun i _ => len - (intOf i).toNat)
  case atStart => exact ⟨0, Nat.zero_le _, rfl, fun j hj => absurd hj (Nat.not_lt_zero _), rfl⟩
  case round =>
    obtain ⟨k, hk, rfl, hd, rfl⟩ := hrel
    by_cases hlt : k < len
    · obtain ⟨b, off, rfl, hc⟩ := cells_of HS.out (by omega)
      have c1 := hc k hlt
      clear hc
      by_cases hy : 0 ≤ l.getD k 0
      · by_cases hz : l.getD k 0 ≤ (k : Int)
        · have HD : Hid (∀ j, j < k + 1 → 0 ≤ l.getD j 0 ∧ l.getD j 0 ≤ (j : Int)) := fun j hj => by
            by_cases e : j = k
            · subst e; exact ⟨hy, hz⟩
            · exact hd.out j (by omega)
          have hy' : ¬ l.getD k 0 < 0 := by omega
          have hz' : ¬ (k : Int) < l.getD k 0 := by omega
          clear hd
          generalize l.getD k 0 = z at c1 hy hy' hz hz'
          go_wp2
          go_roundw
          case rel => exact ⟨k + 1, by omega, by go_num, HD, (by first | trivial | rfl)⟩
          case measure => simp [intOf]; omega
        · have e : B = false := by
            rw [← HB.out]
            exact decide_eq_false (par_no (k := k) (by omega) (by omega))
          subst e
          have hy' : ¬ l.getD k 0 < 0 := by omega
          have hz' : (k : Int) < l.getD k 0 := by omega
          clear hd
          generalize l.getD k 0 = z at c1 hy hy' hz hz'
          go_wp2
          go_ret
          exact ⟨rfl, rfl⟩
      · have e : B = false := by
          rw [← HB.out]
          exact decide_eq_false (par_no (k := k) (by omega) (by omega))
        subst e
        have hy' : l.getD k 0 < 0 := by omega
        clear hd
        generalize l.getD k 0 = z at c1 hy hy'
        go_wp2
        go_ret
        exact ⟨rfl, rfl⟩
    · obtain rfl : k = len := by omega
      have e : B = true := by
        rw [← HB.out]
        exact decide_eq_true (fun j hj => hd.out j (by omega))
      subst e
      clear hd HB
      go_wp2
      go_ret
      exact ⟨rfl, rfl⟩

theorem implParents_any (a : Option Addr) (len cap : Nat) (l : List Int) (w : World) (h : Sl w a len l) (hm : len ≤ 9223372036854775807) :
    Calls Tryd.prog 63 #[.slice a len cap] w fun e w' => e = .returned (.bool (parB l)) ∧ w' = w := by
  have hll := h.1
  by_cases h2 : len ≤ 200
  · have HG := (show Hid _ from implIsGood_any a len cap l w h hm)
    have e : parB l = decide (Par l) := by unfold parB; rw [decide_eq_true (by omega), Bool.true_and]
    rw [e]
    generalize decide (Par l) = B at HG
    have h2' : (len : Int) ≤ 200 := by omega
    clear h e hll
    go_enter Tryd.func63, Tryd.ntmps63
    go_wp2_with fail
    refine Calls.mono HG.out ?_
    rintro e w2 ⟨rfl, rfl⟩
    go_wp2
    go_ret
    exact ⟨rfl, rfl⟩
  · have e : parB l = false := by unfold parB; rw [decide_eq_false (by omega), Bool.false_and]
    rw [e]
    have h2' : ¬ (len : Int) ≤ 200 := by omega
    clear h e hll
    go_enter Tryd.func63, Tryd.ntmps63
    go_wp2
    go_ret
    exact ⟨rfl, rfl⟩

theorem specParts_any (a : Option Addr) (len cap : Nat) (l : List Int) (w : World) (h : Sl w a len l) (hm : len ≤ 9223372036854775807) :
    Calls Tryd.prog 32 #[.slice a len cap] w fun e w' => e = .returned (.bool (partB l)) ∧ w' = w := by
  have hll := h.1
  obtain ⟨B, hB⟩ : ∃ B, partB l = B := ⟨_, rfl⟩
  rw [hB]
  have HB := (show Hid _ from hB)
  have HS := (show Hid _ from h)
  clear hB h
  by_cases h2 : len ≤ 200
  · have h2' : ¬ (200 : Int) < len := by omega
    go_enter Tryd.func32, Tryd.ntmps32
    go_wp2_with fail
    go_loopw [10] (fun i wr => ∃ (k : Nat), k ≤ len ∧ i = .int .i64 k ∧ Hid (∀ j, j < k → (0 ≤ l.getD j 0 ∧ l.getD j 0 ≤ (j : Int)) ∧ l.getD (l.getD j 0).toNat 0 = l.getD j 0) ∧ wr = w) (fun i _ => len - (intOf i).toNat)
    case atStart => exact ⟨0, Nat.zero_le _, rfl, fun j hj => absurd hj (Nat.not_lt_zero _), rfl⟩
    case round =>
      obtain ⟨k, hk, rfl, hd, rfl⟩ := hrel
      by_cases hlt : k < len
      · obtain ⟨b, off, rfl, hc⟩ := cells_of HS.out (by omega)
        have c1 := hc k hlt
        by_cases hy : 0 ≤ l.getD k 0 ∧ l.getD k 0 ≤ (k : Int)
        · have HI := (show Hid _ from in_yes (l.getD k 0) 0 k wr hy.1 hy.2)
          have c2 := hc (l.getD k 0).toNat (by omega)
          have HD : Hid (l.getD (l.getD k 0).toNat 0 = l.getD k 0 → ∀ j, j < k + 1 → (0 ≤ l.getD j 0 ∧ l.getD j 0 ≤ (j : Int)) ∧ l.getD (l.getD j 0).toNat 0 = l.getD j 0) := fun hh j hj => by
            by_cases e : j = k
            · subst e; exact ⟨hy, hh⟩
            · exact hd.out j (by omega)
          have HN : Hid (l.getD (l.getD k 0).toNat 0 ≠ l.getD k 0 → B = false) := fun hh => by
            rw [← HB.out]
            refine Bool.eq_false_iff.2 fun ht => hh ?_
            exact ((partB_iff l).1 ht).2.2 k (by omega)
          obtain ⟨z, hz⟩ : ∃ z : Nat, l.getD k 0 = z := ⟨_, (Int.toNat_of_nonneg hy.1).symm⟩
          rw [hz] at c1 HI c2 HD HN hy
          rw [Int.toNat_natCast] at c2 HD HN
          have hz1 : z < len := by omega
          clear hd hc hz
          generalize l.getD z 0 = y at c2 HD HN
          by_cases e : y = z
          · have HD' := (show Hid _ from HD.out e)
            clear HD HN hy
            subst e
            go_wp2_with fail
            refine Calls.mono HI.out ?_
            rintro e w2 ⟨rfl, rfl⟩
            go_wp2
            go_roundw
            case rel => exact ⟨k + 1, by omega, by go_num, HD', (by first | trivial | rfl)⟩
            case measure => simp [intOf]; omega
          · have eb := HN.out e
            subst eb
            have e' : (y != (z : Int)) = true := by simpa using e
            clear HD HN hy e
            go_wp2_with fail
            refine Calls.mono HI.out ?_
            rintro e w2 ⟨rfl, rfl⟩
            go_wp2
            go_ret
            exact ⟨rfl, rfl⟩
        · have HI := (show Hid _ from in_no (l.getD k 0) 0 k wr (by omega))
          have e : B = false := by
            rw [← HB.out]
            refine Bool.eq_false_iff.2 fun ht => hy ?_
            exact ((partB_iff l).1 ht).2.1 k (by omega)
          subst e
          clear hy hd hc
          generalize l.getD k 0 = z at c1 HI
          go_wp2_with fail
          refine Calls.mono HI.out ?_
          rintro e w2 ⟨rfl, rfl⟩
          go_wp2
          go_ret
          exact ⟨rfl, rfl⟩
      · obtain rfl : k = len := by omega
        have e : B = true := by
          rw [← HB.out, partB_iff]
          exact ⟨by omega, fun j hj => (hd.out j (by omega)).1, fun j hj => (hd.out j (by omega)).2⟩
        subst e
        clear hd HB
        go_wp2
        go_ret
        exact ⟨rfl, rfl⟩
  · have h2' : (200 : Int) < len := by omega
    have e : B = false := by
      rw [← HB.out]
      exact Bool.eq_false_iff.2 fun ht => by have := ((partB_iff l).1 ht).1; omega
    subst e
    go_enter Tryd.func32, Tryd.ntmps32
    go_wp2
    go_ret
    exact ⟨rfl, rfl⟩

theorem implIsFlat_any (a : Option Addr) (len cap : Nat) (l : List Int) (w : World) (h : Sl w a len l) (hp : Par l) (hm : len ≤ 200) :
    Calls Tryd.prog 64 #[.slice a len cap] w fun e w' => e = .returned (.bool (decide (Flat l))) ∧ w' = w := by
  have hll := h.1
  obtain ⟨B, hB⟩ : ∃ B, decide (Flat l) = B := ⟨_, rfl⟩
  rw [hB]
  have HB := (show Hid _ from hB)
  have HS := (show Hid _ from h)
  have HP := (show Hid _ from hp)
  clear hB h hp
  go_enter Tryd.func64, Tryd.ntmps64
  go_wp2_with fail
  go_loopw [7] (fun i wr => ∃ (k : Nat), k ≤ len ∧ i = .int .i64 k ∧ Hid (∀ j, j < k → l.getD (l.getD j 0).toNat 0 = l.getD j 0) ∧ wr = w) (fun i _ => len - (intOf i).toNat)
  case atStart => exact ⟨0, Nat.zero_le _, rfl, fun j hj => absurd hj (Nat.not_lt_zero _), rfl⟩
  case round =>
    obtain ⟨k, hk, rfl, hd, rfl⟩ := hrel
    by_cases hlt : k < len
    · obtain ⟨b, off, rfl, hc⟩ := cells_of HS.out (by omega)
      have c1 := hc k hlt
      have hy := HP.out k (by omega)
      have c2 := hc (l.getD k 0).toNat (by omega)
      have HD : Hid (l.getD (l.getD k 0).toNat 0 = l.getD k 0 → ∀ j, j < k + 1 → l.getD (l.getD j 0).toNat 0 = l.getD j 0) := fun hh j hj => by
        by_cases e : j = k
        · subst e; exact hh
        · exact hd.out j (by omega)
      have HN : Hid (l.getD (l.getD k 0).toNat 0 ≠ l.getD k 0 → B = false) := fun hh => by
        rw [← HB.out]
        exact decide_eq_false fun ht => hh (ht k (by omega))
      obtain ⟨z, hz⟩ : ∃ z : Nat, l.getD k 0 = z := ⟨_, (Int.toNat_of_nonneg hy.1).symm⟩
      rw [hz] at c1 c2 HD HN hy
      rw [Int.toNat_natCast] at c2 HD HN
      have hz1 : z < len := by omega
      clear hd hc hz
      generalize l.getD z 0 = y at c2 HD HN
      by_cases e : y = z
      · have HD' := (show Hid _ from HD.out e)
        clear HD HN hy
        subst e
        go_wp2
        go_roundw
        case rel => exact ⟨k + 1, by omega, by go_num, HD', (by first | trivial | rfl)⟩
        case measure => simp [intOf]; omega
      · have eb := HN.out e
        subst eb
        have e' : (y != (z : Int)) = true := by simpa using e
        clear HD HN hy e
        go_wp2
        go_ret
        exact ⟨rfl, rfl⟩
    · obtain rfl : k = len := by omega
      have e : B = true := by
        rw [← HB.out]
        exact decide_eq_true (fun j hj => hd.out j (by omega))
      subst e
      clear hd HB
      go_wp2
      go_ret
      exact ⟨rfl, rfl⟩

theorem implParts_any (a : Option Addr) (len cap : Nat) (l : List Int) (w : World) (h : Sl w a len l) (hm : len ≤ 9223372036854775807) :
    Calls Tryd.prog 51 #[.slice a len cap] w fun e w' => e = .returned (.bool (partB l)) ∧ w' = w := by
  have hll := h.1
  have HG := (show Hid _ from implParents_any a len cap l w h hm)
  by_cases hp : parB l = true
  · obtain ⟨h2, hP⟩ := (parB_iff l).1 hp
    have HF := (show Hid _ from implIsFlat_any a len cap l w h hP (by omega))
    have e : partB l = decide (Flat l) := by unfold partB; rw [hp, Bool.true_and]
    rw [e]
    rw [hp] at HG
    generalize decide (Flat l) = B at HF
    clear h e hll hp hP
    go_enter Tryd.func51, Tryd.ntmps51
    go_wp2_with fail
    refine Calls.mono HG.out ?_
    rintro e w2 ⟨rfl, rfl⟩
    go_wp2_with fail
    refine Calls.mono HF.out ?_
    rintro e w2 ⟨rfl, rfl⟩
    go_wp2
    go_ret
    exact ⟨rfl, rfl⟩
  · have hp' : parB l = false := by simpa using hp
    have e : partB l = false := by unfold partB; rw [hp', Bool.false_and]
    rw [e]
    rw [hp'] at HG
    clear h e hll hp hp'
    go_enter Tryd.func51, Tryd.ntmps51
    go_wp2_with fail
    refine Calls.mono HG.out ?_
    rintro e w2 ⟨rfl, rfl⟩
    go_wp2
    go_ret
    exact ⟨rfl, rfl⟩
end Go.Proofs.YthkjmgjajmghmaaDoor
