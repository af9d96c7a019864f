/-
  PROVED HERE: which numbers the model and the program tell of a number's part, at every list and every number. No other condition. plain facts for the program's joining of two parts: parts set one by one are the joined ones. No condition.
-/
import Derived.Test.YthkjmgjajmghmaaDoorRun25
import Derived.Test.YthkjmgjajmghmaaDoorC6Place
namespace Go.Proofs.YthkjmgjajmghmaaDoor
open Go.ChangeShapes Go.WideShapes Go.ChangeAt Go.RowKit
set_option linter.unusedVariables false

/-- The places, of the first k, that have a mark. -/
def pickU (p : Nat → Bool) (k : Nat) : List Int := ((List.range k).filter p).map fun i => ((i : Nat) : Int)
theorem pickU_succ (p : Nat → Bool) (k : Nat) : pickU p (k + 1) = if p k = true then pickU p k ++ [((k : Nat) : Int)] else pickU p k := by
  unfold pickU
  rw [List.range_succ, List.filter_append]
  by_cases e : p k = true
  · rw [if_pos e]; simp [e]
  · rw [if_neg e]; simp [e]
theorem pickU_len (p : Nat → Bool) (k : Nat) : (pickU p k).length ≤ k := by
  unfold pickU
  rw [List.length_map]
  exact Nat.le_trans (List.length_filter_le _ _) (by simp)
theorem pickU_mem (p : Nat → Bool) (k i : Nat) : ((i : Nat) : Int) ∈ pickU p k ↔ i < k ∧ p i = true := by
  unfold pickU
  simp only [List.mem_map, List.mem_filter, List.mem_range]
  constructor
  · rintro ⟨j, hj, e⟩
    have : j = i := by omega
    subst this
    exact hj
  · intro h
    exact ⟨i, h, rfl⟩
/-- The places of a number in a list. -/
def placesL (l : List Int) (z : Int) : List Int := pickU (fun i => l.getD i 0 == z) l.length
theorem places_len (l : List Int) (z : Int) : (placesL l z).length ≤ l.length := pickU_len _ _
/-- MembersOf's answer. -/
def membersR (l : List Int) (k : Int) : List Int := if askedB l k = true then placesL l (l.getD k.toNat 0) else []

set_option maxHeartbeats 800000 in
theorem places_any (a : Option Addr) (len cap : Nat) (l : List Int) (z : Int) (w : World) (h : Sl w a len l) (hm : len ≤ 200) :
    Calls Tryd.prog 67 #[.slice a len cap, .int .i64 z] w fun e w' => ∃ v : Value, e = .returned v ∧ w'.ownsRow w.heap.size 3 1 v (placesL l z).length (vals (placesL l z)) ∧ Below w.heap.size w w' := by
  have hll := h.1
  obtain ⟨i0, hi, hz0, hz1, hz2⟩ := info_parts infoInt
  have HS := (show Hid _ from h)
  unfold placesL
  rw [hll]
  have HU : Hid (∀ k, pickU (fun i => l.getD i 0 == z) (k + 1) = if l.getD k 0 = z then pickU (fun i => l.getD i 0 == z) k ++ [((k : Nat) : Int)] else pickU (fun i => l.getD i 0 == z) k) := fun k => by
    rw [pickU_succ]
    by_cases e : l.getD k 0 = z
    · rw [if_pos e, if_pos (by simpa using e)]
    · rw [if_neg e, if_neg (by simpa using e)]
  have HL : Hid (∀ k, (pickU (fun i => l.getD i 0 == z) k).length ≤ k) := fun k => pickU_len _ k
  have H0 : Hid (pickU (fun i => l.getD i 0 == z) 0 = []) := rfl
  generalize pickU (fun i => l.getD i 0 == z) = U at HU HL H0 ⊢
  clear h
  go_enter Tryd.func67, Tryd.ntmps67
  go_wp2_with fail
  go_loopw [5, 10] (fun x i wr => ∃ (k : Nat), k ≤ len ∧ i = .int .i64 k ∧ wr.ownsRow w.heap.size 3 1 x (U k).length (vals (U k)) ∧ Below w.heap.size w wr) (fun _ i _ => len - (intOf i).toNat)
  case atStart => exact ⟨0, Nat.zero_le _, rfl, by rw [H0.out]; exact World.ownsRow_nil _ _ _ _, Below.refl _ _⟩
  case round =>
    obtain ⟨k, hk, rfl, hrow, hbr⟩ := hrel
    by_cases hlt : k < len
    · obtain ⟨b, off, rfl, hbl, hc⟩ : ∃ b off, a = some ⟨b, off, none⟩ ∧ b < w.heap.size ∧ ∀ i, i < len → w.cell? ⟨b, off + i, none⟩ = some (.int .i64 (l.getD i 0)) := by
        rcases HS.out.2 with h0 | h0
        · omega
        · exact h0
      have ck := (hbr.cell (p := ⟨b, off + k, none⟩) hbl).trans (hc k hlt)
      have hU := HU.out k
      have hLk := HL.out k
      have hsz := hbr.size
      clear hc
      by_cases e : l.getD k 0 = z
      · rw [if_pos e] at hU
        rw [e] at ck
        have HU' := (show Hid _ from hU)
        generalize hUk : U k = P at hrow HU' hLk
        clear hU hUk e
        go_wp2_with (at_builtin; refine wpList_append_own _ rfl _ _ 23 rfl w.heap.size 3 i0 (.int .i64 0) 1 8 Tryd.underlying23 hi hz0 hz1 hz2 rfl (by decide) _ _ _ rfl (hrow.alloc _) ⟨wr.heap.size, 0, none⟩ 1 1 [_] rfl rfl (cell_new1 _ _ _ _) (one_cell1 _ _) (by unfold maxLen; omega) (by omega) (by simp; omega) ?_; intro v' w4 hown4 hg4 _)
        have hB : Below w.heap.size w w4 := (hbr.alloc hbr.size _).grown hg4 (by simp; omega) (own_ge hrow)
        have hown5 : w4.ownsRow w.heap.size 3 1 v' (U (k + 1)).length (vals (U (k + 1))) := by rw [HU'.out, vals_append, List.length_append]; exact hown4
        clear hg4 hbr hrow hown4 HU'
        go_roundw
        case rel => exact ⟨k + 1, by omega, by go_num, hown5, hB⟩
        case measure => simp [intOf]; omega
      · rw [if_neg e] at hU
        rw [← hU] at hrow
        have e' : (l.getD k 0 == z) = false := by simpa using e
        clear hU hLk
        generalize l.getD k 0 = y at ck e e'
        go_wp2
        go_roundw
        case rel => exact ⟨k + 1, by omega, by go_num, hrow, hbr⟩
        case measure => simp [intOf]; omega
    · obtain rfl : k = len := by omega
      go_wp2
      go_ret
      exact ⟨_, rfl, hrow, hbr⟩

end Go.Proofs.YthkjmgjajmghmaaDoor
namespace Go.Proofs.YthkjmgjajmghmaaDoor
open Go.ChangeShapes Go.WideShapes Go.ChangeAt Go.RowKit
open Go.MapKept Go.ChangeMaps
set_option linter.unusedVariables false

/-- Some parts set. -/
def setP (l : List Int) (xs : List Int) (z : Int) : List Int := xs.foldl (fun l x => l.set x.toNat z) l
theorem setP_len (xs : List Int) (z : Int) : ∀ l : List Int, (setP l xs z).length = l.length := by
  induction xs with
  | nil => intro l; rfl
  | cons x r ih => intro l; show (setP (l.set x.toNat z) r z).length = _; rw [ih, List.length_set]
theorem setP_snoc (l xs : List Int) (x z : Int) : setP l (xs ++ [x]) z = (setP l xs z).set x.toNat z := by simp [setP]
theorem setP_get (xs : List Int) (z : Int) (hx : ∀ x ∈ xs, 0 ≤ x) : ∀ (l : List Int) (c : Nat), c < l.length → (setP l xs z).getD c 0 = if (c : Int) ∈ xs then z else l.getD c 0 := by
  induction xs with
  | nil => intro l c hc; simp [setP]
  | cons x r ih =>
    intro l c hc
    have h0 := hx x (List.mem_cons_self ..)
    show (setP (l.set x.toNat z) r z).getD c 0 = _
    rw [ih (fun y hy => hx y (List.mem_cons_of_mem _ hy)) _ c (by rw [List.length_set]; exact hc)]
    by_cases hm : (c : Int) ∈ r
    · rw [if_pos hm, if_pos (List.mem_cons_of_mem _ hm)]
    · rw [if_neg hm]
      by_cases e : (c : Int) = x
      · have : x.toNat = c := by omega
        rw [if_pos (by rw [e]; exact List.mem_cons_self ..), this]
        simp [List.getD_eq_getElem?_getD, hc]
      · rw [if_neg (by simp [e, hm])]
        have : x.toNat ≠ c := by omega
        simp [List.getD_eq_getElem?_getD, this]
theorem setP_join {n : Nat} {l : List Int} (hP : PartsN n l) {i j g s : Nat} (hi : i < n) (hj : j < n) (hg : max (l.getD i 0) (l.getD j 0) = (g : Int)) (hs : min (l.getD i 0) (l.getD j 0) = (s : Int)) : setP l (placesL l (g : Int)) (s : Int) = joinPL l i j := by
  have hnn : ∀ x ∈ placesL l (g : Int), 0 ≤ x := fun x hx => by
    obtain ⟨k, _, rfl⟩ := List.mem_map.1 hx
    exact Int.natCast_nonneg k
  refine list_ext (by rw [setP_len, join_len]) fun c hc => ?_
  rw [setP_len] at hc
  rw [setP_get _ _ hnn l c hc, join_get l i j hc, hg, hs]
  have hm : ((c : Int) ∈ placesL l (g : Int)) ↔ l.getD c 0 = (g : Int) := by
    unfold placesL
    rw [pickU_mem]
    simp [hc]
  by_cases e : l.getD c 0 = (g : Int)
  · rw [if_pos (hm.2 e), if_pos e]
  · rw [if_neg (fun h => e (hm.1 h)), if_neg e]
theorem take_snocI {xs : List Int} {k : Nat} (h : k < xs.length) : xs.take (k + 1) = xs.take k ++ [xs.getD k 0] := by
  rw [List.take_succ_eq_append_getElem h, getI_lt h]
theorem drop_snoc (p : List EN) (l : List Int) (f : Sh → Option Int) (us : List Int) (u : Int) : dropF p l f (us ++ [u]) = setS (dropF p l f us) (shO l (p.getD u.toNat e0)) none := by simp [dropF]
theorem parts_par {n : Nat} {l : List Int} (h : PartsN n l) (hn : n ≤ 200) : partB l = true := (partB_iff l).2 ⟨by rw [h.1]; exact hn, h.2.1, h.2.2⟩
/-- An append in a region that draws, by what it is known to do. -/
theorem step_append6 {P : Program} {ops : Array Oper} {o : Oper} {a : Act} {w : World} {K : Act → World → Prop} {Q : Exit → Act → World → Prop} {E : Prop}
    (hg : o.guard = none) (s x : Operand) (t : TypeId) (hop : o.op = Op.call { callee := Callee.builtin Builtin.append, args := #[s, x], argTypes := #[t, t] })
    (v u : Value) (hs : a.eval s = v) (hx : a.eval x = u) {v' : Value} {w' : World} (hr : (Builtin.append_ #[t, t] o.type #[v, u]).run P w = .ok v' w') (hK : K (a.put o.dst v') w') :
    if Region.wanted o (yielded ops a.tmps) = true then Oper.wp P o a w K Q else E := by
  have hw : Region.wanted o (yielded ops a.tmps) = true := by simp [Region.wanted, hg]
  rw [if_pos hw]
  unfold Oper.wp
  simp [execOp, hop, resolve, invoke, builtin, hs, hx, hr, Result.andThen]
  exact hK
theorem own_openC {w : World} {base e n cap : Nat} {a : Option Addr} {xs : List Value} (h : w.ownsRow base e 1 (.slice a n cap) n xs) (h0 : 0 < n) : ∃ g, a = some ⟨g, 0, none⟩ ∧ g < w.heap.size := by
  rcases h.2 with ⟨_, h1⟩ | ⟨g, cp, cur, e, _, hg, _⟩
  · omega
  · cases e
    exact ⟨g, rfl, (Array.getElem?_eq_some_iff.1 hg).1⟩
end Go.Proofs.YthkjmgjajmghmaaDoor
