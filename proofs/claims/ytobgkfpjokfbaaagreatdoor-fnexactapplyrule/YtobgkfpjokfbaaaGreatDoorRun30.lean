/-
  PROVED HERE: which numbers the model and the program tell of a number's part, at every list and every number. No other condition. plain facts for the program's joining of two parts: parts set one by one are the joined ones. No condition. how the program's closing of parts begins. No condition.
-/
import Derived.Test.YtobgkfpjokfbaaaGreatDoorRun29
import Derived.Test.YtobgkfpjokfbaaaGreatDoorRun28
import Derived.Test.YtobgkfpjokfbaaaGreatDoorRun17
import Derived.Laws.MakeOwn
import Derived.Deep.CutRange
namespace Go.Proofs.YtobgkfpjokfbaaaGreatDoor
open Go.ChangeShapes Go.WideShapes Go.ChangeAt Go.RowKit
set_option linter.unusedVariables false

/-- The places, of the first k, that have a mark. -/
def pickU (p : Nat → Bool) (k : Nat) : List Int := ((List.range k).filter p).map fun i => ((i : Nat) : Int)
theorem pickU_succ (p : Nat → Bool) (k : Nat) : pickU p (k + 1) = if p k = true then pickU p k ++ [((k : Nat) : Int)] else pickU p k := by
  unfold pickU
  rw [List.range_succ, List.filter_append]
  by_cases e : p k = true
  · rw [if_pos e]; simp [e]
  · rw [if_neg e]; simp [e]
theorem pickU_len (p : Nat → Bool) (k : Nat) : (pickU p k).length ≤ k := by
  unfold pickU
  rw [List.length_map]
  exact Nat.le_trans (List.length_filter_le _ _) (by simp)
theorem pickU_mem (p : Nat → Bool) (k i : Nat) : ((i : Nat) : Int) ∈ pickU p k ↔ i < k ∧ p i = true := by
  unfold pickU
  simp only [List.mem_map, List.mem_filter, List.mem_range]
  constructor
  · rintro ⟨j, hj, e⟩
    have : j = i := by omega
    subst this
    exact hj
  · intro h
    exact ⟨i, h, rfl⟩
/-- The places of a number in a list. -/
def placesL (l : List Int) (z : Int) : List Int := pickU (fun i => l.getD i 0 == z) l.length
theorem places_len (l : List Int) (z : Int) : (placesL l z).length ≤ l.length := pickU_len _ _
/-- MembersOf's answer. -/
def membersR (l : List Int) (k : Int) : List Int := if askedB l k = true then placesL l (l.getD k.toNat 0) else []

set_option maxHeartbeats 800000 in
theorem places_any (a : Option Addr) (len cap : Nat) (l : List Int) (z : Int) (w : World) (h : Sl w a len l) (hm : len ≤ 200) :
    Calls Tryz.prog 111 #[.slice a len cap, .int .i64 z] w fun e w' => ∃ v : Value, e = .returned v ∧ w'.ownsRow w.heap.size 3 1 v (placesL l z).length (vals (placesL l z)) ∧ Below w.heap.size w w' := by
  have hll := h.1
  obtain ⟨i0, hi, hz0, hz1, hz2⟩ := info_parts infoInt
  have HS := (show Hid _ from h)
  unfold placesL
  rw [hll]
  have HU : Hid (∀ k, pickU (fun i => l.getD i 0 == z) (k + 1) = if l.getD k 0 = z then pickU (fun i => l.getD i 0 == z) k ++ [((k : Nat) : Int)] else pickU (fun i => l.getD i 0 == z) k) := fun k => by
    rw [pickU_succ]
    by_cases e : l.getD k 0 = z
    · rw [if_pos e, if_pos (by simpa using e)]
    · rw [if_neg e, if_neg (by simpa using e)]
  have HL : Hid (∀ k, (pickU (fun i => l.getD i 0 == z) k).length ≤ k) := fun k => pickU_len _ k
  have H0 : Hid (pickU (fun i => l.getD i 0 == z) 0 = []) := rfl
  generalize pickU (fun i => l.getD i 0 == z) = U at HU HL H0 ⊢
  clear h
  go_enter Tryz.func111, Tryz.ntmps111
  go_wp2_with fail
  go_loopw [5, 10] (fun x i wr => ∃ (k : Nat), k ≤ len ∧ i = .int .i64 k ∧ wr.ownsRow w.heap.size 3 1 x (U k).length (vals (U k)) ∧ Below w.heap.size w wr) (fun _ i _ => len - (intOf i).toNat)
  case atStart => exact ⟨0, Nat.zero_le _, rfl, by rw [H0.out]; exact World.ownsRow_nil _ _ _ _, Below.refl _ _⟩
  case round =>
    obtain ⟨k, hk, rfl, hrow, hbr⟩ := hrel
    by_cases hlt : k < len
    · obtain ⟨b, off, rfl, hbl, hc⟩ : ∃ b off, a = some ⟨b, off, none⟩ ∧ b < w.heap.size ∧ ∀ i, i < len → w.cell? ⟨b, off + i, none⟩ = some (.int .i64 (l.getD i 0)) := by
        rcases HS.out.2 with h0 | h0
        · omega
        · exact h0
      have ck := (hbr.cell (p := ⟨b, off + k, none⟩) hbl).trans (hc k hlt)
      have hU := HU.out k
      have hLk := HL.out k
      have hsz := hbr.size
      clear hc
      by_cases e : l.getD k 0 = z
      · rw [if_pos e] at hU
        rw [e] at ck
        have HU' := (show Hid _ from hU)
        generalize hUk : U k = P at hrow HU' hLk
        clear hU hUk e
        go_wp2_with (at_builtin; refine wpList_append_own _ rfl _ _ 23 rfl w.heap.size 3 i0 (.int .i64 0) 1 8 Tryz.underlying23 hi hz0 hz1 hz2 rfl (by decide) _ _ _ rfl (hrow.alloc _) ⟨wr.heap.size, 0, none⟩ 1 1 [_] rfl rfl (cell_new1 _ _ _ _) (one_cell1 _ _) (by unfold maxLen; omega) (by omega) (by simp; omega) ?_; intro v' w4 hown4 hg4 _)
        have hB : Below w.heap.size w w4 := (hbr.alloc hbr.size _).grown hg4 (by simp; omega) (own_ge hrow)
        have hown5 : w4.ownsRow w.heap.size 3 1 v' (U (k + 1)).length (vals (U (k + 1))) := by rw [HU'.out, vals_append, List.length_append]; exact hown4
        clear hg4 hbr hrow hown4 HU'
        go_roundw
        case rel => exact ⟨k + 1, by omega, by go_num, hown5, hB⟩
        case measure => simp [intOf]; omega
      · rw [if_neg e] at hU
        rw [← hU] at hrow
        have e' : (l.getD k 0 == z) = false := by simpa using e
        clear hU hLk
        generalize l.getD k 0 = y at ck e e'
        go_wp2
        go_roundw
        case rel => exact ⟨k + 1, by omega, by go_num, hrow, hbr⟩
        case measure => simp [intOf]; omega
    · obtain rfl : k = len := by omega
      go_wp2
      go_ret
      exact ⟨_, rfl, hrow, hbr⟩

end Go.Proofs.YtobgkfpjokfbaaaGreatDoor
namespace Go.Proofs.YtobgkfpjokfbaaaGreatDoor
open Go.ChangeShapes Go.WideShapes Go.ChangeAt Go.RowKit
open Go.MapKept Go.ChangeMaps
set_option linter.unusedVariables false

/-- Some parts set. -/
def setP (l : List Int) (xs : List Int) (z : Int) : List Int := xs.foldl (fun l x => l.set x.toNat z) l
theorem setP_len (xs : List Int) (z : Int) : ∀ l : List Int, (setP l xs z).length = l.length := by
  induction xs with
  | nil => intro l; rfl
  | cons x r ih => intro l; show (setP (l.set x.toNat z) r z).length = _; rw [ih, List.length_set]
theorem setP_snoc (l xs : List Int) (x z : Int) : setP l (xs ++ [x]) z = (setP l xs z).set x.toNat z := by simp [setP]
theorem setP_get (xs : List Int) (z : Int) (hx : ∀ x ∈ xs, 0 ≤ x) : ∀ (l : List Int) (c : Nat), c < l.length → (setP l xs z).getD c 0 = if (c : Int) ∈ xs then z else l.getD c 0 := by
  induction xs with
  | nil => intro l c hc; simp [setP]
  | cons x r ih =>
    intro l c hc
    have h0 := hx x (List.mem_cons_self ..)
    show (setP (l.set x.toNat z) r z).getD c 0 = _
    rw [ih (fun y hy => hx y (List.mem_cons_of_mem _ hy)) _ c (by rw [List.length_set]; exact hc)]
    by_cases hm : (c : Int) ∈ r
    · rw [if_pos hm, if_pos (List.mem_cons_of_mem _ hm)]
    · rw [if_neg hm]
      by_cases e : (c : Int) = x
      · have : x.toNat = c := by omega
        rw [if_pos (by rw [e]; exact List.mem_cons_self ..), this]
        simp [List.getD_eq_getElem?_getD, hc]
      · rw [if_neg (by simp [e, hm])]
        have : x.toNat ≠ c := by omega
        simp [List.getD_eq_getElem?_getD, this]
theorem setP_join {n : Nat} {l : List Int} (hP : PartsN n l) {i j g s : Nat} (hi : i < n) (hj : j < n) (hg : max (l.getD i 0) (l.getD j 0) = (g : Int)) (hs : min (l.getD i 0) (l.getD j 0) = (s : Int)) : setP l (placesL l (g : Int)) (s : Int) = joinPL l i j := by
  have hnn : ∀ x ∈ placesL l (g : Int), 0 ≤ x := fun x hx => by
    obtain ⟨k, _, rfl⟩ := List.mem_map.1 hx
    exact Int.natCast_nonneg k
  refine list_ext (by rw [setP_len, join_len]) fun c hc => ?_
  rw [setP_len] at hc
  rw [setP_get _ _ hnn l c hc, join_get l i j hc, hg, hs]
  have hm : ((c : Int) ∈ placesL l (g : Int)) ↔ l.getD c 0 = (g : Int) := by
    unfold placesL
    rw [pickU_mem]
    simp [hc]
  by_cases e : l.getD c 0 = (g : Int)
  · rw [if_pos (hm.2 e), if_pos e]
  · rw [if_neg (fun h => e (hm.1 h)), if_neg e]
theorem take_snocI {xs : List Int} {k : Nat} (h : k < xs.length) : xs.take (k + 1) = xs.take k ++ [xs.getD k 0] := by
  rw [List.take_succ_eq_append_getElem h, getI_lt h]
theorem drop_snoc (p : List EN) (l : List Int) (f : Sh → Option Int) (us : List Int) (u : Int) : dropF p l f (us ++ [u]) = setS (dropF p l f us) (shO l (p.getD u.toNat e0)) none := by simp [dropF]
theorem parts_par {n : Nat} {l : List Int} (h : PartsN n l) (hn : n ≤ 200) : partB l = true := (partB_iff l).2 ⟨by rw [h.1]; exact hn, h.2.1, h.2.2⟩
/-- An append in a region that draws, by what it is known to do. -/
theorem step_append6 {P : Program} {ops : Array Oper} {o : Oper} {a : Act} {w : World} {K : Act → World → Prop} {Q : Exit → Act → World → Prop} {E : Prop}
    (hg : o.guard = none) (s x : Operand) (t : TypeId) (hop : o.op = Op.call { callee := Callee.builtin Builtin.append, args := #[s, x], argTypes := #[t, t] })
    (v u : Value) (hs : a.eval s = v) (hx : a.eval x = u) {v' : Value} {w' : World} (hr : (Builtin.append_ #[t, t] o.type #[v, u]).run P w = .ok v' w') (hK : K (a.put o.dst v') w') :
    if Region.wanted o (yielded ops a.tmps) = true then Oper.wp P o a w K Q else E := by
  have hw : Region.wanted o (yielded ops a.tmps) = true := by simp [Region.wanted, hg]
  rw [if_pos hw]
  unfold Oper.wp
  simp [execOp, hop, resolve, invoke, builtin, hs, hx, hr, Result.andThen]
  exact hK
theorem own_openC {w : World} {base e n cap : Nat} {a : Option Addr} {xs : List Value} (h : w.ownsRow base e 1 (.slice a n cap) n xs) (h0 : 0 < n) : ∃ g, a = some ⟨g, 0, none⟩ ∧ g < w.heap.size := by
  rcases h.2 with ⟨_, h1⟩ | ⟨g, cp, cur, e, _, hg, _⟩
  · omega
  · cases e
    exact ⟨g, rfl, (Array.getElem?_eq_some_iff.1 hg).1⟩
end Go.Proofs.YtobgkfpjokfbaaaGreatDoor
namespace Go.Proofs.YtobgkfpjokfbaaaGreatDoor
open Go.ChangeShapes Go.WideShapes Go.ChangeAt Go.RowKit
open Go.MapKept Go.ChangeMaps
set_option linter.unusedVariables false

theorem infoInts6 : (Tryz.prog.info? 23).map (fun i => (i.zero, i.size, i.bytes)) = some (some (.slice none 0 0), 1, 24) := by kernel_rfl
/-- The row of users at its beginning. -/
def rowU (n : Nat) : Obj := .cells (madeCells (Value.slice none 0 0).cells (n * 1)) 23
theorem make_users (n : Nat) (hn : n ≤ 120) (W : World) : (Instr.makeSlice 130 (.int .i64 (n : Int)) (.int .i64 (n : Int))).run Tryz.prog W = .ok (.slice (some ⟨W.heap.size, 0, none⟩) n n) (W.alloc (rowU n)) := by
  obtain ⟨i0, hi, hz0, hz1, hz2⟩ := info_parts infoInts6
  have := run_make (P := Tryz.prog) W 130 23 i0 (.slice none 0 0) Tryz.underlying130 hi hz0 .i64 .i64 (n : Int) (n : Int) (by omega) (Int.le_refl _) (by rw [hz2]; omega) (by omega)
  rw [Int.toNat_natCast, hz1] at this
  exact this
theorem rowU_cell (n : Nat) {w : World} {b : Nat} (h : w.heap[b]? = some (rowU n)) (y : Nat) (hy : y < n) : w.cell? ⟨b, y, none⟩ = some (.slice none 0 0) ∧ w.frozen? ⟨b, y, none⟩ = false := by
  have e : (madeCells (Value.slice none 0 0).cells (n * 1)) = madeCells #[Value.slice none 0 0] (n * 1) := rfl
  unfold rowU at h
  rw [e] at h
  have hc : (madeCells #[Value.slice none 0 0] (n * 1))[y]? = some (.slice none 0 0) := by
    have := congrArg (fun l => l[y]?) (toList_madeCells_one (.slice none 0 0) (n * 1))
    simp only [Array.getElem?_toList] at this
    rw [this]
    simp [hy]
  constructor
  · rw [cell_of_row w b y _ _ (0, 0) h]; exact hc
  · exact frozen_of_row w b y _ _ h

/-- An object that lies in a block. -/
def At (w : World) (b : Nat) (o : Obj) : Prop := w.heap[b]? = some o ∧ b < w.heap.size
theorem At.new (w : World) (o : Obj) : At (w.alloc o) w.heap.size o := ⟨heap_alloc_new w o, by simp⟩
theorem At.alloc {w : World} {b : Nat} {o : Obj} (h : At w b o) (o' : Obj) : At (w.alloc o') b o := ⟨(Below.heap_alloc _ _ _ h.2).trans h.1, by have := h.2; simp; omega⟩
theorem At.drew {w : World} {b : Nat} {o : Obj} (h : At w b o) : At w.drew b o := h
theorem At.call {w w' : World} {b : Nat} {o : Obj} (h : At w b o) (hb : Below w.heap.size w w') : At w' b o := ⟨(hb.block b h.2).trans h.1, Nat.lt_of_lt_of_le h.2 hb.size⟩
theorem At.setCell {w : World} {b : Nat} {o : Obj} (h : At w b o) {p : Addr} (hp : b ≠ p.block) (v : Value) : At (w.setCell p v) b o := ⟨(heap_setCell_other w p b v hp).trans h.1, by simpa using h.2⟩
theorem At.cell {w : World} {b : Nat} {cs : Array Value} {t : TypeId} (h : At w b (.cells cs t)) {j : Nat} {v : Value} (hj : cs[j]? = some v) : w.cell? ⟨b, j, none⟩ = some v ∧ w.frozen? ⟨b, j, none⟩ = false := ⟨(cell_of_row w b j _ _ (0, 0) h.1).trans hj, frozen_of_row w b j _ _ h.1⟩
abbrev boxZ : Obj := .cells #[.slice none 0 0, .slice none 0 0, .slice none 0 0, .map none, .slice none 0 0] 133
theorem box_z {w : World} {b : Nat} (h : At w b boxZ) : (w.cell? ⟨b, 0, none⟩ = some (.slice none 0 0) ∧ w.cell? ⟨b, 1, none⟩ = some (.slice none 0 0) ∧ w.cell? ⟨b, 2, none⟩ = some (.slice none 0 0) ∧ w.cell? ⟨b, 3, none⟩ = some (.map none) ∧ w.cell? ⟨b, 4, none⟩ = some (.slice none 0 0)) ∧ (w.frozen? ⟨b, 0, none⟩ = false ∧ w.frozen? ⟨b, 1, none⟩ = false ∧ w.frozen? ⟨b, 2, none⟩ = false ∧ w.frozen? ⟨b, 3, none⟩ = false ∧ w.frozen? ⟨b, 4, none⟩ = false) ∧ b < w.heap.size := by
  obtain ⟨k0, z0⟩ := h.cell (j := 0) (v := .slice none 0 0) rfl
  obtain ⟨k1, z1⟩ := h.cell (j := 1) (v := .slice none 0 0) rfl
  obtain ⟨k2, z2⟩ := h.cell (j := 2) (v := .slice none 0 0) rfl
  obtain ⟨k3, z3⟩ := h.cell (j := 3) (v := .map none) rfl
  obtain ⟨k4, z4⟩ := h.cell (j := 4) (v := .slice none 0 0) rfl
  exact ⟨⟨k0, k1, k2, k3, k4⟩, ⟨z0, z1, z2, z3, z4⟩, h.2⟩
theorem row_base6 {w : World} {base base' e size n : Nat} {v : Value} {xs : List Value} (h : w.ownsRow base e size v n xs) (hb : base' ≤ base) : w.ownsRow base' e size v n xs := by
  refine ⟨h.1, ?_⟩
  rcases h.2 with h0 | ⟨g, cap, cur, e0, hg, rest⟩
  · exact .inl h0
  · exact .inr ⟨g, cap, cur, e0, by omega, rest⟩
/-- A closing at its beginning. -/
def StartC (w wx : World) (n C : Nat) (na : Value) (l : List Int) : Prop := ∃ T bu bf vp V, Below w.heap.size w wx ∧ Clo wx w.heap.size T n C bu bf na vp (.slice none 0 0) V l (fun _ => []) (fun _ => none) []
theorem At.new' {w : World} {b : Nat} (o : Obj) (h : b = w.heap.size) : At (w.alloc o) b o := by rw [h]; exact At.new w o
theorem start_new {w wy : World} {n C bu bf : Nat} {na vp : Value} {l : List Int} (hC : C = wy.heap.size) (hb : Below w.heap.size w wy) (hu : At wy bu (rowU n)) (hm : At wy bf (.map #[] 0)) (hr : wy.ownsRow w.heap.size 3 1 vp n (vals l)) (hl : w.heap.size ≤ bu ∧ w.heap.size ≤ bf ∧ bu ≠ bf) (hv : ∀ x, vp.ownBlock = some x → x ≠ bu ∧ x ≠ bf) :
    StartC w (wy.alloc (.cells #[na, vp, .slice (some ⟨bu, 0, none⟩) n n, .map (some bf), .slice none 0 0] 133)) n C na l := by
  subst hC
  have hu' := hu.alloc (.cells #[na, vp, .slice (some ⟨bu, 0, none⟩) n n, .map (some bf), .slice none 0 0] 133)
  have hm' := hm.alloc (.cells #[na, vp, .slice (some ⟨bu, 0, none⟩) n n, .map (some bf), .slice none 0 0] 133)
  have hc := At.new wy (.cells #[na, vp, .slice (some ⟨bu, 0, none⟩) n n, .map (some bf), .slice none 0 0] 133)
  have h1 := hu.2
  have h2 := hm.2
  refine ⟨_, bu, bf, vp, _, hb.alloc hb.size _, clo_start ⟨hb.size, hc.2⟩ ⟨hl.1, hu'.2⟩ ⟨hl.2.1, hm'.2⟩ ⟨by omega, by omega, hl.2.2⟩ (fun x hx => ⟨by have := (hr.lt x hx).2; omega, hv x hx⟩) (hc.cell rfl).1 (hc.cell rfl).1 (hc.cell rfl).1 (hc.cell rfl).1 (hc.cell rfl).1 (hc.cell (v := .slice none 0 0) rfl).2 (fun y hy => rowU_cell n hu'.1 y hy) hm'.1 (hr.alloc _)⟩
theorem start_set {w wy : World} {n C bu bf : Nat} {na vp : Value} {l : List Int} (hz : At wy C boxZ) (hb : Below w.heap.size w wy) (hu : At wy bu (rowU n)) (hm : At wy bf (.map #[] 0)) (hr : wy.ownsRow w.heap.size 3 1 vp n (vals l)) (hl : w.heap.size ≤ C ∧ w.heap.size ≤ bu ∧ w.heap.size ≤ bf ∧ C ≠ bu ∧ C ≠ bf ∧ bu ≠ bf) (hv : ∀ x, vp.ownBlock = some x → x ≠ C ∧ x ≠ bu ∧ x ≠ bf) :
    StartC w (((((wy.setCell ⟨C, 0, none⟩ na).setCell ⟨C, 1, none⟩ vp).setCell ⟨C, 2, none⟩ (.slice (some ⟨bu, 0, none⟩) n n)).setCell ⟨C, 3, none⟩ (.map (some bf))).setCell ⟨C, 4, none⟩ (.slice none 0 0)) n C na l := by
  obtain ⟨⟨k0, k1, k2, k3, k4⟩, ⟨z0, z1, z2, z3, z4⟩, zz⟩ := box_z hz
  have hu' := ((((hu.setCell (p := ⟨C, 0, none⟩) (Ne.symm hl.2.2.2.1) na).setCell (p := ⟨C, 1, none⟩) (Ne.symm hl.2.2.2.1) vp).setCell (p := ⟨C, 2, none⟩) (Ne.symm hl.2.2.2.1) (.slice (some ⟨bu, 0, none⟩) n n)).setCell (p := ⟨C, 3, none⟩) (Ne.symm hl.2.2.2.1) (.map (some bf))).setCell (p := ⟨C, 4, none⟩) (Ne.symm hl.2.2.2.1) (.slice none 0 0)
  have hm' := ((((hm.setCell (p := ⟨C, 0, none⟩) (Ne.symm hl.2.2.2.2.1) na).setCell (p := ⟨C, 1, none⟩) (Ne.symm hl.2.2.2.2.1) vp).setCell (p := ⟨C, 2, none⟩) (Ne.symm hl.2.2.2.2.1) (.slice (some ⟨bu, 0, none⟩) n n)).setCell (p := ⟨C, 3, none⟩) (Ne.symm hl.2.2.2.2.1) (.map (some bf))).setCell (p := ⟨C, 4, none⟩) (Ne.symm hl.2.2.2.2.1) (.slice none 0 0)
  have hB := ((((hb.setCell (p := ⟨C, 0, none⟩) hl.1 na).setCell (p := ⟨C, 1, none⟩) hl.1 vp).setCell (p := ⟨C, 2, none⟩) hl.1 (.slice (some ⟨bu, 0, none⟩) n n)).setCell (p := ⟨C, 3, none⟩) hl.1 (.map (some bf))).setCell (p := ⟨C, 4, none⟩) hl.1 (.slice none 0 0)
  have hrr : (((((wy.setCell ⟨C, 0, none⟩ na).setCell ⟨C, 1, none⟩ vp).setCell ⟨C, 2, none⟩ (.slice (some ⟨bu, 0, none⟩) n n)).setCell ⟨C, 3, none⟩ (.map (some bf))).setCell ⟨C, 4, none⟩ (.slice none 0 0)).ownsRow w.heap.size 3 1 vp n (vals l) := row_map hr fun x hx hlt => by
    have := (hv x hx).1
    rw [heap_setCell_other _ _ _ _ this, heap_setCell_other _ _ _ _ this, heap_setCell_other _ _ _ _ this, heap_setCell_other _ _ _ _ this, heap_setCell_other _ _ _ _ this]
  refine ⟨_, bu, bf, vp, _, hB, clo_start ⟨hl.1, by simp; omega⟩ ⟨hl.2.1, hu'.2⟩ ⟨hl.2.2.1, hm'.2⟩ ⟨hl.2.2.2.1, hl.2.2.2.2.1, hl.2.2.2.2.2⟩ hv ?_ ?_ ?_ ?_ ?_ ?_ (fun y hy => rowU_cell n hu'.1 y hy) hm'.1 hrr⟩
  all_goals simp [World.cell?_setCell_other, World.cell?_setCell_same', k0, k1, k2, k3, k4, z4]
/-- The struct of a closing at its beginning. -/
def CBox (w : World) (C n bu bf : Nat) (na vp : Value) : Prop := C < w.heap.size ∧ w.cell? ⟨C, 0, none⟩ = some na ∧ w.cell? ⟨C, 1, none⟩ = some vp ∧ w.cell? ⟨C, 2, none⟩ = some (.slice (some ⟨bu, 0, none⟩) n n) ∧ w.cell? ⟨C, 3, none⟩ = some (.map (some bf)) ∧ w.cell? ⟨C, 4, none⟩ = some (.slice none 0 0) ∧ w.frozen? ⟨C, 4, none⟩ = false
theorem CBox.new {w : World} {C n bu bf : Nat} {na vp : Value} (h : C = w.heap.size) : CBox (w.alloc (.cells #[na, vp, .slice (some ⟨bu, 0, none⟩) n n, .map (some bf), .slice none 0 0] 133)) C n bu bf na vp := by
  have hc := At.new' (w := w) (.cells #[na, vp, .slice (some ⟨bu, 0, none⟩) n n, .map (some bf), .slice none 0 0] 133) h
  exact ⟨hc.2, (hc.cell rfl).1, (hc.cell rfl).1, (hc.cell rfl).1, (hc.cell rfl).1, (hc.cell rfl).1, (hc.cell (v := .slice none 0 0) rfl).2⟩
theorem CBox.alloc {w : World} {C n bu bf : Nat} {na vp : Value} (h : CBox w C n bu bf na vp) (o : Obj) : CBox (w.alloc o) C n bu bf na vp := by
  obtain ⟨h0, h1, h2, h3, h4, h5, h6⟩ := h
  have hb : Below w.heap.size w (w.alloc o) := (Below.refl _ _).alloc (Nat.le_refl _) o
  exact ⟨by simp; omega, (hb.cell (p := ⟨C, 0, none⟩) h0).trans h1, (hb.cell (p := ⟨C, 1, none⟩) h0).trans h2, (hb.cell (p := ⟨C, 2, none⟩) h0).trans h3, (hb.cell (p := ⟨C, 3, none⟩) h0).trans h4, (hb.cell (p := ⟨C, 4, none⟩) h0).trans h5, (World.frozen?_of_block (a := ⟨C, 4, none⟩) (hb.block C h0)).trans h6⟩
theorem CBox.set {w : World} {C n bu bf : Nat} {na vp : Value} (hz : At w C boxZ) : CBox (((((w.setCell ⟨C, 0, none⟩ na).setCell ⟨C, 1, none⟩ vp).setCell ⟨C, 2, none⟩ (.slice (some ⟨bu, 0, none⟩) n n)).setCell ⟨C, 3, none⟩ (.map (some bf))).setCell ⟨C, 4, none⟩ (.slice none 0 0)) C n bu bf na vp := by
  obtain ⟨⟨k0, k1, k2, k3, k4⟩, ⟨z0, z1, z2, z3, z4⟩, zz⟩ := box_z hz
  refine ⟨by simp; omega, ?_, ?_, ?_, ?_, ?_, ?_⟩
  all_goals simp [World.cell?_setCell_other, World.cell?_setCell_same', k0, k1, k2, k3, k4, z4]
theorem row_setC {w : World} {base e size n : Nat} {v : Value} {xs : List Value} (h : w.ownsRow base e size v n xs) {p : Addr} (hne : ∀ x, v.ownBlock = some x → x ≠ p.block) (u : Value) : (w.setCell p u).ownsRow base e size v n xs := row_map h fun x hx hl => heap_setCell_other w p x u (hne x hx)
theorem start_box {w wx : World} {n C bu bf : Nat} {na vp : Value} {l : List Int} (hc : CBox wx C n bu bf na vp) (hb : Below w.heap.size w wx) (hu : At wx bu (rowU n)) (hm : At wx bf (.map #[] 0)) (hr : wx.ownsRow w.heap.size 3 1 vp n (vals l)) (hl : w.heap.size ≤ C ∧ w.heap.size ≤ bu ∧ w.heap.size ≤ bf ∧ C ≠ bu ∧ C ≠ bf ∧ bu ≠ bf) (hv : ∀ x, vp.ownBlock = some x → x ≠ C ∧ x ≠ bu ∧ x ≠ bf) : StartC w wx n C na l := by
  obtain ⟨h0, h1, h2, h3, h4, h5, h6⟩ := hc
  exact ⟨_, bu, bf, vp, _, hb, clo_start ⟨hl.1, h0⟩ ⟨hl.2.1, hu.2⟩ ⟨hl.2.2.1, hm.2⟩ ⟨hl.2.2.2.1, hl.2.2.2.2.1, hl.2.2.2.2.2⟩ hv h1 h2 h3 h4 h5 h6 (fun y hy => rowU_cell n hu.1 y hy) hm.1 hr⟩
end Go.Proofs.YtobgkfpjokfbaaaGreatDoor
