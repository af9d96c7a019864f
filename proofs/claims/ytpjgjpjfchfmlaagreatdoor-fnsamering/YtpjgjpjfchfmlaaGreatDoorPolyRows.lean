/-
  PROVED HERE: how a row of products that a call makes lies in memory, and what an append to it leaves. No condition. a call by its contract, and an append to a row of one's own, as one step of a region that draws its order. No condition. the model's adding of a product to a sum (l4Put), both its walks: put_any4. No other condition. sums and products of sums of products, plainly: that they are told by their numbers. No condition.
-/
import Derived.Test.YtpjgjpjfchfmlaaGreatDoorPolyGoods
import Derived.Maps.AppendAt
import Derived.Lib.SliceRun
import Derived.Test.YtpjgjpjfchfmlaaGreatDoorRows
import Derived.Test.YtpjgjpjfchfmlaaGreatDoorBase
import Derived.Deep.RegionLaw
import Derived.Deep.QuietTactic
import Derived.BigQuiet
import Derived.Test.YtpjgjpjfchfmlaaGreatDoorPolyPlain
namespace Go.Proofs.YtpjgjpjfchfmlaaGreatDoor
open Go.ChangeShapes Go.WideShapes Go.ChangeAt Go.RowKit
set_option linter.unusedVariables false

theorem infoMono : (Tryz.prog.info? 57).map (fun i => (i.zero, i.size, i.bytes)) = some (some (.agg #[.slice none 0 0, .int .i64 0]), 2, 32) := by kernel_rfl
/-- The cells of products. -/
def flatV : List (Value × Int) → List Value
  | [] => []
  | x :: l => x.1 :: .int .i64 x.2 :: flatV l
theorem flatV_len : ∀ l, (flatV l).length = l.length * 2
  | [] => rfl
  | x :: l => by simp only [flatV, List.length_cons, flatV_len l]; omega
theorem flatV_append : ∀ l m, flatV (l ++ m) = flatV l ++ flatV m
  | [], _ => rfl
  | x :: l, m => by simp only [List.cons_append, flatV, flatV_append l m]
theorem flatV_get : ∀ (l : List (Value × Int)) (i : Nat), i < l.length → (flatV l)[i * 2]? = some (l.getD i (.nilIface, 0)).1 ∧ (flatV l)[i * 2 + 1]? = some (.int .i64 (l.getD i (.nilIface, 0)).2)
  | [], _, h => absurd h (Nat.not_lt_zero _)
  | x :: l, 0, _ => ⟨rfl, rfl⟩
  | x :: l, i + 1, h => by
    have := flatV_get l i (by simpa using h)
    rw [show (i + 1) * 2 = i * 2 + 1 + 1 from by omega]
    simpa [flatV] using this
/-- A value that holds powers, in a block that is ok. -/
def PowV (w : World) (ok : Nat → Prop) (v : Value) (e : List Int) : Prop := ∃ b off l c, v = .slice (some ⟨b, off, none⟩) l c ∧ l ≤ c ∧ l ≤ 1048576 ∧ ok b ∧ b < w.heap.size ∧ e.length = l ∧ ∀ i, i < l → w.cell? ⟨b, off + i, none⟩ = some (.int .i64 (e.getD i 0))
theorem PowV.map {w w' : World} {ok ok' : Nat → Prop} {v : Value} {e : List Int} (h : PowV w ok v e) (hs : w.heap.size ≤ w'.heap.size) (hk : ∀ b, ok b → b < w.heap.size → ok' b ∧ w'.heap[b]? = w.heap[b]?) : PowV w' ok' v e := by
  obtain ⟨b, off, l, c, h1, h2, h3, h4, h5, h6, h7⟩ := h
  obtain ⟨k1, k2⟩ := hk b h4 h5
  exact ⟨b, off, l, c, h1, h2, h3, k1, Nat.lt_of_lt_of_le h5 hs, h6, fun i hi => (World.cell?_of_block (a := ⟨b, off + i, none⟩) k2).trans (h7 i hi)⟩
theorem PowV.keep {w w' : World} {ok : Nat → Prop} {v : Value} {e : List Int} (h : PowV w ok v e) (hb : Below w.heap.size w w') : PowV w' ok v e :=
  h.map hb.size (fun b h1 h2 => ⟨h1, hb.block b h2⟩)
theorem PowV.one {w : World} {ok : Nat → Prop} {v : Value} {e : List Int} (h : PowV w ok v e) : v.oneCell' = true := by
  obtain ⟨b, off, l, c, rfl, _⟩ := h; rfl
/-- A row of products of one's own; its powers lie in blocks that are ok and not the row's. -/
def PRow (w : World) (base : Nat) (ok : Nat → Prop) (v : Value) (vs : List (Value × Int)) (q : List Mon) : Prop :=
  w.ownsRow base 57 2 v q.length (flatV vs) ∧ vs.length = q.length ∧ ∀ i, i < q.length → PowV w (fun b => ok b ∧ v.ownBlock ≠ some b) (vs.getD i (.nilIface, 0)).1 (q.getD i ([], 0)).1 ∧ (vs.getD i (.nilIface, 0)).2 = (q.getD i ([], 0)).2
theorem PRow.nil (w : World) (base : Nat) (ok : Nat → Prop) : PRow w base ok (.slice none 0 0) [] [] := ⟨World.ownsRow_nil _ _ _ _, rfl, fun i hi => absurd hi (Nat.not_lt_zero _)⟩
theorem PRow.keep {w w' : World} {base : Nat} {ok : Nat → Prop} {v : Value} {vs : List (Value × Int)} {q : List Mon} (h : PRow w base ok v vs q) (hb : Below w.heap.size w w') : PRow w' base ok v vs q := by
  obtain ⟨h1, h2, h3⟩ := h
  exact ⟨h1.kept (grown_of hb) (by cases hv : v.ownBlock <;> simp), h2, fun i hi => ⟨(h3 i hi).1.keep hb, (h3 i hi).2⟩⟩
/-- Behind an append. -/
theorem PRow.push {w w4 w5 : World} {base : Nat} {ok : Nat → Prop} {v v' u : Value} {vs : List (Value × Int)} {q : List Mon} {e : List Int} {n : Int} (h : PRow w base ok v vs q) (hb : Below w.heap.size w w4) (hg : w4.grownBy w5 v.ownBlock) (hown : w5.ownsRow base 57 2 v' (q.length + 1) (flatV vs ++ [u, .int .i64 n])) (hat : v'.ownBlock = v.ownBlock ∨ v'.ownBlock = some w4.heap.size)
    (hu : PowV w4 (fun b => ok b ∧ v.ownBlock ≠ some b) u e) : PRow w5 base ok v' (vs ++ [(u, n)]) (q ++ [(e, n)]) := by
  obtain ⟨h1, h2, h3⟩ := h
  have key : ∀ {x : Value} {f : List Int}, PowV w4 (fun b => ok b ∧ v.ownBlock ≠ some b) x f → PowV w5 (fun b => ok b ∧ v'.ownBlock ≠ some b) x f := fun hx =>
    hx.map hg.size (fun b hok hlt => ⟨⟨hok.1, by
      rcases hat with e | e
      · rw [e]; exact hok.2
      · rw [e]; intro e'; have := Option.some.inj e'; omega⟩, hg.block b hlt (fun e' => hok.2 e'.symm)⟩)
  refine ⟨by rw [List.length_append, flatV_append]; exact hown, by simp [h2], fun i hi => ?_⟩
  rw [List.length_append, List.length_singleton] at hi
  by_cases hlt : i < q.length
  · have e1 : (vs ++ [(u, n)]).getD i (.nilIface, 0) = vs.getD i (.nilIface, 0) := by simp [List.getD_eq_getElem?_getD, List.getElem?_append_left (show i < vs.length by omega)]
    have e2 : (q ++ [(e, n)]).getD i ([], 0) = q.getD i ([], 0) := by simp [List.getD_eq_getElem?_getD, List.getElem?_append_left hlt]
    rw [e1, e2]
    exact ⟨key ((h3 i hlt).1.keep hb), (h3 i hlt).2⟩
  · obtain rfl : i = q.length := by omega
    have e1 : (vs ++ [(u, n)]).getD q.length (.nilIface, 0) = (u, n) := by rw [← h2]; simp [List.getD_eq_getElem?_getD]
    have e2 : (q ++ [(e, n)]).getD q.length ([], 0) = (e, n) := by simp [List.getD_eq_getElem?_getD]
    rw [e1, e2]
    exact ⟨key hu, rfl⟩
/-- Such a row holds its sum. -/
theorem PRow.psl {w : World} {base : Nat} {ok : Nat → Prop} {v : Value} {vs : List (Value × Int)} {q : List Mon} (h : PRow w base ok v vs q) : ∃ a cap, v = .slice a q.length cap ∧ PSl w a q.length q := by
  obtain ⟨h1, h2, h3⟩ := h
  rcases h1.2 with ⟨rfl, h0⟩ | ⟨g, cap, cur, rfl, hb, hg, _⟩
  · exact ⟨none, 0, by rw [h0], rfl, .inl h0⟩
  · have hcs := h1.cells rfl
    refine ⟨_, cap, rfl, rfl, .inr ⟨g, 0, rfl, Array.getElem?_eq_some_iff.1 hg |>.1, fun i hi => ?_⟩⟩
    obtain ⟨gv1, gv2⟩ := flatV_get vs i (by omega)
    have c1 := hcs _ _ gv1
    have c2 := hcs _ _ gv2
    rw [add_to] at c1 c2
    obtain ⟨⟨b, off, l, c, e1, e2, e3, e4, e5, e6, e7⟩, e8⟩ := h3 i hi
    refine ⟨some ⟨b, off, none⟩, l, c, by rw [c1, e1], by omega, e2, ⟨e6, ?_⟩, by rw [Nat.add_assoc, c2, e8]⟩
    by_cases h0 : l = 0
    · exact .inl h0
    · exact .inr ⟨b, off, rfl, e5, e7⟩
theorem emptyInts (w : World) : (w.alloc (.cells #[] 3)).ownsRow w.heap.size 3 1 (.slice (some ⟨w.heap.size, 0, none⟩) 0 0) 0 [] :=
  World.ownsRow_lit w #[] 0 (Nat.le_refl _) (by unfold maxLen; omega) rfl
/-- No cell of the powers' blocks is frozen. -/
def FZ1 (w : World) (v : Value) : Prop := ∀ g o l c, v = .slice (some ⟨g, o, none⟩) l c → ∀ i, w.frozen? ⟨g, i, none⟩ = false
def FZs (w : World) (vs : List (Value × Int)) : Prop := ∀ x ∈ vs, FZ1 w x.1
theorem FZ1.map {w w' : World} {ok ok' : Nat → Prop} {v : Value} {e : List Int} (h : FZ1 w v) (hp : PowV w ok v e) (hk : ∀ b, ok b → b < w.heap.size → w'.heap[b]? = w.heap[b]?) : FZ1 w' v := by
  obtain ⟨b, off, l, c, rfl, _, _, h4, h5, _⟩ := hp
  intro g o l' c' e' i
  cases e'
  exact (World.frozen?_of_block (a := ⟨b, i, none⟩) (hk b h4 h5)).trans (h _ _ _ _ rfl i)
theorem FZs.map {w w' : World} {base : Nat} {ok : Nat → Prop} {v : Value} {vs : List (Value × Int)} {q : List Mon} (h : FZs w vs) (hp : PRow w base ok v vs q) (hk : ∀ b, v.ownBlock ≠ some b → b < w.heap.size → w'.heap[b]? = w.heap[b]?) : FZs w' vs := by
  intro x hx
  obtain ⟨i, hi, rfl⟩ := List.getElem_of_mem hx
  have h1 := (hp.2.2 i (by have := hp.2.1; omega)).1
  have e : vs.getD i (.nilIface, 0) = vs[i] := by rw [List.getD_eq_getElem?_getD, List.getElem?_eq_getElem hi]; rfl
  rw [e] at h1
  exact FZ1.map (ok' := ok) (h _ (List.getElem_mem hi)) h1 (fun b hb hs => hk b hb.2 hs)
/-- The model's own copy of powers. -/
theorem ownP_fz (w : World) (ok : Nat → Prop) (v : Value) (e : List Int) (h : PowV w ok v e) (h0 : 0 < e.length) :
    Calls Tryz.prog 90 #[v] w fun r w' => ∃ u, r = .returned u ∧ PowV w' (fun b => w.heap.size ≤ b) u e ∧ Below w.heap.size w w' ∧ FZ1 w' u := by
  obtain ⟨i0, hi, hz0, hz1, hz2⟩ := info_parts infoInt
  obtain ⟨b, off, l, c, rfl, h2, h3, h4, h5, h6, h7⟩ := h
  have hb0 : Below w.heap.size w (w.alloc (.cells #[] 3)) := (Below.refl _ _).alloc (Nat.le_refl _) _
  have hsl : Sl w (some ⟨b, off, none⟩) l e := ⟨h6, .inr ⟨b, off, rfl, h5, h7⟩⟩
  have hcs := sl_cells (hsl.keep hb0) 0 l (by omega)
  rw [List.drop_zero, List.take_of_length_le (by omega), Nat.add_zero] at hcs
  have HC := (show Hid _ from hcs)
  have H1 : Hid (∀ u ∈ vals e, u.oneCell' = true) := vals_one e
  have hvl : (vals e).length = l * 1 := by rw [vals_len]; omega
  clear hcs h7 hsl h4
  go_enter Tryz.func90, Tryz.ntmps90
  go_wp2_with (at_builtin; refine wpList_append_own _ rfl _ _ 55 rfl w.heap.size 3 i0 (.int .i64 0) 1 8 Tryz.underlying55 hi hz0 hz1 hz2 rfl (by decide) _ _ _ rfl (emptyInts w) ⟨b, off, none⟩ l c (vals e) rfl hvl HC.out H1.out (by unfold maxLen; omega) (by omega) (by simp) ?_; intro v' w4 hown4 hg4 _)
  go_ret
  rw [Nat.zero_add, List.nil_append] at hown4
  refine ⟨_, rfl, ?_, hb0.grown hg4 (by simp) (fun r hr => by cases hr; exact Nat.le_refl _), ?_⟩
  rotate_left
  · intro g o l' c' e' i
    rcases hown4.2 with ⟨h0, h00⟩ | ⟨g', cap, cur, hv, hbg, hg, hcap, _⟩
    · omega
    · rw [hv] at e'
      cases e'
      rw [hv] at hown4
      exact hown4.frozenAt i
  rcases hown4.2 with ⟨_, h00⟩ | ⟨g, cap, cur, hv, hbg, hg, hcap, _⟩
  · omega
  · obtain ⟨a', c', hv', hs'⟩ := Sl.vals hown4
    rw [hv] at hv'
    simp only [Value.slice.injEq, true_and] at hv'
    obtain ⟨rfl, rfl⟩ := hv'
    obtain ⟨b', off', e', hc'⟩ := cells_of hs' (by omega)
    cases e'
    exact ⟨g, 0, l, cap, hv, hcap, h3, hbg, Array.getElem?_eq_some_iff.1 hg |>.1, h6, hc'⟩
theorem ownP_any (w : World) (ok : Nat → Prop) (v : Value) (e : List Int) (h : PowV w ok v e) (h0 : 0 < e.length) :
    Calls Tryz.prog 90 #[v] w fun r w' => ∃ u, r = .returned u ∧ PowV w' (fun b => w.heap.size ≤ b) u e ∧ Below w.heap.size w w' :=
  (ownP_fz w ok v e h h0).mono fun r w' ⟨u, h1, h2, h3, _⟩ => ⟨u, h1, h2, h3⟩
end Go.Proofs.YtpjgjpjfchfmlaaGreatDoor
namespace Go.Proofs.YtpjgjpjfchfmlaaGreatDoor
open Go.RowKit
set_option linter.unusedVariables false

theorem step_call {P : Program} {ops : Array Oper} {o : Oper} {a : Act} {w : World} {K : Act → World → Prop} {Q : Exit → Act → World → Prop} {E : Prop}
    (hg : o.guard = none) (f : FuncId) (args : Array Value) (hrun : (execOp a.eval o).run P w = .ok (.enter f args) w) (R : Ending → World → Prop) (hc : Calls P f args w R)
    (hK : ∀ e w', R e w' → ∃ v, e = .returned v ∧ K (a.put o.dst v) w') :
    if Region.wanted o (yielded ops a.tmps) = true then Oper.wp P o a w K Q else E := by
  have hw : Region.wanted o (yielded ops a.tmps) = true := by simp [Region.wanted, hg]
  rw [if_pos hw]
  unfold Oper.wp
  rw [hrun, Oper.upon_enter]
  refine hc.mono fun e w' h => ?_
  obtain ⟨v, rfl, hk⟩ := hK e w' h
  exact hk

theorem step_append {P : Program} {ops : Array Oper} {o : Oper} {a : Act} {w : World} {K : Act → World → Prop} {Q : Exit → Act → World → Prop} {E : Prop}
    (hg : o.guard = none) (s x : Operand) (t : TypeId) (ho : o.op = .call { callee := .builtin .append, args := #[s, x], argTypes := #[t, t] })
    (base : Nat) (e : TypeId) (i : TypeInfo) (z : Value) (size bytes : Nat) (ht : P.underlying t = some (.slice e)) (hi : P.info? e = some i) (hz : i.zero = some z)
    (hsize : i.size = size) (hby : i.bytes = bytes) (hzs : z.cells.size = size) (hsz : 0 < size)
    (v : Value) (n : Nat) (xs : List Value) (hs : a.eval s = v) (hown : w.ownsRow base e size v n xs)
    (ad : Addr) (m c : Nat) (news : List Value) (hx : a.eval x = .slice (some ad) m c) (hl : news.length = m * size) (hnews : ∀ j u, news[j]? = some u → w.cell? (ad.add j) = some u) (h1 : ∀ u ∈ news, u.oneCell' = true)
    (h63 : n + m ≤ maxLen) (hbytes : (n + m) * bytes ≤ 140737488355328) (hbase : base ≤ w.heap.size)
    (h : ∀ v' w', w'.ownsRow base e size v' (n + m) (xs ++ news) → w.grownBy w' v.ownBlock → (v'.ownBlock = v.ownBlock ∨ v'.ownBlock = some w.heap.size) → K (a.put o.dst v') w') :
    if Region.wanted o (yielded ops a.tmps) = true then Oper.wp P o a w K Q else E := by
  have hw : Region.wanted o (yielded ops a.tmps) = true := by simp [Region.wanted, hg]
  rw [if_pos hw]
  obtain ⟨v', w', hr, h2, h3, h4, h5⟩ := run_append_own_at (P := P) w base t o.type e i z size bytes ht hi hz hsize hby hzs hsz v n xs hown ad m c news hl hnews h1 h63 hbytes hbase
  unfold Oper.wp execOp
  simp only [ho, resolve, invoke, builtin, Sem.run_bind, Sem.run_pure, Result.andThen_ok, List.map_toArray, List.map_cons, List.map_nil, hs, hx, hr]
  exact h v' w' h2 h3 h5
theorem below_drawn {B : Nat} {w w' : World} (h : Below B w w') : ∀ n, Below B w (w'.drewN n) := fun n => ⟨h.os, h.tape, h.output, h.size, h.block⟩
end Go.Proofs.YtpjgjpjfchfmlaaGreatDoor
namespace Go.Proofs.YtpjgjpjfchfmlaaGreatDoor
open Go.ChangeShapes Go.WideShapes Go.ChangeAt Go.RowKit
set_option linter.unusedVariables false

theorem drop_mon (p : List Mon) (k : Nat) (h : k < p.length) : p.drop k = p.getD k ([], 0) :: p.drop (k + 1) := by
  rw [List.drop_eq_getElem_cons h]
  have e : p.getD k ([], 0) = p[k] := by rw [List.getD_eq_getElem?_getD, List.getElem?_eq_getElem h]; rfl
  rw [e]
theorem two_newV (w : World) (x y : Value) (t : TypeId) : ∀ j u, [x, y][j]? = some u → (w.alloc (.cells #[x, y] t)).cell? ((⟨w.heap.size, 0, none⟩ : Addr).add j) = some u := by
  intro j u hj
  match j, hj with
  | 0, hj => simp at hj; subst hj; simp [Addr.add]
  | 1, hj => simp at hj; subst hj; simp [Addr.add]
theorem two_oneV {x : Value} (hx : x.oneCell' = true) (n : Int) : ∀ u ∈ [x, Value.int .i64 n], u.oneCell' = true := fun u hu => by
  rcases List.mem_cons.1 hu with rfl | hu
  · exact hx
  · rw [List.mem_singleton.1 hu]; rfl
theorem PSl.powV {w : World} {ai : Option Addr} {li ci : Nat} {e : List Int} (h : Sl w ai li e) (h0 : 0 < li) (hc : li ≤ ci) (hm : li ≤ 1048576) (ok : Nat → Prop) (hok : ∀ b, b < w.heap.size → ok b) : PowV w ok (.slice ai li ci) e := by
  obtain ⟨h1, h2⟩ := h
  rcases h2 with h2 | ⟨b, off, rfl, hb, hcell⟩
  · omega
  · exact ⟨b, off, li, ci, rfl, hc, hm, hok b hb, hb, h1, hcell⟩
theorem PowV.sl {w : World} {ok : Nat → Prop} {v : Value} {e : List Int} (h : PowV w ok v e) : ∃ a l c, v = .slice a l c ∧ Sl w a l e ∧ l ≤ 1048576 := by
  obtain ⟨b, off, l, c, rfl, _, h3, _, h5, h6, h7⟩ := h
  exact ⟨_, _, _, rfl, ⟨h6, .inr ⟨b, off, rfl, h5, h7⟩⟩, h3⟩
theorem PowV.imp {w : World} {ok ok' : Nat → Prop} {v : Value} {e : List Int} (h : PowV w ok v e) (hk : ∀ b, ok b → ok' b) : PowV w ok' v e := by
  obtain ⟨b, off, l, c, h1, h2, h3, h4, h5, h6, h7⟩ := h
  exact ⟨b, off, l, c, h1, h2, h3, hk b h4, h5, h6, h7⟩
theorem own_lt {w : World} {base size len : Nat} {t : TypeId} {v : Value} {l : List Value} (h : w.ownsRow base t size v len l) : ∀ r, v.ownBlock = some r → r < w.heap.size := by
  intro r hr
  rcases h.2 with ⟨rfl, _⟩ | ⟨g, cap, cur, rfl, hb, hg, _⟩
  · simp [Value.ownBlock] at hr
  · have : g = r := by simpa [Value.ownBlock] using hr
    subst this
    exact (Array.getElem?_eq_some_iff.1 hg).1
/-- What stands behind one product of the first walk. -/
def PutRel (w : World) (p : List Mon) (e : List Int) (n0 : Int) (k : Nat) (y : Int) (b : Bool) (o : Value) (vs : List (Value × Int)) (q : List Mon) (wr : World) : Prop :=
  PRow wr w.heap.size (fun _ => True) o vs q ∧ q.length ≤ k + 1 ∧ (b = false → q.length ≤ k) ∧ Below w.heap.size w wr ∧ q ++ putO e (p.drop k) b y = putO e p false n0
/-- An append to the first walk's row: what is owed and what is got. -/
theorem put_push {wr w4 w5 : World} {o v' u : Value} {vs : List (Value × Int)} {q : List Mon} {e : List Int} {n : Int} {base : Nat} (h : PRow wr base (fun _ => True) o vs q) (hb : Below wr.heap.size wr w4) (hg : w4.grownBy w5 o.ownBlock) (hown : w5.ownsRow base 57 2 v' (q.length + 1) (flatV vs ++ [u, .int .i64 n])) (hat : v'.ownBlock = o.ownBlock ∨ v'.ownBlock = some w4.heap.size) (hu : PowV w4 (fun b => o.ownBlock ≠ some b) u e) :
    PRow w5 base (fun _ => True) v' (vs ++ [(u, n)]) (q ++ [(e, n)]) := h.push hb hg hown hat (hu.imp fun b hb => ⟨trivial, hb⟩)
/-- An append of a product behind a copy of its powers. -/
theorem put_more {w wr w3 : World} {o u : Value} {vs : List (Value × Int)} {q : List Mon} {e : List Int} (x : Int) (h : PRow wr w.heap.size (fun _ => True) o vs q) (hB : Below w.heap.size w wr) (hb : Below wr.heap.size wr w3) (hu : PowV w3 (fun b => o.ownBlock ≠ some b) u e) :
    ∀ Wa, w3.alloc (.cells #[u, .int .i64 x] 57) = Wa → Hid (Wa.ownsRow w.heap.size 57 2 o q.length (flatV vs)) ∧ Hid (∀ j z, [u, Value.int .i64 x][j]? = some z → Wa.cell? ((⟨w3.heap.size, 0, none⟩ : Addr).add j) = some z) ∧ w.heap.size ≤ Wa.heap.size ∧ Hid (Below wr.heap.size wr Wa) ∧
      Hid (∀ v5 w5, w5.ownsRow w.heap.size 57 2 v5 (q.length + 1) (flatV vs ++ [u, .int .i64 x]) → Wa.grownBy w5 o.ownBlock → (v5.ownBlock = o.ownBlock ∨ v5.ownBlock = some Wa.heap.size) → PRow w5 w.heap.size (fun _ => True) v5 (vs ++ [(u, x)]) (q ++ [(e, x)]) ∧ Below w.heap.size w w5) := by
  intro Wa hWa
  have hba : Below w3.heap.size w3 Wa := by rw [← hWa]; exact (Below.refl _ _).alloc (Nat.le_refl _) _
  have hbwa : Below wr.heap.size wr Wa := hb.trans (hba.mono hb.size)
  have hBa : Below w.heap.size w Wa := hB.trans (hbwa.mono hB.size)
  have HA := h.keep hbwa
  exact ⟨HA.1, by rw [← hWa]; exact two_newV w3 _ _ _, hBa.size, hbwa, fun v5 w5 h5 g5 a5 => ⟨put_push h hbwa g5 h5 a5 (hu.keep hba), hBa.grown g5 hBa.size (own_ge HA.1)⟩⟩
/-- The same, for any demand on the blocks. -/
theorem put_more' {w wr w3 : World} {ok : Nat → Prop} {o u : Value} {vs : List (Value × Int)} {q : List Mon} {e : List Int} (x : Int) (h : PRow wr w.heap.size ok o vs q) (hB : Below w.heap.size w wr) (hb : Below wr.heap.size wr w3) (hu : PowV w3 (fun b => ok b ∧ o.ownBlock ≠ some b) u e) :
    ∀ Wa, w3.alloc (.cells #[u, .int .i64 x] 57) = Wa → Hid (Wa.ownsRow w.heap.size 57 2 o q.length (flatV vs)) ∧ Hid (∀ j z, [u, Value.int .i64 x][j]? = some z → Wa.cell? ((⟨w3.heap.size, 0, none⟩ : Addr).add j) = some z) ∧ w.heap.size ≤ Wa.heap.size ∧
      Hid (∀ v5 w5, w5.ownsRow w.heap.size 57 2 v5 (q.length + 1) (flatV vs ++ [u, .int .i64 x]) → Wa.grownBy w5 o.ownBlock → (v5.ownBlock = o.ownBlock ∨ v5.ownBlock = some Wa.heap.size) → PRow w5 w.heap.size ok v5 (vs ++ [(u, x)]) (q ++ [(e, x)]) ∧ Below w.heap.size w w5) := by
  intro Wa hWa
  have hba : Below w3.heap.size w3 Wa := by rw [← hWa]; exact (Below.refl _ _).alloc (Nat.le_refl _) _
  have hbwa : Below wr.heap.size wr Wa := hb.trans (hba.mono hb.size)
  have hBa : Below w.heap.size w Wa := hB.trans (hbwa.mono hB.size)
  have HA := h.keep hbwa
  exact ⟨HA.1, by rw [← hWa]; exact two_newV w3 _ _ _, hBa.size, fun v5 w5 h5 g5 a5 => ⟨h.push hbwa g5 h5 a5 (hu.keep hba), hBa.grown g5 hBa.size (own_ge HA.1)⟩⟩
theorem putO_len {k : Nat} {e : List Int} (he : e.length = k) : ∀ (p : List Mon) (b : Bool) (n : Int), (∀ x ∈ p, x.1.length = k) → ∀ x ∈ putO e p b n, x.1.length = k
  | [], b, n, _, x, hx => by
    unfold putO at hx
    split at hx
    · simp at hx
    · rw [List.mem_singleton.1 hx]; exact he
  | m :: r, b, n, h, x, hx => by
    have hr : ∀ x ∈ r, x.1.length = k := fun x hx => h x (List.mem_cons_of_mem _ hx)
    have hm := h m (List.mem_cons_self ..)
    unfold putO at hx
    split at hx
    · rcases List.mem_cons.1 hx with rfl | hx
      · exact he
      · exact putO_len he r _ _ hr x hx
    · split at hx
      · rcases List.mem_cons.1 hx with rfl | hx
        · exact he
        · rcases List.mem_cons.1 hx with rfl | hx
          · exact hm
          · exact putO_len he r _ _ hr x hx
      · rcases List.mem_cons.1 hx with rfl | hx
        · exact hm
        · exact putO_len he r _ _ hr x hx
theorem putO_le {e : List Int} : ∀ (p : List Mon) (b : Bool) (n : Int), (putO e p b n).length ≤ p.length + 1 - (if b = true then 1 else 0)
  | [], b, n => by unfold putO; cases b <;> simp
  | m :: r, b, n => by
    unfold putO
    have h1 := putO_le (e := e) r true
    have h2 := putO_le (e := e) r b n
    split
    · have := h1 (wrap64 (n + m.2)); simp at this ⊢; cases b <;> simp <;> omega
    · split
      · rename_i h; obtain ⟨_, rfl⟩ := h; have := h1 n; simp at this ⊢; omega
      · cases b <;> simp at h2 ⊢ <;> omega
theorem PRow.base {w : World} {base base' : Nat} {ok ok' : Nat → Prop} {v : Value} {vs : List (Value × Int)} {q : List Mon} (h : PRow w base ok v vs q) (hb : base' ≤ base) (hk : ∀ b, ok b → ok' b) : PRow w base' ok' v vs q :=
  ⟨own_base h.1 hb, h.2.1, fun i hi => ⟨(h.2.2 i hi).1.imp fun b hb => ⟨hk b hb.1, hb.2⟩, (h.2.2 i hi).2⟩⟩
theorem filter_take (Q : List Mon) (k : Nat) (m : Mon) (hk : k < Q.length) (hm : Q.getD k ([], 0) = m) : (Q.take (k + 1)).filter (fun m => m.2 != 0) = (Q.take k).filter (fun m => m.2 != 0) ++ if m.2 = 0 then [] else [m] := by
  have : Q[k]? = some m := by rw [List.getElem?_eq_getElem hk, ← hm, List.getD_eq_getElem?_getD, List.getElem?_eq_getElem hk]; rfl
  rw [List.take_add_one, this, List.filter_append]
  congr 1
  by_cases h0 : m.2 = 0 <;> simp [h0]
set_option maxHeartbeats 4000000 in
set_option maxRecDepth 20000 in
theorem put_fz (w : World) (a : Option Addr) (len cap : Nat) (p : List Mon) (h : PSl w a len p) (hlen : len ≤ 100000) (hp4 : ∀ x ∈ p, x.1.length = 4) (e : List Int) (he : e.length = 4) (vp : Value) (hv : PowV w (fun _ => True) vp e) (n : Int) :
    Calls Tryz.prog 62 #[.slice a len cap, vp, .int .i64 n] w fun r w' => ∃ v vs, r = .returned v ∧ PRow w' w.heap.size (fun b => w.heap.size ≤ b) v vs (putP p e n) ∧ Below w.heap.size w w' ∧ FZs w' vs := by
  obtain ⟨i0, hi, hz0, hz1, hz2⟩ := info_parts infoMono
  have hll := h.1
  obtain ⟨pb, po, pl, pc, rfl, hv2, hv3, -, hv5, hv6, hv7⟩ := id hv
  obtain rfl : pl = 4 := by omega
  have HV : Hid (∀ W, Below w.heap.size w W → PowV W (fun _ => True) (.slice (some ⟨pb, po, none⟩) 4 pc) e) := fun W hb => hv.keep hb
  have HP : Hid (∀ W, Below w.heap.size w W → PSl W a len p) := fun W hb => h.keep hb
  have H4 : Hid (∀ i, i < len → (p.getD i ([], 0)).1.length = 4) := fun i hi => by
    have : p.getD i ([], 0) = p[i] := by rw [List.getD_eq_getElem?_getD, List.getElem?_eq_getElem (by omega)]; rfl
    rw [this]; exact hp4 _ (List.getElem_mem _)
  have HW : Hid (PSl w a len p) := h
  have HQ4 : Hid (∀ x ∈ putO e p false n, x.1.length = 4) := putO_len he p false n hp4
  have HQl : Hid ((putO e p false n).length ≤ len + 1) := by have := putO_le (e := e) p false n; simp at this; show _ ≤ _; omega
  clear hv hv2 hv3 hv5 hv7 hp4 h
  go_enter Tryz.func62, Tryz.ntmps62
  go_wp2_with fail
  go_loopw [2, 7, 8, 17] (fun y o b i wr => ∃ (k : Nat) (y' : Int) (b' : Bool) (vs : List (Value × Int)) (q : List Mon), k ≤ len ∧ i = .int .i64 (k : Int) ∧ y = .int .i64 y' ∧ b = .bool b' ∧ Hid (PutRel w p e n k y' b' o vs q wr)) (fun _ _ _ i _ => len - (intOf i).toNat)
  case atStart => exact ⟨0, n, false, [], [], Nat.zero_le _, rfl, rfl, rfl, PRow.nil _ _ _, by simp, by simp, Below.refl _ _, rfl⟩
  case round =>
    obtain ⟨k, y, b, vs, q, hk, rfl, rfl, rfl, HR⟩ := hrel
    by_cases hlt : k < len
    · have hBr := HR.out.2.2.2.1
      obtain ⟨bb, off, rfl, hbl, hc⟩ := (HP.out wr hBr).at (by omega)
      obtain ⟨ai, li, ci, c1, hli, hci, hS, c2⟩ := hc k hlt
      obtain ⟨b0, off0, e0, hbl0, hc0⟩ := HW.out.at (by omega)
      cases e0
      have hm4 := H4.out k hlt
      have hlen4 : li = 4 := by have := hS.1; omega
      subst hlen4
      obtain ⟨N, hN⟩ : ∃ N, (p.getD k ([], 0)).2 = N := ⟨_, rfl⟩
      obtain ⟨m, hm⟩ : ∃ m, (p.getD k ([], 0)).1 = m := ⟨_, rfl⟩
      rw [hN] at c2
      rw [hm] at hS hm4
      have hdr := drop_mon p k (by omega)
      have hcell : p.getD k ([], 0) = (m, N) := Prod.ext hm hN
      rw [hcell] at hdr
      -- the block of the product's powers lies below the call
      have hai : ∃ ba oa, ai = some ⟨ba, oa, none⟩ ∧ ba < w.heap.size := by
        obtain ⟨ai', li', ci', d1, _, _, dS, _⟩ := hc0 k hlt
        have d1' := (hBr.cell (p := ⟨bb, off + k * 2, none⟩) hbl0).trans d1
        rw [c1] at d1'
        obtain ⟨rfl, rfl, rfl⟩ : ai = ai' ∧ 4 = li' ∧ ci = ci' := by simpa using d1'
        rcases dS.2 with d0 | ⟨ba, oa, rfl, hba, _⟩
        · omega
        · exact ⟨ba, oa, rfl, hba⟩
      obtain ⟨ba, oa, rfl, hba⟩ := hai
      have i1 : (k : Int) < len := by omega
      obtain ⟨W1, hW1⟩ : ∃ W1, wr.alloc (.cells #[.slice (some ⟨ba, oa, none⟩) 4 ci, .int .i64 N] 57) = W1 := ⟨_, rfl⟩
      have n0 : W1.cell? ⟨wr.heap.size, 0, none⟩ = some (.slice (some ⟨ba, oa, none⟩) 4 ci) := by rw [← hW1]; simp [go_sem]
      have n1 : W1.cell? ⟨wr.heap.size, 1, none⟩ = some (.int .i64 N) := by rw [← hW1]; simp [go_sem]
      have hb1 : Below wr.heap.size wr W1 := by rw [← hW1]; exact (Below.refl _ _).alloc (Nat.le_refl _) _
      have hsz1 : wr.heap.size < W1.heap.size := by rw [← hW1]; simp
      have hB1 : Below w.heap.size w W1 := hBr.trans (hb1.mono hBr.size)
      obtain ⟨ap, lp, cp, ep, hSp, _⟩ := (HV.out W1 hB1).sl
      cases ep
      have HC := (show Hid _ from cmp_any _ _ 4 4 pc ci e m W1 hSp (hS.keep hb1) (Nat.le_refl _) (by omega))
      have hcr := cmp_range e m
      obtain ⟨c, hcv⟩ : ∃ c, cmpL e m = c := ⟨_, rfl⟩
      rw [hcv] at HC hcr
      have HMV : Hid (PowV wr (fun b => u7.ownBlock ≠ some b) (.slice (some ⟨ba, oa, none⟩) 4 ci) m) := by
        rcases hS.2 with h0 | ⟨b1, o1, e1, hb1', hcell1⟩
        · omega
        · cases e1
          exact ⟨ba, oa, 4, ci, rfl, hci, by omega, fun e => by have := own_ge HR.out.1.1 ba e; omega, hb1', hm4, hcell1⟩
      clear hSp hc hc0 hS hbl0
      go_wp2_with fail
      (try rw [hW1])
      refine Calls.mono HC.out ?_
      rintro r w2 ⟨rfl, nd, rfl⟩
      obtain ⟨W2, hW2⟩ : ∃ W2, W1.drewN nd = W2 := ⟨_, rfl⟩
      have hb12 : Below W1.heap.size W1 W2 := by rw [← hW2]; exact below_drewN (Below.refl _ _) nd
      have m0 := (hb12.cell (p := ⟨wr.heap.size, 0, none⟩) hsz1).trans n0
      have m1 := (hb12.cell (p := ⟨wr.heap.size, 1, none⟩) hsz1).trans n1
      have hb2 : Below wr.heap.size wr W2 := hb1.trans (hb12.mono hb1.size)
      have hB2 : Below w.heap.size w W2 := hBr.trans (hb2.mono hBr.size)
      rw [hW2]
      have hq1 := HR.out.2.1
      have hsz2 := hb2.size
      have hszw := hB2.size
      have hb12s := hb12.size
      clear hb1 hB1 hb12 n0 n1 hW1 hW2
      have HU : Hid (PowV W2 (fun _ => True) (.slice (some ⟨pb, po, none⟩) 4 pc) e) := HV.out W2 hB2
      have HO := (show Hid _ from ownP_any W2 _ _ e HU.out (by omega))
      by_cases hz : c = 0
      · have heq : putO e (p.drop k) b y = (e, wrap64 (y + N)) :: putO e (p.drop (k + 1)) true (wrap64 (y + N)) := by
          rw [hdr, putO, hcv, if_pos hz]
        subst hz
        go_wp2_with fail
        refine Calls.mono HO.out ?_
        rintro r w3 ⟨u, rfl, hu, hb3⟩
        obtain ⟨gu, ou, lu, cu, rfl, hu2, hu3, hu4, hu5, hu6, hu7⟩ := id hu
        obtain rfl : lu = 4 := by omega
        have hok : PowV w3 (fun b => u7.ownBlock ≠ some b) (.slice (some ⟨gu, ou, none⟩) 4 cu) e := hu.imp fun b hb' e' => by have := own_lt HR.out.1.1 b e'; omega
        obtain ⟨Wa, hWa⟩ : ∃ Wa, w3.alloc (.cells #[.slice (some ⟨gu, ou, none⟩) 4 cu, .int .i64 (wrap64 (y + N))] 57) = Wa := ⟨_, rfl⟩
        obtain ⟨HA, HN, hsa, -, HF⟩ := put_more (wrap64 (y + N)) HR.out.1 hBr (hb2.trans (hb3.mono hb2.size)) hok Wa hWa
        have HF2 : Hid (∀ v5 w5, w5.ownsRow w.heap.size 57 2 v5 (q.length + 1) (flatV vs ++ [.slice (some ⟨gu, ou, none⟩) 4 cu, .int .i64 (wrap64 (y + N))]) → Wa.grownBy w5 u7.ownBlock → (v5.ownBlock = u7.ownBlock ∨ v5.ownBlock = some Wa.heap.size) → Hid (PutRel w p e n (k + 1) (wrap64 (y + N)) true v5 (vs ++ [(.slice (some ⟨gu, ou, none⟩) 4 cu, wrap64 (y + N))]) (q ++ [(e, wrap64 (y + N))]) w5)) := fun v5 w5 h5 g5 a5 =>
          ⟨(HF.out v5 w5 h5 g5 a5).1, by simp; omega, fun h => by simp at h, (HF.out v5 w5 h5 g5 a5).2, by rw [← HR.out.2.2.2.2, heq]; simp⟩
        clear HF hok hu hu4 hu5 hu7 hb3 hb2 hB2 hBr heq hdr HO HU HC HMV
        go_wp2_with ((try rw [hWa]); at_builtin; refine wpList_append_own_at _ rfl _ _ 26 rfl w.heap.size 57 i0 (.agg #[.slice none 0 0, .int .i64 0]) 2 32 Tryz.underlying26 hi hz0 hz1 hz2 rfl (by decide) u7 q.length (flatV vs) rfl HA.out ⟨w3.heap.size, 0, none⟩ 1 1 [.slice (some ⟨gu, ou, none⟩) 4 cu, .int .i64 (wrap64 (y + N))] rfl (by simp) HN.out (two_oneV rfl _) (by unfold maxLen; omega) (by omega) hsa ?_; intro v5 w5 hown5 hg5 _ hat5)
        have H5 := HF2.out v5 w5 hown5 hg5 hat5
        clear hown5 hg5 hat5
        go_roundw
        case rel => exact ⟨k + 1, _, _, _, _, by omega, by go_num, rfl, rfl, H5⟩
        case measure => simp [intOf]; omega
      by_cases hp : c = 1 ∧ b = false
      · obtain ⟨rfl, rfl⟩ := hp
        have heq : putO e (p.drop k) false y = (e, y) :: (m, N) :: putO e (p.drop (k + 1)) true y := by
          rw [hdr, putO, hcv, if_neg hz, if_pos ⟨by omega, rfl⟩]
        have hq0 := HR.out.2.2.1 rfl
        go_wp2_with fail
        refine Calls.mono HO.out ?_
        rintro r w3 ⟨u, rfl, hu, hb3⟩
        obtain ⟨gu, ou, lu, cu, rfl, hu2, hu3, hu4, hu5, hu6, hu7⟩ := id hu
        obtain rfl : lu = 4 := by omega
        have hok : PowV w3 (fun b => u7.ownBlock ≠ some b) (.slice (some ⟨gu, ou, none⟩) 4 cu) e := hu.imp fun b hb' e' => by have := own_lt HR.out.1.1 b e'; omega
        obtain ⟨Wa, hWa⟩ : ∃ Wa, w3.alloc (.cells #[.slice (some ⟨gu, ou, none⟩) 4 cu, .int .i64 y] 57) = Wa := ⟨_, rfl⟩
        obtain ⟨HA, HN, hsa, hbwa, HF⟩ := put_more y HR.out.1 hBr (hb2.trans (hb3.mono hb2.size)) hok Wa hWa
        have hw1 : wr.heap.size < W2.heap.size := by have := hb12s; omega
        have hb3a : Below W2.heap.size W2 Wa := by rw [← hWa]; exact hb3.alloc hb3.size _
        have HCell : Hid (∀ w5, Wa.grownBy w5 u7.ownBlock → w5.cell? ⟨wr.heap.size, 0, none⟩ = some (.slice (some ⟨ba, oa, none⟩) 4 ci) ∧ w5.cell? ⟨wr.heap.size, 1, none⟩ = some (.int .i64 N)) := fun w5 g5 => by
          have hne : ∀ (b' : Nat), b' = wr.heap.size → u7.ownBlock ≠ some b' := fun b' e1 e2 => by have := own_lt HR.out.1.1 b' e2; omega
          have hblk : w5.heap[wr.heap.size]? = Wa.heap[wr.heap.size]? := g5.block _ (by have := hb3a.size; omega) (fun e' => hne _ rfl e'.symm)
          exact ⟨(World.cell?_of_block (a := ⟨wr.heap.size, 0, none⟩) hblk).trans ((hb3a.cell (p := ⟨wr.heap.size, 0, none⟩) hw1).trans m0), (World.cell?_of_block (a := ⟨wr.heap.size, 1, none⟩) hblk).trans ((hb3a.cell (p := ⟨wr.heap.size, 1, none⟩) hw1).trans m1)⟩
        have HM5 : Hid (∀ w5, Wa.grownBy w5 u7.ownBlock → ∀ v5 : Value, (∀ r, v5.ownBlock = some r → w.heap.size ≤ r) → PowV w5 (fun b => v5.ownBlock ≠ some b) (.slice (some ⟨ba, oa, none⟩) 4 ci) m) := fun w5 g5 v5 h5 => by
          obtain ⟨b1, o1, l1, c1', d1, d2, d3, d4, d5, d6, d7⟩ := HMV.out.keep hbwa.out
          cases d1
          exact ⟨ba, oa, 4, ci, rfl, d2, d3, fun e' => by have := h5 _ e'; omega, Nat.lt_of_lt_of_le d5 g5.size, d6, fun i hi => (World.cell?_of_block (a := ⟨ba, oa + i, none⟩) (g5.block _ d5 (fun e' => d4 e'.symm))).trans (d7 i hi)⟩
        clear hok hu hu4 hu5 hu7 hb3 hb2 hB2 hBr hdr HO HU HC HMV hb3a hbwa
        go_wp2_with (first
          | ((try rw [hWa]); at_builtin; refine wpList_append_own_at _ rfl _ _ 26 rfl w.heap.size 57 i0 (.agg #[.slice none 0 0, .int .i64 0]) 2 32 Tryz.underlying26 hi hz0 hz1 hz2 rfl (by decide) u7 q.length (flatV vs) rfl HA.out ⟨w3.heap.size, 0, none⟩ 1 1 [.slice (some ⟨gu, ou, none⟩) 4 cu, .int .i64 y] rfl (by simp) HN.out (two_oneV rfl _) (by unfold maxLen; omega) (by omega) hsa ?_; intro v5 w5 hown5 hg5 _ hat5; obtain ⟨hP5, hB5⟩ := HF.out v5 w5 hown5 hg5 hat5; obtain ⟨s0, s1⟩ := HCell.out w5 hg5; have hm5 := HM5.out w5 hg5 v5 (own_ge hP5.1); obtain ⟨Wb, hWb⟩ : ∃ Wb, w5.alloc (.cells #[.slice (some ⟨ba, oa, none⟩) 4 ci, .int .i64 N] 57) = Wb := ⟨_, rfl⟩; obtain ⟨HA2, HN2, hsa2, -, HF3⟩ := put_more N hP5 hB5 (Below.refl _ _) hm5 Wb hWb; have hq5 : (q ++ [(e, y)]).length = q.length + 1 := by simp
             clear hown5 hg5 hat5 hP5 hB5 hm5 HF HCell HM5 HA HN hWa)
          | ((try rw [hWb]); at_builtin; refine wpList_append_own_at _ rfl _ _ 26 rfl w.heap.size 57 i0 (.agg #[.slice none 0 0, .int .i64 0]) 2 32 Tryz.underlying26 hi hz0 hz1 hz2 rfl (by decide) v5 (q ++ [(e, y)]).length _ rfl HA2.out ⟨w5.heap.size, 0, none⟩ 1 1 [.slice (some ⟨ba, oa, none⟩) 4 ci, .int .i64 N] rfl (by simp) HN2.out (two_oneV rfl _) (by unfold maxLen; omega) (by omega) hsa2 ?_; intro v6 w6 hown6 hg6 _ hat6))
        obtain ⟨hP6, hB6⟩ := HF3.out v6 w6 hown6 hg6 hat6
        have H6 : Hid (PutRel w p e n (k + 1) y true v6 _ _ w6) := ⟨hP6, by simp; omega, fun h => by simp at h, hB6, by rw [← HR.out.2.2.2.2, heq]; simp⟩
        clear hown6 hg6 hat6 hP6 hB6
        go_roundw
        case rel => exact ⟨k + 1, y, _, _, _, by omega, by go_num, rfl, rfl, H6⟩
        case measure => simp [intOf]; omega
      · have heq : putO e (p.drop k) b y = (m, N) :: putO e (p.drop (k + 1)) b y := by
          rw [hdr, putO, hcv, if_neg hz, if_neg (fun h => hp ⟨by omega, h.2⟩)]
        obtain ⟨Wa, hWa⟩ : ∃ Wa, W2.alloc (.cells #[.slice (some ⟨ba, oa, none⟩) 4 ci, .int .i64 N] 57) = Wa := ⟨_, rfl⟩
        have hba2 : Below W2.heap.size W2 Wa := by rw [← hWa]; exact (Below.refl _ _).alloc (Nat.le_refl _) _
        have hbwa : Below wr.heap.size wr Wa := hb2.trans (hba2.mono hb2.size)
        have hBa : Below w.heap.size w Wa := hBr.trans (hbwa.mono hBr.size)
        have HA : Hid (PRow Wa w.heap.size (fun _ => True) u7 vs q) := HR.out.1.keep hbwa
        have HN : Hid (∀ j u, [Value.slice (some ⟨ba, oa, none⟩) 4 ci, .int .i64 N][j]? = some u → Wa.cell? ((⟨W2.heap.size, 0, none⟩ : Addr).add j) = some u) := by rw [← hWa]; exact two_newV W2 _ _ _
        have hsa := hBa.size
        have fin : ∀ v5 w5, w5.ownsRow w.heap.size 57 2 v5 (q.length + 1) (flatV vs ++ [.slice (some ⟨ba, oa, none⟩) 4 ci, .int .i64 N]) → Wa.grownBy w5 u7.ownBlock → (v5.ownBlock = u7.ownBlock ∨ v5.ownBlock = some Wa.heap.size) → Hid (PutRel w p e n (k + 1) y b v5 (vs ++ [(.slice (some ⟨ba, oa, none⟩) 4 ci, N)]) (q ++ [(m, N)]) w5) := fun v5 w5 h5 g5 a5 =>
          ⟨put_push HR.out.1 hbwa g5 h5 a5 (HMV.out.keep hbwa), by simp; omega, fun hb' => by have := HR.out.2.2.1 hb'; simp; omega, hBa.grown g5 hBa.size (own_ge HA.out.1), by rw [← HR.out.2.2.2.2, heq]; simp⟩
        have FIN := (show Hid _ from fin)
        have hc2 : ¬ (0 < c ∧ b = false) := fun h => hp ⟨by omega, h.2⟩
        clear fin hba2 hbwa hBa hb2 hB2 hBr heq hdr
        have hcc : c = -1 ∨ (c = 1 ∧ b = true) := by
          rcases hcr with h | h | h
          · exact .inl h
          · exact absurd h hz
          · exact .inr ⟨h, by cases b; exact absurd ⟨h, rfl⟩ hp; rfl⟩
        clear hcr hp hz hc2 HC
        rcases hcc with rfl | ⟨rfl, rfl⟩
        all_goals
          go_wp2_with ((try rw [hWa]); at_builtin; refine wpList_append_own_at _ rfl _ _ 26 rfl w.heap.size 57 i0 (.agg #[.slice none 0 0, .int .i64 0]) 2 32 Tryz.underlying26 hi hz0 hz1 hz2 rfl (by decide) u7 q.length (flatV vs) rfl HA.out.1 ⟨W2.heap.size, 0, none⟩ 1 1 [.slice (some ⟨ba, oa, none⟩) 4 ci, .int .i64 N] rfl (by simp) HN.out (two_oneV rfl N) (by unfold maxLen; omega) (by omega) hsa ?_; intro v5 w5 hown5 hg5 _ hat5)
          have H5 := FIN.out v5 w5 hown5 hg5 hat5
          clear hown5 hg5 hat5
          go_roundw
          case rel => exact ⟨k + 1, y, _, _, _, by omega, by go_num, rfl, rfl, H5⟩
          case measure => simp [intOf]; omega
    · obtain rfl : k = len := by omega
      have hnil : p.drop k = [] := List.drop_eq_nil_of_le (by omega)
      have hBr := HR.out.2.2.2.1
      have heq := HR.out.2.2.2.2
      rw [hnil] at heq
      obtain ⟨Q, hQ⟩ : ∃ Q, putO e p false n = Q := ⟨_, rfl⟩
      have hPP : putP p e n = Q.filter fun m => m.2 != 0 := by unfold putP; rw [hQ]
      rw [hQ] at heq HQ4 HQl
      have hQl := HQl.out
      have hq1 := HR.out.2.1
      clear hnil HQl
      cases b
      have HU : Hid (PowV wr (fun _ => True) (.slice (some ⟨pb, po, none⟩) 4 pc) e) := HV.out wr hBr
      have HO := (show Hid _ from ownP_any wr _ _ e HU.out (by omega))
      have heq' : q ++ [(e, y)] = Q := by rw [← heq]; rfl
      go_wp2_with fail
      refine Calls.mono HO.out ?_
      rintro r w3 ⟨u, rfl, hu, hb3⟩
      obtain ⟨gu, ou, lu, cu, rfl, hu2, hu3, hu4, hu5, hu6, hu7⟩ := id hu
      obtain rfl : lu = 4 := by omega
      have hok : PowV w3 (fun b => u7.ownBlock ≠ some b) (.slice (some ⟨gu, ou, none⟩) 4 cu) e := hu.imp fun b hb' e' => by have := own_lt HR.out.1.1 b e'; omega
      obtain ⟨Wa, hWa⟩ : ∃ Wa, w3.alloc (.cells #[.slice (some ⟨gu, ou, none⟩) 4 cu, .int .i64 y] 57) = Wa := ⟨_, rfl⟩
      obtain ⟨HA, HN, hsa, -, HF⟩ := put_more y HR.out.1 hBr hb3 hok Wa hWa
      clear hok hu hu4 hu5 hu7 hb3 hBr heq HO HU
      go_wp2_with ((try rw [hWa]); at_builtin; refine wpList_append_own_at _ rfl _ _ 26 rfl w.heap.size 57 i0 (.agg #[.slice none 0 0, .int .i64 0]) 2 32 Tryz.underlying26 hi hz0 hz1 hz2 rfl (by decide) u7 q.length (flatV vs) rfl HA.out ⟨w3.heap.size, 0, none⟩ 1 1 [.slice (some ⟨gu, ou, none⟩) 4 cu, .int .i64 y] rfl (by simp) HN.out (two_oneV rfl _) (by unfold maxLen; omega) (by omega) hsa ?_; intro v5 w5 hown5 hg5 _ hat5; obtain ⟨hP5, hB5'⟩ := HF.out v5 w5 hown5 hg5 hat5; rw [heq'] at hP5; obtain ⟨a5, c5, rfl, hPS⟩ := hP5.psl; have HPS : Hid (PSl w5 a5 Q.length Q) := hPS; have HB5 : Hid (Below w.heap.size w w5) := hB5'; clear hown5 hg5 hat5 hP5 hPS hB5' HF HA HN hWa)
      rotate_left
      have heq' : q = Q := by rw [← heq]; simp [putO]
      have hP5 := HR.out.1
      rw [heq'] at hP5
      obtain ⟨a5, c5, rfl, hPS⟩ := hP5.psl
      obtain ⟨w5, hw5⟩ : ∃ w5, w5 = wr := ⟨_, rfl⟩
      subst hw5
      have HPS : Hid (PSl w5 a5 Q.length Q) := hPS
      have HB5 : Hid (Below w.heap.size w w5) := hBr
      clear hP5 hPS hBr heq heq' HR
      have hQm : Q.length ≤ 9223372036854775807 := by omega
      go_wp2_with fail
      simp [go_sem, Builtin.len_]
      go_wp2_with fail
      all_goals
        go_loopw [12, 67] (fun l i wr2 => ∃ (k2 : Nat) (vs2 : List (Value × Int)), k2 ≤ Q.length ∧ i = .int .i64 (k2 : Int) ∧ Hid (PRow wr2 w5.heap.size (fun b => w5.heap.size ≤ b) l vs2 ((Q.take k2).filter fun m => m.2 != 0) ∧ Below w5.heap.size w5 wr2 ∧ FZs wr2 vs2)) (fun _ i _ => Q.length - (intOf i).toNat)
        case atStart => exact ⟨0, [], Nat.zero_le _, rfl, PRow.nil _ _ _, Below.refl _ _, fun x hx => by cases hx⟩
        case round =>
          obtain ⟨k2, vs2, hk2, rfl, HL⟩ := hrel
          by_cases hlt2 : k2 < Q.length
          · have hbr2 := HL.out.2.1
            have HFz : Hid (FZs wr vs2) := HL.out.2.2
            obtain ⟨bb, off, rfl, hbl, hc⟩ := (HPS.out.keep hbr2).at (by omega)
            obtain ⟨ai, li, ci, c1, hli, hci, hS, c2⟩ := hc k2 hlt2
            have hm4 : (Q.getD k2 ([], 0)).1.length = 4 := by
              have : Q.getD k2 ([], 0) = Q[k2] := by rw [List.getD_eq_getElem?_getD, List.getElem?_eq_getElem hlt2]; rfl
              rw [this]; exact HQ4.out _ (List.getElem_mem _)
            have hlen4 : li = 4 := by have := hS.1; omega
            subst hlen4
            obtain ⟨N, hN⟩ : ∃ N, (Q.getD k2 ([], 0)).2 = N := ⟨_, rfl⟩
            obtain ⟨m, hm⟩ : ∃ m, (Q.getD k2 ([], 0)).1 = m := ⟨_, rfl⟩
            rw [hN] at c2
            rw [hm] at hS hm4
            have hft := filter_take Q k2 (m, N) hlt2 (Prod.ext hm hN)
            have HP2 : Hid (PowV wr (fun _ => True) (.slice ai 4 ci) m) := PSl.powV hS (by omega) hci (by omega) _ (fun _ _ => trivial)
            obtain ⟨ba, oa, l4, c4, e4, -⟩ := id HP2.out
            cases e4
            obtain ⟨W1, hW1⟩ : ∃ W1, wr.alloc (.cells #[.slice (some ⟨ba, oa, none⟩) 4 ci, .int .i64 N] 57) = W1 := ⟨_, rfl⟩
            have n0 : W1.cell? ⟨wr.heap.size, 0, none⟩ = some (.slice (some ⟨ba, oa, none⟩) 4 ci) := by rw [← hW1]; simp [go_sem]
            have n1 : W1.cell? ⟨wr.heap.size, 1, none⟩ = some (.int .i64 N) := by rw [← hW1]; simp [go_sem]
            have hb1 : Below wr.heap.size wr W1 := by rw [← hW1]; exact (Below.refl _ _).alloc (Nat.le_refl _) _
            have hsz1 : wr.heap.size < W1.heap.size := by rw [← hW1]; simp
            have hfl : ((Q.take k2).filter fun m => m.2 != 0).length ≤ k2 := Nat.le_trans (List.length_filter_le _ _) (by simp; omega)
            have i2 : (k2 : Int) < Q.length := by omega
            clear hc hS
            by_cases hz : N = 0
            · have H5 : Hid (PRow W1 w5.heap.size (fun b => w5.heap.size ≤ b) u12 vs2 ((Q.take (k2 + 1)).filter fun m => m.2 != 0) ∧ Below w5.heap.size w5 W1 ∧ FZs W1 vs2) := ⟨by rw [hft]; simpa [hz] using HL.out.1.keep hb1, hbr2.trans (hb1.mono hbr2.size), FZs.map HFz.out HL.out.1 (fun b _ hs => hb1.block b hs)⟩
              clear hft hbr2 hb1
              go_wp2_with fail
              rw [hz] at hW1
              rw [hW1]
              go_roundw
              case rel => exact ⟨k2 + 1, _, by omega, by go_num, H5⟩
              case measure => simp [intOf]; omega
            · have HU : Hid (PowV W1 (fun _ => True) (.slice (some ⟨ba, oa, none⟩) 4 ci) m) := HP2.out.keep hb1
              have HD : Hid (Below W1.heap.size W1 W1.drew) := below_drewN (Below.refl _ _) 1
              have HO := (show Hid _ from ownP_fz W1.drew _ _ m (HU.out.keep HD.out) (by omega))
              have hsd := HD.out.size
              have hsw := hbr2.size
              go_wp2_with fail
              (try rw [hW1])
              go_region_law (first
                | (refine step_append rfl _ _ 26 rfl w5.heap.size 57 i0 (.agg #[.slice none 0 0, .int .i64 0]) 2 32 Tryz.underlying26 hi hz0 hz1 hz2 rfl (by decide) u12 _ _ rfl HA.out ⟨w3.heap.size, 0, none⟩ 1 1 [.slice (some ⟨gu, ou, none⟩) 4 cu, .int .i64 N] rfl (by simp) HN.out (two_oneV rfl _) (by unfold maxLen; omega) (by omega) hsa ?_; intro v6 w6 hown6 hg6 hat6)
                | (go_simp; go_at_call 90; refine Calls.mono HO.out ?_; rintro r w3 ⟨u, rfl, hu, hb3', hfz⟩; have hb3 := HD.out.trans (hb3'.mono HD.out.size); obtain ⟨gu, ou, lu, cu, rfl, hu2, hu3, hu4, hu5, hu6, hu7⟩ := id hu; obtain rfl : lu = 4 := by omega
                   have d1 := (hb3.cell (p := ⟨wr.heap.size, 1, none⟩) hsz1).trans n1
                   have hok : PowV w3 (fun b => w5.heap.size ≤ b ∧ u12.ownBlock ≠ some b) (.slice (some ⟨gu, ou, none⟩) 4 cu) m := hu.imp fun b hb' => ⟨by omega, fun e' => by have := own_lt HL.out.1.1 b e'; omega⟩
                   obtain ⟨HA, HN, hsa, HF⟩ := put_more' N HL.out.1 hbr2 (hb1.trans (hb3.mono hb1.size)) hok _ rfl
                   have HF6 : Hid (∀ w6, (w3.alloc (.cells #[.slice (some ⟨gu, ou, none⟩) 4 cu, .int .i64 N] 57)).grownBy w6 u12.ownBlock → FZs w6 (vs2 ++ [(.slice (some ⟨gu, ou, none⟩) 4 cu, N)])) := fun w6 g6 x hx => by
                     rcases List.mem_append.1 hx with hx | hx
                     · refine FZs.map HFz.out HL.out.1 (fun b hb hs => ?_) x hx
                       have e1 := (hb1.trans (hb3.mono hb1.size)).block b hs
                       have hs3 := Nat.lt_of_lt_of_le hs (hb1.trans (hb3.mono hb1.size)).size
                       have e2 := ((Below.refl w3.heap.size w3).alloc (Nat.le_refl _) (.cells #[.slice (some ⟨gu, ou, none⟩) 4 cu, .int .i64 N] 57)).block b hs3
                       exact (g6.block b (by simp; omega) (fun e' => hb e'.symm)).trans (e2.trans e1)
                     · rw [List.mem_singleton.1 hx]
                       refine FZ1.map (ok' := fun _ => True) hfz hok (fun b hb hs => ?_)
                       have e2 := ((Below.refl w3.heap.size w3).alloc (Nat.le_refl _) (.cells #[.slice (some ⟨gu, ou, none⟩) 4 cu, .int .i64 N] 57)).block b hs
                       exact (g6.block b (by simp; omega) (fun e' => hb.2 e'.symm)).trans e2
                   clear hok hu hu7 hfz))
              all_goals
                obtain ⟨hP6, hB6⟩ := HF.out v6 w6 hown6 hg6 hat6
                have H6 : Hid (PRow w6 w5.heap.size (fun b => w5.heap.size ≤ b) v6 (vs2 ++ [(.slice (some ⟨gu, ou, none⟩) 4 cu, N)]) ((Q.take (k2 + 1)).filter fun m => m.2 != 0) ∧ Below w5.heap.size w5 w6 ∧ FZs w6 (vs2 ++ [(.slice (some ⟨gu, ou, none⟩) 4 cu, N)])) := ⟨by rw [hft, if_neg hz]; exact hP6, hB6, HF6.out w6 hg6⟩
                clear hP6 hB6 hown6 hg6 hat6
                go_wp2
                go_roundw
                case rel => exact ⟨k2 + 1, _, by omega, by go_num, H6⟩
                case measure => simp [intOf]; omega
          · obtain rfl : k2 = Q.length := by omega
            have hB5 := HB5.out
            have HZ : Hid (PRow wr w.heap.size (fun b => w.heap.size ≤ b) u12 vs2 (putP p e n) ∧ Below w.heap.size w wr ∧ FZs wr vs2) := ⟨by
              rw [hPP]
              have := HL.out.1
              rw [List.take_length] at this
              exact this.base hB5.size (fun b hb => Nat.le_trans hB5.size hb), hB5.trans (HL.out.2.1.mono hB5.size), HL.out.2.2⟩
            obtain ⟨a6, c6, rfl, -⟩ := HZ.out.1.psl
            clear hB5
            go_wp2
            go_ret
            exact ⟨_, vs2, rfl, HZ.out⟩
theorem put_any4 (w : World) (a : Option Addr) (len cap : Nat) (p : List Mon) (h : PSl w a len p) (hlen : len ≤ 100000) (hp4 : ∀ x ∈ p, x.1.length = 4) (e : List Int) (he : e.length = 4) (vp : Value) (hv : PowV w (fun _ => True) vp e) (n : Int) :
    Calls Tryz.prog 62 #[.slice a len cap, vp, .int .i64 n] w fun r w' => ∃ v vs, r = .returned v ∧ PRow w' w.heap.size (fun b => w.heap.size ≤ b) v vs (putP p e n) ∧ Below w.heap.size w w' :=
  (put_fz w a len cap p h hlen hp4 e he vp hv n).mono fun r w' ⟨v, vs, h1, h2, h3, _⟩ => ⟨v, vs, h1, h2, h3⟩
end Go.Proofs.YtpjgjpjfchfmlaaGreatDoor
namespace Go.Proofs.YtpjgjpjfchfmlaaGreatDoor
open Go.RowKit
set_option linter.unusedVariables false

theorem putP_le (o : List Mon) (e : List Int) (n : Int) : (putP o e n).length ≤ o.length + 1 := by
  unfold putP
  have h1 := putO_le (e := e) o false n
  have h2 := List.length_filter_le (fun m : Mon => m.2 != 0) (putO e o false n)
  simp only [Bool.false_eq_true, if_false] at h1
  omega
/-- Adding all products of a list. -/
def addF : List Mon → List Mon → List Mon
  | o, [] => o
  | o, m :: r => addF (putP o m.1 m.2) r
def addP (p q : List Mon) : List Mon := addF (addF [] p) q
/-- Powers added. -/
def addE : List Int → List Int → List Int
  | a :: r, b :: s => (a + b) :: addE r s
  | _, _ => []
theorem addE_len : ∀ {a b : List Int}, a.length = b.length → (addE a b).length = a.length
  | [], [], _ => rfl
  | [], _ :: _, h => by simp at h
  | _ :: _, [], h => by simp at h
  | a :: r, b :: s, h => by simp only [addE, List.length_cons]; rw [addE_len (by simpa using h)]
/-- A product times each of a list. -/
def mulL (a : Mon) (q : List Mon) : List Mon := q.map fun b => (addE a.1 b.1, wrap64 (a.2 * b.2))
def mulF : List Mon → List Mon → List Mon → List Mon
  | o, [], _ => o
  | o, a :: r, q => mulF (addF o (mulL a q)) r q
def mulP (p q : List Mon) : List Mon := mulF [] p q
/-- A falling sum of products that are fine. -/
def Sum4 (p : List Mon) : Prop := Falls p ∧ Fine 4 p
theorem addF_ok : ∀ {q o : List Mon}, Sum4 o → (∀ m ∈ q, m.1.length = 4 ∧ InI m.2) → Sum4 (addF o q) ∧ (addF o q).length ≤ o.length + q.length ∧ ∀ e, Like (coef (addF o q) e) (coef o e + coef q e)
  | [], o, h, _ => ⟨h, by simp [addF], fun e => by rw [coef_nil, Int.add_zero]; exact Like.refl _⟩
  | m :: r, o, h, hq => by
    obtain ⟨h1, h2⟩ := h
    obtain ⟨m1, m2⟩ := hq m (List.mem_cons_self ..)
    obtain ⟨f1, f2, f3⟩ := putP_ok m1 m2 h1 (fun x hx => ⟨(h2 x hx).1, (h2 x hx).2.1⟩)
    obtain ⟨g1, g2, g3⟩ := addF_ok (q := r) (o := putP o m.1 m.2) ⟨f1, f2⟩ (fun x hx => hq x (List.mem_cons_of_mem _ hx))
    refine ⟨g1, ?_, fun e => ?_⟩
    · have : (putP o m.1 m.2).length ≤ o.length + 1 := putP_le o m.1 m.2
      show (addF (putP o m.1 m.2) r).length ≤ _
      simp only [List.length_cons]
      omega
    · show Like (coef (addF (putP o m.1 m.2) r) e) _
      refine (g3 e).trans ?_
      rw [coef_cons]
      have := f3 e
      unfold Like at *
      omega
theorem sum4_nil : Sum4 [] := ⟨List.Pairwise.nil, fun x hx => by cases hx⟩
/-- What a product of sums has at some powers. -/
def mulC (p q : List Mon) (e : List Int) : Int := (p.map fun a => coef (mulL a q) e).sum
theorem mulC_cons (a : Mon) (r q : List Mon) (e : List Int) : mulC (a :: r) q e = coef (mulL a q) e + mulC r q e := by simp [mulC]
theorem mulF_ok {q : List Mon} (hq : ∀ m ∈ q, m.1.length = 4) : ∀ {p o : List Mon}, Sum4 o → (∀ m ∈ p, m.1.length = 4) → Sum4 (mulF o p q) ∧ (mulF o p q).length ≤ o.length + p.length * q.length ∧ ∀ e, Like (coef (mulF o p q) e) (coef o e + mulC p q e)
  | [], o, h, _ => ⟨h, by simp [mulF], fun e => by show Like (coef o e) (coef o e + 0); rw [Int.add_zero]; exact Like.refl _⟩
  | a :: r, o, h, hp => by
    have ha := hp a (List.mem_cons_self ..)
    obtain ⟨f1, f2, f3⟩ := addF_ok (q := mulL a q) h (fun m hm => by
      obtain ⟨b, hb, rfl⟩ := List.mem_map.1 hm
      exact ⟨by show (addE a.1 b.1).length = 4; rw [addE_len (by rw [ha, hq b hb]), ha], wrap_in _⟩)
    obtain ⟨g1, g2, g3⟩ := mulF_ok hq (p := r) f1 (fun x hx => hp x (List.mem_cons_of_mem _ hx))
    refine ⟨g1, ?_, fun e => ?_⟩
    · show (mulF (addF o (mulL a q)) r q).length ≤ _
      have : (mulL a q).length = q.length := by simp [mulL]
      simp only [List.length_cons, Nat.succ_mul]
      omega
    · show Like (coef (mulF (addF o (mulL a q)) r q) e) _
      rw [mulC_cons]
      refine (g3 e).trans ?_
      have := f3 e
      unfold Like at *
      omega
theorem addP_ok {p q : List Mon} (hp : ∀ m ∈ p, m.1.length = 4 ∧ InI m.2) (hq : ∀ m ∈ q, m.1.length = 4 ∧ InI m.2) : Sum4 (addP p q) ∧ (addP p q).length ≤ p.length + q.length ∧ ∀ e, Like (coef (addP p q) e) (coef p e + coef q e) := by
  obtain ⟨a1, a2, a3⟩ := addF_ok (q := p) sum4_nil hp
  obtain ⟨b1, b2, b3⟩ := addF_ok (q := q) a1 hq
  refine ⟨b1, ?_, fun e => ?_⟩
  · show (addF (addF [] p) q).length ≤ _
    simp only [List.length_nil] at a2
    omega
  · show Like (coef (addF (addF [] p) q) e) _
    refine (b3 e).trans ?_
    have := a3 e
    rw [coef_nil] at this
    unfold Like at *
    omega
theorem mulP_ok {p q : List Mon} (hp : ∀ m ∈ p, m.1.length = 4) (hq : ∀ m ∈ q, m.1.length = 4) : Sum4 (mulP p q) ∧ (mulP p q).length ≤ p.length * q.length ∧ ∀ e, Like (coef (mulP p q) e) (mulC p q e) := by
  obtain ⟨a1, a2, a3⟩ := mulF_ok hq (p := p) sum4_nil hp
  refine ⟨a1, by simp only [List.length_nil, Nat.zero_add] at a2; exact a2, fun e => ?_⟩
  have := a3 e
  rw [coef_nil, Int.zero_add] at this
  exact this
theorem sum_unique {p q : List Mon} (hp : Sum4 p) (hq : Sum4 q) (h : ∀ e, Like (coef p e) (coef q e)) : p = q := poly_unique p q hp.1 hq.1 hp.2 hq.2 h
end Go.Proofs.YtpjgjpjfchfmlaaGreatDoor
