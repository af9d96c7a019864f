/-
  PROVED HERE: which tree the program makes of a good list of nodes, in a world whose table of arities is laid. No other condition. what an op makes of its arguments, as plain functions. No condition. what the program's DoOp answers, op by op; in a world whose table of arities is laid. No other condition. what the program's DoOp answers at every op and every list of numbers; in a world whose table of arities is laid. No other condition.
-/
import Derived.Test.YtkadanagmahhgaaGreatDoorRun2
import Derived.Test.YtkadanagmahhgaaGreatDoorRun4
import Derived.Test.YtkadanagmahhgaaGreatDoorRun8
import Derived.Lib.SliceRun
import Derived.Maps.AppendAt
import Derived.Test.YtkadanagmahhgaaGreatDoorRun7
import Derived.Test.YtkadanagmahhgaaGreatDoorRun27
import Derived.Test.YtkadanagmahhgaaGreatDoorRun1
namespace Go.Proofs.YtkadanagmahhgaaGreatDoor
open Go.ChangeShapes Go.WideShapes Go.ChangeAt Go.RowKit
set_option linter.unusedVariables false

theorem roots_split (l : List (Int × Int)) (n : Nat) : ∀ (m x : Nat), roots l (m + n) x = roots l n (back l m x) ++ roots l m x
  | 0, x => by rw [Nat.zero_add]; simp [roots, back, iter]
  | m + 1, x => by
    rw [show m + 1 + n = (m + n) + 1 from by omega, back_succ]
    show roots l (m + n) (start l (x - 1)) ++ [x - 1] = roots l n _ ++ (roots l m (start l (x - 1)) ++ [x - 1])
    rw [roots_split l n m, List.append_assoc]

/-- v is the tree of node k (with so much fuel) in the world w; its lists lie in blocks that are ok. -/
def IsTree (w : World) (ok : Nat → Prop) (l : List (Int × Int)) : Nat → Nat → Value → Prop
  | 0, _, _ => False
  | f + 1, k, v =>
    ((l.getD k (0, 0)).1 = 1 ∧ v = .iface 108 (.agg #[.int .i64 (l.getD k (0, 0)).2])) ∨
    ((l.getD k (0, 0)).1 = 2 ∧ v = .iface 110 (.agg #[.int .i64 (l.getD k (0, 0)).2])) ∨
    ((l.getD k (0, 0)).1 = 11 ∧ ∃ v0 v1 v2, v = .iface 112 (.agg #[v0, v1, v2]) ∧ IsTree w ok l f ((roots l 3 k).getD 0 0) v0 ∧ IsTree w ok l f ((roots l 3 k).getD 1 0) v1 ∧ IsTree w ok l f ((roots l 3 k).getD 2 0) v2) ∨
    (3 ≤ (l.getD k (0, 0)).1 ∧ (l.getD k (0, 0)).1 ≤ 10 ∧ ∃ g cap, ∃ vs : Nat → Value, v = .iface 115 (.agg #[.int .i64 (l.getD k (0, 0)).1, .slice (some ⟨g, 0, none⟩) (ar (l.getD k (0, 0)).1).toNat cap]) ∧ ok g ∧ g < w.heap.size ∧
      ∀ i, i < (ar (l.getD k (0, 0)).1).toNat → w.cell? ⟨g, i, none⟩ = some (vs i) ∧ IsTree w ok l f ((roots l (ar (l.getD k (0, 0)).1).toNat k).getD i 0) (vs i))

theorem IsTree.map {w w' : World} {ok ok' : Nat → Prop} {l : List (Int × Int)} (hs : w.heap.size ≤ w'.heap.size) (hk : ∀ g, ok g → g < w.heap.size → ok' g ∧ w'.heap[g]? = w.heap[g]?) : ∀ (f f' k : Nat) (v : Value), f ≤ f' → IsTree w ok l f k v → IsTree w' ok' l f' k v
  | 0, _, _, _, _, h => h.elim
  | f + 1, f', k, v, hf, h => by
    obtain ⟨f', rfl⟩ : ∃ x, f' = x + 1 := ⟨f' - 1, by omega⟩
    have ih : ∀ k v, IsTree w ok l f k v → IsTree w' ok' l f' k v := fun k v h => IsTree.map hs hk f f' k v (by omega) h
    rcases h with h | h | ⟨h0, v0, v1, v2, h1, h2, h3, h4⟩ | ⟨h0, h1, g, cap, vs, h2, h3, h4, h5⟩
    · exact .inl h
    · exact .inr (.inl h)
    · exact .inr (.inr (.inl ⟨h0, v0, v1, v2, h1, ih _ _ h2, ih _ _ h3, ih _ _ h4⟩))
    · obtain ⟨k1, k2⟩ := hk g h3 h4
      refine .inr (.inr (.inr ⟨h0, h1, g, cap, vs, h2, k1, Nat.lt_of_lt_of_le h4 hs, fun i hi => ?_⟩))
      obtain ⟨a1, a2⟩ := h5 i hi
      exact ⟨(World.cell?_of_block (a := ⟨g, i, none⟩) k2).trans a1, ih _ _ a2⟩
theorem IsTree.keep {w w' : World} {ok : Nat → Prop} {l : List (Int × Int)} {f k : Nat} {v : Value} (h : IsTree w ok l f k v) (hb : Below w.heap.size w w') : IsTree w' ok l f k v :=
  IsTree.map hb.size (fun g h1 h2 => ⟨h1, hb.block g h2⟩) f f k v (Nat.le_refl _) h
theorem IsTree.one {w : World} {ok : Nat → Prop} {l : List (Int × Int)} {f k : Nat} {v : Value} (h : IsTree w ok l f k v) : v.oneCell' = true := by
  cases f with
  | zero => exact h.elim
  | succ f => rcases h with ⟨_, rfl⟩ | ⟨_, rfl⟩ | ⟨_, v0, v1, v2, rfl, _⟩ | ⟨_, _, g, cap, vs, rfl, _⟩ <;> rfl

theorem IsTree.form {w : World} {ok : Nat → Prop} {l : List (Int × Int)} {f k : Nat} {v : Value} (h : IsTree w ok l f k v) : ∃ t x, v = .iface t x := by
  cases f with
  | zero => exact h.elim
  | succ f => rcases h with ⟨_, rfl⟩ | ⟨_, rfl⟩ | ⟨_, v0, v1, v2, rfl, _⟩ | ⟨_, _, g, cap, vs, rfl, _⟩ <;> exact ⟨_, _, rfl⟩
theorem treeNum (n : Int) (v : Value) (w : World) : Calls Tryz.prog 85 #[.agg #[.int .i64 1, .int .i64 n], v] w fun e w' => e = .returned (.iface 108 (.agg #[.int .i64 n])) ∧ Below w.heap.size w w' := by
  go_enter Tryz.func85, Tryz.ntmps85
  go_wp2
  go_ret
  exact ⟨rfl, by first | exact Below.refl _ _ | go_grown⟩
theorem treeVar (n : Int) (v : Value) (w : World) (h0 : 0 ≤ n) (h4 : n < 4) : Calls Tryz.prog 85 #[.agg #[.int .i64 2, .int .i64 n], v] w fun e w' => e = .returned (.iface 110 (.agg #[.int .i64 n])) ∧ Below w.heap.size w w' := by
  go_enter Tryz.func85, Tryz.ntmps85
  go_wp2
  go_ret
  exact ⟨rfl, by first | exact Below.refl _ _ | go_grown⟩
theorem treeIf (n : Int) (g cap : Nat) (t0 t1 t2 : TypeId) (v0 v1 v2 : Value) (w : World) (c0 : w.cell? ⟨g, 0, none⟩ = some (.iface t0 v0)) (c1 : w.cell? ⟨g, 1, none⟩ = some (.iface t1 v1)) (c2 : w.cell? ⟨g, 2, none⟩ = some (.iface t2 v2)) : Calls Tryz.prog 85 #[.agg #[.int .i64 11, .int .i64 n], .slice (some ⟨g, 0, none⟩) 3 cap] w fun e w' => e = .returned (.iface 112 (.agg #[.iface t0 v0, .iface t1 v1, .iface t2 v2])) ∧ Below w.heap.size w w' := by
  have d0 := Lib.cell?_alloc_some (.cells #[.int .i64 11, .int .i64 n] 66) c0
  have d1 := Lib.cell?_alloc_some (.cells #[.int .i64 11, .int .i64 n] 66) c1
  have d2 := Lib.cell?_alloc_some (.cells #[.int .i64 11, .int .i64 n] 66) c2
  have hb : Below w.heap.size w (w.alloc (.cells #[.int .i64 11, .int .i64 n] 66)) := (Below.refl _ _).alloc (Nat.le_refl _) _
  clear c0 c1 c2
  go_enter Tryz.func85, Tryz.ntmps85
  go_wp2
  generalize w.alloc (.cells #[.int .i64 11, .int .i64 n] 66) = W1 at d0 d1 d2 hb ⊢
  go_quiet (fail)
  all_goals (try go_wp2)
  all_goals go_ret
  exact ⟨rfl, below_drawn hb _⟩
theorem treeOp (op n : Int) (a : Option Addr) (m c : Nat) (w : World) (h0 : 3 ≤ op) (h1 : op ≤ 10) : Calls Tryz.prog 85 #[.agg #[.int .i64 op, .int .i64 n], .slice a m c] w fun e w' => e = .returned (.iface 115 (.agg #[.int .i64 op, .slice a m c])) ∧ Below w.heap.size w w' := by
  have i1 : (op == 1) = false := by simp; omega
  have i2 : (op == 2) = false := by simp; omega
  have i3 : (op == 11) = false := by simp; omega
  go_enter Tryz.func85, Tryz.ntmps85
  go_wp2
  go_ret
  exact ⟨rfl, by first | exact Below.refl _ _ | go_grown⟩

theorem infoTree : (Tryz.prog.info? 74).map (fun i => (i.zero, i.size, i.bytes)) = some (some .nilIface, 1, 16) := by kernel_rfl
theorem empty_trees (w : World) : (w.alloc (.cells #[] 74)).ownsRow w.heap.size 74 1 (.slice (some ⟨w.heap.size, 0, none⟩) 0 0) 0 [] :=
  World.ownsRow_lit w #[] 0 (Nat.le_refl _) (by unfold maxLen; omega) rfl

set_option maxRecDepth 20000 in
theorem cloneT_nil (w : World) : Calls Tryz.prog 86 #[.slice none 0 0] w fun e w' => e = .returned (.slice none 0 0) ∧ w' = w := by
  have q : ∀ (w : World) (a : Option Addr) (n c n' c' : Nat), (binOp .eql 113 (.slice a n c) (.slice none n' c')).run Tryz.prog w = .ok (.bool a.isNone) w := fun w a n c n' c' => Lib.run_eql_slice_nil w _ _ a n c n' c' Tryz.underlying113
  go_enter Tryz.func86, Tryz.ntmps86
  go_wp2
  go_ret
  exact ⟨rfl, rfl⟩
set_option maxRecDepth 20000 in
theorem cloneT_any (a : Addr) (len cap : Nat) (vs : List Value) (w : World) (hl : vs.length = len) (h : ∀ j u, vs[j]? = some u → w.cell? (a.add j) = some u) (h1 : ∀ u ∈ vs, u.oneCell' = true) (hn : len ≤ 1048576) :
    Calls Tryz.prog 86 #[.slice (some a) len cap] w fun e w' => ∃ v : Value, e = .returned v ∧ w'.ownsRow w.heap.size 74 1 v len vs ∧ Below w.heap.size w w' := by
  obtain ⟨i0, hi, hz0, hz1, hz2⟩ := info_parts infoTree
  have hb0 : Below w.heap.size w (w.alloc (.cells #[] 74)) := (Below.refl _ _).alloc (Nat.le_refl _) _
  have hc : ∀ j u, vs[j]? = some u → (w.alloc (.cells #[] 74)).cell? (a.add j) = some u := fun j u hj => Lib.cell?_alloc_some _ (h j u hj)
  have q : ∀ (w : World) (a : Option Addr) (n c n' c' : Nat), (binOp .eql 113 (.slice a n c) (.slice none n' c')).run Tryz.prog w = .ok (.bool a.isNone) w := fun w a n c n' c' => Lib.run_eql_slice_nil w _ _ a n c n' c' Tryz.underlying113
  have HC : Hid (∀ j u, vs[j]? = some u → (w.alloc (.cells #[] 74)).cell? (a.add j) = some u) := hc
  have H1 : Hid (∀ u ∈ vs, u.oneCell' = true) := h1
  clear hc h h1
  go_enter Tryz.func86, Tryz.ntmps86
  go_wp2_with (at_builtin; refine wpList_append_own _ rfl _ _ 113 rfl w.heap.size 74 i0 .nilIface 1 16 Tryz.underlying113 hi hz0 hz1 hz2 rfl (by decide) _ _ _ rfl (empty_trees w) a len cap vs rfl (by omega) HC.out H1.out (by unfold maxLen; omega) (by omega) (by simp) ?_; intro v' w4 hown4 hg4 _)
  go_ret
  exact ⟨_, rfl, by rw [Nat.zero_add] at hown4; exact hown4, hb0.grown hg4 (by simp) (fun r hr => by cases hr; exact Nat.le_refl _)⟩

theorem above_any {l : List (Int × Int)} {q : Int} (h : pile l 0 = some q) (k : Nat) (hk : k < l.length) (ok : Nat → Prop) (vf : Value) (vs : List Value) (W : World) (B : Nat) (hown : W.ownsRow B 74 1 vf (ar (l.getD k (0, 0)).1).toNat vs) (hok : ∀ g, B ≤ g → ok g)
    (ht : ∀ i, i < (ar (l.getD k (0, 0)).1).toNat → IsTree W ok l k ((roots l (ar (l.getD k (0, 0)).1).toNat k).getD i 0) (vs.getD i .nilIface)) :
    Calls Tryz.prog 85 #[.agg #[.int .i64 (l.getD k (0, 0)).1, .int .i64 (l.getD k (0, 0)).2], vf] W fun e w' => ∃ v, e = .returned v ∧ IsTree w' ok l (k + 1) k v ∧ Below W.heap.size W w' := by
  obtain ⟨h1, _⟩ := cnt_step h k hk
  obtain ⟨a1, a2, a3, a4⟩ := fits_iff _ _ _ _ h1
  obtain ⟨⟨op, n⟩, hx⟩ : ∃ p, l.getD k (0, 0) = p := ⟨_, rfl⟩
  have hop : (l.getD k (0, 0)).1 = op := by rw [hx]
  have hnn : (l.getD k (0, 0)).2 = n := by rw [hx]
  rw [hop] at hown ht a1 a3
  rw [hnn] at a3
  rw [hop, hnn]
  have hv : ∀ (w' : World) i, i < (ar op).toNat → Below W.heap.size W w' → w'.cell? ⟨(vf.ownBlock).getD 0, i, none⟩ = some (vs.getD i .nilIface) := by
    intro w' i hi hb
    have hl : vs.length = (ar op).toNat := by have := hown.1; omega
    rcases hown.2 with ⟨_, h0⟩ | ⟨g, cap, cur, rfl, hbg, hg, _⟩
    · omega
    · refine (hb.cell (p := ⟨g, i, none⟩) (Array.getElem?_eq_some_iff.1 hg).1).trans ?_
      rw [hown.cellAt i (by omega), List.getElem?_eq_getElem (by omega), List.getD_eq_getElem?_getD, List.getElem?_eq_getElem (by omega)]; rfl
  rcases ops op with h' | rfl | rfl | h'
  · have := ar_out op h'; omega
  · refine (treeNum n vf W).mono ?_
    rintro e w' ⟨rfl, hb⟩
    exact ⟨_, rfl, .inl ⟨hop, by rw [hnn]⟩, hb⟩
  · obtain ⟨n0, n4⟩ := a3 rfl
    refine (treeVar n vf W n0 n4).mono ?_
    rintro e w' ⟨rfl, hb⟩
    exact ⟨_, rfl, .inr (.inl ⟨hop, by rw [hnn]⟩), hb⟩
  · by_cases h11 : op = 11
    · subst h11
      rw [show (ar 11).toNat = 3 from rfl] at hown ht hv
      rcases hown.2 with ⟨_, h0⟩ | ⟨g, cap, cur, rfl, hbg, hg, _⟩
      · omega
      · have t0 := ht 0 (by omega)
        have t1 := ht 1 (by omega)
        have t2 := ht 2 (by omega)
        have c0 := hv W 0 (by omega) (Below.refl _ _)
        have c1 := hv W 1 (by omega) (Below.refl _ _)
        have c2 := hv W 2 (by omega) (Below.refl _ _)
        obtain ⟨x0, y0, e0⟩ := t0.form
        obtain ⟨x1, y1, e1⟩ := t1.form
        obtain ⟨x2, y2, e2⟩ := t2.form
        rw [e0] at t0 c0
        rw [e1] at t1 c1
        rw [e2] at t2 c2
        refine (treeIf n g cap x0 x1 x2 y0 y1 y2 W c0 c1 c2).mono ?_
        rintro e w' ⟨rfl, hb⟩
        exact ⟨_, rfl, .inr (.inr (.inl ⟨hop, _, _, _, rfl, t0.keep hb, t1.keep hb, t2.keep hb⟩)), hb⟩
    · have hm : 0 < (ar op).toNat := by rcases h' with rfl | rfl | rfl | rfl | rfl | rfl | rfl | rfl | rfl <;> decide
      rcases hown.2 with ⟨_, h0⟩ | ⟨g, cap, cur, rfl, hbg, hg, _⟩
      · omega
      · refine (treeOp op n _ _ _ W (by omega) (by omega)).mono ?_
        rintro e w' ⟨rfl, hb⟩
        refine ⟨_, rfl, .inr (.inr (.inr ⟨by omega, by omega, g, cap, fun i => vs.getD i .nilIface, by rw [hop], hok g hbg, Nat.lt_of_lt_of_le (Array.getElem?_eq_some_iff.1 hg).1 hb.size, ?_⟩)), hb⟩
        rw [hop]
        exact fun i hi => ⟨hv w' i hi hb, (ht i hi).keep hb⟩

theorem own_take {w : World} {base e g n n' cap : Nat} {xs : List Value} (h : w.ownsRow base e 1 (.slice (some ⟨g, 0, none⟩) n cap) n xs) (hn : n' ≤ n) : w.ownsRow base e 1 (.slice (some ⟨g, 0, none⟩) n' cap) n' (xs.take n') := by
  refine ⟨by have := h.1; rw [List.length_take]; omega, ?_⟩
  rcases h.2 with ⟨h', _⟩ | ⟨g', cap', cur, h', hb, hg, hc, hm, hs, ht⟩
  · simp at h'
  · simp only [Value.slice.injEq, Option.some.injEq, Addr.mk.injEq, and_true, true_and] at h'
    obtain ⟨rfl, rfl⟩ := h'
    refine .inr ⟨g, cap, cur, rfl, hb, hg, by omega, hm, hs, ?_⟩
    rw [← ht, List.take_take, Nat.mul_one, Nat.mul_one, Nat.min_eq_left hn]

/-- What the pile holds behind k nodes. -/
def Piled (w : World) (base : Nat) (l : List (Int × Int)) (k : Nat) (p : Value) (n : Nat) (vs : List Value) : Prop :=
  cnt l k = n ∧ w.ownsRow base 74 1 p n vs ∧ ∀ i, i < n → IsTree w (fun g => base ≤ g ∧ p.ownBlock ≠ some g) l k ((roots l n k).getD i 0) (vs.getD i .nilIface)

theorem piled_step {l : List (Int × Int)} {q : Int} (h : pile l 0 = some q) {k : Nat} (hk : k < l.length) {wr w3 w4 w5 : World} {base n L m : Nat} {p v v' : Value} {vs : List Value}
    (hP : Piled wr base l k p n vs) (hm : ar (l.getD k (0, 0)).1 = m) (hn : n = L + m) (hb3 : Below wr.heap.size wr w3) (ht : IsTree w3 (fun g => base ≤ g ∧ p.ownBlock ≠ some g) l (k + 1) k v)
    (hb4 : Below w3.heap.size w3 w4) (hg : w4.grownBy w5 p.ownBlock) (hown : w5.ownsRow base 74 1 v' (L + 1) (vs.take L ++ [v])) (hat : v'.ownBlock = p.ownBlock ∨ v'.ownBlock = some w4.heap.size) :
    Piled w5 base l (k + 1) v' (L + 1) (vs.take L ++ [v]) := by
  obtain ⟨p1, p2, p3⟩ := hP
  obtain ⟨s1, s2⟩ := cnt_step h k hk
  refine ⟨by omega, hown, fun i hi => ?_⟩
  have hst : start l k = back l m k := by rw [start_eq h k hk, hm, Int.toNat_natCast]
  have hvl : vs.length = n := by have := p2.1; omega
  have hr : roots l (L + 1) (k + 1) = roots l L (start l k) ++ [k] := rfl
  have hro : roots l n k = roots l L (start l k) ++ roots l m k := by rw [hn, Nat.add_comm, roots_split, hst]
  have key : ∀ (W : World) (f j : Nat) (u : Value), Below W.heap.size W w3 → f ≤ k + 1 → IsTree W (fun g => base ≤ g ∧ p.ownBlock ≠ some g) l f j u → IsTree w5 (fun g => base ≤ g ∧ v'.ownBlock ≠ some g) l (k + 1) j u := by
    intro W f j u hb hf hT
    have hbb := hb.trans (hb4.mono hb.size)
    refine IsTree.map (Nat.le_trans hbb.size hg.size) (fun g hok hlt => ?_) f (k + 1) j u hf hT
    have hA : v'.ownBlock ≠ some g := by
      rcases hat with e | e
      · rw [e]; exact hok.2
      · rw [e]; intro e'; have := hbb.size; injection e' with e'; omega
    have hB := (hg.block g (Nat.lt_of_lt_of_le hlt hbb.size) (fun e => hok.2 e.symm)).trans (hbb.block g hlt)
    exact ⟨⟨hok.1, hA⟩, hB⟩
  rw [hr]
  by_cases hL : i < L
  · have t := p3 i (by omega)
    rw [hro] at t
    have e1 : (roots l L (start l k) ++ roots l m k).getD i 0 = (roots l L (start l k) ++ [k]).getD i 0 := by
      rw [List.getD_eq_getElem?_getD, List.getD_eq_getElem?_getD, List.getElem?_append_left (by rw [roots_len]; exact hL), List.getElem?_append_left (by rw [roots_len]; exact hL)]
    have e2 : (vs.take L ++ [v]).getD i .nilIface = vs.getD i .nilIface := by
      rw [List.getD_eq_getElem?_getD, List.getD_eq_getElem?_getD, List.getElem?_append_left (by rw [List.length_take]; omega), List.getElem?_take, if_pos hL]
    rw [e1] at t
    rw [e2]
    exact key wr k _ _ hb3 (by omega) t
  · obtain rfl : i = L := by omega
    have e1 : (roots l i (start l k) ++ [k]).getD i 0 = k := by
      rw [List.getD_eq_getElem?_getD, List.getElem?_append_right (by rw [roots_len]; exact Nat.le_refl _), roots_len, Nat.sub_self]; rfl
    have e2 : (vs.take i ++ [v]).getD i .nilIface = v := by
      rw [List.getD_eq_getElem?_getD, List.getElem?_append_right (by rw [List.length_take]; omega), List.length_take, Nat.min_eq_left (by omega), Nat.sub_self]; rfl
    rw [e1, e2]
    exact key w3 (k + 1) k v (Below.refl _ _) (Nat.le_refl _) ht
/-- The parts that are handed on are the trees of the parts. -/
theorem piled_parts {l : List (Int × Int)} {q : Int} (h : pile l 0 = some q) {k : Nat} (hk : k < l.length) {wr W : World} {base n L m : Nat} {p : Value} {vs : List Value}
    (hP : Piled wr base l k p n vs) (hm : ar (l.getD k (0, 0)).1 = m) (hn : n = L + m) (hb : Below wr.heap.size wr W) :
    ∀ i, i < m → IsTree W (fun g => base ≤ g ∧ p.ownBlock ≠ some g) l k ((roots l m k).getD i 0) ((vs.drop L).getD i .nilIface) := by
  intro i hi
  obtain ⟨p1, p2, p3⟩ := hP
  have t := p3 (L + i) (by omega)
  have hst : start l k = back l m k := by rw [start_eq h k hk, hm, Int.toNat_natCast]
  have hro : roots l n k = roots l L (start l k) ++ roots l m k := by rw [hn, Nat.add_comm, roots_split, hst]
  rw [hro] at t
  have e1 : (roots l L (start l k) ++ roots l m k).getD (L + i) 0 = (roots l m k).getD i 0 := by
    rw [List.getD_eq_getElem?_getD, List.getElem?_append_right (by rw [roots_len]; omega), roots_len, Nat.add_sub_cancel_left, List.getD_eq_getElem?_getD]
  have e2 : (vs.drop L).getD i .nilIface = vs.getD (L + i) .nilIface := by
    rw [List.getD_eq_getElem?_getD, List.getD_eq_getElem?_getD, List.getElem?_drop]
  rw [e1] at t
  rw [e2]
  exact t.keep hb
theorem Piled.ones {w : World} {base k n : Nat} {l : List (Int × Int)} {p : Value} {vs : List Value} (h : Piled w base l k p n vs) : ∀ u ∈ vs, u.oneCell' = true := by
  intro u hu
  obtain ⟨i, hi, rfl⟩ := List.getElem_of_mem hu
  have hl : vs.length = n := by have := h.2.1.1; omega
  have t := (h.2.2 i (by omega)).one
  rwa [List.getD_eq_getElem?_getD, List.getElem?_eq_getElem hi] at t
theorem one_new (w : World) (u : Value) (t : TypeId) : ∀ j x, [u][j]? = some x → (w.alloc (.cells #[u] t)).cell? ((⟨w.heap.size, 0, none⟩ : Addr).add j) = some x := cell_one_new w u t

/-- One round of the loop: what the statement asks of its calls. -/
theorem clone_step {l : List (Int × Int)} {q : Int} {k n L m : Nat} {wr W : World} {base g cp : Nat} {vs : List Value} (hP : Piled wr base l k (.slice (some ⟨g, 0, none⟩) n cp) n vs) (hn : n = L + m) (h40 : n ≤ 40) (hb : Below wr.heap.size wr W) :
    Calls Tryz.prog 86 #[.slice (if cp = L then some ⟨g, 0, none⟩ else some ⟨g, L, none⟩) (n - L) (cp - L)] W fun e w' => ∃ v : Value, e = .returned v ∧ w'.ownsRow W.heap.size 74 1 v m (vs.drop L) ∧ Below W.heap.size W w' := by
  have hl : vs.length = n := by have := hP.2.1.1; omega
  have ones := hP.ones
  have hcp : n ≤ cp := by
    rcases hP.2.1.2 with ⟨h', _⟩ | ⟨g', cap', cur, h', _, _, hc, _⟩
    · simp at h'
    · simp only [Value.slice.injEq, true_and] at h'
      omega
  have hglt : g < wr.heap.size := by
    rcases hP.2.1.2 with ⟨h', _⟩ | ⟨g', cap', cur, h', _, hg, _⟩
    · simp at h'
    · simp only [Value.slice.injEq, Option.some.injEq, Addr.mk.injEq, and_true, true_and] at h'
      obtain ⟨rfl, rfl⟩ := h'
      exact (Array.getElem?_eq_some_iff.1 hg).1
  have hon : ∀ u ∈ vs.drop L, u.oneCell' = true := fun u hu => ones u (List.mem_of_mem_drop hu)
  rw [show n - L = m from by omega]
  by_cases hc : cp = L
  · rw [if_pos hc]
    obtain rfl : m = 0 := by omega
    have e : vs.drop L = [] := List.drop_of_length_le (by omega)
    rw [e]
    exact cloneT_any _ 0 _ [] W rfl (fun j u hj => by simp at hj) (fun u hu => by cases hu) (by omega)
  · rw [if_neg hc]
    refine cloneT_any _ m _ _ W (by rw [List.length_drop]; omega) (fun j u hj => ?_) hon (by omega)
    rw [add_to]
    refine (hb.cell (p := ⟨g, L + j, none⟩) hglt).trans ?_
    rw [List.getElem?_drop] at hj
    have hlt : L + j < vs.length := by
      rcases Nat.lt_or_ge (L + j) vs.length with h' | h'
      · exact h'
      · rw [List.getElem?_eq_none h'] at hj; cases hj
    rw [hP.2.1.cellAt (L + j) (by omega)]
    exact hj

set_option maxHeartbeats 1600000 in
set_option maxRecDepth 20000 in
theorem treeOf_any {l : List (Int × Int)} (h : pile l 0 = some 1) (a : Option Addr) (len cap : Nat) (w : World) (hT : Tab w) (hs : NSl w a len l) (hl : len ≤ 40) (h1 : 1 ≤ len) :
    Calls Tryz.prog 45 #[.slice a len cap] w fun e w' => ∃ v, e = .returned v ∧ IsTree w' (fun g => w.heap.size ≤ g) l len (len - 1) v ∧ Below w.heap.size w w' := by
  have hlen := hs.1
  have HS : Hid (NSl w a len l) := hs
  have HT : Hid (Tab w) := hT
  obtain ⟨i0, hi, hz0, hz1, hz2⟩ := info_parts infoTree
  go_enter Tryz.func45, Tryz.ntmps45
  go_wp2_with fail
  go_loopw [3, 11] (fun p i wr => ∃ (k n : Nat) (vs : List Value), k ≤ len ∧ i = .int .i64 k ∧ Hid (Piled wr w.heap.size l k p n vs) ∧ Below w.heap.size w wr) (fun _ i _ => len - (intOf i).toNat)
  case atStart => exact ⟨0, 0, [], Nat.zero_le _, rfl, ⟨rfl, World.ownsRow_nil _ _ _ _, fun i hi => absurd hi (Nat.not_lt_zero _)⟩, Below.refl _ _⟩
  case round =>
    obtain ⟨k, n, vs, hk, rfl, hP, hbr⟩ := hrel
    by_cases hlt : k < len
    · obtain ⟨hcn, hown, htr⟩ := hP.out
      obtain ⟨b, off, rfl, hbl, hc⟩ := HS.out.at (by omega)
      have c1 := (hbr.cell (p := ⟨b, off + k * 2, none⟩) hbl).trans (hc k hlt).1
      have c2 := (hbr.cell (p := ⟨b, off + k * 2 + 1, none⟩) hbl).trans (hc k hlt).2
      clear hc
      obtain ⟨s1, s2⟩ := cnt_step h k (by omega)
      obtain ⟨a1, a2, a3, _⟩ := fits_iff _ _ _ _ s1
      have HA := implArity_any (l.getD k (0, 0)).1 _ (HT.out.keeps (hbr.alloc hbr.size (.cells #[.int .i64 (l.getD k (0, 0)).1, .int .i64 (l.getD k (0, 0)).2] 66)))
      rw [decide_eq_true a1, show arN (l.getD k (0, 0)).1 = ar (l.getD k (0, 0)).1 from by unfold arN; rw [if_pos a1]] at HA
      have hcl := cnt_le h k (by omega)
      obtain ⟨m, hm⟩ : ∃ m : Nat, ar (l.getD k (0, 0)).1 = m := ⟨(ar (l.getD k (0, 0)).1).toNat, by omega⟩
      rw [hm] at HA
      have hmn : m ≤ n := by omega
      have HP := hP
      have HAb : Hid (∀ W vf B, Below wr.heap.size wr W → wr.heap.size ≤ B → ∀ L, n = L + m → W.ownsRow B 74 1 vf m (vs.drop L) → Calls Tryz.prog 85 #[.agg #[.int .i64 (l.getD k (0, 0)).1, .int .i64 (l.getD k (0, 0)).2], vf] W fun e w' => ∃ v, e = .returned v ∧ IsTree w' (fun g => w.heap.size ≤ g ∧ Value.ownBlock u3 ≠ some g) l (k + 1) k v ∧ Below W.heap.size W w') := by
        intro W vf B hb hB L hL ho
        have e : (ar (l.getD k (0, 0)).1).toNat = m := by omega
        refine above_any h k (by omega) _ vf (vs.drop L) W B (by rw [e]; exact ho) (fun g hg => ⟨by have := hbr.size; omega, fun e => ?_⟩) (by rw [e]; exact piled_parts h (by omega) HP.out hm hL hb)
        have := own_in hown g e
        omega
      clear s1 s2 a3 htr hP
      have HM : Hid (ar (l.getD k (0, 0)).1 = m) := hm
      have HH : Hid (pile l 0 = some 1) := h
      have n1 : ((wr.alloc (.cells #[.int .i64 (l.getD k (0, 0)).1, .int .i64 (l.getD k (0, 0)).2] 66)).drew).cell? ⟨wr.heap.size, 0, none⟩ = some (.int .i64 (l.getD k (0, 0)).1) := by simp [go_sem]
      have n2 : ((wr.alloc (.cells #[.int .i64 (l.getD k (0, 0)).1, .int .i64 (l.getD k (0, 0)).2] 66)).drew).cell? ⟨wr.heap.size, 1, none⟩ = some (.int .i64 (l.getD k (0, 0)).2) := by simp [go_sem]
      have hb0 : Below wr.heap.size wr ((wr.alloc (.cells #[.int .i64 (l.getD k (0, 0)).1, .int .i64 (l.getD k (0, 0)).2] 66)).drew) := ((Below.refl _ _).alloc (Nat.le_refl _) _).drew
      have hsz0 : wr.heap.size < ((wr.alloc (.cells #[.int .i64 (l.getD k (0, 0)).1, .int .i64 (l.getD k (0, 0)).2] 66)).drew).heap.size := by simp [World.drew]
      clear hm h a1 a2
      rcases hown.2 with ⟨rfl, rfl⟩ | ⟨g, cp, cur, rfl, hbg, hg, hnc, _⟩
      · obtain rfl : m = 0 := by omega
        have j3 : (0 : Nat) ≤ 0 := Nat.le_refl _
        have hv0 : vs = [] := List.eq_nil_of_length_eq_zero (by simpa using hown.1)
        subst hv0
        have HC : Hid (∀ W, Below wr.heap.size wr W → Calls Tryz.prog 86 #[.slice none 0 0] W fun e w' => ∃ v : Value, e = .returned v ∧ w'.ownsRow W.heap.size 74 1 v 0 (([] : List Value).drop 0) ∧ Below W.heap.size W w') := fun W hb => (cloneT_nil W).mono fun e w' he => ⟨_, he.1, World.ownsRow_nil _ _ _ _, by rw [he.2]; exact Below.refl _ _⟩
        clear hcl hcn
        generalize (l.getD k (0, 0)).1 = x at HA HAb n1 n2 hb0 hsz0 c1
        generalize (l.getD k (0, 0)).2 = y at HA HAb n1 n2 hb0 hsz0 c2
        go_wp2_with fail
        refine HA.mono ?_
        rintro e w1 ⟨rfl, rfl⟩
        clear HA
        go_wp2_with fail
        go_region_law (first
          | (refine step_append rfl _ _ 113 rfl w.heap.size 74 i0 .nilIface 1 16 Tryz.underlying113 hi hz0 hz1 hz2 rfl (by decide) (.slice none 0 0) _ _ rfl ((own_keep hown hB3).alloc _) ⟨w3.heap.size, 0, none⟩ 1 1 [.iface tt xx] rfl (by simp) (one_new w3 _ _) (fun u hu => by rw [List.mem_singleton.1 hu]; rfl) (by unfold maxLen; omega) (by omega) (by have := hbr.size; have := hB3.size; simp; omega) ?_; intro v' w5 hown5 hg5 hat5)
          | (go_simp; go_at_call 86; refine Calls.mono (HC.out _ hb0) ?_; rintro e w2 ⟨vf, rfl, hownf, hb2⟩; have hB2 := hb0.trans (hb2.mono hb0.size); have d1 := (hb2.cell (p := ⟨wr.heap.size, 0, none⟩) hsz0).trans n1; have d2 := (hb2.cell (p := ⟨wr.heap.size, 1, none⟩) hsz0).trans n2)
          | (go_simp; go_at_call 85; refine Calls.mono (HAb.out _ vf _ hB2 hb0.size 0 rfl hownf) ?_; rintro e w3 ⟨vt, rfl, htree, hb3⟩; have hB3 := hB2.trans (hb3.mono hB2.size); obtain ⟨tt, xx, rfl⟩ := htree.form))
        all_goals
          have hpn : Hid (Piled w5 w.heap.size l (k + 1) v' (0 + 1) (([] : List Value).take 0 ++ [.iface tt xx])) := piled_step HH.out (by omega) HP.out HM.out rfl hB3 htree ((Below.refl _ _).alloc (Nat.le_refl _) _) hg5 hown5 hat5
          have hbn : Below w.heap.size w w5 := (hbr.trans ((hB3.alloc hB3.size _).mono hbr.size)).grown hg5 (by have := hbr.size; have := hB3.size; simp; omega) (own_ge hown)
          go_wp2
          go_roundw
          case rel => exact ⟨k + 1, 0 + 1, _, by omega, by go_num, hpn, hbn⟩
          case measure => simp [intOf]; omega
      · obtain ⟨L, hL⟩ : ∃ L, n = L + m := ⟨n - m, by omega⟩
        have HL : Hid (n = L + m ∧ (n : Int) - m = (L : Int)) := ⟨hL, by omega⟩
        have j0 : (m : Int) ≤ n := by omega
        have j1 : (L : Int) ≤ cp := by omega
        have j2 : (L : Int) ≤ n := by omega
        have j3 : L ≤ n := by omega
        have j4 : n ≤ 40 := by omega
        have HC : Hid (∀ W, Below wr.heap.size wr W → Calls Tryz.prog 86 #[.slice (if cp = L then some ⟨g, 0, none⟩ else some ⟨g, L, none⟩) (n - L) (cp - L)] W fun e w' => ∃ v : Value, e = .returned v ∧ w'.ownsRow W.heap.size 74 1 v m (vs.drop L) ∧ Below W.heap.size W w') := fun W hb => clone_step (q := 1) HP.out hL j4 hb
        clear hL hcl hcn
        generalize (l.getD k (0, 0)).1 = x at HA HAb n1 n2 hb0 hsz0 c1
        generalize (l.getD k (0, 0)).2 = y at HA HAb n1 n2 hb0 hsz0 c2
        go_wp2_with fail
        refine HA.mono ?_
        rintro e w1 ⟨rfl, rfl⟩
        clear HA
        go_wp2_with fail
        rw [HL.out.2]
        go_region_law (first
          | (refine step_append rfl _ _ 113 rfl w.heap.size 74 i0 .nilIface 1 16 Tryz.underlying113 hi hz0 hz1 hz2 rfl (by decide) (.slice (some ⟨g, 0, none⟩) L cp) _ _ rfl (own_take ((own_keep hown hB3).alloc _) j3) ⟨w3.heap.size, 0, none⟩ 1 1 [.iface tt xx] rfl (by simp) (one_new w3 _ _) (fun u hu => by rw [List.mem_singleton.1 hu]; rfl) (by unfold maxLen; omega) (by omega) (by have := hbr.size; have := hB3.size; simp; omega) ?_; intro v' w5 hown5 hg5 hat5)
          | (go_simp; go_at_call 86; refine Calls.mono (HC.out _ hb0) ?_; rintro e w2 ⟨vf, rfl, hownf, hb2⟩; have hB2 := hb0.trans (hb2.mono hb0.size); have d1 := (hb2.cell (p := ⟨wr.heap.size, 0, none⟩) hsz0).trans n1; have d2 := (hb2.cell (p := ⟨wr.heap.size, 1, none⟩) hsz0).trans n2)
          | (go_simp; go_at_call 85; refine Calls.mono (HAb.out _ vf _ hB2 hb0.size L HL.out.1 hownf) ?_; rintro e w3 ⟨vt, rfl, htree, hb3⟩; have hB3 := hB2.trans (hb3.mono hB2.size); obtain ⟨tt, xx, rfl⟩ := htree.form))
        all_goals
          have hpn : Hid (Piled w5 w.heap.size l (k + 1) v' (L + 1) (vs.take L ++ [.iface tt xx])) := piled_step HH.out (by omega) HP.out HM.out HL.out.1 hB3 htree ((Below.refl _ _).alloc (Nat.le_refl _) _) hg5 hown5 hat5
          have hbn : Below w.heap.size w w5 := (hbr.trans ((hB3.alloc hB3.size _).mono hbr.size)).grown hg5 (by have := hbr.size; have := hB3.size; simp; omega) (own_ge (own_take hown j3))
          go_wp2
          go_roundw
          case rel => exact ⟨k + 1, L + 1, _, by omega, by go_num, hpn, hbn⟩
          case measure => simp [intOf]; omega
    · obtain rfl : k = len := by omega
      obtain ⟨hcn, hown, htr⟩ := hP.out
      have h1c : cnt l k = 1 := by
        unfold cnt
        rw [List.take_of_length_le (by omega), h]
        rfl
      obtain rfl : n = 1 := by omega
      have t := htr 0 (by omega)
      have hro : (roots l 1 k).getD 0 0 = k - 1 := rfl
      rw [hro] at t
      rcases hown.2 with ⟨_, h0⟩ | ⟨g, cp, cur, rfl, hbg, hg, hnc, _⟩
      · omega
      · have hvl : vs.length = 1 := by have := hown.1; omega
        have c0 : wr.cell? ⟨g, 0, none⟩ = some (vs.getD 0 .nilIface) := by
          rw [hown.cellAt 0 (by omega), List.getD_eq_getElem?_getD, List.getElem?_eq_getElem (by omega)]; rfl
        obtain ⟨tt, xx, e⟩ := t.form
        rw [e] at t c0
        have HT1 : Hid (IsTree wr (fun g' => w.heap.size ≤ g' ∧ Value.ownBlock (.slice (some ⟨g, 0, none⟩) 1 cp) ≠ some g') l k (k - 1) (.iface tt xx)) := t
        clear htr t hP hown h e
        go_wp2
        go_ret
        exact ⟨_, rfl, IsTree.map (Nat.le_refl _) (fun g h1 h2 => ⟨h1.1, rfl⟩) k k (k - 1) _ (Nat.le_refl _) HT1.out, hbr⟩
end Go.Proofs.YtkadanagmahhgaaGreatDoor
namespace Go.Proofs.YtkadanagmahhgaaGreatDoor
open Go.ChangeShapes Go.WideShapes Go.ChangeAt Go.RowKit
open Odd
set_option linter.unusedVariables false

def sel (x y z : Int) : Int := if x = 0 then z else y
def bone (b : Bool) : Int := if b = true then 1 else 0
/-- What an op makes of its arguments. -/
def dv (op x y z : Int) : Int :=
  if op = 3 then wrap64 (-x) else if op = 4 then wrap64 (x + y) else if op = 5 then wrap64 (x - y) else if op = 6 then wrap64 (x * y)
  else if op = 7 then wrap64 (x * 2 ^ (y % 64).toNat) else if op = 8 then (if y = 0 then 0 else wrap64 (x.tdiv y))
  else if op = 9 then bone (x == y) else if op = 10 then bone (decide (x < y)) else sel x y z
/-- Does it trap? -/
def dt (op y : Int) : Bool := op == 8 && y == 0

theorem u64_mod (y : Int) : IntKind.u64.wrap y % 64 = y % 64 := by
  rw [IntKind.wrap_u64]; omega

end Go.Proofs.YtkadanagmahhgaaGreatDoor
namespace Go.Proofs.YtkadanagmahhgaaGreatDoor
open Go.ChangeShapes Go.WideShapes Go.ChangeAt Go.RowKit
open Odd
set_option linter.unusedVariables false
attribute [local go_sem] andu63 and63

theorem one_any (b : Bool) (w : World) : Calls Tryz.prog 212 #[.bool b] w fun e w' => e = .returned (.int .i64 (bone b)) ∧ w' = w := by
  cases b <;> go_enter Tryz.func212, Tryz.ntmps212
  all_goals
    go_wp2
    go_ret
    exact ⟨rfl, rfl⟩
theorem quo_zero (x : Int) (w : World) : Calls Tryz.prog 196 #[.int .i64 x, .int .i64 0] w fun e w' => e = .returned (.tuple #[.int .i64 0, .bool true]) ∧ w' = w := by
  go_enter Tryz.func196, Tryz.ntmps196
  go_wp2
  go_ret2
  exact ⟨rfl, rfl⟩
theorem quo_any (x y : Int) (w : World) (h : y ≠ 0) : Calls Tryz.prog 196 #[.int .i64 x, .int .i64 y] w fun e w' => e = .returned (.tuple #[.int .i64 (wrap64 (x.tdiv y)), .bool false]) ∧ w' = w := by
  have h' : (y == 0) = false := by simpa using h
  go_enter Tryz.func196, Tryz.ntmps196
  go_wp2
  go_ret2
  exact ⟨rfl, rfl⟩
theorem chosen_any (x y z : Int) (w : World) : Calls Tryz.prog 197 #[.int .i64 x, .int .i64 y, .int .i64 z] w fun e w' => e = .returned (.int .i64 (sel x y z)) ∧ w' = w := by
  unfold sel
  by_cases h : x = 0
  · subst h
    go_enter Tryz.func197, Tryz.ntmps197
    go_wp2
    go_ret
    exact ⟨rfl, rfl⟩
  · have h' : (x != 0) = true := by simpa using h
    rw [if_neg h]
    go_enter Tryz.func197, Tryz.ntmps197
    go_wp2
    go_ret
    exact ⟨rfl, rfl⟩

theorem pair4 (x y : Int) (w : World) : Calls Tryz.prog 198 #[.int .i64 4, .int .i64 x, .int .i64 y] w fun e w' => e = .returned (.int .i64 (wrap64 (x + y))) ∧ w' = w := by
  go_enter Tryz.func198, Tryz.ntmps198
  go_wp2
  go_ret
  exact ⟨rfl, rfl⟩
theorem pair5 (x y : Int) (w : World) : Calls Tryz.prog 198 #[.int .i64 5, .int .i64 x, .int .i64 y] w fun e w' => e = .returned (.int .i64 (wrap64 (x - y))) ∧ w' = w := by
  go_enter Tryz.func198, Tryz.ntmps198
  go_wp2
  go_ret
  exact ⟨rfl, rfl⟩
theorem pair6 (x y : Int) (w : World) : Calls Tryz.prog 198 #[.int .i64 6, .int .i64 x, .int .i64 y] w fun e w' => e = .returned (.int .i64 (wrap64 (x * y))) ∧ w' = w := by
  go_enter Tryz.func198, Tryz.ntmps198
  go_wp2
  go_ret
  exact ⟨rfl, rfl⟩
theorem pair7 (x y : Int) (w : World) : Calls Tryz.prog 198 #[.int .i64 7, .int .i64 x, .int .i64 y] w fun e w' => e = .returned (.int .i64 (wrap64 (x * 2 ^ (y % 64).toNat))) ∧ w' = w := by
  go_enter Tryz.func198, Tryz.ntmps198
  go_wp2
  go_ret
  exact ⟨by rw [← u64_mod y]; rfl, rfl⟩
theorem pair9 (x y : Int) (w : World) : Calls Tryz.prog 198 #[.int .i64 9, .int .i64 x, .int .i64 y] w fun e w' => e = .returned (.int .i64 (bone (x == y))) ∧ w' = w := by
  go_enter Tryz.func198, Tryz.ntmps198
  go_wp2_with (go_at_call 212; refine (one_any _ _).mono ?_; rintro e w' ⟨rfl, rfl⟩)
  go_ret
  exact ⟨rfl, rfl⟩
theorem pair10 (x y : Int) (w : World) : Calls Tryz.prog 198 #[.int .i64 10, .int .i64 x, .int .i64 y] w fun e w' => e = .returned (.int .i64 (bone (decide (x < y)))) ∧ w' = w := by
  go_enter Tryz.func198, Tryz.ntmps198
  go_wp2_with (go_at_call 212; refine (one_any _ _).mono ?_; rintro e w' ⟨rfl, rfl⟩)
  go_ret
  exact ⟨rfl, rfl⟩
theorem implDo3 (b off cap : Nat) (x : Int) (w : World) (ht : Tab w) (c0 : w.cell? ⟨b, off, none⟩ = some (.int .i64 x)) :
    Calls Tryz.prog 174 #[.int .i64 3, .slice (some ⟨b, off, none⟩) 1 cap] w fun e w' => e = .returned (.tuple #[.int .i64 (wrap64 (-x)), .bool false, .bool true]) ∧ Below w.heap.size w w' := by
  have ha : Calls Tryz.prog 81 #[.int .i64 3] w fun e w' => e = .returned (.tuple #[.int .i64 1, .bool true]) ∧ w' = w := implArity_in 3 w ht (by decide)
  go_enter Tryz.func174, Tryz.ntmps174
  go_wp2_with (go_at_call 81; refine ha.mono ?_; rintro e w' ⟨rfl, rfl⟩)
  clear ht ha
  go_ret3
  exact ⟨rfl, Below.refl _ _⟩
theorem implDo4 (b off cap : Nat) (x y : Int) (w : World) (ht : Tab w) (c0 : w.cell? ⟨b, off, none⟩ = some (.int .i64 x)) (c1 : w.cell? ⟨b, off + 1, none⟩ = some (.int .i64 y)) :
    Calls Tryz.prog 174 #[.int .i64 4, .slice (some ⟨b, off, none⟩) 2 cap] w fun e w' => e = .returned (.tuple #[.int .i64 (wrap64 (x + y)), .bool false, .bool true]) ∧ Below w.heap.size w w' := by
  have ha : Calls Tryz.prog 81 #[.int .i64 4] w fun e w' => e = .returned (.tuple #[.int .i64 2, .bool true]) ∧ w' = w := implArity_in 4 w ht (by decide)
  go_enter Tryz.func174, Tryz.ntmps174
  go_wp2_with (go_at_call 81; refine ha.mono ?_; rintro e w' ⟨rfl, rfl⟩)
  clear ht ha
  go_quiet ((go_at_call 198; exact Calls.quiet_of_same (pair4 _ _ _)))
  go_wp2
  go_ret3
  exact ⟨rfl, Go.below_drewN (Below.refl _ _) _⟩
theorem implDo5 (b off cap : Nat) (x y : Int) (w : World) (ht : Tab w) (c0 : w.cell? ⟨b, off, none⟩ = some (.int .i64 x)) (c1 : w.cell? ⟨b, off + 1, none⟩ = some (.int .i64 y)) :
    Calls Tryz.prog 174 #[.int .i64 5, .slice (some ⟨b, off, none⟩) 2 cap] w fun e w' => e = .returned (.tuple #[.int .i64 (wrap64 (x - y)), .bool false, .bool true]) ∧ Below w.heap.size w w' := by
  have ha : Calls Tryz.prog 81 #[.int .i64 5] w fun e w' => e = .returned (.tuple #[.int .i64 2, .bool true]) ∧ w' = w := implArity_in 5 w ht (by decide)
  go_enter Tryz.func174, Tryz.ntmps174
  go_wp2_with (go_at_call 81; refine ha.mono ?_; rintro e w' ⟨rfl, rfl⟩)
  clear ht ha
  go_quiet ((go_at_call 198; exact Calls.quiet_of_same (pair5 _ _ _)))
  go_wp2
  go_ret3
  exact ⟨rfl, Go.below_drewN (Below.refl _ _) _⟩
theorem implDo6 (b off cap : Nat) (x y : Int) (w : World) (ht : Tab w) (c0 : w.cell? ⟨b, off, none⟩ = some (.int .i64 x)) (c1 : w.cell? ⟨b, off + 1, none⟩ = some (.int .i64 y)) :
    Calls Tryz.prog 174 #[.int .i64 6, .slice (some ⟨b, off, none⟩) 2 cap] w fun e w' => e = .returned (.tuple #[.int .i64 (wrap64 (x * y)), .bool false, .bool true]) ∧ Below w.heap.size w w' := by
  have ha : Calls Tryz.prog 81 #[.int .i64 6] w fun e w' => e = .returned (.tuple #[.int .i64 2, .bool true]) ∧ w' = w := implArity_in 6 w ht (by decide)
  go_enter Tryz.func174, Tryz.ntmps174
  go_wp2_with (go_at_call 81; refine ha.mono ?_; rintro e w' ⟨rfl, rfl⟩)
  clear ht ha
  go_quiet ((go_at_call 198; exact Calls.quiet_of_same (pair6 _ _ _)))
  go_wp2
  go_ret3
  exact ⟨rfl, Go.below_drewN (Below.refl _ _) _⟩
theorem implDo7 (b off cap : Nat) (x y : Int) (w : World) (ht : Tab w) (c0 : w.cell? ⟨b, off, none⟩ = some (.int .i64 x)) (c1 : w.cell? ⟨b, off + 1, none⟩ = some (.int .i64 y)) :
    Calls Tryz.prog 174 #[.int .i64 7, .slice (some ⟨b, off, none⟩) 2 cap] w fun e w' => e = .returned (.tuple #[.int .i64 (wrap64 (x * 2 ^ (y % 64).toNat)), .bool false, .bool true]) ∧ Below w.heap.size w w' := by
  have ha : Calls Tryz.prog 81 #[.int .i64 7] w fun e w' => e = .returned (.tuple #[.int .i64 2, .bool true]) ∧ w' = w := implArity_in 7 w ht (by decide)
  go_enter Tryz.func174, Tryz.ntmps174
  go_wp2_with (go_at_call 81; refine ha.mono ?_; rintro e w' ⟨rfl, rfl⟩)
  clear ht ha
  go_quiet ((go_at_call 198; exact Calls.quiet_of_same (pair7 _ _ _)))
  go_wp2
  go_ret3
  exact ⟨rfl, Go.below_drewN (Below.refl _ _) _⟩
theorem implDo8zero (b off cap : Nat) (x : Int) (w : World) (ht : Tab w) (c0 : w.cell? ⟨b, off, none⟩ = some (.int .i64 x)) (c1 : w.cell? ⟨b, off + 1, none⟩ = some (.int .i64 0)) :
    Calls Tryz.prog 174 #[.int .i64 8, .slice (some ⟨b, off, none⟩) 2 cap] w fun e w' => e = .returned (.tuple #[.int .i64 (0), .bool true, .bool true]) ∧ Below w.heap.size w w' := by
  have ha : Calls Tryz.prog 81 #[.int .i64 8] w fun e w' => e = .returned (.tuple #[.int .i64 2, .bool true]) ∧ w' = w := implArity_in 8 w ht (by decide)
  go_enter Tryz.func174, Tryz.ntmps174
  go_wp2_with (go_at_call 81; refine ha.mono ?_; rintro e w' ⟨rfl, rfl⟩)
  clear ht ha
  go_quiet ((go_at_call 196; exact Calls.quiet_of_same (quo_zero _ _)))
  go_wp2
  go_ret3
  exact ⟨rfl, Go.below_drewN (Below.refl _ _) _⟩
theorem implDo8any (b off cap : Nat) (x y : Int) (w : World) (ht : Tab w) (h : y ≠ 0) (c0 : w.cell? ⟨b, off, none⟩ = some (.int .i64 x)) (c1 : w.cell? ⟨b, off + 1, none⟩ = some (.int .i64 y)) :
    Calls Tryz.prog 174 #[.int .i64 8, .slice (some ⟨b, off, none⟩) 2 cap] w fun e w' => e = .returned (.tuple #[.int .i64 (wrap64 (x.tdiv y)), .bool false, .bool true]) ∧ Below w.heap.size w w' := by
  have ha : Calls Tryz.prog 81 #[.int .i64 8] w fun e w' => e = .returned (.tuple #[.int .i64 2, .bool true]) ∧ w' = w := implArity_in 8 w ht (by decide)
  go_enter Tryz.func174, Tryz.ntmps174
  go_wp2_with (go_at_call 81; refine ha.mono ?_; rintro e w' ⟨rfl, rfl⟩)
  clear ht ha
  go_quiet ((go_at_call 196; exact Calls.quiet_of_same (quo_any _ _ _ h)))
  go_wp2
  go_ret3
  exact ⟨rfl, Go.below_drewN (Below.refl _ _) _⟩
theorem implDo9 (b off cap : Nat) (x y : Int) (w : World) (ht : Tab w) (c0 : w.cell? ⟨b, off, none⟩ = some (.int .i64 x)) (c1 : w.cell? ⟨b, off + 1, none⟩ = some (.int .i64 y)) :
    Calls Tryz.prog 174 #[.int .i64 9, .slice (some ⟨b, off, none⟩) 2 cap] w fun e w' => e = .returned (.tuple #[.int .i64 (bone (x == y)), .bool false, .bool true]) ∧ Below w.heap.size w w' := by
  have ha : Calls Tryz.prog 81 #[.int .i64 9] w fun e w' => e = .returned (.tuple #[.int .i64 2, .bool true]) ∧ w' = w := implArity_in 9 w ht (by decide)
  go_enter Tryz.func174, Tryz.ntmps174
  go_wp2_with (go_at_call 81; refine ha.mono ?_; rintro e w' ⟨rfl, rfl⟩)
  clear ht ha
  go_quiet ((go_at_call 198; exact Calls.quiet_of_same (pair9 _ _ _)))
  go_wp2
  go_ret3
  exact ⟨rfl, Go.below_drewN (Below.refl _ _) _⟩
theorem implDo10 (b off cap : Nat) (x y : Int) (w : World) (ht : Tab w) (c0 : w.cell? ⟨b, off, none⟩ = some (.int .i64 x)) (c1 : w.cell? ⟨b, off + 1, none⟩ = some (.int .i64 y)) :
    Calls Tryz.prog 174 #[.int .i64 10, .slice (some ⟨b, off, none⟩) 2 cap] w fun e w' => e = .returned (.tuple #[.int .i64 (bone (decide (x < y))), .bool false, .bool true]) ∧ Below w.heap.size w w' := by
  have ha : Calls Tryz.prog 81 #[.int .i64 10] w fun e w' => e = .returned (.tuple #[.int .i64 2, .bool true]) ∧ w' = w := implArity_in 10 w ht (by decide)
  go_enter Tryz.func174, Tryz.ntmps174
  go_wp2_with (go_at_call 81; refine ha.mono ?_; rintro e w' ⟨rfl, rfl⟩)
  clear ht ha
  go_quiet ((go_at_call 198; exact Calls.quiet_of_same (pair10 _ _ _)))
  go_wp2
  go_ret3
  exact ⟨rfl, Go.below_drewN (Below.refl _ _) _⟩
theorem implDo11 (b off cap : Nat) (x y z : Int) (w : World) (ht : Tab w) (c0 : w.cell? ⟨b, off, none⟩ = some (.int .i64 x)) (c1 : w.cell? ⟨b, off + 1, none⟩ = some (.int .i64 y)) (c2 : w.cell? ⟨b, off + 2, none⟩ = some (.int .i64 z)) :
    Calls Tryz.prog 174 #[.int .i64 11, .slice (some ⟨b, off, none⟩) 3 cap] w fun e w' => e = .returned (.tuple #[.int .i64 (sel x y z), .bool false, .bool true]) ∧ Below w.heap.size w w' := by
  have ha : Calls Tryz.prog 81 #[.int .i64 11] w fun e w' => e = .returned (.tuple #[.int .i64 3, .bool true]) ∧ w' = w := implArity_in 11 w ht (by decide)
  go_enter Tryz.func174, Tryz.ntmps174
  go_wp2_with (go_at_call 81; refine ha.mono ?_; rintro e w' ⟨rfl, rfl⟩)
  clear ht ha
  go_quiet ((go_at_call 197; exact Calls.quiet_of_same (chosen_any _ _ _ _)))
  go_wp2
  go_ret3
  exact ⟨rfl, Go.below_drewN (Below.refl _ _) _⟩
end Go.Proofs.YtkadanagmahhgaaGreatDoor
namespace Go.Proofs.YtkadanagmahhgaaGreatDoor
open Go.ChangeShapes Go.WideShapes Go.ChangeAt Go.RowKit
open Odd
set_option linter.unusedVariables false

theorem implDo_good (op : Int) (a : Option Addr) (len cap : Nat) (l : List Int) (w : World) (ht : Tab w) (h : 3 ≤ op ∧ op ≤ 11) (hs : Sl w a len l) (hl : ar op = len) :
    Calls Tryz.prog 174 #[.int .i64 op, .slice a len cap] w fun e w' => e = .returned (.tuple #[.int .i64 (dv op (l.getD 0 0) (l.getD 1 0) (l.getD 2 0)), .bool (dt op (l.getD 1 0)), .bool true]) ∧ Below w.heap.size w w' := by
  rcases ops op with h1 | rfl | rfl | rfl | rfl | rfl | rfl | rfl | rfl | rfl | rfl | rfl
  · omega
  · omega
  · omega
  · obtain rfl : len = 1 := by have e0 : ar 3 = 1 := rfl; omega
    obtain ⟨b, off, rfl, hc⟩ := cells_of hs (by decide)
    exact implDo3 b off cap _ w ht (hc 0 (by decide))
  · obtain rfl : len = 2 := by have e0 : ar 4 = 2 := rfl; omega
    obtain ⟨b, off, rfl, hc⟩ := cells_of hs (by decide)
    exact implDo4 b off cap _ _ w ht (hc 0 (by decide)) (hc 1 (by decide))
  · obtain rfl : len = 2 := by have e0 : ar 5 = 2 := rfl; omega
    obtain ⟨b, off, rfl, hc⟩ := cells_of hs (by decide)
    exact implDo5 b off cap _ _ w ht (hc 0 (by decide)) (hc 1 (by decide))
  · obtain rfl : len = 2 := by have e0 : ar 6 = 2 := rfl; omega
    obtain ⟨b, off, rfl, hc⟩ := cells_of hs (by decide)
    exact implDo6 b off cap _ _ w ht (hc 0 (by decide)) (hc 1 (by decide))
  · obtain rfl : len = 2 := by have e0 : ar 7 = 2 := rfl; omega
    obtain ⟨b, off, rfl, hc⟩ := cells_of hs (by decide)
    exact implDo7 b off cap _ _ w ht (hc 0 (by decide)) (hc 1 (by decide))
  · obtain rfl : len = 2 := by have e0 : ar 8 = 2 := rfl; omega
    obtain ⟨b, off, rfl, hc⟩ := cells_of hs (by decide)
    by_cases hy : l.getD 1 0 = 0
    · have c1 := hc 1 (by decide)
      rw [hy] at c1 ⊢
      exact implDo8zero b off cap _ w ht (hc 0 (by decide)) c1
    · have e1 : dv 8 (l.getD 0 0) (l.getD 1 0) (l.getD 2 0) = wrap64 ((l.getD 0 0).tdiv (l.getD 1 0)) := by
        show (if l.getD 1 0 = 0 then 0 else _) = _
        rw [if_neg hy]
      have e2 : dt 8 (l.getD 1 0) = false := by
        show ((l.getD 1 0) == 0) = false
        simpa using hy
      rw [e1, e2]
      exact implDo8any b off cap _ _ w ht hy (hc 0 (by decide)) (hc 1 (by decide))
  · obtain rfl : len = 2 := by have e0 : ar 9 = 2 := rfl; omega
    obtain ⟨b, off, rfl, hc⟩ := cells_of hs (by decide)
    exact implDo9 b off cap _ _ w ht (hc 0 (by decide)) (hc 1 (by decide))
  · obtain rfl : len = 2 := by have e0 : ar 10 = 2 := rfl; omega
    obtain ⟨b, off, rfl, hc⟩ := cells_of hs (by decide)
    exact implDo10 b off cap _ _ w ht (hc 0 (by decide)) (hc 1 (by decide))
  · obtain rfl : len = 3 := by have e0 : ar 11 = 3 := rfl; omega
    obtain ⟨b, off, rfl, hc⟩ := cells_of hs (by decide)
    exact implDo11 b off cap _ _ _ w ht (hc 0 (by decide)) (hc 1 (by decide)) (hc 2 (by decide))

theorem implDo_bad (op : Int) (a : Option Addr) (len cap : Nat) (w : World) (ht : Tab w) (h : op < 3 ∨ 11 < op ∨ ar op ≠ len) :
    Calls Tryz.prog 174 #[.int .i64 op, .slice a len cap] w fun e w' => e = .returned (.tuple #[.int .i64 0, .bool false, .bool false]) ∧ Below w.heap.size w w' := by
  by_cases h1 : op < 1 ∨ 11 < op
  · go_enter Tryz.func174, Tryz.ntmps174
    go_wp2_with (go_at_call 81; refine (implArity_out _ _ h1).mono ?_; rintro e w' ⟨rfl, rfl⟩)
    go_ret3
    exact ⟨rfl, Below.refl _ _⟩
  · have ha := implArity_in op w ht (by omega)
    by_cases h2 : op < 3
    · go_enter Tryz.func174, Tryz.ntmps174
      go_wp2_with (go_at_call 81; refine ha.mono ?_; rintro e w' ⟨rfl, rfl⟩)
      go_ret3
      exact ⟨rfl, Below.refl _ _⟩
    · have hn : ((len : Int) != ar op) = true := by
        rw [bne_iff_ne]; omega
      clear h
      go_enter Tryz.func174, Tryz.ntmps174
      go_wp2_with (go_at_call 81; refine ha.mono ?_; rintro e w' ⟨rfl, rfl⟩)
      go_ret3
      exact ⟨rfl, Below.refl _ _⟩

theorem Tab.keep {w w' : World} (h : Tab w) (hb : Below w.heap.size w w') : Tab w' := fun i hi =>
  (hb.cell (p := ⟨0, i, none⟩) (World.block_lt_of_cell? w ⟨0, 0, none⟩ (h 0 (by decide)))).trans (h i hi)


end Go.Proofs.YtkadanagmahhgaaGreatDoor
