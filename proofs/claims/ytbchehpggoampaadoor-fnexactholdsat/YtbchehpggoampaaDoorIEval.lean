/-
  PROVED HERE: what the program says that a term comes to, at every list of nodes and every list of values, in a world whose table of arities is laid. No other condition.
-/
import Derived.Test.YtbchehpggoampaaDoorITree
import Derived.Test.YtbchehpggoampaaDoorDefsAll
import Derived.Test.YtbchehpggoampaaDoorDoAll
import Derived.Test.YtbchehpggoampaaDoorAsserts
namespace Go.Proofs.YtbchehpggoampaaDoor
open Go.ChangeShapes Go.WideShapes Go.ChangeAt Go.RowKit
set_option linter.unusedVariables false
attribute [local go_sem] as_nn as_nv as_nc as_no as_vn as_vv as_vc as_vo as_cn as_cv as_cc as_co as_on as_ov as_oc as_oo

/-- The tree of node k comes to what the node does. -/
def EvAt (l : List (Int × Int)) (env : List Int) (ve : Option Addr) (ce : Nat) (ok : Nat → Prop) (f k : Nat) (v : Value) : Prop :=
  ∀ W, IsTree W ok l f k v → Tab W → Sl W ve 4 env → Calls Tryd.prog 65 #[v, .slice ve 4 ce] W fun e w' => e = .returned (.tuple #[.int .i64 (valO (evalF l env f k)), .bool (trapO (evalF l env f k))]) ∧ Below W.heap.size W w'

set_option maxRecDepth 20000 in
theorem evNum (n : Int) (ve : Option Addr) (ce : Nat) (W : World) : Calls Tryd.prog 65 #[.iface 97 (.agg #[.int .i64 n]), .slice ve 4 ce] W fun e w' => e = .returned (.tuple #[.int .i64 n, .bool false]) ∧ Below W.heap.size W w' := by
  go_enter Tryd.func65, Tryd.ntmps65
  go_wp2
  go_ret2
  exact ⟨rfl, by first | exact Below.refl _ _ | go_grown⟩
set_option maxRecDepth 20000 in
theorem evVar (n : Nat) (hn : n < 4) (b off ce : Nat) (x : Int) (W : World) (hc : W.cell? ⟨b, off + n, none⟩ = some (.int .i64 x)) : Calls Tryd.prog 65 #[.iface 99 (.agg #[.int .i64 (n : Int)]), .slice (some ⟨b, off, none⟩) 4 ce] W fun e w' => e = .returned (.tuple #[.int .i64 x, .bool false]) ∧ Below W.heap.size W w' := by
  have i1 : (n : Int) < 4 := by omega
  have hbl : b < W.heap.size := World.block_lt_of_cell? W _ hc
  go_enter Tryd.func65, Tryd.ntmps65
  go_wp2
  go_ret2
  exact ⟨rfl, by first | exact Below.refl _ _ | go_grown⟩

set_option maxRecDepth 20000 in
theorem evChoice (c : Option Int) (y z : Option Int) (v0 v1 v2 : Value) (t0 t1 t2 : TypeId) (ve : Option Addr) (ce : Nat) (W : World)
    (h0 : ∀ W', Below W.heap.size W W' → Calls Tryd.prog 65 #[.iface t0 v0, .slice ve 4 ce] W' fun e w' => e = .returned (.tuple #[.int .i64 (valO c), .bool (trapO c)]) ∧ Below W'.heap.size W' w')
    (h1 : ∀ W', Below W.heap.size W W' → Calls Tryd.prog 65 #[.iface t1 v1, .slice ve 4 ce] W' fun e w' => e = .returned (.tuple #[.int .i64 (valO y), .bool (trapO y)]) ∧ Below W'.heap.size W' w')
    (h2 : ∀ W', Below W.heap.size W W' → Calls Tryd.prog 65 #[.iface t2 v2, .slice ve 4 ce] W' fun e w' => e = .returned (.tuple #[.int .i64 (valO z), .bool (trapO z)]) ∧ Below W'.heap.size W' w') :
    Calls Tryd.prog 82 #[.agg #[.iface t0 v0, .iface t1 v1, .iface t2 v2], .slice ve 4 ce] W fun e w' => e = .returned (.tuple #[.int .i64 (valO (ifO c y z)), .bool (trapO (ifO c y z))]) ∧ Below W.heap.size W w' := by
  have hb0 : Below W.heap.size W (W.alloc (.cells #[.iface t0 v0, .iface t1 v1, .iface t2 v2] 101)) := (Below.refl _ _).alloc (Nat.le_refl _) _
  have H0 := (show Hid _ from h0 _ hb0)
  have H1 : Hid (∀ W', Below W.heap.size W W' → Calls Tryd.prog 65 #[.iface t1 v1, .slice ve 4 ce] W' fun e w' => e = .returned (.tuple #[.int .i64 (valO y), .bool (trapO y)]) ∧ Below W'.heap.size W' w') := h1
  have H2 : Hid (∀ W', Below W.heap.size W W' → Calls Tryd.prog 65 #[.iface t2 v2, .slice ve 4 ce] W' fun e w' => e = .returned (.tuple #[.int .i64 (valO z), .bool (trapO z)]) ∧ Below W'.heap.size W' w') := h2
  have n1 : (W.alloc (.cells #[.iface t0 v0, .iface t1 v1, .iface t2 v2] 101)).cell? ⟨W.heap.size, 1, none⟩ = some (.iface t1 v1) := by simp [go_sem]
  have n2 : (W.alloc (.cells #[.iface t0 v0, .iface t1 v1, .iface t2 v2] 101)).cell? ⟨W.heap.size, 2, none⟩ = some (.iface t2 v2) := by simp [go_sem]
  have hsz : W.heap.size < (W.alloc (.cells #[.iface t0 v0, .iface t1 v1, .iface t2 v2] 101)).heap.size := by simp
  clear h0 h1 h2
  cases c with
  | none =>
    rw [show valO none = 0 from rfl, show trapO none = true from rfl] at H0
    rw [show ifO none y z = none from rfl, show valO none = 0 from rfl, show trapO none = true from rfl]
    go_enter Tryd.func82, Tryd.ntmps82
    go_wp2_with fail
    refine Calls.mono H0.out ?_
    rintro e w1 ⟨rfl, hb1⟩
    go_wp2
    go_ret2
    exact ⟨rfl, hb0.trans (hb1.mono hb0.size)⟩
  | some c =>
    rw [show valO (some c) = c from rfl, show trapO (some c) = false from rfl] at H0
    by_cases hc : c = 0
    · subst hc
      rw [show ifO (some 0) y z = z from rfl]
      generalize valO z = V at H2 ⊢
      generalize trapO z = T at H2 ⊢
      clear H1
      go_enter Tryd.func82, Tryd.ntmps82
      go_wp2_with fail
      refine Calls.mono H0.out ?_
      rintro e w1 ⟨rfl, hb1⟩
      have d2 := (hb1.cell (p := ⟨W.heap.size, 2, none⟩) hsz).trans n2
      have hB1 := hb0.trans (hb1.mono hb0.size)
      clear H0 n1 n2
      go_wp2_with fail
      refine Calls.mono (H2.out _ hB1) ?_
      rintro e w2 ⟨rfl, hb2⟩
      go_wp2
      go_ret2
      exact ⟨rfl, hB1.trans (hb2.mono hB1.size)⟩
    · have hc' : (c != 0) = true := by simpa using hc
      rw [show ifO (some c) y z = y from by unfold ifO; simp [hc]]
      generalize valO y = V at H1 ⊢
      generalize trapO y = T at H1 ⊢
      clear H2
      go_enter Tryd.func82, Tryd.ntmps82
      go_wp2_with fail
      refine Calls.mono H0.out ?_
      rintro e w1 ⟨rfl, hb1⟩
      have d1 := (hb1.cell (p := ⟨W.heap.size, 1, none⟩) hsz).trans n1
      have hB1 := hb0.trans (hb1.mono hb0.size)
      clear H0 n1 n2
      go_wp2_with fail
      refine Calls.mono (H1.out _ hB1) ?_
      rintro e w2 ⟨rfl, hb2⟩
      go_wp2
      go_ret2
      exact ⟨rfl, hB1.trans (hb2.mono hB1.size)⟩

set_option maxRecDepth 20000 in
theorem evCh (o : Option Int) (ve : Option Addr) (ce : Nat) (W : World) (v0 v1 v2 : Value) (C : ∀ W', Below W.heap.size W W' → Calls Tryd.prog 82 #[.agg #[v0, v1, v2], .slice ve 4 ce] W' fun e w' => e = .returned (.tuple #[.int .i64 (valO o), .bool (trapO o)]) ∧ Below W'.heap.size W' w') (t0 t1 t2 : TypeId) (x0 x1 x2 : Value) (e0 : v0 = .iface t0 x0) (e1 : v1 = .iface t1 x1) (e2 : v2 = .iface t2 x2) :
    Calls Tryd.prog 65 #[.iface 101 (.agg #[v0, v1, v2]), .slice ve 4 ce] W fun e w' => e = .returned (.tuple #[.int .i64 (valO o), .bool (trapO o)]) ∧ Below W.heap.size W w' := by
  subst e0 e1 e2
  have HC : Hid (∀ W', Below W.heap.size W W' → Calls Tryd.prog 82 #[.agg #[.iface t0 x0, .iface t1 x1, .iface t2 x2], .slice ve 4 ce] W' fun e w' => e = .returned (.tuple #[.int .i64 (valO o), .bool (trapO o)]) ∧ Below W'.heap.size W' w') := C
  clear C
  generalize valO o = V at HC ⊢
  generalize trapO o = T at HC ⊢
  go_enter Tryd.func65, Tryd.ntmps65
  go_wp2_with fail
  refine Calls.mono (HC.out _ ((Below.refl _ _).alloc (Nat.le_refl _) _)) ?_
  rintro e w1 ⟨rfl, hb1⟩
  go_wp2
  go_ret2
  exact ⟨rfl, ((Below.refl _ _).alloc (Nat.le_refl _) _).trans (hb1.mono (by simp))⟩

set_option maxRecDepth 20000 in
theorem evOp (o : Option Int) (ve : Option Addr) (ce : Nat) (W : World) (op : Int) (a : Option Addr) (m c : Nat) (C : ∀ W', Below W.heap.size W W' → Calls Tryd.prog 83 #[.agg #[.int .i64 op, .slice a m c], .slice ve 4 ce] W' fun e w' => e = .returned (.tuple #[.int .i64 (valO o), .bool (trapO o)]) ∧ Below W'.heap.size W' w') :
    Calls Tryd.prog 65 #[.iface 104 (.agg #[.int .i64 op, .slice a m c]), .slice ve 4 ce] W fun e w' => e = .returned (.tuple #[.int .i64 (valO o), .bool (trapO o)]) ∧ Below W.heap.size W w' := by
  have HC : Hid (∀ W', Below W.heap.size W W' → Calls Tryd.prog 83 #[.agg #[.int .i64 op, .slice a m c], .slice ve 4 ce] W' fun e w' => e = .returned (.tuple #[.int .i64 (valO o), .bool (trapO o)]) ∧ Below W'.heap.size W' w') := C
  clear C
  generalize valO o = V at HC ⊢
  generalize trapO o = T at HC ⊢
  go_enter Tryd.func65, Tryd.ntmps65
  go_wp2_with fail
  refine Calls.mono (HC.out _ ((Below.refl _ _).alloc (Nat.le_refl _) _)) ?_
  rintro e w1 ⟨rfl, hb1⟩
  go_wp2
  go_ret2
  exact ⟨rfl, ((Below.refl _ _).alloc (Nat.le_refl _) _).trans (hb1.mono (by simp))⟩

set_option maxHeartbeats 1600000 in
set_option maxRecDepth 20000 in
theorem evAll (l : List (Int × Int)) (env : List Int) (f : Nat) (op : Int) (R : List Nat) (m : Nat) (hmm : R.length = m) (vs : Nat → Value) (g cap : Nat) (ve : Option Addr) (ce : Nat) (W : World) (h3 : 3 ≤ op ∧ op ≤ 10) (hR : ar op = m) (hT : Tab W)
    (hg : g < W.heap.size) (hc : ∀ i, i < m → W.cell? ⟨g, i, none⟩ = some (vs i)) (hform : ∀ i, i < m → ∃ t x, vs i = .iface t x)
    (hev : ∀ i, i < m → ∀ W', Below W.heap.size W W' → Calls Tryd.prog 65 #[vs i, .slice ve 4 ce] W' fun e w' => e = .returned (.tuple #[.int .i64 (valO (evalF l env f (R.getD i 0))), .bool (trapO (evalF l env f (R.getD i 0)))]) ∧ Below W'.heap.size W' w') :
    Calls Tryd.prog 83 #[.agg #[.int .i64 op, .slice (some ⟨g, 0, none⟩) m cap], .slice ve 4 ce] W fun e w' => e = .returned (.tuple #[.int .i64 (valO (allO op (seqO (evalF l env f) R))), .bool (trapO (allO op (seqO (evalF l env f) R)))]) ∧ Below W.heap.size W w' := by
  obtain ⟨i64, hi, hz0, hz1, hz2⟩ := info_parts info2
  have hm := ar_range op
  have hm3 : m ≤ 3 := by omega
  have HT : Hid (Tab W) := hT
  have HC : Hid (∀ i, i < m → W.cell? ⟨g, i, none⟩ = some (vs i)) := hc
  have HF : Hid (∀ i, i < m → ∃ t x, vs i = .iface t x) := hform
  have HE : Hid (∀ i, i < m → ∀ W', Below W.heap.size W W' → Calls Tryd.prog 65 #[vs i, .slice ve 4 ce] W' fun e w' => e = .returned (.tuple #[.int .i64 (valO (evalF l env f (R.getD i 0))), .bool (trapO (evalF l env f (R.getD i 0)))]) ∧ Below W'.heap.size W' w') := hev
  clear hc hform hev hT
  have n0 : (W.alloc (.cells #[.int .i64 op, .slice (some ⟨g, 0, none⟩) m cap] 104)).cell? ⟨W.heap.size, 0, none⟩ = some (.int .i64 op) := by simp [go_sem]
  have hb0 : Below W.heap.size W (W.alloc (.cells #[.int .i64 op, .slice (some ⟨g, 0, none⟩) m cap] 104)) := (Below.refl _ _).alloc (Nat.le_refl _) _
  have hsz : W.heap.size < (W.alloc (.cells #[.int .i64 op, .slice (some ⟨g, 0, none⟩) m cap] 104)).heap.size := by simp
  have HD : Hid (∀ W' (a : Option Addr) (c : Nat) (ys : List Int), Tab W' → Sl W' a m ys → Calls Tryd.prog 99 #[.int .i64 op, .slice a m c] W' fun e w' => e = .returned (.tuple #[.int .i64 (dv op (ys.getD 0 0) (ys.getD 1 0) (ys.getD 2 0)), .bool (dt op (ys.getD 1 0)), .bool true]) ∧ Below W'.heap.size W' w') := fun W' a c ys ht hs => implDo_good op a m c ys W' ht ⟨h3.1, by omega⟩ hs hR
  obtain ⟨O, hO⟩ : ∃ O, allO op (seqO (evalF l env f) R) = O := ⟨_, rfl⟩
  rw [hO]
  have HO : Hid (allO op (seqO (evalF l env f) R) = O) := hO
  clear hO
  go_enter Tryd.func83, Tryd.ntmps83
  go_wp2_with fail
  generalize W.alloc (.cells #[.int .i64 op, .slice (some ⟨g, 0, none⟩) m cap] 104) = W1 at n0 hb0 hsz ⊢
  go_loopw [6, 17] (fun o i wr => ∃ (k : Nat) (ys : List Int), k ≤ m ∧ i = .int .i64 k ∧ Hid (seqO (evalF l env f) (R.take k) = some ys) ∧ wr.ownsRow W1.heap.size 2 1 o ys.length (vals ys) ∧ ys.length = k ∧ Below W1.heap.size W1 wr) (fun _ i _ => m - (intOf i).toNat)
  case atStart => exact ⟨0, [], Nat.zero_le _, rfl, rfl, World.ownsRow_nil _ _ _ _, rfl, Below.refl _ _⟩
  case round =>
    obtain ⟨k, ys, hk, rfl, hsq, hown, hyl, hbr⟩ := hrel
    have hBr := hb0.trans (hbr.mono hb0.size)
    by_cases hlt : k < m
    · have c1 := (hBr.cell (p := ⟨g, k, none⟩) hg).trans (HC.out k hlt)
      obtain ⟨tt, xx, ev⟩ := HF.out k hlt
      have C := HE.out k hlt wr hBr
      rw [ev] at c1 C
      have C := (show Hid _ from C)
      cases ho : evalF l env f (R.getD k 0) with
      | none =>
        rw [ho, show valO none = 0 from rfl, show trapO none = true from rfl] at C
        have hnone : seqO (evalF l env f) R = none := seqO_stop _ R k ys (by omega) hsq.out ho
        have hO : O = none := by rw [← HO.out, hnone]; rfl
        have hlt' : (k : Int) < m := by omega
        clear ho hsq
        go_wp2_with fail
        refine Calls.mono C.out ?_
        rintro e w1 ⟨rfl, hb1⟩
        go_wp2
        go_ret2
        exact ⟨by rw [hO]; rfl, hBr.trans (hb1.mono hBr.size)⟩
      | some x =>
        rw [ho, show valO (some x) = x from rfl, show trapO (some x) = false from rfl] at C
        have hnext : Hid (seqO (evalF l env f) (R.take (k + 1)) = some (ys ++ [x])) := seqO_next _ R k ys x (by omega) hsq.out ho
        clear ho hsq
        go_wp2_with fail
        refine Calls.mono C.out ?_
        rintro e w1 ⟨rfl, hb1⟩
        have hown1 := own_keep hown hb1
        have hbr1 := hbr.trans (hb1.mono hbr.size)
        have hbn := hbr1.alloc hbr1.size (.cells #[.int .i64 x] 2)
        clear C hown
        go_wp2_with (at_builtin; refine wpList_append_own _ rfl _ _ 47 rfl W1.heap.size 2 i64 (.int .i64 0) 1 8 Tryd.underlying47 hi hz0 hz1 hz2 rfl (by decide) u6 _ _ rfl (hown1.alloc _) ⟨w1.heap.size, 0, none⟩ 1 1 [.int .i64 x] rfl (by simp) (cell_new1 w1 .i64 x 2) (one_cell1 .i64 x) (by unfold maxLen; omega) (by omega) hbn.size ?_; intro v' w4 hown4 hg4 _)
        go_roundw
        case rel => exact ⟨k + 1, ys ++ [x], by omega, by go_num, hnext, by rw [List.length_append, vals_append]; exact hown4, by simp [hyl], hbn.grown hg4 hbn.size (own_ge hown1)⟩
        case measure => simp [intOf]; omega
    · obtain rfl : k = m := by omega
      have hsq' := hsq.out
      rw [List.take_of_length_le (by omega)] at hsq'
      have hV : valO O = dv op (ys.getD 0 0) (ys.getD 1 0) (ys.getD 2 0) ∧ trapO O = dt op (ys.getD 1 0) := by rw [← HO.out, hsq', show allO op (some ys) = doO op ys from rfl]; exact do_val op ys
      obtain ⟨a, c, rfl, hsl⟩ := Sl.vals hown
      rw [hyl] at hsl
      have d0 := (hbr.cell (p := ⟨W.heap.size, 0, none⟩) hsz).trans n0
      have C := (show Hid _ from HD.out wr a c ys (HT.out.keeps hBr) hsl)
      generalize dv op (ys.getD 0 0) (ys.getD 1 0) (ys.getD 2 0) = V at C hV
      generalize dt op (ys.getD 1 0) = T at C hV
      have HV := (show Hid _ from hV)
      clear hV
      clear hsq hsq'
      go_wp2_with fail
      refine Calls.mono C.out ?_
      rintro e w1 ⟨rfl, hb1⟩
      go_wp2
      go_ret2
      exact ⟨by have hh := HV.out; rw [hh.1, hh.2]; rfl, hBr.trans (hb1.mono hBr.size)⟩

theorem evalTree_any {l : List (Int × Int)} {q : Int} (h : pile l 0 = some q) (env : List Int) (ve : Option Addr) (ce : Nat) (ok : Nat → Prop) : ∀ (f k : Nat) (v : Value), k < l.length → EvAt l env ve ce ok f k v
  | 0, _, _, _ => fun W ht => ht.elim
  | f + 1, k, v, hk => by
    intro W ht hT hS
    have IH := fun k v hk => evalTree_any h env ve ce ok f k v hk
    obtain ⟨h1, h2⟩ := cnt_step h k hk
    obtain ⟨a1, a2, a3, _⟩ := fits_iff _ _ _ _ h1
    rcases ht with ⟨h0, rfl⟩ | ⟨h0, rfl⟩ | ⟨h0, v0, v1, v2, rfl, t0, t1, t2⟩ | ⟨h0, h0', g, cap, vs, rfl, hok, hg, hc⟩
    · have e : evalF l env (f + 1) k = some (l.getD k (0, 0)).2 := by unfold evalF; rw [if_pos h0]
      rw [e]
      exact evNum _ ve ce W
    · obtain ⟨n0, n4⟩ := a3 h0
      have e : evalF l env (f + 1) k = some (env.getD (l.getD k (0, 0)).2.toNat 0) := by unfold evalF; rw [if_neg (by omega), if_pos h0]
      rw [e]
      obtain ⟨n, hn⟩ := Int.eq_ofNat_of_zero_le n0
      rw [hn, Int.toNat_natCast]
      obtain ⟨b, off, rfl, hc⟩ := cells_of hS (by omega)
      exact evVar n (by omega) b off ce _ W (hc n (by omega))
    · have e : evalF l env (f + 1) k = ifO (evalF l env f ((roots l 3 k).getD 0 0)) (evalF l env f ((roots l 3 k).getD 1 0)) (evalF l env f ((roots l 3 k).getD 2 0)) := by
        show (if _ then _ else _) = _
        rw [if_neg (by omega), if_neg (by omega), if_pos h0]
      rw [e]
      have hr : ∀ i, i < 3 → (roots l 3 k).getD i 0 < l.length := fun i hi => by
        have e3 : ar (l.getD k (0, 0)).1 = 3 := by rw [h0]; rfl
        have := getD_lt (roots l 3 k) k i (roots_lt h 3 k (by omega) (by omega)) (by rw [roots_len]; exact hi)
        omega
      obtain ⟨x0, y0, rfl⟩ := t0.form
      obtain ⟨x1, y1, rfl⟩ := t1.form
      obtain ⟨x2, y2, rfl⟩ := t2.form
      refine evCh _ ve ce W _ _ _ (fun W1 hb1 => evChoice _ _ _ y0 y1 y2 x0 x1 x2 ve ce W1
        (fun W' hb => IH _ _ (hr 0 (by omega)) W' ((t0.keep hb1).keep hb) (Tab.keeps (hT.keeps hb1) hb) ((hS.keep hb1).keep hb))
        (fun W' hb => IH _ _ (hr 1 (by omega)) W' ((t1.keep hb1).keep hb) (Tab.keeps (hT.keeps hb1) hb) ((hS.keep hb1).keep hb))
        (fun W' hb => IH _ _ (hr 2 (by omega)) W' ((t2.keep hb1).keep hb) (Tab.keeps (hT.keeps hb1) hb) ((hS.keep hb1).keep hb))) x0 x1 x2 y0 y1 y2 rfl rfl rfl
    · have e : evalF l env (f + 1) k = allO (l.getD k (0, 0)).1 (seqO (evalF l env f) (roots l (ar (l.getD k (0, 0)).1).toNat k)) := by
        show (if _ then _ else _) = _
        rw [if_neg (by omega), if_neg (by omega), if_neg (by omega)]
      rw [e]
      obtain ⟨m, hm⟩ : ∃ m : Nat, ar (l.getD k (0, 0)).1 = m := ⟨(ar (l.getD k (0, 0)).1).toNat, by omega⟩
      rw [hm, Int.toNat_natCast] at hc
      rw [hm, Int.toNat_natCast]
      have hr : ∀ i, i < m → (roots l m k).getD i 0 < l.length := fun i hi => by
        have := getD_lt (roots l m k) k i (roots_lt h m k (by omega) (by omega)) (by rw [roots_len]; exact hi)
        omega
      refine evOp _ ve ce W _ _ _ _ (fun W1 hb1 => evAll l env f _ (roots l m k) m (roots_len l m k) vs g cap ve ce W1 ⟨h0, h0'⟩ hm (hT.keeps hb1) (Nat.lt_of_lt_of_le hg hb1.size) (fun i hi => (hb1.cell (p := ⟨g, i, none⟩) hg).trans (hc i hi).1) (fun i hi => (hc i hi).2.form)
        (fun i hi W' hb => IH _ _ (hr i hi) W' (((hc i hi).2.keep hb1).keep hb) (Tab.keeps (hT.keeps hb1) hb) ((hS.keep hb1).keep hb)))

theorem implEval_any (a : Option Addr) (len cap : Nat) (l : List (Int × Int)) (v : Option Addr) (lv cap' : Nat) (env : List Int) (w : World) (hT : Tab w) (h : NSl w a len l) (he : Sl w v lv env) (hm : len ≤ 9223372036854775807) (hm' : lv ≤ 9223372036854775807) :
    Calls Tryd.prog 51 #[.slice a len cap, .slice v lv cap'] w fun e w' => e = .returned (.tuple #[.int .i64 (evalV l env), .bool (evalTr l env), .bool (evalOk l env)]) ∧ Below w.heap.size w w' := by
  have HG := (show Hid _ from implGood_any a len cap l w hT h hm)
  have hll := h.1
  have hel := he.1
  have HT : Hid (Tab w) := hT
  have HS : Hid (NSl w a len l) := h
  have HE : Hid (Sl w v lv env) := he
  by_cases hg : goodB l = true
  · obtain ⟨hp, g1, g2⟩ := good_pile hg
    rw [hg] at HG
    by_cases h4 : lv = 4
    · subst h4
      have hok : evalOk l env = true := by unfold evalOk; rw [hg, hel]; rfl
      rw [show evalV l env = valO (evalT l env) from by unfold evalV; rw [if_pos hok], show evalTr l env = trapO (evalT l env) from by unfold evalTr; rw [if_pos hok], hok]
      have HTr : Hid (∀ W, Tab W → NSl W a len l → Calls Tryd.prog 60 #[.slice a len cap] W fun e w' => ∃ v, e = .returned v ∧ IsTree w' (fun g => W.heap.size ≤ g) l len (len - 1) v ∧ Below W.heap.size W w') := fun W hT hS => treeOf_any hp a len cap W hT hS (by omega) (by omega)
      have HEv : Hid (∀ W ok x, IsTree W ok l len (len - 1) x → Tab W → Sl W v 4 env → Calls Tryd.prog 65 #[x, .slice v 4 cap'] W fun e w' => e = .returned (.tuple #[.int .i64 (valO (evalT l env)), .bool (trapO (evalT l env))]) ∧ Below W.heap.size W w') := fun W ok x ht hT hS => by
        unfold evalT
        rw [hll]
        exact evalTree_any hp env v cap' ok len (len - 1) x (by omega) W ht hT hS
      generalize valO (evalT l env) = V at HEv ⊢
      generalize trapO (evalT l env) = T at HEv ⊢
      clear h he hT hp hg hok
      go_enter Tryd.func51, Tryd.ntmps51
      go_wp2_with fail
      refine Calls.mono HG.out ?_
      rintro e w1 ⟨rfl, hb1⟩
      clear HG
      go_wp2_with fail
      refine Calls.mono (HTr.out _ (HT.out.keeps hb1) (HS.out.keep hb1)) ?_
      rintro e w2 ⟨x, rfl, htree, hb2⟩
      have hB2 := hb1.trans (hb2.mono hb1.size)
      have HX := (show Hid _ from htree)
      obtain ⟨tt, xx, rfl⟩ := htree.form
      clear htree
      go_wp2_with fail
      refine Calls.mono (HEv.out _ _ _ HX.out (HT.out.keeps hB2) (HE.out.keep hB2)) ?_
      rintro e w3 ⟨rfl, hb3⟩
      go_wp2
      go_ret3
      exact ⟨rfl, hB2.trans (hb3.mono hB2.size)⟩
    · have hok : evalOk l env = false := by unfold evalOk; rw [hg, hel, decide_eq_false h4]; rfl
      rw [show evalV l env = 0 from by unfold evalV; rw [if_neg (by simp [hok])], show evalTr l env = false from by unfold evalTr; rw [if_neg (by simp [hok])], hok]
      have i4 : ((lv : Int) != 4) = true := by simp; omega
      clear h he hT hp hg hok
      go_enter Tryd.func51, Tryd.ntmps51
      go_wp2_with fail
      refine Calls.mono HG.out ?_
      rintro e w1 ⟨rfl, hb1⟩
      go_wp2
      go_ret3
      exact ⟨rfl, hb1⟩
  · have hg' : goodB l = false := by simpa using hg
    have hok : evalOk l env = false := by unfold evalOk; rw [hg']; rfl
    rw [show evalV l env = 0 from by unfold evalV; rw [if_neg (by simp [hok])], show evalTr l env = false from by unfold evalTr; rw [if_neg (by simp [hok])], hok]
    rw [hg'] at HG
    clear h he hT hg hg' hok
    go_enter Tryd.func51, Tryd.ntmps51
    go_wp2_with fail
    refine Calls.mono HG.out ?_
    rintro e w1 ⟨rfl, hb1⟩
    go_wp2
    go_ret3
    exact ⟨rfl, hb1⟩
end Go.Proofs.YtbchehpggoampaaDoor
