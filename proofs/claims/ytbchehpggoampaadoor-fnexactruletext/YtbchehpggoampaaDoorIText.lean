/-
  PROVED HERE: the text of a term that the program tells, at every list of nodes whose numbers lie within 64 bits. The tables are laid. No other condition.
-/
import Derived.Test.YtbchehpggoampaaDoorTextIn
import Derived.Test.YtbchehpggoampaaDoorSegTree
import Derived.Test.YtbchehpggoampaaDoorAsserts
import Derived.Test.YtbchehpggoampaaDoorSigDef
import Derived.Test.YtbchehpggoampaaDoorText
namespace Go.Proofs.YtbchehpggoampaaDoor
open Go.ChangeShapes Go.WideShapes Go.ChangeAt Go.RowKit
set_option linter.unusedVariables false
attribute [local go_sem] as_nn as_nv as_nc as_no as_vn as_vv as_vc as_vo as_cn as_cv as_cc as_co as_on as_ov as_oc as_oo

/-- The program's text of a tree. -/
def TxAt (v : Value) (W0 : World) (L : List UInt8) : Prop := ∀ W, Below W0.heap.size W0 W → Calls Tryd.prog 59 #[v] W fun e w' => e = .returned (.string ⟨L.toArray⟩) ∧ Below W.heap.size W w'
set_option maxRecDepth 20000 in
theorem txNum (n : Int) (hn : InI n) (W : World) (hp : Pow W) : Calls Tryd.prog 59 #[.iface 97 (.agg #[.int .i64 n])] W fun e w' => e = .returned (.string ⟨(Lib.itoa n).toArray⟩) ∧ Below W.heap.size W w' := by
  have hb0 : Below W.heap.size W (W.alloc (.cells #[.int .i64 n] 97)) := (Below.refl _ _).alloc (Nat.le_refl _) _
  have HC := (show Hid _ from impl_any n _ hn (hp.keep hb0))
  generalize Lib.itoa n = L at HC ⊢
  have HB := (show Hid _ from hb0)
  clear hb0
  go_enter Tryd.func59, Tryd.ntmps59
  go_wp2_with fail
  refine Calls.mono HC.out ?_
  rintro e w1 ⟨rfl, hb1⟩
  have hB := HB.out.trans (hb1.mono HB.out.size)
  clear HC HB
  go_wp2
  go_ret
  exact ⟨rfl, hB⟩
theorem var_ext (v : Nat) (hv : v < 4) : (⟨#[97, 98, 99, 100]⟩ : ByteArray).extract v (v + 1) = ⟨#[UInt8.ofNat (97 + v)]⟩ := by
  rcases (show v = 0 ∨ v = 1 ∨ v = 2 ∨ v = 3 by omega) with rfl | rfl | rfl | rfl <;> rfl
set_option maxRecDepth 20000 in
theorem txVar (v : Nat) (hv : v < 4) (W : World) : Calls Tryd.prog 59 #[.iface 99 (.agg #[.int .i64 (v : Int)])] W fun e w' => e = .returned (.string ⟨[UInt8.ofNat (97 + v)].toArray⟩) ∧ Below W.heap.size W w' := by
  have hsl : ∀ W, (Instr.slice 9 (.string ⟨#[97, 98, 99, 100]⟩) (some (.int .i64 (v : Int))) (some (.int .i64 ((v : Int) + 1))) none).run Tryd.prog W = .ok (.string ⟨#[UInt8.ofNat (97 + v)]⟩) W := by
    intro W
    rw [run_slice_string W 9 _ .i64 .i64 _ _ Tryd.underlying9 (by omega) (by omega) (by show (v : Int) + 1 ≤ 4; omega), show ((v : Int) + 1).toNat = v + 1 from by omega, show (v : Int).toNat = v from by omega, var_ext v hv]
  have hv' : (v : Int) < 4 := by omega
  generalize UInt8.ofNat (97 + v) = c at hsl ⊢
  go_enter Tryd.func59, Tryd.ntmps59
  go_wp2
  go_ret
  exact ⟨rfl, by first | exact Below.refl _ _ | go_grown⟩
set_option maxHeartbeats 1600000 in
set_option maxRecDepth 20000 in
theorem txIf (W : World) (t0 t1 t2 : TypeId) (x0 x1 x2 : Value) (L M O : List UInt8) (T0 : TxAt (.iface t0 x0) W L) (T1 : TxAt (.iface t1 x1) W M) (T2 : TxAt (.iface t2 x2) W O) (B0 : L.length ≤ 40000000) (B1 : M.length ≤ 40000000) (B2 : O.length ≤ 40000000) :
    Calls Tryd.prog 59 #[.iface 101 (.agg #[.iface t0 x0, .iface t1 x1, .iface t2 x2])] W fun e w' => e = .returned (.string ⟨(40 :: L ++ (63 :: M) ++ (58 :: O) ++ [41]).toArray⟩) ∧ Below W.heap.size W w' := by
  have b0 : (L.length : Int) ≤ 40000000 := by omega
  have b1 : (M.length : Int) ≤ 40000000 := by omega
  have b2 : (O.length : Int) ≤ 40000000 := by omega
  have g1 : ¬ 9223372036854775807 < 1 + L.length := by omega
  have g2 : ¬ 9223372036854775807 < 1 + L.length + 1 := by omega
  have g3 : ¬ 9223372036854775807 < 1 + L.length + 1 + M.length := by omega
  have g4 : ¬ 9223372036854775807 < 1 + L.length + 1 + M.length + 1 := by omega
  have g5 : ¬ 9223372036854775807 < 1 + L.length + 1 + M.length + 1 + O.length := by omega
  have g6 : ¬ 9223372036854775807 < 1 + L.length + 1 + M.length + 1 + O.length + 1 := by omega
  have n0 : (W.alloc (.cells #[.iface t0 x0, .iface t1 x1, .iface t2 x2] 101)).cell? ⟨W.heap.size, 0, none⟩ = some (.iface t0 x0) := by simp [go_sem]
  have n1 : (W.alloc (.cells #[.iface t0 x0, .iface t1 x1, .iface t2 x2] 101)).cell? ⟨W.heap.size, 1, none⟩ = some (.iface t1 x1) := by simp [go_sem]
  have n2 : (W.alloc (.cells #[.iface t0 x0, .iface t1 x1, .iface t2 x2] 101)).cell? ⟨W.heap.size, 2, none⟩ = some (.iface t2 x2) := by simp [go_sem]
  have hb0 : Below W.heap.size W (W.alloc (.cells #[.iface t0 x0, .iface t1 x1, .iface t2 x2] 101)) := (Below.refl _ _).alloc (Nat.le_refl _) _
  have hsz : W.heap.size < (W.alloc (.cells #[.iface t0 x0, .iface t1 x1, .iface t2 x2] 101)).heap.size := by simp
  go_enter Tryd.func59, Tryd.ntmps59
  go_wp2_with fail
  generalize W.alloc (.cells #[.iface t0 x0, .iface t1 x1, .iface t2 x2] 101) = W1 at n0 n1 n2 hb0 hsz ⊢
  have HB1 : Hid (∀ w', Below W1.heap.size W1 w' → Below W.heap.size W w') := fun w' h' => hb0.trans (h'.mono hb0.size)
  have SA : Hid (TxAt (.iface t0 x0) W L) := T0
  have SB : Hid (TxAt (.iface t1 x1) W M) := T1
  have SC : Hid (TxAt (.iface t2 x2) W O) := T2
  have KS : Hid (∀ w', Below W1.heap.size W1 w' → w'.cell? ⟨W.heap.size, 0, none⟩ = some (.iface t0 x0) ∧ w'.cell? ⟨W.heap.size, 1, none⟩ = some (.iface t1 x1) ∧ w'.cell? ⟨W.heap.size, 2, none⟩ = some (.iface t2 x2) ∧ Below W1.heap.size W1 w') := fun w' h' =>
    ⟨(h'.cell (p := ⟨W.heap.size, 0, none⟩) hsz).trans n0, (h'.cell (p := ⟨W.heap.size, 1, none⟩) hsz).trans n1, (h'.cell (p := ⟨W.heap.size, 2, none⟩) hsz).trans n2, h'⟩
  clear T0 T1 T2 hb0 B0 B1 B2
  go_region_held3 (fun w' => w'.cell? ⟨W.heap.size, 0, none⟩ = some (.iface t0 x0) ∧ w'.cell? ⟨W.heap.size, 1, none⟩ = some (.iface t1 x1) ∧ w'.cell? ⟨W.heap.size, 2, none⟩ = some (.iface t2 x2) ∧ Below W1.heap.size W1 w')
    ((refine KS.out _ ?_; first | assumption | exact held_b (by assumption) | exact (Below.refl _ _).drew))
    (first
      | (go_at_call_of 59 x0; refine (SA.out _ (HB1.out _ (held_b (by assumption)))).mono ?_; rintro e w4 ⟨rfl, hb4⟩; have hk4 := held_step (by assumption) hb4; clear hb4)
      | (go_at_call_of 59 x1; refine (SB.out _ (HB1.out _ (held_b (by assumption)))).mono ?_; rintro e w5 ⟨rfl, hb5⟩; have hk5 := held_step (by assumption) hb5; clear hb5)
      | (go_at_call_of 59 x2; refine (SC.out _ (HB1.out _ (held_b (by assumption)))).mono ?_; rintro e w6 ⟨rfl, hb6⟩; have hk6 := held_step (by assumption) hb6; clear hb6))
  all_goals
    go_wp2
    go_ret
    refine ⟨congrArg (fun b => Ending.returned (Value.string b)) (by simp [ByteArray.mk_append_mk]), HB1.out _ ?_⟩
    first | assumption | exact held_b (by assumption)
set_option maxHeartbeats 1600000 in
set_option maxRecDepth 20000 in
theorem txNegOp (W : World) (g cap : Nat) (t0 : TypeId) (x0 : Value) (L : List UInt8) (hc : W.cell? ⟨g, 0, none⟩ = some (.iface t0 x0)) (T0 : TxAt (.iface t0 x0) W L) (B0 : L.length ≤ 40000000) :
    Calls Tryd.prog 72 #[.agg #[.int .i64 3, .slice (some ⟨g, 0, none⟩) 1 cap]] W fun e w' => e = .returned (.string ⟨(126 :: L).toArray⟩) ∧ Below W.heap.size W w' := by
  have b0 : (L.length : Int) ≤ 40000000 := by omega
  have g1 : ¬ 9223372036854775807 < 1 + L.length := by omega
  have hg : g < W.heap.size := World.block_lt_of_cell? W _ hc
  have hne : ¬ g = W.heap.size := by omega
  have d0 := Lib.cell?_alloc_some (.cells #[.int .i64 3, .slice (some ⟨g, 0, none⟩) 1 cap] 104) hc
  have hb0 : Below W.heap.size W (W.alloc (.cells #[.int .i64 3, .slice (some ⟨g, 0, none⟩) 1 cap] 104)) := (Below.refl _ _).alloc (Nat.le_refl _) _
  have HC := (show Hid _ from T0 _ hb0)
  have HB := (show Hid _ from hb0)
  clear T0 hb0 hc
  go_enter Tryd.func72, Tryd.ntmps72
  go_wp2_with fail
  refine Calls.mono HC.out ?_
  rintro e w1 ⟨rfl, hb1⟩
  have hB := HB.out.trans (hb1.mono HB.out.size)
  clear HC HB
  go_wp2
  go_ret
  exact ⟨congrArg (fun b => Ending.returned (Value.string b)) (by simp [ByteArray.mk_append_mk]), hB⟩
set_option maxHeartbeats 1600000 in
set_option maxRecDepth 20000 in
theorem txTwoOp (W : World) (g cap : Nat) (op : Nat) (hop : 4 ≤ op ∧ op ≤ 10) (hS : Sig W) (t0 t1 : TypeId) (x0 x1 : Value) (L M S : List UInt8) (hSg : signB (op : Int) = S) (hSl : S.length ≤ 2) (hc : W.cell? ⟨g, 0, none⟩ = some (.iface t0 x0)) (hd : W.cell? ⟨g, 1, none⟩ = some (.iface t1 x1)) (T0 : TxAt (.iface t0 x0) W L) (T1 : TxAt (.iface t1 x1) W M) (B0 : L.length ≤ 40000000) (B1 : M.length ≤ 40000000) :
    Calls Tryd.prog 72 #[.agg #[.int .i64 (op : Int), .slice (some ⟨g, 0, none⟩) 2 cap]] W fun e w' => e = .returned (.string ⟨(40 :: L ++ S ++ M ++ [41]).toArray⟩) ∧ Below W.heap.size W w' := by
  have b0 : (L.length : Int) ≤ 40000000 := by omega
  have b1 : (M.length : Int) ≤ 40000000 := by omega
  have g1 : ¬ 9223372036854775807 < 1 + L.length := by omega
  have g2 : ¬ 9223372036854775807 < 1 + L.length + S.length := by omega
  have g3 : ¬ 9223372036854775807 < 1 + L.length + S.length + M.length := by omega
  have g4 : ¬ 9223372036854775807 < 1 + L.length + S.length + M.length + 1 := by omega
  have o3 : ((op : Int) == 3) = false := by simp; omega
  have o1 : (op : Int) < 11 := by omega
  have hg : g < W.heap.size := World.block_lt_of_cell? W _ hc
  have hs0 := hS op (by omega)
  rw [hSg] at hs0
  have hsl : 1 < W.heap.size := World.block_lt_of_cell? W _ hs0
  obtain ⟨W1, hW1⟩ : ∃ W1, W.alloc (.cells #[.int .i64 (op : Int), .slice (some ⟨g, 0, none⟩) 2 cap] 104) = W1 := ⟨_, rfl⟩
  have n0 : W1.cell? ⟨W.heap.size, 0, none⟩ = some (.int .i64 (op : Int)) := by rw [← hW1]; simp [go_sem]
  have n1 : W1.cell? ⟨W.heap.size, 1, none⟩ = some (.slice (some ⟨g, 0, none⟩) 2 cap) := by rw [← hW1]; simp [go_sem]
  have n2 : W1.cell? ⟨g, 0, none⟩ = some (.iface t0 x0) := by rw [← hW1]; exact Lib.cell?_alloc_some _ hc
  have n3 : W1.cell? ⟨g, 1, none⟩ = some (.iface t1 x1) := by rw [← hW1]; exact Lib.cell?_alloc_some _ hd
  have n4 : W1.cell? ⟨1, op, none⟩ = some (.string ⟨S.toArray⟩) := by rw [← hW1]; exact Lib.cell?_alloc_some _ hs0
  have hb0 : Below W.heap.size W W1 := by rw [← hW1]; exact (Below.refl _ _).alloc (Nat.le_refl _) _
  have hsz : W.heap.size < W1.heap.size := by rw [← hW1]; simp
  have HB1 : Hid (∀ w', Below W1.heap.size W1 w' → Below W.heap.size W w') := fun w' h' => hb0.trans (h'.mono hb0.size)
  have SA : Hid (TxAt (.iface t0 x0) W L) := T0
  have SB : Hid (TxAt (.iface t1 x1) W M) := T1
  have KS : Hid (∀ w', Below W1.heap.size W1 w' → w'.cell? ⟨W.heap.size, 0, none⟩ = some (.int .i64 (op : Int)) ∧ w'.cell? ⟨W.heap.size, 1, none⟩ = some (.slice (some ⟨g, 0, none⟩) 2 cap) ∧ w'.cell? ⟨g, 0, none⟩ = some (.iface t0 x0) ∧ w'.cell? ⟨g, 1, none⟩ = some (.iface t1 x1) ∧ w'.cell? ⟨1, op, none⟩ = some (.string ⟨S.toArray⟩) ∧ Below W1.heap.size W1 w') := fun w' h' =>
    ⟨(h'.cell (p := ⟨W.heap.size, 0, none⟩) hsz).trans n0, (h'.cell (p := ⟨W.heap.size, 1, none⟩) hsz).trans n1, (h'.cell (p := ⟨g, 0, none⟩) (Nat.lt_trans hg hsz)).trans n2, (h'.cell (p := ⟨g, 1, none⟩) (Nat.lt_trans hg hsz)).trans n3, (h'.cell (p := ⟨1, op, none⟩) (Nat.lt_trans hsl hsz)).trans n4, h'⟩
  clear T0 T1 hb0 B0 B1 hc hd hS hs0 hSg hop hSl
  go_enter Tryd.func72, Tryd.ntmps72
  go_wp2_with fail
  (try rw [hW1])
  clear hW1
  go_region_held3 (fun w' => w'.cell? ⟨W.heap.size, 0, none⟩ = some (.int .i64 (op : Int)) ∧ w'.cell? ⟨W.heap.size, 1, none⟩ = some (.slice (some ⟨g, 0, none⟩) 2 cap) ∧ w'.cell? ⟨g, 0, none⟩ = some (.iface t0 x0) ∧ w'.cell? ⟨g, 1, none⟩ = some (.iface t1 x1) ∧ w'.cell? ⟨1, op, none⟩ = some (.string ⟨S.toArray⟩) ∧ Below W1.heap.size W1 w')
    ((refine KS.out _ ?_; first | assumption | exact heldT_b (by assumption) | exact (Below.refl _ _).drew))
    (first
      | (go_at_call_of 59 x0; refine (SA.out _ (HB1.out _ (heldT_b (by assumption)))).mono ?_; rintro e w4 ⟨rfl, hb4⟩; have hk4 := heldT_step (by assumption) hb4; clear hb4)
      | (go_at_call_of 59 x1; refine (SB.out _ (HB1.out _ (heldT_b (by assumption)))).mono ?_; rintro e w5 ⟨rfl, hb5⟩; have hk5 := heldT_step (by assumption) hb5; clear hb5))
  all_goals
    go_wp2
    go_ret
    refine ⟨congrArg (fun b => Ending.returned (Value.string b)) (by simp [ByteArray.mk_append_mk]), HB1.out _ ?_⟩
    first | assumption | exact heldT_b (by assumption)
set_option maxRecDepth 20000 in
theorem txOp (W : World) (op : Int) (g m cap : Nat) (L : List UInt8) (C : ∀ W', Below W.heap.size W W' → Calls Tryd.prog 72 #[.agg #[.int .i64 op, .slice (some ⟨g, 0, none⟩) m cap]] W' fun e w' => e = .returned (.string ⟨L.toArray⟩) ∧ Below W'.heap.size W' w') :
    Calls Tryd.prog 59 #[.iface 104 (.agg #[.int .i64 op, .slice (some ⟨g, 0, none⟩) m cap])] W fun e w' => e = .returned (.string ⟨L.toArray⟩) ∧ Below W.heap.size W w' := by
  have hb0 : Below W.heap.size W (W.alloc (.cells #[.int .i64 op, .slice (some ⟨g, 0, none⟩) m cap] 104)) := (Below.refl _ _).alloc (Nat.le_refl _) _
  have HC := (show Hid _ from C _ hb0)
  have HB := (show Hid _ from hb0)
  clear C hb0
  go_enter Tryd.func59, Tryd.ntmps59
  go_wp2_with fail
  refine Calls.mono HC.out ?_
  rintro e w1 ⟨rfl, hb1⟩
  have hB := HB.out.trans (hb1.mono HB.out.size)
  clear HC HB
  go_wp2
  go_ret
  exact ⟨rfl, hB⟩
theorem Sig.keep {w w' : World} (h : Sig w) (hb : Below w.heap.size w w') : Sig w' := fun i hi =>
  (hb.cell (p := ⟨1, i, none⟩) (World.block_lt_of_cell? w _ (h i hi))).trans (h i hi)
theorem textTree_any {l : List (Int × Int)} {q : Int} (h : pile l 0 = some q) (hn : InN l) (hl : l.length ≤ 1048576) (ok : Nat → Prop) : ∀ (f k : Nat) (v : Value), k < f → k < l.length → ∀ W, IsTree W ok l f k v → Pow W → Sig W → Calls Tryd.prog 59 #[v] W fun e w' => e = .returned (.string ⟨(textG l f k).toArray⟩) ∧ Below W.heap.size W w'
  | 0, _, _, hf, _ => by omega
  | f + 1, k, v, hf, hk => by
    intro W ht hP hS
    have IH := fun k v hf hk => textTree_any h hn hl ok f k v hf hk
    obtain ⟨h1, h2⟩ := cnt_step h k hk
    obtain ⟨a1, a2, a3, _⟩ := fits_iff _ _ _ _ h1
    have HB : ∀ r, r < k → (textG l f r).length ≤ 40000000 := fun r hr => by
      have := textG_len h (fun j hj => itoa_len _ (hn j)) (r + 1) r (by omega) (by omega) f (by omega)
      omega
    have TX : ∀ r u, r < k → IsTree W ok l f r u → TxAt u W (textG l f r) := fun r u hr hu W' hb => IH r u (by omega) (by omega) W' (hu.keep hb) (hP.keep hb) (hS.keep hb)
    rcases ht with ⟨h0, rfl⟩ | ⟨h0, rfl⟩ | ⟨h0, v0, v1, v2, rfl, t0, t1, t2⟩ | ⟨h0, h0', g, cap, vs, rfl, hok, hg, hc⟩
    · have e : textG l (f + 1) k = Lib.itoa (l.getD k (0, 0)).2 := by show nodeT _ _ = _; unfold nodeT; rw [if_pos h0]
      rw [e]
      exact txNum _ (hn k) W hP
    · obtain ⟨n0, n4⟩ := a3 h0
      obtain ⟨n, hnn⟩ := Int.eq_ofNat_of_zero_le n0
      have e : textG l (f + 1) k = [UInt8.ofNat (97 + n)] := by show nodeT _ _ = _; unfold nodeT; rw [if_neg (by omega), if_pos h0, hnn]; rfl
      rw [e, hnn]
      exact txVar n (by omega) W
    · have har : ar (l.getD k (0, 0)).1 = ((3 : Nat) : Int) := by rw [h0]; rfl
      have hRl : (roots l 3 k).length = 3 := roots_len _ _ _
      have e : textG l (f + 1) k = 40 :: textG l f ((roots l 3 k).getD 0 0) ++ (63 :: textG l f ((roots l 3 k).getD 1 0)) ++ (58 :: textG l f ((roots l 3 k).getD 2 0)) ++ [41] := by
        show nodeT _ _ = _
        unfold nodeT
        rw [if_neg (by omega), if_neg (by omega), if_neg (by omega), if_pos h0, har, Int.toNat_natCast]
        match roots l 3 k, hRl with
        | [r, s, u], _ => rfl
      rw [e]
      have hr : ∀ i, i < 3 → (roots l 3 k).getD i 0 < k := fun i hi => getD_lt (roots l 3 k) k i (roots_lt h 3 k (by omega) (by omega)) (by rw [roots_len]; exact hi)
      obtain ⟨x0, y0, rfl⟩ := t0.form
      obtain ⟨x1, y1, rfl⟩ := t1.form
      obtain ⟨x2, y2, rfl⟩ := t2.form
      exact txIf W x0 x1 x2 y0 y1 y2 _ _ _ (TX _ _ (hr 0 (by omega)) t0) (TX _ _ (hr 1 (by omega)) t1) (TX _ _ (hr 2 (by omega)) t2) (HB _ (hr 0 (by omega))) (HB _ (hr 1 (by omega))) (HB _ (hr 2 (by omega)))
    · by_cases h3 : (l.getD k (0, 0)).1 = 3
      · have har : ar (l.getD k (0, 0)).1 = ((1 : Nat) : Int) := by rw [h3]; rfl
        have hRl : (roots l 1 k).length = 1 := roots_len _ _ _
        have e : textG l (f + 1) k = 126 :: textG l f ((roots l 1 k).getD 0 0) := by
          show nodeT _ _ = _
          unfold nodeT
          rw [if_neg (by omega), if_neg (by omega), if_pos h3, har, Int.toNat_natCast]
          match roots l 1 k, hRl with
          | [r], _ => rfl
        rw [e]
        rw [har, Int.toNat_natCast] at hc ⊢
        rw [h3]
        have hr : (roots l 1 k).getD 0 0 < k := getD_lt (roots l 1 k) k 0 (roots_lt h 1 k (by omega) (by omega)) (by omega)
        obtain ⟨c0, t0⟩ := hc 0 (by omega)
        obtain ⟨x0, y0, e0⟩ := t0.form
        rw [e0] at c0 t0
        exact txOp W 3 g 1 cap _ (fun W' hb => txNegOp W' g cap x0 y0 _ ((hb.cell (p := ⟨g, 0, none⟩) hg).trans c0) (fun W2 hb2 => TX _ _ hr t0 W2 (hb.trans (hb2.mono hb.size))) (HB _ hr))
      · obtain ⟨op, hop⟩ := Int.eq_ofNat_of_zero_le (show 0 ≤ (l.getD k (0, 0)).1 by omega)
        have har : ar (l.getD k (0, 0)).1 = ((2 : Nat) : Int) := by
          generalize (l.getD k (0, 0)).1 = x at h0 h0' h3
          rcases (show x = 4 ∨ x = 5 ∨ x = 6 ∨ x = 7 ∨ x = 8 ∨ x = 9 ∨ x = 10 by omega) with rfl | rfl | rfl | rfl | rfl | rfl | rfl <;> rfl
        have hRl : (roots l 2 k).length = 2 := roots_len _ _ _
        have e : textG l (f + 1) k = 40 :: textG l f ((roots l 2 k).getD 0 0) ++ signB (l.getD k (0, 0)).1 ++ textG l f ((roots l 2 k).getD 1 0) ++ [41] := by
          show nodeT _ _ = _
          unfold nodeT
          rw [if_neg (by omega), if_neg (by omega), if_neg h3, if_neg (by omega), har, Int.toNat_natCast]
          match roots l 2 k, hRl with
          | [r, s], _ => rfl
        rw [e]
        rw [har, Int.toNat_natCast] at hc ⊢
        rw [hop]
        have hSl : (signB (op : Int)).length ≤ 2 := by
          unfold signB
          repeat' split
          all_goals simp
        have hr : ∀ i, i < 2 → (roots l 2 k).getD i 0 < k := fun i hi => getD_lt (roots l 2 k) k i (roots_lt h 2 k (by omega) (by omega)) (by omega)
        obtain ⟨c0, t0⟩ := hc 0 (by omega)
        obtain ⟨c1, t1⟩ := hc 1 (by omega)
        obtain ⟨x0, y0, e0⟩ := t0.form
        obtain ⟨x1, y1, e1⟩ := t1.form
        rw [e0] at c0 t0
        rw [e1] at c1 t1
        exact txOp W op g 2 cap _ (fun W' hb => txTwoOp W' g cap op (by omega) (hS.keep hb) x0 x1 y0 y1 _ _ _ rfl hSl ((hb.cell (p := ⟨g, 0, none⟩) hg).trans c0) ((hb.cell (p := ⟨g, 1, none⟩) hg).trans c1) (fun W2 hb2 => TX _ _ (hr 0 (by omega)) t0 W2 (hb.trans (hb2.mono hb.size))) (fun W2 hb2 => TX _ _ (hr 1 (by omega)) t1 W2 (hb.trans (hb2.mono hb.size))) (HB _ (hr 0 (by omega))) (HB _ (hr 1 (by omega))))
theorem implText_any (a : Option Addr) (len cap : Nat) (l : List (Int × Int)) (w : World) (hT : Tab w) (hP : Pow w) (hS : Sig w) (h : NSl w a len l) (hm : len ≤ 9223372036854775807) (hn : InN l) :
    Calls Tryd.prog 43 #[.slice a len cap] w fun e w' => e = .returned (.tuple #[.string ⟨(termT l).toArray⟩, .bool (goodB l)]) ∧ Below w.heap.size w w' := by
  have HG := (show Hid _ from implGood_any a len cap l w hT h hm)
  have hll := h.1
  by_cases hg : goodB l = true
  · obtain ⟨hp, g1, g2⟩ := good_pile hg
    unfold termT
    rw [if_pos hg, hg]
    rw [hg] at HG
    have HTr : Hid (∀ W, Below w.heap.size w W → Calls Tryd.prog 60 #[.slice a len cap] W fun e w' => ∃ v, e = .returned v ∧ IsTree w' (fun g => W.heap.size ≤ g) l len (len - 1) v ∧ Below W.heap.size W w') := fun W hb => treeOf_any hp a len cap W (hT.keeps hb) (h.keep hb) (by omega) (by omega)
    have HX : Hid (∀ W ok x, Below w.heap.size w W → IsTree W ok l len (len - 1) x → Calls Tryd.prog 59 #[x] W fun e w' => e = .returned (.string ⟨(textT l).toArray⟩) ∧ Below W.heap.size W w') := fun W ok x hb ht => by
      unfold textT
      rw [hll]
      exact textTree_any hp hn (by omega) ok len (len - 1) x (by omega) (by omega) W ht (hP.keep hb) (hS.keep hb)
    generalize textT l = L at HX ⊢
    clear hg hp hn hT hP hS h
    go_enter Tryd.func43, Tryd.ntmps43
    go_wp2_with fail
    refine Calls.mono HG.out ?_
    rintro e w1 ⟨rfl, hb1⟩
    clear HG
    go_wp2_with fail
    refine Calls.mono (HTr.out _ hb1) ?_
    rintro e w2 ⟨x, rfl, htree, hb2⟩
    have hB2 := hb1.trans (hb2.mono hb1.size)
    have HQ := (show Hid _ from HX.out _ _ _ hB2 htree)
    obtain ⟨tt, xx, rfl⟩ := htree.form
    clear htree HTr HX
    go_wp2_with fail
    refine Calls.mono HQ.out ?_
    rintro e w3 ⟨rfl, hb3⟩
    have hB3 := hB2.trans (hb3.mono hB2.size)
    clear HQ
    go_wp2
    go_ret2
    exact ⟨rfl, hB3⟩
  · have hg' : goodB l = false := by simpa using hg
    unfold termT
    rw [if_neg hg, hg']
    rw [hg'] at HG
    clear hg hg' hn hT hP hS h
    go_enter Tryd.func43, Tryd.ntmps43
    go_wp2_with fail
    refine Calls.mono HG.out ?_
    rintro e w1 ⟨rfl, hb1⟩
    go_wp2
    go_ret2
    exact ⟨rfl, hb1⟩
end Go.Proofs.YtbchehpggoampaaDoor
