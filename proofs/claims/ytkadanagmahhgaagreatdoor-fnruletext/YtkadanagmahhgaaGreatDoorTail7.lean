/-
  PROVED HERE: the text of a term that the program tells, at every list of nodes whose numbers lie within 64 bits. The tables are laid. No other condition. what the model's and the program's RuleText answer, at every two lists of nodes, and the law FnExactRuleText's own run. The tables are laid. No other condition. plain facts on rules and their texts: a rule is read back from its text, and a text that is read is the text of its rule. No condition but numbers within 64 bits. the laws' own drawn rule: two lists of nodes, not too long, in new memory, whatever the bytes. No condition.
-/
import Derived.Test.YtkadanagmahhgaaGreatDoorRun2
import Derived.Test.YtkadanagmahhgaaGreatDoorRun32
import Derived.Test.YtkadanagmahhgaaGreatDoorRun33
import Derived.Test.YtkadanagmahhgaaGreatDoorRun13
import Derived.Test.YtkadanagmahhgaaGreatDoorRun6
import Derived.Test.YtkadanagmahhgaaGreatDoorRun18
import Derived.Test.YtkadanagmahhgaaGreatDoorRun3
import Derived.Test.YtkadanagmahhgaaGreatDoorRun10
import Derived.Test.YtkadanagmahhgaaGreatDoorRun16
import Derived.Test.YtkadanagmahhgaaGreatDoorTail6
namespace Go.Proofs.YtkadanagmahhgaaGreatDoor
open Go.ChangeShapes Go.WideShapes Go.ChangeAt Go.RowKit
set_option linter.unusedVariables false
attribute [local go_sem] as_nn as_nv as_nc as_no as_vn as_vv as_vc as_vo as_cn as_cv as_cc as_co as_on as_ov as_oc as_oo

/-- The program's text of a tree. -/
def TxAt (v : Value) (W0 : World) (L : List UInt8) : Prop := ∀ W, Below W0.heap.size W0 W → Calls Tryz.prog 44 #[v] W fun e w' => e = .returned (.string ⟨L.toArray⟩) ∧ Below W.heap.size W w'
set_option maxRecDepth 20000 in
theorem txNum (n : Int) (hn : InI n) (W : World) (hp : Pow W) : Calls Tryz.prog 44 #[.iface 108 (.agg #[.int .i64 n])] W fun e w' => e = .returned (.string ⟨(Lib.itoa n).toArray⟩) ∧ Below W.heap.size W w' := by
  have hb0 : Below W.heap.size W (W.alloc (.cells #[.int .i64 n] 108)) := (Below.refl _ _).alloc (Nat.le_refl _) _
  have HC := (show Hid _ from impl_any n _ hn (hp.keep hb0))
  generalize Lib.itoa n = L at HC ⊢
  have HB := (show Hid _ from hb0)
  clear hb0
  go_enter Tryz.func44, Tryz.ntmps44
  go_wp2_with fail
  refine Calls.mono HC.out ?_
  rintro e w1 ⟨rfl, hb1⟩
  have hB := HB.out.trans (hb1.mono HB.out.size)
  clear HC HB
  go_wp2
  go_ret
  exact ⟨rfl, hB⟩
theorem var_ext (v : Nat) (hv : v < 4) : (⟨#[97, 98, 99, 100]⟩ : ByteArray).extract v (v + 1) = ⟨#[UInt8.ofNat (97 + v)]⟩ := by
  rcases (show v = 0 ∨ v = 1 ∨ v = 2 ∨ v = 3 by omega) with rfl | rfl | rfl | rfl <;> rfl
set_option maxRecDepth 20000 in
theorem txVar (v : Nat) (hv : v < 4) (W : World) : Calls Tryz.prog 44 #[.iface 110 (.agg #[.int .i64 (v : Int)])] W fun e w' => e = .returned (.string ⟨[UInt8.ofNat (97 + v)].toArray⟩) ∧ Below W.heap.size W w' := by
  have hsl : ∀ W, (Instr.slice 9 (.string ⟨#[97, 98, 99, 100]⟩) (some (.int .i64 (v : Int))) (some (.int .i64 ((v : Int) + 1))) none).run Tryz.prog W = .ok (.string ⟨#[UInt8.ofNat (97 + v)]⟩) W := by
    intro W
    rw [run_slice_string W 9 _ .i64 .i64 _ _ Tryz.underlying9 (by omega) (by omega) (by show (v : Int) + 1 ≤ 4; omega), show ((v : Int) + 1).toNat = v + 1 from by omega, show (v : Int).toNat = v from by omega, var_ext v hv]
  have hv' : (v : Int) < 4 := by omega
  generalize UInt8.ofNat (97 + v) = c at hsl ⊢
  go_enter Tryz.func44, Tryz.ntmps44
  go_wp2
  go_ret
  exact ⟨rfl, by first | exact Below.refl _ _ | go_grown⟩
set_option maxHeartbeats 1600000 in
set_option maxRecDepth 20000 in
theorem txIf (W : World) (t0 t1 t2 : TypeId) (x0 x1 x2 : Value) (L M O : List UInt8) (T0 : TxAt (.iface t0 x0) W L) (T1 : TxAt (.iface t1 x1) W M) (T2 : TxAt (.iface t2 x2) W O) (B0 : L.length ≤ 40000000) (B1 : M.length ≤ 40000000) (B2 : O.length ≤ 40000000) :
    Calls Tryz.prog 44 #[.iface 112 (.agg #[.iface t0 x0, .iface t1 x1, .iface t2 x2])] W fun e w' => e = .returned (.string ⟨(40 :: L ++ (63 :: M) ++ (58 :: O) ++ [41]).toArray⟩) ∧ Below W.heap.size W w' := by
  have b0 : (L.length : Int) ≤ 40000000 := by omega
  have b1 : (M.length : Int) ≤ 40000000 := by omega
  have b2 : (O.length : Int) ≤ 40000000 := by omega
  have g1 : ¬ 9223372036854775807 < 1 + L.length := by omega
  have g2 : ¬ 9223372036854775807 < 1 + L.length + 1 := by omega
  have g3 : ¬ 9223372036854775807 < 1 + L.length + 1 + M.length := by omega
  have g4 : ¬ 9223372036854775807 < 1 + L.length + 1 + M.length + 1 := by omega
  have g5 : ¬ 9223372036854775807 < 1 + L.length + 1 + M.length + 1 + O.length := by omega
  have g6 : ¬ 9223372036854775807 < 1 + L.length + 1 + M.length + 1 + O.length + 1 := by omega
  have n0 : (W.alloc (.cells #[.iface t0 x0, .iface t1 x1, .iface t2 x2] 112)).cell? ⟨W.heap.size, 0, none⟩ = some (.iface t0 x0) := by simp [go_sem]
  have n1 : (W.alloc (.cells #[.iface t0 x0, .iface t1 x1, .iface t2 x2] 112)).cell? ⟨W.heap.size, 1, none⟩ = some (.iface t1 x1) := by simp [go_sem]
  have n2 : (W.alloc (.cells #[.iface t0 x0, .iface t1 x1, .iface t2 x2] 112)).cell? ⟨W.heap.size, 2, none⟩ = some (.iface t2 x2) := by simp [go_sem]
  have hb0 : Below W.heap.size W (W.alloc (.cells #[.iface t0 x0, .iface t1 x1, .iface t2 x2] 112)) := (Below.refl _ _).alloc (Nat.le_refl _) _
  have hsz : W.heap.size < (W.alloc (.cells #[.iface t0 x0, .iface t1 x1, .iface t2 x2] 112)).heap.size := by simp
  go_enter Tryz.func44, Tryz.ntmps44
  go_wp2_with fail
  generalize W.alloc (.cells #[.iface t0 x0, .iface t1 x1, .iface t2 x2] 112) = W1 at n0 n1 n2 hb0 hsz ⊢
  have HB1 : Hid (∀ w', Below W1.heap.size W1 w' → Below W.heap.size W w') := fun w' h' => hb0.trans (h'.mono hb0.size)
  have SA : Hid (TxAt (.iface t0 x0) W L) := T0
  have SB : Hid (TxAt (.iface t1 x1) W M) := T1
  have SC : Hid (TxAt (.iface t2 x2) W O) := T2
  have KS : Hid (∀ w', Below W1.heap.size W1 w' → w'.cell? ⟨W.heap.size, 0, none⟩ = some (.iface t0 x0) ∧ w'.cell? ⟨W.heap.size, 1, none⟩ = some (.iface t1 x1) ∧ w'.cell? ⟨W.heap.size, 2, none⟩ = some (.iface t2 x2) ∧ Below W1.heap.size W1 w') := fun w' h' =>
    ⟨(h'.cell (p := ⟨W.heap.size, 0, none⟩) hsz).trans n0, (h'.cell (p := ⟨W.heap.size, 1, none⟩) hsz).trans n1, (h'.cell (p := ⟨W.heap.size, 2, none⟩) hsz).trans n2, h'⟩
  clear T0 T1 T2 hb0 B0 B1 B2
  go_region_held3 (fun w' => w'.cell? ⟨W.heap.size, 0, none⟩ = some (.iface t0 x0) ∧ w'.cell? ⟨W.heap.size, 1, none⟩ = some (.iface t1 x1) ∧ w'.cell? ⟨W.heap.size, 2, none⟩ = some (.iface t2 x2) ∧ Below W1.heap.size W1 w')
    ((refine KS.out _ ?_; first | assumption | exact held_b (by assumption) | exact (Below.refl _ _).drew))
    (first
      | (go_at_call_of 44 x0; refine (SA.out _ (HB1.out _ (held_b (by assumption)))).mono ?_; rintro e w4 ⟨rfl, hb4⟩; have hk4 := held_step (by assumption) hb4; clear hb4)
      | (go_at_call_of 44 x1; refine (SB.out _ (HB1.out _ (held_b (by assumption)))).mono ?_; rintro e w5 ⟨rfl, hb5⟩; have hk5 := held_step (by assumption) hb5; clear hb5)
      | (go_at_call_of 44 x2; refine (SC.out _ (HB1.out _ (held_b (by assumption)))).mono ?_; rintro e w6 ⟨rfl, hb6⟩; have hk6 := held_step (by assumption) hb6; clear hb6))
  all_goals
    go_wp2
    go_ret
    refine ⟨congrArg (fun b => Ending.returned (Value.string b)) (by simp [ByteArray.mk_append_mk]), HB1.out _ ?_⟩
    first | assumption | exact held_b (by assumption)
set_option maxHeartbeats 1600000 in
set_option maxRecDepth 20000 in
theorem txNegOp (W : World) (g cap : Nat) (t0 : TypeId) (x0 : Value) (L : List UInt8) (hc : W.cell? ⟨g, 0, none⟩ = some (.iface t0 x0)) (T0 : TxAt (.iface t0 x0) W L) (B0 : L.length ≤ 40000000) :
    Calls Tryz.prog 84 #[.agg #[.int .i64 3, .slice (some ⟨g, 0, none⟩) 1 cap]] W fun e w' => e = .returned (.string ⟨(126 :: L).toArray⟩) ∧ Below W.heap.size W w' := by
  have b0 : (L.length : Int) ≤ 40000000 := by omega
  have g1 : ¬ 9223372036854775807 < 1 + L.length := by omega
  have hg : g < W.heap.size := World.block_lt_of_cell? W _ hc
  have hne : ¬ g = W.heap.size := by omega
  have d0 := Lib.cell?_alloc_some (.cells #[.int .i64 3, .slice (some ⟨g, 0, none⟩) 1 cap] 115) hc
  have hb0 : Below W.heap.size W (W.alloc (.cells #[.int .i64 3, .slice (some ⟨g, 0, none⟩) 1 cap] 115)) := (Below.refl _ _).alloc (Nat.le_refl _) _
  have HC := (show Hid _ from T0 _ hb0)
  have HB := (show Hid _ from hb0)
  clear T0 hb0 hc
  go_enter Tryz.func84, Tryz.ntmps84
  go_wp2_with fail
  refine Calls.mono HC.out ?_
  rintro e w1 ⟨rfl, hb1⟩
  have hB := HB.out.trans (hb1.mono HB.out.size)
  clear HC HB
  go_wp2
  go_ret
  exact ⟨congrArg (fun b => Ending.returned (Value.string b)) (by simp [ByteArray.mk_append_mk]), hB⟩
set_option maxHeartbeats 1600000 in
set_option maxRecDepth 20000 in
theorem txTwoOp (W : World) (g cap : Nat) (op : Nat) (hop : 4 ≤ op ∧ op ≤ 10) (hS : Sig W) (t0 t1 : TypeId) (x0 x1 : Value) (L M S : List UInt8) (hSg : signB (op : Int) = S) (hSl : S.length ≤ 2) (hc : W.cell? ⟨g, 0, none⟩ = some (.iface t0 x0)) (hd : W.cell? ⟨g, 1, none⟩ = some (.iface t1 x1)) (T0 : TxAt (.iface t0 x0) W L) (T1 : TxAt (.iface t1 x1) W M) (B0 : L.length ≤ 40000000) (B1 : M.length ≤ 40000000) :
    Calls Tryz.prog 84 #[.agg #[.int .i64 (op : Int), .slice (some ⟨g, 0, none⟩) 2 cap]] W fun e w' => e = .returned (.string ⟨(40 :: L ++ S ++ M ++ [41]).toArray⟩) ∧ Below W.heap.size W w' := by
  have b0 : (L.length : Int) ≤ 40000000 := by omega
  have b1 : (M.length : Int) ≤ 40000000 := by omega
  have g1 : ¬ 9223372036854775807 < 1 + L.length := by omega
  have g2 : ¬ 9223372036854775807 < 1 + L.length + S.length := by omega
  have g3 : ¬ 9223372036854775807 < 1 + L.length + S.length + M.length := by omega
  have g4 : ¬ 9223372036854775807 < 1 + L.length + S.length + M.length + 1 := by omega
  have o3 : ((op : Int) == 3) = false := by simp; omega
  have o1 : (op : Int) < 11 := by omega
  have hg : g < W.heap.size := World.block_lt_of_cell? W _ hc
  have hs0 := hS op (by omega)
  rw [hSg] at hs0
  have hsl : 1 < W.heap.size := World.block_lt_of_cell? W _ hs0
  obtain ⟨W1, hW1⟩ : ∃ W1, W.alloc (.cells #[.int .i64 (op : Int), .slice (some ⟨g, 0, none⟩) 2 cap] 115) = W1 := ⟨_, rfl⟩
  have n0 : W1.cell? ⟨W.heap.size, 0, none⟩ = some (.int .i64 (op : Int)) := by rw [← hW1]; simp [go_sem]
  have n1 : W1.cell? ⟨W.heap.size, 1, none⟩ = some (.slice (some ⟨g, 0, none⟩) 2 cap) := by rw [← hW1]; simp [go_sem]
  have n2 : W1.cell? ⟨g, 0, none⟩ = some (.iface t0 x0) := by rw [← hW1]; exact Lib.cell?_alloc_some _ hc
  have n3 : W1.cell? ⟨g, 1, none⟩ = some (.iface t1 x1) := by rw [← hW1]; exact Lib.cell?_alloc_some _ hd
  have n4 : W1.cell? ⟨1, op, none⟩ = some (.string ⟨S.toArray⟩) := by rw [← hW1]; exact Lib.cell?_alloc_some _ hs0
  have hb0 : Below W.heap.size W W1 := by rw [← hW1]; exact (Below.refl _ _).alloc (Nat.le_refl _) _
  have hsz : W.heap.size < W1.heap.size := by rw [← hW1]; simp
  have HB1 : Hid (∀ w', Below W1.heap.size W1 w' → Below W.heap.size W w') := fun w' h' => hb0.trans (h'.mono hb0.size)
  have SA : Hid (TxAt (.iface t0 x0) W L) := T0
  have SB : Hid (TxAt (.iface t1 x1) W M) := T1
  have KS : Hid (∀ w', Below W1.heap.size W1 w' → w'.cell? ⟨W.heap.size, 0, none⟩ = some (.int .i64 (op : Int)) ∧ w'.cell? ⟨W.heap.size, 1, none⟩ = some (.slice (some ⟨g, 0, none⟩) 2 cap) ∧ w'.cell? ⟨g, 0, none⟩ = some (.iface t0 x0) ∧ w'.cell? ⟨g, 1, none⟩ = some (.iface t1 x1) ∧ w'.cell? ⟨1, op, none⟩ = some (.string ⟨S.toArray⟩) ∧ Below W1.heap.size W1 w') := fun w' h' =>
    ⟨(h'.cell (p := ⟨W.heap.size, 0, none⟩) hsz).trans n0, (h'.cell (p := ⟨W.heap.size, 1, none⟩) hsz).trans n1, (h'.cell (p := ⟨g, 0, none⟩) (Nat.lt_trans hg hsz)).trans n2, (h'.cell (p := ⟨g, 1, none⟩) (Nat.lt_trans hg hsz)).trans n3, (h'.cell (p := ⟨1, op, none⟩) (Nat.lt_trans hsl hsz)).trans n4, h'⟩
  clear T0 T1 hb0 B0 B1 hc hd hS hs0 hSg hop hSl
  go_enter Tryz.func84, Tryz.ntmps84
  go_wp2_with fail
  (try rw [hW1])
  clear hW1
  go_region_held3 (fun w' => w'.cell? ⟨W.heap.size, 0, none⟩ = some (.int .i64 (op : Int)) ∧ w'.cell? ⟨W.heap.size, 1, none⟩ = some (.slice (some ⟨g, 0, none⟩) 2 cap) ∧ w'.cell? ⟨g, 0, none⟩ = some (.iface t0 x0) ∧ w'.cell? ⟨g, 1, none⟩ = some (.iface t1 x1) ∧ w'.cell? ⟨1, op, none⟩ = some (.string ⟨S.toArray⟩) ∧ Below W1.heap.size W1 w')
    ((refine KS.out _ ?_; first | assumption | exact heldT_b (by assumption) | exact (Below.refl _ _).drew))
    (first
      | (go_at_call_of 44 x0; refine (SA.out _ (HB1.out _ (heldT_b (by assumption)))).mono ?_; rintro e w4 ⟨rfl, hb4⟩; have hk4 := heldT_step (by assumption) hb4; clear hb4)
      | (go_at_call_of 44 x1; refine (SB.out _ (HB1.out _ (heldT_b (by assumption)))).mono ?_; rintro e w5 ⟨rfl, hb5⟩; have hk5 := heldT_step (by assumption) hb5; clear hb5))
  all_goals
    go_wp2
    go_ret
    refine ⟨congrArg (fun b => Ending.returned (Value.string b)) (by simp [ByteArray.mk_append_mk]), HB1.out _ ?_⟩
    first | assumption | exact heldT_b (by assumption)
set_option maxRecDepth 20000 in
theorem txOp (W : World) (op : Int) (g m cap : Nat) (L : List UInt8) (C : ∀ W', Below W.heap.size W W' → Calls Tryz.prog 84 #[.agg #[.int .i64 op, .slice (some ⟨g, 0, none⟩) m cap]] W' fun e w' => e = .returned (.string ⟨L.toArray⟩) ∧ Below W'.heap.size W' w') :
    Calls Tryz.prog 44 #[.iface 115 (.agg #[.int .i64 op, .slice (some ⟨g, 0, none⟩) m cap])] W fun e w' => e = .returned (.string ⟨L.toArray⟩) ∧ Below W.heap.size W w' := by
  have hb0 : Below W.heap.size W (W.alloc (.cells #[.int .i64 op, .slice (some ⟨g, 0, none⟩) m cap] 115)) := (Below.refl _ _).alloc (Nat.le_refl _) _
  have HC := (show Hid _ from C _ hb0)
  have HB := (show Hid _ from hb0)
  clear C hb0
  go_enter Tryz.func44, Tryz.ntmps44
  go_wp2_with fail
  refine Calls.mono HC.out ?_
  rintro e w1 ⟨rfl, hb1⟩
  have hB := HB.out.trans (hb1.mono HB.out.size)
  clear HC HB
  go_wp2
  go_ret
  exact ⟨rfl, hB⟩
theorem Sig.keep {w w' : World} (h : Sig w) (hb : Below w.heap.size w w') : Sig w' := fun i hi =>
  (hb.cell (p := ⟨1, i, none⟩) (World.block_lt_of_cell? w _ (h i hi))).trans (h i hi)
theorem textTree_any {l : List (Int × Int)} {q : Int} (h : pile l 0 = some q) (hn : InN l) (hl : l.length ≤ 1048576) (ok : Nat → Prop) : ∀ (f k : Nat) (v : Value), k < f → k < l.length → ∀ W, IsTree W ok l f k v → Pow W → Sig W → Calls Tryz.prog 44 #[v] W fun e w' => e = .returned (.string ⟨(textG l f k).toArray⟩) ∧ Below W.heap.size W w'
  | 0, _, _, hf, _ => by omega
  | f + 1, k, v, hf, hk => by
    intro W ht hP hS
    have IH := fun k v hf hk => textTree_any h hn hl ok f k v hf hk
    obtain ⟨h1, h2⟩ := cnt_step h k hk
    obtain ⟨a1, a2, a3, _⟩ := fits_iff _ _ _ _ h1
    have HB : ∀ r, r < k → (textG l f r).length ≤ 40000000 := fun r hr => by
      have := textG_len h (fun j hj => itoa_len _ (hn j)) (r + 1) r (by omega) (by omega) f (by omega)
      omega
    have TX : ∀ r u, r < k → IsTree W ok l f r u → TxAt u W (textG l f r) := fun r u hr hu W' hb => IH r u (by omega) (by omega) W' (hu.keep hb) (hP.keep hb) (hS.keep hb)
    rcases ht with ⟨h0, rfl⟩ | ⟨h0, rfl⟩ | ⟨h0, v0, v1, v2, rfl, t0, t1, t2⟩ | ⟨h0, h0', g, cap, vs, rfl, hok, hg, hc⟩
    · have e : textG l (f + 1) k = Lib.itoa (l.getD k (0, 0)).2 := by show nodeT _ _ = _; unfold nodeT; rw [if_pos h0]
      rw [e]
      exact txNum _ (hn k) W hP
    · obtain ⟨n0, n4⟩ := a3 h0
      obtain ⟨n, hnn⟩ := Int.eq_ofNat_of_zero_le n0
      have e : textG l (f + 1) k = [UInt8.ofNat (97 + n)] := by show nodeT _ _ = _; unfold nodeT; rw [if_neg (by omega), if_pos h0, hnn]; rfl
      rw [e, hnn]
      exact txVar n (by omega) W
    · have har : ar (l.getD k (0, 0)).1 = ((3 : Nat) : Int) := by rw [h0]; rfl
      have hRl : (roots l 3 k).length = 3 := roots_len _ _ _
      have e : textG l (f + 1) k = 40 :: textG l f ((roots l 3 k).getD 0 0) ++ (63 :: textG l f ((roots l 3 k).getD 1 0)) ++ (58 :: textG l f ((roots l 3 k).getD 2 0)) ++ [41] := by
        show nodeT _ _ = _
        unfold nodeT
        rw [if_neg (by omega), if_neg (by omega), if_neg (by omega), if_pos h0, har, Int.toNat_natCast]
        match roots l 3 k, hRl with
        | [r, s, u], _ => rfl
      rw [e]
      have hr : ∀ i, i < 3 → (roots l 3 k).getD i 0 < k := fun i hi => getD_lt (roots l 3 k) k i (roots_lt h 3 k (by omega) (by omega)) (by rw [roots_len]; exact hi)
      obtain ⟨x0, y0, rfl⟩ := t0.form
      obtain ⟨x1, y1, rfl⟩ := t1.form
      obtain ⟨x2, y2, rfl⟩ := t2.form
      exact txIf W x0 x1 x2 y0 y1 y2 _ _ _ (TX _ _ (hr 0 (by omega)) t0) (TX _ _ (hr 1 (by omega)) t1) (TX _ _ (hr 2 (by omega)) t2) (HB _ (hr 0 (by omega))) (HB _ (hr 1 (by omega))) (HB _ (hr 2 (by omega)))
    · by_cases h3 : (l.getD k (0, 0)).1 = 3
      · have har : ar (l.getD k (0, 0)).1 = ((1 : Nat) : Int) := by rw [h3]; rfl
        have hRl : (roots l 1 k).length = 1 := roots_len _ _ _
        have e : textG l (f + 1) k = 126 :: textG l f ((roots l 1 k).getD 0 0) := by
          show nodeT _ _ = _
          unfold nodeT
          rw [if_neg (by omega), if_neg (by omega), if_pos h3, har, Int.toNat_natCast]
          match roots l 1 k, hRl with
          | [r], _ => rfl
        rw [e]
        rw [har, Int.toNat_natCast] at hc ⊢
        rw [h3]
        have hr : (roots l 1 k).getD 0 0 < k := getD_lt (roots l 1 k) k 0 (roots_lt h 1 k (by omega) (by omega)) (by omega)
        obtain ⟨c0, t0⟩ := hc 0 (by omega)
        obtain ⟨x0, y0, e0⟩ := t0.form
        rw [e0] at c0 t0
        exact txOp W 3 g 1 cap _ (fun W' hb => txNegOp W' g cap x0 y0 _ ((hb.cell (p := ⟨g, 0, none⟩) hg).trans c0) (fun W2 hb2 => TX _ _ hr t0 W2 (hb.trans (hb2.mono hb.size))) (HB _ hr))
      · obtain ⟨op, hop⟩ := Int.eq_ofNat_of_zero_le (show 0 ≤ (l.getD k (0, 0)).1 by omega)
        have har : ar (l.getD k (0, 0)).1 = ((2 : Nat) : Int) := by
          generalize (l.getD k (0, 0)).1 = x at h0 h0' h3
          rcases (show x = 4 ∨ x = 5 ∨ x = 6 ∨ x = 7 ∨ x = 8 ∨ x = 9 ∨ x = 10 by omega) with rfl | rfl | rfl | rfl | rfl | rfl | rfl <;> rfl
        have hRl : (roots l 2 k).length = 2 := roots_len _ _ _
        have e : textG l (f + 1) k = 40 :: textG l f ((roots l 2 k).getD 0 0) ++ signB (l.getD k (0, 0)).1 ++ textG l f ((roots l 2 k).getD 1 0) ++ [41] := by
          show nodeT _ _ = _
          unfold nodeT
          rw [if_neg (by omega), if_neg (by omega), if_neg h3, if_neg (by omega), har, Int.toNat_natCast]
          match roots l 2 k, hRl with
          | [r, s], _ => rfl
        rw [e]
        rw [har, Int.toNat_natCast] at hc ⊢
        rw [hop]
        have hSl : (signB (op : Int)).length ≤ 2 := by
          unfold signB
          repeat' split
          all_goals simp
        have hr : ∀ i, i < 2 → (roots l 2 k).getD i 0 < k := fun i hi => getD_lt (roots l 2 k) k i (roots_lt h 2 k (by omega) (by omega)) (by omega)
        obtain ⟨c0, t0⟩ := hc 0 (by omega)
        obtain ⟨c1, t1⟩ := hc 1 (by omega)
        obtain ⟨x0, y0, e0⟩ := t0.form
        obtain ⟨x1, y1, e1⟩ := t1.form
        rw [e0] at c0 t0
        rw [e1] at c1 t1
        exact txOp W op g 2 cap _ (fun W' hb => txTwoOp W' g cap op (by omega) (hS.keep hb) x0 x1 y0 y1 _ _ _ rfl hSl ((hb.cell (p := ⟨g, 0, none⟩) hg).trans c0) ((hb.cell (p := ⟨g, 1, none⟩) hg).trans c1) (fun W2 hb2 => TX _ _ (hr 0 (by omega)) t0 W2 (hb.trans (hb2.mono hb.size))) (fun W2 hb2 => TX _ _ (hr 1 (by omega)) t1 W2 (hb.trans (hb2.mono hb.size))) (HB _ (hr 0 (by omega))) (HB _ (hr 1 (by omega))))
theorem implText_any (a : Option Addr) (len cap : Nat) (l : List (Int × Int)) (w : World) (hT : Tab w) (hP : Pow w) (hS : Sig w) (h : NSl w a len l) (hm : len ≤ 9223372036854775807) (hn : InN l) :
    Calls Tryz.prog 20 #[.slice a len cap] w fun e w' => e = .returned (.tuple #[.string ⟨(termT l).toArray⟩, .bool (goodB l)]) ∧ Below w.heap.size w w' := by
  have HG := (show Hid _ from implGood_any a len cap l w hT h hm)
  have hll := h.1
  by_cases hg : goodB l = true
  · obtain ⟨hp, g1, g2⟩ := good_pile hg
    unfold termT
    rw [if_pos hg, hg]
    rw [hg] at HG
    have HTr : Hid (∀ W, Below w.heap.size w W → Calls Tryz.prog 45 #[.slice a len cap] W fun e w' => ∃ v, e = .returned v ∧ IsTree w' (fun g => W.heap.size ≤ g) l len (len - 1) v ∧ Below W.heap.size W w') := fun W hb => treeOf_any hp a len cap W (hT.keeps hb) (h.keep hb) (by omega) (by omega)
    have HX : Hid (∀ W ok x, Below w.heap.size w W → IsTree W ok l len (len - 1) x → Calls Tryz.prog 44 #[x] W fun e w' => e = .returned (.string ⟨(textT l).toArray⟩) ∧ Below W.heap.size W w') := fun W ok x hb ht => by
      unfold textT
      rw [hll]
      exact textTree_any hp hn (by omega) ok len (len - 1) x (by omega) (by omega) W ht (hP.keep hb) (hS.keep hb)
    generalize textT l = L at HX ⊢
    clear hg hp hn hT hP hS h
    go_enter Tryz.func20, Tryz.ntmps20
    go_wp2_with fail
    refine Calls.mono HG.out ?_
    rintro e w1 ⟨rfl, hb1⟩
    clear HG
    go_wp2_with fail
    refine Calls.mono (HTr.out _ hb1) ?_
    rintro e w2 ⟨x, rfl, htree, hb2⟩
    have hB2 := hb1.trans (hb2.mono hb1.size)
    have HQ := (show Hid _ from HX.out _ _ _ hB2 htree)
    obtain ⟨tt, xx, rfl⟩ := htree.form
    clear htree HTr HX
    go_wp2_with fail
    refine Calls.mono HQ.out ?_
    rintro e w3 ⟨rfl, hb3⟩
    have hB3 := hB2.trans (hb3.mono hB2.size)
    clear HQ
    go_wp2
    go_ret2
    exact ⟨rfl, hB3⟩
  · have hg' : goodB l = false := by simpa using hg
    unfold termT
    rw [if_neg hg, hg']
    rw [hg'] at HG
    clear hg hg' hn hT hP hS h
    go_enter Tryz.func20, Tryz.ntmps20
    go_wp2_with fail
    refine Calls.mono HG.out ?_
    rintro e w1 ⟨rfl, hb1⟩
    go_wp2
    go_ret2
    exact ⟨rfl, hb1⟩
end Go.Proofs.YtkadanagmahhgaaGreatDoor
namespace Go.Proofs.YtkadanagmahhgaaGreatDoor
open Go.ChangeShapes Go.WideShapes Go.ChangeAt Go.RowKit
set_option linter.unusedVariables false

/-- What is told of a rule: its text, or none. -/
def ruleT (p q : List (Int × Int)) : List UInt8 := if ruleB p q = true then textT p ++ ([61, 62] ++ textT q) else []
theorem patB_goodT {p : List (Int × Int)} (h : patB p = true) : goodB p = true ∧ p.length ≤ 7 := by
  unfold patB at h
  simp only [Bool.and_eq_true, decide_eq_true_eq] at h
  exact h
theorem ruleB_two {p q : List (Int × Int)} (h : ruleB p q = true) : (goodB p = true ∧ p.length ≤ 7) ∧ goodB q = true ∧ q.length ≤ 7 := by
  unfold ruleB at h
  simp only [Bool.and_eq_true] at h
  exact ⟨patB_goodT h.1, patB_goodT h.2⟩
theorem textT_few {p : List (Int × Int)} (hg : goodB p = true) (hn : InN p) : (textT p).length ≤ 40000000 := by
  obtain ⟨hp, g1, g2⟩ := good_pile hg
  have := textG_len hp (fun j hj => itoa_len _ (hn j)) p.length (p.length - 1) (by omega) (by omega) p.length (by omega)
  unfold textT
  omega
theorem held_bR {A B : Prop} {w2 wp : World} (h : A ∧ B ∧ Below w2.heap.size w2 wp) : Below w2.heap.size w2 wp := h.2.2
theorem held_stepR {A B : Prop} {w2 wp w4 : World} (h : A ∧ B ∧ Below w2.heap.size w2 wp) (hb : Below wp.heap.size wp w4) : Below w2.heap.size w2 w4 := h.2.2.trans (hb.mono h.2.2.size)
set_option maxHeartbeats 1600000 in
set_option maxRecDepth 20000 in
theorem specRuleText_any (a b : Option Addr) (len cap lb cb : Nat) (p q : List (Int × Int)) (w : World) (h : NSl w a len p) (hl : NSl w b lb q) (hm : len ≤ 9223372036854775807) (hm2 : lb ≤ 9223372036854775807) (hn : InN p) (hn2 : InN q) :
    Calls Tryz.prog 8 #[.agg #[.slice a len cap, .slice b lb cb]] w fun e w' => e = .returned (.tuple #[.string ⟨(ruleT p q).toArray⟩, .bool (ruleB p q)]) ∧ Below w.heap.size w w' := by
  have hll := h.1
  have hl1 := hl.1
  obtain ⟨W1, hW1⟩ : ∃ W1, w.alloc (.cells #[.slice a len cap, .slice b lb cb] 26) = W1 := ⟨_, rfl⟩
  have hb1 : Below w.heap.size w W1 := by rw [← hW1]; exact (Below.refl _ _).alloc (Nat.le_refl _) _
  have n0 : W1.cell? ⟨w.heap.size, 0, none⟩ = some (.slice a len cap) := by rw [← hW1]; simp [go_sem]
  have n1 : W1.cell? ⟨w.heap.size, 1, none⟩ = some (.slice b lb cb) := by rw [← hW1]; simp [go_sem]
  have hs1 : w.heap.size < W1.heap.size := by rw [← hW1]; simp
  have HB : Hid (∀ W, Below W1.heap.size W1 W → Below w.heap.size w W) := fun W hW => hb1.trans (hW.mono hb1.size)
  have HG := (show Hid _ from specRule_any a b len cap lb cb p q W1 (h.keep hb1) (hl.keep hb1) hm hm2)
  unfold ruleT
  cases hr : ruleB p q with
  | false =>
    rw [hr] at HG
    rw [if_neg (by decide)]
    clear h hl hb1 hr hn hn2
    go_enter Tryz.func8, Tryz.ntmps8
    go_wp2_with fail
    (try rw [hW1])
    refine Calls.mono HG.out ?_
    rintro e w2 ⟨rfl, hb2⟩
    have HB2 := (show Hid _ from HB.out _ hb2)
    clear HG hW1
    go_wp2
    go_ret2
    exact ⟨rfl, HB2.out⟩
  | true =>
    rw [hr] at HG
    rw [if_pos rfl]
    obtain ⟨⟨gp, gp7⟩, gq, gq7⟩ := ruleB_two hr
    have B0 := textT_few gp hn
    have B1 := textT_few gq hn2
    have hEv : ∀ (g : Option Addr) (n c : Nat) (r : List (Int × Int)), goodB r = true → NSl w g n r → r.length ≤ 7 → n = r.length → InN r → Hid (∀ W, Below W1.heap.size W1 W → Calls Tryz.prog 22 #[.slice g n c, .int .i64 ((n : Int) - 1)] W fun e w' => e = .returned (.string ⟨(textT r).toArray⟩) ∧ Below W.heap.size W w') := fun g n c r gr hr h7 hn hI W hW => by
      obtain ⟨hp, g1, g2⟩ := good_pile gr
      have E := text_any hp hI g n c (by omega) hn.symm n (n - 1) (by omega) (by omega)
      unfold TextAt at E
      rw [show ((n - 1 : Nat) : Int) = (n : Int) - 1 from by omega] at E
      rw [show textT r = textG r n (n - 1) from by unfold textT; rw [← hn]]
      exact E W ((hr.keep hb1).keep hW)
    have HE1 := hEv a len cap p gp h gp7 hll.symm hn
    have HE2 := hEv b lb cb q gq hl gq7 hl1.symm hn2
    clear hEv
    have i0 := good_pile gp
    have i1 := good_pile gq
    have j1 : (1 : Int) ≤ len := by omega
    have j2 : (len : Int) ≤ 40 := by omega
    have j3 : (1 : Int) ≤ lb := by omega
    have j4 : (lb : Int) ≤ 40 := by omega
    generalize textT p = L at HE1 B0 ⊢
    generalize textT q = M at HE2 B1 ⊢
    have g1 : ¬ 9223372036854775807 < L.length + 2 := by omega
    have g2 : ¬ 9223372036854775807 < L.length + 2 + M.length := by omega
    have k1 : IntKind.i64.wrap ((len : Int) - 1) = (len : Int) - 1 := by rw [IntKind.wrap_i64]; omega
    have k2 : IntKind.i64.wrap ((lb : Int) - 1) = (lb : Int) - 1 := by rw [IntKind.wrap_i64]; omega
    have KS : Hid (∀ w', Below W1.heap.size W1 w' → w'.cell? ⟨w.heap.size, 0, none⟩ = some (.slice a len cap) ∧ w'.cell? ⟨w.heap.size, 1, none⟩ = some (.slice b lb cb) ∧ Below W1.heap.size W1 w') := fun w' h' =>
      ⟨(h'.cell (p := ⟨w.heap.size, 0, none⟩) hs1).trans n0, (h'.cell (p := ⟨w.heap.size, 1, none⟩) hs1).trans n1, h'⟩
    clear h hl hb1 hr hn hn2 gp gq gp7 gq7 i0 i1 hll hl1
    go_enter Tryz.func8, Tryz.ntmps8
    go_wp2_with fail
    (try rw [hW1])
    refine Calls.mono HG.out ?_
    rintro e w2 ⟨rfl, hb2⟩
    obtain ⟨q0, q1, qb⟩ := KS.out _ hb2.drew
    clear HG hW1 hb2
    go_wp2_with fail
    go_region_held3 (fun w' => w'.cell? ⟨w.heap.size, 0, none⟩ = some (.slice a len cap) ∧ w'.cell? ⟨w.heap.size, 1, none⟩ = some (.slice b lb cb) ∧ Below W1.heap.size W1 w')
      ((refine KS.out _ ?_; first | assumption | exact held_bR (by assumption) | exact qb))
      (first
        | (go_at_call_of 22 a; refine (HE1.out _ (held_bR (by assumption))).mono ?_; rintro e w4 ⟨rfl, hb4⟩; have hk4 := held_stepR (by assumption) hb4; clear hb4)
        | (go_at_call_of 22 b; refine (HE2.out _ (held_bR (by assumption))).mono ?_; rintro e w5 ⟨rfl, hb5⟩; have hk5 := held_stepR (by assumption) hb5; clear hb5))
    all_goals
      go_wp2
      go_ret2
      refine ⟨congrArg (fun b => Ending.returned (Value.tuple #[Value.string b, .bool true])) (by simp [ByteArray.mk_append_mk]), HB.out _ ?_⟩
      first | assumption | exact held_bR (by assumption)
set_option maxHeartbeats 1600000 in
theorem implRuleText_any (a b : Option Addr) (len cap lb cb : Nat) (p q : List (Int × Int)) (w : World) (hT : Tab w) (hP : Pow w) (hS : Sig w) (h : NSl w a len p) (hl : NSl w b lb q) (hm : len ≤ 9223372036854775807) (hm2 : lb ≤ 9223372036854775807) (hn : InN p) (hn2 : InN q) :
    Calls Tryz.prog 7 #[.agg #[.slice a len cap, .slice b lb cb]] w fun e w' => e = .returned (.tuple #[.string ⟨(ruleT p q).toArray⟩, .bool (ruleB p q)]) ∧ Below w.heap.size w w' := by
  have hll := h.1
  have hl1 := hl.1
  obtain ⟨W1, hW1⟩ : ∃ W1, w.alloc (.cells #[.slice a len cap, .slice b lb cb] 26) = W1 := ⟨_, rfl⟩
  have hb1 : Below w.heap.size w W1 := by rw [← hW1]; exact (Below.refl _ _).alloc (Nat.le_refl _) _
  have n0 : W1.cell? ⟨w.heap.size, 0, none⟩ = some (.slice a len cap) := by rw [← hW1]; simp [go_sem]
  have n1 : W1.cell? ⟨w.heap.size, 1, none⟩ = some (.slice b lb cb) := by rw [← hW1]; simp [go_sem]
  have hs1 : w.heap.size < W1.heap.size := by rw [← hW1]; simp
  have HB : Hid (∀ W, Below W1.heap.size W1 W → Below w.heap.size w W) := fun W hW => hb1.trans (hW.mono hb1.size)
  have HG := (show Hid _ from implRule_any a b len cap lb cb p q W1 (hT.keeps hb1) (h.keep hb1) (hl.keep hb1) hm hm2)
  unfold ruleT
  cases hr : ruleB p q with
  | false =>
    rw [hr] at HG
    rw [if_neg (by decide)]
    clear h hl hb1 hr hn hn2 hT hP hS
    go_enter Tryz.func7, Tryz.ntmps7
    go_wp2_with fail
    (try rw [hW1])
    refine Calls.mono HG.out ?_
    rintro e w2 ⟨rfl, hb2⟩
    have HB2 := (show Hid _ from HB.out _ hb2)
    clear HG hW1
    go_wp2
    go_ret2
    exact ⟨rfl, HB2.out⟩
  | true =>
    rw [hr] at HG
    rw [if_pos rfl]
    obtain ⟨⟨gp, gp7⟩, gq, gq7⟩ := ruleB_two hr
    have B0 := textT_few gp hn
    have B1 := textT_few gq hn2
    have hEv : ∀ (g : Option Addr) (n c : Nat) (r : List (Int × Int)), goodB r = true → NSl w g n r → n ≤ 9223372036854775807 → InN r → Hid (∀ W, Below W1.heap.size W1 W → Calls Tryz.prog 20 #[.slice g n c] W fun e w' => e = .returned (.tuple #[.string ⟨(textT r).toArray⟩, .bool true]) ∧ Below W.heap.size W w') := fun g n c r gr hr hn hI W hW => by
      have E := implText_any g n c r W ((hT.keeps hb1).keeps hW) ((hP.keep hb1).keep hW) ((hS.keep hb1).keep hW) ((hr.keep hb1).keep hW) hn hI
      unfold termT at E
      rw [gr, if_pos rfl] at E
      exact E
    have HE1 := hEv a len cap p gp h hm hn
    have HE2 := hEv b lb cb q gq hl hm2 hn2
    clear hEv
    generalize textT p = L at HE1 B0 ⊢
    generalize textT q = M at HE2 B1 ⊢
    have g1 : ¬ 9223372036854775807 < L.length + 2 := by omega
    have g2 : ¬ 9223372036854775807 < L.length + 2 + M.length := by omega
    clear h hl hb1 hr hn hn2 gp gq gp7 gq7 hll hl1 hT hP hS
    go_enter Tryz.func7, Tryz.ntmps7
    go_wp2_with fail
    (try rw [hW1])
    refine Calls.mono HG.out ?_
    rintro e w2 ⟨rfl, hb2⟩
    have q0 := (hb2.cell (p := ⟨w.heap.size, 0, none⟩) hs1).trans n0
    have HB2 := (show Hid _ from hb2)
    clear HG hW1 hb2
    go_wp2_with fail
    refine Calls.mono (HE1.out _ HB2.out) ?_
    rintro e w3 ⟨rfl, hb3⟩
    have hB3 := HB2.out.trans (hb3.mono HB2.out.size)
    have q1 := (hB3.cell (p := ⟨w.heap.size, 1, none⟩) hs1).trans n1
    have HB3 := (show Hid _ from hB3)
    clear hb3 hB3 q0
    go_wp2_with fail
    refine Calls.mono (HE2.out _ HB3.out) ?_
    rintro e w4 ⟨rfl, hb4⟩
    have HB4 := (show Hid _ from HB.out _ (HB3.out.trans (hb4.mono HB3.out.size)))
    clear hb4
    go_wp2
    go_ret2
    refine ⟨congrArg (fun b => Ending.returned (Value.tuple #[Value.string b, .bool true])) (by simp [ByteArray.mk_append_mk]), HB4.out⟩
end Go.Proofs.YtkadanagmahhgaaGreatDoor
namespace Go.Proofs.YtkadanagmahhgaaGreatDoor
open Go.ChangeShapes Go.WideShapes Go.ChangeAt Go.RowKit
set_option linter.unusedVariables false

/-- No term's text holds the arrow's second sign. -/
theorem tm_no62 {p : List (Int × Int)} {t : List UInt8} (h : Tm p t) : (62 : UInt8) ∉ t := by
  refine h.ind (motive := fun p t => (62 : UInt8) ∉ t) ?_ ?_ ?_ ?_ ?_
  · intro n hn hm
    rcases itoa_shape n with ⟨u, e⟩ | ⟨u, e⟩
    · rw [e] at hm
      rcases List.mem_cons.1 hm with hm | hm
      · exact absurd hm (by decide)
      · exact absurd (dec_dig u 62 hm) (by unfold IsDig; decide)
    · rw [e] at hm
      exact absurd (dec_dig u 62 hm) (by unfold IsDig; decide)
  · intro v hv hm
    have : v = 0 ∨ v = 1 ∨ v = 2 ∨ v = 3 := by omega
    rcases this with rfl | rfl | rfl | rfl <;> revert hm <;> decide
  · intro p t _ ih hm
    rcases List.mem_cons.1 hm with hm | hm
    · exact absurd hm (by decide)
    · exact ih hm
  · intro p t q u op h1 h2 _ _ ih1 ih2 hm
    have hs : (62 : UInt8) ∉ signB op := by
      have : op = 4 ∨ op = 5 ∨ op = 6 ∨ op = 7 ∨ op = 8 ∨ op = 9 ∨ op = 10 := by omega
      rcases this with rfl | rfl | rfl | rfl | rfl | rfl | rfl <;> decide
    simp only [List.mem_append, List.mem_cons, List.mem_nil_iff, or_false] at hm
    rcases hm with ((hm | hm) | hm) | hm
    · rcases hm with hm | hm
      · exact absurd hm (by decide)
      · exact ih1 hm
    · exact hs hm
    · exact ih2 hm
    · exact absurd hm (by decide)
  · intro p t q u r v _ _ _ ih1 ih2 ih3 hm
    simp only [List.mem_append, List.mem_cons, List.mem_nil_iff, or_false] at hm
    rcases hm with ((hm | hm) | hm) | hm
    · rcases hm with hm | hm
      · exact absurd hm (by decide)
      · exact ih1 hm
    · rcases hm with hm | hm
      · exact absurd hm (by decide)
      · exact ih2 hm
    · rcases hm with hm | hm
      · exact absurd hm (by decide)
      · exact ih3 hm
    · exact absurd hm (by decide)
/-- The first arrow behind a text without its second sign. -/
theorem arrow_at {s u : List UInt8} (h : (62 : UInt8) ∉ s) : Lib.index (s ++ ([61, 62] ++ u)) arrow = (s.length : Nat) := by
  refine Lib.index_first (by simp) ?_ ?_
  · unfold Lib.occAt arrow
    rw [List.drop_left]
    simp [List.isPrefixOf]
  · intro j hj
    refine Bool.eq_false_iff.2 fun ht => ?_
    unfold Lib.occAt arrow at ht
    have hl : j < (s ++ ([61, 62] ++ u)).length := by simp; omega
    have hl2 : j + 1 < (s ++ ([61, 62] ++ u)).length := by simp; omega
    rw [List.drop_eq_getElem_cons hl, List.drop_eq_getElem_cons hl2] at ht
    simp only [List.isPrefixOf, Bool.and_eq_true, beq_iff_eq] at ht
    have h62 : (s ++ ([61, 62] ++ u))[j + 1]'hl2 = 62 := ht.2.1.symm
    by_cases hlt : j + 1 < s.length
    · rw [List.getElem_append_left hlt] at h62
      exact h (by rw [← h62]; exact List.getElem_mem _)
    · have hjs : j + 1 = s.length := by omega
      rw [List.getElem_append_right (by omega)] at h62
      simp only [hjs, Nat.sub_self] at h62
      simp at h62
theorem text_len7 {p : List (Int × Int)} (hp : patB p = true) (hn : InN p) : (textT p).length ≤ 175 := by
  obtain ⟨hg, h7⟩ := patB_goodT hp
  obtain ⟨hpl, g1, g2⟩ := good_pile hg
  have := textG_len hpl (fun j hj => itoa_len _ (hn j)) p.length (p.length - 1) (by omega) (by omega) p.length (by omega)
  unfold textT
  omega
theorem sideAt_le8 (b : List UInt8) : sideAt b ≤ b.length := by
  unfold sideAt
  split
  · exact Nat.zero_le _
  · unfold readAt
    have := (rdR_ok b).2.1
    split
    · split
      · split
        · exact Nat.le_refl _
        · exact Nat.zero_le _
      · exact this
    · exact Nat.zero_le _
theorem pat_text {p : List (Int × Int)} (hp : patB p = true) (hn : InN p) : sideOk (textT p) = true ∧ sideL (textT p) = p ∧ (62 : UInt8) ∉ textT p := by
  have hg : goodB p = true ∧ p.length ≤ 7 := by
    unfold patB at hp
    rw [Bool.and_eq_true, decide_eq_true_eq] at hp
    exact hp
  have hlen : (textT p).length ≤ 1000 := by
    have := text_len7 hp hn
    omega
  obtain ⟨r1, r2, r3⟩ := text_read hg.1 hn hlen
  have hok : sideOk (textT p) = true := by
    unfold sideOk
    rw [r1, r2, Bool.true_and, decide_eq_true_eq]
    exact hg.2
  refine ⟨hok, ?_, tm_no62 (good_tm hg.1 hn)⟩
  unfold sideL
  rw [if_pos hok, r2]
/-- A rule is read back from its text. -/
theorem rule_back {p q : List (Int × Int)} (h : ruleB p q = true) (hp : InN p) (hq : InN q) : ruleOk (ruleT p q) = true ∧ ruleAt (ruleT p q) = (ruleT p q).length ∧ ruleL (ruleT p q) = p ∧ ruleR (ruleT p q) = q := by
  have hh := h
  unfold ruleB at hh
  rw [Bool.and_eq_true] at hh
  obtain ⟨a1, a2, a3⟩ := pat_text hh.1 hp
  obtain ⟨b1, b2, b3⟩ := pat_text hh.2 hq
  have e : ruleT p q = textT p ++ ([61, 62] ++ textT q) := by unfold ruleT; rw [if_pos h]
  have hi : Lib.index (ruleT p q) arrow = ((textT p).length : Nat) := by rw [e]; exact arrow_at a3
  have t1 : (ruleT p q).take (textT p).length = textT p := by rw [e, List.take_left]
  have t2 : (ruleT p q).drop ((textT p).length + 2) = textT q := by
    rw [e, ← List.drop_drop, List.drop_left]
    rfl
  have := rule_good hi (by rw [t1]; exact a1) (by rw [t2]; exact b1)
  rw [t1, t2, a2, b2] at this
  exact this
theorem side_text {b : List UInt8} (h : sideOk b = true) : patB (sideL b) = true ∧ InN (sideL b) ∧ textT (sideL b) = b := by
  have hh := h
  unfold sideOk at hh
  rw [Bool.and_eq_true, decide_eq_true_eq] at hh
  obtain ⟨g1, g2, g3, -⟩ := read_text hh.1
  have e : sideL b = readL b := by unfold sideL; rw [if_pos h]
  rw [e]
  refine ⟨?_, g2, g3⟩
  unfold patB
  rw [g1, Bool.true_and, decide_eq_true_eq]
  exact hh.2
/-- A text that is read is the text of its rule. -/
theorem rule_text {b : List UInt8} (h : ruleOk b = true) : ruleB (ruleL b) (ruleR b) = true ∧ InN (ruleL b) ∧ InN (ruleR b) ∧ ruleT (ruleL b) (ruleR b) = b := by
  have hh := h
  unfold ruleOk at hh
  rw [Bool.and_eq_true, Bool.and_eq_true, decide_eq_true_eq] at hh
  obtain ⟨h0, h1, h2⟩ := hh
  obtain ⟨i, hi⟩ : ∃ i : Nat, Lib.index b arrow = i := ⟨(Lib.index b arrow).toNat, by omega⟩
  rw [hi, Int.toNat_natCast] at h1 h2
  obtain ⟨-, -, e1, e2⟩ := rule_good hi h1 h2
  obtain ⟨a1, a2, a3⟩ := side_text h1
  obtain ⟨b1, b2, b3⟩ := side_text h2
  rw [e1, e2]
  have hB : ruleB (sideL (b.take i)) (sideL (b.drop (i + 2))) = true := by unfold ruleB; rw [a1, b1]; rfl
  refine ⟨hB, a2, b2, ?_⟩
  unfold ruleT
  rw [if_pos hB, a3, b3]
  rcases Lib.index_spec b arrow with ⟨e, _⟩ | ⟨j, e, hj, ho, _⟩
  · omega
  · have hij : j = i := by omega
    subst hij
    unfold Lib.occAt arrow at ho
    have : b.drop j = 61 :: 62 :: b.drop (j + 2) := by
      generalize hd : b.drop j = L at ho
      match L, ho with
      | [], ho => simp [List.isPrefixOf] at ho
      | [x], ho => simp [List.isPrefixOf] at ho
      | x :: y :: r, ho =>
        simp only [List.isPrefixOf, Bool.and_eq_true, beq_iff_eq] at ho
        have e2 : b.drop (j + 2) = r := by rw [← List.drop_drop, hd]; rfl
        rw [e2, ← ho.1, ← ho.2.1]
    show b.take j ++ (61 :: 62 :: b.drop (j + 2)) = b
    rw [← this, List.take_append_drop]
theorem ruleAt_le (b : List UInt8) (h : ruleOk b = false) : ruleAt b ≤ b.length := by
  unfold ruleAt
  split
  · next h0 =>
    have hroom := Lib.index_room b arrow h0
    obtain ⟨i, hi⟩ : ∃ i : Nat, Lib.index b arrow = i := ⟨(Lib.index b arrow).toNat, by omega⟩
    rw [hi, Int.toNat_natCast]
    rw [hi] at hroom
    have hr2 : i + 2 ≤ b.length := by
      have : (arrow.length : Int) = 2 := rfl
      omega
    split
    · split
      · exact Nat.le_refl _
      · have := sideAt_le8 (b.drop (i + 2))
        rw [List.length_drop] at this
        omega
    · have := sideAt_le8 (b.take i)
      rw [List.length_take] at this
      omega
  · exact Nat.le_refl _
end Go.Proofs.YtkadanagmahhgaaGreatDoor
namespace Go.Proofs.YtkadanagmahhgaaGreatDoor
open Go.ChangeShapes Go.WideShapes Go.ChangeAt Go.RowKit
set_option linter.unusedVariables false

theorem NewR.keep8 {w w' : World} {B : Nat} {v : Value} {l : List (Int × Int)} (h : NewR w B v l) (hb : Below w.heap.size w w') : NewR w' B v l := by
  obtain ⟨a, len, cap, rfl, hs, h2, h3, h4⟩ := h
  exact ⟨a, len, cap, rfl, hs.keep hb, h2, h3, h4⟩
theorem NewR.grown8 {w w' : World} {B c : Nat} {v : Value} {l : List (Int × Int)} (h : NewR w B v l) (hg : w.grownBy w' (some c)) (hc : c < B) : NewR w' B v l := by
  obtain ⟨a, len, cap, rfl, hs, h2, h3, h4⟩ := h
  exact ⟨a, len, cap, rfl, hs.grown hg (fun x hx e => by have := Option.some.inj e; have := h4 x hx; omega), h2, h3, h4⟩
theorem NewR.shape {w : World} {B : Nat} {v : Value} {l : List (Int × Int)} (h : NewR w B v l) : ∃ a cap, v = .slice a l.length cap := by
  obtain ⟨a, len, cap, rfl, hs, -⟩ := h
  exact ⟨a, cap, by rw [hs.1]⟩
theorem nums_of_inN {l : List (Int × Int)} (h : InN l) : NumsIn l := fun x hx => by
  obtain ⟨k, hk, e⟩ := List.getElem_of_mem hx
  have := h k
  rw [List.getD_eq_getElem?_getD, List.getElem?_eq_getElem hk, Option.getD_some, e] at this
  exact this
/-- The lists of a rule that was read, its numbers within 64 bits. -/
theorem twoR_new {w : World} {lo : Nat} {v u : Value} {b : List UInt8} (h : TwoR w lo v u (ruleL b) (ruleR b)) : NewR w lo v (ruleL b) ∧ NewR w lo u (ruleR b) := by
  have hn : NumsIn (ruleL b) ∧ NumsIn (ruleR b) := by
    cases hb : ruleOk b with
    | true =>
      obtain ⟨-, h1, h2, -⟩ := rule_text hb
      exact ⟨nums_of_inN h1, nums_of_inN h2⟩
    | false =>
      have e1 : ruleL b = [] := by unfold ruleL; rw [hb]; rfl
      have e2 : ruleR b = [] := by unfold ruleR; rw [hb]; rfl
      rw [e1, e2]
      exact ⟨fun x hx => (by cases hx), fun x hx => (by cases hx)⟩
  have := ruleL_len b
  have := ruleR_len b
  exact ⟨NewR.of h.1 (by omega) hn.1, NewR.of h.2.1 (by omega) hn.2⟩
/-- A list of nodes stays where its block does. -/
theorem NewR.block8 {w w' : World} {B : Nat} {a : Option Addr} {len cap : Nat} {l : List (Int × Int)} (h : NewR w B (.slice a len cap) l) (hs : w.heap.size ≤ w'.heap.size) (hb : ∀ y, a = some y → w'.heap[y.block]? = w.heap[y.block]?) : NewR w' B (.slice a len cap) l := by
  obtain ⟨a', len', cap', e, h1, h2, h3, h4⟩ := h
  cases e
  refine ⟨_, _, _, rfl, ⟨h1.1, ?_⟩, h2, h3, h4⟩
  rcases h1.2 with h0 | ⟨b, off, e, hl, hc⟩
  · exact .inl h0
  · have hbb := hb _ e
    simp only at hbb
    exact .inr ⟨b, off, e, Nat.lt_of_lt_of_le hl hs, fun i hi => ⟨(World.cell?_of_block (a := ⟨b, off + i * 2, none⟩) hbb).trans (hc i hi).1, (World.cell?_of_block (a := ⟨b, off + i * 2 + 1, none⟩) hbb).trans (hc i hi).2⟩⟩
theorem NewR.base8 {w : World} {B B' : Nat} {v : Value} {l : List (Int × Int)} (h : NewR w B v l) (hb : B' ≤ B) : NewR w B' v l := h.base hb
/-- A drawn rule's box, and the result's. -/
structure RuleBox (w wx : World) (c n' B3 : Nat) (a : Option Addr) (m ca : Nat) (b : Option Addr) (k cb : Nat) (p q : List (Int × Int)) : Prop where
  c0 : wx.cell? ⟨B3, 0, none⟩ = some (.slice a m ca)
  c1 : wx.cell? ⟨B3, 1, none⟩ = some (.slice b k cb)
  f0 : wx.frozen? ⟨B3, 0, none⟩ = false
  f1 : wx.frozen? ⟨B3, 1, none⟩ = false
  lt : c < w.heap.size ∧ w.heap.size < B3 ∧ B3 < wx.heap.size
  hp : NewR wx (w.heap.size + 1) (.slice a m ca) p
  hq : NewR wx (w.heap.size + 1) (.slice b k cb) q
  ap : ∀ y, a = some y → y.block ≠ B3
  aq : ∀ y, b = some y → y.block ≠ B3
  cur : Cur wx c n'
  gr : w.grownBy wx (some c)
  r0 : wx.cell? ⟨w.heap.size, 0, none⟩ = some (.slice none 0 0)
  r1 : wx.cell? ⟨w.heap.size, 1, none⟩ = some (.slice none 0 0)
  s0 : wx.frozen? ⟨w.heap.size, 0, none⟩ = false
  s1 : wx.frozen? ⟨w.heap.size, 1, none⟩ = false
theorem RuleBox.drew {w wx w7 : World} {c n' n7 B3 : Nat} {a : Option Addr} {m ca : Nat} {b : Option Addr} {k cb : Nat} {p q : List (Int × Int)} (h : RuleBox w wx c n' B3 a m ca b k cb p q) (hg : wx.grownBy w7 (some c)) (hc : Cur w7 c n7) : RuleBox w w7 c n7 B3 a m ca b k cb p q := by
  have l := h.lt
  have e3 : w7.heap[B3]? = wx.heap[B3]? := hg.block B3 l.2.2 (fun e => by have := Option.some.inj e; omega)
  have er : w7.heap[w.heap.size]? = wx.heap[w.heap.size]? := hg.block _ (by omega) (fun e => by have := Option.some.inj e; omega)
  exact ⟨(World.cell?_of_block (a := ⟨B3, 0, none⟩) e3).trans h.c0, (World.cell?_of_block (a := ⟨B3, 1, none⟩) e3).trans h.c1, (World.frozen?_of_block (a := ⟨B3, 0, none⟩) e3).trans h.f0, (World.frozen?_of_block (a := ⟨B3, 1, none⟩) e3).trans h.f1, ⟨l.1, l.2.1, Nat.lt_of_lt_of_le l.2.2 hg.size⟩, h.hp.grown8 hg (by omega), h.hq.grown8 hg (by omega), h.ap, h.aq, hc, gtrans h.gr hg,
    (World.cell?_of_block (a := ⟨w.heap.size, 0, none⟩) er).trans h.r0, (World.cell?_of_block (a := ⟨w.heap.size, 1, none⟩) er).trans h.r1, (World.frozen?_of_block (a := ⟨w.heap.size, 0, none⟩) er).trans h.s0, (World.frozen?_of_block (a := ⟨w.heap.size, 1, none⟩) er).trans h.s1⟩
/-- The right side is drawn anew. -/
theorem RuleBox.right {w wx : World} {c n' B3 : Nat} {a : Option Addr} {m ca : Nat} {b : Option Addr} {k cb : Nat} {p q q' : List (Int × Int)} {b' : Option Addr} {k' cb' : Nat} (h : RuleBox w wx c n' B3 a m ca b k cb p q) (hq : NewR wx (w.heap.size + 1) (.slice b' k' cb') q') (aq : ∀ y, b' = some y → y.block ≠ B3) : RuleBox w (wx.setCell ⟨B3, 1, none⟩ (.slice b' k' cb')) c n' B3 a m ca b' k' cb' p q' := by
  have l := h.lt
  have hs : (wx.setCell ⟨B3, 1, none⟩ (.slice b' k' cb')).heap.size = wx.heap.size := by simp [World.setCell]
  have hbl : ∀ i, i ≠ B3 → (wx.setCell ⟨B3, 1, none⟩ (.slice b' k' cb')).heap[i]? = wx.heap[i]? := fun i hi => Below.heap_setCell _ _ _ _ hi
  have er := hbl w.heap.size (by omega)
  refine ⟨?_, World.cell?_setCell_same _ _ _ h.c1, by simpa [go_sem] using h.f0, by simpa [go_sem] using h.f1, ⟨l.1, l.2.1, by rw [hs]; exact l.2.2⟩, h.hp.block8 (by rw [hs]; exact Nat.le_refl _) (fun y e => hbl _ (h.ap y e)), hq.block8 (by rw [hs]; exact Nat.le_refl _) (fun y e => hbl _ (aq y e)), h.ap, aq, ?_, ?_,
    (World.cell?_of_block (a := ⟨w.heap.size, 0, none⟩) er).trans h.r0, (World.cell?_of_block (a := ⟨w.heap.size, 1, none⟩) er).trans h.r1, (World.frozen?_of_block (a := ⟨w.heap.size, 0, none⟩) er).trans h.s0, (World.frozen?_of_block (a := ⟨w.heap.size, 1, none⟩) er).trans h.s1⟩
  · rw [World.cell?_setCell_other _ _ _ _ (fun e => by injection e with _ e _; exact absurd e (by decide))]
    exact h.c0
  · exact h.cur.kept (row := some B3) ⟨rfl, rfl, rfl, by rw [hs]; exact Nat.le_refl _, fun i hi hn => hbl i (fun e => hn (by rw [e]))⟩ (fun r hr => by cases hr; omega)
  · exact ⟨h.gr.os, h.gr.tape, h.gr.output, by rw [hs]; exact h.gr.size, fun i hi hn => (hbl i (by omega)).trans (h.gr.block i hi hn)⟩
/-- The left side is drawn anew. -/
theorem RuleBox.left {w wx : World} {c n' B3 : Nat} {a : Option Addr} {m ca : Nat} {b : Option Addr} {k cb : Nat} {p q p' : List (Int × Int)} {a' : Option Addr} {m' ca' : Nat} (h : RuleBox w wx c n' B3 a m ca b k cb p q) (hp : NewR wx (w.heap.size + 1) (.slice a' m' ca') p') (ap : ∀ y, a' = some y → y.block ≠ B3) : RuleBox w (wx.setCell ⟨B3, 0, none⟩ (.slice a' m' ca')) c n' B3 a' m' ca' b k cb p' q := by
  have l := h.lt
  have hs : (wx.setCell ⟨B3, 0, none⟩ (.slice a' m' ca')).heap.size = wx.heap.size := by simp [World.setCell]
  have hbl : ∀ i, i ≠ B3 → (wx.setCell ⟨B3, 0, none⟩ (.slice a' m' ca')).heap[i]? = wx.heap[i]? := fun i hi => Below.heap_setCell _ _ _ _ hi
  have er := hbl w.heap.size (by omega)
  refine ⟨World.cell?_setCell_same _ _ _ h.c0, ?_, by simpa [go_sem] using h.f0, by simpa [go_sem] using h.f1, ⟨l.1, l.2.1, by rw [hs]; exact l.2.2⟩, hp.block8 (by rw [hs]; exact Nat.le_refl _) (fun y e => hbl _ (ap y e)), h.hq.block8 (by rw [hs]; exact Nat.le_refl _) (fun y e => hbl _ (h.aq y e)), ap, h.aq, ?_, ?_,
    (World.cell?_of_block (a := ⟨w.heap.size, 0, none⟩) er).trans h.r0, (World.cell?_of_block (a := ⟨w.heap.size, 1, none⟩) er).trans h.r1, (World.frozen?_of_block (a := ⟨w.heap.size, 0, none⟩) er).trans h.s0, (World.frozen?_of_block (a := ⟨w.heap.size, 1, none⟩) er).trans h.s1⟩
  · rw [World.cell?_setCell_other _ _ _ _ (fun e => by injection e with _ e _; exact absurd e (by decide))]
    exact h.c1
  · exact h.cur.kept (row := some B3) ⟨rfl, rfl, rfl, by rw [hs]; exact Nat.le_refl _, fun i hi hn => hbl i (fun e => hn (by rw [e]))⟩ (fun r hr => by cases hr; omega)
  · exact ⟨h.gr.os, h.gr.tape, h.gr.output, by rw [hs]; exact h.gr.size, fun i hi hn => (hbl i (by omega)).trans (h.gr.block i hi hn)⟩
/-- What is handed back. -/
theorem RuleBox.fin {w wx : World} {c n n' B3 K : Nat} {a : Option Addr} {m ca : Nat} {b : Option Addr} {k cb : Nat} {p q : List (Int × Int)} (h : RuleBox w wx c n' B3 a m ca b k cb p q) (hn : n' ≤ n + K) (x y : Value) : NewR ((wx.setCell ⟨w.heap.size, 0, none⟩ x).setCell ⟨w.heap.size, 1, none⟩ y) w.heap.size (.slice a m ca) p ∧ NewR ((wx.setCell ⟨w.heap.size, 0, none⟩ x).setCell ⟨w.heap.size, 1, none⟩ y) w.heap.size (.slice b k cb) q ∧ Drew w ((wx.setCell ⟨w.heap.size, 0, none⟩ x).setCell ⟨w.heap.size, 1, none⟩ y) c n K := by
  have l := h.lt
  have hs : ((wx.setCell ⟨w.heap.size, 0, none⟩ x).setCell ⟨w.heap.size, 1, none⟩ y).heap.size = wx.heap.size := by simp [World.setCell]
  have hbl : ∀ i, i ≠ w.heap.size → ((wx.setCell ⟨w.heap.size, 0, none⟩ x).setCell ⟨w.heap.size, 1, none⟩ y).heap[i]? = wx.heap[i]? := fun i hi => (Below.heap_setCell _ _ _ _ hi).trans (Below.heap_setCell _ _ _ _ hi)
  have low : ∀ {v : Option Addr} {vm vc : Nat} {l : List (Int × Int)}, NewR wx (w.heap.size + 1) (.slice v vm vc) l → ∀ y, v = some y → y.block ≠ w.heap.size := fun hN y e => by
    obtain ⟨a', len', cap', e', h1, h2, h3, h4⟩ := hN
    cases e'
    have := h4 y e
    omega
  refine ⟨(h.hp.block8 (by rw [hs]; exact Nat.le_refl _) (fun y e => hbl _ (low h.hp y e))).base (by omega), (h.hq.block8 (by rw [hs]; exact Nat.le_refl _) (fun y e => hbl _ (low h.hq y e))).base (by omega), ⟨n', hn, ?_⟩, ?_⟩
  · exact h.cur.kept (row := some w.heap.size) ⟨rfl, rfl, rfl, by rw [hs]; exact Nat.le_refl _, fun i hi hn => hbl i (fun e => hn (by rw [e]))⟩ (fun r hr => by cases hr; omega)
  · exact ⟨h.gr.os, h.gr.tape, h.gr.output, by rw [hs]; exact h.gr.size, fun i hi hn => (hbl i (by omega)).trans (h.gr.block i hi hn)⟩
end Go.Proofs.YtkadanagmahhgaaGreatDoor
