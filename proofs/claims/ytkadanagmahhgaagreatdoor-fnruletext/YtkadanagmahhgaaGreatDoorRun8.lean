/-
  PROVED HERE: plain facts on what stays where memory grows or one block is written. No condition. plain facts on what stays where memory grows or one block is written. No condition. the model's reading of a variable. No other condition. plain facts on pieces of a list of nodes and the pile behind them. No condition.
-/
import Derived.Test.YtkadanagmahhgaaGreatDoorRun0
import Derived.Test.YtkadanagmahhgaaGreatDoorRun3
import Derived.Test.YtkadanagmahhgaaGreatDoorRun7
import Derived.Test.YtkadanagmahhgaaGreatDoorRun2
namespace Go.Proofs.YtkadanagmahhgaaGreatDoor
open Go.ChangeShapes Go.WideShapes Go.ChangeAt Go.RowKit
set_option linter.unusedVariables false

theorem NSl.grown {w w' : World} {a : Option Addr} {len : Nat} {l : List (Int × Int)} {r : Option Nat} (h : NSl w a len l) (hg : w.grownBy w' r) (hne : ∀ x, a = some x → some x.block ≠ r) : NSl w' a len l := by
  refine ⟨h.1, ?_⟩
  rcases h.2 with h0 | ⟨b, off, ha, hlt, hc⟩
  · exact .inl h0
  · have hb := hg.block b hlt (hne _ ha)
    refine .inr ⟨b, off, ha, Nat.lt_of_lt_of_le hlt hg.size, fun i hi => ?_⟩
    rw [← (hc i hi).1, ← (hc i hi).2]
    constructor <;> simp only [World.cell?, hb]
theorem own_keep {w w' : World} {base e size n : Nat} {v : Value} {xs : List Value} (h : w.ownsRow base e size v n xs) (hb : Below w.heap.size w w') : w'.ownsRow base e size v n xs :=
  h.kept (grown_of hb) (by cases hv : v.ownBlock <;> simp)
theorem own_grown {w w' : World} {base e size n : Nat} {v : Value} {xs : List Value} {r : Option Nat} (h : w.ownsRow base e size v n xs) (hg : w.grownBy w' r) (hne : ∀ x, v.ownBlock = some x → some x ≠ r) : w'.ownsRow base e size v n xs :=
  h.kept hg (by
    cases hv : v.ownBlock with
    | none => exact .inl rfl
    | some x => exact .inr (hne x hv))
theorem own_in {w : World} {base e size n : Nat} {v : Value} {xs : List Value} (h : w.ownsRow base e size v n xs) : ∀ x, v.ownBlock = some x → x < w.heap.size := by
  intro x hx
  rcases h.2 with ⟨rfl, _⟩ | ⟨g, cap, cur, rfl, _, hg, _⟩
  · cases hx
  · cases hx; exact Array.getElem?_eq_some_iff.1 hg |>.1
end Go.Proofs.YtkadanagmahhgaaGreatDoor
namespace Go.Proofs.YtkadanagmahhgaaGreatDoor
open Go.ChangeShapes Go.WideShapes Go.ChangeAt Go.RowKit
set_option linter.unusedVariables false

theorem Mine.keep {w w' : World} {b off len : Nat} (h : Mine w b off len) (hb : Below w.heap.size w w') : Mine w' b off len := by
  refine ⟨Nat.lt_of_lt_of_le h.1 hb.size, fun i hi => ?_⟩
  have e := hb.block b h.1
  obtain ⟨⟨v, hv⟩, hf⟩ := h.2 i hi
  refine ⟨⟨v, ?_⟩, ?_⟩
  · rw [← hv]; simp only [World.cell?, e]
  · rw [← hf]; simp only [World.frozen?, e]

end Go.Proofs.YtkadanagmahhgaaGreatDoor
namespace Go.Proofs.YtkadanagmahhgaaGreatDoor
open Go.ChangeShapes Go.WideShapes Go.ChangeAt Go.RowKit
set_option linter.unusedVariables false
set_option maxHeartbeats 1000000 in
set_option maxRecDepth 20000 in
theorem term_var (w : World) (g : Nat) (s : ByteArray) (a : Nat) (out : List (Int × Int)) (h : Rdr w g s a out) (hs : s.size ≤ 1048576) (ho : out.length ≤ 1048576) (ha : a < s.size) (v : Nat) (hv : v < 4) (hb : (s[a]).toNat = 97 + v) :
    Calls Tryz.prog 102 #[.pointer (some ⟨g, 0, none⟩)] w fun e w' => e = .returned (.bool true) ∧ Rdr w' g s (a + 1) (out ++ [(2, (v : Int))]) ∧ Below g w w' := by
  have HR : Hid (Rdr w g s a out) := h
  have c0 := h.c0
  have c1 := h.c1
  have f1 := h.f1
  have hlt := h.lt
  have i2 : (s.size : Int) ≤ 1048576 := by omega
  have i1 : (a : Int) < s.size := by omega
  have j1 : ((a : Int) == s.size) = false := by simp; omega
  have hix : ∀ W, (Instr.index 9 (.string s) (.int .i64 (a : Int))).run Tryz.prog W = .ok (.int .u8 (97 + (v : Int))) W := by
    intro W
    rw [run_index_string W 9 s .i64 _ Tryz.underlying9, dif_pos (show (0 : Int) ≤ (a : Int) ∧ (a : Int) < s.size from ⟨by omega, by omega⟩)]
    show Result.ok (Value.int .u8 (((s[a]).toNat : Nat) : Int)) W = _
    rw [hb]; rfl
  have k1 : decide ((48 : Int) ≤ 97 + v) = true := by simp; omega
  have k2 : decide (97 + (v : Int) ≤ 57) = false := by simp; omega
  have k3 : ((97 + (v : Int)) == 45) = false := by simp; omega
  have k4 : decide ((97 : Int) ≤ 97 + v) = true := by simp; omega
  have k5 : decide (97 + (v : Int) < 101) = true := by simp; omega
  have hv' : (v : Int) < 4 := by omega
  have k6 : IntKind.i64.wrap (IntKind.u8.wrap (97 + (v : Int) - 97)) = v := by rw [IntKind.wrap_u8, IntKind.wrap_i64]; omega
  have HV : Hid (∀ W, Calls Tryz.prog 97 #[.int .i64 (v : Int)] W fun e w' => e = .returned (.agg #[.int .i64 2, .int .i64 (v : Int)]) ∧ Below W.heap.size W w') := fun W => l2Var_any v W
  obtain ⟨i0, hi, hz0, hz1, hz2⟩ := info_parts infoNode
  clear hb h
  go_enter Tryz.func102, Tryz.ntmps102
  go_wp2
  go_big_quiet (fail)
  revert nq; intro q1
  go_wp2
  go_big_quiet (fail)
  revert nq; intro q2
  go_wp2
  obtain ⟨W, hW⟩ : ∃ W, (w.drewN (q1 + q2)).setCell ⟨g, 1, none⟩ (.int .i64 ((a : Int) + 1)) = W := ⟨_, rfl⟩
  have hR1 : Rdr W g s (a + 1) out := by rw [← hW]; exact (HR.out.drewN _).move (a + 1)
  have hBW : Below g w W := by rw [← hW]; exact (below_drewN g _).trans (below_set _)
  rw [hW]
  clear hW HR c0 c1 f1 hlt
  have HR1 : Hid (Rdr W g s (a + 1) out) := hR1
  obtain ⟨lt, _, _, ⟨vo, c2, hown⟩, _, f2⟩ := hR1
  obtain ⟨po, co, rfl⟩ := own_shape hown
  go_region_law (first
    | (refine step_append rfl _ _ 24 rfl (g + 1) 66 i0 (.agg #[.int .i64 0, .int .i64 0]) 2 16 Tryz.underlying24 hi hz0 hz1 hz2 rfl (by decide) (.slice po out.length co) _ _ rfl ((own_keep hown hb2).alloc _) ⟨w2.heap.size, 0, none⟩ 1 1 [.int .i64 2, .int .i64 (v : Int)] rfl (by simp) (two_new w2 _ _ _) (fun u hu => by rcases List.mem_cons.1 hu with rfl | hu; rfl; rw [List.mem_singleton.1 hu]; rfl) (by unfold maxLen; omega) (by omega) (by have := hb2.size; first | (simp; omega) | simp) ?_; intro v' w5 hown5 hg5 hat5; obtain ⟨p5, q5, rfl⟩ := own_shape hown5; have hB5 : Below (g + 1) W w5 := ((hb2.mono (by omega)).alloc (by have := hb2.size; omega) _).grown hg5 (by have := hb2.size; first | (simp; omega) | simp) (own_ge hown); have d2 := (hB5.cell (p := ⟨g, 2, none⟩) (by simp)).trans c2; have e2 := (hB5.frozen (p := ⟨g, 2, none⟩) (by simp)).trans f2)
    | (go_simp; (try rw [k6]); go_at_call 97; refine (HV.out _).mono ?_; rintro e w2 ⟨rfl, hb2'⟩; have hb2 : Below W.heap.size W w2 := ((Below.refl _ _).drew).trans hb2'; have d2 := (hb2.cell (p := ⟨g, 2, none⟩) lt).trans c2; have hlt2 : g < w2.heap.size := Nat.lt_of_lt_of_le lt hb2.size; have hne2 : ¬ g = w2.heap.size := (by omega); clear hb2'))
  all_goals
    go_wp2
    go_returns
    exact ⟨rfl, HR1.out.push (n := out.length + 1) hB5 (by simp) (by rw [flat_append]; exact hown5), (hBW.trans (hB5.mono (by omega))).trans (below_set _)⟩
end Go.Proofs.YtkadanagmahhgaaGreatDoor
namespace Go.Proofs.YtkadanagmahhgaaGreatDoor
set_option linter.unusedVariables false

def seg (l : List (Int × Int)) (a b : Nat) : List (Int × Int) := (l.drop a).take (b - a)
theorem seg_append (l : List (Int × Int)) (a b c : Nat) (h1 : a ≤ b) (h2 : b ≤ c) : seg l a c = seg l a b ++ seg l b c := by
  unfold seg
  have e : c - a = (b - a) + (c - b) := by omega
  rw [e, List.take_add, List.drop_drop, show a + (b - a) = b from by omega]
theorem seg_self (l : List (Int × Int)) (a : Nat) : seg l a a = [] := by unfold seg; rw [Nat.sub_self]; rfl
theorem seg_one (l : List (Int × Int)) (k : Nat) (h : k < l.length) : seg l k (k + 1) = [l.getD k (0, 0)] := by
  unfold seg
  have e : l.getD k (0, 0) = l[k] := by rw [List.getD_eq_getElem?_getD, List.getElem?_eq_getElem h]; rfl
  rw [show k + 1 - k = 1 from by omega, List.drop_eq_getElem_cons h, e]
  rfl
theorem pile_append (b : List (Int × Int)) : ∀ (a : List (Int × Int)) (p : Int), pile (a ++ b) p = (pile a p).bind fun q => pile b q
  | [], p => rfl
  | (op, n) :: a, p => by
    simp only [List.cons_append, pile]
    split
    · exact pile_append b a _
    · rfl

theorem fits_up {m p p' op n : Int} (h : fits m p op n = true) (hp : m ≤ p') : fits m p' op n = true := by
  have : ¬ p' < m := by omega
  simp only [fits, Bool.not_eq_true', Bool.or_eq_false_iff] at h ⊢
  exact ⟨⟨⟨h.1.1.1, decide_eq_false this⟩, h.1.2⟩, h.2⟩
theorem cnt_pos {l : List (Int × Int)} {q : Int} (h : pile l 0 = some q) (k : Nat) (h0 : 0 < k) (hk : k ≤ l.length) : 1 ≤ cnt l k := by
  obtain ⟨k, rfl⟩ : ∃ x, k = x + 1 := ⟨k - 1, by omega⟩
  obtain ⟨h1, h2⟩ := cnt_step h k (by omega)
  obtain ⟨a1, a2, _⟩ := fits_iff _ _ _ _ h1
  omega
theorem start_root {l : List (Int × Int)} (h : pile l 0 = some 1) (h1 : 1 ≤ l.length) : start l (l.length - 1) = 0 := by
  have e := start_cnt h (l.length - 1) (by omega)
  rw [show l.length - 1 + 1 = l.length from by omega] at e
  have hc : cnt l l.length = 1 := by unfold cnt; rw [List.take_of_length_le (Nat.le_refl _), h]; rfl
  have hle := start_le h (l.length - 1) (by omega)
  rcases Nat.eq_zero_or_pos (start l (l.length - 1)) with h0 | h0
  · exact h0
  · have := cnt_pos h _ h0 (by omega)
    omega
theorem seg_all (l : List (Int × Int)) : seg l 0 l.length = l := by
  unfold seg
  rw [List.drop_zero, Nat.sub_zero, List.take_of_length_le (Nat.le_refl _)]
end Go.Proofs.YtkadanagmahhgaaGreatDoor
