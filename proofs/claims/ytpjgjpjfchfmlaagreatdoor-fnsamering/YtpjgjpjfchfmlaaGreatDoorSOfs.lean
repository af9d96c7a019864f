/-
  PROVED HERE: which sum of products the model makes of a number and of a variable. No other condition. which sum of products the model makes of an operation, once those of its parts are known. No other condition.
-/
import Derived.Test.YtpjgjpjfchfmlaaGreatDoorPolyMs
import Derived.Test.YtpjgjpjfchfmlaaGreatDoorPolyOfs
import Derived.Test.YtpjgjpjfchfmlaaGreatDoorNodeRows
import Derived.Test.YtpjgjpjfchfmlaaGreatDoorMath
namespace Go.Proofs.YtpjgjpjfchfmlaaGreatDoor
open Go.ChangeShapes Go.WideShapes Go.ChangeAt Go.RowKit
set_option linter.unusedVariables false

/-- How the model answers with the sum of a node, or with none. -/
def SOf (W : World) (o : Option (List Mon)) (r : Ending) (w' : World) : Prop := ∃ v, r = .returned (.tuple #[v, .bool o.isSome]) ∧ (∀ s, o = some s → SpecB W.heap.size w' v s) ∧ Below W.heap.size W w'
theorem sl_zero (W : World) (t : TypeId) : Sl (W.alloc (.cells #[.int .i64 0, .int .i64 0, .int .i64 0, .int .i64 0] t)) (some ⟨W.heap.size, 0, none⟩) 4 zero4 := by
  refine ⟨rfl, .inr ⟨W.heap.size, 0, rfl, by simp, fun i hi => ?_⟩⟩
  match i, hi with
  | 0, _ => simp [go_sem, zero4]
  | 1, _ => simp [go_sem, zero4]
  | 2, _ => simp [go_sem, zero4]
  | 3, _ => simp [go_sem, zero4]
theorem mk4 (w : World) : (Instr.makeSlice 55 (.int .i64 4) (.int .i64 4)).run Tryz.prog w = .ok (.slice (some ⟨w.heap.size, 0, none⟩) 4 4) (w.alloc (.cells #[.int .i64 0, .int .i64 0, .int .i64 0, .int .i64 0] 3)) := by kernel_rfl
set_option maxHeartbeats 1600000 in
set_option maxRecDepth 20000 in
theorem sOfNum (b off len cap k : Nat) (n : Int) (W : World) (hk : k < len) (hl : len ≤ 40) (c1 : W.cell? ⟨b, off + k * 2, none⟩ = some (.int .i64 1)) (c2 : W.cell? ⟨b, off + k * 2 + 1, none⟩ = some (.int .i64 n)) :
    Calls Tryz.prog 30 #[.slice (some ⟨b, off, none⟩) len cap, .int .i64 (k : Int)] W fun r w' => SOf W (some (numP n)) r w' := by
  have hbl : b < W.heap.size := World.block_lt_of_cell? W _ c1
  have hik : (k : Int) < len := by omega
  have hbne : ¬ b = W.heap.size := by omega
  have hb2 : Below W.heap.size W ((W.alloc (.cells #[.int .i64 1, .int .i64 n] 77)).alloc (.cells #[.int .i64 0, .int .i64 0, .int .i64 0, .int .i64 0] 3)) := ((Below.refl _ _).alloc (Nat.le_refl _) _).alloc (by simp) _
  have HP := (show Hid _ from put_specB W.heap.size ((W.alloc (.cells #[.int .i64 1, .int .i64 n] 77)).alloc (.cells #[.int .i64 0, .int .i64 0, .int .i64 0, .int .i64 0] 3)) hb2.size (.slice none 0 0) [] (SpecV.nil _) (by simp) sum4_nil _ 4 zero4 rfl (Nat.le_refl _) (sl_zero _ _) n)
  rw [show (W.alloc (.cells #[.int .i64 1, .int .i64 n] 77)).heap.size = W.heap.size + 1 from by simp] at HP
  have HB := (show Hid _ from hb2)
  have hmk := mk4
  clear hb2
  go_enter Tryz.func30, Tryz.ntmps30
  go_wp2_with fail
  refine Calls.mono HP.out ?_
  rintro r w3 ⟨v3, rfl, s3, hb3⟩
  clear HP
  go_wp2
  go_ret2
  exact ⟨_, rfl, fun s hs => by cases hs; exact s3, HB.out.trans (hb3.mono HB.out.size)⟩
theorem sl_unit0 (W : World) (t : TypeId) : Sl (W.alloc (.cells #[.int .i64 1, .int .i64 0, .int .i64 0, .int .i64 0] t)) (some ⟨W.heap.size, 0, none⟩) 4 (unit4 0) := by
  refine ⟨rfl, .inr ⟨W.heap.size, 0, rfl, by simp, fun i hi => ?_⟩⟩
  match i, hi with
  | 0, _ => simp [go_sem, unit4, zero4]
  | 1, _ => simp [go_sem, unit4, zero4]
  | 2, _ => simp [go_sem, unit4, zero4]
  | 3, _ => simp [go_sem, unit4, zero4]
set_option maxHeartbeats 1600000 in
set_option maxRecDepth 20000 in
theorem sOfVar0 (b off len cap k : Nat) (W : World) (hk : k < len) (hl : len ≤ 40) (c1 : W.cell? ⟨b, off + k * 2, none⟩ = some (.int .i64 2)) (c2 : W.cell? ⟨b, off + k * 2 + 1, none⟩ = some (.int .i64 0)) :
    Calls Tryz.prog 30 #[.slice (some ⟨b, off, none⟩) len cap, .int .i64 (k : Int)] W fun r w' => SOf W (some (varP 0)) r w' := by
  have hbl : b < W.heap.size := World.block_lt_of_cell? W _ c1
  have hik : (k : Int) < len := by omega
  have hbne : ¬ b = W.heap.size := by omega
  have hb2 : Below W.heap.size W ((W.alloc (.cells #[.int .i64 2, .int .i64 0] 77)).alloc (.cells #[.int .i64 1, .int .i64 0, .int .i64 0, .int .i64 0] 3)) := ((Below.refl _ _).alloc (Nat.le_refl _) _).alloc (by simp) _
  have HP := (show Hid _ from put_specB W.heap.size ((W.alloc (.cells #[.int .i64 2, .int .i64 0] 77)).alloc (.cells #[.int .i64 1, .int .i64 0, .int .i64 0, .int .i64 0] 3)) hb2.size (.slice none 0 0) [] (SpecV.nil _) (by simp) sum4_nil _ 4 (unit4 0) rfl (Nat.le_refl _) (sl_unit0 _ _) 1)
  rw [show (W.alloc (.cells #[.int .i64 2, .int .i64 0] 77)).heap.size = W.heap.size + 1 from by simp] at HP
  have HB := (show Hid _ from hb2)
  have hmk := mk4
  clear hb2
  go_enter Tryz.func30, Tryz.ntmps30
  go_wp2_with fail
  refine Calls.mono HP.out ?_
  rintro r w3 ⟨v3, rfl, s3, hb3⟩
  clear HP
  go_wp2
  go_ret2
  exact ⟨_, rfl, fun s hs => by cases hs; exact s3, HB.out.trans (hb3.mono HB.out.size)⟩
theorem sl_unit1 (W : World) (t : TypeId) : Sl (W.alloc (.cells #[.int .i64 0, .int .i64 1, .int .i64 0, .int .i64 0] t)) (some ⟨W.heap.size, 0, none⟩) 4 (unit4 1) := by
  refine ⟨rfl, .inr ⟨W.heap.size, 0, rfl, by simp, fun i hi => ?_⟩⟩
  match i, hi with
  | 0, _ => simp [go_sem, unit4, zero4]
  | 1, _ => simp [go_sem, unit4, zero4]
  | 2, _ => simp [go_sem, unit4, zero4]
  | 3, _ => simp [go_sem, unit4, zero4]
set_option maxHeartbeats 1600000 in
set_option maxRecDepth 20000 in
theorem sOfVar1 (b off len cap k : Nat) (W : World) (hk : k < len) (hl : len ≤ 40) (c1 : W.cell? ⟨b, off + k * 2, none⟩ = some (.int .i64 2)) (c2 : W.cell? ⟨b, off + k * 2 + 1, none⟩ = some (.int .i64 1)) :
    Calls Tryz.prog 30 #[.slice (some ⟨b, off, none⟩) len cap, .int .i64 (k : Int)] W fun r w' => SOf W (some (varP 1)) r w' := by
  have hbl : b < W.heap.size := World.block_lt_of_cell? W _ c1
  have hik : (k : Int) < len := by omega
  have hbne : ¬ b = W.heap.size := by omega
  have hb2 : Below W.heap.size W ((W.alloc (.cells #[.int .i64 2, .int .i64 1] 77)).alloc (.cells #[.int .i64 0, .int .i64 1, .int .i64 0, .int .i64 0] 3)) := ((Below.refl _ _).alloc (Nat.le_refl _) _).alloc (by simp) _
  have HP := (show Hid _ from put_specB W.heap.size ((W.alloc (.cells #[.int .i64 2, .int .i64 1] 77)).alloc (.cells #[.int .i64 0, .int .i64 1, .int .i64 0, .int .i64 0] 3)) hb2.size (.slice none 0 0) [] (SpecV.nil _) (by simp) sum4_nil _ 4 (unit4 1) rfl (Nat.le_refl _) (sl_unit1 _ _) 1)
  rw [show (W.alloc (.cells #[.int .i64 2, .int .i64 1] 77)).heap.size = W.heap.size + 1 from by simp] at HP
  have HB := (show Hid _ from hb2)
  have hmk := mk4
  clear hb2
  go_enter Tryz.func30, Tryz.ntmps30
  go_wp2_with fail
  refine Calls.mono HP.out ?_
  rintro r w3 ⟨v3, rfl, s3, hb3⟩
  clear HP
  go_wp2
  go_ret2
  exact ⟨_, rfl, fun s hs => by cases hs; exact s3, HB.out.trans (hb3.mono HB.out.size)⟩
theorem sl_unit2 (W : World) (t : TypeId) : Sl (W.alloc (.cells #[.int .i64 0, .int .i64 0, .int .i64 1, .int .i64 0] t)) (some ⟨W.heap.size, 0, none⟩) 4 (unit4 2) := by
  refine ⟨rfl, .inr ⟨W.heap.size, 0, rfl, by simp, fun i hi => ?_⟩⟩
  match i, hi with
  | 0, _ => simp [go_sem, unit4, zero4]
  | 1, _ => simp [go_sem, unit4, zero4]
  | 2, _ => simp [go_sem, unit4, zero4]
  | 3, _ => simp [go_sem, unit4, zero4]
set_option maxHeartbeats 1600000 in
set_option maxRecDepth 20000 in
theorem sOfVar2 (b off len cap k : Nat) (W : World) (hk : k < len) (hl : len ≤ 40) (c1 : W.cell? ⟨b, off + k * 2, none⟩ = some (.int .i64 2)) (c2 : W.cell? ⟨b, off + k * 2 + 1, none⟩ = some (.int .i64 2)) :
    Calls Tryz.prog 30 #[.slice (some ⟨b, off, none⟩) len cap, .int .i64 (k : Int)] W fun r w' => SOf W (some (varP 2)) r w' := by
  have hbl : b < W.heap.size := World.block_lt_of_cell? W _ c1
  have hik : (k : Int) < len := by omega
  have hbne : ¬ b = W.heap.size := by omega
  have hb2 : Below W.heap.size W ((W.alloc (.cells #[.int .i64 2, .int .i64 2] 77)).alloc (.cells #[.int .i64 0, .int .i64 0, .int .i64 1, .int .i64 0] 3)) := ((Below.refl _ _).alloc (Nat.le_refl _) _).alloc (by simp) _
  have HP := (show Hid _ from put_specB W.heap.size ((W.alloc (.cells #[.int .i64 2, .int .i64 2] 77)).alloc (.cells #[.int .i64 0, .int .i64 0, .int .i64 1, .int .i64 0] 3)) hb2.size (.slice none 0 0) [] (SpecV.nil _) (by simp) sum4_nil _ 4 (unit4 2) rfl (Nat.le_refl _) (sl_unit2 _ _) 1)
  rw [show (W.alloc (.cells #[.int .i64 2, .int .i64 2] 77)).heap.size = W.heap.size + 1 from by simp] at HP
  have HB := (show Hid _ from hb2)
  have hmk := mk4
  clear hb2
  go_enter Tryz.func30, Tryz.ntmps30
  go_wp2_with fail
  refine Calls.mono HP.out ?_
  rintro r w3 ⟨v3, rfl, s3, hb3⟩
  clear HP
  go_wp2
  go_ret2
  exact ⟨_, rfl, fun s hs => by cases hs; exact s3, HB.out.trans (hb3.mono HB.out.size)⟩
theorem sl_unit3 (W : World) (t : TypeId) : Sl (W.alloc (.cells #[.int .i64 0, .int .i64 0, .int .i64 0, .int .i64 1] t)) (some ⟨W.heap.size, 0, none⟩) 4 (unit4 3) := by
  refine ⟨rfl, .inr ⟨W.heap.size, 0, rfl, by simp, fun i hi => ?_⟩⟩
  match i, hi with
  | 0, _ => simp [go_sem, unit4, zero4]
  | 1, _ => simp [go_sem, unit4, zero4]
  | 2, _ => simp [go_sem, unit4, zero4]
  | 3, _ => simp [go_sem, unit4, zero4]
set_option maxHeartbeats 1600000 in
set_option maxRecDepth 20000 in
theorem sOfVar3 (b off len cap k : Nat) (W : World) (hk : k < len) (hl : len ≤ 40) (c1 : W.cell? ⟨b, off + k * 2, none⟩ = some (.int .i64 2)) (c2 : W.cell? ⟨b, off + k * 2 + 1, none⟩ = some (.int .i64 3)) :
    Calls Tryz.prog 30 #[.slice (some ⟨b, off, none⟩) len cap, .int .i64 (k : Int)] W fun r w' => SOf W (some (varP 3)) r w' := by
  have hbl : b < W.heap.size := World.block_lt_of_cell? W _ c1
  have hik : (k : Int) < len := by omega
  have hbne : ¬ b = W.heap.size := by omega
  have hb2 : Below W.heap.size W ((W.alloc (.cells #[.int .i64 2, .int .i64 3] 77)).alloc (.cells #[.int .i64 0, .int .i64 0, .int .i64 0, .int .i64 1] 3)) := ((Below.refl _ _).alloc (Nat.le_refl _) _).alloc (by simp) _
  have HP := (show Hid _ from put_specB W.heap.size ((W.alloc (.cells #[.int .i64 2, .int .i64 3] 77)).alloc (.cells #[.int .i64 0, .int .i64 0, .int .i64 0, .int .i64 1] 3)) hb2.size (.slice none 0 0) [] (SpecV.nil _) (by simp) sum4_nil _ 4 (unit4 3) rfl (Nat.le_refl _) (sl_unit3 _ _) 1)
  rw [show (W.alloc (.cells #[.int .i64 2, .int .i64 3] 77)).heap.size = W.heap.size + 1 from by simp] at HP
  have HB := (show Hid _ from hb2)
  have hmk := mk4
  clear hb2
  go_enter Tryz.func30, Tryz.ntmps30
  go_wp2_with fail
  refine Calls.mono HP.out ?_
  rintro r w3 ⟨v3, rfl, s3, hb3⟩
  clear HP
  go_wp2
  go_ret2
  exact ⟨_, rfl, fun s hs => by cases hs; exact s3, HB.out.trans (hb3.mono HB.out.size)⟩
end Go.Proofs.YtpjgjpjfchfmlaaGreatDoor
namespace Go.Proofs.YtpjgjpjfchfmlaaGreatDoor
open Go.ChangeShapes Go.WideShapes Go.ChangeAt Go.RowKit
open Odd
set_option linter.unusedVariables false
attribute [local go_sem] andu63 and63

/-- The sum of an operation by those of its parts. -/
def opR (op x : Int) (o0 o1 : Option (List Mon)) : Option (List Mon) :=
  match o0 with
  | none => none
  | some p =>
    if op = 3 then okP (mulP p (numP (-1)))
    else if op = 7 then okP (mulP p (numP (shlN x)))
    else match o1 with
      | none => none
      | some q => okP (twoP op p q)
theorem SOf.up {W W1 : World} {o : Option (List Mon)} {r : Ending} {w' : World} (hb : Below W.heap.size W W1) (h : SOf W1 o r w') : SOf W o r w' := by
  obtain ⟨v, h1, h2, h3⟩ := h
  exact ⟨v, h1, fun s hs => (h2 s hs).base hb.size, hb.trans (h3.mono hb.size)⟩
theorem sof_ok {W w' : World} {s : List Mon} {v : Value} (h : SpecB W.heap.size w' v s) (hb : Below W.heap.size W w') : SOf W (okP s) (.returned (.tuple #[v, .bool (polyB s)])) w' := by
  refine ⟨v, ?_, fun s' hs => ?_, hb⟩
  · unfold okP
    by_cases e : polyB s = true
    · rw [if_pos e, e]; rfl
    · rw [if_neg e]; simp at e; rw [e]; rfl
  · obtain ⟨rfl, _⟩ := okP_some hs; exact h
theorem good5 {W : World} {v : Value} {s : List Mon} (h : SpecV W v s) (hl : s.length ≤ 9223372036854775807) : Calls Tryz.prog 41 #[v] W fun e w' => e = .returned (.bool (polyB s)) ∧ Below W.heap.size W w' := by
  obtain ⟨a, c, rfl, hp⟩ := h
  exact specPoly_any a _ c s W hp hl
theorem mul5 {W : World} {v u : Value} {p q : List Mon} (h : SpecV W v p) (h' : SpecV W u q) (hp : GoodS p) (hq : GoodS q) : Calls Tryz.prog 64 #[v, u] W fun r w' => ∃ z, r = .returned z ∧ SpecB W.heap.size w' z (mulP p q) ∧ Below W.heap.size W w' := by
  obtain ⟨a, c, rfl, hp'⟩ := h
  obtain ⟨a', c', rfl, hq'⟩ := h'
  exact l4Mul_own a _ c p a' _ c' q W hp' hq' (poly_len hp.1) (poly_len hq.1) hp.fine hq.fine (nine_of hp.1 hq.1)
theorem add5 {W : World} {v u : Value} {p q : List Mon} (h : SpecV W v p) (h' : SpecV W u q) (hl : p.length ≤ 10000) (hl' : q.length ≤ 10000) (hp : ∀ m ∈ p, m.1.length = 4 ∧ InI m.2) (hq : ∀ m ∈ q, m.1.length = 4 ∧ InI m.2) : Calls Tryz.prog 65 #[v, u] W fun r w' => ∃ z, r = .returned z ∧ SpecB W.heap.size w' z (addP p q) ∧ Below W.heap.size W w' := by
  obtain ⟨a, c, rfl, hp'⟩ := h
  obtain ⟨a', c', rfl, hq'⟩ := h'
  exact l4Add_own a _ c p a' _ c' q W hp' hq' hl hl' hp hq
theorem num5 {W : World} {B : Nat} (h : Sl W (some ⟨B, 0, none⟩) 4 zero4) (n : Int) : Calls Tryz.prog 62 #[.slice none 0 0, .slice (some ⟨B, 0, none⟩) 4 4, .int .i64 n] W fun r w' => ∃ v', r = .returned v' ∧ SpecV w' v' (numP n) ∧ Below W.heap.size W w' :=
  put_spec W (.slice none 0 0) [] (SpecV.nil _) (by simp) sum4_nil _ 4 zero4 rfl (Nat.le_refl _) h n

theorem sum_fine {s : List Mon} (h : Sum4 s) : ∀ m ∈ s, m.1.length = 4 ∧ InI m.2 := fun m hm => ⟨(h.2 m hm).1, (h.2 m hm).2.1⟩
theorem mul_few {p q : List Mon} (hp : GoodS p) (hq : GoodS q) : (mulP p q).length ≤ 1600 := by
  have h1 := (mulP_ok hp.len hq.len).2.1
  have h2 := poly_len hp.1
  have h3 := poly_len hq.1
  have := Nat.mul_le_mul h2 h3
  omega
theorem neg_in : InI (-1) := by unfold InI; omega
theorem shl_in (x : Int) : InI (shlN x) := wrap_in _

set_option maxHeartbeats 6400000 in
set_option maxRecDepth 20000 in
theorem sOfOp {l : List (Int × Int)} {q : Int} (h : pile l 0 = some q) (b off len cap k : Nat) (W : World) (hN : NSl W (some ⟨b, off, none⟩) len l) (hl : len ≤ 40) (hk : k < len) (op x : Int) (m : Nat) (hop : (l.getD k (0, 0)).1 = op) (hx : op = 7 → (l.getD (k - 1) (0, 0)).2 = x ∧ 1 ≤ k) (hm : ar op = m) (h1 : 1 ≤ m) (h3 : 3 ≤ op ∧ op ≤ 7) (h2 : op ≠ 3 → m = 2) (r0 r1 : Nat) (hr0 : (roots l m k).getD 0 0 = r0) (hr1 : op ≠ 3 → (roots l m k).getD 1 0 = r1) (o0 o1 : Option (List Mon))
    (H0 : ∀ W', Below W.heap.size W W' → Calls Tryz.prog 30 #[.slice (some ⟨b, off, none⟩) len cap, .int .i64 (r0 : Int)] W' fun r w' => SOf W' o0 r w')
    (H1 : op ≠ 3 → op ≠ 7 → ∀ W', Below W.heap.size W W' → Calls Tryz.prog 30 #[.slice (some ⟨b, off, none⟩) len cap, .int .i64 (r1 : Int)] W' fun r w' => SOf W' o1 r w')
    (g0 : ∀ p, o0 = some p → GoodS p) (g1 : ∀ p, o1 = some p → GoodS p) :
    Calls Tryz.prog 30 #[.slice (some ⟨b, off, none⟩) len cap, .int .i64 (k : Int)] W fun r w' => SOf W (opR op x o0 o1) r w' := by
  have hll := hN.1
  obtain ⟨b', off', e, hbl, hc⟩ := hN.at (by omega)
  cases e
  have c1 := (hc k hk).1
  have c2 := (hc k hk).2
  rw [hop] at c1
  have c7 : op = 7 → W.cell? ⟨b, off + (k - 1) * 2 + 1, none⟩ = some (.int .i64 x) := fun e => by rw [(hc (k - 1) (by omega)).2, (hx e).1]
  have hk1 : op = 7 → 1 ≤ k := fun e => (hx e).2
  have HC7 := (show Hid _ from c7)
  have HK1 := (show Hid _ from hk1)
  have hik : (k : Int) < len := by omega
  have hbne : ¬ b = W.heap.size := by omega
  have q1 : (op == 1) = false := by simp; omega
  have q2 : (op == 2) = false := by simp; omega
  have HPt : Hid (∀ W', Below W.heap.size W W' → Calls Tryz.prog 63 #[.slice (some ⟨b, off, none⟩) len cap, .int .i64 (k : Int)] W' fun e w' => ∃ g c, e = .returned (.slice (some ⟨g, 0, none⟩) m c) ∧ W'.heap.size ≤ g ∧ g < w'.heap.size ∧ w'.cell? ⟨g, 0, none⟩ = some (.int .i64 (r0 : Int)) ∧ (op ≠ 3 → w'.cell? ⟨g, 1, none⟩ = some (.int .i64 (r1 : Int))) ∧ Below W'.heap.size W' w') := fun W' hW' => by
    refine (parts_any h _ len cap W' (hN.keep hW') (by omega) k hk).mono ?_
    rintro e w' ⟨v, rfl, hown, hb⟩
    rw [hop, hm, Int.toNat_natCast] at hown
    have hge := own_ge hown
    obtain ⟨g, c, rfl, hg, hcc⟩ := own_row hown (by omega)
    refine ⟨g, c, rfl, hge g rfl, hg, ?_, fun e3 => ?_, hb⟩
    · rw [hcc 0 (by omega), hr0]
    · rw [hcc 1 (by have := h2 e3; omega), hr1 e3]
  obtain ⟨O, hO⟩ : ∃ O, opR op x o0 o1 = O := ⟨_, rfl⟩
  rw [hO]
  have HO := (show Hid _ from hO)
  clear hO
  have HH0 := (show Hid _ from H0)
  have HH1 := (show Hid _ from H1)
  have G0 := (show Hid _ from g0)
  have G1 := (show Hid _ from g1)
  generalize (l.getD k (0, 0)).2 = n at c2
  obtain ⟨W2, hW2⟩ : ∃ W2, (W.alloc (.cells #[.int .i64 op, .int .i64 n] 77)).alloc (.cells #[.int .i64 0, .int .i64 0, .int .i64 0, .int .i64 0] 3) = W2 := ⟨_, rfl⟩
  have hb2 : Below W.heap.size W W2 := by rw [← hW2]; exact ((Below.refl _ _).alloc (Nat.le_refl _) _).alloc (by simp) _
  have n0 : W2.cell? ⟨W.heap.size, 0, none⟩ = some (.int .i64 op) := by rw [← hW2]; simp [go_sem]
  have z2 : Sl W2 (some ⟨W.heap.size + 1, 0, none⟩) 4 zero4 := by
    rw [← hW2]
    have := sl_zero (W.alloc (.cells #[.int .i64 op, .int .i64 n] 77)) 3
    rw [show (W.alloc (.cells #[.int .i64 op, .int .i64 n] 77)).heap.size = W.heap.size + 1 from by simp] at this
    exact this
  have hs2 : W.heap.size + 2 ≤ W2.heap.size := by rw [← hW2]; simp
  have HW2 := (show Hid _ from hW2)
  have hmk := mk4
  clear H0 H1 g0 g1 hc hx h hN hr0 hr1 hop c7 hk1 hW2 hm
  go_enter Tryz.func30, Tryz.ntmps30
  go_wp2_with fail
  rw [HW2.out]
  clear HW2 hmk c1 c2
  refine Calls.mono (HPt.out _ hb2) ?_
  rintro e w3 ⟨g, c, rfl, hg0, hg, d0, d1, hb3⟩
  have hB3 := hb2.trans (hb3.mono hb2.size)
  have n3 : w3.cell? ⟨W.heap.size, 0, none⟩ = some (.int .i64 op) := (hb3.cell (p := ⟨W.heap.size, 0, none⟩) (by show W.heap.size < _; omega)).trans n0
  have z3 := z2.keep hb3
  have hs3 : W.heap.size + 2 ≤ w3.heap.size := Nat.le_trans hs2 hb3.size
  have HD1 := (show Hid _ from d1)
  have hm0 : (0 : Int) < m := by omega
  clear HPt hb2 n0 z2 hb3 d1 hs2
  go_wp2_with fail
  refine Calls.mono (HH0.out _ hB3) ?_
  rintro r w4 ⟨vp, rfl, hvp, hb4⟩
  have hB4 := hB3.trans (hb4.mono hB3.size)
  have n4 : w4.cell? ⟨W.heap.size, 0, none⟩ = some (.int .i64 op) := (hb4.cell (p := ⟨W.heap.size, 0, none⟩) (by show W.heap.size < _; omega)).trans n3
  have z4 := z3.keep hb4
  have hs4 : W.heap.size + 2 ≤ w4.heap.size := Nat.le_trans hs3 hb4.size
  have HD4 : Hid (op ≠ 3 → w4.cell? ⟨g, 1, none⟩ = some (.int .i64 (r1 : Int))) := fun e => (hb4.cell (p := ⟨g, 1, none⟩) hg).trans (HD1.out e)
  clear HH0 hB3 n3 z3 hb4 hs3 HD1 d0
  cases o0 with
  | none =>
    have hR : none = O := HO.out
    subst hR
    go_wp2
    go_ret2
    exact ⟨_, rfl, fun s hs => (by cases hs), hB4⟩
  | some p =>
    have hP4 := (hvp p rfl).1
    have gp := G0.out p rfl
    have HGp := (show Hid _ from gp)
    clear hvp G0
    rw [show (some p).isSome = true from rfl]
    by_cases e3 : op = 3
    · subst e3
      have HR : Hid (okP (mulP p (numP (-1))) = O) := HO.out
      have D1 := (show Hid _ from num5 z4 (-1))
      go_wp2_with fail
      refine Calls.mono D1.out ?_
      rintro r w5 ⟨vq, rfl, hQ5, hb5⟩
      have hB5 := hB4.trans (hb5.mono hB4.size)
      have D2 := (show Hid _ from mul5 (hP4.keep hb5) hQ5 gp (num_GoodS neg_in))
      clear D1 hb5 hB4 hP4 hQ5
      go_wp2_with fail
      refine Calls.mono D2.out ?_
      rintro r w6 ⟨vz, rfl, hZ6, hb6⟩
      have hB6 := hB5.trans (hb6.mono hB5.size)
      have D3 := (show Hid _ from good5 hZ6.1 (by have := mul_few gp (num_GoodS neg_in); omega))
      have HF : Hid (∀ w7, Below w6.heap.size w6 w7 → SOf W O (.returned (.tuple #[vz, .bool (polyB (mulP p (numP (-1))))])) w7) := fun w7 hb7 => by
        rw [← HR.out]
        exact sof_ok ((hZ6.keep hb7).base hB5.size) (hB6.trans (hb7.mono hB6.size))
      generalize mulP p (numP (-1)) = S at D3 HF
      clear D2 hb6 hB5 hB6 hZ6 gp
      go_wp2_with fail
      refine Calls.mono D3.out ?_
      rintro r w7 ⟨rfl, hb7⟩
      clear D3
      go_wp2
      go_ret2
      exact HF.out _ hb7
    · have q3 : (op == 3) = false := by simpa using e3
      by_cases e7 : op = 7
      · subst e7
        have HR : Hid (okP (mulP p (numP (shlN x))) = O) := HO.out
        have hk1 := HK1.out rfl
        have d7 : w4.cell? ⟨b, off + (k - 1) * 2 + 1, none⟩ = some (.int .i64 x) := (hB4.cell (p := ⟨b, off + (k - 1) * 2 + 1, none⟩) hbl).trans (HC7.out rfl)
        have hkk : (k : Int) - 1 = ((k - 1 : Nat) : Int) := by omega
        obtain ⟨j, hj⟩ : ∃ j, k - 1 = j := ⟨_, rfl⟩
        rw [hj] at d7 hkk
        have hjl : j < len := by omega
        have hjl' : (j : Int) < len := by omega
        have D1 := (show Hid _ from num5 z4 (shlN x))
        have hm63 : (0 : Int) ≤ x % 64 ∧ x % 64 ≤ 63 := by omega
        obtain ⟨hm0', hm1'⟩ := hm63
        have eS : shlN x = wrap64 (2 ^ (x % 64).toNat) := rfl
        rw [eS] at D1
        clear hj
        go_wp2_with fail
        refine Calls.mono D1.out ?_
        rintro r w5 ⟨vq, rfl, hQ5, hb5⟩
        have hB5 := hB4.trans (hb5.mono hB4.size)
        have D2 := (show Hid _ from mul5 (hP4.keep hb5) hQ5 gp (num_GoodS (wrap_in _)))
        clear D1 hb5 hB4 hP4 d7
        go_wp2_with fail
        refine Calls.mono D2.out ?_
        rintro r w6 ⟨vz, rfl, hZ6, hb6⟩
        have hB6 := hB5.trans (hb6.mono hB5.size)
        have D3 := (show Hid _ from good5 hZ6.1 (by have := mul_few gp (num_GoodS (wrap_in (2 ^ (x % 64).toNat))); omega))
        have HF : Hid (∀ w7, Below w6.heap.size w6 w7 → SOf W O (.returned (.tuple #[vz, .bool (polyB (mulP p (numP (wrap64 (2 ^ (x % 64).toNat)))))])) w7) := fun w7 hb7 => by
          rw [← HR.out]
          exact sof_ok ((hZ6.keep hb7).base hB5.size) (hB6.trans (hb7.mono hB6.size))
        generalize mulP p (numP (wrap64 (2 ^ (x % 64).toNat))) = S at D3 HF
        clear D2 hb6 hB5 hB6 hZ6 gp eS
        go_wp2_with fail
        refine Calls.mono D3.out ?_
        rintro r w7 ⟨rfl, hb7⟩
        clear D3
        go_wp2
        go_ret2
        exact HF.out _ hb7
      · have q7 : (op == 7) = false := by simpa using e7
        obtain rfl := h2 e3
        have d1 := HD4.out e3
        clear HC7 HK1
        go_wp2_with fail
        refine Calls.mono (HH1.out e3 e7 _ hB4) ?_
        rintro r w5 ⟨vq, rfl, hvq, hb5⟩
        have hB5 := hB4.trans (hb5.mono hB4.size)
        have n5 : w5.cell? ⟨W.heap.size, 0, none⟩ = some (.int .i64 op) := (hb5.cell (p := ⟨W.heap.size, 0, none⟩) (by show W.heap.size < _; omega)).trans n4
        have z5 := z4.keep hb5
        have hP5 := hP4.keep hb5
        clear HH1 hB4 n4 z4 hb5 hP4 HD4 d1
        cases o1 with
        | none =>
          have hR : none = O := by rw [← HO.out]; unfold opR; simp only; rw [if_neg e3, if_neg e7]
          subst hR
          go_wp2
          go_ret2
          exact ⟨_, rfl, fun s hs => (by cases hs), hB5⟩
        | some qq =>
          have hR : O = okP (twoP op p qq) := by rw [← HO.out]; unfold opR; simp only; rw [if_neg e3, if_neg e7]
          have hQ5 := (hvq qq rfl).1
          have gq := G1.out qq rfl
          clear hvq G1
          rw [show (some qq).isSome = true from rfl]
          have h456 : op = 4 ∨ op = 5 ∨ op = 6 := by omega
          rcases h456 with rfl | rfl | rfl
          · have hT : twoP 4 p qq = addP p qq := by unfold twoP; rw [if_pos rfl]
            rw [hT] at hR
            have HR := (show Hid _ from hR.symm)
            clear hR
            have D2 := (show Hid _ from add5 hP5 hQ5 (by have := poly_len gp.1; omega) (by have := poly_len gq.1; omega) gp.fine gq.fine)
            go_wp2_with fail
            refine Calls.mono D2.out ?_
            rintro r w6 ⟨vz, rfl, hZ6, hb6⟩
            have hB6 := hB5.trans (hb6.mono hB5.size)
            have D3 := (show Hid _ from good5 hZ6.1 (by have := (addP_ok gp.fine gq.fine).2.1; have := poly_len gp.1; have := poly_len gq.1; omega))
            have HF : Hid (∀ w7, Below w6.heap.size w6 w7 → SOf W O (.returned (.tuple #[vz, .bool (polyB (addP p qq))])) w7) := fun w7 hb7 => by
              rw [← HR.out]
              exact sof_ok ((hZ6.keep hb7).base hB5.size) (hB6.trans (hb7.mono hB6.size))
            generalize addP p qq = S at D3 HF
            clear D2 hb6 hB5 hB6 hZ6 gp gq hP5 hQ5 hT
            go_wp2_with fail
            refine Calls.mono D3.out ?_
            rintro r w7 ⟨rfl, hb7⟩
            clear D3
            go_wp2
            go_ret2
            exact HF.out _ hb7
          · have hT : twoP 5 p qq = addP p (mulP qq (numP (-1))) := by unfold twoP; rw [if_neg (by decide), if_pos rfl]
            rw [hT] at hR
            have HR := (show Hid _ from hR.symm)
            clear hR
            have D1 := (show Hid _ from num5 z5 (-1))
            go_wp2_with fail
            refine Calls.mono D1.out ?_
            rintro r w6 ⟨vn, rfl, hN6, hb6⟩
            have hB6 := hB5.trans (hb6.mono hB5.size)
            have D2 := (show Hid _ from mul5 (hQ5.keep hb6) hN6 gq (num_GoodS neg_in))
            have hP6 := hP5.keep hb6
            clear D1 hb6 hB5 hP5 hQ5 hN6
            go_wp2_with fail
            refine Calls.mono D2.out ?_
            rintro r w8 ⟨vm, rfl, hM8, hb8⟩
            have hB8 := hB6.trans (hb8.mono hB6.size)
            have hMs := (mulP_ok gq.len (num_GoodS neg_in).len).1
            have hMf := mul_few gq (num_GoodS neg_in)
            have D4 := (show Hid _ from add5 (hP6.keep hb8) hM8.1 (by have := poly_len gp.1; omega) (by omega) gp.fine (sum_fine hMs))
            have hAl := (addP_ok gp.fine (sum_fine hMs)).2.1
            have hpl := poly_len gp.1
            obtain ⟨S, hS⟩ : ∃ S, addP p (mulP qq (numP (-1))) = S := ⟨_, rfl⟩
            rw [hS] at D4 hAl
            have HSe := (show Hid _ from hS)
            clear hS
            clear D2 hb8 hB6 hP6 hM8 hMs gp gq
            go_wp2_with fail
            refine Calls.mono D4.out ?_
            rintro r w6 ⟨vz, rfl, hZ6, hb6⟩
            have hB6 := hB8.trans (hb6.mono hB8.size)
            have D3 := (show Hid _ from good5 hZ6.1 (by omega))
            have HF : Hid (∀ w7, Below w6.heap.size w6 w7 → SOf W O (.returned (.tuple #[vz, .bool (polyB S)])) w7) := fun w7 hb7 => by
              rw [← HR.out, HSe.out]
              exact sof_ok ((hZ6.keep hb7).base hB8.size) (hB6.trans (hb7.mono hB6.size))
            clear D4 hb6 hB8 hB6 hZ6 hMf hAl hpl
            go_wp2_with fail
            refine Calls.mono D3.out ?_
            rintro r w7 ⟨rfl, hb7⟩
            clear D3
            go_wp2
            go_ret2
            exact HF.out _ hb7
          · have hT : twoP 6 p qq = mulP p qq := by unfold twoP; rw [if_neg (by decide), if_neg (by decide)]
            rw [hT] at hR
            have HR := (show Hid _ from hR.symm)
            clear hR
            have D2 := (show Hid _ from mul5 hP5 hQ5 gp gq)
            go_wp2_with fail
            refine Calls.mono D2.out ?_
            rintro r w6 ⟨vz, rfl, hZ6, hb6⟩
            have hB6 := hB5.trans (hb6.mono hB5.size)
            have D3 := (show Hid _ from good5 hZ6.1 (by have := mul_few gp gq; omega))
            have HF : Hid (∀ w7, Below w6.heap.size w6 w7 → SOf W O (.returned (.tuple #[vz, .bool (polyB (mulP p qq))])) w7) := fun w7 hb7 => by
              rw [← HR.out]
              exact sof_ok ((hZ6.keep hb7).base hB5.size) (hB6.trans (hb7.mono hB6.size))
            generalize mulP p qq = S at D3 HF
            clear D2 hb6 hB5 hB6 hZ6 gp gq hP5 hQ5 hT
            go_wp2_with fail
            refine Calls.mono D3.out ?_
            rintro r w7 ⟨rfl, hb7⟩
            clear D3
            go_wp2
            go_ret2
            exact HF.out _ hb7
end Go.Proofs.YtpjgjpjfchfmlaaGreatDoor
