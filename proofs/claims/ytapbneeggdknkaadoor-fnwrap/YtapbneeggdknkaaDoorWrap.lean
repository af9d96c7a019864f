/-
  PROVED HERE: the law FnWrap's own run, whatever the bytes; the table of arities is laid. No other condition.
-/
import Derived.Test.YtapbneeggdknkaaDoorLongs
import Derived.Test.YtapbneeggdknkaaDoorDoAll
namespace Go.Proofs.YtapbneeggdknkaaDoor
open Go.ChangeShapes Go.WideShapes Go.ChangeAt Go.RowKit
open Odd
set_option linter.unusedVariables false

def arV (op : Int) : Int := if ar op < 0 then 0 else ar op
def arK (op : Int) : Bool := if ar op < 0 then false else true
theorem ar_in (op : Int) : ar op < 0 ↔ (op < 1 ∨ 11 < op) := by
  rcases ops op with h | rfl | rfl | rfl | rfl | rfl | rfl | rfl | rfl | rfl | rfl | rfl
  · rw [ar_out op h]; omega
  all_goals decide
theorem implArity_any (op : Int) (w : World) (ht : Tab w) :
    Calls Tryd.prog 11 #[.int .i64 op] w fun e w' => e = .returned (.tuple #[.int .i64 (arV op), .bool (arK op)]) ∧ w' = w := by
  unfold arV arK
  by_cases h : ar op < 0
  · rw [if_pos h, if_pos h]; exact implArity_out op w ((ar_in op).1 h)
  · rw [if_neg h, if_neg h]; exact implArity_in op w ht (by have := ar_in op; omega)
theorem specArity_any (op : Int) (w : World) :
    Calls Tryd.prog 12 #[.int .i64 op] w fun e w' => e = .returned (.tuple #[.int .i64 (arV op), .bool (arK op)]) ∧ w' = w := by
  unfold arV arK
  by_cases h : ar op < 0
  · rw [if_pos h, if_pos h]; exact specArity_out op w ((ar_in op).1 h)
  · rw [if_neg h, if_neg h]; exact specArity_in op w (by omega)

theorem two_cells (W : World) (x y : Int) : (W.alloc (.cells #[.int .i64 x, .int .i64 y] 2)).cell? ⟨W.heap.size, 0, none⟩ = some (.int .i64 x) ∧ (W.alloc (.cells #[.int .i64 x, .int .i64 y] 2)).cell? ⟨W.heap.size, 0 + 1, none⟩ = some (.int .i64 y) := by
  constructor <;> simp [go_sem]
theorem lit_below {W w' : World} {o : Obj} (h : Below (W.alloc o).heap.size (W.alloc o) w') : Below W.heap.size W w' :=
  ((Below.refl _ _).alloc (Nat.le_refl _) o).trans (h.mono (by simp))

/-- A call of DoOp at a list that is written out. -/
theorem lit4 (W : World) (x y : Int) (ht : Tab W) : Calls Tryd.prog 9 #[.int .i64 4, .slice (some ⟨W.heap.size, 0, none⟩) 2 2] (W.alloc (.cells #[.int .i64 x, .int .i64 y] 2)) fun e w' => ∃ s : Int, e = .returned (.tuple #[.int .i64 s, .bool false, .bool true]) ∧ Hid (s = wrap64 (x + y)) ∧ Below W.heap.size W w' :=
  (implDo4 _ 0 2 x y _ (ht.keep ((Below.refl _ _).alloc (Nat.le_refl _) _)) (two_cells W x y).1 (two_cells W x y).2).mono fun e w' ⟨he, hb⟩ => ⟨_, he, rfl, lit_below hb⟩
theorem lit5 (W : World) (x y : Int) (ht : Tab W) : Calls Tryd.prog 9 #[.int .i64 5, .slice (some ⟨W.heap.size, 0, none⟩) 2 2] (W.alloc (.cells #[.int .i64 x, .int .i64 y] 2)) fun e w' => ∃ s : Int, e = .returned (.tuple #[.int .i64 s, .bool false, .bool true]) ∧ Hid (s = wrap64 (x - y)) ∧ Below W.heap.size W w' :=
  (implDo5 _ 0 2 x y _ (ht.keep ((Below.refl _ _).alloc (Nat.le_refl _) _)) (two_cells W x y).1 (two_cells W x y).2).mono fun e w' ⟨he, hb⟩ => ⟨_, he, rfl, lit_below hb⟩
theorem lit6 (W : World) (x y : Int) (ht : Tab W) : Calls Tryd.prog 9 #[.int .i64 6, .slice (some ⟨W.heap.size, 0, none⟩) 2 2] (W.alloc (.cells #[.int .i64 x, .int .i64 y] 2)) fun e w' => ∃ s : Int, e = .returned (.tuple #[.int .i64 s, .bool false, .bool true]) ∧ Hid (s = wrap64 (x * y)) ∧ Below W.heap.size W w' :=
  (implDo6 _ 0 2 x y _ (ht.keep ((Below.refl _ _).alloc (Nat.le_refl _) _)) (two_cells W x y).1 (two_cells W x y).2).mono fun e w' ⟨he, hb⟩ => ⟨_, he, rfl, lit_below hb⟩
theorem lit7 (W : World) (x : Int) (ht : Tab W) : Calls Tryd.prog 9 #[.int .i64 7, .slice (some ⟨W.heap.size, 0, none⟩) 2 2] (W.alloc (.cells #[.int .i64 x, .int .i64 3] 2)) fun e w' => ∃ s : Int, e = .returned (.tuple #[.int .i64 s, .bool false, .bool true]) ∧ Hid (s = wrap64 (x * 8)) ∧ Below W.heap.size W w' :=
  (implDo7 _ 0 2 x 3 _ (ht.keep ((Below.refl _ _).alloc (Nat.le_refl _) _)) (two_cells W x 3).1 (two_cells W x 3).2).mono fun e w' ⟨he, hb⟩ => ⟨_, he, rfl, lit_below hb⟩
theorem lit3 (W : World) (x : Int) (ht : Tab W) : Calls Tryd.prog 9 #[.int .i64 3, .slice (some ⟨W.heap.size, 0, none⟩) 1 1] (W.alloc (.cells #[.int .i64 x] 2)) fun e w' => ∃ s : Int, e = .returned (.tuple #[.int .i64 s, .bool false, .bool true]) ∧ Hid (s = wrap64 (-x)) ∧ Below W.heap.size W w' :=
  (implDo3 _ 0 1 x _ (ht.keep ((Below.refl _ _).alloc (Nat.le_refl _) _)) (by simp [go_sem])).mono fun e w' ⟨he, hb⟩ => ⟨_, he, rfl, lit_below hb⟩

theorem wrap_dist (a b c : Int) : wrap64 (wrap64 (a + b) * c) = wrap64 (wrap64 (a * c) + wrap64 (b * c)) := by
  obtain ⟨k1, h1⟩ := wrap64_dvd (a + b)
  obtain ⟨k2, h2⟩ := wrap64_dvd (a * c)
  obtain ⟨k3, h3⟩ := wrap64_dvd (b * c)
  rw [h1, h2, h3, Int.add_mul, Int.add_mul, Int.mul_right_comm]
  generalize a * c = p
  generalize b * c = q
  generalize k1 * c = r
  unfold wrap64
  omega
theorem wrap_sub (a b : Int) : wrap64 (a - b) = wrap64 (a + wrap64 (-b)) := by
  unfold wrap64
  omega

set_option maxRecDepth 100000 in
set_option maxHeartbeats 2000000 in
theorem lawWrap (a b : Option Addr) (len cap len' cap' : Nat) (w : World) (ht : Tab w) (hA : Bytes w w.heap.size a len) (hB : Bytes w w.heap.size b len') (hm : len ≤ 9223372036854775807) (hm' : len' ≤ 9223372036854775807) :
    Calls Tryd.prog 3 #[.slice a len cap, .slice b len' cap'] w fun e w' => e = .returned (.bool true) ∧ Below w.heap.size w w' := by
  by_cases hbig : len ≤ 1048576 ∧ len' ≤ 1048576 - len
  · obtain ⟨hl, hl'⟩ := hbig
    go_enter Tryd.func3, Tryd.ntmps3
    go_wp2_with fail
    refine (big_no _ _ _ _ _ _ _ hl hl').mono ?_
    rintro e w0 ⟨rfl, rfl⟩
    go_wp2_with fail
    refine (drawDo _ _ _ _ hA hl).mono ?_
    rintro e w1 ⟨op, x, n, c, ys, rfl, hs1, hb1⟩
    have ht1 := ht.keep hb1
    go_wp2_with fail
    refine (implDo_any _ _ _ _ _ _ ht1 hs1).mono ?_
    rintro e w2 ⟨rfl, hb2⟩
    have hs2 := hs1.keep hb2
    have ht2 := ht1.keep hb2
    have hB2 := hb1.trans (hb2.mono hb1.size)
    clear hs1 ht1 hb1 hb2
    go_wp2_with fail
    refine (specDo_any _ _ _ _ _ _ hs2).mono ?_
    rintro e w3 ⟨rfl, hb3⟩
    have ht3 := ht2.keep hb3
    have hB3 := hB2.trans (hb3.mono hB2.size)
    clear hs2 ht2 hB2 hb3
    generalize doV op n ys = V
    generalize doT op n ys = T
    generalize doK op n = K
    go_wp2_with fail
    refine (implArity_any _ _ ht3).mono ?_
    rintro e w3' ⟨rfl, rfl⟩
    go_wp2_with fail
    refine (specArity_any _ _).mono ?_
    rintro e w3'' ⟨rfl, rfl⟩
    generalize arV op = AV
    generalize arK op = AK
    go_wp2_with fail
    refine (longs_any _ _ _ _ 3 (hB.keep hB3) (by omega) (by decide)).mono ?_
    rintro e w4 ⟨v, zs, rfl, hown, hz, hb4⟩
    obtain ⟨x', c', rfl, hsl⟩ := Sl.owns hown
    obtain ⟨b4, o4, rfl, hcc⟩ := cells_of hsl (by decide)
    have c0 := hcc 0 (by decide)
    rw [Nat.add_zero] at c0
    have c1 := hcc 1 (by decide)
    have c2 := hcc 2 (by decide)
    have ht4 := ht3.keep hb4
    have hB4 := hB3.trans (hb4.mono hB3.size)
    clear hown hsl hcc hb4 ht3 hB3 hz
    generalize zs.getD 0 0 = p at c0
    generalize zs.getD 1 0 = q at c1
    generalize zs.getD 2 0 = r at c2
    go_wp2
    go_quiet (fail)
    clear c0 c1 c2
    have ht5 : ∀ n, Tab (w4.drewN n) := fun n => ht4.keep (below_drewN (Below.refl _ _) n)
    have hB5 : ∀ n, Below w0.heap.size w0 (w4.drewN n) := fun n => below_drewN hB4 n
    clear ht4 hB4
    go_wp2_with fail
    refine (lit4 _ _ _ (ht5 _)).mono ?_
    rintro e v0 ⟨s, rfl, e_s, hb⟩
    have hT0 := Tab.keep (ht5 _) hb
    have hX0 := Below.trans (hB5 _) (hb.mono (Below.size (hB5 _)))
    clear hb
    go_wp2_with fail
    refine (lit6 _ _ _ hT0).mono ?_
    rintro e v1 ⟨pp, rfl, e_pp, hb⟩
    have hT1 := Tab.keep hT0 hb
    have hX1 := Below.trans hX0 (hb.mono (Below.size hX0))
    clear hb
    clear hT0 hX0
    go_wp2_with fail
    refine (lit6 _ _ _ hT1).mono ?_
    rintro e v2 ⟨xx, rfl, e_xx, hb⟩
    have hT2 := Tab.keep hT1 hb
    have hX2 := Below.trans hX1 (hb.mono (Below.size hX1))
    clear hb
    clear hT1 hX1
    go_wp2_with fail
    refine (lit6 _ _ _ hT2).mono ?_
    rintro e v3 ⟨yy, rfl, e_yy, hb⟩
    have hT3 := Tab.keep hT2 hb
    have hX3 := Below.trans hX2 (hb.mono (Below.size hX2))
    clear hb
    clear hT2 hX2
    go_wp2_with fail
    refine (lit4 _ _ _ hT3).mono ?_
    rintro e v4 ⟨sm, rfl, e_sm, hb⟩
    have hT4 := Tab.keep hT3 hb
    have hX4 := Below.trans hX3 (hb.mono (Below.size hX3))
    clear hb
    clear hT3 hX3
    go_wp2_with fail
    refine (lit3 _ _ hT4).mono ?_
    rintro e v5 ⟨mm, rfl, e_mm, hb⟩
    have hT5 := Tab.keep hT4 hb
    have hX5 := Below.trans hX4 (hb.mono (Below.size hX4))
    clear hb
    clear hT4 hX4
    go_wp2_with fail
    refine (lit5 _ _ _ hT5).mono ?_
    rintro e v6 ⟨dd, rfl, e_dd, hb⟩
    have hT6 := Tab.keep hT5 hb
    have hX6 := Below.trans hX5 (hb.mono (Below.size hX5))
    clear hb
    clear hT5 hX5
    go_wp2_with fail
    refine (lit4 _ _ _ hT6).mono ?_
    rintro e v7 ⟨ee, rfl, e_ee, hb⟩
    have hT7 := Tab.keep hT6 hb
    have hX7 := Below.trans hX6 (hb.mono (Below.size hX6))
    clear hb
    clear hT6 hX6
    go_wp2_with fail
    refine (lit7 _ _ hT7).mono ?_
    rintro e v8 ⟨ll, rfl, e_ll, hb⟩
    have hT8 := Tab.keep hT7 hb
    have hX8 := Below.trans hX7 (hb.mono (Below.size hX7))
    clear hb
    clear hT7 hX7
    have f1 : (pp == sm) = true := by
      rw [beq_iff_eq, e_pp.out, e_sm.out, e_s.out, e_xx.out, e_yy.out]; exact wrap_dist _ _ _
    have f2 : (dd == ee) = true := by
      rw [beq_iff_eq, e_dd.out, e_ee.out, e_mm.out]; exact wrap_sub _ _
    have f3 : (s == wrap64 (p + q)) = true := by rw [beq_iff_eq, e_s.out]
    have f4 : (ll == wrap64 (p * 8)) = true := by rw [beq_iff_eq, e_ll.out]
    go_wp2
    go_ret
    exact ⟨rfl, hX8⟩
  · go_enter Tryd.func3, Tryd.ntmps3
    go_wp2_with fail
    refine (big_yes _ _ _ _ _ _ _ hbig hm hm').mono ?_
    rintro e w0 ⟨rfl, rfl⟩
    go_wp2
    go_ret
    exact ⟨rfl, Below.refl _ _⟩
end Go.Proofs.YtapbneeggdknkaaDoor
