/-
  PROVED HERE: what the laws draw out of bytes, whatever the bytes: an op and some numbers, a number and a power, three numbers; nothing that was there is written. No condition.
-/
import Derived.Test.YtapbneeggdknkaaDoorCur
import Derived.Test.YtapbneeggdknkaaDoorArity
namespace Go.Proofs.YtapbneeggdknkaaDoor
open Go.ChangeShapes Go.WideShapes Go.ChangeAt Go.RowKit
open Odd
set_option linter.unusedVariables false

theorem Bytes.of {w : World} {a : Option Addr} {len cap : Nat} {zs : List Int} (h : IsRow .u8 w a len cap zs) : Bytes w w.heap.size a len := by
  by_cases h0 : len = 0
  · exact .inl h0
  · obtain ⟨b, off, ha, hb, hc⟩ := h.at (by omega)
    refine .inr ⟨b, off, ha, hb, fun i hi => ⟨_, hc i hi, ?_⟩⟩
    have hw : ∀ n ∈ zs, (Lit.int .u8 n).wf = true := by
      rcases h with ⟨_, rfl, _, rfl⟩ | ⟨x, rfl, _, _, _, _, hw⟩
      · omega
      · exact hw
    have hl := h.len
    have hm : (zs.take len).getD i 0 ∈ zs := by
      rw [List.getD_eq_getElem?_getD, List.getElem?_eq_getElem (by omega)]
      exact List.mem_of_mem_take (List.getElem_mem _)
    exact bounds_u8 (hw _ hm)

theorem Bytes.keep {w w' : World} {a : Option Addr} {len : Nat} (h : Bytes w w.heap.size a len) (hb : Below w.heap.size w w') : Bytes w' w'.heap.size a len := by
  rcases h with h0 | ⟨b, off, ha, hlt, hc⟩
  · exact .inl h0
  · refine .inr ⟨b, off, ha, Nat.lt_of_lt_of_le hlt hb.size, fun i hi => ?_⟩
    obtain ⟨z, hz, r⟩ := hc i hi
    exact ⟨z, (hb.cell (p := ⟨b, off + i, none⟩) hlt).trans hz, r⟩

theorem cur_new (w : World) (a : Option Addr) (len cap : Nat) (hb : Bytes w w.heap.size a len) (hl : len ≤ 1048576) :
    Cur (w.alloc (.cells #[.slice a len cap, .int .i64 0, .int .u64 0] 45)) w.heap.size 0 := by
  refine ⟨a, len, cap, 0, hl, by omega, ?_, ?_, ?_, ?_, ?_, ?_⟩
  · rcases hb with h0 | ⟨b, off, ha, hlt, hc⟩
    · exact .inl h0
    · refine .inr ⟨b, off, ha, hlt, fun i hi => ?_⟩
      obtain ⟨z, hz, r⟩ := hc i hi
      exact ⟨z, by rw [World.cell?_alloc_past _ _ _ hlt]; exact hz, r⟩
  all_goals simp [go_sem]

theorem drew_below {w w' : World} {o : Obj} (h : (w.alloc o).grownBy w' (some w.heap.size)) : Below w.heap.size w w' :=
  ((Below.refl _ _).alloc (Nat.le_refl _) o).grown h (by simp) (fun k hk => by cases hk; exact Nat.le_refl _)

theorem drawOdd (w : World) (a : Option Addr) (len cap : Nat) (hb : Bytes w w.heap.size a len) (hl : len ≤ 1048576) :
    Calls Tryd.prog 14 #[.slice a len cap] w fun e w' => ∃ v : Int, e = .returned (.int .i64 v) ∧ InI v ∧ Below w.heap.size w w' := by
  have hc := cur_new w a len cap hb hl
  go_enter Tryd.func14, Tryd.ntmps14
  go_wp2_with fail
  refine (num_any _ _ 0 hc (by decide)).mono ?_
  rintro e w1 ⟨v, rfl, hv, ⟨n1, _, hc1⟩, hg⟩
  have hbl := drew_below hg
  clear hc hc1 hg
  go_wp2
  go_ret
  exact ⟨_, rfl, hv, hbl⟩

theorem among_any (w : World) (c n b cap : Nat) (l : List Int) (h : Cur w c n) (hn : n < 1048576) (hl : 2 ≤ l.length) (hl' : l.length ≤ 200) (hbc : c < b)
    (hcell : ∀ i, i < l.length → w.cell? ⟨b, i, none⟩ = some (.int .i64 (l.getD i 0))) :
    Calls Tryd.prog 33 #[.pointer (some ⟨c, 0, none⟩), .slice (some ⟨b, 0, none⟩) l.length cap] w fun e w' => ∃ i : Nat, i < l.length ∧ e = .returned (.int .i64 (l.getD i 0)) ∧ Cur w' c (n + 1) ∧ w.grownBy w' (some c) := by
  go_enter Tryd.func33, Tryd.ntmps33
  go_wp2_with fail
  refine (pick_any w c n _ h hn (by omega) (by omega)).mono ?_
  rintro e w1 ⟨v, rfl, v0, v1, hc1, hg⟩
  obtain ⟨i, rfl⟩ := Int.eq_ofNat_of_zero_le v0
  have hi : i < l.length := by omega
  have hci : w1.cell? ⟨b, i, none⟩ = some (.int .i64 (l.getD i 0)) := hg.cell (hcell i hi) (by intro e; simp at e; omega)
  clear hcell h
  obtain ⟨z, hz⟩ : ∃ z, l.getD i 0 = z := ⟨_, rfl⟩
  rw [hz] at hci
  have HZ : Hid (l.getD i 0 = z) := hz
  clear hz
  go_wp2
  go_ret
  exact ⟨i, hi, by rw [HZ.out]; rfl, hc1, hg⟩

/-- The powers that are drawn. -/
def pows : List Int := [-1, 0, 1, 2, 3, 64, 65]

theorem drawPower (w : World) (a : Option Addr) (len cap : Nat) (hb : Bytes w w.heap.size a len) (hl : len ≤ 1048576) :
    Calls Tryd.prog 17 #[.slice a len cap] w fun e w' => ∃ v k : Int, e = .returned (.tuple #[.int .i64 v, .int .i64 k]) ∧ InI v ∧ (-1 ≤ k ∧ k ≤ 65) ∧ Below w.heap.size w w' := by
  have hc := cur_new w a len cap hb hl
  go_enter Tryd.func17, Tryd.ntmps17
  go_wp2_with fail
  refine (num_any _ _ 0 hc (by decide)).mono ?_
  rintro e w1 ⟨v, rfl, hv, ⟨n1, hn1, hc1⟩, hg⟩
  have hlt := hc1.lt
  have hbl := drew_below hg
  clear hc hg
  go_wp2_with fail
  refine (among_any _ _ n1 w1.heap.size 7 pows (hc1.kept (World.grownBy_alloc w1 _ none) (fun r hr => by cases hr)) (by omega) (by decide) (by decide) hlt ?hcell).mono ?_
  case hcell =>
    intro i hi
    have hi' : i < 7 := hi
    rw [World.cell?_alloc_at _ _ _ _ rfl]
    have : i = 0 ∨ i = 1 ∨ i = 2 ∨ i = 3 ∨ i = 4 ∨ i = 5 ∨ i = 6 := by omega
    rcases this with rfl | rfl | rfl | rfl | rfl | rfl | rfl <;> rfl
  rintro e w2 ⟨i, hi, rfl, hc2, hg2⟩
  have hk : -1 ≤ pows.getD i 0 ∧ pows.getD i 0 ≤ 65 := by
    have hi' : i < 7 := hi
    have : i = 0 ∨ i = 1 ∨ i = 2 ∨ i = 3 ∨ i = 4 ∨ i = 5 ∨ i = 6 := by omega
    rcases this with rfl | rfl | rfl | rfl | rfl | rfl | rfl <;> decide
  generalize pows.getD i 0 = k at hk
  have hbl2 : Below w.heap.size w w2 := (hbl.alloc (by have := hbl.size; omega) _).grown hg2 (by have := hbl.size; simp; omega) (fun r hr => by cases hr; exact Nat.le_refl _)
  clear hc1 hc2 hg2 hbl
  go_wp2
  go_ret2
  exact ⟨_, _, rfl, hv, hk, hbl2⟩

theorem most_any (x : Int) (w : World) : Calls Tryd.prog 24 #[.int .i64 0, .int .i64 x] w fun e w' => e = .returned (.int .i64 (if x < 0 then 0 else x)) ∧ w' = w := by
  by_cases h : x < 0
  · rw [if_pos h]
    go_enter Tryd.func24, Tryd.ntmps24
    go_wp2
    go_ret
    exact ⟨rfl, rfl⟩
  · rw [if_neg h]
    go_enter Tryd.func24, Tryd.ntmps24
    go_wp2
    go_ret
    exact ⟨rfl, rfl⟩

theorem ar_range (op : Int) : -1 ≤ ar op ∧ ar op ≤ 3 := by
  rcases ops op with h | rfl | rfl | rfl | rfl | rfl | rfl | rfl | rfl | rfl | rfl | rfl
  · rw [ar_out op h]; decide
  all_goals decide

/-- What owns a row of numbers holds them. -/
theorem Sl.owns {w : World} {base n : Nat} {v : Value} {ys : List Int} (h : w.ownsRow base 2 1 v n (ys.map (Value.int .i64))) : ∃ a cap, v = .slice a n cap ∧ Sl w a n ys := by
  have hl : ys.length = n := by have := h.1; simpa using this
  rcases h.2 with ⟨rfl, rfl⟩ | ⟨g, cap, cur, rfl, hb, hg, _⟩
  · exact ⟨_, _, rfl, hl, .inl rfl⟩
  · refine ⟨_, _, rfl, hl, .inr ⟨g, 0, rfl, Array.getElem?_eq_some_iff.1 hg |>.1, fun i hi => ?_⟩⟩
    rw [Nat.zero_add, h.cellAt i (by omega), List.getElem?_map, List.getElem?_eq_getElem (by omega)]
    simp [List.getD_eq_getElem?_getD, List.getElem?_eq_getElem (show i < ys.length by omega)]

set_option maxHeartbeats 800000 in
theorem drawDo (w : World) (a : Option Addr) (len cap : Nat) (hb : Bytes w w.heap.size a len) (hl : len ≤ 1048576) :
    Calls Tryd.prog 8 #[.slice a len cap] w fun e w' => ∃ (op : Int) (x : Option Addr) (n c : Nat) (ys : List Int), e = .returned (.tuple #[.int .i64 op, .slice x n c]) ∧ Sl w' x n ys ∧ Below w.heap.size w w' := by
  have hc := cur_new w a len cap hb hl
  go_enter Tryd.func8, Tryd.ntmps8
  go_wp2_with fail
  refine (pick_any _ _ 0 13 hc (by decide) (by decide) (by decide)).mono ?_
  rintro e w1 ⟨op, rfl, op0, op1, hc1, hg1⟩
  clear hc
  go_wp2_with fail
  refine (l1Arity_any _ _).mono ?_
  rintro e w1' ⟨rfl, rfl⟩
  have har := ar_range op
  go_wp2_with fail
  refine (most_any _ _).mono ?_
  rintro e w1'' ⟨rfl, rfl⟩
  obtain ⟨m, hm, hme⟩ : ∃ m : Nat, m ≤ 3 ∧ (if ar op < 0 then 0 else ar op) = m := by
    by_cases h : ar op < 0
    · exact ⟨0, by decide, by rw [if_pos h]; rfl⟩
    · exact ⟨(ar op).toNat, by omega, by rw [if_neg h]; omega⟩
  rw [hme]
  clear hme har
  go_wp2_with fail
  refine (pick_any _ _ _ 20 hc1 (by decide) (by decide) (by decide)).mono ?_
  rintro e w2 ⟨t, rfl, t0, t1, hc2, hg2⟩
  have hg12 := gtrans hg1 hg2
  clear hc1 hg1 hg2
  obtain ⟨q, hq, hqe⟩ : ∃ q : Nat, q ≤ 1 ∧ t / 19 = q := ⟨(t / 19).toNat, by omega, by omega⟩
  have HQ : Hid (t / 19 = q) := hqe
  clear hqe
  go_wp2_with fail
  rw [HQ.out, show (m : Int) + q = ((m + q : Nat) : Int) from by omega]
  refine (nums_any _ _ _ _ hc2 (by omega) (by decide)).mono ?_
  rintro e w3 ⟨v, ys, rfl, hown, hy, hd, hg3⟩
  have hbl := drew_below (gtrans hg12 hg3)
  obtain ⟨x, c, rfl, hsl⟩ := Sl.owns hown
  clear hown hg3 hg12 hc2 hd
  go_wp2
  go_ret2
  exact ⟨_, _, _, _, ys, rfl, hsl, hbl⟩
end Go.Proofs.YtapbneeggdknkaaDoor
