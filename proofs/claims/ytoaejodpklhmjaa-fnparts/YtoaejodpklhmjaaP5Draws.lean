/-
  PROVED HERE: what the laws draw for chapter 5: some lists, not too long, in new memory, and some numbers, whatever the bytes. No condition.
-/
import Derived.Test.YtoaejodpklhmjaaP5DrawParts
import Derived.Test.YtoaejodpklhmjaaP5MeetS
namespace Go.Proofs.Ytoaejodpklhmjaa
open Go.ChangeShapes Go.WideShapes Go.ChangeAt Go.RowKit
set_option linter.unusedVariables false

/-- A drawn list: in memory from B on, not too long. -/
def Row5 (w : World) (B : Nat) (v : Value) (l : List Int) : Prop := w.ownsRow B 3 1 v l.length (vals l) ∧ l.length ≤ 300
theorem Row5.keep {w w' : World} {B : Nat} {v : Value} {l : List Int} (h : Row5 w B v l) (hb : Below w.heap.size w w') : Row5 w' B v l := ⟨row_keep h.1 hb, h.2⟩
theorem Row5.base {w : World} {B B' : Nat} {v : Value} {l : List Int} (h : Row5 w B v l) (hb : B' ≤ B) : Row5 w B' v l := ⟨own_base h.1 hb, h.2⟩
theorem Row5.sl {w : World} {B : Nat} {v : Value} {l : List Int} (h : Row5 w B v l) : ∃ a cap, v = .slice a l.length cap ∧ Sl w a l.length l ∧ (a = none → l.length = 0) := by
  rcases h.1.2 with ⟨rfl, h0⟩ | ⟨g, cap, cur, rfl, hb, hg, _⟩
  · obtain ⟨a, c, e, hs⟩ := Sl.vals h.1
    simp only [Value.slice.injEq] at e
    obtain ⟨rfl, e2, rfl⟩ := e
    exact ⟨none, 0, by rw [h0], hs, fun _ => h0⟩
  · obtain ⟨a, c, e, hs⟩ := Sl.vals h.1
    cases e
    exact ⟨_, _, rfl, hs, fun e => by cases e⟩
theorem Row5.grown {w w' : World} {B c : Nat} {v : Value} {l : List Int} (h : Row5 w B v l) (hg : w.grownBy w' (some c)) (hc : c < B) : Row5 w' B v l :=
  ⟨row_grown h.1 hg (fun x hx e => by cases e; have := own_ge h.1 _ hx; omega), h.2⟩

theorem drawUnion (w : World) (a : Option Addr) (len cap : Nat) (hb : Bytes w w.heap.size a len) (hl : len ≤ 1048576) :
    Calls Try.prog 10 #[.slice a len cap] w fun e w' => ∃ (v : Value) (l : List Int) (x y : Int), e = .returned (.tuple #[v, .int .i64 x, .int .i64 y]) ∧ Row5 w' w.heap.size v l ∧ Below w.heap.size w w' := by
  have hc := cur_new w a len cap hb hl
  have C := (show Hid _ from parents_any _ _ _ hc (by omega))
  have hs0 : w.heap.size < (w.alloc (.cells #[.slice a len cap, .int .i64 0, .int .u64 0] 51)).heap.size := by simp
  clear hc
  go_enter Try.func10, Try.ntmps10
  go_wp2_with fail
  refine Calls.mono C.out ?_
  rintro e w1 ⟨v, l, rfl, hrow, h1, h2, ⟨n1, hn1, hc1⟩, hg1⟩
  have hR : Row5 w1 (w.heap.size + 1) v l := ⟨by simpa using hrow, by omega⟩
  obtain ⟨aa, cc, rfl, hsl, _⟩ := hR.sl
  have C1 := (show Hid _ from pick5_any w1 w.heap.size n1 l.length hc1 (by omega) (by omega))
  clear C hrow hc1 hsl
  obtain ⟨L, hL⟩ : ∃ L, l.length = L := ⟨_, rfl⟩
  rw [hL] at C1 h1 h2 hR ⊢
  have HR := (show Hid _ from hR)
  clear hR
  clear hL
  go_wp2_with fail
  refine Calls.mono C1.out ?_
  rintro e w2 ⟨x, rfl, hx, ⟨n2, hn2, hc2⟩, hg2⟩
  have C2 := (show Hid _ from pick5_any w2 w.heap.size n2 ((L : Int) + 1) hc2 (by omega) (by omega))
  have hG2 := gtrans hg1 hg2
  clear C1 hc2 hx
  go_wp2_with fail
  refine Calls.mono C2.out ?_
  rintro e w3 ⟨y, rfl, hy, ⟨n3, hn3, hc3⟩, hg3⟩
  have hG3 := gtrans hG2 hg3
  clear C2 hy
  go_wp2
  go_ret3
  exact ⟨_, l, _, _, rfl, Row5.base (B' := w.heap.size) ((Row5.grown (B := w.heap.size + 1) HR.out hg2 (by omega)).grown hg3 (by omega)) (by omega), drew_below hG3⟩

theorem drawFind (w : World) (a : Option Addr) (len cap : Nat) (hb : Bytes w w.heap.size a len) (hl : len ≤ 1048576) :
    Calls Try.prog 21 #[.slice a len cap] w fun e w' => ∃ (v : Value) (l : List Int) (x : Int), e = .returned (.tuple #[v, .int .i64 x]) ∧ Row5 w' w.heap.size v l ∧ Below w.heap.size w w' := by
  have hc := cur_new w a len cap hb hl
  have C := (show Hid _ from parents_any _ _ _ hc (by omega))
  clear hc
  go_enter Try.func21, Try.ntmps21
  go_wp2_with fail
  refine Calls.mono C.out ?_
  rintro e w1 ⟨v, l, rfl, hrow, h1, h2, ⟨n1, hn1, hc1⟩, hg1⟩
  have hR : Row5 w1 (w.heap.size + 1) v l := ⟨by simpa using hrow, by omega⟩
  obtain ⟨aa, cc, rfl, hsl, _⟩ := hR.sl
  have C1 := (show Hid _ from pick5_any w1 w.heap.size n1 ((l.length : Int) + 2) hc1 (by omega) (by omega))
  clear C hrow hc1 hsl
  obtain ⟨L, hL⟩ : ∃ L, l.length = L := ⟨_, rfl⟩
  rw [hL] at C1 h1 h2 hR ⊢
  have HR := (show Hid _ from hR)
  clear hR
  clear hL
  go_wp2_with fail
  refine Calls.mono C1.out ?_
  rintro e w2 ⟨x, rfl, hx, ⟨n2, hn2, hc2⟩, hg2⟩
  have hG2 := gtrans hg1 hg2
  clear C1 hx
  go_wp2
  go_ret2
  exact ⟨_, l, _, rfl, Row5.base (B' := w.heap.size) (Row5.grown (B := w.heap.size + 1) HR.out hg2 (by omega)) (by omega), drew_below hG2⟩

theorem drawGood (w : World) (a : Option Addr) (len cap : Nat) (hb : Bytes w w.heap.size a len) (hl : len ≤ 1048576) :
    Calls Try.prog 66 #[.slice a len cap] w fun e w' => ∃ (v : Value) (l : List Int), e = .returned v ∧ Row5 w' w.heap.size v l ∧ Below w.heap.size w w' := by
  have hc := cur_new w a len cap hb hl
  have C := (show Hid _ from pick5_any _ _ _ 12 hc (by omega) (by decide))
  clear hc
  go_enter Try.func66, Try.ntmps66
  go_wp2_with fail
  refine Calls.mono C.out ?_
  rintro e w1 ⟨x, rfl, hx, ⟨n1, hn1, hc1⟩, hg1⟩
  obtain ⟨m, hm⟩ : ∃ m : Nat, 1 + (x : Int) = m := ⟨1 + x, by omega⟩
  have C1 := (show Hid _ from parts_any w1 w.heap.size n1 m hc1 (by omega) ⟨by omega, by omega⟩)
  have hs1 : w.heap.size + 1 ≤ w1.heap.size := by have := hg1.size; simpa using this
  clear C hc1
  go_wp2_with fail
  refine Calls.mono C1.out ?_
  rintro e w2 ⟨v, l, rfl, hrow, hlm, ⟨n2, hn2, hc2⟩, hg2⟩
  have hG2 := gtrans hg1 hg2
  clear C1
  go_wp2
  go_ret
  exact ⟨_, l, rfl, Row5.base ⟨hrow, by omega⟩ (by omega), drew_below hG2⟩
theorem drawCount (w : World) (a : Option Addr) (len cap : Nat) (hb : Bytes w w.heap.size a len) (hl : len ≤ 1048576) :
    Calls Try.prog 37 #[.slice a len cap] w fun e w' => ∃ (v : Value) (l : List Int), e = .returned v ∧ Row5 w' w.heap.size v l ∧ Below w.heap.size w w' := by
  have C := (show Hid _ from drawGood w a len cap hb hl)
  clear hb
  go_enter Try.func37, Try.ntmps37
  go_wp2_with fail
  refine Calls.mono C.out ?_
  rintro e w1 ⟨v, l, rfl, hR, hb1⟩
  clear C
  go_wp2
  go_ret
  exact ⟨_, l, rfl, hR, hb1⟩

theorem drawJoin5 (w : World) (a : Option Addr) (len cap : Nat) (hb : Bytes w w.heap.size a len) (hl : len ≤ 1048576) :
    Calls Try.prog 28 #[.slice a len cap] w fun e w' => ∃ (v : Value) (l : List Int) (x y : Int), e = .returned (.tuple #[v, .int .i64 x, .int .i64 y]) ∧ Row5 w' w.heap.size v l ∧ Below w.heap.size w w' := by
  have hc := cur_new w a len cap hb hl
  have C := (show Hid _ from pick5_any _ _ _ 12 hc (by omega) (by decide))
  clear hc
  go_enter Try.func28, Try.ntmps28
  go_wp2_with fail
  refine Calls.mono C.out ?_
  rintro e w0 ⟨x, rfl, hx, ⟨n0, hn0, hc0⟩, hg0⟩
  obtain ⟨m, hm⟩ : ∃ m : Nat, 1 + (x : Int) = m := ⟨1 + x, by omega⟩
  have C0 := (show Hid _ from parts_any w0 w.heap.size n0 m hc0 (by omega) ⟨by omega, by omega⟩)
  have hs1 : w.heap.size + 1 ≤ w0.heap.size := by have := hg0.size; simpa using this
  clear C hc0
  go_wp2_with fail
  refine Calls.mono C0.out ?_
  rintro e w1 ⟨v, l, rfl, hrow, hlm, ⟨n1, hn1, hc1⟩, hg1'⟩
  have hg1 := gtrans hg0 hg1'
  have hR : Row5 w1 (w.heap.size + 1) v l := Row5.base ⟨hrow, by omega⟩ hs1
  obtain ⟨aa, cc, rfl, hsl, _⟩ := hR.sl
  have h2 : l.length ≤ 13 := by omega
  have C1 := (show Hid _ from pick5_any w1 w.heap.size n1 l.length hc1 (by omega) (by omega))
  clear C0 hrow hc1 hsl hm hx hlm hg1'
  obtain ⟨L, hL⟩ : ∃ L, l.length = L := ⟨_, rfl⟩
  rw [hL] at C1 h2 hR ⊢
  have HR := (show Hid _ from hR)
  clear hR
  clear hL
  go_wp2_with fail
  refine Calls.mono C1.out ?_
  rintro e w2 ⟨x, rfl, hx, ⟨n2, hn2, hc2⟩, hg2⟩
  have C2 := (show Hid _ from pick5_any w2 w.heap.size n2 ((L : Int) + 1) hc2 (by omega) (by omega))
  have hG2 := gtrans hg1 hg2
  clear C1 hc2 hx
  go_wp2_with fail
  refine Calls.mono C2.out ?_
  rintro e w3 ⟨y, rfl, hy, ⟨n3, hn3, hc3⟩, hg3⟩
  have hG3 := gtrans hG2 hg3
  clear C2 hy
  go_wp2
  go_ret3
  exact ⟨_, l, _, _, rfl, Row5.base (B' := w.heap.size) ((Row5.grown (B := w.heap.size + 1) HR.out hg2 (by omega)).grown hg3 (by omega)) (by omega), drew_below hG3⟩

theorem drawMeet (w : World) (a : Option Addr) (len cap : Nat) (hb : Bytes w w.heap.size a len) (hl : len ≤ 1048576) :
    Calls Try.prog 23 #[.slice a len cap] w fun e w' => ∃ (u v : Value) (l m : List Int), e = .returned (.tuple #[u, v]) ∧ Row5 w' w.heap.size u l ∧ Row5 w' w.heap.size v m ∧ Below w.heap.size w w' := by
  have hc := cur_new w a len cap hb hl
  have C := (show Hid _ from pick5_any _ _ _ 10 hc (by omega) (by decide))
  clear hc
  go_enter Try.func23, Try.ntmps23
  go_wp2_with fail
  refine Calls.mono C.out ?_
  rintro e w0 ⟨x, rfl, hx, ⟨n0, hn0, hc0⟩, hg0⟩
  obtain ⟨m, hm⟩ : ∃ m : Nat, 1 + (x : Int) = m := ⟨1 + x, by omega⟩
  have hm' : 1 ≤ m ∧ m ≤ 11 := by omega
  have C0 := (show Hid _ from parts_any w0 w.heap.size n0 m hc0 (by omega) ⟨by omega, by omega⟩)
  have hs1 : w.heap.size + 1 ≤ w0.heap.size := by have := hg0.size; simpa using this
  clear C hc0 hx
  go_wp2_with fail
  refine Calls.mono C0.out ?_
  rintro e w1 ⟨u, l, rfl, hrow, hlm, ⟨n1, hn1, hc1⟩, hg1'⟩
  have hg1 := gtrans hg0 hg1'
  have HR : Hid (Row5 w1 (w.heap.size + 1) u l) := Row5.base ⟨hrow, by omega⟩ hs1
  have C1 := (show Hid _ from pick5_any w1 w.heap.size n1 20 hc1 (by omega) (by decide))
  clear C0 hrow hc1 hg1' hlm hm
  go_wp2_with fail
  refine Calls.mono C1.out ?_
  rintro e w2 ⟨y, rfl, hy, ⟨n2, hn2, hc2⟩, hg2⟩
  have hG2 := gtrans hg1 hg2
  obtain ⟨q, hq⟩ : ∃ q : Nat, (m : Int) + (y : Int).tdiv 19 = q ∧ 1 ≤ q ∧ q ≤ 13 := by
    have e1 : (y : Int).tdiv 19 = ((y / 19 : Nat) : Int) := rfl
    rw [e1]
    exact ⟨m + y / 19, by omega, by omega, by omega⟩
  have hq2 : (m : Int) + (y : Int) / 19 = q := by
    have e1 : (y : Int).tdiv 19 = (y : Int) / 19 := rfl
    rw [← e1]; exact hq.1
  have hq1 := hq.1
  have C2 := (show Hid _ from parts_any w2 w.heap.size n2 q hc2 (by omega) ⟨by omega, by omega⟩)
  have HR2 : Hid (Row5 w2 (w.heap.size + 1) u l) := Row5.grown (B := w.heap.size + 1) HR.out hg2 (by omega)
  have hs2 : w.heap.size + 1 ≤ w2.heap.size := by have := hG2.size; simpa using this
  have hq3 := hq.2
  clear C1 hc2 hg1 HR hg2 hq
  go_wp2_with fail
  refine Calls.mono C2.out ?_
  rintro e w3 ⟨v, r, rfl, hrow, hlr, ⟨n3, hn3, hc3⟩, hg3⟩
  have hG3 := gtrans hG2 hg3
  have HR3 : Hid (Row5 w3 w.heap.size u l ∧ Row5 w3 w.heap.size v r) := ⟨(Row5.grown (B := w.heap.size + 1) HR2.out hg3 (by omega)).base (by omega), Row5.base ⟨hrow, by omega⟩ (by omega)⟩
  clear C2 HR2 hrow hc3 hy
  go_wp2
  go_ret2
  exact ⟨_, _, l, r, rfl, HR3.out.1, HR3.out.2, drew_below hG3⟩

theorem drawFiner (w : World) (a : Option Addr) (len cap : Nat) (hb : Bytes w w.heap.size a len) (hl : len ≤ 1048576) :
    Calls Try.prog 35 #[.slice a len cap] w fun e w' => ∃ (u v : Value) (l m : List Int), e = .returned (.tuple #[u, v]) ∧ Row5 w' w.heap.size u l ∧ Row5 w' w.heap.size v m ∧ Below w.heap.size w w' := by
  have hc := cur_new w a len cap hb hl
  have C := (show Hid _ from pick5_any _ _ _ 10 hc (by omega) (by decide))
  clear hc
  go_enter Try.func35, Try.ntmps35
  go_wp2_with fail
  refine Calls.mono C.out ?_
  rintro e w0 ⟨x, rfl, hx, ⟨n0, hn0, hc0⟩, hg0⟩
  obtain ⟨m, hm⟩ : ∃ m : Nat, 1 + (x : Int) = m := ⟨1 + x, by omega⟩
  have hm' : 1 ≤ m ∧ m ≤ 11 := by omega
  have C0 := (show Hid _ from parts_any w0 w.heap.size n0 m hc0 (by omega) ⟨by omega, by omega⟩)
  have hs1 : w.heap.size + 1 ≤ w0.heap.size := by have := hg0.size; simpa using this
  clear C hc0 hx
  go_wp2_with fail
  refine Calls.mono C0.out ?_
  rintro e w1 ⟨u, l, rfl, hrow, hlm, ⟨n1, hn1, hc1⟩, hg1'⟩
  have hg1 := gtrans hg0 hg1'
  have hR : Row5 w1 (w.heap.size + 1) u l := Row5.base ⟨hrow, by omega⟩ hs1
  have C1 := (show Hid _ from parts_any w1 w.heap.size n1 m hc1 (by omega) ⟨by omega, by omega⟩)
  have hs2 : w.heap.size + 1 ≤ w1.heap.size := by have := hg1.size; simpa using this
  clear C0 hrow hc1 hg1' hm
  go_wp2_with fail
  refine Calls.mono C1.out ?_
  rintro e w2 ⟨v, r, rfl, hrow, hlr, ⟨n2, hn2, hc2⟩, hg2⟩
  have hG2 := gtrans hg1 hg2
  have hR2 : Row5 w2 (w.heap.size + 1) u l := hR.grown hg2 (by omega)
  have hS2 : Row5 w2 (w.heap.size + 1) v r := Row5.base ⟨hrow, by omega⟩ (by omega)
  have hs3 : w.heap.size + 1 ≤ w2.heap.size := by have := hG2.size; simpa using this
  have CM : Hid (Calls Try.prog 25 #[u, v] w2 fun e w' => ∃ z : Value, e = .returned (.tuple #[z, .bool (pairB l r)]) ∧ w'.ownsRow w2.heap.size 3 1 z (meetR l r).length (vals (meetR l r)) ∧ Below w2.heap.size w2 w') := by
    obtain ⟨a1, c1, rfl, s1, _⟩ := hR2.sl
    obtain ⟨a2, c2, rfl, s2, _⟩ := hS2.sl
    exact specMeet_any a1 _ c1 l a2 _ c2 r w2 s1 s2 (by omega) (by omega)
  have hmr : (meetR l r).length ≤ 300 := by
    unfold meetR
    split
    · rw [meet_len]; omega
    · simp
  have HR2 := (show Hid _ from hR2)
  have HS2 := (show Hid _ from hS2)
  generalize meetR l r = M at CM hmr
  generalize pairB l r = P at CM
  clear C1 hR hg1 hrow hR2 hS2 hlm hlr
  go_wp2_with fail
  refine Calls.mono CM.out ?_
  rintro e w3 ⟨z, rfl, hz, hb3⟩
  have HZ : Hid (Row5 w3 w.heap.size z M) := Row5.base ⟨hz, hmr⟩ (by omega)
  have HR3 : Hid (Row5 w3 (w.heap.size + 1) u l) := Row5.keep HR2.out hb3
  have HS3 : Hid (Row5 w3 (w.heap.size + 1) v r) := Row5.keep HS2.out hb3
  have hc3 := hc2.kept (grown_of hb3) (fun r hr => by cases hr)
  have hG3 := grown_own hG2 (grown_of hb3) (fun r hr => by cases hr)
  have hZ1 : Row5 w3 (w.heap.size + 1) z M := Row5.base ⟨hz, hmr⟩ hs3
  have HZ1 := (show Hid _ from hZ1)
  clear CM hz hb3 HR2 HS2 hc2 hG2 hZ1 HZ
  cases P
  · go_wp2
    go_ret2
    exact ⟨_, _, l, r, rfl, Row5.base (B := w.heap.size + 1) HR3.out (by omega), Row5.base (B := w.heap.size + 1) HS3.out (by omega), drew_below hG3⟩
  · have C4 := (show Hid _ from one5_any w3 w.heap.size n2 2 hc3 (by omega) (by decide))
    clear hc3
    go_wp2_with fail
    refine Calls.mono C4.out ?_
    rintro e w4 ⟨t, rfl, ⟨n4, hn4, hc4⟩, hg4⟩
    have hG4 := gtrans hG3 hg4
    have HR4 : Hid (Row5 w4 w.heap.size u l) := (Row5.grown (B := w.heap.size + 1) HR3.out hg4 (by omega)).base (by omega)
    have HS4 : Hid (Row5 w4 w.heap.size v r) := (Row5.grown (B := w.heap.size + 1) HS3.out hg4 (by omega)).base (by omega)
    have HZ4 : Hid (Row5 w4 w.heap.size z M) := (Row5.grown (B := w.heap.size + 1) HZ1.out hg4 (by omega)).base (by omega)
    clear C4 HR3 HS3 HZ1 hg4 hG3 hc4
    cases t
    · go_wp2
      go_ret2
      exact ⟨_, _, l, r, rfl, HR4.out, HS4.out, drew_below hG4⟩
    · go_wp2
      go_ret2
      exact ⟨_, _, M, l, rfl, HZ4.out, HR4.out, drew_below hG4⟩
end Go.Proofs.Ytoaejodpklhmjaa
