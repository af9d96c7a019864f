/-
  PROVED HERE: what the laws' own drawing of several numbers answers. No condition. drawn sums of products with values, and what is asked of them, called with such values. No other condition.
-/
import Derived.Test.YtpjgjpjfchfmlaaGreatDoorDrawing
import Derived.Test.YtpjgjpjfchfmlaaGreatDoorPolyDraw
import Derived.Test.YtpjgjpjfchfmlaaGreatDoorPolyEvals
namespace Go.Proofs.YtpjgjpjfchfmlaaGreatDoor
open Go.ChangeShapes Go.WideShapes Go.ChangeAt Go.RowKit
open Odd
set_option linter.unusedVariables false
attribute [local go_sem] andu255

set_option maxHeartbeats 800000 in
set_option maxRecDepth 20000 in
theorem nums_any (w : World) (c n m : Nat) (h : Cur w c n) (hm : m ≤ 10) (hn : n ≤ 100000) :
    Calls Tryz.prog 75 #[.pointer (some ⟨c, 0, none⟩), .int .i64 m] w fun e w' => ∃ (v : Value) (ys : List Int), e = .returned v ∧ w'.ownsRow w.heap.size 2 1 v m (ys.map (Value.int .i64)) ∧ (∀ y ∈ ys, InI y) ∧ Drew w w' c n (12 * m) := by
  obtain ⟨i0, hi, hz0, hz1, hz2⟩ := info_parts info2
  have hlt := h.lt
  go_enter Tryz.func75, Tryz.ntmps75
  go_wp2_with fail
  go_loopw [1, 5] (fun i l wr => ∃ (k : Nat) (ys : List Int), k ≤ m ∧ i = .int .i64 ((m - k : Nat) : Int) ∧ wr.ownsRow w.heap.size 2 1 l k (ys.map (Value.int .i64)) ∧ Hid (∀ y ∈ ys, InI y) ∧ Drew w wr c n (12 * k)) (fun i _ _ => (intOf i).toNat)
  case atStart => exact ⟨0, [], by omega, rfl, World.ownsRow_nil _ _ _ _, (fun y hy => by cases hy), ⟨⟨n, by omega, h⟩, World.grownBy.refl _ _⟩⟩
  case round =>
    obtain ⟨k, ys, hk, rfl, hown, hy, ⟨n1, hn1, hcr⟩, hgr⟩ := hrel
    clear h
    by_cases hlt' : k < m
    · have h0 : (0 : Int) < ((m - k : Nat) : Int) := by omega
      go_wp2_with fail
      refine (num_any wr c n1 hcr (by omega)).mono ?_
      rintro e w3 ⟨y, rfl, hyr, ⟨n2, hn2, hc3⟩, hg3⟩
      have hown3 := hown.kept hg3 (by
        rcases hown.2 with ⟨rfl, _⟩ | ⟨g, cap, cur, rfl, hb, _⟩
        · exact .inl rfl
        · exact .inr (by simp [Value.ownBlock]; omega))
      have hgr3 := gtrans hgr hg3
      clear hown hgr hcr hg3
      have hsz3 := hgr3.size
      go_wp2_with (at_builtin; refine wpList_append_own _ rfl _ _ 32 rfl w.heap.size 2 i0 (.int .i64 0) 1 8 Tryz.underlying32 hi hz0 hz1 hz2 rfl (by decide) _ _ _ rfl (hown3.alloc _) ⟨w3.heap.size, 0, none⟩ 1 1 [.int .i64 y] rfl rfl ?c1 ?c2 ?c3 ?c4 ?c5 ?_)
      case c1 =>
        intro j u hj
        match j, hj with
        | 0, hj => simp at hj; subst hj; simp [Addr.add]
      case c2 => intro u hu; simp at hu; subst hu; rfl
      case c3 => unfold maxLen; omega
      case c4 => omega
      case c5 => simp; omega
      intro v' w4 hown4 hg4 _
      have hge := own_ge hown3
      have hgr4 : w.grownBy w4 (some c) := grown_own (grown_own hgr3 (World.grownBy_alloc w3 _ none) (fun r hr => by cases hr)) hg4 hge
      have hc4 : Cur w4 c n2 := (hc3.kept (World.grownBy_alloc w3 _ none) (fun r hr => by cases hr)).kept hg4 (fun r hr => by have := hge r hr; omega)
      clear hown3 hg4 hc3 hgr3
      have hy' : Hid (∀ z ∈ ys ++ [y], InI z) := by
        intro z hz
        rcases List.mem_append.1 hz with hz | hz
        · exact hy.out z hz
        · rw [List.mem_singleton.1 hz]; exact hyr
      have hown5 : w4.ownsRow w.heap.size 2 1 v' (k + 1) ((ys ++ [y]).map (Value.int .i64)) := by rw [List.map_append]; exact hown4
      clear hown4 hy
      go_wp2
      go_roundw
      case rel => exact ⟨k + 1, ys ++ [y], by omega, by congr 1; omega, hown5, hy', ⟨⟨n2, by omega, hc4⟩, hgr4⟩⟩
      case measure => simp [intOf]; omega
    · have h0 : ¬ (0 : Int) < ((m - k : Nat) : Int) := by omega
      obtain rfl : k = m := by omega
      go_wp2
      go_ret
      exact ⟨_, rfl, ys, hown, hy.out, ⟨n1, hn1, hcr⟩, hgr⟩

end Go.Proofs.YtpjgjpjfchfmlaaGreatDoor
namespace Go.Proofs.YtpjgjpjfchfmlaaGreatDoor
open Go.ChangeShapes Go.WideShapes Go.ChangeAt Go.RowKit
set_option linter.unusedVariables false

/-- A drawn sum. -/
def SumD (w : World) (v : Value) (p : List Mon) : Prop := SpecV w v p ∧ (∀ x ∈ p, InI x.2) ∧ p.length ≤ 50
theorem SumD.keep {w w' : World} {v : Value} {p : List Mon} (h : SumD w v p) (hb : Below w.heap.size w w') : SumD w' v p := ⟨h.1.keep hb, h.2⟩
theorem goodI {W : World} {v : Value} {p : List Mon} (hp : SpecV W v p) (hl : p.length ≤ 1048576) : Calls Tryz.prog 15 #[v] W fun e w' => e = .returned (.bool (polyB p)) ∧ Below W.heap.size W w' := by
  obtain ⟨a, c, rfl, h1⟩ := hp
  exact implPoly_any a _ c p W h1 (by omega)
theorem evalI {W : World} {v : Value} {p : List Mon} (hp : SpecV W v p) (hl : p.length ≤ 1048576) (a : Option Addr) (m c : Nat) (env : List Int) (he : Sl W a m env) (hm : m ≤ 1048576) : Calls Tryz.prog 14 #[v, .slice a m c] W fun r w' => r = .returned (.tuple #[.int .i64 (evalPV p env), .bool (evalPok p env)]) ∧ Below W.heap.size W w' := by
  obtain ⟨a', c', rfl, h1⟩ := hp
  exact implEvalP_any a' _ c' p a m c env W h1 he (by omega) (by omega)
theorem evalS {W : World} {v : Value} {p : List Mon} (hp : SpecV W v p) (hl : p.length ≤ 1048576) (a : Option Addr) (m c : Nat) (env : List Int) (he : Sl W a m env) (hm : m ≤ 1048576) : Calls Tryz.prog 17 #[v, .slice a m c] W fun r w' => r = .returned (.tuple #[.int .i64 (evalPV p env), .bool (evalPok p env)]) ∧ Below W.heap.size W w' := by
  obtain ⟨a', c', rfl, h1⟩ := hp
  exact specEvalP_any a' _ c' p a m c env W h1 he (by omega) (by omega)

set_option maxRecDepth 20000 in
theorem env_any (w : World) (c n : Nat) (h : Cur w c n) (hn : n ≤ 90000) :
    Calls Tryz.prog 40 #[.pointer (some ⟨c, 0, none⟩)] w fun e w' => ∃ (a : Option Addr) (m cap : Nat) (ys : List Int), e = .returned (.slice a m cap) ∧ Sl w' a m ys ∧ m ≤ 10 ∧ Drew w w' c n 200 := by
  have C := (show Hid _ from pick_any w c n 30 h (by omega) (by decide) (by decide))
  clear h
  go_enter Tryz.func40, Tryz.ntmps40
  go_wp2_with fail
  refine Calls.mono C.out ?_
  rintro e w1 ⟨v, rfl, v0, v1, hc1, hg1⟩
  obtain ⟨x, rfl⟩ := Int.eq_ofNat_of_zero_le v0
  obtain ⟨m, hm⟩ : ∃ m : Nat, 4 + (x : Int) / 29 = m := ⟨4 + x / 29, by omega⟩
  have hm2 : 4 + (x : Int).tdiv 29 = m := by
    have e1 : (x : Int).tdiv 29 = (x : Int) / 29 := rfl
    rw [e1]; exact hm
  have hm10 : m ≤ 10 := by omega
  have C1 := (show Hid _ from nums_any w1 c (n + 1) m hc1 hm10 (by omega))
  clear C hc1
  go_wp2_with fail
  refine Calls.mono C1.out ?_
  rintro e w2 ⟨r, ys, rfl, hown, _, ⟨n2, hn2, hc2⟩, hg2⟩
  have hG2 := gtrans hg1 hg2
  obtain ⟨a, cap, rfl, hs⟩ := Sl.vals hown
  have HS := (show Hid _ from hs)
  clear C1 hown hs
  go_wp2
  go_ret
  exact ⟨a, m, cap, ys, rfl, HS.out, by omega, ⟨n2, by omega, hc2⟩, hG2⟩

set_option maxRecDepth 20000 in
theorem drawEvalP (w : World) (a : Option Addr) (len cap : Nat) (hb : Bytes w w.heap.size a len) (hl : len ≤ 1048576) :
    Calls Tryz.prog 16 #[.slice a len cap] w fun e w' => ∃ (u : Value) (q : List Mon) (b : Option Addr) (m c : Nat) (ys : List Int), e = .returned (.tuple #[u, .slice b m c]) ∧ SumD w' u q ∧ Sl w' b m ys ∧ m ≤ 10 ∧ Below w.heap.size w w' := by
  have hc := cur_new w a len cap hb hl
  have C := (show Hid _ from poly_any _ _ _ hc (by omega))
  have hs0 : w.heap.size + 1 ≤ (w.alloc (.cells #[.slice a len cap, .int .i64 0, .int .u64 0] 68)).heap.size := by simp
  clear hc
  go_enter Tryz.func16, Tryz.ntmps16
  go_wp2_with fail
  refine Calls.mono C.out ?_
  rintro e w1 ⟨u, k, rfl, hA1, hk, ⟨n1, hn1, hc1⟩, hg1⟩
  have C1 := (show Hid _ from env_any w1 w.heap.size n1 hc1 (by omega))
  have hA1' := hA1.base hs0
  clear C hc1 hA1
  go_wp2_with fail
  refine Calls.mono C1.out ?_
  rintro e w2 ⟨b, m, c2, ys, rfl, hs2, hm, ⟨n2, hn2, hc2⟩, hg2⟩
  have hG2 := gtrans hg1 hg2
  have hA3 := hA1'.grown hg2 (by omega)
  obtain ⟨p, hp1, hp2, hp3⟩ := hA3.list
  have HR : Hid (SumD w2 u p ∧ Sl w2 b m ys) := ⟨⟨hp1, hp2, by omega⟩, hs2⟩
  clear C1 hA1' hA3 hp1 hs2
  go_wp2
  go_ret2
  exact ⟨_, p, b, m, c2, ys, rfl, HR.out.1, HR.out.2, hm, drew_below hG2⟩

set_option maxRecDepth 20000 in
theorem drawIsRing (w : World) (a : Option Addr) (len cap : Nat) (hb : Bytes w w.heap.size a len) (hl : len ≤ 1048576) :
    Calls Tryz.prog 25 #[.slice a len cap] w fun e w' => ∃ (v : Value) (l : List (Int × Int)), e = .returned v ∧ NewR w' w.heap.size v l ∧ Below w.heap.size w w' := by
  have hc := cur_new w a len cap hb hl
  have C := (show Hid _ from ring_any _ _ _ hc (by omega))
  clear hc
  go_enter Tryz.func25, Tryz.ntmps25
  go_wp2_with fail
  refine Calls.mono C.out ?_
  rintro e w1 ⟨v, l, rfl, hN, ⟨n1, hn1, hc1⟩, hg1⟩
  have HN : Hid (NewR w1 w.heap.size v l) := hN.base (by simp)
  clear C hN
  go_wp2
  go_ret
  exact ⟨_, l, rfl, HN.out, drew_below hg1⟩
theorem drawPolyOf (w : World) (a : Option Addr) (len cap : Nat) (hb : Bytes w w.heap.size a len) (hl : len ≤ 1048576) :
    Calls Tryz.prog 6 #[.slice a len cap] w fun e w' => ∃ (v : Value) (l : List (Int × Int)), e = .returned v ∧ NewR w' w.heap.size v l ∧ Below w.heap.size w w' := by
  have C := (show Hid _ from drawIsRing w a len cap hb hl)
  clear hb
  go_enter Tryz.func6, Tryz.ntmps6
  go_wp2_with fail
  refine Calls.mono C.out ?_
  rintro e w1 ⟨v, l, rfl, hN, hb1⟩
  have HN := (show Hid _ from hN)
  clear C hN
  go_wp2
  go_ret
  exact ⟨_, l, rfl, HN.out, hb1⟩
theorem NewR.keep {w w' : World} {B : Nat} {v : Value} {l : List (Int × Int)} (h : NewR w B v l) (hb : Below w.heap.size w w') : NewR w' B v l := by
  obtain ⟨a, len, cap, h1, h2, h3, h4⟩ := h
  exact ⟨a, len, cap, h1, h2.keep hb, h3, h4⟩
end Go.Proofs.YtpjgjpjfchfmlaaGreatDoor
