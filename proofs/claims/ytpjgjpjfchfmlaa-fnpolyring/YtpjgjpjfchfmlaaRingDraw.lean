/-
  PROVED HERE: the laws' own drawn terms, of sums and products mostly: some list of nodes, not too long, in new memory, whatever the bytes. No condition.
-/
import Derived.Test.YtpjgjpjfchfmlaaTreesR
import Derived.Test.YtpjgjpjfchfmlaaDrawing
namespace Go.Proofs.Ytpjgjpjfchfmlaa
open Go.ChangeShapes Go.WideShapes Go.ChangeAt Go.RowKit
set_option linter.unusedVariables false

theorem NumsIn.at {l : List (Int × Int)} (h : NumsIn l) (k : Nat) : InI (l.getD k (0, 0)).2 := by
  by_cases hk : k < l.length
  · have e : l.getD k (0, 0) = l[k] := by rw [List.getD_eq_getElem?_getD, List.getElem?_eq_getElem hk]; rfl
    rw [e]
    exact h _ (List.getElem_mem hk)
  · rw [List.getD_eq_getElem?_getD, List.getElem?_eq_none (by omega)]
    unfold InI
    simp
/-- A drawn list of nodes. -/
def NewR (w : World) (B : Nat) (v : Value) (l : List (Int × Int)) : Prop := ∃ a len cap, v = .slice a len cap ∧ NSl w a len l ∧ len ≤ 100 ∧ NumsIn l
theorem NewR.of {w : World} {B e : Nat} {v : Value} {l : List (Int × Int)} (h : w.ownsRow B e 2 v l.length (flat l)) (hl : l.length ≤ 100) (hN : NumsIn l) : NewR w B v l := by
  obtain ⟨a, cap, rfl, hs⟩ := NSl.row h
  exact ⟨a, _, cap, rfl, hs, hl, hN⟩

theorem l2Num_any (x : Int) (w : World) : Calls Try.prog 55 #[.int .i64 x] w fun e w' => e = .returned (.agg #[.int .i64 1, .int .i64 x]) ∧ Below w.heap.size w w' := by
  go_enter Try.func55, Try.ntmps55
  go_wp2
  exact bodyPost_ret (v := .agg #[.int .i64 1, .int .i64 x]) (by simp [results, Try.results55, go_sem]) rfl ⟨rfl, (Below.refl _ _).alloc (Nat.le_refl _) _⟩
theorem four_new (w : World) (a b x y : Int) (t : TypeId) : ∀ j u, [Value.int .i64 a, .int .i64 b, .int .i64 x, .int .i64 y][j]? = some u → (w.alloc (.cells #[.int .i64 a, .int .i64 b, .int .i64 x, .int .i64 y] t)).cell? ((⟨w.heap.size, 0, none⟩ : Addr).add j) = some u := by
  intro j u hj
  match j, hj with
  | 0, hj => simp at hj; subst hj; simp [Addr.add]
  | 1, hj => simp at hj; subst hj; simp [Addr.add]
  | 2, hj => simp at hj; subst hj; simp [Addr.add]
  | 3, hj => simp at hj; subst hj; simp [Addr.add]
theorem four_one (a b x y : Int) : ∀ u ∈ [Value.int .i64 a, .int .i64 b, .int .i64 x, .int .i64 y], u.oneCell' = true := by
  intro u hu
  simp at hu
  rcases hu with rfl | rfl | rfl | rfl <;> rfl

set_option maxHeartbeats 3200000 in
set_option maxRecDepth 20000 in
theorem ring_any (w : World) (c n : Nat) (h : Cur w c n) (hn : n ≤ 50000) :
    Calls Try.prog 41 #[.pointer (some ⟨c, 0, none⟩)] w fun e w' => ∃ (v : Value) (l : List (Int × Int)), e = .returned v ∧ NewR w' w.heap.size v l ∧ Drew w w' c n 3000 := by
  have hcl := h.lt
  obtain ⟨i0, hi, hz0, hz1, hz2⟩ := info_parts infoNode
  have C1 := (show Hid _ from pick_any w c n 3 h (by omega) (by decide) (by decide))
  clear h
  go_enter Try.func41, Try.ntmps41
  go_wp2_with fail
  refine Calls.mono C1.out ?_
  rintro e w1 ⟨v, rfl, v0, v1, hc1, hg1⟩
  obtain ⟨d, hd⟩ : ∃ d : Nat, 1 + v = d := ⟨(1 + v).toNat, by omega⟩
  have C2 := (show Hid _ from ringOps_any w1)
  clear C1
  go_wp2_with fail
  refine Calls.mono C2.out ?_
  rintro e w2 ⟨rfl, ho2, hb2⟩
  have hc2 := hc1.kept (grown_of hb2) (fun r hr => by cases hr)
  have hG2 := grown_own hg1 (grown_of hb2) (fun r hr => by cases hr)
  have hs1 := hg1.size
  have hdr : draws d ≤ 586 := by
    have : d = 1 ∨ d = 2 ∨ d = 3 := by omega
    rcases this with rfl | rfl | rfl <;> decide
  have hmo : most d ≤ 40 := by
    have : d = 1 ∨ d = 2 ∨ d = 3 := by omega
    rcases this with rfl | rfl | rfl <;> decide
  have C3 := (show Hid _ from treeR_any d (by omega) w2 c (n + 1) w1.heap.size 6 hc2 (by omega) (by omega) ho2)
  clear C2 hc1 hg1 ho2 hb2 hc2
  go_wp2_with fail
  refine Calls.mono C3.out ?_
  rintro e w3 ⟨t, l, rfl, hown, hl1, hl2, hNI, ⟨n3, hn3, hc3⟩, hg3⟩
  have hs2 := hG2.size
  have hG3 := gtrans hG2 hg3
  have hown3 := own_base hown hs2
  have C4 := (show Hid _ from once_any w3 c n3 4 hc3 (by omega) (by decide) (by decide))
  clear C3 hown hc3 hG2 hg3
  go_wp2_with fail
  refine Calls.mono C4.out ?_
  rintro e w4 ⟨b4, rfl, hc4, hg4⟩
  have hG4 := gtrans hG3 hg4
  have hrg := own_ge hown3
  have hown4 := own_grown hown3 hg4 (fun x hx e => by cases e; have := hrg _ hx; omega)
  clear C4 hg4 hG3 hown3 hs2
  have hll : l.length ≤ 40 := by omega
  have hn4 : n3 + 1 ≤ n + 600 := by omega
  clear hn3 hdr hmo hl2
  cases b4
  case' false =>
    obtain ⟨W, rfl⟩ : ∃ W, W = w4 := ⟨_, rfl⟩
    obtain ⟨L, hL, hLl, hLN⟩ : ∃ L, L = l ∧ L.length ≤ 100 ∧ Hid (NumsIn L) := ⟨l, rfl, by omega, hNI⟩
    rw [← hL] at hown4
    obtain ⟨m, hm0⟩ : ∃ m, n3 + 1 = m := ⟨_, rfl⟩
    rw [hm0] at hc4
    have hm : m ≤ n + 610 := by omega
    clear hL hNI hm0
    go_wp2_with fail
  case' true =>
    have C5 := (show Hid _ from pick_any w4 c _ 70 hc4 (by omega) (by decide) (by decide))
    clear hc4
    go_wp2_with fail
    refine Calls.mono C5.out ?_
    rintro e w5 ⟨x, rfl, x0, x1, hc5, hg5⟩
    have hG5 := gtrans hG4 hg5
    have hown5 := own_grown hown4 hg5 (fun y hy e => by cases e; have := hrg _ hy; omega)
    clear C5 hG4 hg5 hown4
    have C6 := (show Hid _ from l2Num_any x w5)
    go_wp2_with fail
    refine Calls.mono C6.out ?_
    rintro e w6 ⟨rfl, hb6⟩
    have hG6 := grown_own hG5 (grown_of hb6) (fun r hr => by cases hr)
    have hown6 := own_keep hown5 hb6
    have hc6 := hc5.kept (grown_of hb6) (fun r hr => by cases hr)
    have hs6 := hG6.size
    clear C6 hG5 hb6 hown5 hc5
    go_wp2_with (at_builtin; refine wpList_append_own _ rfl _ _ 69 rfl w.heap.size 81 i0 (.agg #[.int .i64 0, .int .i64 0]) 2 16 Try.underlying69 hi hz0 hz1 hz2 rfl (by decide) _ _ _ rfl (hown6.alloc _) ⟨w6.heap.size, 0, none⟩ 2 2 [.int .i64 1, .int .i64 x, .int .i64 7, .int .i64 0] rfl rfl (four_new w6 1 x 7 0 81) (four_one 1 x 7 0) (by unfold maxLen; omega) (by omega) (by simp; omega) ?_; intro t' W hown7 hg7 _)
    have hown4 : W.ownsRow w.heap.size 81 2 t' (l ++ [(1, x), (7, 0)]).length (flat (l ++ [(1, x), (7, 0)])) := by rw [flat_append, List.length_append]; exact hown7
    have hG4 := grown_own (grown_own hG6 (World.grownBy_alloc _ _ none) (fun r hr => by cases hr)) hg7 hrg
    have hc4 := (hc6.kept (World.grownBy_alloc _ _ none) (fun r hr => by cases hr)).kept hg7 (fun r hr => by have := hrg r hr; omega)
    obtain ⟨L, hL, hLl, hLN⟩ : ∃ L, l ++ [(1, x), (7, 0)] = L ∧ L.length ≤ 100 ∧ Hid (NumsIn L) := ⟨_, rfl, by simp; omega, nums_app hNI.out (fun y hy => by
      simp at hy
      rcases hy with rfl | rfl
      · exact in_small x0 (by omega)
      · exact in_small (by decide) (by decide))⟩
    rw [hL] at hown4
    obtain ⟨m, hm0⟩ : ∃ m, n3 + 1 + 1 = m := ⟨_, rfl⟩
    rw [hm0] at hc4
    have hm : m ≤ n + 610 := by omega
    clear hL hNI hm0 hown7 hg7 hown6 hG6 hc6
  all_goals
    have C7 := (show Hid _ from once_any W c m 12 hc4 (by omega) (by decide) (by decide))
    clear hc4
    refine Calls.mono C7.out ?_
    rintro e w8 ⟨b8, rfl, hc8, hg8⟩
    have hG8 := gtrans hG4 hg8
    have hrg2 := own_ge hown4
    have hown8 := own_grown hown4 hg8 (fun x hx e => by cases e; have := hrg2 _ hx; omega)
    clear C7 hG4 hg8 hown4
    have hs8 := hG8.size
    cases b8
    · go_wp2
      go_ret
      exact ⟨_, L, rfl, NewR.of hown8 hLl hLN.out, ⟨m + 1, by omega, hc8⟩, hG8⟩
    · have C9 := (show Hid _ from term_any w8 c (m + 1) hc8 (by omega))
      clear hc8
      go_wp2_with fail
      refine Calls.mono C9.out ?_
      rintro e w9 ⟨v9, l9, rfl, hN9, hI9, ⟨n9, hn9, hc9⟩, hg9⟩
      have hG9 := gtrans hG8 hg9
      obtain ⟨a9, len9, cap9, rfl, hs9, _, hl9, _⟩ := hN9
      have HN9 : Hid (NewR w9 w.heap.size (.slice a9 len9 cap9) l9) := ⟨a9, len9, cap9, rfl, hs9, by omega, hI9⟩
      clear C9 hs9
      go_wp2
      go_ret
      exact ⟨_, l9, rfl, HN9.out, ⟨n9, by omega, hc9⟩, hG9⟩
end Go.Proofs.Ytpjgjpjfchfmlaa
