/-
  PROVED HERE: the laws' own drawn term: some list of at most forty nodes, in new memory, whatever the bytes. No condition.
-/
import Derived.Test.YtlpefaaohcgboaaDoorTrees
import Derived.Test.YtlpefaaohcgboaaDoorNodes
namespace Go.Proofs.YtlpefaaohcgboaaDoor
open Go.ChangeShapes Go.WideShapes Go.ChangeAt Go.RowKit
set_option linter.unusedVariables false

/-- A list of nodes in memory that is newer than B. -/
def New (w : World) (B : Nat) (v : Value) (l : List (Int × Int)) : Prop := ∃ a len cap, v = .slice a len cap ∧ NSl w a len l ∧ len ≤ cap ∧ len ≤ 40 ∧ ∀ x, a = some x → B ≤ x.block
theorem New.of {w : World} {B e : Nat} {v : Value} {n : Nat} {l : List (Int × Int)} (h : w.ownsRow B e 2 v n (flat l)) (hn : n ≤ 40) : New w B v l := by
  obtain ⟨a, cap, rfl, hs⟩ := NSl.row h
  refine ⟨a, n, cap, rfl, hs, ?_, hn, fun x hx => own_ge h _ (by rw [hx]; rfl)⟩
  rcases h.2 with ⟨e, rfl⟩ | ⟨g, cap', cur, e, _, _, hc, _⟩
  · omega
  · simp only [Value.slice.injEq, true_and] at e
    omega
theorem New.grown {w w' : World} {B : Nat} {v : Value} {l : List (Int × Int)} {r : Option Nat} (h : New w B v l) (hg : w.grownBy w' r) (hr : ∀ x, r = some x → x < B) : New w' B v l := by
  obtain ⟨a, len, cap, rfl, hs, h1, h2, h3⟩ := h
  exact ⟨a, len, cap, rfl, hs.grown hg (fun x hx e => by have := hr _ e.symm; have := h3 x hx; omega), h1, h2, h3⟩
theorem New.keep {w w' : World} {B : Nat} {v : Value} {l : List (Int × Int)} (h : New w B v l) (hb : Below w.heap.size w w') : New w' B v l := by
  obtain ⟨a, len, cap, rfl, hs, h1, h2, h3⟩ := h
  exact ⟨a, len, cap, rfl, hs.keep hb, h1, h2, h3⟩

theorem flat_set (x : Int) : ∀ (l : List (Int × Int)) (j : Nat), ∃ l' : List (Int × Int), l'.length = l.length ∧ (flat l).set j (.int .i64 x) = flat l'
  | [], j => ⟨[], rfl, rfl⟩
  | (a, b) :: l, 0 => ⟨(x, b) :: l, rfl, rfl⟩
  | (a, b) :: l, 1 => ⟨(a, x) :: l, rfl, rfl⟩
  | (a, b) :: l, j + 2 => by
    obtain ⟨l', h1, h2⟩ := flat_set x l j
    refine ⟨(a, b) :: l', by simp [h1], ?_⟩
    show Value.int .i64 a :: Value.int .i64 b :: (flat l).set j (.int .i64 x) = _
    rw [h2]; rfl
theorem New.set {w : World} {B e g n cap : Nat} {l : List (Int × Int)} (h : w.ownsRow B e 2 (.slice (some ⟨g, 0, none⟩) n cap) n (flat l)) (hn : n ≤ 40) (j : Nat) (x : Int) : ∃ l', New (w.setCell ⟨g, j, none⟩ (.int .i64 x)) B (.slice (some ⟨g, 0, none⟩) n cap) l' := by
  obtain ⟨l', _, e⟩ := flat_set x l j
  have hs := (h.stored j (.int .i64 x)).1
  rw [e] at hs
  exact ⟨l', New.of hs hn⟩
theorem New.tail {w : World} {B g n cap : Nat} {l : List (Int × Int)} (h : New w B (.slice (some ⟨g, 0, none⟩) n cap) l) (h1 : 1 ≤ n) : ∃ l', New w B (.slice (if cap = 1 then some ⟨g, 0, none⟩ else some ⟨g, 2, none⟩) (n - 1) (cap - 1)) l' := by
  obtain ⟨a, len, cap', e, hs, c1, c2, c3⟩ := h
  simp only [Value.slice.injEq] at e
  obtain ⟨rfl, rfl, rfl⟩ := e
  have hB := c3 _ rfl
  by_cases hc : cap = 1
  · rw [if_pos hc]
    exact ⟨[], _, _, _, rfl, ⟨by simp; omega, .inl (by omega)⟩, by omega, by omega, fun x hx => by cases hx; exact hB⟩
  · rw [if_neg hc]
    have := hs.sub 1 (n - 1) (by omega)
    exact ⟨_, _, _, _, rfl, this, by omega, by omega, fun x hx => by cases hx; exact hB⟩

set_option maxHeartbeats 1600000 in
set_option maxRecDepth 20000 in
theorem term_any (w : World) (c n : Nat) (h : Cur w c n) (hn : n ≤ 1000) :
    Calls Tryd.prog 37 #[.pointer (some ⟨c, 0, none⟩)] w fun e w' => ∃ (v : Value) (l : List (Int × Int)), e = .returned v ∧ New w' w.heap.size v l ∧ Drew w w' c n 1000 := by
  have hcl := h.lt
  have CP := (show Hid _ from pick_any w c n 3 h (by omega) (by decide) (by decide))
  clear h
  go_enter Tryd.func37, Tryd.ntmps37
  go_wp2_with fail
  refine Calls.mono CP.out ?_
  rintro e w1 ⟨v, rfl, v0, v1, hc1, hg1⟩
  clear CP
  obtain ⟨vn, rfl⟩ := Int.eq_ofNat_of_zero_le v0
  have CA := (show Hid _ from all_any w1)
  go_wp2_with fail
  refine Calls.mono CA.out ?_
  rintro e w2 ⟨rfl, ho2, hb2⟩
  clear CA
  have hc2 : Cur w2 c (n + 1) := hc1.kept (grown_of hb2) (fun r hr => by cases hr)
  have hdr : draws (1 + vn) ≤ 600 ∧ most (1 + vn) ≤ 40 := by
    have : vn = 0 ∨ vn = 1 ∨ vn = 2 := by omega
    rcases this with rfl | rfl | rfl <;> decide
  have hc1l := hc1.lt
  have CT := tree_any (1 + vn) (by omega) w2 c (n + 1) w1.heap.size 11 hc2 (by omega) hc1l ho2
  rw [show ((1 + vn : Nat) : Int) = 1 + (vn : Int) from by omega] at CT
  have CT' := (show Hid _ from CT)
  have hg2 : w.grownBy w2 (some c) := grown_own hg1 (grown_of hb2) (fun r hr => by cases hr)
  clear CT hc1 hc2 ho2 hb2 hg1
  go_wp2_with fail
  refine Calls.mono CT'.out ?_
  rintro e w3 ⟨v3, l, rfl, hown, hl1, hl2, ⟨n3, hn3, hc3⟩, hg3⟩
  clear CT'
  have hg3' := gtrans hg2 hg3
  have hown' := own_base hown hg2.size
  have hl40 : l.length ≤ 40 := by omega
  rcases hown'.2 with ⟨_, h0⟩ | ⟨g, cp, cur, rfl, hbg, hgg, hcp, _⟩
  · omega
  have hbig : ¬ (40 : Int) < (l.length : Nat) := by omega
  have CQ := (show Hid _ from pick_any w3 c n3 40 hc3 (by omega) (by decide) (by decide))
  clear hc3 hown hg2 hg3 hl2
  go_wp2_with fail
  refine Calls.mono CQ.out ?_
  rintro e w4 ⟨q, rfl, q0, q1, hc4, hg4⟩
  clear CQ
  have hg4' := gtrans hg3' hg4
  have hown4 := own_grown hown' hg4 (fun x hx e => by have := own_ge hown' x hx; have := Option.some.inj e; omega)
  have hD : Hid (Drew w w4 c n 1000) := ⟨⟨n3 + 1, by omega, hc4⟩, hg4'⟩
  have hNew := New.of hown4 hl40
  clear hown' hg3' hg4 hgg
  have hq : q = 0 ∨ q = 1 ∨ q = 2 ∨ (2 < q) := by omega
  rcases hq with rfl | rfl | rfl | hq
  · obtain ⟨l', hT⟩ := hNew.tail (by omega)
    have HT := (show Hid _ from hT)
    have j1 : (1 : Int) ≤ (l.length : Nat) := by omega
    clear hNew hT
    by_cases hcc : cp = 1
    · have HT2 : Hid (New w4 w.heap.size (.slice (some ⟨g, 0, none⟩) (l.length - 1) 0) l') := by
        have t := HT.out
        rw [if_pos hcc] at t
        subst hcc
        exact t
      clear HT
      go_wp2
      go_ret
      exact ⟨_, l', rfl, HT2.out, hD.out⟩
    · have HT2 : Hid (New w4 w.heap.size (.slice (some ⟨g, 2, none⟩) (l.length - 1) (cp - 1)) l') := by
        have t := HT.out
        rw [if_neg hcc] at t
        exact t
      clear HT
      go_wp2
      go_ret
      exact ⟨_, l', rfl, HT2.out, hD.out⟩
  · obtain ⟨l', hT⟩ := New.set hown4 hl40 1 4
    have HT := (show Hid _ from hT)
    have hxl : (flat l).length = l.length * 2 := flat_len l
    obtain ⟨y1, hy1⟩ : ∃ y, (flat l)[1]? = some y := ⟨_, List.getElem?_eq_getElem (by omega)⟩
    have hce := hown4.cellAt 1 (by omega)
    rw [hy1] at hce
    have hfr := hown4.frozenAt 1
    have HD2 : Hid (Drew w (w4.setCell ⟨g, 1, none⟩ (.int .i64 4)) c n 1000) := by
      have st := (hown4.stored 1 (.int .i64 4)).2
      exact ⟨⟨n3 + 1, by omega, hc4.kept st (fun r hr => by cases hr; omega)⟩, grown_own hg4' st (fun r hr => by cases hr; exact hbg)⟩
    have j1 : (0 : Int) < (l.length : Nat) := by omega
    clear hNew hT hown4 hc4 hD hg4' hy1
    go_wp2
    go_ret
    exact ⟨_, l', rfl, HT.out, HD2.out⟩
  · have CR := (show Hid _ from pick_any w4 c _ 13 hc4 (by omega) (by decide) (by decide))
    have j1 : (l.length : Int) - 1 < (l.length : Nat) := by omega
    have j2 : (0 : Int) ≤ (l.length : Int) - 1 := by omega
    clear hNew hc4 hD
    go_wp2_with fail
    refine Calls.mono CR.out ?_
    rintro e w5 ⟨z, rfl, _, _, hc5, hg5⟩
    clear CR
    have hg5' := gtrans hg4' hg5
    have hown5 := own_grown hown4 hg5 (fun x hx e => by have := own_ge hown4 x hx; have := Option.some.inj e; omega)
    obtain ⟨k, hk⟩ : ∃ k, k + 1 = l.length := ⟨l.length - 1, by omega⟩
    rw [show (l.length : Int) - 1 = (k : Int) from by omega]
    obtain ⟨l', hT⟩ := New.set hown5 hl40 (k * 2) z
    have HT := (show Hid _ from hT)
    have hxl : (flat l).length = l.length * 2 := flat_len l
    obtain ⟨y1, hy1⟩ : ∃ y, (flat l)[k * 2]? = some y := ⟨_, List.getElem?_eq_getElem (by omega)⟩
    have hce := hown5.cellAt (k * 2) (by omega)
    rw [hy1] at hce
    have hfr := hown5.frozenAt (k * 2)
    have HD2 : Hid (Drew w (w5.setCell ⟨g, k * 2, none⟩ (.int .i64 z)) c n 1000) := by
      have st := (hown5.stored (k * 2) (.int .i64 z)).2
      exact ⟨⟨_, by omega, hc5.kept st (fun r hr => by cases hr; omega)⟩, grown_own hg5' st (fun r hr => by cases hr; exact hbg)⟩
    have j3 : (k : Int) < (l.length : Nat) := by omega
    have HK := (show Hid _ from hk)
    clear hT hown4 hown5 hg4' hg5 hg5' hc5 hy1 j1 j2 hk
    go_wp2
    go_ret
    exact ⟨_, l', rfl, HT.out, HD2.out⟩
  · have n0 : (q == 0) = false := by simp; omega
    have n1 : (q == 1) = false := by simp; omega
    have n2 : (q == 2) = false := by simp; omega
    have HNew := (show Hid _ from hNew)
    clear hNew
    go_wp2
    go_ret
    exact ⟨_, l, rfl, HNew.out, hD.out⟩
end Go.Proofs.YtlpefaaohcgboaaDoor
