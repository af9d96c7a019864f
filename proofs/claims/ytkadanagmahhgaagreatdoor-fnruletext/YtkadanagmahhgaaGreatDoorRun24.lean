/-
  PROVED HERE: whether a rule is one of the twelve that are given, but for names: what the program answers, at every good rule. The tables are laid, and the library's bound on short searches holds some number. No other condition. plain facts on sums of products: that one of falling powers without noughts is told by its numbers, and what it is to add a product. No condition. how sums of products lie in memory; what the model's comparing and testing of powers answer. No other condition. how a row of products that a call makes lies in memory, and what an append to it leaves. No condition.
-/
import Derived.Test.YtkadanagmahhgaaGreatDoorRun23
import Derived.Test.YtkadanagmahhgaaGreatDoorS8Names
import Derived.Test.YtkadanagmahhgaaGreatDoorRun0
import Derived.Test.YtkadanagmahhgaaGreatDoorRun1
import Derived.Test.YtkadanagmahhgaaGreatDoorRun19
import Derived.Maps.AppendAt
import Derived.Lib.SliceRun
namespace Go.Proofs.YtkadanagmahhgaaGreatDoor
open Go.ChangeShapes Go.WideShapes Go.ChangeAt Go.RowKit
set_option linter.unusedVariables false

/-- A row of rules in memory. -/
def RowR (w : World) (g n : Nat) (P : Nat → List (Int × Int)) (Q : Nat → List (Int × Int)) : Prop := g < w.heap.size ∧ ∀ i, i < n → ∃ a c b d, w.cell? ⟨g, i * 2, none⟩ = some (.slice a (P i).length c) ∧ w.cell? ⟨g, i * 2 + 1, none⟩ = some (.slice b (Q i).length d) ∧ NSl w a (P i).length (P i) ∧ NSl w b (Q i).length (Q i)
theorem RowR.keep {w w' : World} {g n : Nat} {P Q : Nat → List (Int × Int)} (h : RowR w g n P Q) (hb : Below w.heap.size w w') : RowR w' g n P Q :=
  ⟨Nat.lt_of_lt_of_le h.1 hb.size, fun i hi => by
    obtain ⟨a, c, b, d, h1, h2, h3, h4⟩ := h.2 i hi
    exact ⟨a, c, b, d, (hb.cell (p := ⟨g, i * 2, none⟩) h.1).trans h1, (hb.cell (p := ⟨g, i * 2 + 1, none⟩) h.1).trans h2, h3.keep hb, h4.keep hb⟩⟩
theorem RowR.of {w : World} {lo : Nat} {a : Option Addr} {d : Nat} {xs : List Value} (ho : w.ownsRow lo 26 2 (.slice a 12 d) 12 xs) (hr : Read w lo (Value.slice a 12 d).ownBlock xs axTs) : ∃ g, a = some ⟨g, 0, none⟩ ∧ RowR w g 12 axL axR := by
  rcases ho.2 with ⟨e, h0⟩ | ⟨g, cap, cur, e, hg, hh, r⟩
  · omega
  · cases e
    refine ⟨g, rfl, owns_lt ho, fun i hi => ?_⟩
    have hl := hr.1
    obtain ⟨x, cx, y, cy, f1, f2, f3, f4⟩ := (hr.2.1 i hi).reads
    have hlen : axTs.length = 12 := rfl
    refine ⟨x, cx, y, cy, ?_, ?_, f3, f4⟩
    · rw [ho.cellAt (i * 2) (by omega)]
      rw [List.getD_eq_getElem?_getD, List.getElem?_eq_getElem (by omega), Option.getD_some] at f1
      rw [List.getElem?_eq_getElem (by omega), f1]
      rfl
    · rw [ho.cellAt (i * 2 + 1) (by omega)]
      rw [List.getD_eq_getElem?_getD, List.getElem?_eq_getElem (by omega), Option.getD_some] at f2
      rw [List.getElem?_eq_getElem (by omega), f2]
      rfl
theorem isAx1_any (q : Nat) (a b a' b' : Option Addr) (n c m d n' c' m' d' : Nat) (p r p' r' : List (Int × Int)) (w : World) (hq : q < w.heap.size ∧ w.cell? ⟨q, 0, none⟩ = some (.slice a n c) ∧ w.cell? ⟨q, 1, none⟩ = some (.slice b m d)) (h1 : NSl w a n p) (h2 : NSl w b m r) (h3 : NSl w a' n' p') (h4 : NSl w b' m' r') (hg : ruleB p r = true) (hg' : ruleB p' r' = true) :
    Calls Tryz.prog 72 #[.agg #[.slice a' n' c', .slice b' m' d'], .pointer (some ⟨q, 0, none⟩)] w fun e w' => e = .returned (.bool (sameS p r p' r')) ∧ Below w.heap.size w w' := by
  unfold ruleB at hg hg'
  rw [Bool.and_eq_true] at hg hg'
  have v1 := pat_VR hg.1
  have v2 := pat_VR hg.2
  have v3 := pat_VR hg'.1
  have v4 := pat_VR hg'.2
  have hl1 := h1.1
  have hl2 := h2.1
  have hl3 := h3.1
  have hl4 := h4.1
  obtain ⟨W1, hW1⟩ : ∃ W1, w.alloc (.cells #[.slice a' n' c', .slice b' m' d'] 26) = W1 := ⟨_, rfl⟩
  have hb1 : Below w.heap.size w W1 := by rw [← hW1]; exact (Below.refl _ _).alloc (Nat.le_refl _) _
  have n0 : W1.cell? ⟨w.heap.size, 0, none⟩ = some (.slice a' n' c') := by rw [← hW1]; simp [go_sem]
  have n1 : W1.cell? ⟨w.heap.size, 1, none⟩ = some (.slice b' m' d') := by rw [← hW1]; simp [go_sem]
  have n2 : W1.cell? ⟨q, 0, none⟩ = some (.slice a n c) := (hb1.cell (p := ⟨q, 0, none⟩) hq.1).trans hq.2.1
  have n3 : W1.cell? ⟨q, 1, none⟩ = some (.slice b m d) := (hb1.cell (p := ⟨q, 1, none⟩) hq.1).trans hq.2.2
  have HI := (show Hid _ from implNames_any a b a' b' n c m d n' c' m' d' p r p' r' W1 (h1.keep hb1) (h2.keep hb1) (h3.keep hb1) (h4.keep hb1) v1.1 v2.1 v3.1 v4.1 (by omega) (by omega) (by omega) (by omega))
  rw [← same_eq _ _ _ _ v1.1 v2.1 v3.1 v4.1] at HI
  have HB := (show Hid _ from hb1)
  clear h1 h2 h3 h4 hg hg' v1 v2 v3 v4 hb1 hl1 hl2 hl3 hl4
  go_enter Tryz.func72, Tryz.ntmps72
  go_wp2_with fail
  (try rw [hW1])
  refine Calls.mono HI.out ?_
  rintro e w2 ⟨rfl, hb2⟩
  have HB2 : Hid (Below w.heap.size w w2) := HB.out.trans (hb2.mono HB.out.size)
  clear HI hW1 hb2 HB
  go_wp2
  go_ret
  exact ⟨rfl, HB2.out⟩
set_option maxHeartbeats 3200000 in
set_option maxRecDepth 20000 in
theorem indexAx_any (q g cg : Nat) (a b : Option Addr) (n c m d : Nat) (p r : List (Int × Int)) (w : World) (hq : q < w.heap.size ∧ w.cell? ⟨q, 0, none⟩ = some (.slice a n c) ∧ w.cell? ⟨q, 1, none⟩ = some (.slice b m d)) (h1 : NSl w a n p) (h2 : NSl w b m r) (hg : ruleB p r = true) (hr : RowR w g 12 axL axR) :
    Calls Tryz.prog 108 #[.slice (some ⟨g, 0, none⟩) 12 cg, .func (.func 72) #[] #[.pointer (some ⟨q, 0, none⟩)]] w fun e w' => ∃ z : Int, e = .returned (.int .i64 z) ∧ decide (0 ≤ z) = knownS p r ∧ Below w.heap.size w w' := by
  have HC : Hid (∀ W k x cx y cy, Below w.heap.size w W → k < 12 → NSl W x (axL k).length (axL k) → NSl W y (axR k).length (axR k) → Calls Tryz.prog 72 #[.agg #[.slice x (axL k).length cx, .slice y (axR k).length cy], .pointer (some ⟨q, 0, none⟩)] W fun e w' => e = .returned (.bool (sameS p r (axL k) (axR k))) ∧ Below W.heap.size W w') := fun W k x cx y cy hW hk f1 f2 => isAx1_any q a b x y n c m d _ cx _ cy p r _ _ W ⟨Nat.lt_of_lt_of_le hq.1 hW.size, (hW.cell (p := ⟨q, 0, none⟩) hq.1).trans hq.2.1, (hW.cell (p := ⟨q, 1, none⟩) hq.1).trans hq.2.2⟩ (h1.keep hW) (h2.keep hW) f1 f2 hg (ax_good hk)
  have HY : Hid (∀ k, k < 12 → sameS p r (axL k) (axR k) = true → true = knownS p r) := fun k h e => known_yes h e
  have HN : Hid ((∀ k, k < 12 → sameS p r (axL k) (axR k) = false) → false = knownS p r) := known_no
  have HRw : Hid (RowR w g 12 axL axR) := hr
  generalize knownS p r = R at HY HN ⊢
  clear h1 h2 hg hr hq
  go_enter Tryz.func108, Tryz.ntmps108
  go_wp2_with fail
  go_loopw [8] (fun x wr => ∃ (k : Nat), k ≤ 12 ∧ x = .int .i64 k ∧ Hid ((∀ j, j < k → sameS p r (axL j) (axR j) = false) ∧ Below w.heap.size w wr)) (fun x _ => 12 - (intOf x).toNat)
  case atStart => exact ⟨0, Nat.zero_le _, rfl, fun j hj => absurd hj (Nat.not_lt_zero _), Below.refl _ _⟩
  case round =>
    obtain ⟨k, hk, rfl, hR⟩ := hrel
    by_cases hlt : k < 12
    · have hkl : (k : Int) < 12 := by omega
      have hrk := (HRw.out.keep hR.out.2)
      obtain ⟨x, cx, y, cy, c0, c1, f1, f2⟩ := hrk.2 k hlt
      have H16 := (show Hid _ from HC.out wr k x cx y cy hR.out.2 hlt f1 f2)
      clear hrk f1 f2
      generalize hL1 : (axL k).length = L1 at c0 H16
      generalize hL2 : (axR k).length = L2 at c1 H16
      clear hL1 hL2
      by_cases hE : sameS p r (axL k) (axR k) = true
      · have hY := HY.out k hlt hE
        subst hY
        rw [hE] at H16
        clear HY HN
        go_wp2_with fail
        refine Calls.mono H16.out ?_
        rintro e w5 ⟨rfl, hb5⟩
        have HB5 := (show Hid _ from hR.out.2.trans (hb5.mono hR.out.2.size))
        clear H16 hb5 hR
        go_wp2
        go_ret
        exact ⟨(k : Int), rfl, decide_eq_true (by omega), HB5.out⟩
      · rw [Bool.not_eq_true] at hE
        rw [hE] at H16
        have HJ : Hid (∀ j, j < k + 1 → sameS p r (axL j) (axR j) = false) := fun j hj => by
          by_cases e : j = k
          · rw [e]; exact hE
          · exact hR.out.1 j (by omega)
        clear HY HN
        go_wp2_with fail
        refine Calls.mono H16.out ?_
        rintro e w5 ⟨rfl, hb5⟩
        have HB5 := (show Hid _ from hR.out.2.trans (hb5.mono hR.out.2.size))
        clear H16 hb5 hR
        go_wp2
        exact ⟨⟨k + 1, by omega, by go_num, HJ.out, HB5.out⟩, by simp [intOf]; omega⟩
    · obtain rfl : k = 12 := by omega
      have hN := HN.out hR.out.1
      subst hN
      have HB := (show Hid _ from hR.out.2)
      clear hR
      go_wp2
      go_ret
      exact ⟨-1, rfl, by decide, HB.out⟩
theorem isAxiom_any (a b : Option Addr) (n c m d : Nat) (p r : List (Int × Int)) (w : World) (hE : Env w) (hT : Tab w) (hM : MaxL w) (h1 : NSl w a n p) (h2 : NSl w b m r) (hg : ruleB p r = true) :
    Calls Tryz.prog 36 #[.agg #[.slice a n c, .slice b m d]] w fun e w' => e = .returned (.bool (knownS p r)) ∧ Below w.heap.size w w' := by
  have hmf : ∀ (fn : Fn) (first cap : Array Value) (w : World), (Instr.makeFunc fn first cap).run Tryz.prog w = .ok (.func fn first cap) w := fun _ _ _ _ => rfl
  obtain ⟨W1, hW1⟩ : ∃ W1, w.alloc (.cells #[.slice a n c, .slice b m d] 26) = W1 := ⟨_, rfl⟩
  have hb1 : Below w.heap.size w W1 := by rw [← hW1]; exact (Below.refl _ _).alloc (Nat.le_refl _) _
  have hs1 : w.heap.size < W1.heap.size := by rw [← hW1]; simp
  have n0 : W1.cell? ⟨w.heap.size, 0, none⟩ = some (.slice a n c) := by rw [← hW1]; simp [go_sem]
  have n1 : W1.cell? ⟨w.heap.size, 1, none⟩ = some (.slice b m d) := by rw [← hW1]; simp [go_sem]
  have HA := (show Hid _ from allAxioms_any W1 (hE.keep hb1) (hT.keeps hb1) (hM.keep hb1))
  have HX : Hid (∀ W g cg, Below W1.heap.size W1 W → RowR W g 12 axL axR → Calls Tryz.prog 70 #[.slice (some ⟨g, 0, none⟩) 12 cg, .func (.func 72) #[] #[.pointer (some ⟨w.heap.size, 0, none⟩)]] W fun e w' => e = .returned (.bool (knownS p r)) ∧ Below W.heap.size W w') := fun W g cg hW hr => by
    have HI := (show Hid _ from indexAx_any w.heap.size g cg a b n c m d p r W ⟨Nat.lt_of_lt_of_le hs1 hW.size, (hW.cell (p := ⟨w.heap.size, 0, none⟩) hs1).trans n0, (hW.cell (p := ⟨w.heap.size, 1, none⟩) hs1).trans n1⟩ ((h1.keep hb1).keep hW) ((h2.keep hb1).keep hW) hg hr)
    generalize knownS p r = R at HI ⊢
    clear hE hT hM h1 h2 hg hr n0 n1 HA hW1
    go_enter Tryz.func70, Tryz.ntmps70
    go_wp2_with fail
    refine Calls.mono HI.out ?_
    rintro e w2 ⟨z, rfl, hz, hb2⟩
    clear HI
    by_cases h0 : 0 ≤ z
    · obtain rfl : true = R := by rw [← hz, decide_eq_true h0]
      go_wp2
      go_ret
      exact ⟨rfl, hb2⟩
    · obtain rfl : false = R := by rw [← hz, decide_eq_false h0]
      go_wp2
      go_ret
      exact ⟨rfl, hb2⟩
  have HB := (show Hid _ from hb1)
  clear hE hT hM h1 h2 hg hb1 n0 n1
  go_enter Tryz.func36, Tryz.ntmps36
  go_wp2_with fail
  (try rw [hW1])
  refine Calls.mono HA.out ?_
  rintro e w2 ⟨aa, dd, xs, rfl, ho, hrd, hb2⟩
  obtain ⟨g, rfl, hrow⟩ := RowR.of ho hrd
  have HX2 := (show Hid _ from HX.out w2 g dd hb2 hrow)
  have HB2 : Hid (Below w.heap.size w w2) := HB.out.trans (hb2.mono HB.out.size)
  clear HA hW1 ho hrd hb2 hrow HX HB
  go_wp2_with fail
  refine Calls.mono HX2.out ?_
  rintro e w3 ⟨rfl, hb3⟩
  have HB3 : Hid (Below w.heap.size w w3) := HB2.out.trans (hb3.mono HB2.out.size)
  clear HX2 HB2 hb3
  go_wp2
  go_ret
  exact ⟨rfl, HB3.out⟩
end Go.Proofs.YtkadanagmahhgaaGreatDoor
namespace Go.Proofs.YtkadanagmahhgaaGreatDoor
open Go.RowKit
set_option linter.unusedVariables false

/-- A product: its powers, its number. -/
abbrev Mon := List Int × Int
/-- Which powers come first. -/
def cmpL : List Int → List Int → Int
  | a :: r, b :: s => if a < b then -1 else if b < a then 1 else cmpL r s
  | _, _ => 0
theorem cmp_self : ∀ a, cmpL a a = 0
  | [] => rfl
  | a :: r => by rw [cmpL, if_neg (by omega), if_neg (by omega)]; exact cmp_self r
theorem cmp_range : ∀ a b, cmpL a b = -1 ∨ cmpL a b = 0 ∨ cmpL a b = 1
  | [], _ => .inr (.inl (by cases ‹List Int› <;> rfl))
  | _ :: _, [] => .inr (.inl rfl)
  | a :: r, b :: s => by
    rw [cmpL]
    split
    · exact .inl rfl
    · split
      · exact .inr (.inr rfl)
      · exact cmp_range r s
theorem cmp_eq : ∀ {a b : List Int}, a.length = b.length → cmpL a b = 0 → a = b
  | [], [], _, _ => rfl
  | [], _ :: _, h, _ => by simp at h
  | _ :: _, [], h, _ => by simp at h
  | a :: r, b :: s, h, h0 => by
    rw [cmpL] at h0
    split at h0
    · omega
    · split at h0
      · omega
      · rw [cmp_eq (by simpa using h) h0, show a = b from by omega]
theorem cmp_swap : ∀ a b, cmpL a b = - cmpL b a
  | [], b => by cases b <;> rfl
  | _ :: _, [] => rfl
  | a :: r, b :: s => by
    rw [cmpL, cmpL]
    by_cases h1 : a < b
    · rw [if_pos h1, if_neg (by omega), if_pos h1]
    · rw [if_neg h1]
      by_cases h2 : b < a
      · rw [if_pos h2, if_pos h2]; rfl
      · rw [if_neg h2, if_neg h2, if_neg h1]; exact cmp_swap r s
theorem cmp_trans : ∀ {a b c : List Int}, a.length = b.length → b.length = c.length → cmpL a b = 1 → cmpL b c = 1 → cmpL a c = 1
  | [], b, c, _, _, h, _ => by cases b <;> simp [cmpL] at h
  | a :: r, [], c, h, _, _, _ => by simp at h
  | a :: r, b :: s, [], _, h, _, _ => by simp at h
  | a :: r, b :: s, c :: t, h1, h2, h3, h4 => by
    rw [cmpL] at h3 h4 ⊢
    by_cases e1 : a < b
    · rw [if_pos e1] at h3; omega
    rw [if_neg e1] at h3
    by_cases e2 : b < c
    · rw [if_pos e2] at h4; omega
    rw [if_neg e2] at h4
    by_cases e3 : b < a
    · rw [if_neg (by omega), if_pos (by omega)]
    · rw [if_neg e3] at h3
      by_cases e4 : c < b
      · rw [if_neg (by omega), if_pos (by omega)]
      · rw [if_neg e4] at h4
        rw [if_neg (by omega), if_neg (by omega)]
        exact cmp_trans (by simpa using h1) (by simpa using h2) h3 h4
/-- Falling powers, one behind the other. -/
def Falls (p : List Mon) : Prop := p.Pairwise fun x y => cmpL x.1 y.1 = 1
/-- All have that many powers, and a number of 64 bits that is not 0. -/
def Fine (n : Nat) (p : List Mon) : Prop := ∀ x ∈ p, x.1.length = n ∧ InI x.2 ∧ x.2 ≠ 0
/-- The number of some powers. -/
def coef (p : List Mon) (e : List Int) : Int := (p.map fun m => if m.1 = e then m.2 else 0).sum
theorem coef_nil (e : List Int) : coef [] e = 0 := rfl
theorem coef_cons (m : Mon) (p : List Mon) (e : List Int) : coef (m :: p) e = (if m.1 = e then m.2 else 0) + coef p e := by simp [coef]
theorem coef_append (p q : List Mon) (e : List Int) : coef (p ++ q) e = coef p e + coef q e := by simp [coef]
theorem coef_none {p : List Mon} {e : List Int} (h : ∀ x ∈ p, x.1 ≠ e) : coef p e = 0 := by
  induction p with
  | nil => rfl
  | cons m p ih =>
    rw [coef_cons, if_neg (h m (List.mem_cons_self ..)), ih (fun x hx => h x (List.mem_cons_of_mem _ hx))]; rfl
/-- Alike to 64 bits. -/
def Like (x y : Int) : Prop := (x - y) % 18446744073709551616 = 0
theorem Like.refl (x : Int) : Like x x := by unfold Like; omega
theorem Like.symm {x y : Int} (h : Like x y) : Like y x := by unfold Like at *; omega
theorem Like.trans {x y z : Int} (h : Like x y) (h' : Like y z) : Like x z := by unfold Like at *; omega
theorem Like.add {x y u v : Int} (h : Like x y) (h' : Like u v) : Like (x + u) (y + v) := by unfold Like at *; omega
theorem Like.neg {x y : Int} (h : Like x y) : Like (-x) (-y) := by unfold Like at *; omega
theorem like_wrap (x : Int) : Like (wrap64 x) x := by unfold Like wrap64; omega
theorem Like.eq {x y : Int} (hx : InI x) (hy : InI y) (h : Like x y) : x = y := by unfold Like at h; unfold InI at *; omega
theorem Like.wrap {x y : Int} (h : Like x y) : wrap64 x = wrap64 y := Like.eq (wrap_in x) (wrap_in y) (((like_wrap x).trans h).trans (like_wrap y).symm)
theorem Like.mul {x y u v : Int} (h : Like x y) (h' : Like u v) : Like (x * u) (y * v) := by
  unfold Like at *
  obtain ⟨a, ha⟩ := Int.dvd_of_emod_eq_zero h
  obtain ⟨b, hb⟩ := Int.dvd_of_emod_eq_zero h'
  have hx : x = y + 18446744073709551616 * a := by omega
  have hu : u = v + 18446744073709551616 * b := by omega
  have e : x * u - y * v = 18446744073709551616 * (a * v + (y + 18446744073709551616 * a) * b) := by
    rw [hx, hu]
    simp only [Int.mul_add, Int.add_mul, Int.mul_assoc, Int.mul_left_comm]
    omega
  rw [e]
  exact Int.mul_emod_right _ _
theorem falls_none {n : Nat} {m : Mon} {p : List Mon} (hf : Falls (m :: p)) (hn : Fine n (m :: p)) : ∀ x ∈ p, x.1 ≠ m.1 := by
  intro x hx e
  have := (List.pairwise_cons.1 hf).1 x hx
  rw [e, cmp_self] at this
  omega
theorem coef_head {n : Nat} {m : Mon} {p : List Mon} (hf : Falls (m :: p)) (hn : Fine n (m :: p)) : coef (m :: p) m.1 = m.2 := by
  rw [coef_cons, if_pos rfl, coef_none (falls_none hf hn)]; omega
/-- A sum of falling powers is told by its numbers. -/
theorem poly_unique {n : Nat} : ∀ (p q : List Mon), Falls p → Falls q → Fine n p → Fine n q → (∀ e, Like (coef p e) (coef q e)) → p = q
  | [], [], _, _, _, _, _ => rfl
  | [], m :: q, _, hq, _, nq, h => by
    exfalso
    have := h m.1
    rw [coef_head hq nq, coef_nil] at this
    obtain ⟨_, h1, h2⟩ := nq m (List.mem_cons_self ..)
    exact h2 (Like.eq h1 ⟨by omega, by omega⟩ this.symm)
  | m :: p, [], hp, _, np, _, h => by
    exfalso
    have := h m.1
    rw [coef_head hp np, coef_nil] at this
    obtain ⟨_, h1, h2⟩ := np m (List.mem_cons_self ..)
    exact h2 (Like.eq h1 ⟨by omega, by omega⟩ this)
  | m :: p, k :: q, hp, hq, np, nq, h => by
    obtain ⟨m1, m2, m3⟩ := np m (List.mem_cons_self ..)
    obtain ⟨k1, k2, k3⟩ := nq k (List.mem_cons_self ..)
    have above : ∀ {a b : Mon} {r : List Mon}, Falls (b :: r) → Fine n (b :: r) → a.1.length = n → cmpL a.1 b.1 = 1 → coef (b :: r) a.1 = 0 := by
      intro a b r hf hn ha hc
      refine coef_none fun x hx e => ?_
      rcases List.mem_cons.1 hx with rfl | hx'
      · rw [e, cmp_self] at hc; omega
      · have c2 := (List.pairwise_cons.1 hf).1 x hx'
        have := cmp_trans (by rw [ha, (hn b (List.mem_cons_self ..)).1]) (by rw [(hn b (List.mem_cons_self ..)).1, (hn x hx).1]) hc c2
        rw [e, cmp_self] at this
        omega
    rcases cmp_range m.1 k.1 with hc | hc | hc
    · exfalso
      have hc' : cmpL k.1 m.1 = 1 := by rw [cmp_swap, hc]; rfl
      have := h k.1
      rw [above hp np k1 hc', coef_head hq nq] at this
      exact k3 (Like.eq k2 ⟨by omega, by omega⟩ this.symm)
    · have e := cmp_eq (by rw [m1, k1]) hc
      have hN : m.2 = k.2 := by
        have := h m.1
        rw [coef_head hp np, e, coef_head hq nq] at this
        exact Like.eq m2 k2 this
      have hmk : m = k := Prod.ext e hN
      subst hmk
      congr 1
      refine poly_unique p q (List.pairwise_cons.1 hp).2 (List.pairwise_cons.1 hq).2 (fun x hx => np x (List.mem_cons_of_mem _ hx)) (fun x hx => nq x (List.mem_cons_of_mem _ hx)) fun e => ?_
      have := h e
      rw [coef_cons, coef_cons] at this
      unfold Like at *
      omega
    · exfalso
      have := h m.1
      rw [above hq nq m1 hc, coef_head hp np] at this
      exact m3 (Like.eq m2 ⟨by omega, by omega⟩ this)
/-- The model's adding of a product, its first walk. -/
def putO (e : List Int) : List Mon → Bool → Int → List Mon
  | [], put, n => if put = true then [] else [(e, n)]
  | m :: r, put, n =>
    if cmpL e m.1 = 0 then (e, wrap64 (n + m.2)) :: putO e r true (wrap64 (n + m.2))
    else if 0 < cmpL e m.1 ∧ put = false then (e, n) :: m :: putO e r true n
    else m :: putO e r put n
/-- The model's adding of a product. -/
def putP (p : List Mon) (e : List Int) (n : Int) : List Mon := (putO e p false n).filter fun m => m.2 != 0
theorem putO_true {e : List Int} : ∀ {r : List Mon} {n : Int}, (∀ x ∈ r, cmpL e x.1 = 1) → putO e r true n = r
  | [], _, _ => rfl
  | m :: r, n, h => by
    have hm := h m (List.mem_cons_self ..)
    rw [putO, if_neg (by omega), if_neg (by simp), putO_true (fun x hx => h x (List.mem_cons_of_mem _ hx))]
/-- What the first walk leaves of a falling sum. -/
theorem putO_falls {k : Nat} {e : List Int} (he : e.length = k) : ∀ {p : List Mon} {n : Int}, InI n → Falls p → (∀ x ∈ p, x.1.length = k ∧ InI x.2) →
    Falls (putO e p false n) ∧ (∀ x ∈ putO e p false n, x.1.length = k ∧ InI x.2) ∧ (∀ x ∈ putO e p false n, x.1 = e ∨ ∃ y ∈ p, x.1 = y.1) ∧ ∀ e', Like (coef (putO e p false n) e') (coef p e' + if e = e' then n else 0)
  | [], n, hn, _, _ => by
    refine ⟨List.pairwise_singleton _ _, ?_, ?_, fun e' => ?_⟩
    · intro x hx; rw [List.mem_singleton.1 hx]; exact ⟨he, hn⟩
    · intro x hx; rw [List.mem_singleton.1 hx]; exact .inl rfl
    · show Like (coef [(e, n)] e') _
      rw [coef_cons, coef_nil]
      exact (show (if e = e' then n else 0) + 0 = 0 + (if e = e' then n else 0) by omega) ▸ Like.refl _
  | m :: r, n, hn, hf, hp => by
    obtain ⟨f1, f2⟩ := List.pairwise_cons.1 hf
    obtain ⟨m1, m2⟩ := hp m (List.mem_cons_self ..)
    have hr : ∀ x ∈ r, x.1.length = k ∧ InI x.2 := fun x hx => hp x (List.mem_cons_of_mem _ hx)
    rcases cmp_range e m.1 with hc | hc | hc
    · have ih := putO_falls he hn f2 hr
      obtain ⟨i1, i2, i3, i4⟩ := ih
      have eq : putO e (m :: r) false n = m :: putO e r false n := by rw [putO, if_neg (by omega), if_neg (by omega)]
      rw [eq]
      have hmc : cmpL m.1 e = 1 := by rw [cmp_swap, hc]; rfl
      refine ⟨List.pairwise_cons.2 ⟨fun x hx => ?_, i1⟩, ?_, ?_, fun e' => ?_⟩
      · rcases i3 x hx with h | ⟨y, hy, h⟩
        · rw [h]; exact hmc
        · rw [h]; exact f1 y hy
      · intro x hx
        rcases List.mem_cons.1 hx with rfl | hx
        · exact ⟨m1, m2⟩
        · exact i2 x hx
      · intro x hx
        rcases List.mem_cons.1 hx with rfl | hx
        · exact .inr ⟨x, List.mem_cons_self .., rfl⟩
        · rcases i3 x hx with h | ⟨y, hy, h⟩
          · exact .inl h
          · exact .inr ⟨y, List.mem_cons_of_mem _ hy, h⟩
      · rw [coef_cons, coef_cons]
        have := i4 e'
        unfold Like at *
        omega
    · have hem := cmp_eq (by rw [he, m1]) hc
      have hall : ∀ x ∈ r, cmpL e x.1 = 1 := fun x hx => by rw [hem]; exact f1 x hx
      have eq : putO e (m :: r) false n = (e, wrap64 (n + m.2)) :: r := by rw [putO, if_pos hc, putO_true hall]
      rw [eq]
      refine ⟨List.pairwise_cons.2 ⟨fun x hx => hall x hx, f2⟩, ?_, ?_, fun e' => ?_⟩
      · intro x hx
        rcases List.mem_cons.1 hx with rfl | hx
        · exact ⟨he, wrap_in _⟩
        · exact hr x hx
      · intro x hx
        rcases List.mem_cons.1 hx with rfl | hx
        · exact .inl rfl
        · exact .inr ⟨x, List.mem_cons_of_mem _ hx, rfl⟩
      · rw [coef_cons, coef_cons, ← hem]
        have := like_wrap (n + m.2)
        unfold Like at *
        simp only
        by_cases h : e = e'
        · rw [if_pos h, if_pos h, if_pos h]; omega
        · rw [if_neg h, if_neg h, if_neg h]; omega
    · have hall : ∀ x ∈ r, cmpL e x.1 = 1 := fun x hx => cmp_trans (by rw [he, m1]) (by rw [m1, (hr x hx).1]) hc (f1 x hx)
      have eq : putO e (m :: r) false n = (e, n) :: m :: r := by rw [putO, if_neg (by omega), if_pos ⟨by omega, rfl⟩, putO_true hall]
      rw [eq]
      refine ⟨List.pairwise_cons.2 ⟨fun x hx => ?_, hf⟩, ?_, ?_, fun e' => ?_⟩
      · rcases List.mem_cons.1 hx with rfl | hx
        · exact hc
        · exact hall x hx
      · intro x hx
        rcases List.mem_cons.1 hx with rfl | hx
        · exact ⟨he, hn⟩
        · exact hp x hx
      · intro x hx
        rcases List.mem_cons.1 hx with rfl | hx
        · exact .inl rfl
        · exact .inr ⟨x, hx, rfl⟩
      · rw [coef_cons]
        show Like ((if e = e' then n else 0) + coef (m :: r) e') _
        unfold Like
        omega
theorem coef_filter (p : List Mon) (e : List Int) : coef (p.filter fun m => m.2 != 0) e = coef p e := by
  induction p with
  | nil => rfl
  | cons m p ih =>
    rw [List.filter_cons]
    by_cases h : m.2 = 0
    · rw [if_neg (by simp [h]), ih, coef_cons, h]; split <;> omega
    · rw [if_pos (by simpa using h), coef_cons, coef_cons, ih]
/-- What adding a product does. -/
theorem putP_ok {k : Nat} {p : List Mon} {e : List Int} {n : Int} (he : e.length = k) (hn : InI n) (hf : Falls p) (hp : ∀ x ∈ p, x.1.length = k ∧ InI x.2) :
    Falls (putP p e n) ∧ Fine k (putP p e n) ∧ ∀ e', Like (coef (putP p e n) e') (coef p e' + if e = e' then n else 0) := by
  obtain ⟨h1, h2, _, h4⟩ := putO_falls he hn hf hp
  refine ⟨h1.filter _, fun x hx => ?_, fun e' => ?_⟩
  · obtain ⟨x1, x2⟩ := List.mem_filter.1 hx
    exact ⟨(h2 x x1).1, (h2 x x1).2, by simpa using x2⟩
  · unfold putP; rw [coef_filter]; exact h4 e'
end Go.Proofs.YtkadanagmahhgaaGreatDoor
namespace Go.Proofs.YtkadanagmahhgaaGreatDoor
open Go.ChangeShapes Go.WideShapes Go.ChangeAt Go.RowKit
set_option linter.unusedVariables false

/-- The slice (a, len) of products holds the list p in the world w. -/
def PSl (w : World) (a : Option Addr) (len : Nat) (p : List Mon) : Prop :=
  p.length = len ∧ (len = 0 ∨ ∃ b off, a = some ⟨b, off, none⟩ ∧ b < w.heap.size ∧ ∀ i, i < len → ∃ ai li ci, w.cell? ⟨b, off + i * 2, none⟩ = some (.slice ai li ci) ∧ li ≤ 9223372036854775807 ∧ li ≤ ci ∧ Sl w ai li (p.getD i ([], 0)).1 ∧ w.cell? ⟨b, off + i * 2 + 1, none⟩ = some (.int .i64 (p.getD i ([], 0)).2))
theorem PSl.keep {w w' : World} {a : Option Addr} {len : Nat} {p : List Mon} (h : PSl w a len p) (hb : Below w.heap.size w w') : PSl w' a len p := by
  refine ⟨h.1, ?_⟩
  rcases h.2 with h0 | ⟨b, off, ha, hlt, hc⟩
  · exact .inl h0
  · refine .inr ⟨b, off, ha, Nat.lt_of_lt_of_le hlt hb.size, fun i hi => ?_⟩
    obtain ⟨ai, li, ci, h1, h2, h3, h4, h5⟩ := hc i hi
    exact ⟨ai, li, ci, (hb.cell (p := ⟨b, off + i * 2, none⟩) hlt).trans h1, h2, h3, h4.keep hb, (hb.cell (p := ⟨b, off + i * 2 + 1, none⟩) hlt).trans h5⟩
theorem PSl.at {w : World} {a : Option Addr} {len : Nat} {p : List Mon} (h : PSl w a len p) (h0 : 0 < len) :
    ∃ b off, a = some ⟨b, off, none⟩ ∧ b < w.heap.size ∧ ∀ i, i < len → ∃ ai li ci, w.cell? ⟨b, off + i * 2, none⟩ = some (.slice ai li ci) ∧ li ≤ 9223372036854775807 ∧ li ≤ ci ∧ Sl w ai li (p.getD i ([], 0)).1 ∧ w.cell? ⟨b, off + i * 2 + 1, none⟩ = some (.int .i64 (p.getD i ([], 0)).2) := by
  rcases h.2 with h1 | h1
  · omega
  · exact h1
theorem cmp_drop (a b : List Int) (k : Nat) (ha : k < a.length) (hb : k < b.length) : cmpL (a.drop k) (b.drop k) = if a.getD k 0 < b.getD k 0 then -1 else if b.getD k 0 < a.getD k 0 then 1 else cmpL (a.drop (k + 1)) (b.drop (k + 1)) := by
  rw [List.drop_eq_getElem_cons ha, List.drop_eq_getElem_cons hb]
  have e1 : a.getD k 0 = a[k] := by rw [List.getD_eq_getElem?_getD, List.getElem?_eq_getElem ha]; rfl
  have e2 : b.getD k 0 = b[k] := by rw [List.getD_eq_getElem?_getD, List.getElem?_eq_getElem hb]; rfl
  rw [e1, e2]; rfl
theorem cmp_end (a b : List Int) : cmpL (a.drop a.length) b = 0 := by
  rw [List.drop_of_length_le (Nat.le_refl _)]
  cases b <;> rfl
set_option maxHeartbeats 1600000 in
theorem cmp_any (a b : Option Addr) (la lb ca cb : Nat) (ea eb : List Int) (w : World) (ha : Sl w a la ea) (hb : Sl w b lb eb) (hl : la ≤ lb) (hm : lb ≤ 1048576) :
    Calls Tryz.prog 131 #[.slice a la ca, .slice b lb cb] w fun e w' => e = .returned (.int .i64 (cmpL ea eb)) ∧ ∃ n, w' = w.drewN n := by
  have hla := ha.1
  have hlb := hb.1
  go_enter Tryz.func131, Tryz.ntmps131
  go_wp2_with fail
  go_loopw [8] (fun i wr => ∃ k : Nat, k ≤ la ∧ i = .int .i64 (k : Int) ∧ (∃ n, wr = w.drewN n) ∧ Hid (cmpL (ea.drop k) (eb.drop k) = cmpL ea eb)) (fun i _ => la - (intOf i).toNat)
  case atStart => exact ⟨0, Nat.zero_le _, rfl, ⟨0, rfl⟩, rfl⟩
  case round =>
    obtain ⟨k, hk, rfl, ⟨n, rfl⟩, hT⟩ := hrel
    by_cases hlt : k < la
    · obtain ⟨b1, o1, rfl, hc1⟩ := cells_of ha (by omega)
      obtain ⟨b2, o2, rfl, hc2⟩ := cells_of hb (by omega)
      have c1 := hc1 k hlt
      have c2 := hc2 k (by omega)
      have hst := cmp_drop ea eb k (by omega) (by omega)
      rw [hT.out] at hst
      have HS : Hid (cmpL ea eb = if ea.getD k 0 < eb.getD k 0 then -1 else if eb.getD k 0 < ea.getD k 0 then 1 else cmpL (ea.drop (k + 1)) (eb.drop (k + 1))) := hst
      clear hst hT hc1 hc2 ha hb
      generalize ea.getD k 0 = x at c1 HS
      generalize eb.getD k 0 = y at c2 HS
      have i1 : (k : Int) < la := by omega
      have i2 : (k : Int) < lb := by omega
      by_cases h1 : x < y
      · have q1 : decide (x < y) = true := decide_eq_true h1
        have HV : Hid (cmpL ea eb = -1) := by have := HS.out; rw [if_pos h1] at this; exact this
        clear h1
        go_wp2
        go_quiet (fail)
        go_wp2
        go_ret
        exact ⟨by rw [HV.out]; rfl, _, by rw [World.drewN_drewN]⟩
      · have q1 : decide (x < y) = false := decide_eq_false h1
        by_cases h2 : y < x
        · have q2 : decide (y < x) = true := decide_eq_true h2
          have HV : Hid (cmpL ea eb = 1) := by have := HS.out; rw [if_neg h1, if_pos h2] at this; exact this
          clear h1 h2
          go_wp2
          go_quiet (fail)
          revert nq; intro q3
          go_wp2
          go_quiet (fail)
          go_wp2
          go_ret
          exact ⟨by rw [HV.out]; rfl, _, by rw [World.drewN_drewN, World.drewN_drewN]⟩
        · have q2 : decide (y < x) = false := decide_eq_false h2
          have HN : Hid (cmpL (ea.drop (k + 1)) (eb.drop (k + 1)) = cmpL ea eb) := by have := HS.out; rw [if_neg h1, if_neg h2] at this; exact this.symm
          clear h1 h2
          go_wp2
          go_quiet (fail)
          revert nq; intro q3
          go_wp2
          go_quiet (fail)
          go_wp2
          exact ⟨⟨k + 1, by omega, by go_num, ⟨_, rfl⟩, HN⟩, by simp [intOf]; omega⟩
    · obtain rfl : k = la := by omega
      have e0 : cmpL ea eb = 0 := by
        rw [← hT.out, ← hla]; exact cmp_end ea _
      clear hT
      go_wp2
      go_ret
      exact ⟨by rw [e0]; rfl, _, rfl⟩
/-- All within bounds. -/
def allB (lo hi : Int) (l : List Int) : Bool := l.all fun n => decide (lo ≤ n) && decide (n ≤ hi)
theorem allB_drop (lo hi : Int) (l : List Int) (k : Nat) (h : k < l.length) : allB lo hi (l.drop k) = ((decide (lo ≤ l.getD k 0) && decide (l.getD k 0 ≤ hi)) && allB lo hi (l.drop (k + 1))) := by
  rw [List.drop_eq_getElem_cons h]
  have e1 : l.getD k 0 = l[k] := by rw [List.getD_eq_getElem?_getD, List.getElem?_eq_getElem h]; rfl
  rw [e1]; rfl
theorem all_any4 (a : Option Addr) (la ca : Nat) (ea : List Int) (lo hi : Int) (w : World) (ha : Sl w a la ea) (hm : la ≤ 9223372036854775807) :
    Calls Tryz.prog 152 #[.slice a la ca, .int .i64 lo, .int .i64 hi] w fun e w' => e = .returned (.bool (allB lo hi ea)) ∧ w' = w := by
  have hla := ha.1
  go_enter Tryz.func152, Tryz.ntmps152
  go_wp2_with fail
  go_loopw [11] (fun i wr => ∃ k : Nat, k ≤ la ∧ i = .int .i64 (k : Int) ∧ wr = w ∧ Hid (allB lo hi (ea.drop k) = allB lo hi ea)) (fun i _ => la - (intOf i).toNat)
  case atStart => exact ⟨0, Nat.zero_le _, rfl, rfl, rfl⟩
  case round =>
    obtain ⟨k, hk, rfl, rfl, hT⟩ := hrel
    by_cases hlt : k < la
    · obtain ⟨b1, o1, rfl, hc1⟩ := cells_of ha (by omega)
      have c1 := hc1 k hlt
      have hst := allB_drop lo hi ea k (by omega)
      rw [hT.out] at hst
      have HS : Hid (allB lo hi ea = ((decide (lo ≤ ea.getD k 0) && decide (ea.getD k 0 ≤ hi)) && allB lo hi (ea.drop (k + 1)))) := hst
      clear hst hT hc1 ha
      generalize ea.getD k 0 = x at c1 HS
      have i1 : (k : Int) < la := by omega
      by_cases hx : lo ≤ x ∧ x ≤ hi
      · have C := (show Hid _ from in_yes x lo hi wr hx.1 hx.2)
        have HN : Hid (allB lo hi (ea.drop (k + 1)) = allB lo hi ea) := by have := HS.out; rw [decide_eq_true hx.1, decide_eq_true hx.2] at this; exact this.symm
        clear hx HS
        go_wp2_with fail
        refine Calls.mono C.out ?_
        rintro e w1 ⟨rfl, rfl⟩
        clear C
        go_wp2
        exact ⟨⟨k + 1, by omega, by go_num, by first | trivial | rfl, HN⟩, by simp [intOf]; omega⟩
      · have C := (show Hid _ from in_no x lo hi wr (by omega))
        have HN : Hid (allB lo hi ea = false) := by
          have := HS.out
          show _ = _
          rw [this]
          by_cases h1 : lo ≤ x
          · rw [decide_eq_false (show ¬ x ≤ hi by omega)]; simp
          · rw [decide_eq_false h1]; rfl
        clear hx HS
        go_wp2_with fail
        refine Calls.mono C.out ?_
        rintro e w1 ⟨rfl, rfl⟩
        clear C
        go_wp2
        go_ret
        exact ⟨by rw [HN.out]; rfl, rfl⟩
    · obtain rfl : k = la := by omega
      have e0 : allB lo hi ea = true := by
        rw [← hT.out, ← hla, List.drop_of_length_le (Nat.le_refl _)]; rfl
      clear hT
      go_wp2
      go_ret
      exact ⟨by rw [e0]; rfl, rfl⟩
/-- Powers as a product has them. -/
def powB (e : List Int) : Bool := decide (e.length = 4) && allB 0 9 e
theorem pow_any (a : Option Addr) (la ca : Nat) (ea : List Int) (w : World) (ha : Sl w a la ea) (hm : la ≤ 9223372036854775807) :
    Calls Tryz.prog 130 #[.slice a la ca] w fun e w' => e = .returned (.bool (powB ea)) ∧ w' = w := by
  have C := (show Hid _ from all_any4 a la ca ea 0 9 w ha hm)
  have hla := ha.1
  clear ha
  unfold powB
  rw [hla]
  generalize allB 0 9 ea = B at C ⊢
  by_cases h : la = 4
  · subst h
    go_enter Tryz.func130, Tryz.ntmps130
    go_wp2_with fail
    refine Calls.mono C.out ?_
    rintro e w1 ⟨rfl, rfl⟩
    go_wp2
    go_ret
    exact ⟨by simp, rfl⟩
  · rw [decide_eq_false h]
    have h' : ((la : Int) == 4) = false := by simp; omega
    clear C
    go_enter Tryz.func130, Tryz.ntmps130
    go_wp2
    go_ret
    exact ⟨rfl, rfl⟩
end Go.Proofs.YtkadanagmahhgaaGreatDoor
namespace Go.Proofs.YtkadanagmahhgaaGreatDoor
open Go.ChangeShapes Go.WideShapes Go.ChangeAt Go.RowKit
set_option linter.unusedVariables false

theorem infoMono : (Tryz.prog.info? 100).map (fun i => (i.zero, i.size, i.bytes)) = some (some (.agg #[.slice none 0 0, .int .i64 0]), 2, 32) := by kernel_rfl
/-- The cells of products. -/
def flatV : List (Value × Int) → List Value
  | [] => []
  | x :: l => x.1 :: .int .i64 x.2 :: flatV l
theorem flatV_len : ∀ l, (flatV l).length = l.length * 2
  | [] => rfl
  | x :: l => by simp only [flatV, List.length_cons, flatV_len l]; omega
theorem flatV_append : ∀ l m, flatV (l ++ m) = flatV l ++ flatV m
  | [], _ => rfl
  | x :: l, m => by simp only [List.cons_append, flatV, flatV_append l m]
theorem flatV_get : ∀ (l : List (Value × Int)) (i : Nat), i < l.length → (flatV l)[i * 2]? = some (l.getD i (.nilIface, 0)).1 ∧ (flatV l)[i * 2 + 1]? = some (.int .i64 (l.getD i (.nilIface, 0)).2)
  | [], _, h => absurd h (Nat.not_lt_zero _)
  | x :: l, 0, _ => ⟨rfl, rfl⟩
  | x :: l, i + 1, h => by
    have := flatV_get l i (by simpa using h)
    rw [show (i + 1) * 2 = i * 2 + 1 + 1 from by omega]
    simpa [flatV] using this
/-- A value that holds powers, in a block that is ok. -/
def PowV (w : World) (ok : Nat → Prop) (v : Value) (e : List Int) : Prop := ∃ b off l c, v = .slice (some ⟨b, off, none⟩) l c ∧ l ≤ c ∧ l ≤ 1048576 ∧ ok b ∧ b < w.heap.size ∧ e.length = l ∧ ∀ i, i < l → w.cell? ⟨b, off + i, none⟩ = some (.int .i64 (e.getD i 0))
theorem PowV.map {w w' : World} {ok ok' : Nat → Prop} {v : Value} {e : List Int} (h : PowV w ok v e) (hs : w.heap.size ≤ w'.heap.size) (hk : ∀ b, ok b → b < w.heap.size → ok' b ∧ w'.heap[b]? = w.heap[b]?) : PowV w' ok' v e := by
  obtain ⟨b, off, l, c, h1, h2, h3, h4, h5, h6, h7⟩ := h
  obtain ⟨k1, k2⟩ := hk b h4 h5
  exact ⟨b, off, l, c, h1, h2, h3, k1, Nat.lt_of_lt_of_le h5 hs, h6, fun i hi => (World.cell?_of_block (a := ⟨b, off + i, none⟩) k2).trans (h7 i hi)⟩
theorem PowV.keep {w w' : World} {ok : Nat → Prop} {v : Value} {e : List Int} (h : PowV w ok v e) (hb : Below w.heap.size w w') : PowV w' ok v e :=
  h.map hb.size (fun b h1 h2 => ⟨h1, hb.block b h2⟩)
theorem PowV.one {w : World} {ok : Nat → Prop} {v : Value} {e : List Int} (h : PowV w ok v e) : v.oneCell' = true := by
  obtain ⟨b, off, l, c, rfl, _⟩ := h; rfl
/-- A row of products of one's own; its powers lie in blocks that are ok and not the row's. -/
def PRow (w : World) (base : Nat) (ok : Nat → Prop) (v : Value) (vs : List (Value × Int)) (q : List Mon) : Prop :=
  w.ownsRow base 100 2 v q.length (flatV vs) ∧ vs.length = q.length ∧ ∀ i, i < q.length → PowV w (fun b => ok b ∧ v.ownBlock ≠ some b) (vs.getD i (.nilIface, 0)).1 (q.getD i ([], 0)).1 ∧ (vs.getD i (.nilIface, 0)).2 = (q.getD i ([], 0)).2
theorem PRow.nil (w : World) (base : Nat) (ok : Nat → Prop) : PRow w base ok (.slice none 0 0) [] [] := ⟨World.ownsRow_nil _ _ _ _, rfl, fun i hi => absurd hi (Nat.not_lt_zero _)⟩
theorem PRow.keep {w w' : World} {base : Nat} {ok : Nat → Prop} {v : Value} {vs : List (Value × Int)} {q : List Mon} (h : PRow w base ok v vs q) (hb : Below w.heap.size w w') : PRow w' base ok v vs q := by
  obtain ⟨h1, h2, h3⟩ := h
  exact ⟨h1.kept (grown_of hb) (by cases hv : v.ownBlock <;> simp), h2, fun i hi => ⟨(h3 i hi).1.keep hb, (h3 i hi).2⟩⟩
/-- Behind an append. -/
theorem PRow.push {w w4 w5 : World} {base : Nat} {ok : Nat → Prop} {v v' u : Value} {vs : List (Value × Int)} {q : List Mon} {e : List Int} {n : Int} (h : PRow w base ok v vs q) (hb : Below w.heap.size w w4) (hg : w4.grownBy w5 v.ownBlock) (hown : w5.ownsRow base 100 2 v' (q.length + 1) (flatV vs ++ [u, .int .i64 n])) (hat : v'.ownBlock = v.ownBlock ∨ v'.ownBlock = some w4.heap.size)
    (hu : PowV w4 (fun b => ok b ∧ v.ownBlock ≠ some b) u e) : PRow w5 base ok v' (vs ++ [(u, n)]) (q ++ [(e, n)]) := by
  obtain ⟨h1, h2, h3⟩ := h
  have key : ∀ {x : Value} {f : List Int}, PowV w4 (fun b => ok b ∧ v.ownBlock ≠ some b) x f → PowV w5 (fun b => ok b ∧ v'.ownBlock ≠ some b) x f := fun hx =>
    hx.map hg.size (fun b hok hlt => ⟨⟨hok.1, by
      rcases hat with e | e
      · rw [e]; exact hok.2
      · rw [e]; intro e'; have := Option.some.inj e'; omega⟩, hg.block b hlt (fun e' => hok.2 e'.symm)⟩)
  refine ⟨by rw [List.length_append, flatV_append]; exact hown, by simp [h2], fun i hi => ?_⟩
  rw [List.length_append, List.length_singleton] at hi
  by_cases hlt : i < q.length
  · have e1 : (vs ++ [(u, n)]).getD i (.nilIface, 0) = vs.getD i (.nilIface, 0) := by simp [List.getD_eq_getElem?_getD, List.getElem?_append_left (show i < vs.length by omega)]
    have e2 : (q ++ [(e, n)]).getD i ([], 0) = q.getD i ([], 0) := by simp [List.getD_eq_getElem?_getD, List.getElem?_append_left hlt]
    rw [e1, e2]
    exact ⟨key ((h3 i hlt).1.keep hb), (h3 i hlt).2⟩
  · obtain rfl : i = q.length := by omega
    have e1 : (vs ++ [(u, n)]).getD q.length (.nilIface, 0) = (u, n) := by rw [← h2]; simp [List.getD_eq_getElem?_getD]
    have e2 : (q ++ [(e, n)]).getD q.length ([], 0) = (e, n) := by simp [List.getD_eq_getElem?_getD]
    rw [e1, e2]
    exact ⟨key hu, rfl⟩
/-- Such a row holds its sum. -/
theorem PRow.psl {w : World} {base : Nat} {ok : Nat → Prop} {v : Value} {vs : List (Value × Int)} {q : List Mon} (h : PRow w base ok v vs q) : ∃ a cap, v = .slice a q.length cap ∧ PSl w a q.length q := by
  obtain ⟨h1, h2, h3⟩ := h
  rcases h1.2 with ⟨rfl, h0⟩ | ⟨g, cap, cur, rfl, hb, hg, _⟩
  · exact ⟨none, 0, by rw [h0], rfl, .inl h0⟩
  · have hcs := h1.cells rfl
    refine ⟨_, cap, rfl, rfl, .inr ⟨g, 0, rfl, Array.getElem?_eq_some_iff.1 hg |>.1, fun i hi => ?_⟩⟩
    obtain ⟨gv1, gv2⟩ := flatV_get vs i (by omega)
    have c1 := hcs _ _ gv1
    have c2 := hcs _ _ gv2
    rw [add_to] at c1 c2
    obtain ⟨⟨b, off, l, c, e1, e2, e3, e4, e5, e6, e7⟩, e8⟩ := h3 i hi
    refine ⟨some ⟨b, off, none⟩, l, c, by rw [c1, e1], by omega, e2, ⟨e6, ?_⟩, by rw [Nat.add_assoc, c2, e8]⟩
    by_cases h0 : l = 0
    · exact .inl h0
    · exact .inr ⟨b, off, rfl, e5, e7⟩
theorem emptyInts (w : World) : (w.alloc (.cells #[] 3)).ownsRow w.heap.size 3 1 (.slice (some ⟨w.heap.size, 0, none⟩) 0 0) 0 [] :=
  World.ownsRow_lit w #[] 0 (Nat.le_refl _) (by unfold maxLen; omega) rfl
/-- No cell of the powers' blocks is frozen. -/
def FZ1 (w : World) (v : Value) : Prop := ∀ g o l c, v = .slice (some ⟨g, o, none⟩) l c → ∀ i, w.frozen? ⟨g, i, none⟩ = false
def FZs (w : World) (vs : List (Value × Int)) : Prop := ∀ x ∈ vs, FZ1 w x.1
theorem FZ1.map {w w' : World} {ok ok' : Nat → Prop} {v : Value} {e : List Int} (h : FZ1 w v) (hp : PowV w ok v e) (hk : ∀ b, ok b → b < w.heap.size → w'.heap[b]? = w.heap[b]?) : FZ1 w' v := by
  obtain ⟨b, off, l, c, rfl, _, _, h4, h5, _⟩ := hp
  intro g o l' c' e' i
  cases e'
  exact (World.frozen?_of_block (a := ⟨b, i, none⟩) (hk b h4 h5)).trans (h _ _ _ _ rfl i)
theorem FZs.map {w w' : World} {base : Nat} {ok : Nat → Prop} {v : Value} {vs : List (Value × Int)} {q : List Mon} (h : FZs w vs) (hp : PRow w base ok v vs q) (hk : ∀ b, v.ownBlock ≠ some b → b < w.heap.size → w'.heap[b]? = w.heap[b]?) : FZs w' vs := by
  intro x hx
  obtain ⟨i, hi, rfl⟩ := List.getElem_of_mem hx
  have h1 := (hp.2.2 i (by have := hp.2.1; omega)).1
  have e : vs.getD i (.nilIface, 0) = vs[i] := by rw [List.getD_eq_getElem?_getD, List.getElem?_eq_getElem hi]; rfl
  rw [e] at h1
  exact FZ1.map (ok' := ok) (h _ (List.getElem_mem hi)) h1 (fun b hb hs => hk b hb.2 hs)
/-- The model's own copy of powers. -/
theorem ownP_fz (w : World) (ok : Nat → Prop) (v : Value) (e : List Int) (h : PowV w ok v e) (h0 : 0 < e.length) :
    Calls Tryz.prog 151 #[v] w fun r w' => ∃ u, r = .returned u ∧ PowV w' (fun b => w.heap.size ≤ b) u e ∧ Below w.heap.size w w' ∧ FZ1 w' u := by
  obtain ⟨i0, hi, hz0, hz1, hz2⟩ := info_parts infoInt
  obtain ⟨b, off, l, c, rfl, h2, h3, h4, h5, h6, h7⟩ := h
  have hb0 : Below w.heap.size w (w.alloc (.cells #[] 3)) := (Below.refl _ _).alloc (Nat.le_refl _) _
  have hsl : Sl w (some ⟨b, off, none⟩) l e := ⟨h6, .inr ⟨b, off, rfl, h5, h7⟩⟩
  have hcs := sl_cells (hsl.keep hb0) 0 l (by omega)
  rw [List.drop_zero, List.take_of_length_le (by omega), Nat.add_zero] at hcs
  have HC := (show Hid _ from hcs)
  have H1 : Hid (∀ u ∈ vals e, u.oneCell' = true) := vals_one e
  have hvl : (vals e).length = l * 1 := by rw [vals_len]; omega
  clear hcs h7 hsl h4
  go_enter Tryz.func151, Tryz.ntmps151
  go_wp2_with (at_builtin; refine wpList_append_own _ rfl _ _ 62 rfl w.heap.size 3 i0 (.int .i64 0) 1 8 Tryz.underlying62 hi hz0 hz1 hz2 rfl (by decide) _ _ _ rfl (emptyInts w) ⟨b, off, none⟩ l c (vals e) rfl hvl HC.out H1.out (by unfold maxLen; omega) (by omega) (by simp) ?_; intro v' w4 hown4 hg4 _)
  go_ret
  rw [Nat.zero_add, List.nil_append] at hown4
  refine ⟨_, rfl, ?_, hb0.grown hg4 (by simp) (fun r hr => by cases hr; exact Nat.le_refl _), ?_⟩
  rotate_left
  · intro g o l' c' e' i
    rcases hown4.2 with ⟨h0, h00⟩ | ⟨g', cap, cur, hv, hbg, hg, hcap, _⟩
    · omega
    · rw [hv] at e'
      cases e'
      rw [hv] at hown4
      exact hown4.frozenAt i
  rcases hown4.2 with ⟨_, h00⟩ | ⟨g, cap, cur, hv, hbg, hg, hcap, _⟩
  · omega
  · obtain ⟨a', c', hv', hs'⟩ := Sl.vals hown4
    rw [hv] at hv'
    simp only [Value.slice.injEq, true_and] at hv'
    obtain ⟨rfl, rfl⟩ := hv'
    obtain ⟨b', off', e', hc'⟩ := cells_of hs' (by omega)
    cases e'
    exact ⟨g, 0, l, cap, hv, hcap, h3, hbg, Array.getElem?_eq_some_iff.1 hg |>.1, h6, hc'⟩
theorem ownP_any (w : World) (ok : Nat → Prop) (v : Value) (e : List Int) (h : PowV w ok v e) (h0 : 0 < e.length) :
    Calls Tryz.prog 151 #[v] w fun r w' => ∃ u, r = .returned u ∧ PowV w' (fun b => w.heap.size ≤ b) u e ∧ Below w.heap.size w w' :=
  (ownP_fz w ok v e h h0).mono fun r w' ⟨u, h1, h2, h3, _⟩ => ⟨u, h1, h2, h3⟩
end Go.Proofs.YtkadanagmahhgaaGreatDoor
