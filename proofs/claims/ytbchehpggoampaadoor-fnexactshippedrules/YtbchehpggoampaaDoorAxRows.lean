/-
  PROVED HERE: rows of rules, each made of a text; the axioms' texts. The tables are laid, and the library's bound on short searches holds some number. No other condition. what the model's and the program's AxiomAt answer, at every number. The tables are laid, and the library's bound on short searches holds some number. No other condition.
-/
import Derived.Test.YtbchehpggoampaaDoorR8Mark
import Derived.Maps.AppendAt
namespace Go.Proofs.YtbchehpggoampaaDoor
open Go.ChangeShapes Go.WideShapes Go.ChangeAt Go.RowKit
set_option linter.unusedVariables false

/-- The axioms' texts. -/
def axTs : List (List UInt8) := [[40, 49, 63, 97, 58, 98, 41, 61, 62, 97],
  [40, 48, 63, 97, 58, 98, 41, 61, 62, 98],
  [40, 40, 97, 61, 61, 48, 41, 63, 98, 58, 99, 41, 61, 62, 40, 97, 63, 99, 58, 98, 41],
  [40, 97, 61, 61, 98, 41, 61, 62, 40, 98, 61, 61, 97, 41],
  [40, 97, 47, 49, 41, 61, 62, 97],
  [40, 97, 47, 45, 49, 41, 61, 62, 126, 97],
  [40, 40, 97, 45, 98, 41, 61, 61, 48, 41, 61, 62, 40, 97, 61, 61, 98, 41],
  [40, 97, 61, 61, 98, 41, 61, 62, 40, 40, 97, 45, 98, 41, 61, 61, 48, 41],
  [40, 40, 97, 63, 49, 58, 48, 41, 63, 98, 58, 99, 41, 61, 62, 40, 97, 63, 98, 58, 99, 41],
  [40, 40, 97, 60, 98, 41, 63, 49, 58, 48, 41, 61, 62, 40, 97, 60, 98, 41],
  [40, 40, 97, 61, 61, 98, 41, 63, 49, 58, 48, 41, 61, 62, 40, 97, 61, 61, 98, 41],
  [40, 97, 60, 60, 98, 41, 61, 62, 40, 97, 42, 40, 49, 60, 60, 98, 41, 41]]
/-- The texts of the rules that are shipped ahead of axioms. -/
def shTs : List (List UInt8) := [[40, 97, 43, 98, 41, 61, 62, 40, 98, 43, 97, 41],
  [40, 40, 97, 43, 98, 41, 43, 99, 41, 61, 62, 40, 97, 43, 40, 98, 43, 99, 41, 41],
  [40, 97, 42, 98, 41, 61, 62, 40, 98, 42, 97, 41],
  [40, 40, 97, 42, 98, 41, 42, 99, 41, 61, 62, 40, 97, 42, 40, 98, 42, 99, 41, 41],
  [40, 97, 43, 48, 41, 61, 62, 97],
  [40, 97, 42, 49, 41, 61, 62, 97],
  [40, 97, 45, 98, 41, 61, 62, 40, 97, 43, 126, 98, 41],
  [126, 126, 97, 61, 62, 97],
  [40, 97, 42, 50, 41, 61, 62, 40, 97, 60, 60, 49, 41],
  [40, 97, 43, 97, 41, 61, 62, 40, 97, 42, 50, 41],
  [40, 40, 97, 42, 99, 41, 43, 40, 98, 42, 99, 41, 41, 61, 62, 40, 40, 97, 43, 98, 41, 42, 99, 41],
  [40, 97, 42, 45, 49, 41, 61, 62, 126, 97],
  [40, 97, 45, 48, 41, 61, 62, 97]]
theorem infoRule : (Tryd.prog.info? 29).map (fun i => (i.zero, i.size, i.bytes)) = some (some (.agg #[.slice none 0 0, .slice none 0 0]), 2, 48) := by kernel_rfl
theorem cell_newR (w : World) (x y : Value) (t : TypeId) : ∀ j u, [x, y][j]? = some u → (w.alloc (.cells #[x, y] t)).cell? ((⟨w.heap.size, 0, none⟩ : Addr).add j) = some u := by
  intro j u hj
  match j, hj with
  | 0, hj => simp at hj; subst hj; simp [go_sem, Addr.add]
  | 1, hj => simp at hj; subst hj; simp [go_sem, Addr.add]
theorem one_cellR (a b : Option Addr) (m n c d : Nat) : ∀ u ∈ [Value.slice a m c, .slice b n d], u.oneCell' = true := by
  intro u hu
  simp at hu
  rcases hu with rfl | rfl <;> rfl
theorem row_slice2 {w : World} {base e size n : Nat} {v : Value} {xs : List Value} (h : w.ownsRow base e size v n xs) : ∃ a c, v = .slice a n c := by
  rcases h.2 with ⟨rfl, rfl⟩ | ⟨g, cap, cur, rfl, _⟩
  · exact ⟨_, _, rfl⟩
  · exact ⟨_, _, rfl⟩
abbrev nov : Value := .bool false
/-- The blocks of a rule's two lists. -/
def InB (v u : Value) (x : Nat) : Prop := v.ownBlock = some x ∨ u.ownBlock = some x
/-- Rules that were read of texts, one by one, in memory of their own from lo on: xs holds their lists, two a rule; g: the block of the row itself. -/
def Read (w : World) (lo : Nat) (g : Option Nat) (xs : List Value) (ts : List (List UInt8)) : Prop :=
  xs.length = ts.length * 2 ∧ (∀ i, i < ts.length → TwoR w lo (xs.getD (i * 2) nov) (xs.getD (i * 2 + 1) nov) (ruleL (ts.getD i [])) (ruleR (ts.getD i []))) ∧
  (∀ i x, i < ts.length → InB (xs.getD (i * 2) nov) (xs.getD (i * 2 + 1) nov) x → g ≠ some x) ∧
  ∀ i j x y, i < j → j < ts.length → InB (xs.getD (i * 2) nov) (xs.getD (i * 2 + 1) nov) x → InB (xs.getD (j * 2) nov) (xs.getD (j * 2 + 1) nov) y → x < y
theorem Read.nil (w : World) (lo : Nat) (g : Option Nat) : Read w lo g [] [] := ⟨rfl, fun i h => absurd h (Nat.not_lt_zero _), fun i x h => absurd h (Nat.not_lt_zero _), fun i j x y _ h => absurd h (Nat.not_lt_zero _)⟩
theorem Read.lt {w : World} {lo : Nat} {g : Option Nat} {xs : List Value} {ts : List (List UInt8)} (h : Read w lo g xs ts) {i x : Nat} (hi : i < ts.length) (hx : InB (xs.getD (i * 2) nov) (xs.getD (i * 2 + 1) nov) x) : x < w.heap.size ∧ lo ≤ x := by
  have h2 := h.2.1 i hi
  rcases hx with hx | hx
  · exact ⟨own_in h2.1 x hx, own_ge h2.1 x hx⟩
  · exact ⟨own_in h2.2.1 x hx, own_ge h2.2.1 x hx⟩
theorem TwoR.grownR {w w' : World} {lo : Nat} {v u : Value} {p q : List (Int × Int)} {r : Option Nat} (h : TwoR w lo v u p q) (hg : w.grownBy w' r) (hne : ∀ x, InB v u x → r ≠ some x) : TwoR w' lo v u p q :=
  ⟨own_grown h.1 hg (fun x hx e => hne x (.inl hx) e.symm), own_grown h.2.1 hg (fun x hx e => hne x (.inr hx) e.symm), h.2.2⟩
theorem getV_app {xs ys : List Value} {k : Nat} (h : k < xs.length) : (xs ++ ys).getD k nov = xs.getD k nov := by
  rw [List.getD_eq_getElem?_getD, List.getElem?_append_left h, ← List.getD_eq_getElem?_getD]
theorem getT_app {xs ys : List (List UInt8)} {k : Nat} (h : k < xs.length) : (xs ++ ys).getD k [] = xs.getD k [] := by
  rw [List.getD_eq_getElem?_getD, List.getElem?_append_left h, ← List.getD_eq_getElem?_getD]
/-- One rule more, whose lists are newer than all. -/
theorem Read.snoc {w w2 w6 : World} {lo b : Nat} {g g' r : Option Nat} {xs : List Value} {ts : List (List UInt8)} {t : List UInt8} {v u : Value} (h : Read w lo g xs ts) (hb2 : Below w.heap.size w w2) (hT : TwoR w2 b v u (ruleL t) (ruleR t)) (hb : w.heap.size ≤ b) (hlo : lo ≤ w.heap.size)
    (hg : w2.grownBy w6 r) (hr : r = g) (hgl : ∀ x, g = some x → x < w.heap.size) (hg' : g' = g ∨ ∃ n, g' = some n ∧ w2.heap.size ≤ n) : Read w6 lo g' (xs ++ [v, u]) (ts ++ [t]) := by
  subst hr
  have hsz := hb2.size
  obtain ⟨h1, h2, h3, h4⟩ := h
  have hnew : ∀ x, InB v u x → b ≤ x ∧ x < w2.heap.size := fun x hx => by
    rcases hx with hx | hx
    · exact ⟨own_ge hT.1 x hx, own_in hT.1 x hx⟩
    · exact ⟨own_ge hT.2.1 x hx, own_in hT.2.1 x hx⟩
  have hold : ∀ i x, i < ts.length → InB (xs.getD (i * 2) nov) (xs.getD (i * 2 + 1) nov) x → x < w.heap.size := fun i x hi hx => (Read.lt (g := r) ⟨h1, h2, h3, h4⟩ hi hx).1
  have e1 : ∀ i, i < ts.length → (xs ++ [v, u]).getD (i * 2) nov = xs.getD (i * 2) nov ∧ (xs ++ [v, u]).getD (i * 2 + 1) nov = xs.getD (i * 2 + 1) nov ∧ (ts ++ [t]).getD i [] = ts.getD i [] := fun i hi => ⟨getV_app (by omega), getV_app (by omega), getT_app hi⟩
  have e2 : (xs ++ [v, u]).getD (ts.length * 2) nov = v ∧ (xs ++ [v, u]).getD (ts.length * 2 + 1) nov = u ∧ (ts ++ [t]).getD ts.length [] = t := by
    rw [← h1]
    refine ⟨by simp [List.getD_eq_getElem?_getD], ?_, by simp [List.getD_eq_getElem?_getD]⟩
    rw [List.getD_eq_getElem?_getD, List.getElem?_append_right (by omega)]
    simp [show xs.length + 1 - xs.length = 1 by omega]
  refine ⟨by simp [h1]; omega, fun i hi => ?_, fun i x hi hx e => ?_, fun i j x y hij hj hx hy => ?_⟩
  · rw [List.length_append, List.length_singleton] at hi
    by_cases hlt : i < ts.length
    · obtain ⟨a1, a2, a3⟩ := e1 i hlt
      rw [a1, a2, a3]
      exact ((h2 i hlt).keep hb2).grownR hg (fun x hx e => h3 i x hlt hx e)
    · obtain rfl : i = ts.length := by omega
      obtain ⟨a1, a2, a3⟩ := e2
      rw [a1, a2, a3]
      exact (hT.grownR hg (fun x hx e => by have := hgl x e; have := (hnew x hx).1; omega)).low (by omega)
  · rw [List.length_append, List.length_singleton] at hi
    by_cases hlt : i < ts.length
    · obtain ⟨a1, a2, a3⟩ := e1 i hlt
      rw [a1, a2] at hx
      rcases hg' with e' | ⟨n, e', hn⟩
      · exact h3 i x hlt hx (e' ▸ e)
      · rw [e'] at e; injection e with e; have := hold i x hlt hx; omega
    · obtain rfl : i = ts.length := by omega
      obtain ⟨a1, a2, a3⟩ := e2
      rw [a1, a2] at hx
      rcases hg' with e' | ⟨n, e', hn⟩
      · have := hgl x (e' ▸ e); have := (hnew x hx).1; omega
      · rw [e'] at e; injection e with e; have := (hnew x hx).2; omega
  · rw [List.length_append, List.length_singleton] at hj
    obtain ⟨a1, a2, a3⟩ := e1 i (by omega)
    rw [a1, a2] at hx
    by_cases hlt : j < ts.length
    · obtain ⟨b1, b2, b3⟩ := e1 j hlt
      rw [b1, b2] at hy
      exact h4 i j x y hij hlt hx hy
    · obtain rfl : j = ts.length := by omega
      obtain ⟨b1, b2, b3⟩ := e2
      rw [b1, b2] at hy
      have := hold i x (by omega) hx
      have := (hnew y hy).1
      omega
theorem Read.keep {w w' : World} {lo : Nat} {g : Option Nat} {xs : List Value} {ts : List (List UInt8)} (h : Read w lo g xs ts) (hb : Below w.heap.size w w') : Read w' lo g xs ts := ⟨h.1, fun i hi => (h.2.1 i hi).keep hb, h.2.2⟩
/-- A row of strings lies in memory. -/
def Strs (w : World) (b n : Nat) (ts : List (List UInt8)) : Prop := ts.length = n ∧ b < w.heap.size ∧ ∀ i, i < n → w.cell? ⟨b, i, none⟩ = some (.string ⟨(ts.getD i []).toArray⟩) ∧ (ts.getD i []).length ≤ 1000
theorem Strs.keep {w w' : World} {b n : Nat} {ts : List (List UInt8)} (h : Strs w b n ts) (hb : Below w.heap.size w w') : Strs w' b n ts := ⟨h.1, Nat.lt_of_lt_of_le h.2.1 hb.size, fun i hi => ⟨(hb.cell (p := ⟨b, i, none⟩) h.2.1).trans (h.2.2 i hi).1, (h.2.2 i hi).2⟩⟩
theorem take_snoc {ts : List (List UInt8)} {k : Nat} (h : k < ts.length) : ts.take (k + 1) = ts.take k ++ [ts.getD k []] := by
  rw [List.take_add_one, List.getD_eq_getElem?_getD, List.getElem?_eq_getElem h]; rfl
set_option maxHeartbeats 3200000 in
set_option maxRecDepth 20000 in
theorem rulesOf_any (b n c : Nat) (ts : List (List UInt8)) (w : World) (hE : Env w) (hT : Tab w) (hM : MaxL w) (hS : Strs w b n ts) (hn : n ≤ 100) :
    Calls Tryd.prog 48 #[.slice (some ⟨b, 0, none⟩) n c] w fun e w' => ∃ (a : Option Addr) (d : Nat) (xs : List Value), e = .returned (.slice a n d) ∧ w'.ownsRow w.heap.size 29 2 (.slice a n d) n xs ∧ Read w' w.heap.size (Value.slice a n d).ownBlock xs ts ∧ Below w.heap.size w w' := by
  obtain ⟨i0, hi, hz0, hz1, hz2⟩ := info_parts infoRule
  have hlen := hS.1
  have HIm : Hid (∀ (t : ByteArray) W, t.size ≤ 1048576 → Below w.heap.size w W → Calls Tryd.prog 21 #[.string t] W fun e w' => ReadR W w' t.data.toList e) := fun t W h1 hW => implReadRule_any t W (hE.keep hW) (hT.keeps hW) (hM.keep hW) h1
  have HS : Hid (Strs w b n ts) := hS
  clear hE hT hM hS
  go_enter Tryd.func48, Tryd.ntmps48
  go_wp2_with fail
  go_loopw [3, 11] (fun y i wr => ∃ (k : Nat) (a : Option Addr) (d : Nat) (xs : List Value), k ≤ n ∧ i = .int .i64 k ∧ y = .slice a k d ∧ Hid (wr.ownsRow w.heap.size 29 2 (.slice a k d) k xs ∧ Read wr w.heap.size (Value.slice a k d).ownBlock xs (ts.take k) ∧ Below w.heap.size w wr)) (fun _ i _ => n - (intOf i).toNat)
  case atStart => exact ⟨0, none, 0, [], Nat.zero_le _, rfl, rfl, World.ownsRow_nil _ _ _ _, Read.nil _ _ _, Below.refl _ _⟩
  case round =>
    obtain ⟨k, a, d, xs, hk, rfl, rfl, hR⟩ := hrel
    by_cases hlt : k < n
    · obtain ⟨ho, hrd, hbr⟩ := hR.out
      obtain ⟨hc, hl⟩ := ((HS.out.keep hbr).2.2 k hlt)
      have hkl : (k : Int) < n := by omega
      have hak : Hid (ts.take (k + 1) = ts.take k ++ [ts.getD k []]) := take_snoc (by omega)
      obtain ⟨t, ht⟩ : ∃ t, ts.getD k [] = t := ⟨_, rfl⟩
      rw [ht] at hc hl hak
      have HC := (show Hid _ from HIm.out (⟨t.toArray⟩ : ByteArray) wr (by show t.toArray.size ≤ _; simp; omega) hbr)
      have e1 : (⟨t.toArray⟩ : ByteArray).data.toList = t := by simp
      rw [e1] at HC
      unfold ReadR at HC
      clear ho hrd hbr hl ht e1
      go_wp2_with fail
      refine Calls.mono HC.out ?_
      rintro e w2 ⟨v, u, rfl, hTwo, hb2⟩
      obtain ⟨av, cv, rfl⟩ := own_shape hTwo.1
      obtain ⟨au, cu, rfl⟩ := own_shape hTwo.2.1
      have HTwo : Hid (TwoR w2 wr.heap.size _ _ _ _ ∧ Below wr.heap.size wr w2) := ⟨hTwo, hb2⟩
      have hrow : w2.ownsRow w.heap.size 29 2 (.slice a k d) k xs := own_keep hR.out.1 hb2
      have hwlo : w.heap.size ≤ w2.heap.size := Nat.le_trans hR.out.2.2.size hb2.size
      obtain ⟨m1, hm1⟩ : ∃ m, (ruleL t).length = m := ⟨_, rfl⟩
      obtain ⟨m2, hm2⟩ : ∃ m, (ruleR t).length = m := ⟨_, rfl⟩
      rw [hm1, hm2] at HTwo
      rw [hm1, hm2]
      clear HC
      have HNX : Hid (∀ (X : World) (v6 : Value) (w6 : World), Below w2.heap.size w2 X → X.grownBy w6 (Value.slice a k d).ownBlock → (v6.ownBlock = (Value.slice a k d).ownBlock ∨ v6.ownBlock = some X.heap.size) → Read w6 w.heap.size v6.ownBlock (xs ++ [.slice av m1 cv, .slice au m2 cu]) (ts.take (k + 1)) ∧ Below w.heap.size w w6) := fun X v6 w6 hX hg h6 => by
        obtain ⟨ho, hrd, hbr⟩ := hR.out
        obtain ⟨hT2, hb2⟩ := HTwo.out
        have hbX : Below wr.heap.size wr X := hb2.trans (hX.mono hb2.size)
        rw [hak.out]
        refine ⟨hrd.snoc hbX (hT2.keep hX) (Nat.le_refl _) hbr.size hg rfl (fun x hx => own_in ho x hx) ?_, (hbr.trans (hbX.mono hbr.size)).grown hg (Nat.le_trans hbr.size hbX.size) (fun r hr => own_ge ho r hr)⟩
        rcases h6 with h | h
        · exact .inl h
        · exact .inr ⟨_, h, Nat.le_refl _⟩
      obtain ⟨X2, hX2⟩ : ∃ X, w2.alloc (.cells #[.slice av m1 cv, .slice au m2 cu] 29) = X := ⟨_, rfl⟩
      have hbX2 : Below w2.heap.size w2 X2 := by rw [← hX2]; exact (Below.refl _ _).alloc (Nat.le_refl _) _
      have e0 : X2.cell? ⟨w2.heap.size, 0, none⟩ = some (.slice av m1 cv) := by rw [← hX2]; simp [go_sem]
      have e1 : X2.cell? ⟨w2.heap.size, 1, none⟩ = some (.slice au m2 cu) := by rw [← hX2]; simp [go_sem]
      have HX2 : Hid (X2.ownsRow w.heap.size 29 2 (.slice a k d) k xs ∧ w.heap.size ≤ X2.heap.size ∧ Below w2.heap.size w2 (X2.alloc (.cells #[.slice av m1 cv, .slice au m2 cu] 29))) := ⟨own_keep hrow hbX2, Nat.le_trans hwlo hbX2.size, hbX2.alloc hbX2.size _⟩
      have hkn : k < 100 := by omega
      clear hTwo hb2 hrow hwlo hbX2 HTwo hak HIm hR hm1 hm2
      go_wp2_with (at_builtin; refine wpList_append_own_at _ rfl _ _ 42 rfl w.heap.size 29 i0 (.agg #[.slice none 0 0, .slice none 0 0]) 2 48 Tryd.underlying42 hi hz0 hz1 hz2 rfl (by decide) _ _ _ rfl (HX2.out.1.alloc _) ⟨X2.heap.size, 0, none⟩ 1 1 [_, _] rfl rfl (cell_newR _ _ _ _) (one_cellR _ _ _ _ _ _) (by unfold maxLen; omega) (by omega) (by have := HX2.out.2.1; simp; omega) ?_; intro v6 w6 k1 k2 _ k3; obtain ⟨a6, c6, rfl⟩ := row_slice2 k1; have HN6 := (show Hid _ from HNX.out _ _ _ HX2.out.2.2 k2 k3); have HK1 := (show Hid _ from k1); clear k1 k2 k3)
      go_roundw
      case rel => exact ⟨k + 1, a6, c6, _, by omega, by go_num, by first | trivial | rfl, HK1.out, HN6.out.1, HN6.out.2⟩
      case measure => simp [intOf]; omega
    · obtain rfl : k = n := by omega
      have hall : ts.take k = ts := List.take_of_length_le (by omega)
      rw [hall] at hR
      clear hall
      go_wp2
      go_ret
      exact ⟨_, _, _, rfl, hR.out.1, hR.out.2.1, hR.out.2.2⟩
end Go.Proofs.YtbchehpggoampaaDoor
namespace Go.Proofs.YtbchehpggoampaaDoor
open Go.ChangeShapes Go.WideShapes Go.ChangeAt Go.RowKit
set_option linter.unusedVariables false

def axIs (k : Int) : Bool := decide (0 ≤ k ∧ k ≤ 11)
def axT (k : Int) : List UInt8 := axTs.getD k.toNat []
def axP (k : Int) : List (Int × Int) := if axIs k = true then ruleL (axT k) else []
def axQ (k : Int) : List (Int × Int) := if axIs k = true then ruleR (axT k) else []
theorem axP_len (k : Int) : (axP k).length ≤ 7 := by unfold axP; split <;> first | exact ruleL_len _ | exact Nat.zero_le _
theorem axQ_len (k : Int) : (axQ k).length ≤ 7 := by unfold axQ; split <;> first | exact ruleR_len _ | exact Nat.zero_le _
theorem axTs_few (i : Nat) (h : i < 12) : (axTs.getD i []).length ≤ 1000 := by
  rcases (show i = 0 ∨ i = 1 ∨ i = 2 ∨ i = 3 ∨ i = 4 ∨ i = 5 ∨ i = 6 ∨ i = 7 ∨ i = 8 ∨ i = 9 ∨ i = 10 ∨ i = 11 by omega) with rfl | rfl | rfl | rfl | rfl | rfl | rfl | rfl | rfl | rfl | rfl | rfl <;> decide
theorem r8In_yes (k lo hi : Int) (w : World) (h1 : lo ≤ k) (h2 : k ≤ hi) : Calls Tryd.prog 36 #[.int .i64 k, .int .i64 lo, .int .i64 hi] w fun e w' => e = .returned (.bool true) ∧ w' = w := by
  go_enter Tryd.func36, Tryd.ntmps36
  go_wp2
  go_ret
  exact ⟨rfl, rfl⟩
theorem r8In_no (k lo hi : Int) (w : World) (h : ¬ (lo ≤ k ∧ k ≤ hi)) : Calls Tryd.prog 36 #[.int .i64 k, .int .i64 lo, .int .i64 hi] w fun e w' => e = .returned (.bool false) ∧ w' = w := by
  by_cases h1 : lo ≤ k
  · have h2 : ¬ k ≤ hi := fun h2 => h ⟨h1, h2⟩
    clear h
    go_enter Tryd.func36, Tryd.ntmps36
    go_wp2
    go_ret
    exact ⟨rfl, rfl⟩
  · clear h
    go_enter Tryd.func36, Tryd.ntmps36
    go_wp2
    go_ret
    exact ⟨rfl, rfl⟩
theorem l8Axiom_any (n : Nat) (w : World) (h : n < 12) : Calls Tryd.prog 38 #[.int .i64 (n : Int)] w fun e w' => e = .returned (.string ⟨(axTs.getD n []).toArray⟩) ∧ w' = w := by
  rcases (show n = 0 ∨ n = 1 ∨ n = 2 ∨ n = 3 ∨ n = 4 ∨ n = 5 ∨ n = 6 ∨ n = 7 ∨ n = 8 ∨ n = 9 ∨ n = 10 ∨ n = 11 by omega) with rfl | rfl | rfl | rfl | rfl | rfl | rfl | rfl | rfl | rfl | rfl | rfl
  all_goals
    clear h
    go_enter Tryd.func38, Tryd.ntmps38
    go_wp2
    go_ret
    exact ⟨rfl, rfl⟩
set_option maxHeartbeats 1600000 in
theorem l8Read_any (s : ByteArray) (w : World) (hs : s.size ≤ 1048576) :
    Calls Tryd.prog 37 #[.string s] w fun e w' => ∃ v u, e = .returned (.agg #[v, u]) ∧ TwoR w' w.heap.size v u (ruleL s.data.toList) (ruleR s.data.toList) ∧ Below w.heap.size w w' := by
  obtain ⟨W1, hW1⟩ : ∃ W1, w.alloc (.cells #[.slice none 0 0, .slice none 0 0] 29) = W1 := ⟨_, rfl⟩
  have hb1 : Below w.heap.size w W1 := by rw [← hW1]; exact (Below.refl _ _).alloc (Nat.le_refl _) _
  have hs1 : W1.heap.size = w.heap.size + 1 := by rw [← hW1]; simp
  have r0 : W1.cell? ⟨w.heap.size, 0, none⟩ = some (.slice none 0 0) := by rw [← hW1]; simp [go_sem]
  have r1 : W1.cell? ⟨w.heap.size, 1, none⟩ = some (.slice none 0 0) := by rw [← hW1]; simp [go_sem]
  have f0 : W1.frozen? ⟨w.heap.size, 0, none⟩ = false := by rw [← hW1]; simp [go_sem]
  have f1 : W1.frozen? ⟨w.heap.size, 1, none⟩ = false := by rw [← hW1]; simp [go_sem]
  have HC : Hid (∀ W, Below W1.heap.size W1 W → (W.cell? ⟨w.heap.size, 0, none⟩ = some (.slice none 0 0) ∧ W.cell? ⟨w.heap.size, 1, none⟩ = some (.slice none 0 0) ∧ W.frozen? ⟨w.heap.size, 0, none⟩ = false ∧ W.frozen? ⟨w.heap.size, 1, none⟩ = false) ∧ ∀ v0 v1, Below w.heap.size w ((W.setCell ⟨w.heap.size, 0, none⟩ v0).setCell ⟨w.heap.size, 1, none⟩ v1)) := fun W hW => by
    have hX := hb1.trans (hW.mono hb1.size)
    exact ⟨⟨(hW.cell (p := ⟨w.heap.size, 0, none⟩) (by show w.heap.size < _; omega)).trans r0, (hW.cell (p := ⟨w.heap.size, 1, none⟩) (by show w.heap.size < _; omega)).trans r1, (hW.frozen (p := ⟨w.heap.size, 0, none⟩) (by show w.heap.size < _; omega)).trans f0, (hW.frozen (p := ⟨w.heap.size, 1, none⟩) (by show w.heap.size < _; omega)).trans f1⟩, fun v0 v1 => (hX.setCell (by show w.heap.size ≤ w.heap.size; omega) _).setCell (by show w.heap.size ≤ w.heap.size; omega) _⟩
  have HR := (show Hid _ from specReadRule_any s W1 hs)
  have HZ : Hid (w.heap.size + 1 = W1.heap.size) := hs1.symm
  unfold ReadR at HR
  generalize ruleOk s.data.toList = OK at HR
  generalize ((ruleAt s.data.toList : Nat) : Int) = AT at HR
  generalize ruleL s.data.toList = P at HR ⊢
  generalize ruleR s.data.toList = Q at HR ⊢
  clear hb1 hs1 r0 r1 f0 f1
  go_enter Tryd.func37, Tryd.ntmps37
  go_wp2_with fail
  (try rw [hW1])
  refine Calls.mono HR.out ?_
  rintro e w2 ⟨v, u, rfl, hT, hb2⟩
  obtain ⟨av, cv, rfl⟩ := own_shape hT.1
  obtain ⟨au, cu, rfl⟩ := own_shape hT.2.1
  obtain ⟨X, hX⟩ : ∃ X, w2.alloc (.cells #[.slice av P.length cv, .slice au Q.length cu] 29) = X := ⟨_, rfl⟩
  have hbX : Below w2.heap.size w2 X := by rw [← hX]; exact (Below.refl _ _).alloc (Nat.le_refl _) _
  have e0 : X.cell? ⟨w2.heap.size, 0, none⟩ = some (.slice av P.length cv) := by rw [← hX]; simp [go_sem]
  have e1 : X.cell? ⟨w2.heap.size, 1, none⟩ = some (.slice au Q.length cu) := by rw [← hX]; simp [go_sem]
  obtain ⟨⟨y0, y1, y2, y3⟩, hfin⟩ := HC.out X (hb2.trans (hbX.mono hb2.size))
  have HF := (show Hid _ from hfin)
  have HT : Hid (TwoR X (w.heap.size + 1) _ _ P Q) := (hT.keep hbX).low (by have := HZ.out; omega)
  clear HR HC hT hb2 hbX hfin hW1
  go_wp2
  refine bodyPost_ret (v := .agg #[.slice av P.length cv, .slice au Q.length cu]) ?_ ?_ ?_
  · simp [results, Tryd.results37, go_sem, *]
  · rfl
  · first | exact ⟨_, _, rfl, (HT.out.box (Nat.lt_succ_self _) _ _).low (Nat.le_succ _), HF.out _ _⟩ | (rw [hX]; exact ⟨_, _, rfl, (HT.out.box (Nat.lt_succ_self _) _ _).low (Nat.le_succ _), HF.out _ _⟩)
def AxR (w w' : World) (k : Int) (e : Ending) : Prop := ∃ (v u : Value), e = .returned (.tuple #[.agg #[v, u], .bool (axIs k)]) ∧ TwoR w' w.heap.size v u (axP k) (axQ k) ∧ Below w.heap.size w w'
set_option maxHeartbeats 1600000 in
theorem specAxiom_any (k : Int) (w : World) :
    Calls Tryd.prog 14 #[.int .i64 k] w fun e w' => AxR w w' k e := by
  obtain ⟨W1, hW1⟩ : ∃ W1, w.alloc (.cells #[.slice none 0 0, .slice none 0 0] 29) = W1 := ⟨_, rfl⟩
  have hb1 : Below w.heap.size w W1 := by rw [← hW1]; exact (Below.refl _ _).alloc (Nat.le_refl _) _
  have hs1 : W1.heap.size = w.heap.size + 1 := by rw [← hW1]; simp
  have r0 : W1.cell? ⟨w.heap.size, 0, none⟩ = some (.slice none 0 0) := by rw [← hW1]; simp [go_sem]
  have r1 : W1.cell? ⟨w.heap.size, 1, none⟩ = some (.slice none 0 0) := by rw [← hW1]; simp [go_sem]
  have f0 : W1.frozen? ⟨w.heap.size, 0, none⟩ = false := by rw [← hW1]; simp [go_sem]
  have f1 : W1.frozen? ⟨w.heap.size, 1, none⟩ = false := by rw [← hW1]; simp [go_sem]
  have HC : Hid (∀ W, Below W1.heap.size W1 W → (W.cell? ⟨w.heap.size, 0, none⟩ = some (.slice none 0 0) ∧ W.cell? ⟨w.heap.size, 1, none⟩ = some (.slice none 0 0) ∧ W.frozen? ⟨w.heap.size, 0, none⟩ = false ∧ W.frozen? ⟨w.heap.size, 1, none⟩ = false) ∧ ∀ v0 v1, Below w.heap.size w ((W.setCell ⟨w.heap.size, 0, none⟩ v0).setCell ⟨w.heap.size, 1, none⟩ v1)) := fun W hW => by
    have hX := hb1.trans (hW.mono hb1.size)
    exact ⟨⟨(hW.cell (p := ⟨w.heap.size, 0, none⟩) (by show w.heap.size < _; omega)).trans r0, (hW.cell (p := ⟨w.heap.size, 1, none⟩) (by show w.heap.size < _; omega)).trans r1, (hW.frozen (p := ⟨w.heap.size, 0, none⟩) (by show w.heap.size < _; omega)).trans f0, (hW.frozen (p := ⟨w.heap.size, 1, none⟩) (by show w.heap.size < _; omega)).trans f1⟩, fun v0 v1 => (hX.setCell (by show w.heap.size ≤ w.heap.size; omega) _).setCell (by show w.heap.size ≤ w.heap.size; omega) _⟩
  have HZ : Hid (w.heap.size + 1 = W1.heap.size) := hs1.symm
  unfold AxR
  by_cases hk : 0 ≤ k ∧ k ≤ 11
  · have e1 : axIs k = true := decide_eq_true hk
    have e2 : axP k = ruleL (axT k) := by unfold axP; rw [if_pos e1]
    have e3 : axQ k = ruleR (axT k) := by unfold axQ; rw [if_pos e1]
    rw [e1, e2, e3]
    obtain ⟨n, rfl⟩ : ∃ n : Nat, k = n := ⟨k.toNat, by omega⟩
    have hn : n < 12 := by omega
    have e4 : axT (n : Int) = axTs.getD n [] := by unfold axT; rw [Int.toNat_natCast]
    rw [e4]
    have hf := axTs_few n hn
    have HI : Hid (∀ W, Calls Tryd.prog 36 #[.int .i64 (n : Int), .int .i64 0, .int .i64 11] W fun e w' => e = .returned (.bool true) ∧ w' = W) := fun W => r8In_yes _ _ _ W hk.1 hk.2
    have HA : Hid (∀ W, Calls Tryd.prog 38 #[.int .i64 (n : Int)] W fun e w' => e = .returned (.string ⟨(axTs.getD n []).toArray⟩) ∧ w' = W) := fun W => l8Axiom_any n W hn
    generalize axTs.getD n [] = t at HA hf ⊢
    have HR := (show Hid _ from l8Read_any (⟨t.toArray⟩ : ByteArray) W1 (by show t.toArray.size ≤ _; simp; omega))
    rw [show (⟨t.toArray⟩ : ByteArray).data.toList = t from by simp] at HR
    generalize ruleL t = P at HR ⊢
    generalize ruleR t = Q at HR ⊢
    clear hb1 hs1 r0 r1 f0 f1 e1 e2 e3 e4 hf hn hk
    go_enter Tryd.func14, Tryd.ntmps14
    go_wp2_with fail
    (try rw [hW1])
    refine Calls.mono (HI.out _) ?_
    rintro e w2 ⟨rfl, rfl⟩
    go_wp2_with fail
    refine Calls.mono (HA.out _) ?_
    rintro e w3 ⟨rfl, rfl⟩
    go_wp2_with fail
    refine Calls.mono HR.out ?_
    rintro e w4 ⟨v, u, rfl, hT, hb4⟩
    obtain ⟨av, cv, rfl⟩ := own_shape hT.1
    obtain ⟨au, cu, rfl⟩ := own_shape hT.2.1
    obtain ⟨⟨y0, y1, y2, y3⟩, hfin⟩ := HC.out w4 hb4
    have HF := (show Hid _ from hfin)
    have HT : Hid (TwoR w4 (w.heap.size + 1) _ _ P Q) := hT.low (by have := HZ.out; omega)
    clear HR HC hT hb4 hfin HI HA
    go_wp2
    refine bodyPost_ret (v := .tuple #[.agg #[.slice av P.length cv, .slice au Q.length cu], .bool true]) ?_ ?_ ?_
    · simp [results, Tryd.results14, go_sem, *]
    · rfl
    · exact ⟨_, _, rfl, (HT.out.box (Nat.lt_succ_self _) _ _).low (Nat.le_succ _), HF.out _ _⟩
  · have e1 : axIs k = false := decide_eq_false hk
    have e2 : axP k = [] := by unfold axP; rw [e1]; rfl
    have e3 : axQ k = [] := by unfold axQ; rw [e1]; rfl
    rw [e1, e2, e3]
    have HI : Hid (∀ W, Calls Tryd.prog 36 #[.int .i64 k, .int .i64 0, .int .i64 11] W fun e w' => e = .returned (.bool false) ∧ w' = W) := fun W => r8In_no _ _ _ W hk
    obtain ⟨⟨y0, y1, y2, y3⟩, hfin⟩ := HC.out W1 (Below.refl _ _)
    have HF := (show Hid _ from hfin)
    clear hb1 hs1 r0 r1 f0 f1 e1 e2 e3 hk HC hfin
    go_enter Tryd.func14, Tryd.ntmps14
    go_wp2_with fail
    (try rw [hW1])
    refine Calls.mono (HI.out _) ?_
    rintro e w2 ⟨rfl, rfl⟩
    clear HI hW1
    go_wp2
    refine bodyPost_ret (v := .tuple #[.agg #[.slice none 0 0, .slice none 0 0], .bool false]) ?_ ?_ ?_
    · simp [results, Tryd.results14, go_sem, *]
    · rfl
    · exact ⟨_, _, rfl, TwoR.nil _ _, HF.out _ _⟩
theorem axiom_strs (w : World) : Strs (w.alloc (.cells #[.string ⟨#[40, 49, 63, 97, 58, 98, 41, 61, 62, 97]⟩, .string ⟨#[40, 48, 63, 97, 58, 98, 41, 61, 62, 98]⟩, .string ⟨#[40, 40, 97, 61, 61, 48, 41, 63, 98, 58, 99, 41, 61, 62, 40, 97, 63, 99, 58, 98, 41]⟩, .string ⟨#[40, 97, 61, 61, 98, 41, 61, 62, 40, 98, 61, 61, 97, 41]⟩, .string ⟨#[40, 97, 47, 49, 41, 61, 62, 97]⟩, .string ⟨#[40, 97, 47, 45, 49, 41, 61, 62, 126, 97]⟩, .string ⟨#[40, 40, 97, 45, 98, 41, 61, 61, 48, 41, 61, 62, 40, 97, 61, 61, 98, 41]⟩, .string ⟨#[40, 97, 61, 61, 98, 41, 61, 62, 40, 40, 97, 45, 98, 41, 61, 61, 48, 41]⟩, .string ⟨#[40, 40, 97, 63, 49, 58, 48, 41, 63, 98, 58, 99, 41, 61, 62, 40, 97, 63, 98, 58, 99, 41]⟩, .string ⟨#[40, 40, 97, 60, 98, 41, 63, 49, 58, 48, 41, 61, 62, 40, 97, 60, 98, 41]⟩, .string ⟨#[40, 40, 97, 61, 61, 98, 41, 63, 49, 58, 48, 41, 61, 62, 40, 97, 61, 61, 98, 41]⟩, .string ⟨#[40, 97, 60, 60, 98, 41, 61, 62, 40, 97, 42, 40, 49, 60, 60, 98, 41, 41]⟩] 9)) w.heap.size 12 axTs := by
  refine ⟨rfl, by simp, fun i hi => ⟨?_, axTs_few i hi⟩⟩
  rcases (show i = 0 ∨ i = 1 ∨ i = 2 ∨ i = 3 ∨ i = 4 ∨ i = 5 ∨ i = 6 ∨ i = 7 ∨ i = 8 ∨ i = 9 ∨ i = 10 ∨ i = 11 by omega) with rfl | rfl | rfl | rfl | rfl | rfl | rfl | rfl | rfl | rfl | rfl | rfl <;> simp [go_sem, axTs]
theorem allAxioms_any (w : World) (hE : Env w) (hT : Tab w) (hM : MaxL w) :
    Calls Tryd.prog 39 #[] w fun e w' => ∃ (a : Option Addr) (d : Nat) (xs : List Value), e = .returned (.slice a 12 d) ∧ w'.ownsRow w.heap.size 29 2 (.slice a 12 d) 12 xs ∧ Read w' w.heap.size (Value.slice a 12 d).ownBlock xs axTs ∧ Below w.heap.size w w' := by
  obtain ⟨W1, hW1⟩ : ∃ W1, w.alloc (.cells #[.string ⟨#[40, 49, 63, 97, 58, 98, 41, 61, 62, 97]⟩, .string ⟨#[40, 48, 63, 97, 58, 98, 41, 61, 62, 98]⟩, .string ⟨#[40, 40, 97, 61, 61, 48, 41, 63, 98, 58, 99, 41, 61, 62, 40, 97, 63, 99, 58, 98, 41]⟩, .string ⟨#[40, 97, 61, 61, 98, 41, 61, 62, 40, 98, 61, 61, 97, 41]⟩, .string ⟨#[40, 97, 47, 49, 41, 61, 62, 97]⟩, .string ⟨#[40, 97, 47, 45, 49, 41, 61, 62, 126, 97]⟩, .string ⟨#[40, 40, 97, 45, 98, 41, 61, 61, 48, 41, 61, 62, 40, 97, 61, 61, 98, 41]⟩, .string ⟨#[40, 97, 61, 61, 98, 41, 61, 62, 40, 40, 97, 45, 98, 41, 61, 61, 48, 41]⟩, .string ⟨#[40, 40, 97, 63, 49, 58, 48, 41, 63, 98, 58, 99, 41, 61, 62, 40, 97, 63, 98, 58, 99, 41]⟩, .string ⟨#[40, 40, 97, 60, 98, 41, 63, 49, 58, 48, 41, 61, 62, 40, 97, 60, 98, 41]⟩, .string ⟨#[40, 40, 97, 61, 61, 98, 41, 63, 49, 58, 48, 41, 61, 62, 40, 97, 61, 61, 98, 41]⟩, .string ⟨#[40, 97, 60, 60, 98, 41, 61, 62, 40, 97, 42, 40, 49, 60, 60, 98, 41, 41]⟩] 9) = W1 := ⟨_, rfl⟩
  have hb1 : Below w.heap.size w W1 := by rw [← hW1]; exact (Below.refl _ _).alloc (Nat.le_refl _) _
  have hS : Strs W1 w.heap.size 12 axTs := by rw [← hW1]; exact axiom_strs w
  have HR := (show Hid _ from rulesOf_any w.heap.size 12 12 axTs W1 (hE.keep hb1) (hT.keeps hb1) (hM.keep hb1) hS (by decide))
  have HB := (show Hid _ from hb1)
  clear hE hT hM hS hb1
  go_enter Tryd.func39, Tryd.ntmps39
  go_wp2_with fail
  (try rw [hW1])
  refine Calls.mono HR.out ?_
  rintro e w2 ⟨a, d, xs, rfl, hown, hrd, hb2⟩
  have HO : Hid (w2.ownsRow w.heap.size 29 2 (.slice a 12 d) 12 xs ∧ Read w2 w.heap.size (Value.slice a 12 d).ownBlock xs axTs ∧ Below w.heap.size w w2) := ⟨own_base hown HB.out.size, ⟨hrd.1, fun i hi => (hrd.2.1 i hi).low HB.out.size, hrd.2.2⟩, HB.out.trans (hb2.mono HB.out.size)⟩
  clear hown hrd hb2 HR hW1
  go_wp2
  go_ret
  exact ⟨_, _, _, rfl, HO.out.1, HO.out.2.1, HO.out.2.2⟩
set_option maxHeartbeats 1600000 in
theorem implAxiom_any (k : Int) (w : World) (hE : Env w) (hT : Tab w) (hM : MaxL w) :
    Calls Tryd.prog 15 #[.int .i64 k] w fun e w' => AxR w w' k e := by
  obtain ⟨W1, hW1⟩ : ∃ W1, w.alloc (.cells #[.slice none 0 0, .slice none 0 0] 29) = W1 := ⟨_, rfl⟩
  have hb1 : Below w.heap.size w W1 := by rw [← hW1]; exact (Below.refl _ _).alloc (Nat.le_refl _) _
  have hs1 : W1.heap.size = w.heap.size + 1 := by rw [← hW1]; simp
  have r0 : W1.cell? ⟨w.heap.size, 0, none⟩ = some (.slice none 0 0) := by rw [← hW1]; simp [go_sem]
  have r1 : W1.cell? ⟨w.heap.size, 1, none⟩ = some (.slice none 0 0) := by rw [← hW1]; simp [go_sem]
  have f0 : W1.frozen? ⟨w.heap.size, 0, none⟩ = false := by rw [← hW1]; simp [go_sem]
  have f1 : W1.frozen? ⟨w.heap.size, 1, none⟩ = false := by rw [← hW1]; simp [go_sem]
  have HC : Hid (∀ W, Below W1.heap.size W1 W → (W.cell? ⟨w.heap.size, 0, none⟩ = some (.slice none 0 0) ∧ W.cell? ⟨w.heap.size, 1, none⟩ = some (.slice none 0 0) ∧ W.frozen? ⟨w.heap.size, 0, none⟩ = false ∧ W.frozen? ⟨w.heap.size, 1, none⟩ = false) ∧ ∀ v0 v1, Below w.heap.size w ((W.setCell ⟨w.heap.size, 0, none⟩ v0).setCell ⟨w.heap.size, 1, none⟩ v1)) := fun W hW => by
    have hX := hb1.trans (hW.mono hb1.size)
    exact ⟨⟨(hW.cell (p := ⟨w.heap.size, 0, none⟩) (by show w.heap.size < _; omega)).trans r0, (hW.cell (p := ⟨w.heap.size, 1, none⟩) (by show w.heap.size < _; omega)).trans r1, (hW.frozen (p := ⟨w.heap.size, 0, none⟩) (by show w.heap.size < _; omega)).trans f0, (hW.frozen (p := ⟨w.heap.size, 1, none⟩) (by show w.heap.size < _; omega)).trans f1⟩, fun v0 v1 => (hX.setCell (by show w.heap.size ≤ w.heap.size; omega) _).setCell (by show w.heap.size ≤ w.heap.size; omega) _⟩
  have HZ : Hid (w.heap.size + 1 = W1.heap.size) := hs1.symm
  have HA := (show Hid _ from allAxioms_any W1 (hE.keep hb1) (hT.keeps hb1) (hM.keep hb1))
  unfold AxR
  by_cases hk : 0 ≤ k ∧ k ≤ 11
  · have e1 : axIs k = true := decide_eq_true hk
    have e2 : axP k = ruleL (axT k) := by unfold axP; rw [if_pos e1]
    have e3 : axQ k = ruleR (axT k) := by unfold axQ; rw [if_pos e1]
    rw [e1, e2, e3]
    obtain ⟨n, rfl⟩ : ∃ n : Nat, k = n := ⟨k.toNat, by omega⟩
    have hn : n < 12 := by omega
    have e4 : axT (n : Int) = axTs.getD n [] := by unfold axT; rw [Int.toNat_natCast]
    rw [e4]
    have i0 : ¬ (n : Int) < 0 := by omega
    have i1 : (n : Int) < 12 := by omega
    clear hb1 hs1 r0 r1 f0 f1 e1 e2 e3 e4 hE hT hM hk
    go_enter Tryd.func15, Tryd.ntmps15
    go_wp2_with fail
    (try rw [hW1])
    refine Calls.mono HA.out ?_
    rintro e w2 ⟨a, d, xs, rfl, hown, hrd, hb2⟩
    have hlx := hown.1
    have hT := hrd.2.1 n hn
    obtain ⟨g, cp, e, hcell⟩ : ∃ g cp, (Value.slice a 12 d) = .slice (some ⟨g, 0, none⟩) 12 cp ∧ ∀ j, j < 24 → w2.cell? ⟨g, j, none⟩ = xs[j]? := by
      rcases hown.2 with ⟨_, h0⟩ | ⟨g, cp, cur, e, _⟩
      · cases h0
      · exact ⟨g, cp, e, fun j hj => by rw [e] at hown; exact hown.cellAt j (by omega)⟩
    cases e
    obtain ⟨av, cv, ev⟩ := own_shape hT.1
    obtain ⟨au, cu, eu⟩ := own_shape hT.2.1
    have c0 := hcell (n * 2) (by omega)
    have c1 := hcell (n * 2 + 1) (by omega)
    have g0 : xs[n * 2]? = some (xs.getD (n * 2) nov) := by rw [List.getD_eq_getElem?_getD, List.getElem?_eq_getElem (by omega)]; rfl
    have g1 : xs[n * 2 + 1]? = some (xs.getD (n * 2 + 1) nov) := by rw [List.getD_eq_getElem?_getD, List.getElem?_eq_getElem (by omega)]; rfl
    rw [g0, ev] at c0
    rw [g1, eu] at c1
    rw [ev, eu] at hT
    obtain ⟨⟨y0, y1, y2, y3⟩, hfin⟩ := HC.out w2 hb2
    have HF := (show Hid _ from hfin)
    have HT : Hid (TwoR w2 (w.heap.size + 1) _ _ (ruleL (axTs.getD n [])) (ruleR (axTs.getD n []))) := hT.low (by have := HZ.out; omega)
    clear HA HC hT hb2 hfin hrd hown hlx hcell ev eu g0 g1 hn hW1
    go_wp2
    refine bodyPost_ret (v := .tuple #[.agg #[.slice av (ruleL (axTs.getD n [])).length cv, .slice au (ruleR (axTs.getD n [])).length cu], .bool true]) ?_ ?_ ?_
    · simp [results, Tryd.results15, go_sem, *]
    · rfl
    · exact ⟨_, _, rfl, (HT.out.box (Nat.lt_succ_self _) _ _).low (Nat.le_succ _), HF.out _ _⟩
  · have e1 : axIs k = false := decide_eq_false hk
    have e2 : axP k = [] := by unfold axP; rw [e1]; rfl
    have e3 : axQ k = [] := by unfold axQ; rw [e1]; rfl
    rw [e1, e2, e3]
    clear hb1 hs1 r0 r1 f0 f1 e1 e2 e3 hE hT hM
    by_cases h0 : k < 0
    all_goals
      first
        | have h1 : ¬ (12 : Int) ≤ k := by omega
        | have h1 : (12 : Int) ≤ k := by omega
      clear hk
      go_enter Tryd.func15, Tryd.ntmps15
      go_wp2_with fail
      (try rw [hW1])
      refine Calls.mono HA.out ?_
      rintro e w2 ⟨a, d, xs, rfl, hown, hrd, hb2⟩
      obtain ⟨⟨y0, y1, y2, y3⟩, hfin⟩ := HC.out w2 hb2
      have HF := (show Hid _ from hfin)
      clear HA HC hb2 hfin hrd hown hW1
      go_wp2
      refine bodyPost_ret (v := .tuple #[.agg #[.slice none 0 0, .slice none 0 0], .bool false]) ?_ ?_ ?_
      · simp [results, Tryd.results15, go_sem, *]
      · rfl
      · exact ⟨_, _, rfl, TwoR.nil _ _, HF.out _ _⟩
end Go.Proofs.YtbchehpggoampaaDoor
