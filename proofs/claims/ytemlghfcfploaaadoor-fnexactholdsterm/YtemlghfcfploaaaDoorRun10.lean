/-
  PROVED HERE: plain functions: the text of a term, and how long it is at most. No condition. a list of nodes that came in, opened by the form's own reading, holds its nodes, whose numbers lie within 64 bits. No condition.
-/
import Derived.Test.YtemlghfcfploaaaDoorRun9
import Derived.Lib.ItoaNum
import Derived.Test.YtemlghfcfploaaaDoorRun7
namespace Go.Proofs.YtemlghfcfploaaaDoor
set_option linter.unusedVariables false

/-- The sign of an op. -/
def signB (op : Int) : List UInt8 := if op = 4 then [43] else if op = 5 then [45] else if op = 6 then [42] else if op = 7 then [60, 60] else if op = 8 then [47] else if op = 9 then [61, 61] else if op = 10 then [60] else []
/-- The text of one node, its parts' texts given. -/
def nodeT (x : Int × Int) (ts : List (List UInt8)) : List UInt8 :=
  if x.1 = 1 then Lib.itoa x.2 else if x.1 = 2 then [UInt8.ofNat (97 + x.2.toNat)]
  else if x.1 = 3 then 126 :: ts.getD 0 []
  else if x.1 = 11 then 40 :: ts.getD 0 [] ++ (63 :: ts.getD 1 []) ++ (58 :: ts.getD 2 []) ++ [41]
  else 40 :: ts.getD 0 [] ++ signB x.1 ++ ts.getD 1 [] ++ [41]
/-- The text of the tree of node k (with so much fuel). -/
def textG (l : List (Int × Int)) : Nat → Nat → List UInt8
  | 0, _ => []
  | f + 1, k => nodeT (l.getD k (0, 0)) ((roots l (ar (l.getD k (0, 0)).1).toNat k).map (textG l f))
def textT (l : List (Int × Int)) : List UInt8 := textG l l.length (l.length - 1)
/-- All numbers lie within 64 bits. -/
def InN (l : List (Int × Int)) : Prop := ∀ k, -9223372036854775808 ≤ (l.getD k (0, 0)).2 ∧ (l.getD k (0, 0)).2 ≤ 9223372036854775807
theorem sum_append (a b : List Nat) : (a ++ b).sum = a.sum + b.sum := List.sum_append

theorem mem_le : ∀ (l : List Nat) (x : Nat), x ∈ l → x ≤ l.sum
  | [], x, h => by cases h
  | y :: l, x, h => by
    rw [List.sum_cons]
    rcases List.mem_cons.1 h with h | h
    · omega
    · have := mem_le l x h; omega
theorem nodeT_len (x : Int × Int) (ts : List (List UInt8)) (hi : (Lib.itoa x.2).length ≤ 20) (hl : ts.length = (ar x.1).toNat) : (nodeT x ts).length ≤ (ts.map List.length).sum + 25 := by
  have hg : ∀ i, i < ts.length → (ts.getD i []).length ≤ (ts.map List.length).sum := by
    intro i hi'
    have e : ts.getD i [] = ts[i] := by rw [List.getD_eq_getElem?_getD, List.getElem?_eq_getElem hi']; rfl
    rw [e]
    exact mem_le _ _ (List.mem_map_of_mem (List.getElem_mem hi'))
  unfold nodeT
  split
  · omega
  · split
    · simp
    · split
      · next h1 h2 h3 =>
        rw [h3, show (ar 3).toNat = 1 from rfl] at hl
        have := hg 0 (by omega)
        simp only [List.length_cons]
        omega
      · split
        · next h1 h2 h3 h4 =>
          rw [h4, show (ar 11).toNat = 3 from rfl] at hl
          match ts, hl with
          | [a, b, c], _ =>
            simp only [List.getD_cons_zero, List.getD_cons_succ, List.length_cons, List.length_append, List.length_nil, List.map_cons, List.map_nil, List.sum_cons, List.sum_nil]
            omega
        · have hs : (signB x.1).length ≤ 2 := by
            unfold signB
            repeat' split
            all_goals simp
          match ts with
          | [] => simp; omega
          | [a] => simp; omega
          | a :: b :: r =>
            simp only [List.getD_cons_zero, List.getD_cons_succ, List.length_cons, List.length_append, List.length_nil, List.map_cons, List.sum_cons]
            omega

/-- Fuel does not matter; the text of a tree is at most 25 bytes a node. -/
theorem textG_len {l : List (Int × Int)} {q : Int} (h : pile l 0 = some q) (hi : ∀ k, k < l.length → (Lib.itoa (l.getD k (0, 0)).2).length ≤ 20) : ∀ K k, k < K → k < l.length → ∀ f, k < f → (textG l f k).length ≤ 25 * (k + 1 - start l k) := by
  intro K
  induction K with
  | zero => intro k hk; omega
  | succ K ih =>
    have forest : ∀ (m x : Nat), x ≤ K → x ≤ l.length → (m : Int) ≤ cnt l x → ∀ f, x ≤ f → (((roots l m x).map (textG l f)).map List.length).sum ≤ 25 * (x - back l m x) := by
      intro m
      induction m with
      | zero => intro x _ _ _ f _; simp [roots]
      | succ m ihm =>
        intro x hx hxl hm f hf
        have hx0 : 0 < x := by
          rcases Nat.eq_zero_or_pos x with h0 | h0
          · subst h0; rw [cnt_zero] at hm; omega
          · exact h0
        have b1 := start_le h (x - 1) (by omega)
        have b2 := start_cnt h (x - 1) (by omega)
        rw [show x - 1 + 1 = x from by omega] at b2
        have b3 := back_le h m (start l (x - 1)) (by omega) (by omega)
        have f1 := ihm (start l (x - 1)) (by omega) (by omega) (by omega) f (by omega)
        have t1 := ih (x - 1) (by omega) (by omega) f (by omega)
        rw [back_succ]
        show ((((roots l m (start l (x - 1)) ++ [x - 1]).map (textG l f)).map List.length)).sum ≤ _
        rw [List.map_append, List.map_append, List.sum_append]
        simp only [List.map_cons, List.map_nil, List.sum_cons, List.sum_nil]
        omega
    intro k hk hl f hf
    by_cases hkK : k < K
    · exact ih k hkK hl f hf
    obtain rfl : k = K := by omega
    obtain ⟨f, rfl⟩ : ∃ x, f = x + 1 := ⟨f - 1, by omega⟩
    obtain ⟨h1, h2⟩ := cnt_step h k hl
    obtain ⟨a1, a2, a3, a4⟩ := fits_iff _ _ _ _ h1
    obtain ⟨m, hm⟩ : ∃ m : Nat, ar (l.getD k (0, 0)).1 = m := ⟨(ar (l.getD k (0, 0)).1).toNat, by omega⟩
    have hst := start_eq h k hl
    rw [hm, Int.toNat_natCast] at hst
    have b3 := back_le h m k (by omega) (by omega)
    have f1 := forest m k (Nat.le_refl _) (by omega) (by omega) f (by omega)
    have n1 := nodeT_len (l.getD k (0, 0)) ((roots l (ar (l.getD k (0, 0)).1).toNat k).map (textG l f)) (hi k hl) (by rw [List.length_map, roots_len])
    show (nodeT _ _).length ≤ _
    rw [hm, Int.toNat_natCast] at n1 ⊢
    rw [hst]
    omega
end Go.Proofs.YtemlghfcfploaaaDoor
namespace Go.Proofs.YtemlghfcfploaaaDoor
open Go.ChangeShapes Go.WideShapes Go.ChangeAt Go.RowKit
set_option linter.unusedVariables false
theorem wf_in {z : Int} (h : (Lit.int .i64 z).wf = true) : -9223372036854775808 ≤ z ∧ z ≤ 9223372036854775807 := by
  simp only [Lit.wf, Bool.and_eq_true, decide_eq_true_eq] at h
  have e1 : IntKind.i64.min = -9223372036854775808 := by decide
  have e2 : IntKind.i64.max = 9223372036854775807 := by decide
  omega
theorem nodes_inN {H : Type} {enc : TypeId × Value → H} {W : World} {base : Nat} {sp : Nat → Bool} {held : Bool} {fuel : Nat} {a : Option Addr} {len cap : Nat} {x : DataW H × List MemPlace}
    (h : DataW.trod enc Tryd.prog W base sp held fuel 25 [.slice a len cap] = some x) : ∃ l : List (Int × Int), NSl W a len l ∧ len ≤ cap ∧ cap ≤ maxLen ∧ InN l := by
  rcases Go.Deep.open_slice_pairs Tryd.underlying25 Tryd.underlying52 cellsNode rfl rfl cellsInt cellsInt64 h with ⟨e, _⟩ | ⟨y, len', cap', m, n, V0, V1, D0, D1, P0, P1, e, _, hl, hm, hmm, _, hx⟩
  · simp only [List.cons.injEq, Value.slice.injEq, and_true] at e
    obtain ⟨rfl, rfl, rfl⟩ := e
    exact ⟨[], ⟨rfl, .inl rfl⟩, Nat.le_refl _, Nat.zero_le _, fun k => ⟨by show (-9223372036854775808 : Int) ≤ 0; decide, by show (0 : Int) ≤ 9223372036854775807; decide⟩⟩
  · simp only [List.cons.injEq, Value.slice.injEq, and_true] at e
    obtain ⟨rfl, rfl, rfl⟩ := e
    have hlm : len ≤ m := by rw [hmm]; split <;> omega
    have each : ∀ i, i < len → ∃ q : Int × Int, W.cell? (y.add (i * 2)) = some (.int .i64 q.1) ∧ W.cell? (y.add (i * 2 + 1)) = some (.int .i64 q.2) ∧ -9223372036854775808 ≤ q.2 ∧ q.2 ≤ 9223372036854775807 := by
      intro i hi
      obtain ⟨h1, h2, h3, h4⟩ := hx i (by omega)
      obtain ⟨n0, e0, _⟩ := DataW.trod_int Tryd.underlying3 h3
      obtain ⟨n1, e1, _, hwf⟩ := DataW.trod_int Tryd.underlying2 h4
      simp only [List.cons.injEq, and_true] at e0 e1
      rw [e0] at h1
      rw [e1] at h2
      exact ⟨(n0, n1), h1, h2, wf_in hwf⟩
    obtain ⟨q, hq⟩ := Go.Deep.choose_lt each
    refine ⟨(List.range len).map q, ⟨by simp, ?_⟩, hl, hm, fun k => ?_⟩
    · by_cases h0 : len = 0
      · exact .inl h0
      obtain ⟨b, off, spot⟩ := y
      have hspot : spot = none := by simpa [Addr.add] using World.cell?_spot (hq 0 (by omega)).1
      subst hspot
      refine .inr ⟨b, off, rfl, ?_, fun i hi => ?_⟩
      · have := World.block_lt_of_cell? W _ (hq 0 (by omega)).1
        simpa [Addr.add] using this
      · have e : ((List.range len).map q).getD i (0, 0) = q i := by simp [List.getD_eq_getElem?_getD, hi]
        rw [e]
        have := hq i hi
        rw [add_at, add_at] at this
        exact ⟨this.1, by rw [Nat.add_assoc]; exact this.2.1⟩
    · by_cases hk : k < len
      · have e : ((List.range len).map q).getD k (0, 0) = q k := by simp [List.getD_eq_getElem?_getD, hk]
        rw [e]; exact (hq k hk).2.2
      · have e : ((List.range len).map q).getD k (0, 0) = (0, 0) := by simp [List.getD_eq_getElem?_getD, hk]
        rw [e]; exact ⟨by decide, by decide⟩
end Go.Proofs.YtemlghfcfploaaaDoor
