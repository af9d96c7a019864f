/-
  PROVED HERE: which parts the model tells of a node, at every good list of nodes. No other condition. plain facts on walks back over the trees of a term. No condition. plain functions: the text of a term, and how long it is at most. No condition.
-/
import Derived.Test.YtobgkfpjokfbaaaGreatDoorRun5
import Derived.Test.YtobgkfpjokfbaaaGreatDoorRun2
import Derived.Laws.AppendOwnNone
import Derived.Lib.ItoaNum
namespace Go.Proofs.YtobgkfpjokfbaaaGreatDoor
open Go.ChangeShapes Go.WideShapes Go.ChangeAt Go.RowKit
set_option linter.unusedVariables false

/-- The roots of the last m trees ahead of x, the first one first. -/
def roots (l : List (Int × Int)) : Nat → Nat → List Nat
  | 0, _ => []
  | m + 1, x => roots l m (start l (x - 1)) ++ [x - 1]
theorem roots_len (l : List (Int × Int)) : ∀ m x, (roots l m x).length = m
  | 0, _ => rfl
  | m + 1, x => by simp [roots, roots_len l m]

theorem lit_cells (w : World) (x : Int) : (w.alloc (.cells #[.int .i64 x] 3)).ownsRow w.heap.size 3 1 (.slice (some ⟨w.heap.size, 0, none⟩) 1 1) 1 [.int .i64 x] :=
  World.ownsRow_lit w #[.int .i64 x] 1 (Nat.le_refl _) (by unfold maxLen; omega) rfl

def ints (l : List Nat) : List Value := l.map fun (n : Nat) => Value.int .i64 (n : Int)
theorem ints_one (l : List Nat) : ∀ u ∈ ints l, u.oneCell' = true := by
  intro u hu
  simp only [ints, List.mem_map] at hu
  obtain ⟨n, _, rfl⟩ := hu
  rfl

theorem own_some {w : World} {base e n : Nat} {v : Value} {xs : List Value} (h : w.ownsRow base e 1 v n xs) (hn : 0 < n) : ∃ g cap, v = .slice (some ⟨g, 0, none⟩) n cap ∧ base ≤ g ∧ ∀ o, ∀ j u, xs[j]? = some u → (w.alloc o).cell? ((⟨g, 0, none⟩ : Addr).add j) = some u := by
  rcases h.2 with ⟨_, h0⟩ | ⟨g, cap, cur, rfl, hb, hg, _⟩
  · omega
  · refine ⟨g, cap, rfl, hb, fun o => ?_⟩
    exact (h.alloc o).cells rfl

set_option maxHeartbeats 1600000 in
set_option maxRecDepth 20000 in
theorem parts_any {l : List (Int × Int)} {q : Int} (h : pile l 0 = some q) (a : Option Addr) (len cap : Nat) (w : World) (hs : NSl w a len l) (hl : len ≤ 1048576) (k : Nat) (hk : k < len) :
    Calls Tryz.prog 70 #[.slice a len cap, .int .i64 k] w fun e w' => ∃ v : Value, e = .returned v ∧ w'.ownsRow w.heap.size 3 1 v (ar (l.getD k (0, 0)).1).toNat (ints (roots l (ar (l.getD k (0, 0)).1).toNat k)) ∧ Below w.heap.size w w' := by
  obtain ⟨i0, hi, hz0, hz1, hz2⟩ := info_parts infoInt
  have hlen := hs.1
  obtain ⟨h1, h2⟩ := cnt_step h k (by omega)
  obtain ⟨a1, a2, _⟩ := fits_iff _ _ _ _ h1
  have har := ar_range (l.getD k (0, 0)).1
  obtain ⟨b, off, rfl, hbl, hc⟩ := hs.at (by omega)
  have c1 := (hc k hk).1
  clear hc
  have HA : ∀ W, Calls Tryz.prog 90 #[.int .i64 (l.getD k (0, 0)).1] W fun e w' => e = .returned (.int .i64 (ar (l.getD k (0, 0)).1)) ∧ w' = W := fun W => l1Arity_any _ W
  obtain ⟨m, hm⟩ : ∃ m : Nat, ar (l.getD k (0, 0)).1 = m := ⟨(ar (l.getD k (0, 0)).1).toNat, by omega⟩
  rw [hm] at HA a2 har ⊢
  rw [Int.toNat_natCast]
  generalize (l.getD k (0, 0)).1 = x at c1 HA
  have HF : Hid (∀ W, NSl W (some ⟨b, off, none⟩) len l → ∀ j, j < len → Calls Tryz.prog 94 #[.slice (some ⟨b, off, none⟩) len cap, .int .i64 j] W fun e w' => e = .returned (.int .i64 (start l j)) ∧ w' = W) := fun W hW j hj => from_any h _ len cap W hW hl j hj
  have HS : Hid (NSl w (some ⟨b, off, none⟩) len l) := hs
  have HC : Hid ((m : Int) ≤ cnt l k) := a2
  have HB : Hid (∀ (m x : Nat), x ≤ l.length → (m : Int) ≤ cnt l x → back l m x ≤ x ∧ cnt l (back l m x) = cnt l x - m) := @back_le l q h
  have HST : Hid (∀ j, j < l.length → start l j ≤ j ∧ cnt l (j + 1) = cnt l (start l j) + 1) := fun j hj => ⟨start_le h j hj, start_cnt h j hj⟩
  clear h1 h2 a1 a2 hm hs
  go_enter Tryz.func70, Tryz.ntmps70
  go_wp2_with fail
  refine (HA _).mono ?_
  rintro e w1 ⟨rfl, rfl⟩
  clear HA
  go_wp2_with fail
  go_loopw [5, 6, 7] (fun o p i wr => ∃ (n x : Nat) (r : List Nat), n ≤ m ∧ i = .int .i64 n ∧ p = .int .i64 ((x : Int) - 1) ∧ x ≤ k ∧ wr.ownsRow w1.heap.size 3 1 o (m - n) (ints r) ∧ (n < m ∨ o = .slice none 0 0) ∧ Hid (roots l m k = roots l n x ++ r ∧ (n : Int) ≤ cnt l x) ∧ Below w1.heap.size w1 wr) (fun _ _ i _ => (intOf i).toNat)
  case atStart => exact ⟨m, k, [], Nat.le_refl _, rfl, rfl, Nat.le_refl _, by rw [Nat.sub_self]; exact World.ownsRow_nil _ _ _ _, .inr rfl, ⟨by simp, HC.out⟩, Below.refl _ _⟩
  case round =>
    obtain ⟨n, x, r, hn, rfl, rfl, hx, hown, hnil, hH, hbr⟩ := hrel
    by_cases hn0 : 0 < n
    · have in0 : (0 : Int) < n := by omega
      have hx0 : 0 < x := by
        rcases Nat.eq_zero_or_pos x with h0 | h0
        · subst h0; have := hH.out.2; rw [cnt_zero] at this; omega
        · exact h0
      obtain ⟨g1, g2⟩ := HST.out (x - 1) (by omega)
      rw [show x - 1 + 1 = x from by omega] at g2
      have hnext : Hid (roots l m k = roots l (n - 1) (start l (x - 1)) ++ ((x - 1) :: r) ∧ ((n - 1 : Nat) : Int) ≤ cnt l (start l (x - 1))) := by
        have hh := hH.out
        obtain ⟨n', rfl⟩ : ∃ n', n = n' + 1 := ⟨n - 1, by omega⟩
        refine ⟨?_, by omega⟩
        rw [hh.1]
        show roots l n' (start l (x - 1)) ++ [x - 1] ++ r = _
        simp
      have hle : start l (x - 1) ≤ k := by omega
      clear g1 g2 hH
      have hlit := lit_cells wr ((x : Int) - 1)
      have hli : ints ((x - 1) :: r) = [.int .i64 ((x : Int) - 1)] ++ ints r := by
        show Value.int .i64 ((x - 1 : Nat) : Int) :: ints r = _
        rw [show ((x - 1 : Nat) : Int) = (x : Int) - 1 from by omega]; rfl
      by_cases hnm : n = m
      · have ho : u5 = .slice none 0 0 := by
          rcases hnil with h0 | h0
          · omega
          · exact h0
        have hr0 : r = [] := by
          have := hown.1
          rw [hnm, Nat.sub_self] at this
          simpa [ints] using this
        have hbn : Below w1.heap.size w1 (wr.alloc (.cells #[.int .i64 ((x : Int) - 1)] 3)) := hbr.alloc hbr.size _
        have hrow : (wr.alloc (.cells #[.int .i64 ((x : Int) - 1)] 3)).ownsRow w1.heap.size 3 1 (.slice (some ⟨wr.heap.size, 0, none⟩) 1 1) (m - n + 1) (ints ((x - 1) :: r)) := by
          rw [hli, hr0, hnm, Nat.sub_self]
          exact own_base (lit_cells wr _) hbr.size
        subst ho
        clear hown hnil hr0
        go_wp2_with (at_builtin; refine wpList_append_own_none rfl _ _ 23 rfl wr.heap.size 3 i0 1 Tryz.underlying23 hi _ _ _ rfl (lit_cells wr _) rfl ?_)
        have hns := HS.out.keep hbn
        have C := HF.out _ hns (x - 1) (by omega)
        rw [show ((x - 1 : Nat) : Int) = (x : Int) - 1 from by omega] at C
        generalize start l (x - 1) = y at C hnext hle
        clear hns
        refine C.mono ?_
        rintro e w2 ⟨rfl, rfl⟩
        clear C
        go_wp2
        go_roundw
        case rel => exact ⟨n - 1, y, (x - 1) :: r, by omega, by congr 1; omega, rfl, hle, by rw [show m - (n - 1) = m - n + 1 from by omega]; exact hrow, .inl (by omega), hnext, hbn⟩
        case measure => simp [intOf]; omega
      · obtain ⟨g, cp, rfl, hg0, hcells⟩ := own_some hown (by omega)
        have hro : r.length = m - n := by have := hown.1; simpa [ints] using this
        go_wp2_with (at_builtin; refine wpList_append_own _ rfl _ _ 23 rfl w1.heap.size 3 i0 (.int .i64 0) 1 8 Tryz.underlying23 hi hz0 hz1 hz2 rfl (by decide) _ _ _ rfl (own_base (lit_cells wr _) hbr.size) ⟨g, 0, none⟩ (m - n) cp (ints r) rfl (by simp [ints, hro]) (hcells _) (ints_one r) (by unfold maxLen; omega) (by omega) (by have := hbr.size; simp; omega) ?_; intro v' w4 hown4 hg4 _)
        have hbn : Below w1.heap.size w1 w4 := (hbr.alloc hbr.size _).grown hg4 (by have := hbr.size; simp; omega) (fun r hr => by cases hr; exact hbr.size)
        have hrow : w4.ownsRow w1.heap.size 3 1 v' (m - n + 1) (ints ((x - 1) :: r)) := by rw [hli, Nat.add_comm (m - n) 1]; exact hown4
        clear hown4 hg4 hcells hown hnil
        have hns := HS.out.keep hbn
        have C := HF.out _ hns (x - 1) (by omega)
        rw [show ((x - 1 : Nat) : Int) = (x : Int) - 1 from by omega] at C
        generalize start l (x - 1) = y at C hnext hle
        clear hns
        refine C.mono ?_
        rintro e w2 ⟨rfl, rfl⟩
        clear C
        go_wp2
        go_roundw
        case rel => exact ⟨n - 1, y, (x - 1) :: r, by omega, by congr 1; omega, rfl, hle, by rw [show m - (n - 1) = m - n + 1 from by omega]; exact hrow, .inl (by omega), hnext, hbn⟩
        case measure => simp [intOf]; omega
    · obtain rfl : n = 0 := by omega
      go_wp2
      go_ret
      refine ⟨_, rfl, ?_, hbr⟩
      rw [hH.out.1]
      simpa [roots] using hown

/-- Roots lie ahead. -/
theorem roots_lt {l : List (Int × Int)} {q : Int} (h : pile l 0 = some q) : ∀ (m x : Nat), x ≤ l.length → (m : Int) ≤ cnt l x → ∀ r ∈ roots l m x, r < x
  | 0, _, _, _ => by intro r hr; cases hr
  | m + 1, x, hx, hm => by
    have hx0 : 0 < x := by
      rcases Nat.eq_zero_or_pos x with h0 | h0
      · subst h0; rw [cnt_zero] at hm; omega
      · exact h0
    have b1 := start_le h (x - 1) (by omega)
    have b2 := start_cnt h (x - 1) (by omega)
    rw [show x - 1 + 1 = x from by omega] at b2
    intro r hr
    rcases List.mem_append.1 hr with hr | hr
    · have := roots_lt h m (start l (x - 1)) (by omega) (by omega) r hr
      omega
    · rw [List.mem_singleton.1 hr]; omega

theorem getD_lt (l : List Nat) (B i : Nat) (h : ∀ r ∈ l, r < B) (hi : i < l.length) : l.getD i 0 < B := by
  rw [List.getD_eq_getElem?_getD, List.getElem?_eq_getElem hi]
  exact h _ (List.getElem_mem hi)
theorem ints_get (l : List Nat) (i : Nat) (hi : i < l.length) : (ints l)[i]? = some (.int .i64 (l.getD i 0 : Nat)) := by
  simp [ints, List.getElem?_map, List.getElem?_eq_getElem hi, List.getD_eq_getElem?_getD]
theorem own_row {w : World} {base n : Nat} {v : Value} {l : List Nat} (h : w.ownsRow base 3 1 v n (ints l)) (hn : 0 < n) : ∃ g cap, v = .slice (some ⟨g, 0, none⟩) n cap ∧ g < w.heap.size ∧ ∀ i, i < n → w.cell? ⟨g, i, none⟩ = some (.int .i64 (l.getD i 0 : Nat)) := by
  have hl : l.length = n := by have := h.1; simpa [ints] using this
  rcases h.2 with ⟨_, h0⟩ | ⟨g, cap, cur, rfl, hb, hg, _⟩
  · omega
  · exact ⟨g, cap, rfl, Array.getElem?_eq_some_iff.1 hg |>.1, fun i hi => by rw [h.cellAt i (by omega)]; exact ints_get l i (by omega)⟩
end Go.Proofs.YtobgkfpjokfbaaaGreatDoor
namespace Go.Proofs.YtobgkfpjokfbaaaGreatDoor
set_option linter.unusedVariables false

theorem iter_add (f : Nat → Nat) : ∀ (m n x : Nat), iter f (m + n) x = iter f n (iter f m x)
  | 0, n, x => by rw [Nat.zero_add]; rfl
  | m + 1, n, x => by
    rw [show m + 1 + n = (m + n) + 1 from by omega]
    exact iter_add f m n (f x)
theorem back_add (l : List (Int × Int)) (m n x : Nat) : back l (m + n) x = back l n (back l m x) := iter_add _ m n x
theorem back_step {l : List (Int × Int)} {q : Int} (h : pile l 0 = some q) (n x : Nat) (hx : x < l.length) : back l (n + 1) (x + 1) = back l ((ar (l.getD x (0, 0)).1).toNat + n) x := by
  rw [back_succ, Nat.add_sub_cancel, back_add, ← start_eq h x hx]

theorem cnt_le {l : List (Int × Int)} {q : Int} (h : pile l 0 = some q) : ∀ x, x ≤ l.length → 0 ≤ cnt l x ∧ cnt l x ≤ x
  | 0, _ => by rw [cnt_zero]; omega
  | x + 1, hx => by
    have ih := cnt_le h x (by omega)
    obtain ⟨h1, h2⟩ := cnt_step h x (by omega)
    obtain ⟨a1, a2, _⟩ := fits_iff _ _ _ _ h1
    omega

end Go.Proofs.YtobgkfpjokfbaaaGreatDoor
namespace Go.Proofs.YtobgkfpjokfbaaaGreatDoor
set_option linter.unusedVariables false

/-- The sign of an op. -/
def signB (op : Int) : List UInt8 := if op = 4 then [43] else if op = 5 then [45] else if op = 6 then [42] else if op = 7 then [60, 60] else if op = 8 then [47] else if op = 9 then [61, 61] else if op = 10 then [60] else []
/-- The text of one node, its parts' texts given. -/
def nodeT (x : Int × Int) (ts : List (List UInt8)) : List UInt8 :=
  if x.1 = 1 then Lib.itoa x.2 else if x.1 = 2 then [UInt8.ofNat (97 + x.2.toNat)]
  else if x.1 = 3 then 126 :: ts.getD 0 []
  else if x.1 = 11 then 40 :: ts.getD 0 [] ++ (63 :: ts.getD 1 []) ++ (58 :: ts.getD 2 []) ++ [41]
  else 40 :: ts.getD 0 [] ++ signB x.1 ++ ts.getD 1 [] ++ [41]
/-- The text of the tree of node k (with so much fuel). -/
def textG (l : List (Int × Int)) : Nat → Nat → List UInt8
  | 0, _ => []
  | f + 1, k => nodeT (l.getD k (0, 0)) ((roots l (ar (l.getD k (0, 0)).1).toNat k).map (textG l f))
def textT (l : List (Int × Int)) : List UInt8 := textG l l.length (l.length - 1)
/-- All numbers lie within 64 bits. -/
def InN (l : List (Int × Int)) : Prop := ∀ k, -9223372036854775808 ≤ (l.getD k (0, 0)).2 ∧ (l.getD k (0, 0)).2 ≤ 9223372036854775807
theorem sum_append (a b : List Nat) : (a ++ b).sum = a.sum + b.sum := List.sum_append

theorem mem_le : ∀ (l : List Nat) (x : Nat), x ∈ l → x ≤ l.sum
  | [], x, h => by cases h
  | y :: l, x, h => by
    rw [List.sum_cons]
    rcases List.mem_cons.1 h with h | h
    · omega
    · have := mem_le l x h; omega
theorem nodeT_len (x : Int × Int) (ts : List (List UInt8)) (hi : (Lib.itoa x.2).length ≤ 20) (hl : ts.length = (ar x.1).toNat) : (nodeT x ts).length ≤ (ts.map List.length).sum + 25 := by
  have hg : ∀ i, i < ts.length → (ts.getD i []).length ≤ (ts.map List.length).sum := by
    intro i hi'
    have e : ts.getD i [] = ts[i] := by rw [List.getD_eq_getElem?_getD, List.getElem?_eq_getElem hi']; rfl
    rw [e]
    exact mem_le _ _ (List.mem_map_of_mem (List.getElem_mem hi'))
  unfold nodeT
  split
  · omega
  · split
    · simp
    · split
      · next h1 h2 h3 =>
        rw [h3, show (ar 3).toNat = 1 from rfl] at hl
        have := hg 0 (by omega)
        simp only [List.length_cons]
        omega
      · split
        · next h1 h2 h3 h4 =>
          rw [h4, show (ar 11).toNat = 3 from rfl] at hl
          match ts, hl with
          | [a, b, c], _ =>
            simp only [List.getD_cons_zero, List.getD_cons_succ, List.length_cons, List.length_append, List.length_nil, List.map_cons, List.map_nil, List.sum_cons, List.sum_nil]
            omega
        · have hs : (signB x.1).length ≤ 2 := by
            unfold signB
            repeat' split
            all_goals simp
          match ts with
          | [] => simp; omega
          | [a] => simp; omega
          | a :: b :: r =>
            simp only [List.getD_cons_zero, List.getD_cons_succ, List.length_cons, List.length_append, List.length_nil, List.map_cons, List.sum_cons]
            omega

/-- Fuel does not matter; the text of a tree is at most 25 bytes a node. -/
theorem textG_len {l : List (Int × Int)} {q : Int} (h : pile l 0 = some q) (hi : ∀ k, k < l.length → (Lib.itoa (l.getD k (0, 0)).2).length ≤ 20) : ∀ K k, k < K → k < l.length → ∀ f, k < f → (textG l f k).length ≤ 25 * (k + 1 - start l k) := by
  intro K
  induction K with
  | zero => intro k hk; omega
  | succ K ih =>
    have forest : ∀ (m x : Nat), x ≤ K → x ≤ l.length → (m : Int) ≤ cnt l x → ∀ f, x ≤ f → (((roots l m x).map (textG l f)).map List.length).sum ≤ 25 * (x - back l m x) := by
      intro m
      induction m with
      | zero => intro x _ _ _ f _; simp [roots]
      | succ m ihm =>
        intro x hx hxl hm f hf
        have hx0 : 0 < x := by
          rcases Nat.eq_zero_or_pos x with h0 | h0
          · subst h0; rw [cnt_zero] at hm; omega
          · exact h0
        have b1 := start_le h (x - 1) (by omega)
        have b2 := start_cnt h (x - 1) (by omega)
        rw [show x - 1 + 1 = x from by omega] at b2
        have b3 := back_le h m (start l (x - 1)) (by omega) (by omega)
        have f1 := ihm (start l (x - 1)) (by omega) (by omega) (by omega) f (by omega)
        have t1 := ih (x - 1) (by omega) (by omega) f (by omega)
        rw [back_succ]
        show ((((roots l m (start l (x - 1)) ++ [x - 1]).map (textG l f)).map List.length)).sum ≤ _
        rw [List.map_append, List.map_append, List.sum_append]
        simp only [List.map_cons, List.map_nil, List.sum_cons, List.sum_nil]
        omega
    intro k hk hl f hf
    by_cases hkK : k < K
    · exact ih k hkK hl f hf
    obtain rfl : k = K := by omega
    obtain ⟨f, rfl⟩ : ∃ x, f = x + 1 := ⟨f - 1, by omega⟩
    obtain ⟨h1, h2⟩ := cnt_step h k hl
    obtain ⟨a1, a2, a3, a4⟩ := fits_iff _ _ _ _ h1
    obtain ⟨m, hm⟩ : ∃ m : Nat, ar (l.getD k (0, 0)).1 = m := ⟨(ar (l.getD k (0, 0)).1).toNat, by omega⟩
    have hst := start_eq h k hl
    rw [hm, Int.toNat_natCast] at hst
    have b3 := back_le h m k (by omega) (by omega)
    have f1 := forest m k (Nat.le_refl _) (by omega) (by omega) f (by omega)
    have n1 := nodeT_len (l.getD k (0, 0)) ((roots l (ar (l.getD k (0, 0)).1).toNat k).map (textG l f)) (hi k hl) (by rw [List.length_map, roots_len])
    show (nodeT _ _).length ≤ _
    rw [hm, Int.toNat_natCast] at n1 ⊢
    rw [hst]
    omega
end Go.Proofs.YtobgkfpjokfbaaaGreatDoor
