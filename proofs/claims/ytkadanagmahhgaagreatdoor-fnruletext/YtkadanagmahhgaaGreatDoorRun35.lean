/-
  PROVED HERE: what SameRing answers, the model's and the program's, at every two lists of nodes, in a world whose table of arities is laid. No other condition. what the model's l1Put makes of every row of numbers and every number. No other condition. what the model's l1Put leaves, at every row of numbers. No other condition. which variables the model tells of a term, at every list of nodes. No other condition.
-/
import Derived.Test.YtkadanagmahhgaaGreatDoorRun28
import Derived.Test.YtkadanagmahhgaaGreatDoorRun34
import Derived.Test.YtkadanagmahhgaaGreatDoorRun1
import Derived.Laws.AppendOwnNone
namespace Go.Proofs.YtkadanagmahhgaaGreatDoor
open Go.ChangeShapes Go.WideShapes Go.ChangeAt Go.RowKit
set_option linter.unusedVariables false

/-- SameRing's answer. -/
def sameOk (l m : List (Int × Int)) : Bool := (ofT l).isSome && (ofT m).isSome
def sameR (l m : List (Int × Int)) : Bool := sameOk l m && decide ((ofT l).getD [] = (ofT m).getD [])
theorem ofT_good {l : List (Int × Int)} (hI : ∀ k, InI (l.getD k (0, 0)).2) : ∀ s, ofT l = some s → GoodS s := by
  unfold ofT
  by_cases h : isRingB l = true
  · rw [if_pos h]
    unfold isRingB at h
    rw [Bool.and_eq_true] at h
    exact fun s e => ofF_good (fun k _ => hI k) (vars4 (good_pile h.1).1) _ _ s e
  · rw [if_neg h]; intro s e; cases e

theorem specSame_any (a : Option Addr) (la ca : Nat) (l : List (Int × Int)) (b : Option Addr) (lb cb : Nat) (m : List (Int × Int)) (w : World) (h : NSl w a la l) (h' : NSl w b lb m) (hm : la ≤ 9223372036854775807) (hm' : lb ≤ 9223372036854775807) (hI : ∀ k, InI (l.getD k (0, 0)).2) (hI' : ∀ k, InI (m.getD k (0, 0)).2) :
    Calls Tryz.prog 66 #[.slice a la ca, .slice b lb cb] w fun r w' => r = .returned (.tuple #[.bool (sameR l m), .bool (sameOk l m)]) ∧ Below w.heap.size w w' := by
  have C1 := (show Hid _ from specPolyOf_any a la ca l w h hm hI)
  have C2 : Hid (∀ W, Below w.heap.size w W → Calls Tryz.prog 56 #[.slice b lb cb] W fun r w' => ∃ v, r = .returned (.tuple #[v, .bool (ofT m).isSome]) ∧ SpecV w' v ((ofT m).getD []) ∧ Below W.heap.size W w') := fun W hW => specPolyOf_any b lb cb m W (h'.keep hW) hm' hI'
  have G1 := (show Hid _ from ofT_good hI)
  have G2 := (show Hid _ from ofT_good hI')
  unfold sameR sameOk
  generalize ofT l = o at C1 G1
  generalize ofT m = o' at C2 G2
  clear h h' hI hI'
  cases o with
  | none =>
    go_enter Tryz.func66, Tryz.ntmps66
    go_wp2_with fail
    refine Calls.mono C1.out ?_
    rintro e w1 ⟨v, rfl, _, hb1⟩
    go_wp2_with fail
    refine Calls.mono (C2.out _ hb1) ?_
    rintro e w2 ⟨u, rfl, _, hb2⟩
    have hB := hb1.trans (hb2.mono hb1.size)
    clear C1 C2
    go_wp2
    go_ret2
    exact ⟨rfl, hB⟩
  | some s =>
    cases o' with
    | none =>
      go_enter Tryz.func66, Tryz.ntmps66
      go_wp2_with fail
      refine Calls.mono C1.out ?_
      rintro e w1 ⟨v, rfl, _, hb1⟩
      go_wp2_with fail
      refine Calls.mono (C2.out _ hb1) ?_
      rintro e w2 ⟨u, rfl, _, hb2⟩
      have hB := hb1.trans (hb2.mono hb1.size)
      clear C1 C2
      go_wp2
      go_ret2
      exact ⟨rfl, hB⟩
    | some t =>
      have g1 := G1.out s rfl
      have g2 := G2.out t rfl
      have HS : Hid (∀ W v u, SpecV W v s → SpecV W u t → Calls Tryz.prog 106 #[v, u] W fun e w' => e = .returned (.bool (decide (s = t))) ∧ Below W.heap.size W w') := fun W v u hv hu => by
        obtain ⟨a1, c1, rfl, p1⟩ := hv
        obtain ⟨a2, c2, rfl, p2⟩ := hu
        exact l4Same_any a1 a2 _ c1 _ c2 s t W p1 p2 (by have := poly_len g1.1; omega) (by have := poly_len g2.1; omega) g1.len g2.len
      have eT : ((some s).isSome && (some t).isSome) = true := rfl
      rw [eT, Bool.true_and]
      have eD : decide ((some s).getD [] = (some t).getD []) = decide (s = t) := rfl
      rw [eD]
      generalize decide (s = t) = D at HS
      clear G1 G2 g1 g2 eT eD
      go_enter Tryz.func66, Tryz.ntmps66
      go_wp2_with fail
      refine Calls.mono C1.out ?_
      rintro e w1 ⟨v, rfl, hv, hb1⟩
      go_wp2_with fail
      refine Calls.mono (C2.out _ hb1) ?_
      rintro e w2 ⟨u, rfl, hu, hb2⟩
      have hB := hb1.trans (hb2.mono hb1.size)
      have C3 := (show Hid _ from HS.out w2 v u (hv.keep hb2) hu)
      clear C1 C2 hb1 hb2 hv hu HS
      go_wp2_with fail
      refine Calls.mono C3.out ?_
      rintro e w3 ⟨rfl, hb3⟩
      have hB3 := hB.trans (hb3.mono hB.size)
      clear C3 hb3 hB
      go_wp2
      go_ret2
      exact ⟨rfl, hB3⟩

theorem implSame_any (a : Option Addr) (la ca : Nat) (l : List (Int × Int)) (b : Option Addr) (lb cb : Nat) (m : List (Int × Int)) (w : World) (hT : Tab w) (h : NSl w a la l) (h' : NSl w b lb m) (hm : la ≤ 9223372036854775807) (hm' : lb ≤ 9223372036854775807) (hI : ∀ k, InI (l.getD k (0, 0)).2) (hI' : ∀ k, InI (m.getD k (0, 0)).2) :
    Calls Tryz.prog 39 #[.slice a la ca, .slice b lb cb] w fun r w' => r = .returned (.tuple #[.bool (sameR l m), .bool (sameOk l m)]) ∧ Below w.heap.size w w' := by
  have C1 := (show Hid _ from implPolyOf_any a la ca l w hT h hm hI)
  have C2 : Hid (∀ W, Below w.heap.size w W → Calls Tryz.prog 75 #[.slice b lb cb] W fun r w' => IOf W (ofT m) r w') := fun W hW => implPolyOf_any b lb cb m W (hT.keeps hW) (h'.keep hW) hm' hI'
  have G1 := (show Hid _ from ofT_good hI)
  have G2 := (show Hid _ from ofT_good hI')
  unfold sameR sameOk
  generalize ofT l = o at C1 G1
  generalize ofT m = o' at C2 G2
  clear h h' hI hI' hT
  cases o with
  | none =>
    go_enter Tryz.func39, Tryz.ntmps39
    go_wp2_with fail
    refine Calls.mono C1.out ?_
    rintro e w1 ⟨v, rfl, _, hb1⟩
    go_wp2_with fail
    refine Calls.mono (C2.out _ hb1) ?_
    rintro e w2 ⟨u, rfl, _, hb2⟩
    have hB := hb1.trans (hb2.mono hb1.size)
    clear C1 C2
    go_wp2
    go_ret2
    exact ⟨rfl, hB⟩
  | some s =>
    cases o' with
    | none =>
      go_enter Tryz.func39, Tryz.ntmps39
      go_wp2_with fail
      refine Calls.mono C1.out ?_
      rintro e w1 ⟨v, rfl, _, hb1⟩
      go_wp2_with fail
      refine Calls.mono (C2.out _ hb1) ?_
      rintro e w2 ⟨u, rfl, _, hb2⟩
      have hB := hb1.trans (hb2.mono hb1.size)
      clear C1 C2
      go_wp2
      go_ret2
      exact ⟨rfl, hB⟩
    | some t =>
      have g1 := G1.out s rfl
      have g2 := G2.out t rfl
      have HS : Hid (∀ W v u, SpecV W v s → SpecV W u t → Calls Tryz.prog 76 #[v, u, .func (.func 77) #[] #[]] W fun e w' => e = .returned (.bool (decide (s = t))) ∧ Below W.heap.size W w') := fun W v u hv hu => by
        obtain ⟨a1, c1, rfl, p1⟩ := hv
        obtain ⟨a2, c2, rfl, p2⟩ := hu
        exact equalF_any a1 a2 _ c1 _ c2 s t W p1 p2 (by have := poly_len g1.1; omega) (by have := poly_len g2.1; omega) g1.len g2.len
      have HV : Hid (∀ W lo v, OwnV W lo v s → SpecV W v s) := fun W lo v hv => hv.psl g1.len
      have HU : Hid (∀ W lo v, OwnV W lo v t → SpecV W v t) := fun W lo v hv => hv.psl g2.len
      have eT : ((some s).isSome && (some t).isSome) = true := rfl
      rw [eT, Bool.true_and]
      have eD : decide ((some s).getD [] = (some t).getD []) = decide (s = t) := rfl
      rw [eD]
      generalize decide (s = t) = D at HS
      clear G1 G2 g1 g2 eT eD
      go_enter Tryz.func39, Tryz.ntmps39
      go_wp2_with fail
      refine Calls.mono C1.out ?_
      rintro e w1 ⟨v, rfl, hv, hb1⟩
      go_wp2_with fail
      refine Calls.mono (C2.out _ hb1) ?_
      rintro e w2 ⟨u, rfl, hu, hb2⟩
      have hB := hb1.trans (hb2.mono hb1.size)
      have C3 := (show Hid _ from HS.out w2 v u ((HV.out _ _ _ hv).keep hb2) (HU.out _ _ _ hu))
      clear C1 C2 hb1 hb2 hv hu HS HV HU
      go_wp2_with fail
      refine Calls.mono C3.out ?_
      rintro e w3 ⟨rfl, hb3⟩
      have hB3 := hB.trans (hb3.mono hB.size)
      clear C3 hb3 hB
      go_wp2
      go_ret2
      exact ⟨rfl, hB3⟩

end Go.Proofs.YtkadanagmahhgaaGreatDoor
namespace Go.Proofs.YtkadanagmahhgaaGreatDoor
open Go.ChangeShapes Go.WideShapes Go.ChangeAt Go.RowKit
set_option linter.unusedVariables false

/-- Where a number belongs. -/
def place : List Int → Int → Nat
  | [], _ => 0
  | x :: l, n => if x < n then place l n + 1 else 0
/-- The list with a number put to its place, once. -/
def insL (l : List Int) (n : Int) : List Int := if place l n < l.length ∧ l.getD (place l n) 0 = n then l else l.take (place l n) ++ [n] ++ l.drop (place l n)
theorem place_le : ∀ l n, place l n ≤ l.length
  | [], _ => Nat.le_refl _
  | x :: l, n => by
    unfold place
    split
    · simp only [List.length_cons]; have := place_le l n; omega
    · exact Nat.zero_le _
theorem place_lt : ∀ l n j, j < place l n → l.getD j 0 < n
  | [], _, _, h => absurd h (Nat.not_lt_zero _)
  | x :: l, n, j, h => by
    unfold place at h
    split at h
    · next hx =>
      cases j with
      | zero => simpa using hx
      | succ j => simpa using place_lt l n j (by omega)
    · exact absurd h (Nat.not_lt_zero _)
theorem place_at : ∀ l n, place l n < l.length → ¬ l.getD (place l n) 0 < n
  | [], _, h => absurd h (Nat.not_lt_zero _)
  | x :: l, n, h => by
    unfold place at h ⊢
    split at h
    · next hx =>
      rw [if_pos hx]
      simpa using place_at l n (by simpa using h)
    · next hx => rw [if_neg hx]; simpa using hx
theorem place_next {l : List Int} {n : Int} {k : Nat} (h : k ≤ place l n) (hk : k < l.length) (hx : l.getD k 0 < n) : k + 1 ≤ place l n := by
  rcases Nat.lt_or_ge k (place l n) with h0 | h0
  · exact h0
  · have e : place l n = k := by omega
    exact absurd (by rw [e]; exact hx) (place_at l n (by omega))
theorem place_stop {l : List Int} {n : Int} {k : Nat} (h : k ≤ place l n) (hx : k < l.length → ¬ l.getD k 0 < n) : place l n = k := by
  rcases Nat.lt_or_ge k (place l n) with h0 | h0
  · have := place_le l n
    exact absurd (place_lt l n k h0) (hx (by omega))
  · omega

theorem empty_int (w : World) : (w.alloc (.cells #[] 3)).ownsRow w.heap.size 3 1 (.slice (some ⟨w.heap.size, 0, none⟩) 0 0) 0 (vals []) :=
  World.ownsRow_lit w #[] 0 (Nat.le_refl _) (by unfold maxLen; omega) rfl

theorem put_nil (n : Int) (w : World) : Calls Tryz.prog 103 #[.slice none 0 0, .int .i64 n] w fun e w' => ∃ v : Value, e = .returned v ∧ w'.ownsRow w.heap.size 3 1 v 1 (vals [n]) ∧ Below w.heap.size w w' := by
  obtain ⟨i0, hi, hz0, hz1, hz2⟩ := info_parts infoInt
  have hb0 : Below w.heap.size w (w.alloc (.cells #[] 3)) := (Below.refl _ _).alloc (Nat.le_refl _) _
  go_enter Tryz.func103, Tryz.ntmps103
  go_wp2_with fail
  go_loopw [5] (fun k wr => k = .int .i64 0 ∧ wr = w) (fun _ _ => 0)
  case atStart => exact ⟨rfl, rfl⟩
  case round =>
    obtain ⟨rfl, rfl⟩ := hrel
    have hrow := empty_int wr
    go_wp2_with (first
      | (at_builtin; refine wpList_append_own_none rfl _ _ 62 rfl wr.heap.size 3 i0 1 Tryz.underlying62 hi _ _ _ rfl hown4 rfl ?_)
      | (at_builtin; refine wpList_append_own_none rfl _ _ 62 rfl wr.heap.size 3 i0 1 Tryz.underlying62 hi _ _ _ rfl hrow rfl ?_; generalize wr.alloc (.cells #[] 3) = w1 at hrow hb0 ⊢; have hs1 := hb0.size)
      | (at_builtin; refine wpList_append_own _ rfl _ _ 62 rfl wr.heap.size 3 i0 (.int .i64 0) 1 8 Tryz.underlying62 hi hz0 hz1 hz2 rfl (by decide) _ _ _ rfl (hrow.alloc _) ⟨w1.heap.size, 0, none⟩ 1 1 [_] rfl rfl (cell_new1 _ _ _ _) (one_cell1 _ _) (by unfold maxLen; omega) (by omega) (by simp; omega) ?_; intro v' w4 hown4 hg4 _; have hB : Below wr.heap.size wr w4 := (hb0.alloc hb0.size _).grown hg4 (by simp; omega) (fun r hr => by cases hr; exact Nat.le_refl _); clear hg4 hb0))
    go_ret
    exact ⟨_, rfl, hown4, hB⟩

set_option maxHeartbeats 1600000 in
theorem put_some (g cap len : Nat) (l : List Int) (n : Int) (w : World) (h : Sl w (some ⟨g, 0, none⟩) len l) (hcap : len ≤ cap) (hn : len ≤ 1048576) : Calls Tryz.prog 103 #[.slice (some ⟨g, 0, none⟩) len cap, .int .i64 n] w fun e w' =>
    (insL l n = l ∧ e = .returned (.slice (some ⟨g, 0, none⟩) len cap) ∧ w' = w) ∨ ∃ v : Value, e = .returned v ∧ w'.ownsRow w.heap.size 3 1 v (insL l n).length (vals (insL l n)) ∧ Below w.heap.size w w' := by
  obtain ⟨i0, hi, hz0, hz1, hz2⟩ := info_parts infoInt
  have hll := h.1
  have hb0 : Below w.heap.size w (w.alloc (.cells #[] 3)) := (Below.refl _ _).alloc (Nat.le_refl _) _
  have HC : Hid (∀ i, i < len → w.cell? ⟨g, i, none⟩ = some (.int .i64 (l.getD i 0))) := fun i hi' => by
    obtain ⟨b, off, e, hc⟩ := cells_of h (by omega)
    cases e
    have := hc i hi'
    rwa [Nat.zero_add] at this
  have HS : Hid (Sl w (some ⟨g, 0, none⟩) len l) := h
  obtain ⟨P, hP⟩ : ∃ P, insL l n = P := ⟨_, rfl⟩
  rw [hP]
  have HP := (show Hid _ from hP)
  clear hP h
  go_enter Tryz.func103, Tryz.ntmps103
  go_wp2_with fail
  go_loopw [5] (fun k wr => ∃ kn : Nat, kn ≤ len ∧ k = .int .i64 kn ∧ Hid (kn ≤ place l n) ∧ wr = w) (fun k _ => len - (intOf k).toNat)
  case atStart => exact ⟨0, Nat.zero_le _, rfl, Nat.zero_le _, rfl⟩
  case round =>
    obtain ⟨k, hk, rfl, hpl, rfl⟩ := hrel
    have hend : Hid (place l n = k → ¬ (k < l.length ∧ l.getD k 0 = n) → P = l.take k ++ [n] ++ l.drop k) := fun h1 h2 => by
      rw [← HP.out]; unfold insL; rw [h1, if_neg h2]
    by_cases hlt : k < len
    · have c := HC.out k hlt
      have i1 : (k : Int) < len := by omega
      have hnx : l.getD k 0 < n → Hid (k + 1 ≤ place l n) := fun h0 => place_next hpl.out (by omega) h0
      have hst : ¬ l.getD k 0 < n → Hid (place l n = k) := fun h0 => place_stop hpl.out (fun _ => h0)
      have heq : Hid (place l n = k → l.getD k 0 = n → P = l) := fun h1 h2 => by
        rw [← HP.out]; unfold insL; rw [h1, if_pos ⟨by omega, h2⟩]
      generalize l.getD k 0 = x at c hnx hst heq hend
      by_cases hx : x < n
      · have q := hnx hx
        clear hnx hst heq hend
        go_wp2
        go_roundw
        case rel => exact ⟨k + 1, by omega, by go_num, q, (by first | trivial | rfl)⟩
        case measure => simp [intOf]; omega
      · have q := hst hx
        clear hnx hst
        by_cases hxe : x = n
        · subst hxe
          have e := (show Hid _ from heq.out q.out rfl)
          clear heq hend
          go_wp2
          go_ret
          exact .inl ⟨e.out, rfl, rfl⟩
        · have e := (show Hid _ from hend.out q.out (fun h0 => hxe h0.2))
          have hxe' : (x == n) = false := by simpa using hxe
          clear heq hend hxe
          have hA : Hid (∀ j u, (vals (l.take k))[j]? = some u → (wr.alloc (.cells #[] 3)).cell? ((⟨g, 0, none⟩ : Addr).add j) = some u) := by
            have := sl_cells (HS.out.keep hb0) 0 k (by omega)
            rwa [List.drop_zero, Nat.add_zero] at this
          have hD : Hid (∀ W, Below wr.heap.size wr W → ∀ j u, (vals (l.drop k))[j]? = some u → W.cell? ((⟨g, k, none⟩ : Addr).add j) = some u) := fun W hW => by
            have := sl_cells (HS.out.keep hW) k (len - k) (by omega)
            rwa [Nat.zero_add, List.take_of_length_le (by rw [List.length_drop]; omega)] at this
          have lA : (vals (l.take k)).length = k := by rw [vals_len, List.length_take]; omega
          have lD : (vals (l.drop k)).length = len - k := by rw [vals_len, List.length_drop]; omega
          have hPv : Hid (vals P = vals (l.take k) ++ [.int .i64 n] ++ vals (l.drop k) ∧ P.length = len + 1) := by
            rw [e.out]
            refine ⟨by rw [vals_append, vals_append]; rfl, ?_⟩
            simp only [List.length_append, List.length_take, List.length_drop, List.length_cons, List.length_nil]; omega
          have oA := vals_one (l.take k)
          have oD := vals_one (l.drop k)
          have ck : ¬ cap = k := by omega
          have kc : k ≤ cap := by omega
          generalize vals (l.take k) = VA at hA lA hPv oA
          generalize vals (l.drop k) = VD at hD lD hPv oD
          clear e q
          go_wp2_with (first
            | (at_builtin; refine wpList_append_own _ rfl _ _ 62 rfl wr.heap.size 3 i0 (.int .i64 0) 1 8 Tryz.underlying62 hi hz0 hz1 hz2 rfl (by decide) _ _ _ rfl hown3 ⟨g, k, none⟩ (len - k) (cap - k) VD rfl (by omega) (hD.out _ hB3) oD (by unfold maxLen; omega) (by omega) hB3.size ?_; intro v4 w4 hown4 hg4 _; have hB4 : Below wr.heap.size wr w4 := hB3.grown hg4 hB3.size (own_ge hown3); clear hg4 hown3 hB3)
            | (at_builtin; refine wpList_append_own _ rfl _ _ 62 rfl wr.heap.size 3 i0 (.int .i64 0) 1 8 Tryz.underlying62 hi hz0 hz1 hz2 rfl (by decide) _ _ _ rfl (hown2.alloc _) ⟨w2.heap.size, 0, none⟩ 1 1 [_] rfl rfl (cell_new1 _ _ _ _) (one_cell1 _ _) (by unfold maxLen; omega) (by omega) (by simp; omega) ?_; intro v3 w3 hown3 hg3 _; have hB3 : Below wr.heap.size wr w3 := (hB2.alloc hB2.size _).grown hg3 (by simp; omega) (own_ge hown2); clear hg3 hown2 hB2)
            | (at_builtin; refine wpList_append_own _ rfl _ _ 62 rfl wr.heap.size 3 i0 (.int .i64 0) 1 8 Tryz.underlying62 hi hz0 hz1 hz2 rfl (by decide) _ _ _ rfl (empty_int wr) ⟨g, 0, none⟩ k cap VA rfl (by omega) hA.out oA (by unfold maxLen; omega) (by omega) (by simp) ?_; intro v2 w2 hown2 hg2 _; have hB2 : Below wr.heap.size wr w2 := hb0.grown hg2 (by simp) (fun r hr => by cases hr; exact Nat.le_refl _); clear hg2 hb0; have hs2 := hB2.size))
          go_ret
          refine .inr ⟨_, rfl, ?_, hB4⟩
          rw [hPv.out.1, hPv.out.2]
          have : 0 + k + 1 + (len - k) = len + 1 := by omega
          rw [this] at hown4
          simpa [vals] using hown4
    · obtain rfl : k = len := by omega
      have q : Hid (place l n = k) := place_stop hpl.out (fun h0 => by omega)
      have e := (show Hid _ from hend.out q.out (fun h0 => by omega))
      clear hend
      have hA : Hid (∀ j u, (vals l)[j]? = some u → (wr.alloc (.cells #[] 3)).cell? ((⟨g, 0, none⟩ : Addr).add j) = some u) := by
        have := sl_cells (HS.out.keep hb0) 0 k (by omega)
        rwa [List.drop_zero, Nat.add_zero, List.take_of_length_le (by omega)] at this
      have lA : (vals l).length = k := by rw [vals_len]; omega
      have hPv : Hid (vals P = vals l ++ [.int .i64 n] ∧ P.length = k + 1) := by
        rw [e.out, List.take_of_length_le (by omega), List.drop_of_length_le (by omega), List.append_nil]
        exact ⟨vals_append _ _, by simp [hll]⟩
      have oA := vals_one l
      obtain ⟨o, ho⟩ : ∃ o, (if cap = k then some (⟨g, 0, none⟩ : Addr) else some ⟨g, k, none⟩) = some ⟨g, o, none⟩ := by
        by_cases h0 : cap = k
        · exact ⟨0, by rw [if_pos h0]⟩
        · exact ⟨k, by rw [if_neg h0]⟩
      generalize vals l = VA at hA lA hPv oA
      clear e q
      go_wp2_with (first
        | (at_builtin; refine wpList_append_own _ rfl _ _ 62 rfl wr.heap.size 3 i0 (.int .i64 0) 1 8 Tryz.underlying62 hi hz0 hz1 hz2 rfl (by decide) _ _ _ rfl hown3 ⟨g, o, none⟩ 0 (cap - k) [] rfl rfl (fun j u hj => by simp at hj) (fun u hu => by cases hu) (by unfold maxLen; omega) (by omega) hB3.size ?_; intro v4 w4 hown4 hg4 _; have hB4 : Below wr.heap.size wr w4 := hB3.grown hg4 hB3.size (own_ge hown3); clear hg4 hown3 hB3)
        | (at_builtin; refine wpList_append_own _ rfl _ _ 62 rfl wr.heap.size 3 i0 (.int .i64 0) 1 8 Tryz.underlying62 hi hz0 hz1 hz2 rfl (by decide) _ _ _ rfl (hown2.alloc _) ⟨w2.heap.size, 0, none⟩ 1 1 [_] rfl rfl (cell_new1 _ _ _ _) (one_cell1 _ _) (by unfold maxLen; omega) (by omega) (by simp; omega) ?_; intro v3 w3 hown3 hg3 _; have hB3 : Below wr.heap.size wr w3 := (hB2.alloc hB2.size _).grown hg3 (by simp; omega) (own_ge hown2); clear hg3 hown2 hB2)
        | (at_builtin; refine wpList_append_own _ rfl _ _ 62 rfl wr.heap.size 3 i0 (.int .i64 0) 1 8 Tryz.underlying62 hi hz0 hz1 hz2 rfl (by decide) _ _ _ rfl (empty_int wr) ⟨g, 0, none⟩ k cap VA rfl (by omega) hA.out oA (by unfold maxLen; omega) (by omega) (by simp) ?_; intro v2 w2 hown2 hg2 _; have hB2 : Below wr.heap.size wr w2 := hb0.grown hg2 (by simp) (fun r hr => by cases hr; exact Nat.le_refl _); clear hg2 hb0; have hs2 := hB2.size))
      go_ret
      refine .inr ⟨_, rfl, ?_, hB4⟩
      rw [hPv.out.1, hPv.out.2]
      simpa [vals] using hown4
end Go.Proofs.YtkadanagmahhgaaGreatDoor
namespace Go.Proofs.YtkadanagmahhgaaGreatDoor
open Go.ChangeShapes Go.WideShapes Go.ChangeAt Go.RowKit
set_option linter.unusedVariables false

/-- Whatever the row is. -/
theorem putV_any (base : Nat) (v : Value) (len : Nat) (l : List Int) (n : Int) (w : World) (h : w.ownsRow base 3 1 v len (vals l)) (hb : base ≤ w.heap.size) (hn : len ≤ 1048576) :
    Calls Tryz.prog 103 #[v, .int .i64 n] w fun e w' => ∃ v' : Value, e = .returned v' ∧ w'.ownsRow base 3 1 v' (insL l n).length (vals (insL l n)) ∧ Below w.heap.size w w' := by
  have hll : l.length = len := by have := h.1; rw [vals_len] at this; omega
  rcases h.2 with ⟨rfl, rfl⟩ | ⟨g, cap, cur, rfl, hg, hgs, hc, _⟩
  · obtain rfl : l = [] := List.eq_nil_of_length_eq_zero hll
    refine (put_nil n w).mono ?_
    rintro e w' ⟨v', rfl, hown, hb'⟩
    exact ⟨v', rfl, own_base hown hb, hb'⟩
  · obtain ⟨a, cap', e, hs⟩ := Sl.vals h
    cases e
    refine (put_some g cap len l n w hs hc hn).mono ?_
    rintro e w' (⟨hp, rfl, rfl⟩ | ⟨v', rfl, hown, hb'⟩)
    · refine ⟨_, rfl, ?_, Below.refl _ _⟩
      rw [hp, hll]
      exact h
    · exact ⟨v', rfl, own_base hown hb, hb'⟩

theorem insL_len (l : List Int) (n : Int) : (insL l n).length ≤ l.length + 1 := by
  unfold insL
  split
  · omega
  · have := place_le l n
    simp only [List.length_append, List.length_take, List.length_drop, List.length_cons, List.length_nil]; omega
end Go.Proofs.YtkadanagmahhgaaGreatDoor
namespace Go.Proofs.YtkadanagmahhgaaGreatDoor
open Go.ChangeShapes Go.WideShapes Go.ChangeAt Go.RowKit
set_option linter.unusedVariables false

/-- The variables of a list of nodes, ahead of which those of a row stood. -/
def varsF : List (Int × Int) → List Int → List Int
  | [], o => o
  | x :: l, o => if x.1 = 2 then varsF l (insL o x.2) else varsF l o
theorem varsF_drop (l : List (Int × Int)) (k : Nat) (o : List Int) (h : k < l.length) : varsF (l.drop k) o = if (l.getD k (0, 0)).1 = 2 then varsF (l.drop (k + 1)) (insL o (l.getD k (0, 0)).2) else varsF (l.drop (k + 1)) o := by
  have e : l.getD k (0, 0) = l[k] := by rw [List.getD_eq_getElem?_getD, List.getElem?_eq_getElem h]; rfl
  rw [List.drop_eq_getElem_cons h, e]
  rfl

set_option maxHeartbeats 1600000 in
theorem vars_any (a : Option Addr) (len cap : Nat) (l : List (Int × Int)) (w : World) (h : NSl w a len l) (hn : len ≤ 524288) :
    Calls Tryz.prog 61 #[.slice a len cap] w fun e w' => ∃ v : Value, e = .returned v ∧ w'.ownsRow w.heap.size 3 1 v (varsF l []).length (vals (varsF l [])) ∧ Below w.heap.size w w' := by
  have hll := h.1
  have HS : Hid (NSl w a len l) := h
  obtain ⟨O, hO⟩ : ∃ O, varsF l [] = O := ⟨_, rfl⟩
  rw [hO]
  have HO : Hid (varsF (l.drop 0) [] = O) := by rw [List.drop_zero]; exact hO
  clear hO h
  go_enter Tryz.func61, Tryz.ntmps61
  go_wp2_with fail
  go_loopw [3, 8] (fun x i wr => ∃ (k : Nat) (o : List Int), k ≤ len ∧ i = .int .i64 k ∧ o.length ≤ k ∧ wr.ownsRow w.heap.size 3 1 x o.length (vals o) ∧ Hid (varsF (l.drop k) o = O) ∧ Below w.heap.size w wr) (fun _ i _ => len - (intOf i).toNat)
  case atStart => exact ⟨0, [], Nat.zero_le _, rfl, Nat.le_refl _, World.ownsRow_nil _ _ _ _, HO, Below.refl _ _⟩
  case round =>
    obtain ⟨k, o, hk, rfl, hok, hrow, hO, hbr⟩ := hrel
    by_cases hlt : k < len
    · obtain ⟨b, off, rfl, hbl, hc⟩ := HS.out.at (by omega)
      have c1 := (hbr.cell (p := ⟨b, off + k * 2, none⟩) hbl).trans (hc k hlt).1
      have c2 := (hbr.cell (p := ⟨b, off + k * 2 + 1, none⟩) hbl).trans (hc k hlt).2
      have hstep := varsF_drop l k o (by omega)
      rw [hO.out] at hstep
      clear hc hO
      generalize (l.getD k (0, 0)).1 = x at c1 hstep
      generalize (l.getD k (0, 0)).2 = y at c2 hstep
      have hbr' := hbr.alloc hbr.size (.cells #[.int .i64 x, .int .i64 y] 66)
      have hrow' := hrow.alloc (.cells #[.int .i64 x, .int .i64 y] 66)
      by_cases hx : x = 2
      · subst hx
        rw [if_pos rfl] at hstep
        have HN := (show Hid _ from hstep.symm)
        have hl2 := insL_len o y
        have HP := (show Hid _ from putV_any w.heap.size u3 o.length o y _ hrow' hbr'.size (by omega))
        generalize insL o y = o' at HP HN hl2
        clear hstep hrow hrow' hbr
        go_wp2_with fail
        refine Calls.mono HP.out ?_
        rintro e w2 ⟨v', rfl, hown, hb2⟩
        have hB2 := hbr'.trans (hb2.mono hbr'.size)
        clear hb2 hbr' HP
        go_wp2
        go_roundw
        case rel => exact ⟨k + 1, o', by omega, by go_num, by omega, hown, HN, hB2⟩
        case measure => simp [intOf]; omega
      · rw [if_neg hx] at hstep
        have HN := (show Hid _ from hstep.symm)
        have hx2 : (x == 2) = false := by simpa using hx
        clear hstep hrow hbr hx
        go_wp2
        go_roundw
        case rel => exact ⟨k + 1, o, by omega, by go_num, by omega, hrow', HN, hbr'⟩
        case measure => simp [intOf]; omega
    · obtain rfl : k = len := by omega
      have e : o = O := by
        have := hO.out
        rwa [List.drop_of_length_le (by omega)] at this
      subst e
      clear hO HO
      go_wp2
      go_ret
      exact ⟨_, rfl, hrow, hbr⟩

def varsL (l : List (Int × Int)) : List Int := if goodB l = true then varsF l [] else []
end Go.Proofs.YtkadanagmahhgaaGreatDoor
