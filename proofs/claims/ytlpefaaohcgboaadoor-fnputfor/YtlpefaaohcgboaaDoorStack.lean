/-
  PROVED HERE: plain facts on what terms come to: node by node on a pile of values, parts, terms put for variables. No condition.
-/
import Derived.Test.YtlpefaaohcgboaaDoorEvalDefs
import Derived.Test.YtlpefaaohcgboaaDoorIFirst
import Derived.Test.YtlpefaaohcgboaaDoorITree
namespace Go.Proofs.YtlpefaaohcgboaaDoor
set_option linter.unusedVariables false

/-- All of some values, if none of them has trapped. -/
def seqV : List (Option Int) → Option (List Int)
  | [] => some []
  | none :: _ => none
  | some v :: r => match seqV r with
    | none => none
    | some vs => some (v :: vs)
theorem seqO_map (g : Nat → Option Int) : ∀ rs, seqO g rs = seqV (rs.map g)
  | [] => rfl
  | r :: rs => by
    rw [seqO, List.map_cons, seqO_map g rs]
    cases g r <;> rfl
/-- What a node makes of the values of its parts. -/
def opO (g : Nat → Option Int) (x : Int × Int) (vs : List (Option Int)) : Option Int :=
  if x.1 = 1 then some x.2 else if x.1 = 2 then g x.2.toNat
  else if x.1 = 11 then ifO (vs.getD 0 none) (vs.getD 1 none) (vs.getD 2 none)
  else allO x.1 (seqV vs)
/-- What the tree of node k comes to where a variable may have trapped. -/
def evalG (l : List (Int × Int)) (g : Nat → Option Int) : Nat → Nat → Option Int
  | 0, _ => none
  | f + 1, k => opO g (l.getD k (0, 0)) ((roots l (ar (l.getD k (0, 0)).1).toNat k).map (evalG l g f))
def envO (env : List Int) (i : Nat) : Option Int := some (env.getD i 0)
theorem map_getD (h : Nat → Option Int) (R : List Nat) (i : Nat) (hi : i < R.length) : (R.map h).getD i none = h (R.getD i 0) := by
  simp [List.getD_eq_getElem?_getD, List.getElem?_map, List.getElem?_eq_getElem hi]
theorem evalF_G (l : List (Int × Int)) (env : List Int) : ∀ f k, evalF l env f k = evalG l (envO env) f k
  | 0, _ => rfl
  | f + 1, k => by
    have ih : evalG l (envO env) f = evalF l env f := funext fun k => (evalF_G l env f k).symm
    unfold evalF evalG opO
    rw [ih]
    split
    · rfl
    · split
      · rfl
      · split
        · next h =>
          rw [h, show (ar 11).toNat = 3 from rfl]
          have hl := roots_len l 3 k
          rw [map_getD _ _ 0 (by omega), map_getD _ _ 1 (by omega), map_getD _ _ 2 (by omega)]
        · rw [seqO_map]
def val (l : List (Int × Int)) (g : Nat → Option Int) (k : Nat) : Option Int := evalG l g (k + 1) k
theorem evalG_fuel {l : List (Int × Int)} {q : Int} (h : pile l 0 = some q) (g : Nat → Option Int) : ∀ K k, k ≤ K → k < l.length → ∀ f, k < f → evalG l g f k = val l g k := by
  intro K
  induction K with
  | zero =>
    intro k hk hl f hf
    obtain ⟨f, rfl⟩ : ∃ x, f = x + 1 := ⟨f - 1, by omega⟩
    obtain ⟨h1, h2⟩ := cnt_step h k hl
    obtain ⟨a1, a2, _⟩ := fits_iff _ _ _ _ h1
    obtain rfl : k = 0 := by omega
    rw [cnt_zero] at a2
    show opO _ _ _ = opO _ _ _
    rw [show (ar (l.getD 0 (0, 0)).1).toNat = 0 from by omega]
    rfl
  | succ K ih =>
    intro k hk hl f hf
    obtain ⟨f, rfl⟩ : ∃ x, f = x + 1 := ⟨f - 1, by omega⟩
    obtain ⟨h1, h2⟩ := cnt_step h k hl
    obtain ⟨a1, a2, _⟩ := fits_iff _ _ _ _ h1
    show opO g _ ((roots l _ k).map (evalG l g f)) = opO g _ ((roots l _ k).map (evalG l g k))
    congr 1
    refine List.map_congr_left fun r hr => ?_
    have hrk := roots_lt h _ k (by omega) (by omega) r hr
    rw [ih r (by omega) (by omega) f (by omega), ih r (by omega) (by omega) k (by omega)]
theorem val_eq {l : List (Int × Int)} {q : Int} (h : pile l 0 = some q) (g : Nat → Option Int) (k : Nat) (hk : k < l.length) : val l g k = opO g (l.getD k (0, 0)) ((roots l (ar (l.getD k (0, 0)).1).toNat k).map (val l g)) := by
  obtain ⟨h1, h2⟩ := cnt_step h k hk
  obtain ⟨a1, a2, _⟩ := fits_iff _ _ _ _ h1
  show opO g _ ((roots l _ k).map (evalG l g k)) = _
  congr 1
  refine List.map_congr_left fun r hr => ?_
  have hrk := roots_lt h _ k (by omega) (by omega) r hr
  exact evalG_fuel h g r r (Nat.le_refl _) (by omega) k hrk
theorem evalT_val (l : List (Int × Int)) (env : List Int) (h : 1 ≤ l.length) : evalT l env = val l (envO env) (l.length - 1) := by
  unfold evalT val
  rw [evalF_G, show l.length - 1 + 1 = l.length from by omega]

/-- One node on a pile of values. -/
def pushS (g : Nat → Option Int) (st : List (Option Int)) (x : Int × Int) : List (Option Int) := opO g x ((st.take (ar x.1).toNat).reverse) :: st.drop (ar x.1).toNat
def runS (g : Nat → Option Int) (l : List (Int × Int)) (st : List (Option Int)) : List (Option Int) := l.foldl (pushS g) st
theorem runS_append (g : Nat → Option Int) (a b : List (Int × Int)) (st : List (Option Int)) : runS g (a ++ b) st = runS g b (runS g a st) := List.foldl_append
def seg (l : List (Int × Int)) (a b : Nat) : List (Int × Int) := (l.drop a).take (b - a)
theorem seg_append (l : List (Int × Int)) (a b c : Nat) (h1 : a ≤ b) (h2 : b ≤ c) : seg l a c = seg l a b ++ seg l b c := by
  unfold seg
  have e : c - a = (b - a) + (c - b) := by omega
  rw [e, List.take_add, List.drop_drop, show a + (b - a) = b from by omega]
theorem seg_self (l : List (Int × Int)) (a : Nat) : seg l a a = [] := by unfold seg; rw [Nat.sub_self]; rfl
theorem seg_one (l : List (Int × Int)) (k : Nat) (h : k < l.length) : seg l k (k + 1) = [l.getD k (0, 0)] := by
  unfold seg
  have e : l.getD k (0, 0) = l[k] := by rw [List.getD_eq_getElem?_getD, List.getElem?_eq_getElem h]; rfl
  rw [show k + 1 - k = 1 from by omega, List.drop_eq_getElem_cons h, e]
  rfl
theorem pile_append (b : List (Int × Int)) : ∀ (a : List (Int × Int)) (p : Int), pile (a ++ b) p = (pile a p).bind fun q => pile b q
  | [], p => rfl
  | (op, n) :: a, p => by
    simp only [List.cons_append, pile]
    split
    · exact pile_append b a _
    · rfl

theorem fits_up {m p p' op n : Int} (h : fits m p op n = true) (hp : m ≤ p') : fits m p' op n = true := by
  have : ¬ p' < m := by omega
  simp only [fits, Bool.not_eq_true', Bool.or_eq_false_iff] at h ⊢
  exact ⟨⟨⟨h.1.1.1, decide_eq_false this⟩, h.1.2⟩, h.2⟩
theorem runs {l : List (Int × Int)} {q : Int} (h : pile l 0 = some q) (g : Nat → Option Int) : ∀ K,
    (∀ k, k < K → k < l.length → ∀ st (p : Int), 0 ≤ p → runS g (seg l (start l k) (k + 1)) st = val l g k :: st ∧ pile (seg l (start l k) (k + 1)) p = some (p + 1)) := by
  intro K
  induction K with
  | zero => intro k hk; omega
  | succ K ih =>
    have forest : ∀ (m x : Nat), x ≤ K → x ≤ l.length → (m : Int) ≤ cnt l x → ∀ st (p : Int), 0 ≤ p → runS g (seg l (back l m x) x) st = ((roots l m x).map (val l g)).reverse ++ st ∧ pile (seg l (back l m x) x) p = some (p + m) := by
      intro m
      induction m with
      | zero =>
        intro x _ _ _ st p hp
        show runS g (seg l x x) st = _ ∧ pile (seg l x x) p = _
        rw [seg_self]
        exact ⟨rfl, by simp [pile]⟩
      | succ m ihm =>
        intro x hx hxl hm st p hp
        have hx0 : 0 < x := by
          rcases Nat.eq_zero_or_pos x with h0 | h0
          · subst h0; rw [cnt_zero] at hm; omega
          · exact h0
        have b1 := start_le h (x - 1) (by omega)
        have b2 := start_cnt h (x - 1) (by omega)
        rw [show x - 1 + 1 = x from by omega] at b2
        have b3 := back_le h m (start l (x - 1)) (by omega) (by omega)
        rw [back_succ, seg_append l _ (start l (x - 1)) x b3.1 (by omega)]
        have f1 := ihm (start l (x - 1)) (by omega) (by omega) (by omega) st p hp
        have t1 := ih (x - 1) (by omega) (by omega) (((roots l m (start l (x - 1))).map (val l g)).reverse ++ st) (p + m) (by omega)
        rw [show x - 1 + 1 = x from by omega] at t1
        rw [runS_append, f1.1, t1.1, pile_append, f1.2]
        refine ⟨?_, ?_⟩
        · show _ = ((roots l m (start l (x - 1)) ++ [x - 1]).map (val l g)).reverse ++ st
          simp
        · show pile _ (p + m) = _
          rw [t1.2]
          congr 1
          omega
    intro k hk hl st p hp
    by_cases hkK : k < K
    · exact ih k hkK hl st p hp
    obtain rfl : k = K := by omega
    obtain ⟨h1, h2⟩ := cnt_step h k hl
    obtain ⟨a1, a2, a3, a4⟩ := fits_iff _ _ _ _ h1
    obtain ⟨m, hm⟩ : ∃ m : Nat, ar (l.getD k (0, 0)).1 = m := ⟨(ar (l.getD k (0, 0)).1).toNat, by omega⟩
    have hst := start_eq h k hl
    rw [hm, Int.toNat_natCast] at hst
    have b3 := back_le h m k (by omega) (by omega)
    have f1 := forest m k (Nat.le_refl _) (by omega) (by omega) st p hp
    rw [hst, seg_append l _ k (k + 1) b3.1 (by omega), seg_one l k hl, runS_append, f1.1, pile_append, f1.2]
    refine ⟨?_, ?_⟩
    · show [_].foldl (pushS g) _ = _
      simp only [List.foldl_cons, List.foldl_nil, pushS]
      rw [val_eq h g k hl, hm, Int.toNat_natCast]
      have hlen : (((roots l m k).map (val l g)).reverse).length = m := by rw [List.length_reverse, List.length_map, roots_len]
      rw [List.take_left' hlen, List.drop_left' hlen, List.reverse_reverse]
    · show pile [l.getD k (0, 0)] (p + m) = _
      have hf := fits_up h1 (show ar (l.getD k (0, 0)).1 ≤ p + m by omega)
      clear h1 h2 a1 a2 a3 a4
      generalize l.getD k (0, 0) = x at hf hm ⊢
      obtain ⟨op, n⟩ := x
      simp only [pile]
      simp only at hf hm
      rw [if_pos hf, hm]
      congr 1
      omega

theorem cnt_pos {l : List (Int × Int)} {q : Int} (h : pile l 0 = some q) (k : Nat) (h0 : 0 < k) (hk : k ≤ l.length) : 1 ≤ cnt l k := by
  obtain ⟨k, rfl⟩ : ∃ x, k = x + 1 := ⟨k - 1, by omega⟩
  obtain ⟨h1, h2⟩ := cnt_step h k (by omega)
  obtain ⟨a1, a2, _⟩ := fits_iff _ _ _ _ h1
  omega
theorem start_root {l : List (Int × Int)} (h : pile l 0 = some 1) (h1 : 1 ≤ l.length) : start l (l.length - 1) = 0 := by
  have e := start_cnt h (l.length - 1) (by omega)
  rw [show l.length - 1 + 1 = l.length from by omega] at e
  have hc : cnt l l.length = 1 := by unfold cnt; rw [List.take_of_length_le (Nat.le_refl _), h]; rfl
  have hle := start_le h (l.length - 1) (by omega)
  rcases Nat.eq_zero_or_pos (start l (l.length - 1)) with h0 | h0
  · exact h0
  · have := cnt_pos h _ h0 (by omega)
    omega
theorem seg_all (l : List (Int × Int)) : seg l 0 l.length = l := by
  unfold seg
  rw [List.drop_zero, Nat.sub_zero, List.take_of_length_le (Nat.le_refl _)]
/-- A good term on a pile of values leaves one more there. -/
theorem good_run {l : List (Int × Int)} (hg : goodB l = true) (g : Nat → Option Int) (st : List (Option Int)) : runS g l st = val l g (l.length - 1) :: st := by
  obtain ⟨h, h1, _⟩ := good_pile hg
  have := (runs h g l.length (l.length - 1) (by omega) (by omega) st 0 (Int.le_refl _)).1
  rwa [start_root h h1, show l.length - 1 + 1 = l.length from by omega, seg_all] at this
/-- A part of a good term is good. -/
theorem part_good {l : List (Int × Int)} (hg : goodB l = true) (k : Nat) (hk : k < l.length) : goodB (seg l (start l k) (k + 1)) = true := by
  obtain ⟨h, h1, h2⟩ := good_pile hg
  have hs := start_le h k hk
  have hp := (runs h (fun _ => none) (k + 1) k (by omega) hk [] 0 (Int.le_refl _)).2
  have hl : (seg l (start l k) (k + 1)).length = k + 1 - start l k := by unfold seg; rw [List.length_take, List.length_drop]; omega
  unfold goodB
  rw [hp, hl, decide_eq_true ⟨by omega, by omega⟩]
  rfl
/-- What a part comes to in its own right is what it comes to in the term. -/
theorem part_val {l : List (Int × Int)} (hg : goodB l = true) (g : Nat → Option Int) (k : Nat) (hk : k < l.length) : val (seg l (start l k) (k + 1)) g ((seg l (start l k) (k + 1)).length - 1) = val l g k := by
  obtain ⟨h, h1, h2⟩ := good_pile hg
  have a := good_run (part_good hg k hk) g []
  rw [(runs h g (k + 1) k (by omega) hk [] 0 (Int.le_refl _)).1] at a
  exact (List.cons.inj a).1.symm
/-- A part replaced by what comes to the same. -/
theorem replaced_val {l u : List (Int × Int)} (hg : goodB l = true) (hu : goodB u = true) (k : Nat) (hk : k < l.length) (g : Nat → Option Int) (hr : goodB (l.take (start l k) ++ u ++ l.drop (k + 1)) = true) (he : val u g (u.length - 1) = val l g k) :
    val (l.take (start l k) ++ u ++ l.drop (k + 1)) g ((l.take (start l k) ++ u ++ l.drop (k + 1)).length - 1) = val l g (l.length - 1) := by
  obtain ⟨h, h1, h2⟩ := good_pile hg
  have hs := start_le h k hk
  have a := good_run hr g []
  have b := good_run hg g []
  have e : l = l.take (start l k) ++ seg l (start l k) (k + 1) ++ l.drop (k + 1) := by
    have e1 := seg_append l 0 (start l k) (k + 1) (by omega) (by omega)
    have e2 : seg l 0 (k + 1) = l.take (k + 1) := by unfold seg; rw [List.drop_zero, Nat.sub_zero]
    have e3 : seg l 0 (start l k) = l.take (start l k) := by unfold seg; rw [List.drop_zero, Nat.sub_zero]
    rw [e2, e3] at e1
    rw [← e1, List.take_append_drop]
  have hb : runS g l [] = runS g (l.drop (k + 1)) (val l g k :: runS g (l.take (start l k)) []) := by
    conv => lhs; rw [e]
    rw [runS_append, runS_append, (runs h g (k + 1) k (by omega) hk _ 0 (Int.le_refl _)).1]
  rw [runS_append, runS_append, good_run hu g, he, ← hb, b] at a
  exact (List.cons.inj a).1.symm
theorem replaced_same {l : List (Int × Int)} (hg : goodB l = true) (k : Nat) (hk : k < l.length) : l.take (start l k) ++ seg l (start l k) (k + 1) ++ l.drop (k + 1) = l := by
  obtain ⟨h, h1, h2⟩ := good_pile hg
  have hs := start_le h k hk
  have e1 := seg_append l 0 (start l k) (k + 1) (by omega) (by omega)
  have e2 : seg l 0 (k + 1) = l.take (k + 1) := by unfold seg; rw [List.drop_zero, Nat.sub_zero]
  have e3 : seg l 0 (start l k) = l.take (start l k) := by unfold seg; rw [List.drop_zero, Nat.sub_zero]
  rw [e2, e3] at e1
  rw [← e1, List.take_append_drop]
end Go.Proofs.YtlpefaaohcgboaaDoor
