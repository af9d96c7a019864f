/-
  PROVED HERE: which sum of products the program makes of the tree of a ring term, in a world whose table of arities is laid. No other condition.
-/
import Derived.Test.YtpjgjpjfchfmlaaDoorIPolyVar
import Derived.Test.YtpjgjpjfchfmlaaDoorRing
namespace Go.Proofs.YtpjgjpjfchfmlaaDoor
open Go.ChangeShapes Go.WideShapes Go.ChangeAt Go.RowKit
set_option linter.unusedVariables false

theorem vars4 {l : List (Int × Int)} {q : Int} (h : pile l 0 = some q) : ∀ j, (l.getD j (0, 0)).1 = 2 → (l.getD j (0, 0)).2.toNat < 4 := fun j h2 => by
  by_cases hj : j < l.length
  · obtain ⟨_, _, a3, _⟩ := fits_iff _ _ _ _ (cnt_step h j hj).1
    have := a3 h2
    omega
  · rw [List.getD_eq_getElem?_getD, List.getElem?_eq_none (by omega)] at h2
    cases h2
theorem ring_ops {l : List (Int × Int)} (hr : ringB l = true) {k : Nat} (hk : k < l.length) : (l.getD k (0, 0)).1 ≤ 6 ∨ ((l.getD k (0, 0)).1 = 7 ∧ (l.getD (k - 1) (0, 0)).1 = 1) := by
  unfold ringB at hr
  rw [List.all_eq_true] at hr
  have := hr k (List.mem_range.2 hk)
  unfold ringAt at this
  by_cases h7 : (l.getD k (0, 0)).1 = 7
  · rw [if_pos h7] at this; exact .inr ⟨h7, of_decide_eq_true this⟩
  · rw [if_neg h7] at this; exact .inl (of_decide_eq_true this)
theorem polyTree_any {l : List (Int × Int)} {q : Int} (h : pile l 0 = some q) (hr : ringB l = true) (hI : ∀ k, InI (l.getD k (0, 0)).2) (ok : Nat → Prop) : ∀ (f k : Nat) (v : Value) (W : World), k < l.length → IsTree W ok l f k v → Tab W → HasSum W v (ofF l f k)
  | 0, _, _, _, _, ht, _ => ht.elim
  | f + 1, k, v, W, hk, ht, hT => by
    intro W' hb
    have good := fun k p => ofF_good (fun k _ => hI k) (vars4 h) f k p
    have hro := ring_ops hr hk
    obtain ⟨h1, h2⟩ := cnt_step h k hk
    obtain ⟨a1, a2, a3, _⟩ := fits_iff _ _ _ _ h1
    have IH := fun k v W hk ht hT => polyTree_any h hr hI ok f k v W hk ht hT
    rcases ht with ⟨h0, rfl⟩ | ⟨h0, rfl⟩ | ⟨h0, v0, v1, v2, rfl, t0, t1, t2⟩ | ⟨h0, h0', g, cap, vs, rfl, hok, hg, hc⟩
    · have e : ofF l (f + 1) k = some (numP (l.getD k (0, 0)).2) := by unfold ofF; rw [if_pos h0]
      rw [e]
      exact ofNum _ (hI k) W'
    · obtain ⟨n0, n4⟩ := a3 h0
      have e : ofF l (f + 1) k = some (varP (l.getD k (0, 0)).2.toNat) := by unfold ofF; rw [if_neg (by omega), if_pos h0]
      rw [e]
      obtain ⟨n, hn⟩ := Int.eq_ofNat_of_zero_le n0
      rw [hn, Int.toNat_natCast]
      exact ofVar n (by omega) W'
    · omega
    · obtain ⟨m, hm⟩ : ∃ m : Nat, ar (l.getD k (0, 0)).1 = m := ⟨(ar (l.getD k (0, 0)).1).toNat, by omega⟩
      rw [hm, Int.toNat_natCast] at hc
      rw [hm, Int.toNat_natCast]
      have hrt : ∀ i, i < m → (roots l m k).getD i 0 < l.length := fun i hi => by
        have := getD_lt (roots l m k) k i (roots_lt h m k (by omega) (by omega)) (by rw [roots_len]; exact hi)
        omega
      refine ofOp _ _ _ _ _ W' (fun W1 hb1 => ?_)
      have hbW := hb.trans (hb1.mono hb.size)
      have S : ∀ i, i < m → HasSum W1 (vs i) (ofF l f ((roots l m k).getD i 0)) := fun i hi => IH _ _ W1 (hrt i hi) ((hc i hi).2.keep hbW) (hT.keeps hbW)
      have cc : ∀ i, i < m → W1.cell? ⟨g, i, none⟩ = some (vs i) := fun i hi => (hbW.cell (p := ⟨g, i, none⟩) hg).trans (hc i hi).1
      have fm : ∀ i, i < m → ∃ t x, vs i = .iface t x := fun i hi => (hc i hi).2.form
      have hsh : (l.getD k (0, 0)).1 = 7 → vs 1 = .iface 64 (.agg #[.int .i64 (l.getD (k - 1) (0, 0)).2]) := fun h7 => by
        have hm2 : m = 2 := by rw [h7] at hm; have e0 : ar 7 = 2 := rfl; omega
        subst hm2
        have ht1 := (hc 1 (by omega)).2
        have er : (roots l 2 k).getD 1 0 = k - 1 := by
          show ((roots l 0 _ ++ [_]) ++ [k - 1]).getD 1 0 = k - 1
          rfl
        rw [er] at ht1
        have hn1 : (l.getD (k - 1) (0, 0)).1 = 1 := by rcases hro with h6 | h7'; omega; exact h7'.2
        cases f with
        | zero => exact ht1.elim
        | succ f =>
          rcases ht1 with ⟨_, e⟩ | ⟨z, _⟩ | ⟨z, _⟩ | ⟨z, _⟩
          · exact e
          · omega
          · omega
          · omega
      have e : ofF l (f + 1) k = match ofF l f ((roots l m k).getD 0 0) with
          | none => none
          | some p =>
            if (l.getD k (0, 0)).1 = 3 then okP (mulP p (numP (-1)))
            else if (l.getD k (0, 0)).1 = 7 then okP (mulP p (numP (shlN (l.getD (k - 1) (0, 0)).2)))
            else match ofF l f ((roots l m k).getD 1 0) with
              | none => none
              | some q => okP (twoP (l.getD k (0, 0)).1 p q) := by
        show (if _ then _ else _) = _
        rw [if_neg (by omega), if_neg (by omega), hm, Int.toNat_natCast]
        cases ofF l f ((roots l m k).getD 0 0) with
        | none => rfl
        | some p =>
          cases ofF l f ((roots l m k).getD 1 0) with
          | none => rfl
          | some q => rfl
      rw [e]
      generalize hop : (l.getD k (0, 0)).1 = op at *
      have hm1 : 1 ≤ m := by
        rcases hro with h6 | h7
        · have : op = 3 ∨ op = 4 ∨ op = 5 ∨ op = 6 := by omega
          rcases this with rfl | rfl | rfl | rfl
          · have e0 : ar 3 = 1 := rfl; omega
          · have e0 : ar 4 = 2 := rfl; omega
          · have e0 : ar 5 = 2 := rfl; omega
          · have e0 : ar 6 = 2 := rfl; omega
        · obtain ⟨rfl, _⟩ := h7
          have e0 : ar 7 = 2 := rfl
          omega
      obtain ⟨t0, x0, e0⟩ := fm 0 (by omega)
      have s0 := S 0 (by omega)
      have c0 := cc 0 (by omega)
      rw [e0] at s0 c0
      cases hq0 : ofF l f ((roots l m k).getD 0 0) with
      | none =>
        rw [hq0] at s0
        exact opNone op m g cap W1 t0 x0 hm1 c0 s0
      | some p =>
        rw [hq0] at s0
        have gp := good _ _ hq0
        simp only
        by_cases h3 : op = 3
        · rw [if_pos h3]
          subst h3
          obtain rfl : m = 1 := by have e0 : ar 3 = 1 := rfl; omega
          exact opNeg g cap W1 t0 x0 p c0 s0 gp
        · rw [if_neg h3]
          by_cases h7 : op = 7
          · rw [if_pos h7]
            have hs := hsh h7
            subst h7
            obtain rfl : m = 2 := by have e0 : ar 7 = 2 := rfl; omega
            have c1 := cc 1 (by omega)
            rw [hs] at c1
            exact opShl g cap W1 (hT.keeps hbW) t0 x0 _ p c0 c1 s0 gp
          · rw [if_neg h7]
            have hop4 : op = 4 ∨ op = 5 ∨ op = 6 := by omega
            obtain rfl : m = 2 := by
              rcases hop4 with rfl | rfl | rfl
              · have e0 : ar 4 = 2 := rfl; omega
              · have e0 : ar 5 = 2 := rfl; omega
              · have e0 : ar 6 = 2 := rfl; omega
            obtain ⟨t1, x1, e1⟩ := fm 1 (by omega)
            have s1 := S 1 (by omega)
            have c1 := cc 1 (by omega)
            rw [e1] at s1 c1
            cases hq1 : ofF l f ((roots l 2 k).getD 1 0) with
            | none =>
              rw [hq1] at s1
              exact opPairNone op hop4 g cap W1 t0 t1 x0 x1 p c0 c1 s0 s1
            | some q0 =>
              rw [hq1] at s1
              exact opPair op hop4 g cap W1 t0 t1 x0 x1 p q0 c0 c1 s0 s1 gp (good _ _ hq1)
end Go.Proofs.YtpjgjpjfchfmlaaDoor
