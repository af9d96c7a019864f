/-
  PROVED HERE: plain facts on the axioms: each is a good rule; and whether a rule is one of them but for names. No condition. whether a rule is one of the twelve that are given, but for names: what the model answers, at every good rule. No other condition.
-/
import Derived.Test.YtkadanagmahhgaaGreatDoorRun18
import Derived.Test.YtkadanagmahhgaaGreatDoorS8Same
namespace Go.Proofs.YtkadanagmahhgaaGreatDoor
open Go.ChangeShapes Go.WideShapes Go.ChangeAt Go.RowKit
set_option linter.unusedVariables false

def axL (k : Nat) : List (Int × Int) := ruleL (axTs.getD k [])
def axR (k : Nat) : List (Int × Int) := ruleR (axTs.getD k [])
theorem ax_all : (List.range 12).all (fun k => ruleB (axL k) (axR k)) = true := by kernel_rfl
theorem ax_good {k : Nat} (h : k < 12) : ruleB (axL k) (axR k) = true := by
  have := List.all_eq_true.1 ax_all k (List.mem_range.2 h)
  exact this
/-- A rule is one of the twelve that are given, by some naming. -/
def knownS (p r : List (Int × Int)) : Bool := (List.range 12).any fun k => sameS p r (axL k) (axR k)
theorem known_yes {p r : List (Int × Int)} {k : Nat} (h : k < 12) (e : sameS p r (axL k) (axR k) = true) : true = knownS p r :=
  (List.any_eq_true.2 ⟨k, List.mem_range.2 h, e⟩).symm
theorem known_no {p r : List (Int × Int)} (h : ∀ k, k < 12 → sameS p r (axL k) (axR k) = false) : false = knownS p r := by
  symm
  refine Bool.eq_false_iff.2 fun ht => ?_
  obtain ⟨k, hk, e⟩ := List.any_eq_true.1 ht
  have := h k (List.mem_range.1 hk)
  rw [this] at e
  cases e
end Go.Proofs.YtkadanagmahhgaaGreatDoor
namespace Go.Proofs.YtkadanagmahhgaaGreatDoor
open Go.ChangeShapes Go.WideShapes Go.ChangeAt Go.RowKit
set_option linter.unusedVariables false

theorem TwoR.reads {w : World} {lo : Nat} {v u : Value} {p q : List (Int × Int)} (h : TwoR w lo v u p q) : ∃ a c b d, v = .slice a p.length c ∧ u = .slice b q.length d ∧ NSl w a p.length p ∧ NSl w b q.length q := by
  obtain ⟨a, c, e1, h1⟩ := NSl.row h.1
  obtain ⟨b, d, e2, h2⟩ := NSl.row h.2.1
  exact ⟨a, c, b, d, e1, e2, h1, h2⟩
set_option maxHeartbeats 3200000 in
set_option maxRecDepth 20000 in
theorem l8Known_any (a b : Option Addr) (n c m d : Nat) (p r : List (Int × Int)) (w : World) (h1 : NSl w a n p) (h2 : NSl w b m r) (hg : ruleB p r = true) :
    Calls Tryz.prog 63 #[.agg #[.slice a n c, .slice b m d]] w fun e w' => e = .returned (.bool (knownS p r)) ∧ Below w.heap.size w w' := by
  obtain ⟨v1, v2⟩ : (VR p ∧ 1 ≤ p.length ∧ p.length ≤ 7) ∧ VR r ∧ 1 ≤ r.length ∧ r.length ≤ 7 := by
    unfold ruleB at hg
    rw [Bool.and_eq_true] at hg
    exact ⟨pat_VR hg.1, pat_VR hg.2⟩
  have hl1 := h1.1
  have hl2 := h2.1
  obtain ⟨W1, hW1⟩ : ∃ W1, w.alloc (.cells #[.slice a n c, .slice b m d] 26) = W1 := ⟨_, rfl⟩
  have hb1 : Below w.heap.size w W1 := by rw [← hW1]; exact (Below.refl _ _).alloc (Nat.le_refl _) _
  have hs1 : w.heap.size < W1.heap.size := by rw [← hW1]; simp
  have n0 : W1.cell? ⟨w.heap.size, 0, none⟩ = some (.slice a n c) := by rw [← hW1]; simp [go_sem]
  have n1 : W1.cell? ⟨w.heap.size, 1, none⟩ = some (.slice b m d) := by rw [← hW1]; simp [go_sem]
  have HF : Hid (∀ W, Below W1.heap.size W1 W → (W.cell? ⟨w.heap.size, 0, none⟩ = some (.slice a n c) ∧ W.cell? ⟨w.heap.size, 1, none⟩ = some (.slice b m d)) ∧ Below w.heap.size w W) := fun W hW => ⟨⟨(hW.cell (p := ⟨w.heap.size, 0, none⟩) hs1).trans n0, (hW.cell (p := ⟨w.heap.size, 1, none⟩) hs1).trans n1⟩, hb1.trans (hW.mono hb1.size)⟩
  have HA : Hid (∀ (k : Nat) W, k < 12 → Calls Tryz.prog 53 #[.int .i64 (k : Int)] W fun e w' => e = .returned (.string ⟨(axTs.getD k []).toArray⟩) ∧ w' = W) := fun k W h => l8Axiom_any k W h
  have HR : Hid (∀ (k : Nat) W, k < 12 → Calls Tryz.prog 105 #[.string ⟨(axTs.getD k []).toArray⟩] W fun e w' => ∃ x cx y cy, e = .returned (.agg #[.slice x (axL k).length cx, .slice y (axR k).length cy]) ∧ NSl w' x (axL k).length (axL k) ∧ NSl w' y (axR k).length (axR k) ∧ Below W.heap.size W w') := fun k W hk => by
    have hsz : (⟨(axTs.getD k []).toArray⟩ : ByteArray).size ≤ 1048576 := by
      have : (axTs.getD k []).length ≤ 100 := by
        rcases (show k = 0 ∨ k = 1 ∨ k = 2 ∨ k = 3 ∨ k = 4 ∨ k = 5 ∨ k = 6 ∨ k = 7 ∨ k = 8 ∨ k = 9 ∨ k = 10 ∨ k = 11 by omega) with rfl | rfl | rfl | rfl | rfl | rfl | rfl | rfl | rfl | rfl | rfl | rfl <;> decide
      have e2 : (axTs.getD k []).toArray.size = (axTs.getD k []).length := by simp
      show (axTs.getD k []).toArray.size ≤ 1048576
      omega
    refine (l8Read_any ⟨(axTs.getD k []).toArray⟩ W hsz).mono fun e w' ⟨v, u, h1, h2, h3⟩ => ?_
    have e1 : (⟨(axTs.getD k []).toArray⟩ : ByteArray).data.toList = axTs.getD k [] := by simp
    rw [e1] at h2
    obtain ⟨x, cx, y, cy, f1, f2, f3, f4⟩ := h2.reads
    subst f1
    subst f2
    exact ⟨x, cx, y, cy, h1, f3, f4, h3⟩
  have HS : Hid (∀ W k x cx y cy, Below W1.heap.size W1 W → k < 12 → NSl W x (axL k).length (axL k) → NSl W y (axR k).length (axR k) → Calls Tryz.prog 104 #[.agg #[.slice a n c, .slice b m d], .agg #[.slice x (axL k).length cx, .slice y (axR k).length cy]] W fun e w' => e = .returned (.bool (sameS p r (axL k) (axR k))) ∧ Below W.heap.size W w') := fun W k x cx y cy hW hk f1 f2 => by
    have hax := ax_good hk
    unfold ruleB at hax
    rw [Bool.and_eq_true] at hax
    have g1 := (pat_VR hax.1).2.2
    have g2 := (pat_VR hax.2).2.2
    exact specNames_any a b x y n c m d _ cx _ cy p r _ _ W ((h1.keep hb1).keep hW) ((h2.keep hb1).keep hW) f1 f2 v1.1 v2.1 (by omega) (by omega) (by omega) (by omega)
  have HY : Hid (∀ k, k < 12 → sameS p r (axL k) (axR k) = true → true = knownS p r) := fun k h e => known_yes h e
  have HN : Hid ((∀ k, k < 12 → sameS p r (axL k) (axR k) = false) → false = knownS p r) := known_no
  generalize knownS p r = R at HY HN ⊢
  clear h1 h2 hb1 v1 v2 hl1 hl2 hg hs1
  go_enter Tryz.func63, Tryz.ntmps63
  go_wp2_with fail
  (try rw [hW1])
  go_loopw [3] (fun x wr => ∃ (k : Nat), k ≤ 12 ∧ x = .int .i64 k ∧ Hid ((∀ j, j < k → sameS p r (axL j) (axR j) = false) ∧ Below W1.heap.size W1 wr)) (fun x _ => 12 - (intOf x).toNat)
  case atStart => exact ⟨0, Nat.zero_le _, rfl, fun j hj => absurd hj (Nat.not_lt_zero _), Below.refl _ _⟩
  case round =>
    obtain ⟨k, hk, rfl, hR⟩ := hrel
    clear hW1 n0 n1
    by_cases hlt : k < 12
    · have hkl : (k : Int) < 12 := by omega
      have hD : Below W1.heap.size W1 wr.drew := hR.out.2.drew
      obtain ⟨⟨z0, z1⟩, -⟩ := HF.out _ hD
      have H10 := (show Hid _ from HA.out k wr.drew hlt)
      have H11 := (show Hid _ from HR.out k wr.drew hlt)
      by_cases hE : sameS p r (axL k) (axR k) = true
      · have hY := HY.out k hlt hE
        subst hY
        clear HY HN
        go_wp2_with fail
        go_region_with (first
          | (go_at_call 53; refine Calls.mono H10.out ?_; rintro e v5 ⟨rfl, rfl⟩; clear H10)
          | (go_at_call 105; refine Calls.mono H11.out ?_; rintro e v6 ⟨x, cx, y, cy, rfl, f1, f2, hb6⟩; have hB6 := hD.trans (hb6.mono hD.size); obtain ⟨⟨x0, x1⟩, -⟩ := HF.out _ hB6; have H12 := (show Hid _ from HS.out v6 k x cx y cy hB6 hlt f1 f2); rw [hE] at H12; clear H11 f1 f2)
          | (go_at_call 104; refine Calls.mono H12.out ?_; rintro e v7 ⟨rfl, hb7⟩; have HB7 : Hid (Below w.heap.size w v7) := (HF.out _ (hB6.trans (hb7.mono hB6.size))).2; clear H12))
        all_goals
          go_wp2
          go_ret
          exact ⟨rfl, HB7.out⟩
      · rw [Bool.not_eq_true] at hE
        have HJ : Hid (∀ j, j < k + 1 → sameS p r (axL j) (axR j) = false) := fun j hj => by
          by_cases e : j = k
          · rw [e]; exact hE
          · exact hR.out.1 j (by omega)
        clear HY HN hR
        go_wp2_with fail
        go_region_with (first
          | (go_at_call 53; refine Calls.mono H10.out ?_; rintro e v5 ⟨rfl, rfl⟩; clear H10)
          | (go_at_call 105; refine Calls.mono H11.out ?_; rintro e v6 ⟨x, cx, y, cy, rfl, f1, f2, hb6⟩; have hB6 := hD.trans (hb6.mono hD.size); obtain ⟨⟨x0, x1⟩, -⟩ := HF.out _ hB6; have H12 := (show Hid _ from HS.out v6 k x cx y cy hB6 hlt f1 f2); rw [hE] at H12; clear H11 f1 f2)
          | (go_at_call 104; refine Calls.mono H12.out ?_; rintro e v7 ⟨rfl, hb7⟩; have HB7 : Hid (Below W1.heap.size W1 v7) := hB6.trans (hb7.mono hB6.size); clear H12))
        all_goals
          go_wp2
          exact ⟨⟨k + 1, by omega, by go_num, HJ.out, HB7.out⟩, by simp [intOf]; omega⟩
    · obtain rfl : k = 12 := by omega
      have hN := HN.out hR.out.1
      subst hN
      have HB := (show Hid _ from (HF.out _ hR.out.2).2)
      clear hR
      go_wp2
      go_ret
      exact ⟨rfl, HB.out⟩

end Go.Proofs.YtkadanagmahhgaaGreatDoor
