/-
  PROVED HERE: what the model's l10Node answers, at every node whose kids lie within the costs. No other condition. plain facts on what stays where memory grows or one block is written. No condition.
-/
import Derived.Test.YtmbggaepckgogaaDoorRun9
import Derived.Test.YtmbggaepckgogaaDoorRun12
import Derived.Test.YtmbggaepckgogaaDoorRun3
namespace Go.Proofs.YtmbggaepckgogaaDoor
open Go.ChangeShapes Go.WideShapes Go.ChangeAt Go.RowKit
set_option linter.unusedVariables false

theorem runM_drop (m ks : List Int) (k : Nat) (s : Int) (h : k < ks.length) : runM m (ks.drop k) s = if m.getD (ks.getD k 0).toNat 0 < 0 then -1 else runM m (ks.drop (k + 1)) (min (s + m.getD (ks.getD k 0).toNat 0) topC) := by
  rw [List.drop_eq_getElem_cons h, getI_lt h]
  rfl
set_option maxHeartbeats 3200000 in
set_option maxRecDepth 20000 in
theorem l10Node_any (xo xn : Int) (ka : Option Addr) (kl kc : Nat) (ks : List Int) (b : Option Addr) (lb cb : Nat) (m : List Int) (w : World) (hk : Sl w ka kl ks) (hm : Sl w b lb m) (hin : InM m lb) (hks : ∀ j, j < kl → ∃ z : Nat, ks.getD j 0 = z ∧ z < lb) (h3 : kl ≤ 1000) (hlb : lb ≤ 1000) :
    Calls Tryd.prog 49 #[.agg #[.int .i64 xo, .int .i64 xn, .slice ka kl kc], .slice b lb cb] w fun e w' => e = .returned (.int .i64 (nodeM m (xo, xn, ks))) ∧ Below w.heap.size w w' := by
  obtain ⟨W1, hW1⟩ : ∃ W1, w.alloc (.cells #[.int .i64 xo, .int .i64 xn, .slice ka kl kc] 74) = W1 := ⟨_, rfl⟩
  have hb1 : Below w.heap.size w W1 := by rw [← hW1]; exact (Below.refl _ _).alloc (Nat.le_refl _) _
  have n0 : W1.cell? ⟨w.heap.size, 0, none⟩ = some (.int .i64 xo) := by rw [← hW1]; simp [go_sem]
  have n2 : W1.cell? ⟨w.heap.size, 2, none⟩ = some (.slice ka kl kc) := by rw [← hW1]; simp [go_sem]
  have hkl := hk.1
  have hml := hm.1
  have HC : Hid (∀ W, Calls Tryd.prog 65 #[.int .i64 xo] W fun e w' => e = .returned (.int .i64 (cst xo)) ∧ w' = W) := fun W => l10Op_any xo W
  have hc := cst_pos xo
  have HG : Hid (runM m ks (cst xo) = nodeM m (xo, xn, ks)) := rfl
  generalize nodeM m (xo, xn, ks) = R at HG ⊢
  generalize cst xo = C at HC hc HG
  have hk1 := hk.keep hb1
  have hm1 := hm.keep hb1
  have HB1 : Hid (Below w.heap.size w W1) := hb1
  have ht20 : (20 : Int) ≤ topC := by simp [topC]
  clear hk hm hb1
  go_enter Tryd.func49, Tryd.ntmps49
  go_wp2_with (go_at_call 65; refine Calls.mono (HC.out _) ?_; rintro e w2 ⟨rfl, rfl⟩)
  go_loopw [5, 14] (fun x i wr => w2 = wr ∧ ∃ (k : Nat) (S : Int), k ≤ kl ∧ i = .int .i64 k ∧ x = .int .i64 S ∧ 0 ≤ S ∧ S ≤ topC ∧ Hid (runM m (ks.drop k) S = R)) (fun _ i _ => kl - (intOf i).toNat)
  case atStart => exact ⟨rfl, 0, C, Nat.zero_le _, rfl, rfl, by omega, by omega, HG.out⟩
  case round =>
    obtain ⟨rfl, k, S, hk, rfl, rfl, p0, p1, hR⟩ := hrel
    by_cases hlt : k < kl
    · obtain ⟨ba, oa, rfl, hbl, hcs⟩ := hk1.2.resolve_left (by omega)
      have c1 := hcs k hlt
      obtain ⟨z, hz, hzl⟩ := hks k hlt
      obtain ⟨bb, ob, rfl, hbm, hcm⟩ := hm1.2.resolve_left (by omega)
      have c2 := hcm z hzl
      have hv := hin.2 z hzl
      have hd := runM_drop m ks k S (by omega)
      have HR := hR.out
      rw [hz] at c1
      rw [hd, hz, Int.toNat_natCast] at HR
      clear hd hR hcs hcm hz hks HC HG
      generalize m.getD z 0 = v at c2 hv HR
      have ht : topC = 1125899906842624 := rfl
      rw [ht] at p1 hv
      obtain ⟨v0, v1⟩ := hv
      by_cases hneg : v < 0
      · rw [if_pos hneg] at HR
        have HR2 : Hid (-1 = R) := HR
        clear HR
        go_wp2
        go_ret
        exact ⟨by rw [← HR2.out]; rfl, HB1.out⟩
      · rw [if_neg hneg, ht] at HR
        by_cases hbig : S + v > 1125899906842624
        · rw [show min (S + v) 1125899906842624 = 1125899906842624 by omega] at HR
          have HR2 : Hid (runM m (ks.drop (k + 1)) 1125899906842624 = R) := HR
          clear HR
          go_wp2
          go_roundw
          case rel => exact ⟨trivial, k + 1, 1125899906842624, by omega, by go_num, rfl, by omega, by rw [ht]; omega, HR2.out⟩
          case measure => simp [intOf]; omega
        · rw [show min (S + v) 1125899906842624 = S + v by omega] at HR
          have HR2 : Hid (runM m (ks.drop (k + 1)) (S + v) = R) := HR
          clear HR
          go_wp2
          go_roundw
          case rel => exact ⟨trivial, k + 1, S + v, by omega, by go_num, rfl, by omega, by rw [ht]; omega, HR2.out⟩
          case measure => simp [intOf]; omega
    · obtain rfl : k = kl := by omega
      have HR := hR.out
      rw [List.drop_of_length_le (by omega)] at HR
      have HR2 : Hid (S = R) := HR
      clear HR hR
      go_wp2
      go_ret
      exact ⟨by rw [← HR2.out]; rfl, HB1.out⟩
end Go.Proofs.YtmbggaepckgogaaDoor
namespace Go.Proofs.YtmbggaepckgogaaDoor
open Go.ChangeShapes Go.WideShapes Go.ChangeAt Go.RowKit
set_option linter.unusedVariables false

theorem row_keep {w w' : World} {base e size n : Nat} {v : Value} {xs : List Value} (h : w.ownsRow base e size v n xs) (hb : Below w.heap.size w w') : w'.ownsRow base e size v n xs :=
  h.kept (grown_of hb) (by cases hv : v.ownBlock <;> simp)
theorem row_grown {w w' : World} {base e size n : Nat} {v : Value} {xs : List Value} {r : Option Nat} (h : w.ownsRow base e size v n xs) (hg : w.grownBy w' r) (hne : ∀ x, v.ownBlock = some x → some x ≠ r) : w'.ownsRow base e size v n xs :=
  h.kept hg (by
    cases hv : v.ownBlock with
    | none => exact .inl rfl
    | some x => exact .inr (hne x hv))
theorem row_in {w : World} {base e size n : Nat} {v : Value} {xs : List Value} (h : w.ownsRow base e size v n xs) : ∀ x, v.ownBlock = some x → x < w.heap.size := by
  intro x hx
  rcases h.2 with ⟨rfl, _⟩ | ⟨g, cap, cur, rfl, _, hg, _⟩
  · cases hx
  · cases hx; exact Array.getElem?_eq_some_iff.1 hg |>.1
end Go.Proofs.YtmbggaepckgogaaDoor
