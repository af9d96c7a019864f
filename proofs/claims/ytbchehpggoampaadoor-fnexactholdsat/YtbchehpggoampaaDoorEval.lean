/-
  PROVED HERE: what the model says that the tree of a node comes to, at leaves and choices. No other condition.
-/
import Derived.Test.YtbchehpggoampaaDoorDefsAll
import Derived.Test.YtbchehpggoampaaDoorDoGood
import Derived.Test.YtbchehpggoampaaDoorCopy
namespace Go.Proofs.YtbchehpggoampaaDoor
open Go.ChangeShapes Go.WideShapes Go.ChangeAt Go.RowKit
set_option linter.unusedVariables false

/-- The contract of l2Eval at a node. -/
def EvalAt (l : List (Int × Int)) (env : List Int) (t : Option Addr) (len cap : Nat) (v : Option Addr) (cap' f k : Nat) : Prop :=
  ∀ W, NSl W t len l → Sl W v 4 env → Calls Tryd.prog 50 #[.slice t len cap, .int .i64 k, .slice v 4 cap'] W fun e w' => e = .returned (.tuple #[.int .i64 (valO (evalF l env f k)), .bool (trapO (evalF l env f k))]) ∧ Below W.heap.size W w'

theorem eval_leaf {l : List (Int × Int)} {q : Int} (h : pile l 0 = some q) (env : List Int) (t : Option Addr) (len cap : Nat) (v : Option Addr) (cap' f k : Nat) (hk : k < len) (hop : (l.getD k (0, 0)).1 = 1 ∨ (l.getD k (0, 0)).1 = 2) : EvalAt l env t len cap v cap' (f + 1) k := by
  intro w hs he
  have hlen := hs.1
  obtain ⟨h1, h2⟩ := cnt_step h k (by omega)
  obtain ⟨_, _, a3, _⟩ := fits_iff _ _ _ _ h1
  obtain ⟨b, off, rfl, hbl, hc⟩ := hs.at (by omega)
  have c1 := (hc k hk).1
  have c2 := (hc k hk).2
  clear hc h1 h2
  have hv : evalF l env (f + 1) k = if (l.getD k (0, 0)).1 = 1 then some (l.getD k (0, 0)).2 else some (env.getD (l.getD k (0, 0)).2.toNat 0) := by
    rcases hop with h0 | h0
    · rw [evalF, if_pos h0, if_pos h0]
    · rw [evalF, if_neg (by rw [h0]; decide), if_pos h0, if_neg (by rw [h0]; decide)]
  rw [hv]
  clear hv
  generalize (l.getD k (0, 0)).2 = y at c2 a3
  generalize (l.getD k (0, 0)).1 = x at c1 a3 hop
  rcases hop with rfl | rfl
  · rw [if_pos rfl]
    go_enter Tryd.func50, Tryd.ntmps50
    go_wp2
    go_ret2
    exact ⟨rfl, (Below.refl _ _).alloc (Nat.le_refl _) _⟩
  · rw [if_neg (by decide)]
    obtain ⟨y0, y1⟩ := a3 rfl
    obtain ⟨n, rfl⟩ := Int.eq_ofNat_of_zero_le y0
    obtain ⟨b2, o2, rfl, hc2⟩ := cells_of he (by decide)
    obtain ⟨_, hb2⟩ : True ∧ b2 < w.heap.size := ⟨trivial, by
      have := World.block_lt_of_cell? w _ (hc2 0 (by decide)); exact this⟩
    have c3 := hc2 n (by omega)
    rw [Int.toNat_natCast]
    generalize env.getD n 0 = z at c3
    clear hc2 he a3 hs
    have hn4 : (n : Int) < 4 := by omega
    go_enter Tryd.func50, Tryd.ntmps50
    go_wp2
    go_ret2
    exact ⟨rfl, (Below.refl _ _).alloc (Nat.le_refl _) _⟩

set_option maxHeartbeats 1600000 in
theorem eval_if {l : List (Int × Int)} {q : Int} (h : pile l 0 = some q) (env : List Int) (t : Option Addr) (len cap : Nat) (v : Option Addr) (cap' f k : Nat) (hl : len ≤ 1048576) (hk : k < len) (hop : (l.getD k (0, 0)).1 = 11)
    (IH : ∀ r, r < k → EvalAt l env t len cap v cap' f r) : EvalAt l env t len cap v cap' (f + 1) k := by
  intro w hs he
  have hlen := hs.1
  obtain ⟨h1, h2⟩ := cnt_step h k (by omega)
  obtain ⟨_, a2, _, _⟩ := fits_iff _ _ _ _ h1
  have hrl := roots_lt h 3 k (by omega) (by rw [hop] at a2; exact a2)
  have hr0 := getD_lt _ k 0 hrl (by rw [roots_len]; decide)
  have hr1 := getD_lt _ k 1 hrl (by rw [roots_len]; decide)
  have hr2 := getD_lt _ k 2 hrl (by rw [roots_len]; decide)
  have hv : evalF l env (f + 1) k = ifO (evalF l env f ((roots l 3 k).getD 0 0)) (evalF l env f ((roots l 3 k).getD 1 0)) (evalF l env f ((roots l 3 k).getD 2 0)) := by
    rw [evalF, if_neg (by rw [hop]; decide), if_neg (by rw [hop]; decide), if_pos hop]
  rw [hv]
  have HP : ∀ W, NSl W t len l → Calls Tryd.prog 57 #[.slice t len cap, .int .i64 k] W fun e w' => ∃ v : Value, e = .returned v ∧ w'.ownsRow W.heap.size 3 1 v 3 (ints (roots l 3 k)) ∧ Below W.heap.size W w' := by
    intro W hW
    have := parts_any h t len cap W hW hl k hk
    rw [hop] at this
    exact this
  have E0 := IH _ hr0
  have E1 := IH _ hr1
  have E2 := IH _ hr2
  unfold EvalAt at E0 E1 E2
  have e3 : (roots l 3 k).length = 3 := roots_len _ _ _
  generalize roots l 3 k = R at *
  clear hv IH h1 h2 a2 hrl
  obtain ⟨b, off, rfl, hbl, hc⟩ := hs.at (by omega)
  have c1 := (hc k hk).1
  have c2 := (hc k hk).2
  rw [hop] at c1
  clear hc hop
  generalize (l.getD k (0, 0)).2 = y at c2
  obtain ⟨r0, R0⟩ : ∃ r0, R.getD 0 0 = r0 := ⟨_, rfl⟩
  obtain ⟨r1, R1⟩ : ∃ r1, R.getD 1 0 = r1 := ⟨_, rfl⟩
  obtain ⟨r2, R2⟩ : ∃ r2, R.getD 2 0 = r2 := ⟨_, rfl⟩
  rw [R0] at E0 ⊢
  rw [R1] at E1 ⊢
  rw [R2] at E2 ⊢
  clear hr0 hr1 hr2
  generalize evalF l env f r0 = o0 at E0 ⊢
  generalize evalF l env f r1 = o1 at E1 ⊢
  generalize evalF l env f r2 = o2 at E2 ⊢
  cases o0 with
  | none =>
    have t1 : valO none = 0 := rfl
    have t2 : trapO none = true := rfl
    have t3 : ifO none o1 o2 = none := rfl
    rw [t3, t1, t2]
    rw [t1, t2] at E0
    clear t1 t2 t3
    have HP' := (show Hid _ from HP)
    have G0 := (show Hid _ from E0)
    have G1 := (show Hid _ from E1)
    have G2 := (show Hid _ from E2)
    clear HP E0 E1 E2
    have hb0 : Below w.heap.size w (w.alloc (.cells #[.int .i64 11, .int .i64 y] 76)) := (Below.refl _ _).alloc (Nat.le_refl _) _
    have hs0 := hs.keep hb0
    have he0 := he.keep hb0
    clear hs he
    go_enter Tryd.func50, Tryd.ntmps50
    go_wp2_with fail
    refine (HP'.out _ hs0).mono ?_
    rintro e w2 ⟨v2, rfl, hown, hb2⟩
    obtain ⟨g, cp, rfl, hg, hcell⟩ := own_row hown (by decide)
    have q0 : w2.cell? ⟨g, 0, none⟩ = some (.int .i64 r0) := by rw [hcell 0 (by decide), R0]
    have q1 : w2.cell? ⟨g, 1, none⟩ = some (.int .i64 r1) := by rw [hcell 1 (by decide), R1]
    have q2 : w2.cell? ⟨g, 2, none⟩ = some (.int .i64 r2) := by rw [hcell 2 (by decide), R2]
    clear hown hcell HP' e3
    have cl : w2.cell? ⟨w.heap.size, 0, none⟩ = some (.int .i64 11) := (hb2.cell (p := ⟨w.heap.size, 0, none⟩) (by simp)).trans (by simp [go_sem])
    have hs2 := hs0.keep hb2
    have he2 := he0.keep hb2
    have hB2 := hb0.trans (hb2.mono hb0.size)
    clear hs0 he0 hb0 hb2 R0 R1 R2
    go_wp2_with fail
    refine (G0.out _ hs2 he2).mono ?_
    rintro e w3 ⟨rfl, hb3⟩
    have hs3 := hs2.keep hb3
    have he3 := he2.keep hb3
    have p1 : w3.cell? ⟨g, 1, none⟩ = some (.int .i64 r1) := (hb3.cell (p := ⟨g, 1, none⟩) hg).trans q1
    have p2 : w3.cell? ⟨g, 2, none⟩ = some (.int .i64 r2) := (hb3.cell (p := ⟨g, 2, none⟩) hg).trans q2
    have hB3 := hB2.trans (hb3.mono hB2.size)
    clear hs2 he2 hb3 hB2 q0 q1 q2 cl G0
    go_wp2
    go_ret2
    exact ⟨rfl, hB3⟩
  | some c =>
    have t1 : valO (some c) = c := rfl
    have t2 : trapO (some c) = false := rfl
    rw [t1, t2] at E0
    clear t1 t2
    by_cases hc0 : c = 0
    · subst hc0
      have t3 : ifO (some 0) o1 o2 = o2 := rfl
      rw [t3]
      clear t3
      generalize valO o2 = V at E2 ⊢
      generalize trapO o2 = T at E2 ⊢
      have HP' := (show Hid _ from HP)
      have G0 := (show Hid _ from E0)
      have G1 := (show Hid _ from E1)
      have G2 := (show Hid _ from E2)
      clear HP E0 E1 E2
      have hb0 : Below w.heap.size w (w.alloc (.cells #[.int .i64 11, .int .i64 y] 76)) := (Below.refl _ _).alloc (Nat.le_refl _) _
      have hs0 := hs.keep hb0
      have he0 := he.keep hb0
      clear hs he
      go_enter Tryd.func50, Tryd.ntmps50
      go_wp2_with fail
      refine (HP'.out _ hs0).mono ?_
      rintro e w2 ⟨v2, rfl, hown, hb2⟩
      obtain ⟨g, cp, rfl, hg, hcell⟩ := own_row hown (by decide)
      have q0 : w2.cell? ⟨g, 0, none⟩ = some (.int .i64 r0) := by rw [hcell 0 (by decide), R0]
      have q1 : w2.cell? ⟨g, 1, none⟩ = some (.int .i64 r1) := by rw [hcell 1 (by decide), R1]
      have q2 : w2.cell? ⟨g, 2, none⟩ = some (.int .i64 r2) := by rw [hcell 2 (by decide), R2]
      clear hown hcell HP' e3
      have cl : w2.cell? ⟨w.heap.size, 0, none⟩ = some (.int .i64 11) := (hb2.cell (p := ⟨w.heap.size, 0, none⟩) (by simp)).trans (by simp [go_sem])
      have hs2 := hs0.keep hb2
      have he2 := he0.keep hb2
      have hB2 := hb0.trans (hb2.mono hb0.size)
      clear hs0 he0 hb0 hb2 R0 R1 R2
      go_wp2_with fail
      refine (G0.out _ hs2 he2).mono ?_
      rintro e w3 ⟨rfl, hb3⟩
      have hs3 := hs2.keep hb3
      have he3 := he2.keep hb3
      have p1 : w3.cell? ⟨g, 1, none⟩ = some (.int .i64 r1) := (hb3.cell (p := ⟨g, 1, none⟩) hg).trans q1
      have p2 : w3.cell? ⟨g, 2, none⟩ = some (.int .i64 r2) := (hb3.cell (p := ⟨g, 2, none⟩) hg).trans q2
      have hB3 := hB2.trans (hb3.mono hB2.size)
      clear hs2 he2 hb3 hB2 q0 q1 q2 cl G0
      go_wp2_with fail
      refine (G2.out _ hs3 he3).mono ?_
      rintro e w4 ⟨rfl, hb4⟩
      have hB4 := hB3.trans (hb4.mono hB3.size)
      go_wp2
      go_ret2
      exact ⟨rfl, hB4⟩
    · have t3 : ifO (some c) o1 o2 = o1 := by show (if c = 0 then o2 else o1) = o1; rw [if_neg hc0]
      rw [t3]
      have hc1 : (c != 0) = true := by simpa using hc0
      clear t3 hc0
      generalize valO o1 = V at E1 ⊢
      generalize trapO o1 = T at E1 ⊢
      have HP' := (show Hid _ from HP)
      have G0 := (show Hid _ from E0)
      have G1 := (show Hid _ from E1)
      have G2 := (show Hid _ from E2)
      clear HP E0 E1 E2
      have hb0 : Below w.heap.size w (w.alloc (.cells #[.int .i64 11, .int .i64 y] 76)) := (Below.refl _ _).alloc (Nat.le_refl _) _
      have hs0 := hs.keep hb0
      have he0 := he.keep hb0
      clear hs he
      go_enter Tryd.func50, Tryd.ntmps50
      go_wp2_with fail
      refine (HP'.out _ hs0).mono ?_
      rintro e w2 ⟨v2, rfl, hown, hb2⟩
      obtain ⟨g, cp, rfl, hg, hcell⟩ := own_row hown (by decide)
      have q0 : w2.cell? ⟨g, 0, none⟩ = some (.int .i64 r0) := by rw [hcell 0 (by decide), R0]
      have q1 : w2.cell? ⟨g, 1, none⟩ = some (.int .i64 r1) := by rw [hcell 1 (by decide), R1]
      have q2 : w2.cell? ⟨g, 2, none⟩ = some (.int .i64 r2) := by rw [hcell 2 (by decide), R2]
      clear hown hcell HP' e3
      have cl : w2.cell? ⟨w.heap.size, 0, none⟩ = some (.int .i64 11) := (hb2.cell (p := ⟨w.heap.size, 0, none⟩) (by simp)).trans (by simp [go_sem])
      have hs2 := hs0.keep hb2
      have he2 := he0.keep hb2
      have hB2 := hb0.trans (hb2.mono hb0.size)
      clear hs0 he0 hb0 hb2 R0 R1 R2
      go_wp2_with fail
      refine (G0.out _ hs2 he2).mono ?_
      rintro e w3 ⟨rfl, hb3⟩
      have hs3 := hs2.keep hb3
      have he3 := he2.keep hb3
      have p1 : w3.cell? ⟨g, 1, none⟩ = some (.int .i64 r1) := (hb3.cell (p := ⟨g, 1, none⟩) hg).trans q1
      have p2 : w3.cell? ⟨g, 2, none⟩ = some (.int .i64 r2) := (hb3.cell (p := ⟨g, 2, none⟩) hg).trans q2
      have hB3 := hB2.trans (hb3.mono hB2.size)
      clear hs2 he2 hb3 hB2 q0 q1 q2 cl G0
      go_wp2_with fail
      refine (G1.out _ hs3 he3).mono ?_
      rintro e w4 ⟨rfl, hb4⟩
      have hB4 := hB3.trans (hb4.mono hB3.size)
      go_wp2
      go_ret2
      exact ⟨rfl, hB4⟩

end Go.Proofs.YtbchehpggoampaaDoor
