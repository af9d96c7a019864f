/-
  PROVED HERE: what the program's joining of two parts does to a closing in memory. No condition.
-/
import Derived.Test.YthkjmgjajmghmaaDoorRun26
import Derived.Lib.MinMax
import Derived.BigRegion
namespace Go.Proofs.YthkjmgjajmghmaaDoor
open Go.ChangeShapes Go.WideShapes Go.ChangeAt Go.RowKit
open Go.MapKept Go.ChangeMaps
set_option linter.unusedVariables false

/-- A closing that has come from another one: its row of parts and its row of users lie where they lay. -/
def CloE (w0 w' : World) (n C bu bf : Nat) (na vp : Value) (l : List Int) (U : Nat → List Int) (S : FD) : Prop := Below w0.heap.size w0 w' ∧ ∃ T V vd, Clo w' w0.heap.size T n C bu bf na vp vd V l U S.1 S.2

set_option maxHeartbeats 6400000 in
set_option maxRecDepth 20000 in
theorem join_same {w0 w : World} {T : Nat → Nat} {n C bu bf : Nat} {vp vd : Value} {V : Nat → Value} {l : List Int} {U : Nat → List Int} {F : Sh → Option Int} {D : List (Int × Int)} {na : Value} {i j : Nat}
    (hb : Below w0.heap.size w0 w) (hC : Clo w w0.heap.size T n C bu bf na vp vd V l U F D) (hi : i < n) (hj : j < n) (he : l.getD i 0 = l.getD j 0) :
    Calls Tryd.prog 55 #[.pointer (some ⟨C, 0, none⟩), .int .i64 i, .int .i64 j] w fun e w' => e = .returned (.tuple #[]) ∧ CloE w0 w' n C bu bf na vp l U (F, D) := by
  have hll : l.length = n := by have := hC.rp.1; simpa [vals] using this
  obtain ⟨bp, cp, rfl, hbp, _⟩ : ∃ bp cp, vp = .slice (some ⟨bp, 0, none⟩) n cp ∧ bp < w.heap.size ∧ n ≤ cp := by
    rcases hC.rp.2 with ⟨_, h0⟩ | ⟨g, cap, cur, e, _, hg, hcap, _⟩
    · omega
    · exact ⟨g, cap, e, (Array.getElem?_eq_some_iff.1 hg).1, hcap⟩
  have HQ : Hid (∀ W, Below w.heap.size w W → CloE w0 W n C bu bf na (.slice (some ⟨bp, 0, none⟩) n cp) l U (F, D)) := fun W hW => ⟨hb.trans (hW.mono hb.size), T, V, vd, hC.keep hW⟩
  have c1 := hC.c1
  have ci : w.cell? ⟨bp, i, none⟩ = some (.int .i64 (l.getD i 0)) := (hC.rp.cellAt i (by omega)).trans (vals_at (by omega))
  have cj : w.cell? ⟨bp, j, none⟩ = some (.int .i64 (l.getD j 0)) := (hC.rp.cellAt j (by omega)).trans (vals_at (by omega))
  have d1 : w.drew.cell? ⟨C, 1, none⟩ = some (.slice (some ⟨bp, 0, none⟩) n cp) := c1
  have hil : (i : Int) < n := by omega
  have hjl : (j : Int) < n := by omega
  rw [he] at ci
  obtain ⟨z, hz⟩ : ∃ z, l.getD j 0 = z := ⟨_, rfl⟩
  rw [hz] at ci cj
  have di : w.drew.cell? ⟨bp, i, none⟩ = some (.int .i64 z) := ci
  have dj : w.drew.cell? ⟨bp, j, none⟩ = some (.int .i64 z) := cj
  have hm : min z z = z := Int.min_self z
  have hM : max z z = z := Int.max_self z
  clear hC hb he hll hz
  go_enter Tryd.func55, Tryd.ntmps55
  go_upto_region 0 with fail
  go_cut [6, 7] from 15 to 44 (fun x y wx => x = .int .i64 z ∧ y = .int .i64 z ∧ Below w.heap.size w wx)
  case first =>
    go_region
    all_goals
      go_wp2_with fail
      go_meet
      exact ⟨by first | rfl | rw [hm], by first | rfl | rw [hM], (Below.refl _ _).drew⟩
  case rest =>
  obtain ⟨rfl, rfl, hB⟩ := hcut
  have HE := (show Hid _ from HQ.out wc hB)
  have hzz : (z == z) = true := by simp
  clear c1 ci cj d1 di dj hm hM hB HQ
  go_wp2_with fail
  first | go_end0 | (refine bodyPost_ret (results_none rfl _ _ _) rfl ?_)
  exact ⟨rfl, HE.out⟩
end Go.Proofs.YthkjmgjajmghmaaDoor
