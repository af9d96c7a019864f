/-
  PROVED HERE: where the program says that the tree of a node begins, at every good list of nodes, in a world whose table of arities is laid. No other condition.
-/
import Derived.Test.YtlpefaaohcgboaaDoorStart
import Derived.Test.YtlpefaaohcgboaaDoorIGood
namespace Go.Proofs.YtlpefaaohcgboaaDoor
open Go.ChangeShapes Go.WideShapes Go.ChangeAt Go.RowKit
set_option linter.unusedVariables false

theorem iter_add (f : Nat → Nat) : ∀ (m n x : Nat), iter f (m + n) x = iter f n (iter f m x)
  | 0, n, x => by rw [Nat.zero_add]; rfl
  | m + 1, n, x => by
    rw [show m + 1 + n = (m + n) + 1 from by omega]
    exact iter_add f m n (f x)
theorem back_add (l : List (Int × Int)) (m n x : Nat) : back l (m + n) x = back l n (back l m x) := iter_add _ m n x
theorem back_step {l : List (Int × Int)} {q : Int} (h : pile l 0 = some q) (n x : Nat) (hx : x < l.length) : back l (n + 1) (x + 1) = back l ((ar (l.getD x (0, 0)).1).toNat + n) x := by
  rw [back_succ, Nat.add_sub_cancel, back_add, ← start_eq h x hx]

theorem cnt_le {l : List (Int × Int)} {q : Int} (h : pile l 0 = some q) : ∀ x, x ≤ l.length → 0 ≤ cnt l x ∧ cnt l x ≤ x
  | 0, _ => by rw [cnt_zero]; omega
  | x + 1, hx => by
    have ih := cnt_le h x (by omega)
    obtain ⟨h1, h2⟩ := cnt_step h x (by omega)
    obtain ⟨a1, a2, _⟩ := fits_iff _ _ _ _ h1
    omega

set_option maxHeartbeats 1600000 in
theorem implFirst_any {l : List (Int × Int)} {q : Int} (h : pile l 0 = some q) (a : Option Addr) (len cap : Nat) (w : World) (ht : Tab w) (hs : NSl w a len l) (hl : len ≤ 1048576) (k : Nat) (hk : k < len) :
    Calls Tryd.prog 55 #[.slice a len cap, .int .i64 k] w fun e w' => e = .returned (.int .i64 (start l k)) ∧ w' = w := by
  have hlen := hs.1
  obtain ⟨b, off, rfl, hbl, hc⟩ := hs.at (by omega)
  have HC : Hid (∀ i, i < len → w.cell? ⟨b, off + i * 2, none⟩ = some (.int .i64 (l.getD i (0, 0)).1)) := fun i hi => (hc i hi).1
  have HT : Hid (Tab w) := ht
  have HB : Hid (∀ n x, x < l.length → back l (n + 1) (x + 1) = back l ((ar (l.getD x (0, 0)).1).toNat + n) x) := fun n x hx => back_step h n x hx
  have HN : Hid (∀ x, x < l.length → 0 ≤ ar (l.getD x (0, 0)).1 ∧ ar (l.getD x (0, 0)).1 ≤ cnt l x ∧ cnt l (x + 1) = cnt l x + (1 - ar (l.getD x (0, 0)).1)) := fun x hx => by
    obtain ⟨h1, h2⟩ := cnt_step h x hx
    obtain ⟨a1, a2, _⟩ := fits_iff _ _ _ _ h1
    exact ⟨a1, a2, h2⟩
  have H1 : Hid (start l k = back l 1 (k + 1) ∧ (1 : Int) ≤ cnt l (k + 1)) := by
    refine ⟨rfl, ?_⟩
    have := start_cnt h k (by omega)
    have h2 := cnt_le h (start l k) (by have := start_le h k (by omega); omega)
    omega
  have HL : Hid (∀ x, x ≤ l.length → 0 ≤ cnt l x ∧ cnt l x ≤ x) := cnt_le h
  clear hc hs ht h
  go_enter Tryd.func55, Tryd.ntmps55
  go_wp2_with fail
  go_loopw [1, 5] (fun kk o wr => ∃ (n x : Nat), n ≤ 1048577 ∧ o = .int .i64 n ∧ kk = .int .i64 ((x : Int) - 1) ∧ x ≤ k + 1 ∧ Hid (start l k = back l n x ∧ (n : Int) ≤ cnt l x) ∧ wr = w) (fun kk _ _ => (intOf kk + 1).toNat)
  case atStart => exact ⟨1, k + 1, by omega, rfl, by go_num, Nat.le_refl _, H1, rfl⟩
  case round =>
    obtain ⟨n, x, hn, rfl, rfl, hx, hH, rfl⟩ := hrel
    by_cases hn0 : 0 < n
    · have i0 : (0 : Int) < n := by omega
      obtain ⟨x, rfl⟩ : ∃ x', x = x' + 1 := ⟨x - 1, by
        rcases Nat.eq_zero_or_pos x with h0 | h0
        · subst h0; have := hH.out.2; rw [cnt_zero] at this; omega
        · omega⟩
      rw [show ((x + 1 : Nat) : Int) - 1 = x from by omega]
      have c1 := HC.out x (by omega)
      obtain ⟨r1, r2, r3⟩ := HN.out x (by omega)
      have hcl := HL.out x (by omega)
      obtain ⟨n, rfl⟩ : ∃ n', n = n' + 1 := ⟨n - 1, by omega⟩
      have hnext : Hid (start l k = back l ((ar (l.getD x (0, 0)).1).toNat + n) x ∧ (((ar (l.getD x (0, 0)).1).toNat + n : Nat) : Int) ≤ cnt l x) := by
        have hh := hH.out
        rw [HB.out n x (by omega)] at hh
        exact ⟨hh.1, by omega⟩
      have HA := implArity_any (l.getD x (0, 0)).1 _ HT.out
      have hle : (((ar (l.getD x (0, 0)).1).toNat + n : Nat) : Int) ≤ 1048576 := by have := hnext.out.2; omega
      rw [decide_eq_true r1, show arN (l.getD x (0, 0)).1 = ar (l.getD x (0, 0)).1 from by unfold arN; rw [if_pos r1]] at HA
      clear r2 r3 hcl hH
      generalize (l.getD x (0, 0)).1 = op at c1 HA hnext hle r1
      obtain ⟨m, hm⟩ : ∃ m : Nat, ar op = m := ⟨(ar op).toNat, by omega⟩
      rw [hm] at HA hnext hle
      rw [Int.toNat_natCast] at hnext hle
      clear hm r1
      go_wp2_with fail
      refine HA.mono ?_
      rintro e w2 ⟨rfl, rfl⟩
      clear HA
      go_wp2
      go_roundw
      case rel => exact ⟨m + n, x, by omega, by first | rfl | (congr 1; omega), rfl, by omega, hnext, (by first | trivial | rfl)⟩
      case measure => simp [intOf]
    · obtain rfl : n = 0 := by omega
      have e0 : start l k = x := hH.out.1
      go_wp2
      go_ret
      exact ⟨by rw [e0]; congr 2 <;> omega, rfl⟩
end Go.Proofs.YtlpefaaohcgboaaDoor
