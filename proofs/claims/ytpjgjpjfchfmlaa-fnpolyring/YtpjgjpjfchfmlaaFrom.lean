/-
  PROVED HERE: where the model says that the tree of a node begins, at every good list of nodes. No other condition.
-/
import Derived.Test.YtpjgjpjfchfmlaaStart
namespace Go.Proofs.Ytpjgjpjfchfmlaa
open Go.ChangeShapes Go.WideShapes Go.ChangeAt Go.RowKit
set_option linter.unusedVariables false

theorem from_any {l : List (Int × Int)} {q : Int} (h : pile l 0 = some q) (a : Option Addr) (len cap : Nat) (w : World) (hs : NSl w a len l) (hl : len ≤ 1048576) : ∀ k, k < len →
    Calls Try.prog 78 #[.slice a len cap, .int .i64 k] w fun e w' => e = .returned (.int .i64 (start l k)) ∧ w' = w := by
  intro k
  induction k using Nat.strongRecOn with
  | _ k ih =>
    intro hk
    have hlen := hs.1
    obtain ⟨h1, h2⟩ := cnt_step h k (by omega)
    obtain ⟨a1, a2, _⟩ := fits_iff _ _ _ _ h1
    have hst := start_eq h k (by omega)
    have har := ar_range (l.getD k (0, 0)).1
    obtain ⟨b, off, rfl, hbl, hc⟩ := hs.at (by omega)
    have c1 := (hc k hk).1
    clear hc
    have HA : ∀ W, Calls Try.prog 68 #[.int .i64 (l.getD k (0, 0)).1] W fun e w' => e = .returned (.int .i64 (ar (l.getD k (0, 0)).1)) ∧ w' = W := fun W => l1Arity_any _ W
    obtain ⟨m, hm⟩ : ∃ m : Nat, ar (l.getD k (0, 0)).1 = m := ⟨(ar (l.getD k (0, 0)).1).toNat, by omega⟩
    rw [hm] at HA hst a2 har
    rw [Int.toNat_natCast] at hst
    generalize (l.getD k (0, 0)).1 = x at c1 HA
    have HI : Hid (∀ j, j < k → j < len → Calls Try.prog 78 #[.slice (some ⟨b, off, none⟩) len cap, .int .i64 j] w fun e w' => e = .returned (.int .i64 (start l j)) ∧ w' = w) := ih
    have HST : Hid (start l k = back l m k) := hst
    have HC : Hid ((m : Int) ≤ cnt l k) := a2
    clear ih hst h1 h2 a1 a2 hm hs
    have HB := @back_le l q h
    have HB' : Hid (∀ (m x : Nat), x ≤ l.length → (m : Int) ≤ cnt l x → back l m x ≤ x ∧ cnt l (back l m x) = cnt l x - m) := HB
    have HS' : Hid (∀ j, j < l.length → start l j ≤ j ∧ cnt l (j + 1) = cnt l (start l j) + 1) := fun j hj => ⟨start_le h j hj, start_cnt h j hj⟩
    clear HB
    go_enter Try.func78, Try.ntmps78
    go_wp2_with fail
    refine (HA _).mono ?_
    rintro e w1 ⟨rfl, rfl⟩
    clear HA
    go_wp2_with fail
    go_loopw [5, 6] (fun f i wr => ∃ (n x : Nat), n ≤ 3 ∧ i = .int .i64 n ∧ f = .int .i64 x ∧ x ≤ k ∧ Hid (start l k = back l n x ∧ (n : Int) ≤ cnt l x) ∧ wr = w1) (fun _ i _ => (intOf i).toNat)
    case atStart => exact ⟨m, k, by omega, rfl, rfl, Nat.le_refl _, ⟨HST.out, HC.out⟩, rfl⟩
    case round =>
      obtain ⟨n, x, hn, rfl, rfl, hx, hH, rfl⟩ := hrel
      by_cases hn0 : 0 < n
      · have i0 : (0 : Int) < n := by omega
        have hx0 : 0 < x := by
          rcases Nat.eq_zero_or_pos x with h0 | h0
          · subst h0; have := hH.out.2; rw [cnt_zero] at this; omega
          · exact h0
        obtain ⟨g1, g2⟩ := HS'.out (x - 1) (by omega)
        rw [show x - 1 + 1 = x from by omega] at g2
        have hnext : Hid (start l k = back l (n - 1) (start l (x - 1)) ∧ ((n - 1 : Nat) : Int) ≤ cnt l (start l (x - 1))) := by
          have hh := hH.out
          obtain ⟨n', rfl⟩ : ∃ n', n = n' + 1 := ⟨n - 1, by omega⟩
          rw [back_succ] at hh
          exact ⟨hh.1, by omega⟩
        have hle : start l (x - 1) ≤ k := by omega
        have C := HI.out (x - 1) (by omega) (by omega)
        rw [show ((x - 1 : Nat) : Int) = (x : Int) - 1 from by omega] at C
        generalize start l (x - 1) = y at C hnext hle
        clear g1 g2 hH
        go_wp2_with fail
        refine C.mono ?_
        rintro e w2 ⟨rfl, rfl⟩
        clear C
        go_wp2
        go_roundw
        case rel => exact ⟨n - 1, y, by omega, by congr 1; omega, rfl, hle, hnext, (by first | trivial | rfl)⟩
        case measure => simp [intOf]; omega
      · obtain rfl : n = 0 := by omega
        have e0 : start l k = x := hH.out.1
        go_wp2
        go_ret
        exact ⟨by rw [e0]; rfl, rfl⟩
end Go.Proofs.Ytpjgjpjfchfmlaa
