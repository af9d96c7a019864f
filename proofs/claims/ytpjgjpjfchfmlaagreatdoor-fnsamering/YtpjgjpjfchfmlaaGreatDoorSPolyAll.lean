/-
  PROVED HERE: which sum of products the model makes of a term, at every list of nodes. No other condition.
-/
import Derived.Test.YtpjgjpjfchfmlaaGreatDoorSOfs
import Derived.Test.YtpjgjpjfchfmlaaGreatDoorRingMs
namespace Go.Proofs.YtpjgjpjfchfmlaaGreatDoor
open Go.ChangeShapes Go.WideShapes Go.ChangeAt Go.RowKit
set_option linter.unusedVariables false

theorem sOf_any {l : List (Int × Int)} {q : Int} (h : pile l 0 = some q) (hr : ringB l = true) (hI : ∀ k, InI (l.getD k (0, 0)).2) (b off len cap : Nat) (hl : len ≤ 40) : ∀ (f k : Nat) (W : World), k < len → k < f → NSl W (some ⟨b, off, none⟩) len l →
    Calls Tryz.prog 30 #[.slice (some ⟨b, off, none⟩) len cap, .int .i64 (k : Int)] W fun r w' => SOf W (ofF l f k) r w'
  | 0, k, W, hk, hf, hN => by omega
  | f + 1, k, W, hk, hf, hN => by
    have hll := hN.1
    have good := fun k p => ofF_good (fun k _ => hI k) (vars4 h) f k p
    have hro := ring_ops hr (show k < l.length by omega)
    obtain ⟨h1, h2⟩ := cnt_step h k (by omega)
    obtain ⟨a1, a2, a3, _⟩ := fits_iff _ _ _ _ h1
    have hop7 := (good_ops h k (by omega))
    obtain ⟨b', off', e, hbl, hc⟩ := hN.at (by omega)
    cases e
    have c1 := (hc k hk).1
    have c2 := (hc k hk).2
    by_cases h01 : (l.getD k (0, 0)).1 = 1
    · have e : ofF l (f + 1) k = some (numP (l.getD k (0, 0)).2) := by unfold ofF; rw [if_pos h01]
      rw [e]
      rw [h01] at c1
      exact sOfNum b off len cap k _ W hk hl c1 c2
    · by_cases h02 : (l.getD k (0, 0)).1 = 2
      · obtain ⟨n0, n4⟩ := a3 h02
        have e : ofF l (f + 1) k = some (varP (l.getD k (0, 0)).2.toNat) := by unfold ofF; rw [if_neg (by omega), if_pos h02]
        rw [e]
        rw [h02] at c1
        obtain ⟨n, hn⟩ := Int.eq_ofNat_of_zero_le n0
        rw [hn] at c2 ⊢
        rw [Int.toNat_natCast]
        have : n = 0 ∨ n = 1 ∨ n = 2 ∨ n = 3 := by omega
        rcases this with rfl | rfl | rfl | rfl
        · exact sOfVar0 b off len cap k W hk hl c1 c2
        · exact sOfVar1 b off len cap k W hk hl c1 c2
        · exact sOfVar2 b off len cap k W hk hl c1 c2
        · exact sOfVar3 b off len cap k W hk hl c1 c2
      · obtain ⟨m, hm⟩ : ∃ m : Nat, ar (l.getD k (0, 0)).1 = m := ⟨(ar (l.getD k (0, 0)).1).toNat, by omega⟩
        have h37 : 3 ≤ (l.getD k (0, 0)).1 ∧ (l.getD k (0, 0)).1 ≤ 7 := by omega
        have hm1 : 1 ≤ m ∧ ((l.getD k (0, 0)).1 ≠ 3 → m = 2) := by
          have : (l.getD k (0, 0)).1 = 3 ∨ (l.getD k (0, 0)).1 = 4 ∨ (l.getD k (0, 0)).1 = 5 ∨ (l.getD k (0, 0)).1 = 6 ∨ (l.getD k (0, 0)).1 = 7 := by omega
          rcases this with e | e | e | e | e <;> rw [e] at hm
          · have e0 : ar 3 = 1 := rfl; omega
          · have e0 : ar 4 = 2 := rfl; omega
          · have e0 : ar 5 = 2 := rfl; omega
          · have e0 : ar 6 = 2 := rfl; omega
          · have e0 : ar 7 = 2 := rfl; omega
        have hrt : ∀ i, i < m → (roots l m k).getD i 0 < k := fun i hi => getD_lt (roots l m k) k i (roots_lt h m k (by omega) (by omega)) (by rw [roots_len]; exact hi)
        have e : ofF l (f + 1) k = opR (l.getD k (0, 0)).1 (l.getD (k - 1) (0, 0)).2 (ofF l f ((roots l m k).getD 0 0)) (ofF l f ((roots l m k).getD 1 0)) := by
          show (if _ then _ else _) = _
          rw [if_neg (by omega), if_neg (by omega), hm, Int.toNat_natCast]
          unfold opR
          cases ofF l f ((roots l m k).getD 0 0) with
          | none => rfl
          | some p =>
            cases ofF l f ((roots l m k).getD 1 0) with
            | none => rfl
            | some q => rfl
        rw [e]
        have r0 := hrt 0 (by omega)
        refine sOfOp h b off len cap k W hN hl hk _ _ m rfl (fun e7 => ⟨rfl, hop7.2.2 e7⟩) hm hm1.1 h37 hm1.2 _ _ rfl (fun _ => rfl) _ _ (fun W' hW' => sOf_any h hr hI b off len cap hl f _ W' (by omega) (by omega) (hN.keep hW')) (fun e3 e7 W' hW' => ?_) (fun p hp => good _ p hp) (fun p hp => good _ p hp)
        have r1 := hrt 1 (by have := hm1.2 e3; omega)
        exact sOf_any h hr hI b off len cap hl f _ W' (by omega) (by omega) (hN.keep hW')

theorem specPolyOf_own (a : Option Addr) (len cap : Nat) (l : List (Int × Int)) (w : World) (h : NSl w a len l) (hm : len ≤ 9223372036854775807) (hI : ∀ k, InI (l.getD k (0, 0)).2) :
    Calls Tryz.prog 8 #[.slice a len cap] w fun r w' => ∃ v, r = .returned (.tuple #[v, .bool (ofT l).isSome]) ∧ SpecB w.heap.size w' v ((ofT l).getD []) ∧ Below w.heap.size w w' := by
  have hll := h.1
  have HG := (show Hid _ from specGood_any a len cap l w h hm)
  unfold ofT isRingB
  cases hg : goodB l with
  | false =>
    rw [hg] at HG
    rw [Bool.false_and, if_neg (by decide)]
    clear h hI
    go_enter Tryz.func8, Tryz.ntmps8
    go_wp2_with fail
    refine Calls.mono HG.out ?_
    rintro e w1 ⟨rfl, hb1⟩
    clear HG
    go_wp2
    go_ret2
    exact ⟨_, rfl, SpecB.nil _ _, hb1⟩
  | true =>
    rw [hg] at HG
    obtain ⟨hp, h1, h40⟩ := good_pile hg
    have HR : Hid (∀ W, Below w.heap.size w W → Calls Tryz.prog 29 #[.slice a len cap] W fun e w' => e = .returned (.bool (ringB l)) ∧ Below W.heap.size W w') := fun W hW => l4Ring_any (fun k hk => good_ops hp k hk) a len cap W (h.keep hW) (by omega)
    rw [Bool.true_and]
    cases hr : ringB l with
    | false =>
      rw [hr] at HR
      rw [if_neg (by decide)]
      clear h hI hp
      go_enter Tryz.func8, Tryz.ntmps8
      go_wp2_with fail
      refine Calls.mono HG.out ?_
      rintro e w1 ⟨rfl, hb1⟩
      clear HG
      go_wp2_with fail
      refine Calls.mono (HR.out _ hb1) ?_
      rintro e w2 ⟨rfl, hb2⟩
      have hB := hb1.trans (hb2.mono hb1.size)
      clear HR hb1 hb2
      go_wp2
      go_ret2
      exact ⟨_, rfl, SpecB.nil _ _, hB⟩
    | true =>
      rw [hr] at HR
      rw [if_pos rfl]
      have hk1 : (len : Int) - 1 = ((len - 1 : Nat) : Int) := by omega
      have HO : Hid (∀ W, Below w.heap.size w W → Calls Tryz.prog 30 #[.slice a len cap, .int .i64 ((len - 1 : Nat) : Int)] W fun r w' => SOf W (ofF l l.length (l.length - 1)) r w') := fun W hW => by
        obtain ⟨b, off, rfl, _⟩ := h.at (by omega)
        rw [hll]
        exact sOf_any hp hr hI b off len cap (by omega) len (len - 1) W (by omega) (by omega) (h.keep hW)
      obtain ⟨k1, hk2⟩ : ∃ k1, len - 1 = k1 := ⟨_, rfl⟩
      rw [hk2] at hk1 HO
      obtain ⟨O, hO⟩ : ∃ O, ofF l l.length (l.length - 1) = O := ⟨_, rfl⟩
      rw [hO] at HO ⊢
      clear h hI hp hk2 hO hg hr
      cases O with
      | none =>
        go_enter Tryz.func8, Tryz.ntmps8
        go_wp2_with fail
        refine Calls.mono HG.out ?_
        rintro e w1 ⟨rfl, hb1⟩
        clear HG
        go_wp2_with fail
        refine Calls.mono (HR.out _ hb1) ?_
        rintro e w2 ⟨rfl, hb2⟩
        have hB := hb1.trans (hb2.mono hb1.size)
        clear HR hb1 hb2
        go_wp2_with fail
        refine Calls.mono (HO.out _ hB) ?_
        rintro r w3 ⟨v, rfl, _, hb3⟩
        have hB3 := hB.trans (hb3.mono hB.size)
        clear HO hb3 hB
        go_wp2
        go_ret2
        exact ⟨_, rfl, SpecB.nil _ _, hB3⟩
      | some s =>
        go_enter Tryz.func8, Tryz.ntmps8
        go_wp2_with fail
        refine Calls.mono HG.out ?_
        rintro e w1 ⟨rfl, hb1⟩
        clear HG
        go_wp2_with fail
        refine Calls.mono (HR.out _ hb1) ?_
        rintro e w2 ⟨rfl, hb2⟩
        have hB := hb1.trans (hb2.mono hb1.size)
        clear HR hb1 hb2
        go_wp2_with fail
        refine Calls.mono (HO.out _ hB) ?_
        rintro r w3 ⟨v, rfl, hv, hb3⟩
        have hB3 := hB.trans (hb3.mono hB.size)
        have HV := (show Hid _ from (hv s rfl).base hB.size)
        clear HO hb3 hB hv
        go_wp2
        go_ret2
        exact ⟨_, rfl, HV.out, hB3⟩
theorem specPolyOf_any (a : Option Addr) (len cap : Nat) (l : List (Int × Int)) (w : World) (h : NSl w a len l) (hm : len ≤ 9223372036854775807) (hI : ∀ k, InI (l.getD k (0, 0)).2) :
    Calls Tryz.prog 8 #[.slice a len cap] w fun r w' => ∃ v, r = .returned (.tuple #[v, .bool (ofT l).isSome]) ∧ SpecV w' v ((ofT l).getD []) ∧ Below w.heap.size w w' :=
  (specPolyOf_own a len cap l w h hm hI).mono fun r w' ⟨v, h1, h2, h3⟩ => ⟨v, h1, h2.1, h3⟩
end Go.Proofs.YtpjgjpjfchfmlaaGreatDoor
