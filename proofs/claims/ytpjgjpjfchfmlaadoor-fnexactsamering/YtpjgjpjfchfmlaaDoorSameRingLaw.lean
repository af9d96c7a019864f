/-
  PROVED HERE: the law FnExactSameRing's own run, at every two lists of nodes, in a world whose table of arities is laid. No other condition.
-/
import Derived.Test.YtpjgjpjfchfmlaaDoorSPolyAll
import Derived.Test.YtpjgjpjfchfmlaaDoorSameP
import Derived.Test.YtpjgjpjfchfmlaaDoorMonoOwns
import Derived.Test.YtpjgjpjfchfmlaaDoorKeeps
namespace Go.Proofs.YtpjgjpjfchfmlaaDoor
open Go.ChangeShapes Go.WideShapes Go.ChangeAt Go.RowKit
set_option linter.unusedVariables false

/-- SameRing's answer. -/
def sameOk (l m : List (Int × Int)) : Bool := (ofT l).isSome && (ofT m).isSome
def sameR (l m : List (Int × Int)) : Bool := sameOk l m && decide ((ofT l).getD [] = (ofT m).getD [])
theorem ofT_good {l : List (Int × Int)} (hI : ∀ k, InI (l.getD k (0, 0)).2) : ∀ s, ofT l = some s → GoodS s := by
  unfold ofT
  by_cases h : isRingB l = true
  · rw [if_pos h]
    unfold isRingB at h
    rw [Bool.and_eq_true] at h
    exact fun s e => ofF_good (fun k _ => hI k) (vars4 (good_pile h.1).1) _ _ s e
  · rw [if_neg h]; intro s e; cases e

theorem specSame_any (a : Option Addr) (la ca : Nat) (l : List (Int × Int)) (b : Option Addr) (lb cb : Nat) (m : List (Int × Int)) (w : World) (h : NSl w a la l) (h' : NSl w b lb m) (hm : la ≤ 9223372036854775807) (hm' : lb ≤ 9223372036854775807) (hI : ∀ k, InI (l.getD k (0, 0)).2) (hI' : ∀ k, InI (m.getD k (0, 0)).2) :
    Calls Tryd.prog 14 #[.slice a la ca, .slice b lb cb] w fun r w' => r = .returned (.tuple #[.bool (sameR l m), .bool (sameOk l m)]) ∧ Below w.heap.size w w' := by
  have C1 := (show Hid _ from specPolyOf_any a la ca l w h hm hI)
  have C2 : Hid (∀ W, Below w.heap.size w W → Calls Tryd.prog 6 #[.slice b lb cb] W fun r w' => ∃ v, r = .returned (.tuple #[v, .bool (ofT m).isSome]) ∧ SpecV w' v ((ofT m).getD []) ∧ Below W.heap.size W w') := fun W hW => specPolyOf_any b lb cb m W (h'.keep hW) hm' hI'
  have G1 := (show Hid _ from ofT_good hI)
  have G2 := (show Hid _ from ofT_good hI')
  unfold sameR sameOk
  generalize ofT l = o at C1 G1
  generalize ofT m = o' at C2 G2
  clear h h' hI hI'
  cases o with
  | none =>
    go_enter Tryd.func14, Tryd.ntmps14
    go_wp2_with fail
    refine Calls.mono C1.out ?_
    rintro e w1 ⟨v, rfl, _, hb1⟩
    go_wp2_with fail
    refine Calls.mono (C2.out _ hb1) ?_
    rintro e w2 ⟨u, rfl, _, hb2⟩
    have hB := hb1.trans (hb2.mono hb1.size)
    clear C1 C2
    go_wp2
    go_ret2
    exact ⟨rfl, hB⟩
  | some s =>
    cases o' with
    | none =>
      go_enter Tryd.func14, Tryd.ntmps14
      go_wp2_with fail
      refine Calls.mono C1.out ?_
      rintro e w1 ⟨v, rfl, _, hb1⟩
      go_wp2_with fail
      refine Calls.mono (C2.out _ hb1) ?_
      rintro e w2 ⟨u, rfl, _, hb2⟩
      have hB := hb1.trans (hb2.mono hb1.size)
      clear C1 C2
      go_wp2
      go_ret2
      exact ⟨rfl, hB⟩
    | some t =>
      have g1 := G1.out s rfl
      have g2 := G2.out t rfl
      have HS : Hid (∀ W v u, SpecV W v s → SpecV W u t → Calls Tryd.prog 27 #[v, u] W fun e w' => e = .returned (.bool (decide (s = t))) ∧ Below W.heap.size W w') := fun W v u hv hu => by
        obtain ⟨a1, c1, rfl, p1⟩ := hv
        obtain ⟨a2, c2, rfl, p2⟩ := hu
        exact l4Same_any a1 a2 _ c1 _ c2 s t W p1 p2 (by have := poly_len g1.1; omega) (by have := poly_len g2.1; omega) g1.len g2.len
      have eT : ((some s).isSome && (some t).isSome) = true := rfl
      rw [eT, Bool.true_and]
      have eD : decide ((some s).getD [] = (some t).getD []) = decide (s = t) := rfl
      rw [eD]
      generalize decide (s = t) = D at HS
      clear G1 G2 g1 g2 eT eD
      go_enter Tryd.func14, Tryd.ntmps14
      go_wp2_with fail
      refine Calls.mono C1.out ?_
      rintro e w1 ⟨v, rfl, hv, hb1⟩
      go_wp2_with fail
      refine Calls.mono (C2.out _ hb1) ?_
      rintro e w2 ⟨u, rfl, hu, hb2⟩
      have hB := hb1.trans (hb2.mono hb1.size)
      have C3 := (show Hid _ from HS.out w2 v u (hv.keep hb2) hu)
      clear C1 C2 hb1 hb2 hv hu HS
      go_wp2_with fail
      refine Calls.mono C3.out ?_
      rintro e w3 ⟨rfl, hb3⟩
      have hB3 := hB.trans (hb3.mono hB.size)
      clear C3 hb3 hB
      go_wp2
      go_ret2
      exact ⟨rfl, hB3⟩

theorem implSame_any (a : Option Addr) (la ca : Nat) (l : List (Int × Int)) (b : Option Addr) (lb cb : Nat) (m : List (Int × Int)) (w : World) (hT : Tab w) (h : NSl w a la l) (h' : NSl w b lb m) (hm : la ≤ 9223372036854775807) (hm' : lb ≤ 9223372036854775807) (hI : ∀ k, InI (l.getD k (0, 0)).2) (hI' : ∀ k, InI (m.getD k (0, 0)).2) :
    Calls Tryd.prog 15 #[.slice a la ca, .slice b lb cb] w fun r w' => r = .returned (.tuple #[.bool (sameR l m), .bool (sameOk l m)]) ∧ Below w.heap.size w w' := by
  have C1 := (show Hid _ from implPolyOf_any a la ca l w hT h hm hI)
  have C2 : Hid (∀ W, Below w.heap.size w W → Calls Tryd.prog 8 #[.slice b lb cb] W fun r w' => IOf W (ofT m) r w') := fun W hW => implPolyOf_any b lb cb m W (hT.keeps hW) (h'.keep hW) hm' hI'
  have G1 := (show Hid _ from ofT_good hI)
  have G2 := (show Hid _ from ofT_good hI')
  unfold sameR sameOk
  generalize ofT l = o at C1 G1
  generalize ofT m = o' at C2 G2
  clear h h' hI hI' hT
  cases o with
  | none =>
    go_enter Tryd.func15, Tryd.ntmps15
    go_wp2_with fail
    refine Calls.mono C1.out ?_
    rintro e w1 ⟨v, rfl, _, hb1⟩
    go_wp2_with fail
    refine Calls.mono (C2.out _ hb1) ?_
    rintro e w2 ⟨u, rfl, _, hb2⟩
    have hB := hb1.trans (hb2.mono hb1.size)
    clear C1 C2
    go_wp2
    go_ret2
    exact ⟨rfl, hB⟩
  | some s =>
    cases o' with
    | none =>
      go_enter Tryd.func15, Tryd.ntmps15
      go_wp2_with fail
      refine Calls.mono C1.out ?_
      rintro e w1 ⟨v, rfl, _, hb1⟩
      go_wp2_with fail
      refine Calls.mono (C2.out _ hb1) ?_
      rintro e w2 ⟨u, rfl, _, hb2⟩
      have hB := hb1.trans (hb2.mono hb1.size)
      clear C1 C2
      go_wp2
      go_ret2
      exact ⟨rfl, hB⟩
    | some t =>
      have g1 := G1.out s rfl
      have g2 := G2.out t rfl
      have HS : Hid (∀ W v u, SpecV W v s → SpecV W u t → Calls Tryd.prog 28 #[v, u, .func (.func 29) #[] #[]] W fun e w' => e = .returned (.bool (decide (s = t))) ∧ Below W.heap.size W w') := fun W v u hv hu => by
        obtain ⟨a1, c1, rfl, p1⟩ := hv
        obtain ⟨a2, c2, rfl, p2⟩ := hu
        exact equalF_any a1 a2 _ c1 _ c2 s t W p1 p2 (by have := poly_len g1.1; omega) (by have := poly_len g2.1; omega) g1.len g2.len
      have HV : Hid (∀ W lo v, OwnV W lo v s → SpecV W v s) := fun W lo v hv => hv.psl g1.len
      have HU : Hid (∀ W lo v, OwnV W lo v t → SpecV W v t) := fun W lo v hv => hv.psl g2.len
      have eT : ((some s).isSome && (some t).isSome) = true := rfl
      rw [eT, Bool.true_and]
      have eD : decide ((some s).getD [] = (some t).getD []) = decide (s = t) := rfl
      rw [eD]
      generalize decide (s = t) = D at HS
      clear G1 G2 g1 g2 eT eD
      go_enter Tryd.func15, Tryd.ntmps15
      go_wp2_with fail
      refine Calls.mono C1.out ?_
      rintro e w1 ⟨v, rfl, hv, hb1⟩
      go_wp2_with fail
      refine Calls.mono (C2.out _ hb1) ?_
      rintro e w2 ⟨u, rfl, hu, hb2⟩
      have hB := hb1.trans (hb2.mono hb1.size)
      have C3 := (show Hid _ from HS.out w2 v u ((HV.out _ _ _ hv).keep hb2) (HU.out _ _ _ hu))
      clear C1 C2 hb1 hb2 hv hu HS HV HU
      go_wp2_with fail
      refine Calls.mono C3.out ?_
      rintro e w3 ⟨rfl, hb3⟩
      have hB3 := hB.trans (hb3.mono hB.size)
      clear C3 hb3 hB
      go_wp2
      go_ret2
      exact ⟨rfl, hB3⟩

set_option maxHeartbeats 3200000 in
set_option maxRecDepth 20000 in
theorem sameRingLaw_any (a : Option Addr) (la ca : Nat) (l : List (Int × Int)) (b : Option Addr) (lb cb : Nat) (m : List (Int × Int)) (w : World) (hT : Tab w) (h : NSl w a la l) (h' : NSl w b lb m) (hm : la ≤ 9223372036854775807) (hm' : lb ≤ 9223372036854775807) (hI : ∀ k, InI (l.getD k (0, 0)).2) (hI' : ∀ k, InI (m.getD k (0, 0)).2) :
    Calls Tryd.prog 4 #[.slice a la ca, .slice b lb cb] w fun e w' => e = .returned (.bool true) ∧ Below w.heap.size w w' := by
  have HZ := sz_any a la ca 1048576 w (Nat.le_refl _) hm
  by_cases hn : la ≤ 1048576
  · rw [if_pos hn] at HZ
    have HZ2 := sz_any b lb cb (1048576 - la) w (by omega) hm'
    have hz0 : ¬ ((1048576 - la : Nat) : Int) < 0 := by omega
    by_cases hn2 : lb ≤ 1048576 - la
    · rw [if_pos hn2] at HZ2
      have hz1 : ¬ ((1048576 - la - lb : Nat) : Int) < 0 := by omega
      generalize ((1048576 - la - lb : Nat) : Int) = z1 at HZ2 hz1
      generalize ((1048576 - la : Nat) : Int) = z at HZ HZ2 hz0
      have HZ' := (show Hid _ from HZ)
      have HZ2' := (show Hid _ from HZ2)
      have HC : Hid (∀ W, NSl W a la l → Calls Tryd.prog 7 #[.slice a la ca] W fun e w' => e = .returned (.slice (some ⟨W.heap.size, 0, none⟩) la la) ∧ Below W.heap.size W w' ∧ NSl w' (some ⟨W.heap.size, 0, none⟩) la l ∧ Mine w' W.heap.size 0 la) := fun W hW => copyN_mine a la ca l W hW hn
      have HD : Hid (∀ W, NSl W b lb m → Calls Tryd.prog 7 #[.slice b lb cb] W fun e w' => e = .returned (.slice (some ⟨W.heap.size, 0, none⟩) lb lb) ∧ Below W.heap.size W w' ∧ NSl w' (some ⟨W.heap.size, 0, none⟩) lb m ∧ Mine w' W.heap.size 0 lb) := fun W hW => copyN_mine b lb cb m W hW (by omega)
      have HS : Hid (∀ W (g g' : Option Addr), NSl W g la l → NSl W g' lb m → Calls Tryd.prog 14 #[.slice g la la, .slice g' lb lb] W fun r w' => r = .returned (.tuple #[.bool (sameR l m), .bool (sameOk l m)]) ∧ Below W.heap.size W w') := fun W g g' hW hW' => specSame_any g la la l g' lb lb m W hW hW' hm hm' hI hI'
      have HI : Hid (∀ W (g g' : Option Addr), Below w.heap.size w W → NSl W g la l → NSl W g' lb m → Calls Tryd.prog 15 #[.slice g la la, .slice g' lb lb] W fun r w' => r = .returned (.tuple #[.bool (sameR l m), .bool (sameOk l m)]) ∧ Below W.heap.size W w') := fun W g g' hb hW hW' => implSame_any g la la l g' lb lb m W (hT.keeps hb) hW hW' hm hm' hI hI'
      have HE : Hid (∀ W (g g' : Option Addr), NSl W g la l → NSl W g' la l → Calls Tryd.prog 10 #[.slice g la la, .slice g' la la] W fun e w' => e = .returned (.bool true) ∧ Below W.heap.size W w') := fun W g g' h1 h2 => eqN_same g g' la la la l W h1 h2 hn
      have HF : Hid (∀ W (g g' : Option Addr), NSl W g lb m → NSl W g' lb m → Calls Tryd.prog 10 #[.slice g lb lb, .slice g' lb lb] W fun e w' => e = .returned (.bool true) ∧ Below W.heap.size W w') := fun W g g' h1 h2 => eqN_same g g' lb lb lb m W h1 h2 (by omega)
      generalize sameR l m = A1 at HS HI
      generalize sameOk l m = A2 at HS HI
      have hG1 : (A1 != A1) = false := by simp
      have hG2 : (A2 != A2) = false := by simp
      clear HZ HZ2 hI hI' hT
      go_enter Tryd.func4, Tryd.ntmps4
      go_wp2_with fail
      refine Calls.mono HZ'.out ?_
      rintro e w1 ⟨rfl, rfl⟩
      go_wp2_with fail
      refine Calls.mono HZ2'.out ?_
      rintro e w1 ⟨rfl, rfl⟩
      clear HZ' HZ2'
      go_wp2_with fail
      refine (HC.out _ h).mono ?_
      rintro e w2 ⟨rfl, hb2, hs2, _⟩
      go_wp2_with fail
      refine (HD.out _ (h'.keep hb2)).mono ?_
      rintro e w3 ⟨rfl, hb3, ht3, _⟩
      have hB3 := hb2.trans (hb3.mono hb2.size)
      have hs3 := hs2.keep hb3
      go_wp2_with fail
      refine (HS.out _ _ _ hs3 ht3).mono ?_
      rintro e w4 ⟨rfl, hb4⟩
      have hB4 := hB3.trans (hb4.mono hB3.size)
      clear hb2 hb3 hb4 hs2 hs3 ht3 hB3 HS
      go_wp2_with fail
      refine (HC.out _ (h.keep hB4)).mono ?_
      rintro e w5 ⟨rfl, hb5, hs5, _⟩
      have hB5 := hB4.trans (hb5.mono hB4.size)
      go_wp2_with fail
      refine (HD.out _ (h'.keep hB5)).mono ?_
      rintro e w6 ⟨rfl, hb6, ht6, _⟩
      have hB6 := hB5.trans (hb6.mono hB5.size)
      have hs6 := hs5.keep hb6
      clear hb5 hb6 hs5 hB4 hB5
      go_wp2_with fail
      refine (HI.out _ _ _ hB6 hs6 ht6).mono ?_
      rintro e w7 ⟨rfl, hb7⟩
      have hB7 := hB6.trans (hb7.mono hB6.size)
      have hs7 := hs6.keep hb7
      have ht7 := ht6.keep hb7
      clear hb7 hB6 hs6 ht6 HI
      go_wp2_with fail
      refine (HC.out _ (h.keep hB7)).mono ?_
      rintro e w8 ⟨rfl, hb8, hs8', _⟩
      have hB8 := hB7.trans (hb8.mono hB7.size)
      have hs8 := hs7.keep hb8
      have ht8 := ht7.keep hb8
      clear hb8 hB7 hs7 ht7
      go_wp2_with fail
      refine (HE.out _ _ _ hs8 hs8').mono ?_
      rintro e w9 ⟨rfl, hb9⟩
      have hB9 := hB8.trans (hb9.mono hB8.size)
      have ht9 := ht8.keep hb9
      clear hb9 hB8 hs8 hs8' ht8
      go_wp2_with fail
      refine (HD.out _ (h'.keep hB9)).mono ?_
      rintro e w10 ⟨rfl, hb10, ht10', _⟩
      have hB10 := hB9.trans (hb10.mono hB9.size)
      have ht10 := ht9.keep hb10
      clear hb10 hB9 ht9
      go_wp2_with fail
      refine (HF.out _ _ _ ht10 ht10').mono ?_
      rintro e w11 ⟨rfl, hb11⟩
      have hB11 := hB10.trans (hb11.mono hB10.size)
      go_wp2
      go_ret
      exact ⟨rfl, hB11⟩
    · rw [if_neg hn2] at HZ2
      generalize ((1048576 - la : Nat) : Int) = z at HZ HZ2 hz0
      have HZ' := (show Hid _ from HZ)
      have HZ2' := (show Hid _ from HZ2)
      clear HZ HZ2
      go_enter Tryd.func4, Tryd.ntmps4
      go_wp2_with fail
      refine Calls.mono HZ'.out ?_
      rintro e w1 ⟨rfl, rfl⟩
      go_wp2_with fail
      refine Calls.mono HZ2'.out ?_
      rintro e w1 ⟨rfl, rfl⟩
      go_wp2
      go_ret
      exact ⟨rfl, Below.refl _ _⟩
  · rw [if_neg hn] at HZ
    have HZ' := (show Hid _ from HZ)
    clear HZ
    go_enter Tryd.func4, Tryd.ntmps4
    go_wp2_with fail
    refine Calls.mono HZ'.out ?_
    rintro e w1 ⟨rfl, rfl⟩
    go_wp2
    go_ret
    exact ⟨rfl, Below.refl _ _⟩
end Go.Proofs.YtpjgjpjfchfmlaaDoor
