/-
  PROVED HERE: the law FnExactReplaceAt's own run, once the program's ReplaceAt is known to answer as the model, in memory of its own (a premise here; a theorem of the landed code where it is used).
-/
import Derived.Test.YtlpefaaohcgboaaDoorNodeMarks
import Derived.Test.YtlpefaaohcgboaaDoorReplaceAt
namespace Go.Proofs.YtlpefaaohcgboaaDoor
open Go.ChangeShapes Go.WideShapes Go.ChangeAt Go.RowKit
set_option linter.unusedVariables false

theorem madeL_len (l : List (Int × Int)) : (madeL l).length ≤ 40 := by
  unfold madeL
  split
  · next h => exact (good_pile h).2.2
  · simp
theorem replL_len (l : List (Int × Int)) (k : Int) (u : List (Int × Int)) : (replL l k u).length ≤ 40 := by
  unfold replL
  split
  · exact madeL_len _
  · simp
theorem Mine.grown {w w' : World} {b off len : Nat} {r : Option Nat} (h : Mine w b off len) (hg : w.grownBy w' r) (hne : some b ≠ r) : Mine w' b off len := by
  refine ⟨Nat.lt_of_lt_of_le h.1 hg.size, fun i hi => ?_⟩
  have e := hg.block b h.1 hne
  obtain ⟨⟨v, hv⟩, hf⟩ := h.2 i hi
  refine ⟨⟨v, ?_⟩, ?_⟩
  · rw [← hv]; simp only [World.cell?, e]
  · rw [← hf]; simp only [World.frozen?, e]

set_option maxHeartbeats 3200000 in
theorem replaceLaw_any (Pw : World → Prop) (w : World) (HPw : ∀ W, Below w.heap.size w W → Pw W)
    (HI : ∀ W (a : Option Addr) (len cap : Nat) (l : List (Int × Int)) (kk : Int) (au : Option Addr) (lu cu : Nat) (u : List (Int × Int)), Pw W → NSl W a len l → len ≤ cap → len ≤ 1048576 → NSl W au lu u → lu ≤ cu → lu ≤ 1048576 → Calls Tryd.prog 21 #[.slice a len cap, .int .i64 kk, .slice au lu cu] W fun e w' => ∃ v : Value, e = .returned (.tuple #[v, .bool (replOk l kk u)]) ∧ w'.ownsRow W.heap.size 69 2 v (replL l kk u).length (flat (replL l kk u)) ∧ Below W.heap.size W w')
    (a : Option Addr) (len cap : Nat) (l : List (Int × Int)) (kk : Int) (au : Option Addr) (lu cu : Nat) (u : List (Int × Int)) (h : NSl w a len l) (hm : len ≤ 9223372036854775807) (hu : NSl w au lu u) (hmu : lu ≤ 9223372036854775807) :
    Calls Tryd.prog 5 #[.slice a len cap, .int .i64 kk, .slice au lu cu] w fun e w' => e = .returned (.bool true) ∧ Below w.heap.size w w' := by
  have HZ := sz_any a len cap 1048576 w (Nat.le_refl _) hm
  by_cases hn : len ≤ 1048576
  · rw [if_pos hn] at HZ
    have HZ2 := sz_any au lu cu (1048576 - len) w (by omega) hmu
    have hz0 : ¬ ((1048576 - len : Nat) : Int) < 0 := by omega
    by_cases hnu : lu ≤ 1048576 - len
    · rw [if_pos hnu] at HZ2
      have hz2 : ¬ ((1048576 - len - lu : Nat) : Int) < 0 := by omega
      generalize ((1048576 - len - lu : Nat) : Int) = z2 at HZ2 hz2
      generalize ((1048576 - len : Nat) : Int) = z at HZ HZ2 hz0
      have hnu' : lu ≤ 1048576 := by omega
      have HZ' := (show Hid _ from HZ)
      have HZ2' := (show Hid _ from HZ2)
      have HC : Hid (∀ W, NSl W a len l → Calls Tryd.prog 29 #[.slice a len cap] W fun e w' => e = .returned (.slice (some ⟨W.heap.size, 0, none⟩) len len) ∧ Below W.heap.size W w' ∧ NSl w' (some ⟨W.heap.size, 0, none⟩) len l ∧ Mine w' W.heap.size 0 len) := fun W hW => copyN_mine a len cap l W hW hn
      have HU : Hid (∀ W, NSl W au lu u → Calls Tryd.prog 29 #[.slice au lu cu] W fun e w' => e = .returned (.slice (some ⟨W.heap.size, 0, none⟩) lu lu) ∧ Below W.heap.size W w' ∧ NSl w' (some ⟨W.heap.size, 0, none⟩) lu u ∧ Mine w' W.heap.size 0 lu) := fun W hW => copyN_mine au lu cu u W hW hnu'
      have HSp : Hid (∀ W (g g' : Option Addr), NSl W g len l → NSl W g' lu u → Calls Tryd.prog 22 #[.slice g len len, .int .i64 kk, .slice g' lu lu] W fun e w' => ∃ v : Value, e = .returned (.tuple #[v, .bool (replOk l kk u)]) ∧ w'.ownsRow W.heap.size 69 2 v (replL l kk u).length (flat (replL l kk u)) ∧ Below W.heap.size W w') := fun W g g' hW hW' => specReplace_any g len len l kk g' lu lu u W hW hW' hm hmu (Nat.le_refl _)
      have HIm : Hid (∀ W (g g' : Option Addr), Below w.heap.size w W → NSl W g len l → NSl W g' lu u → Calls Tryd.prog 21 #[.slice g len len, .int .i64 kk, .slice g' lu lu] W fun e w' => ∃ v : Value, e = .returned (.tuple #[v, .bool (replOk l kk u)]) ∧ w'.ownsRow W.heap.size 69 2 v (replL l kk u).length (flat (replL l kk u)) ∧ Below W.heap.size W w') := fun W g g' hW hS hS' => HI W g len len l kk g' lu lu u (HPw W hW) hS (Nat.le_refl _) hn hS' (Nat.le_refl _) hnu'
      have HE : Hid (∀ W (g g' : Option Addr), NSl W g len l → NSl W g' len l → Calls Tryd.prog 30 #[.slice g len len, .slice g' len len] W fun e w' => e = .returned (.bool true) ∧ Below W.heap.size W w') := fun W g g' h1 h2 => eqN_same g g' len len len l W h1 h2 hn
      have HEu : Hid (∀ W (g g' : Option Addr), NSl W g lu u → NSl W g' lu u → Calls Tryd.prog 30 #[.slice g lu lu, .slice g' lu lu] W fun e w' => e = .returned (.bool true) ∧ Below W.heap.size W w') := fun W g g' h1 h2 => eqN_same g g' lu lu lu u W h1 h2 hnu'
      have hL := replL_len l kk u
      generalize replOk l kk u = G at HSp HIm
      generalize replL l kk u = L at HSp HIm hL
      have HQ : Hid (∀ W (u v : Value) (b b' : Nat), W.ownsRow b 69 2 u L.length (flat L) → W.ownsRow b' 69 2 v L.length (flat L) → Calls Tryd.prog 30 #[u, v] W fun e w' => e = .returned (.bool true) ∧ Below W.heap.size W w') := fun W u v b b' h1 h2 => by
        obtain ⟨a1, c1, rfl, s1⟩ := NSl.row h1
        obtain ⟨a2, c2, rfl, s2⟩ := NSl.row h2
        exact eqN_same a1 a2 _ c1 c2 L W s1 s2 (by omega)
      have HM : Hid (∀ W b, Mine W b 0 len → Calls Tryd.prog 31 #[.slice (some ⟨b, 0, none⟩) len len, .int .i64 1] W fun e w' => e = .returned (.int .i64 (1 + 2 * len : Nat)) ∧ W.grownBy w' (some b) ∧ NSl w' (some ⟨b, 0, none⟩) len (marks 1 len)) := fun W b hW => mark_any b 0 len len 1 W hW hn (by omega)
      have HMu : Hid (∀ W b, Mine W b 0 lu → Calls Tryd.prog 31 #[.slice (some ⟨b, 0, none⟩) lu lu, .int .i64 (1 + 2 * len : Nat)] W fun e w' => e = .returned (.int .i64 (1 + 2 * len + 2 * lu : Nat)) ∧ W.grownBy w' (some b) ∧ NSl w' (some ⟨b, 0, none⟩) lu (marks (1 + 2 * len) lu)) := fun W b hW => mark_any b 0 lu lu (1 + 2 * len) W hW hnu' (by omega)
      have HMI : Hid (∀ W (v : Value) b, W.ownsRow b 69 2 v L.length (flat L) → Calls Tryd.prog 31 #[v, .int .i64 1] W fun e w' => e = .returned (.int .i64 (1 + 2 * L.length : Nat)) ∧ W.grownBy w' v.ownBlock ∧ ∃ a cap, v = .slice a L.length cap ∧ NSl w' a L.length (marks 1 L.length)) := fun W v b hW => markN_row b _ v _ L W hW (by omega)
      have HH : Hid (∀ W (a : Option Addr) (c : Nat), NSl W a L.length (marks 1 L.length) → Calls Tryd.prog 32 #[.slice a L.length c, .int .i64 1] W fun e w' => e = .returned (.int .i64 (1 + 2 * L.length : Nat)) ∧ w' = W) := fun W a c hW => held_any a _ c 1 W hW (by omega) (by omega)
      have hGG : (G != G) = false := by simp
      have hk1 : ¬ ((1 + 2 * len + 2 * lu : Nat) : Int) < 0 := by omega
      generalize ((1 + 2 * len + 2 * lu : Nat) : Int) = zk at HMu hk1
      generalize ((1 + 2 * len : Nat) : Int) = zl at HM HMu
      have hq1 : ¬ ((1 + 2 * L.length : Nat) : Int) < 0 := by omega
      generalize ((1 + 2 * L.length : Nat) : Int) = zq at HMI HH hq1
      have hqq : (zq != zq) = false := by simp
      clear HZ HZ2 HI HPw
      go_enter Tryd.func5, Tryd.ntmps5
      go_wp2_with fail
      refine Calls.mono HZ'.out ?_
      rintro e w0 ⟨rfl, rfl⟩
      go_wp2_with fail
      refine Calls.mono HZ2'.out ?_
      rintro e w1 ⟨rfl, rfl⟩
      clear HZ' HZ2'
      go_wp2_with fail
      refine (HC.out _ h).mono ?_
      rintro e w2 ⟨rfl, hb2, hs2, _⟩
      go_wp2_with fail
      refine (HU.out _ (hu.keep hb2)).mono ?_
      rintro e w2' ⟨rfl, hb2', hu2, _⟩
      have hB2 := hb2.trans (hb2'.mono hb2.size)
      have hs2' := hs2.keep hb2'
      go_wp2_with fail
      refine (HSp.out _ _ _ hs2' hu2).mono ?_
      rintro e w3 ⟨vW, rfl, rW3, hb3⟩
      have hB3 := hB2.trans (hb3.mono hB2.size)
      have hWin := own_in rW3
      clear hb2 hb2' hB2 hb3 hs2 hs2' hu2 HSp
      go_wp2_with fail
      refine (HC.out _ (h.keep hB3)).mono ?_
      rintro e w4 ⟨rfl, hb4, hs4, hm4⟩
      have hB4 := hB3.trans (hb4.mono hB3.size)
      have rW4 := own_keep rW3 hb4
      have hX : w3.heap.size < w4.heap.size := hm4.1
      have hX0 := hB3.size
      clear hb4 hB3 rW3
      go_wp2_with fail
      refine (HU.out _ (hu.keep hB4)).mono ?_
      rintro e w5 ⟨rfl, hb5, hu5, hn5⟩
      have hB5 := hB4.trans (hb5.mono hB4.size)
      have rW5 := own_keep rW4 hb5
      have hs5 := hs4.keep hb5
      have hm5 := hm4.keep hb5
      have hY : w4.heap.size < w5.heap.size := hn5.1
      clear hb5 hB4 rW4 hs4 hm4
      go_wp2_with fail
      refine (HIm.out _ _ _ hB5 hs5 hu5).mono ?_
      rintro e w6 ⟨vG, rfl, rG6, hb6⟩
      have hB6 := hB5.trans (hb6.mono hB5.size)
      have rW6 := own_keep rW5 hb6
      have hs6 := hs5.keep hb6
      have hm6 := hm5.keep hb6
      have hu6 := hu5.keep hb6
      have hn6 := hn5.keep hb6
      have hGge := own_ge rG6
      clear hb6 rW5 hs5 hm5 hu5 hn5 hB5
      go_wp2_with fail
      refine (HQ.out _ _ _ _ _ rG6 rW6).mono ?_
      rintro e w7 ⟨rfl, hb7⟩
      have hB7 := hB6.trans (hb7.mono hB6.size)
      have rW7 := own_keep rW6 hb7
      have rG7 := own_keep rG6 hb7
      have hs7 := hs6.keep hb7
      have hm7 := hm6.keep hb7
      have hu7 := hu6.keep hb7
      have hn7 := hn6.keep hb7
      clear hb7 rW6 rG6 hs6 hm6 hu6 hn6 hB6
      go_wp2_with fail
      refine (HC.out _ (h.keep hB7)).mono ?_
      rintro e w8 ⟨rfl, hb8, hs8, _⟩
      have hB8 := hB7.trans (hb8.mono hB7.size)
      have rW8 := own_keep rW7 hb8
      have rG8 := own_keep rG7 hb8
      have hs8' := hs7.keep hb8
      have hm8 := hm7.keep hb8
      have hu8 := hu7.keep hb8
      have hn8 := hn7.keep hb8
      clear hb8 rW7 rG7 hs7 hm7 hu7 hn7 hB7
      go_wp2_with fail
      refine (HE.out _ _ _ hs8' hs8).mono ?_
      rintro e w9 ⟨rfl, hb9⟩
      have hB9 := hB8.trans (hb9.mono hB8.size)
      have rW9 := own_keep rW8 hb9
      have rG9 := own_keep rG8 hb9
      have hm9 := hm8.keep hb9
      have hu9 := hu8.keep hb9
      have hn9 := hn8.keep hb9
      clear hb9 rW8 rG8 hs8 hs8' hm8 hu8 hn8 hB8
      go_wp2_with fail
      refine (HU.out _ (hu.keep hB9)).mono ?_
      rintro e w10 ⟨rfl, hb10, hu10', _⟩
      have hB10 := hB9.trans (hb10.mono hB9.size)
      have rW10 := own_keep rW9 hb10
      have rG10 := own_keep rG9 hb10
      have hm10 := hm9.keep hb10
      have hu10 := hu9.keep hb10
      have hn10 := hn9.keep hb10
      clear hb10 rW9 rG9 hm9 hu9 hn9 hB9
      go_wp2_with fail
      refine (HEu.out _ _ _ hu10 hu10').mono ?_
      rintro e w11 ⟨rfl, hb11⟩
      have hB11 := hB10.trans (hb11.mono hB10.size)
      have rW11 := own_keep rW10 hb11
      have rG11 := own_keep rG10 hb11
      have hm11 := hm10.keep hb11
      have hn11 := hn10.keep hb11
      clear hb11 rW10 rG10 hm10 hu10 hu10' hn10 hB10
      go_wp2_with fail
      refine (HM.out _ _ hm11).mono ?_
      rintro e w12 ⟨rfl, hg12, _⟩
      have hB12 : Below w1.heap.size w1 w12 := hB11.grown hg12 hB11.size (fun r hr => by cases hr; exact hX0)
      have rW12 := own_grown rW11 hg12 (fun x hx e => by cases e; exact absurd (hWin _ hx) (Nat.lt_irrefl _))
      have rG12 := own_grown rG11 hg12 (fun x hx e => by cases e; have := hGge _ hx; omega)
      have hn12 := hn11.grown hg12 (fun e => by have := Option.some.inj e; omega)
      clear hg12 rW11 rG11 hm11 hn11 hB11
      go_wp2_with fail
      refine (HMu.out _ _ hn12).mono ?_
      rintro e w13 ⟨rfl, hg13, _⟩
      have hB13 : Below w1.heap.size w1 w13 := hB12.grown hg13 hB12.size (fun r hr => by cases hr; omega)
      have rW13 := own_grown rW12 hg13 (fun x hx e => by cases e; have := hWin _ hx; omega)
      have rG13 := own_grown rG12 hg13 (fun x hx e => by cases e; have := hGge _ hx; omega)
      clear hg13 rW12 rG12 hn12 hB12
      go_wp2_with fail
      refine (HQ.out _ _ _ _ _ rG13 rW13).mono ?_
      rintro e w14 ⟨rfl, hb14⟩
      have hB14 := hB13.trans (hb14.mono hB13.size)
      have rW14 := own_keep rW13 hb14
      have rG14 := own_keep rG13 hb14
      clear hb14 rW13 rG13 hB13
      go_wp2_with fail
      refine (HMI.out _ _ _ rG14).mono ?_
      rintro e w15 ⟨rfl, hg15, aG, cG, rfl, hsG15⟩
      have hB15 : Below w1.heap.size w1 w15 := hB14.grown hg15 hB14.size (fun r hr => by have := hGge r hr; omega)
      have rW15 := own_grown rW14 hg15 (fun x hx e => by have := hWin _ hx; have := hGge _ e.symm; omega)
      clear hg15 rW14 rG14 hB14
      go_wp2_with fail
      refine (HH.out _ _ _ hsG15).mono ?_
      rintro e w16 ⟨rfl, rfl⟩
      go_wp2_with fail
      refine (HC.out _ (h.keep hB15)).mono ?_
      rintro e w17 ⟨rfl, hb17, hs17, _⟩
      have hB17 := hB15.trans (hb17.mono hB15.size)
      have rW17 := own_keep rW15 hb17
      have hsG17 := hsG15.keep hb17
      clear hb17 rW15 hsG15 hB15
      go_wp2_with fail
      refine (HU.out _ (hu.keep hB17)).mono ?_
      rintro e w18 ⟨rfl, hb18, hu18, _⟩
      have hB18 := hB17.trans (hb18.mono hB17.size)
      have rW18 := own_keep rW17 hb18
      have hsG18 := hsG17.keep hb18
      have hs18 := hs17.keep hb18
      clear hb18 rW17 hsG17 hs17 hB17
      go_wp2_with fail
      refine (HIm.out _ _ _ hB18 hs18 hu18).mono ?_
      rintro e w19 ⟨vH, rfl, rH19, hb19⟩
      have hB19 := hB18.trans (hb19.mono hB18.size)
      have rW19 := own_keep rW18 hb19
      have hsG19 := hsG18.keep hb19
      clear hb19 rW18 hsG18 hs18 hu18 hB18
      go_wp2_with fail
      refine (HQ.out _ _ _ _ _ rH19 rW19).mono ?_
      rintro e w20 ⟨rfl, hb20⟩
      have hB20 := hB19.trans (hb20.mono hB19.size)
      have hsG20 := hsG19.keep hb20
      clear hb20 rW19 rH19 hsG19 hB19
      go_wp2_with fail
      refine (HH.out _ _ _ hsG20).mono ?_
      rintro e w21 ⟨rfl, rfl⟩
      go_wp2
      go_ret
      exact ⟨rfl, hB20⟩
    · rw [if_neg hnu] at HZ2
      generalize ((1048576 - len : Nat) : Int) = z at HZ HZ2 hz0
      have HZ' := (show Hid _ from HZ)
      have HZ2' := (show Hid _ from HZ2)
      clear HZ HZ2 HI HPw
      go_enter Tryd.func5, Tryd.ntmps5
      go_wp2_with fail
      refine Calls.mono HZ'.out ?_
      rintro e w0 ⟨rfl, rfl⟩
      go_wp2_with fail
      refine Calls.mono HZ2'.out ?_
      rintro e w1 ⟨rfl, rfl⟩
      go_wp2
      go_ret
      exact ⟨rfl, Below.refl _ _⟩
  · rw [if_neg hn] at HZ
    have HZ' := (show Hid _ from HZ)
    clear HZ HI HPw
    go_enter Tryd.func5, Tryd.ntmps5
    go_wp2_with fail
    refine Calls.mono HZ'.out ?_
    rintro e w1 ⟨rfl, rfl⟩
    go_wp2
    go_ret
    exact ⟨rfl, Below.refl _ _⟩
end Go.Proofs.YtlpefaaohcgboaaDoor
