/-
  PROVED HERE: the law FnExactJoinTerm's own run, once the program's JoinTerm is known to answer as the model, in memory of its own (a premise here; a theorem of the landed code where it is used).
-/
import Derived.Test.YtlpefaaohcgboaaDoorNodeMarks
import Derived.Test.YtlpefaaohcgboaaDoorLotsOwn
import Derived.Test.YtlpefaaohcgboaaDoorJoin
namespace Go.Proofs.YtlpefaaohcgboaaDoor
open Go.ChangeShapes Go.WideShapes Go.ChangeAt Go.RowKit
set_option linter.unusedVariables false

theorem joinL_len (op : Int) (ls : List (List (Int × Int))) : (joinL op ls).length ≤ 40 := by
  unfold joinL
  split
  · unfold madeL
    split
    · next h => exact (good_pile h).2.2
    · simp
  · simp

set_option maxHeartbeats 3200000 in
theorem joinLaw_any (Pw : World → Prop) (w : World) (HPw : ∀ W, Below w.heap.size w W → Pw W)
    (HI : ∀ W (op : Int) (au : Option Addr) (lu cu : Nat) (ls : List (List (Int × Int))), Pw W → NNSl W au lu ls → lu ≤ cu → lu ≤ 1048576 → Calls Tryd.prog 26 #[.int .i64 op, .slice au lu cu] W fun e w' => ∃ v : Value, e = .returned (.tuple #[v, .bool (joinOk op ls)]) ∧ w'.ownsRow W.heap.size 69 2 v (joinL op ls).length (flat (joinL op ls)) ∧ Below W.heap.size W w')
    (op : Int) (au : Option Addr) (lu cu : Nat) (ls : List (List (Int × Int))) (hu : NNSl w au lu ls) (hmu : lu ≤ 9223372036854775807) :
    Calls Tryd.prog 6 #[.int .i64 op, .slice au lu cu] w fun e w' => e = .returned (.bool true) ∧ Below w.heap.size w w' := by
  have HZ2 := szSS_any au lu cu 1048576 ls w hu (Nat.le_refl _) hmu
  have hlu := hu.1
  by_cases hnu : lu + tot ls lu ≤ 1048576
  · rw [if_pos hnu] at HZ2
    have hz2 : ¬ ((1048576 - lu - tot ls lu : Nat) : Int) < 0 := by omega
    generalize ((1048576 - lu - tot ls lu : Nat) : Int) = z2 at HZ2 hz2
    have hnu' : lu ≤ 1048576 := by omega
    have hpp : ∀ i, i < lu → (ls.getD i []).length ≤ 1048576 := fun i hi' => by have := tot_part ls i lu hi' (by omega); omega
    have HZ2' := (show Hid _ from HZ2)
    have HU : Hid (∀ W, NNSl W au lu ls → Calls Tryd.prog 34 #[.slice au lu cu] W fun e w' => e = .returned (.slice (some ⟨W.heap.size, 0, none⟩) lu lu) ∧ Below W.heap.size W w' ∧ NNSl w' (some ⟨W.heap.size, 0, none⟩) lu ls ∧ Own2 w' W.heap.size ls w'.heap.size) := fun W hW => copyNN_own au lu cu ls W hW hnu' hpp
    have HSp : Hid (∀ W (g' : Option Addr), NNSl W g' lu ls → Calls Tryd.prog 27 #[.int .i64 op, .slice g' lu lu] W fun e w' => ∃ v : Value, e = .returned (.tuple #[v, .bool (joinOk op ls)]) ∧ w'.ownsRow W.heap.size 69 2 v (joinL op ls).length (flat (joinL op ls)) ∧ Below W.heap.size W w') := fun W g' hW' => specJoin_any op g' lu lu ls W hW' hmu
    have HIm : Hid (∀ W (g' : Option Addr), Below w.heap.size w W → NNSl W g' lu ls → Calls Tryd.prog 26 #[.int .i64 op, .slice g' lu lu] W fun e w' => ∃ v : Value, e = .returned (.tuple #[v, .bool (joinOk op ls)]) ∧ w'.ownsRow W.heap.size 69 2 v (joinL op ls).length (flat (joinL op ls)) ∧ Below W.heap.size W w') := fun W g' hW hS' => HI W op g' lu lu ls (HPw W hW) hS' (Nat.le_refl _) hnu'
    have HEu : Hid (∀ W (g g' : Option Addr), NNSl W g lu ls → NNSl W g' lu ls → Calls Tryd.prog 35 #[.slice g lu lu, .slice g' lu lu] W fun e w' => e = .returned (.bool true) ∧ Below W.heap.size W w') := fun W g g' h1 h2 => eqNN_same g g' lu lu lu ls W h1 h2 hnu' hpp
    have hL := joinL_len op ls
    generalize joinOk op ls = G at HSp HIm
    generalize joinL op ls = L at HSp HIm hL
    have HQ : Hid (∀ W (u v : Value) (b b' : Nat), W.ownsRow b 69 2 u L.length (flat L) → W.ownsRow b' 69 2 v L.length (flat L) → Calls Tryd.prog 30 #[u, v] W fun e w' => e = .returned (.bool true) ∧ Below W.heap.size W w') := fun W u v b b' h1 h2 => by
      obtain ⟨a1, c1, rfl, s1⟩ := NSl.row h1
      obtain ⟨a2, c2, rfl, s2⟩ := NSl.row h2
      exact eqN_same a1 a2 _ c1 c2 L W s1 s2 (by omega)
    have HMu : Hid (∀ W b hi, Own2 W b ls hi → Calls Tryd.prog 36 #[.slice (some ⟨b, 0, none⟩) lu lu, .int .i64 1] W fun e w' => e = .returned (.int .i64 (1 + 2 * tot ls lu : Nat)) ∧ Within b hi W w') := fun W b hi hW => by
      obtain ⟨f, h1, h2, h3, _, h4⟩ := hW
      rw [hlu] at h1 h2 h4
      exact markNN_any b lu lu 1 hi ls f W hlu h1 h3 (.inr h2) h4 (by omega) (by omega)
    have HMI : Hid (∀ W (v : Value) b, W.ownsRow b 69 2 v L.length (flat L) → Calls Tryd.prog 31 #[v, .int .i64 1] W fun e w' => e = .returned (.int .i64 (1 + 2 * L.length : Nat)) ∧ W.grownBy w' v.ownBlock ∧ ∃ a cap, v = .slice a L.length cap ∧ NSl w' a L.length (marks 1 L.length)) := fun W v b hW => markN_row b _ v _ L W hW (by omega)
    have HH : Hid (∀ W (a : Option Addr) (c : Nat), NSl W a L.length (marks 1 L.length) → Calls Tryd.prog 32 #[.slice a L.length c, .int .i64 1] W fun e w' => e = .returned (.int .i64 (1 + 2 * L.length : Nat)) ∧ w' = W) := fun W a c hW => held_any a _ c 1 W hW (by omega) (by omega)
    have hGG : (G != G) = false := by simp
    have hk1 : ¬ ((1 + 2 * tot ls lu : Nat) : Int) < 0 := by omega
    generalize ((1 + 2 * tot ls lu : Nat) : Int) = zk at HMu hk1
    have hq1 : ¬ ((1 + 2 * L.length : Nat) : Int) < 0 := by omega
    generalize ((1 + 2 * L.length : Nat) : Int) = zq at HMI HH hq1
    have hqq : (zq != zq) = false := by simp
    clear HZ2 HI HPw
    go_enter Tryd.func6, Tryd.ntmps6
    go_wp2_with fail
    refine Calls.mono HZ2'.out ?_
    rintro e w1 ⟨rfl, rfl⟩
    clear HZ2'
    go_wp2_with fail
    refine (HU.out _ hu).mono ?_
    rintro e w2 ⟨rfl, hb2, hu2, _⟩
    go_wp2_with fail
    refine (HSp.out _ _ hu2).mono ?_
    rintro e w4 ⟨vW, rfl, rW4, hb4⟩
    have hB4 := hb2.trans (hb4.mono hb2.size)
    have hWin := own_in rW4
    clear hb2 hb4 hu2 HSp
    go_wp2_with fail
    refine (HU.out _ (hu.keep hB4)).mono ?_
    rintro e w5 ⟨rfl, hb5, hu5, hn5⟩
    have hB5 := hB4.trans (hb5.mono hB4.size)
    have rW5 := own_keep rW4 hb5
    have hY : w4.heap.size < w5.heap.size := hn5.lt
    have hX0 := hB4.size
    clear hb5 hB4 rW4
    go_wp2_with fail
    refine (HIm.out _ _ hB5 hu5).mono ?_
    rintro e w6 ⟨vG, rfl, rG6, hb6⟩
    have hB6 := hB5.trans (hb6.mono hB5.size)
    have rW6 := own_keep rW5 hb6
    have hu6 := hu5.keep hb6
    have hn6 := hn5.keep hb6
    have hGge := own_ge rG6
    clear hb6 rW5 hu5 hn5 hB5
    go_wp2_with fail
    refine (HQ.out _ _ _ _ _ rG6 rW6).mono ?_
    rintro e w9 ⟨rfl, hb9⟩
    have hB9 := hB6.trans (hb9.mono hB6.size)
    have rW9 := own_keep rW6 hb9
    have rG9 := own_keep rG6 hb9
    have hu9 := hu6.keep hb9
    have hn9 := hn6.keep hb9
    clear hb9 rW6 rG6 hu6 hn6 hB6
    go_wp2_with fail
    refine (HU.out _ (hu.keep hB9)).mono ?_
    rintro e w10 ⟨rfl, hb10, hu10', _⟩
    have hB10 := hB9.trans (hb10.mono hB9.size)
    have rW10 := own_keep rW9 hb10
    have rG10 := own_keep rG9 hb10
    have hu10 := hu9.keep hb10
    have hn10 := hn9.keep hb10
    clear hb10 rW9 rG9 hu9 hn9 hB9
    go_wp2_with fail
    refine (HEu.out _ _ _ hu10 hu10').mono ?_
    rintro e w12 ⟨rfl, hb12⟩
    have hB12 := hB10.trans (hb12.mono hB10.size)
    have rW12 := own_keep rW10 hb12
    have rG12 := own_keep rG10 hb12
    have hn12 := hn10.keep hb12
    clear hb12 rW10 rG10 hu10 hu10' hn10 hB10
    go_wp2_with fail
    refine (HMu.out _ _ _ hn12).mono ?_
    rintro e w13 ⟨rfl, hg13⟩
    have hB13 : Below w1.heap.size w1 w13 := Within.below hB12 hg13 hX0 hB12.size
    have rW13 := own_within rW12 hg13 (fun x hx => .inl (by have := hWin _ hx; omega))
    have rG13 := own_within rG12 hg13 (fun x hx => .inr (hGge _ hx))
    clear hg13 rW12 rG12 hn12 hB12
    go_wp2_with fail
    refine (HQ.out _ _ _ _ _ rG13 rW13).mono ?_
    rintro e w14 ⟨rfl, hb14⟩
    have hB14 := hB13.trans (hb14.mono hB13.size)
    have rW14 := own_keep rW13 hb14
    have rG14 := own_keep rG13 hb14
    clear hb14 rW13 rG13 hB13
    go_wp2_with fail
    refine (HMI.out _ _ _ rG14).mono ?_
    rintro e w15 ⟨rfl, hg15, aG, cG, rfl, hsG15⟩
    have hB15 : Below w1.heap.size w1 w15 := hB14.grown hg15 hB14.size (fun r hr => by have := hGge r hr; omega)
    have rW15 := own_grown rW14 hg15 (fun x hx e => by have := hWin _ hx; have := hGge _ e.symm; omega)
    clear hg15 rW14 rG14 hB14
    go_wp2_with fail
    refine (HH.out _ _ _ hsG15).mono ?_
    rintro e w16 ⟨rfl, rfl⟩
    go_wp2_with fail
    refine (HU.out _ (hu.keep hB15)).mono ?_
    rintro e w18 ⟨rfl, hb18, hu18, _⟩
    have hB18 := hB15.trans (hb18.mono hB15.size)
    have rW18 := own_keep rW15 hb18
    have hsG18 := hsG15.keep hb18
    clear hb18 rW15 hsG15 hB15
    go_wp2_with fail
    refine (HIm.out _ _ hB18 hu18).mono ?_
    rintro e w19 ⟨vH, rfl, rH19, hb19⟩
    have hB19 := hB18.trans (hb19.mono hB18.size)
    have rW19 := own_keep rW18 hb19
    have hsG19 := hsG18.keep hb19
    clear hb19 rW18 hsG18 hu18 hB18
    go_wp2_with fail
    refine (HQ.out _ _ _ _ _ rH19 rW19).mono ?_
    rintro e w20 ⟨rfl, hb20⟩
    have hB20 := hB19.trans (hb20.mono hB19.size)
    have hsG20 := hsG19.keep hb20
    clear hb20 rW19 rH19 hsG19 hB19
    go_wp2_with fail
    refine (HH.out _ _ _ hsG20).mono ?_
    rintro e w21 ⟨rfl, rfl⟩
    go_wp2
    go_ret
    exact ⟨rfl, hB20⟩
  · rw [if_neg hnu] at HZ2
    have HZ2' := (show Hid _ from HZ2)
    clear HZ2 HI HPw
    go_enter Tryd.func6, Tryd.ntmps6
    go_wp2_with fail
    refine Calls.mono HZ2'.out ?_
    rintro e w1 ⟨rfl, rfl⟩
    go_wp2
    go_ret
    exact ⟨rfl, Below.refl _ _⟩
end Go.Proofs.YtlpefaaohcgboaaDoor
