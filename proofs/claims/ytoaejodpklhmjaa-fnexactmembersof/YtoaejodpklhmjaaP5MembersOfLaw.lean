/-
  PROVED HERE: the law FnExactMembersOf's own run, at every argument. No other condition.
-/
import Derived.Test.YtoaejodpklhmjaaP5Members
import Derived.Test.YtoaejodpklhmjaaCopyI
import Derived.Test.YtoaejodpklhmjaaInts
import Derived.Test.YtoaejodpklhmjaaP5Keeps
import Derived.Test.YtoaejodpklhmjaaRow
namespace Go.Proofs.Ytoaejodpklhmjaa
open Go.ChangeShapes Go.WideShapes Go.ChangeAt Go.RowKit
set_option linter.unusedVariables false

theorem fewMembers (l : List Int) (k : Int) : (membersR l k).length ≤ 200 := by
  unfold membersR
  split
  · rename_i h
    unfold askedB at h
    rw [Bool.and_eq_true] at h
    have := ((partB_iff l).1 h.1).1
    have := places_len l (l.getD k.toNat 0)
    omega
  · simp
set_option maxHeartbeats 3200000 in
theorem membersLaw_any (a : Option Addr) (len cap : Nat) (l : List Int) (k : Int) (w : World) (h : Sl w a len l) (hm : len ≤ 9223372036854775807) :
    Calls Try.prog 5 #[.slice a len cap, .int .i64 k] w fun e w' => e = .returned (.bool true) ∧ Below w.heap.size w w' := by
  have hll := h.1
  by_cases hn : len ≤ 1048576
  · have hbi : ¬ (1048576 : Int) < len := by omega
    have HC : Hid (∀ W, Sl W a len l → Calls Try.prog 39 #[.slice a len cap] W fun e w' => e = .returned (.slice (some ⟨W.heap.size, 0, none⟩) len len) ∧ Below W.heap.size W w' ∧ Sl w' (some ⟨W.heap.size, 0, none⟩) len l ∧ MineI w' W.heap.size len) := fun W hW => copyI_mine a len cap l W hW hn
    have HSp : Hid (∀ W (g : Addr), Sl W (some g) len l → Calls Try.prog 31 #[.slice (some g) len len, .int .i64 k] W fun e w' => ∃ v : Value, e = .returned (.tuple #[v, .bool (askedB l k)]) ∧ w'.ownsRow W.heap.size 3 1 v (membersR l k).length (vals (membersR l k)) ∧ Below W.heap.size W w') := fun W g hW => specMembers_any (some g) len len l k W hW hm
    have HIm : Hid (∀ W (g : Addr), Sl W (some g) len l → Calls Try.prog 30 #[.slice (some g) len len, .int .i64 k] W fun e w' => ∃ v : Value, e = .returned (.tuple #[v, .bool (askedB l k)]) ∧ w'.ownsRow W.heap.size 3 1 v (membersR l k).length (vals (membersR l k)) ∧ Below W.heap.size W w') := fun W g hW => implMembers_any (some g) len len l k W hW hm
    have HE : Hid (∀ W (g g' : Option Addr), Sl W g len l → Sl W g' len l → Calls Try.prog 40 #[.slice g len len, .slice g' len len] W fun e w' => e = .returned (.bool true) ∧ Below W.heap.size W w') := fun W g g' h1 h2 => eqI_same g g' len len len l W h1 h2 hn
    have hL := fewMembers l k
    generalize askedB l k = G at HSp HIm
    generalize membersR l k = L at HSp HIm hL
    have HQ : Hid (∀ W (u v : Value) (b b' : Nat), W.ownsRow b 3 1 u L.length (vals L) → W.ownsRow b' 3 1 v L.length (vals L) → Calls Try.prog 40 #[u, v] W fun e w' => e = .returned (.bool true) ∧ Below W.heap.size W w') := fun W u v b b' h1 h2 => by
      obtain ⟨a1, c1, rfl, s1⟩ := Sl.vals h1
      obtain ⟨a2, c2, rfl, s2⟩ := Sl.vals h2
      exact eqI_same a1 a2 _ c1 c2 L W s1 s2 (by omega)
    have HM : Hid (∀ W b, MineI W b len → Calls Try.prog 41 #[.slice (some ⟨b, 0, none⟩) len len, .int .i64 1] W fun e w' => e = .returned (.int .i64 (1 + len : Nat)) ∧ W.grownBy w' (some b)) := fun W b hW => (markI_any b len len 1 W hW hn (by omega)).mono fun e w' ⟨h1, h2, _⟩ => ⟨h1, h2⟩
    have HMI : Hid (∀ W (v : Value) b, W.ownsRow b 3 1 v L.length (vals L) → Calls Try.prog 41 #[v, .int .i64 1] W fun e w' => e = .returned (.int .i64 (1 + L.length : Nat)) ∧ W.grownBy w' v.ownBlock ∧ ∃ a cap, v = .slice a L.length cap ∧ Sl w' a L.length (marksI 1 L.length)) := fun W v b hW => markI_row b _ v _ L W hW (by omega)
    have HH : Hid (∀ W (a : Option Addr) (c : Nat), Sl W a L.length (marksI 1 L.length) → Calls Try.prog 42 #[.slice a L.length c, .int .i64 1] W fun e w' => e = .returned (.int .i64 (1 + L.length : Nat)) ∧ w' = W) := fun W a c hW => heldI_any a _ c 1 W hW (by omega) (by omega)
    have hGG : (G != G) = false := by simp
    have hk1 : ¬ ((1 + len : Nat) : Int) < 0 := by omega
    generalize ((1 + len : Nat) : Int) = zk at HM hk1
    have hq1 : ¬ ((1 + L.length : Nat) : Int) < 0 := by omega
    generalize ((1 + L.length : Nat) : Int) = zq at HMI HH hq1
    have hqq : (zq != zq) = false := by simp
    clear hll
    go_enter Try.func5, Try.ntmps5
    go_wp2_with fail
    refine (HC.out _ h).mono ?_
    rintro e w2 ⟨rfl, hb2, hs2, _⟩
    go_wp2_with fail
    refine (HSp.out _ _ hs2).mono ?_
    rintro e w3 ⟨vW, rfl, rW3, hb3⟩
    have hB3 := hb2.trans (hb3.mono hb2.size)
    have hWin := row_in rW3
    clear hb2 hb3 hs2 HSp
    go_wp2_with fail
    refine (HC.out _ (h.keep hB3)).mono ?_
    rintro e w4 ⟨rfl, hb4, hs4, hm4⟩
    have hB4 := hB3.trans (hb4.mono hB3.size)
    have rW4 := row_keep rW3 hb4
    have hX : w3.heap.size < w4.heap.size := hm4.1
    have hX0 := hB3.size
    clear hb4 hB3 rW3
    go_wp2_with fail
    refine (HIm.out _ _ hs4).mono ?_
    rintro e w5 ⟨vG, rfl, rG5, hb5⟩
    have hB5 := hB4.trans (hb5.mono hB4.size)
    have rW5 := row_keep rW4 hb5
    have hs5 := hs4.keep hb5
    have hm5 := hm4.keep hb5
    have hGge := own_ge rG5
    clear hb5 rW4 hs4 hm4
    go_wp2_with fail
    refine (HQ.out _ _ _ _ _ rG5 rW5).mono ?_
    rintro e w6 ⟨rfl, hb6⟩
    have hB6 := hB5.trans (hb6.mono hB5.size)
    have rW6 := row_keep rW5 hb6
    have rG6 := row_keep rG5 hb6
    have hs6 := hs5.keep hb6
    have hm6 := hm5.keep hb6
    clear hb6 rW5 rG5 hs5 hm5 hB5
    go_wp2_with fail
    refine (HC.out _ (h.keep hB6)).mono ?_
    rintro e w7 ⟨rfl, hb7, hs7, _⟩
    have hB7 := hB6.trans (hb7.mono hB6.size)
    have rW7 := row_keep rW6 hb7
    have rG7 := row_keep rG6 hb7
    have hs7' := hs6.keep hb7
    have hm7 := hm6.keep hb7
    clear hb7 rW6 rG6 hs6 hm6 hB6
    go_wp2_with fail
    refine (HE.out _ _ _ hs7' hs7).mono ?_
    rintro e w8 ⟨rfl, hb8⟩
    have hB8 := hB7.trans (hb8.mono hB7.size)
    have rW8 := row_keep rW7 hb8
    have rG8 := row_keep rG7 hb8
    have hm8 := hm7.keep hb8
    clear hb8 rW7 rG7 hs7 hs7' hm7 hB7
    go_wp2_with fail
    refine (HM.out _ _ hm8).mono ?_
    rintro e w9 ⟨rfl, hg9⟩
    have hB9 : Below w.heap.size w w9 := hB8.grown hg9 hB8.size (fun r hr => by cases hr; exact hX0)
    have rW9 := row_grown rW8 hg9 (fun x hx e => by cases e; exact absurd (hWin _ hx) (Nat.lt_irrefl _))
    have rG9 := row_grown rG8 hg9 (fun x hx e => by cases e; have := hGge _ hx; omega)
    clear hg9 rW8 rG8 hm8 hB8
    go_wp2_with fail
    refine (HQ.out _ _ _ _ _ rG9 rW9).mono ?_
    rintro e w10 ⟨rfl, hb10⟩
    have hB10 := hB9.trans (hb10.mono hB9.size)
    have rW10 := row_keep rW9 hb10
    have rG10 := row_keep rG9 hb10
    clear hb10 rW9 rG9 hB9
    go_wp2_with fail
    refine (HMI.out _ _ _ rG10).mono ?_
    rintro e w11 ⟨rfl, hg11, aG, cG, rfl, hsG11⟩
    have hB11 : Below w.heap.size w w11 := hB10.grown hg11 hB10.size (fun r hr => by have := hGge r hr; omega)
    have rW11 := row_grown rW10 hg11 (fun x hx e => by have := hWin _ hx; have := hGge _ e.symm; omega)
    clear hg11 rW10 rG10 hB10
    go_wp2_with fail
    refine (HH.out _ _ _ hsG11).mono ?_
    rintro e w12 ⟨rfl, rfl⟩
    go_wp2_with fail
    refine (HC.out _ (h.keep hB11)).mono ?_
    rintro e w13 ⟨rfl, hb13, hs13, _⟩
    have hB13 := hB11.trans (hb13.mono hB11.size)
    have rW13 := row_keep rW11 hb13
    have hsG13 := hsG11.keep hb13
    clear hb13 rW11 hsG11 hB11
    go_wp2_with fail
    refine (HIm.out _ _ hs13).mono ?_
    rintro e w14 ⟨vH, rfl, rH14, hb14⟩
    have hB14 := hB13.trans (hb14.mono hB13.size)
    have rW14 := row_keep rW13 hb14
    have hsG14 := hsG13.keep hb14
    clear hb14 rW13 hsG13 hs13 hB13
    go_wp2_with fail
    refine (HQ.out _ _ _ _ _ rH14 rW14).mono ?_
    rintro e w15 ⟨rfl, hb15⟩
    have hB15 := hB14.trans (hb15.mono hB14.size)
    have hsG15 := hsG14.keep hb15
    clear hb15 rW14 rH14 hsG14 hB14
    go_wp2_with fail
    refine (HH.out _ _ _ hsG15).mono ?_
    rintro e w16 ⟨rfl, rfl⟩
    go_wp2
    go_ret
    exact ⟨rfl, hB15⟩
  · have hbi : (1048576 : Int) < len := by omega
    clear hll
    go_enter Try.func5, Try.ntmps5
    go_wp2
    go_ret
    exact ⟨rfl, Below.refl _ _⟩
end Go.Proofs.Ytoaejodpklhmjaa
