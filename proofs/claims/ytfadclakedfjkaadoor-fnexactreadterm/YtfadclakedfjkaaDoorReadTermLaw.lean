/-
  PROVED HERE: the laws FnExactReadTerm's and FnExactNodeCount's own runs. The tables are laid. No other condition.
-/
import Derived.Test.YtfadclakedfjkaaDoorTermRead
import Derived.Test.YtfadclakedfjkaaDoorIReadTerm
import Derived.Test.YtfadclakedfjkaaDoorNodeMarks
import Derived.Test.YtfadclakedfjkaaDoorKeeps
namespace Go.Proofs.YtfadclakedfjkaaDoor
open Go.ChangeShapes Go.WideShapes Go.ChangeAt Go.RowKit
set_option linter.unusedVariables false

set_option maxHeartbeats 3200000 in
theorem readTermLaw_any (s : ByteArray) (w : World) (hE : Env w) (hs : s.size ≤ 9223372036854775807) :
    Calls Tryd.prog 5 #[.string s] w fun e w' => e = .returned (.bool true) ∧ Below w.heap.size w w' := by
  by_cases hbig : 1048576 < s.size
  · have i1 : (1048576 : Int) < s.size := by omega
    clear hE
    go_enter Tryd.func5, Tryd.ntmps5
    go_wp2
    go_ret
    exact ⟨rfl, Below.refl _ _⟩
  have i1 : ¬ (1048576 : Int) < s.size := by omega
  have HSp : Hid (∀ W, Calls Tryd.prog 15 #[.string s] W fun e w' => ∃ v : Value, e = .returned (.tuple #[v, .int .i64 (readAt s.data.toList : Nat), .bool (readOk s.data.toList)]) ∧ w'.ownsRow W.heap.size 55 2 v (readL s.data.toList).length (flat (readL s.data.toList)) ∧ Below W.heap.size W w') := fun W => specReadTerm_any s W hs
  have HIm : Hid (∀ W, Below w.heap.size w W → Calls Tryd.prog 11 #[.string s] W fun e w' => ∃ v : Value, e = .returned (.tuple #[v, .int .i64 (readAt s.data.toList : Nat), .bool (readOk s.data.toList)]) ∧ w'.ownsRow W.heap.size 55 2 v (readL s.data.toList).length (flat (readL s.data.toList)) ∧ Below W.heap.size W w') := fun W hW => implReadTerm_any s W (hE.keep hW) hs
  have hL := readL_len s.data.toList
  generalize readOk s.data.toList = G at HSp HIm
  generalize ((readAt s.data.toList : Nat) : Int) = AT at HSp HIm
  generalize readL s.data.toList = L at HSp HIm hL
  have HQ : Hid (∀ W (u v : Value) (b b' : Nat), W.ownsRow b 55 2 u L.length (flat L) → W.ownsRow b' 55 2 v L.length (flat L) → Calls Tryd.prog 18 #[u, v] W fun e w' => e = .returned (.bool true) ∧ Below W.heap.size W w') := fun W u v b b' h1 h2 => by
    obtain ⟨a1, c1, rfl, s1⟩ := NSl.row h1
    obtain ⟨a2, c2, rfl, s2⟩ := NSl.row h2
    exact eqN_same a1 a2 _ c1 c2 L W s1 s2 (by omega)
  have HMI : Hid (∀ W (v : Value) b, W.ownsRow b 55 2 v L.length (flat L) → Calls Tryd.prog 19 #[v, .int .i64 1] W fun e w' => e = .returned (.int .i64 (1 + 2 * L.length : Nat)) ∧ W.grownBy w' v.ownBlock ∧ ∃ a cap, v = .slice a L.length cap ∧ NSl w' a L.length (marks 1 L.length)) := fun W v b hW => markN_row b _ v _ L W hW (by omega)
  have HH : Hid (∀ W (a : Option Addr) (c : Nat), NSl W a L.length (marks 1 L.length) → Calls Tryd.prog 20 #[.slice a L.length c, .int .i64 1] W fun e w' => e = .returned (.int .i64 (1 + 2 * L.length : Nat)) ∧ w' = W) := fun W a c hW => held_any a _ c 1 W hW (by omega) (by omega)
  have hGG : (G != G) = false := by simp
  have hAA : (AT != AT) = false := by simp
  have hq1 : ¬ ((1 + 2 * L.length : Nat) : Int) < 0 := by omega
  generalize ((1 + 2 * L.length : Nat) : Int) = zq at HMI HH hq1
  have hqq : (zq != zq) = false := by simp
  clear hE
  go_enter Tryd.func5, Tryd.ntmps5
  go_wp2_with fail
  refine (HSp.out _).mono ?_
  rintro e w3 ⟨vW, rfl, rW3, hb3⟩
  have hWin := own_in rW3
  have hB3 := hb3
  clear hb3 HSp
  go_wp2_with fail
  refine (HIm.out _ hB3).mono ?_
  rintro e w5 ⟨vG, rfl, rG5, hb5⟩
  have hB5 := hB3.trans (hb5.mono hB3.size)
  have rW5 := own_keep rW3 hb5
  have hGge := own_ge rG5
  have hsz3 := hB3.size
  clear hb5 rW3 hB3
  go_wp2_with fail
  refine (HQ.out _ _ _ _ _ rG5 rW5).mono ?_
  rintro e w6 ⟨rfl, hb6⟩
  have hB6 := hB5.trans (hb6.mono hB5.size)
  have rW10 := own_keep rW5 hb6
  have rG10 := own_keep rG5 hb6
  clear hb6 rW5 rG5 hB5
  go_wp2_with fail
  refine (HMI.out _ _ _ rG10).mono ?_
  rintro e w11 ⟨rfl, hg11, aG, cG, rfl, hsG11⟩
  have hB11 : Below w.heap.size w w11 := hB6.grown hg11 hB6.size (fun r hr => by have := hGge r hr; omega)
  have rW11 := own_grown rW10 hg11 (fun x hx e => by have := hWin _ hx; have := hGge _ e.symm; omega)
  clear hg11 rW10 rG10 hB6
  go_wp2_with fail
  refine (HH.out _ _ _ hsG11).mono ?_
  rintro e w12 ⟨rfl, rfl⟩
  go_wp2_with fail
  refine (HIm.out _ hB11).mono ?_
  rintro e w14 ⟨vH, rfl, rH14, hb14⟩
  have hB14 := hB11.trans (hb14.mono hB11.size)
  have rW14 := own_keep rW11 hb14
  have hsG14 := hsG11.keep hb14
  clear hb14 rW11 hsG11 hB11
  go_wp2_with fail
  refine (HQ.out _ _ _ _ _ rH14 rW14).mono ?_
  rintro e w15 ⟨rfl, hb15⟩
  have hB15 := hB14.trans (hb15.mono hB14.size)
  have hsG15 := hsG14.keep hb15
  clear hb15 rW14 rH14 hsG14 hB14
  go_wp2_with fail
  refine (HH.out _ _ _ hsG15).mono ?_
  rintro e w16 ⟨rfl, rfl⟩
  go_wp2
  go_ret
  exact ⟨rfl, hB15⟩
theorem countLaw_any (s : ByteArray) (w : World) (hE : Env w) (hs : s.size ≤ 9223372036854775807) :
    Calls Tryd.prog 6 #[.string s] w fun e w' => e = .returned (.bool true) ∧ Below w.heap.size w w' := by
  by_cases hbig : 1048576 < s.size
  · have i1 : (1048576 : Int) < s.size := by omega
    clear hE
    go_enter Tryd.func6, Tryd.ntmps6
    go_wp2
    go_ret
    exact ⟨rfl, Below.refl _ _⟩
  have i1 : ¬ (1048576 : Int) < s.size := by omega
  have HSp : Hid (∀ W, Calls Tryd.prog 21 #[.string s] W fun e w' => e = .returned (.tuple #[.int .i64 ((readL s.data.toList).length : Nat), .bool (readOk s.data.toList)]) ∧ Below W.heap.size W w') := fun W => specCount_any s W hs
  have HIm : Hid (∀ W, Below w.heap.size w W → Calls Tryd.prog 12 #[.string s] W fun e w' => e = .returned (.tuple #[.int .i64 ((readL s.data.toList).length : Nat), .bool (readOk s.data.toList)]) ∧ Below W.heap.size W w') := fun W hW => implCount_any s W (hE.keep hW) hs
  generalize readOk s.data.toList = G at HSp HIm
  generalize (((readL s.data.toList).length : Nat) : Int) = AT at HSp HIm
  have hGG : (G != G) = false := by simp
  have hAA : (AT != AT) = false := by simp
  clear hE
  go_enter Tryd.func6, Tryd.ntmps6
  go_wp2_with fail
  refine (HSp.out _).mono ?_
  rintro e w3 ⟨rfl, hb3⟩
  go_wp2_with fail
  refine (HIm.out _ hb3).mono ?_
  rintro e w4 ⟨rfl, hb4⟩
  go_wp2
  go_ret
  exact ⟨rfl, hb3.trans (hb4.mono hb3.size)⟩
end Go.Proofs.YtfadclakedfjkaaDoor
