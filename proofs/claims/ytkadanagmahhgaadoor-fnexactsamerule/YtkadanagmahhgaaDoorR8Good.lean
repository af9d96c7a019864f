/-
  PROVED HERE: what the model's and the program's GoodRule answer, at every two lists of nodes, in a world whose table of arities is laid. No other condition.
-/
import Derived.Test.YtkadanagmahhgaaDoorM7Pat
namespace Go.Proofs.YtkadanagmahhgaaDoor
open Go.ChangeShapes Go.WideShapes Go.ChangeAt Go.RowKit
set_option linter.unusedVariables false

/-- A good rule. -/
def ruleB (p q : List (Int × Int)) : Bool := patB p && patB q
theorem specRule_any (a b : Option Addr) (len cap lb cb : Nat) (p q : List (Int × Int)) (w : World) (h : NSl w a len p) (hl : NSl w b lb q) (hm : len ≤ 9223372036854775807) (hm2 : lb ≤ 9223372036854775807) :
    Calls Tryd.prog 10 #[.agg #[.slice a len cap, .slice b lb cb]] w fun e w' => e = .returned (.bool (ruleB p q)) ∧ Below w.heap.size w w' := by
  obtain ⟨W1, hW1⟩ : ∃ W1, w.alloc (.cells #[.slice a len cap, .slice b lb cb] 30) = W1 := ⟨_, rfl⟩
  have hb1 : Below w.heap.size w W1 := by rw [← hW1]; exact (Below.refl _ _).alloc (Nat.le_refl _) _
  have n0 : W1.cell? ⟨w.heap.size, 0, none⟩ = some (.slice a len cap) := by rw [← hW1]; simp [go_sem]
  have n1 : W1.cell? ⟨w.heap.size, 1, none⟩ = some (.slice b lb cb) := by rw [← hW1]; simp [go_sem]
  have hs1 : w.heap.size < W1.heap.size := by rw [← hW1]; simp
  have HB : Hid (∀ W, Below W1.heap.size W1 W → Below w.heap.size w W) := fun W hW => hb1.trans (hW.mono hb1.size)
  have HP := (show Hid _ from specPat_any a len cap p W1 (h.keep hb1) hm)
  have HQ : Hid (∀ W, Below W1.heap.size W1 W → Calls Tryd.prog 16 #[.slice b lb cb] W fun e w' => e = .returned (.bool (patB q)) ∧ Below W.heap.size W w') := fun W hW => specPat_any b lb cb q W ((hl.keep hb1).keep hW) hm2
  unfold ruleB
  generalize patB p = P at HP ⊢
  generalize patB q = Q at HQ ⊢
  clear h hl hb1
  cases P
  · rw [Bool.false_and]
    go_enter Tryd.func10, Tryd.ntmps10
    go_wp2_with fail
    (try rw [hW1])
    refine Calls.mono HP.out ?_
    rintro e w2 ⟨rfl, hb2⟩
    have HB2 := (show Hid _ from HB.out _ hb2)
    clear HP hW1
    go_wp2
    go_ret
    exact ⟨rfl, HB2.out⟩
  · rw [Bool.true_and]
    go_enter Tryd.func10, Tryd.ntmps10
    go_wp2_with fail
    (try rw [hW1])
    refine Calls.mono HP.out ?_
    rintro e w2 ⟨rfl, hb2⟩
    have q1 := (hb2.cell (p := ⟨w.heap.size, 1, none⟩) hs1).trans n1
    clear HP hW1
    go_wp2_with fail
    refine Calls.mono (HQ.out _ hb2) ?_
    rintro e w3 ⟨rfl, hb3⟩
    have HB3 := (show Hid _ from HB.out _ (hb2.trans (hb3.mono hb2.size)))
    clear hb2 hb3
    go_wp2
    go_ret
    exact ⟨rfl, HB3.out⟩
theorem implRule_any (a b : Option Addr) (len cap lb cb : Nat) (p q : List (Int × Int)) (w : World) (ht : Tab w) (h : NSl w a len p) (hl : NSl w b lb q) (hm : len ≤ 9223372036854775807) (hm2 : lb ≤ 9223372036854775807) :
    Calls Tryd.prog 13 #[.agg #[.slice a len cap, .slice b lb cb]] w fun e w' => e = .returned (.bool (ruleB p q)) ∧ Below w.heap.size w w' := by
  obtain ⟨W1, hW1⟩ : ∃ W1, w.alloc (.cells #[.slice a len cap, .slice b lb cb] 30) = W1 := ⟨_, rfl⟩
  have hb1 : Below w.heap.size w W1 := by rw [← hW1]; exact (Below.refl _ _).alloc (Nat.le_refl _) _
  have n0 : W1.cell? ⟨w.heap.size, 0, none⟩ = some (.slice a len cap) := by rw [← hW1]; simp [go_sem]
  have n1 : W1.cell? ⟨w.heap.size, 1, none⟩ = some (.slice b lb cb) := by rw [← hW1]; simp [go_sem]
  have hs1 : w.heap.size < W1.heap.size := by rw [← hW1]; simp
  have HB : Hid (∀ W, Below W1.heap.size W1 W → Below w.heap.size w W) := fun W hW => hb1.trans (hW.mono hb1.size)
  have HP := (show Hid _ from implPat_any a len cap p W1 (ht.keeps hb1) (h.keep hb1) hm)
  have HQ : Hid (∀ W, Below W1.heap.size W1 W → Calls Tryd.prog 21 #[.slice b lb cb] W fun e w' => e = .returned (.bool (patB q)) ∧ Below W.heap.size W w') := fun W hW => implPat_any b lb cb q W ((ht.keeps hb1).keeps hW) ((hl.keep hb1).keep hW) hm2
  unfold ruleB
  generalize patB p = P at HP ⊢
  generalize patB q = Q at HQ ⊢
  clear h hl hb1 ht
  cases P
  · rw [Bool.false_and]
    go_enter Tryd.func13, Tryd.ntmps13
    go_wp2_with fail
    (try rw [hW1])
    refine Calls.mono HP.out ?_
    rintro e w2 ⟨rfl, hb2⟩
    have HB2 := (show Hid _ from HB.out _ hb2)
    clear HP hW1
    go_wp2
    go_ret
    exact ⟨rfl, HB2.out⟩
  · rw [Bool.true_and]
    go_enter Tryd.func13, Tryd.ntmps13
    go_wp2_with fail
    (try rw [hW1])
    refine Calls.mono HP.out ?_
    rintro e w2 ⟨rfl, hb2⟩
    have q1 := (hb2.cell (p := ⟨w.heap.size, 1, none⟩) hs1).trans n1
    clear HP hW1
    go_wp2_with fail
    refine Calls.mono (HQ.out _ hb2) ?_
    rintro e w3 ⟨rfl, hb3⟩
    have HB3 := (show Hid _ from HB.out _ (hb2.trans (hb3.mono hb2.size)))
    clear hb2 hb3
    go_wp2
    go_ret
    exact ⟨rfl, HB3.out⟩
end Go.Proofs.YtkadanagmahhgaaDoor
