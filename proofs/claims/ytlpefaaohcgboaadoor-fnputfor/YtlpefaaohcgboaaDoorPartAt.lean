/-
  PROVED HERE: what the model says of the part at a node, at every list of nodes and every number. No other condition.
-/
import Derived.Test.YtlpefaaohcgboaaDoorOwn
import Derived.Test.YtlpefaaohcgboaaDoorFrom
import Derived.Test.YtlpefaaohcgboaaDoorIn
namespace Go.Proofs.YtlpefaaohcgboaaDoor
open Go.ChangeShapes Go.WideShapes Go.ChangeAt Go.RowKit
set_option linter.unusedVariables false

def partOk (l : List (Int × Int)) (k : Int) : Bool := goodB l && decide (0 ≤ k ∧ k < l.length)
def partL (l : List (Int × Int)) (k : Int) : List (Int × Int) := if partOk l k = true then (l.drop (start l k.toNat)).take (k.toNat + 1 - start l k.toNat) else []

theorem specPart_any (a : Option Addr) (len cap : Nat) (l : List (Int × Int)) (k : Int) (w : World) (h : NSl w a len l) (hm : len ≤ 9223372036854775807) (hcap : len ≤ cap) :
    Calls Tryd.prog 24 #[.slice a len cap, .int .i64 k] w fun e w' => ∃ v : Value, e = .returned (.tuple #[v, .bool (partOk l k)]) ∧ w'.ownsRow w.heap.size 69 2 v (partL l k).length (flat (partL l k)) ∧ Below w.heap.size w w' := by
  have HG := specGood_any a len cap l w h hm
  have hll := h.1
  have HG' := (show Hid _ from HG)
  clear HG
  by_cases hg : goodB l = true
  · rw [hg] at HG'
    obtain ⟨hp, g1, g2⟩ := good_pile hg
    have j1 : (1 : Int) ≤ len := by omega
    have j2 : (len : Int) ≤ 40 := by omega
    by_cases hk : 0 ≤ k ∧ k < len
    · have hok : partOk l k = true := by unfold partOk; rw [hg, hll, decide_eq_true hk]; rfl
      have hL : partL l k = (l.drop (start l k.toNat)).take (k.toNat + 1 - start l k.toNat) := by unfold partL; rw [if_pos hok]
      rw [hok, hL]
      clear hL hok
      obtain ⟨kn, rfl⟩ := Int.eq_ofNat_of_zero_le hk.1
      have hkn : kn < len := by omega
      rw [Int.toNat_natCast]
      have hsk := start_le hp kn (by omega)
      obtain ⟨b, off, rfl, _, _⟩ := h.at (by omega)
      have HF : Hid (∀ W, NSl W (some ⟨b, off, none⟩) len l → Calls Tryd.prog 57 #[.slice (some ⟨b, off, none⟩) len cap, .int .i64 kn] W fun e w' => e = .returned (.int .i64 (start l kn)) ∧ w' = W) := fun W hW => from_any hp _ len cap W hW (by omega) kn hkn
      generalize start l kn = s at HF hsk ⊢
      have hlen : ((l.drop s).take (kn + 1 - s)).length = kn + 1 - s := by rw [List.length_take, List.length_drop]; omega
      rw [hlen]
      have HO : Hid (∀ W, NSl W (some ⟨b, off, none⟩) len l → ∀ c, Calls Tryd.prog 56 #[.slice (some ⟨b, off + s * 2, none⟩) (kn + 1 - s) c] W fun e w' => ∃ v : Value, e = .returned v ∧ w'.ownsRow W.heap.size 69 2 v (kn + 1 - s) (flat ((l.drop s).take (kn + 1 - s))) ∧ Below W.heap.size W w') :=
        fun W hW c => own_any b (off + s * 2) (kn + 1 - s) c _ W (hW.sub s (kn + 1 - s) (by omega)) (by omega)
      generalize (l.drop s).take (kn + 1 - s) = M at HO ⊢
      clear hlen hk hg hp
      have i1 : (0 : Int) ≤ kn := by omega
      have i2 : (kn : Int) ≤ (len : Int) - 1 := by omega
      have i3 : (s : Int) ≤ (kn : Int) + 1 := by omega
      have i4 : (kn : Int) + 1 ≤ cap := by omega
      go_enter Tryd.func24, Tryd.ntmps24
      go_wp2_with fail
      refine Calls.mono HG'.out ?_
      rintro e w1 ⟨rfl, hb1⟩
      go_wp2_with fail
      refine (in_yes _ _ _ _ i1 i2).mono ?_
      rintro e w2 ⟨rfl, rfl⟩
      go_wp2_with fail
      refine (HF.out _ (h.keep hb1)).mono ?_
      rintro e w2 ⟨rfl, rfl⟩
      go_wp2_with fail
      refine (HO.out _ (h.keep hb1) _).mono ?_
      rintro e w3 ⟨v, rfl, hown, hb3⟩
      have hB := hb1.trans (hb3.mono hb1.size)
      have hown' := own_base hown hb1.size
      clear hown hb3
      go_wp2
      go_ret2
      exact ⟨_, rfl, hown', hB⟩
    · have hok : partOk l k = false := by unfold partOk; rw [hll, decide_eq_false hk, Bool.and_false]
      have hL : partL l k = [] := by unfold partL; rw [if_neg (by rw [hok]; decide)]
      rw [hok, hL]
      clear hL hok
      have i2 : k < 0 ∨ (len : Int) - 1 < k := by omega
      clear hk
      go_enter Tryd.func24, Tryd.ntmps24
      go_wp2_with fail
      refine Calls.mono HG'.out ?_
      rintro e w1 ⟨rfl, hb1⟩
      go_wp2_with fail
      refine (in_no _ _ _ _ i2).mono ?_
      rintro e w2 ⟨rfl, rfl⟩
      go_wp2
      go_ret2
      exact ⟨_, rfl, World.ownsRow_nil _ _ _ _, hb1⟩
  · have hg' : goodB l = false := by simpa using hg
    have hok : partOk l k = false := by unfold partOk; rw [hg', Bool.false_and]
    have hL : partL l k = [] := by unfold partL; rw [if_neg (by rw [hok]; decide)]
    rw [hok, hL]
    rw [hg'] at HG'
    clear hL hok hg hg'
    go_enter Tryd.func24, Tryd.ntmps24
    go_wp2_with fail
    refine Calls.mono HG'.out ?_
    rintro e w1 ⟨rfl, hb1⟩
    go_wp2
    go_ret2
    exact ⟨_, rfl, World.ownsRow_nil _ _ _ _, hb1⟩
end Go.Proofs.YtlpefaaohcgboaaDoor
