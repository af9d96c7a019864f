/-
  PROVED HERE: what the program says of the part at a node, at every list of nodes and every number, in a world whose table of arities is laid. No other condition.
-/
import Derived.Test.YtlpefaaohcgboaaDoorIFirst
import Derived.Test.YtlpefaaohcgboaaDoorPartAt
import Derived.Lib.SliceRun
namespace Go.Proofs.YtlpefaaohcgboaaDoor
open Go.ChangeShapes Go.WideShapes Go.ChangeAt Go.RowKit
set_option linter.unusedVariables false

set_option maxRecDepth 20000 in
theorem clone_any (b off len cap : Nat) (l : List (Int × Int)) (w : World) (h : NSl w (some ⟨b, off, none⟩) len l) (hn : len ≤ 1048576) :
    Calls Tryd.prog 58 #[.slice (some ⟨b, off, none⟩) len cap] w fun e w' => ∃ v : Value, e = .returned v ∧ w'.ownsRow w.heap.size 69 2 v len (flat l) ∧ Below w.heap.size w w' := by
  obtain ⟨i0, hi, hz0, hz1, hz2⟩ := info_parts infoNode
  have hll := h.1
  have hb0 : Below w.heap.size w (w.alloc (.cells #[] 69)) := (Below.refl _ _).alloc (Nat.le_refl _) _
  have h1 := h.keep hb0
  have q : ∀ (w : World) (a : Option Addr) (n c n' c' : Nat), (binOp .eql 24 (.slice a n c) (.slice none n' c')).run Tryd.prog w = .ok (.bool a.isNone) w := fun w a n c n' c' => Lib.run_eql_slice_nil w _ _ a n c n' c' Tryd.underlying24
  go_enter Tryd.func58, Tryd.ntmps58
  go_wp2_with (at_builtin; refine wpList_append_own _ rfl _ _ 24 rfl w.heap.size 69 i0 (.agg #[.int .i64 0, .int .i64 0]) 2 16 Tryd.underlying24 hi hz0 hz1 hz2 rfl (by decide) _ _ _ rfl (empty_row w) ⟨b, off, none⟩ len cap (flat l) rfl (by rw [flat_len]; omega) (flat_cells h1) (flat_one l) (by unfold maxLen; omega) (by omega) (by simp) ?_; intro v' w4 hown4 hg4 _)
  go_ret
  exact ⟨_, rfl, by rw [Nat.zero_add] at hown4; exact hown4, hb0.grown hg4 (by simp) (fun r hr => by cases hr; exact Nat.le_refl _)⟩

set_option maxHeartbeats 1600000 in
theorem implPart_any (a : Option Addr) (len cap : Nat) (l : List (Int × Int)) (k : Int) (w : World) (ht : Tab w) (h : NSl w a len l) (hm : len ≤ 9223372036854775807) (hcap : len ≤ cap) :
    Calls Tryd.prog 23 #[.slice a len cap, .int .i64 k] w fun e w' => ∃ v : Value, e = .returned (.tuple #[v, .bool (partOk l k)]) ∧ w'.ownsRow w.heap.size 69 2 v (partL l k).length (flat (partL l k)) ∧ Below w.heap.size w w' := by
  have hll := h.1
  have HG := (show Hid _ from implGood_any a len cap l w ht h hm)
  have HT : Hid (Tab w) := ht
  clear ht
  by_cases hg : goodB l = true
  · rw [hg] at HG
    obtain ⟨hp, g1, g2⟩ := good_pile hg
    by_cases hk : 0 ≤ k ∧ k < len
    · have hok : partOk l k = true := by unfold partOk; rw [hg, hll, decide_eq_true hk]; rfl
      have hL : partL l k = (l.drop (start l k.toNat)).take (k.toNat + 1 - start l k.toNat) := by unfold partL; rw [if_pos hok]
      rw [hok, hL]
      clear hL hok
      obtain ⟨kn, rfl⟩ := Int.eq_ofNat_of_zero_le hk.1
      have hkn : kn < len := by omega
      rw [Int.toNat_natCast]
      have hsk := start_le hp kn (by omega)
      obtain ⟨b, off, rfl, _, _⟩ := h.at (by omega)
      have HF : Hid (∀ W, Tab W → NSl W (some ⟨b, off, none⟩) len l → Calls Tryd.prog 55 #[.slice (some ⟨b, off, none⟩) len cap, .int .i64 kn] W fun e w' => e = .returned (.int .i64 (start l kn)) ∧ w' = W) := fun W hT hW => implFirst_any hp _ len cap W hT hW (by omega) kn hkn
      generalize start l kn = s at HF hsk ⊢
      have hlen : ((l.drop s).take (kn + 1 - s)).length = kn + 1 - s := by rw [List.length_take, List.length_drop]; omega
      rw [hlen]
      have HO : Hid (∀ W, NSl W (some ⟨b, off, none⟩) len l → ∀ c, Calls Tryd.prog 58 #[.slice (some ⟨b, off + s * 2, none⟩) (kn + 1 - s) c] W fun e w' => ∃ v : Value, e = .returned v ∧ w'.ownsRow W.heap.size 69 2 v (kn + 1 - s) (flat ((l.drop s).take (kn + 1 - s))) ∧ Below W.heap.size W w') :=
        fun W hW c => clone_any b (off + s * 2) (kn + 1 - s) c _ W (hW.sub s (kn + 1 - s) (by omega)) (by omega)
      have HS : Hid (NSl w (some ⟨b, off, none⟩) len l) := h
      have j1 : ¬ (kn : Int) < 0 := by omega
      have j2 : ¬ (len : Int) ≤ kn := by omega
      have j3 : (s : Int) ≤ (kn : Int) + 1 := by omega
      have j4 : (kn : Int) + 1 ≤ cap := by omega
      have j5 : ¬ cap = s := by omega
      clear h hp hg hk hlen hll
      generalize (l.drop s).take (kn + 1 - s) = L at HO ⊢
      go_enter Tryd.func23, Tryd.ntmps23
      go_wp2_with fail
      refine Calls.mono HG.out ?_
      rintro e w1 ⟨rfl, hb1⟩
      clear HG
      go_wp2_with fail
      refine Calls.mono (HF.out _ (HT.out.keeps hb1) (HS.out.keep hb1)) ?_
      rintro e w2 ⟨rfl, rfl⟩
      clear HF
      go_wp2_with fail
      refine Calls.mono (HO.out _ (HS.out.keep hb1) _) ?_
      rintro e w3 ⟨v, rfl, hown, hb3⟩
      clear HO
      go_wp2
      go_ret2
      exact ⟨_, rfl, own_base hown hb1.size, hb1.trans (hb3.mono hb1.size)⟩
    · have hok : partOk l k = false := by unfold partOk; rw [hg, hll, decide_eq_false hk]; rfl
      have hL : partL l k = [] := by unfold partL; rw [if_neg (by simp [hok])]
      rw [hok, hL]
      clear hok hL hp hg h
      by_cases h0 : k < 0
      · clear hk
        go_enter Tryd.func23, Tryd.ntmps23
        go_wp2_with fail
        refine Calls.mono HG.out ?_
        rintro e w1 ⟨rfl, hb1⟩
        go_wp2
        go_ret2
        exact ⟨_, rfl, World.ownsRow_nil _ _ _ _, hb1⟩
      · have j2 : (len : Int) ≤ k := by omega
        clear hk
        go_enter Tryd.func23, Tryd.ntmps23
        go_wp2_with fail
        refine Calls.mono HG.out ?_
        rintro e w1 ⟨rfl, hb1⟩
        go_wp2
        go_ret2
        exact ⟨_, rfl, World.ownsRow_nil _ _ _ _, hb1⟩
  · have hg' : goodB l = false := by simpa using hg
    have hok : partOk l k = false := by unfold partOk; rw [hg']; rfl
    have hL : partL l k = [] := by unfold partL; rw [if_neg (by simp [hok])]
    rw [hok, hL]
    rw [hg'] at HG
    clear hok hL hg hg' h
    go_enter Tryd.func23, Tryd.ntmps23
    go_wp2_with fail
    refine Calls.mono HG.out ?_
    rintro e w1 ⟨rfl, hb1⟩
    go_wp2
    go_ret2
    exact ⟨_, rfl, World.ownsRow_nil _ _ _ _, hb1⟩
end Go.Proofs.YtlpefaaohcgboaaDoor
