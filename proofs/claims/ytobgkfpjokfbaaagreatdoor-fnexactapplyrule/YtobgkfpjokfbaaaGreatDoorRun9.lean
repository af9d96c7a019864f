/-
  PROVED HERE: plain facts on what stays where memory grows or one block is written. No condition. what the model's l6Kids answers, at every list of kids that are numbers of the parts. No other condition. plain facts on pieces of a list of nodes and the pile behind them. No condition.
-/
import Derived.Test.YtobgkfpjokfbaaaGreatDoorRun2
import Derived.Test.YtobgkfpjokfbaaaGreatDoorRun3
import Derived.Test.YtobgkfpjokfbaaaGreatDoorRun6
namespace Go.Proofs.YtobgkfpjokfbaaaGreatDoor
open Go.ChangeShapes Go.WideShapes Go.ChangeAt Go.RowKit
set_option linter.unusedVariables false

theorem row_keep {w w' : World} {base e size n : Nat} {v : Value} {xs : List Value} (h : w.ownsRow base e size v n xs) (hb : Below w.heap.size w w') : w'.ownsRow base e size v n xs :=
  h.kept (grown_of hb) (by cases hv : v.ownBlock <;> simp)
theorem row_grown {w w' : World} {base e size n : Nat} {v : Value} {xs : List Value} {r : Option Nat} (h : w.ownsRow base e size v n xs) (hg : w.grownBy w' r) (hne : ∀ x, v.ownBlock = some x → some x ≠ r) : w'.ownsRow base e size v n xs :=
  h.kept hg (by
    cases hv : v.ownBlock with
    | none => exact .inl rfl
    | some x => exact .inr (hne x hv))
theorem row_in {w : World} {base e size n : Nat} {v : Value} {xs : List Value} (h : w.ownsRow base e size v n xs) : ∀ x, v.ownBlock = some x → x < w.heap.size := by
  intro x hx
  rcases h.2 with ⟨rfl, _⟩ | ⟨g, cap, cur, rfl, _, hg, _⟩
  · cases hx
  · cases hx; exact Array.getElem?_eq_some_iff.1 hg |>.1
end Go.Proofs.YtobgkfpjokfbaaaGreatDoor
namespace Go.Proofs.YtobgkfpjokfbaaaGreatDoor
open Go.ChangeShapes Go.WideShapes Go.ChangeAt Go.RowKit
set_option linter.unusedVariables false

/-- Kids by their classes. -/
def kidsL (l kids : List Int) : List Int := kids.map fun x => l.getD x.toNat 0
theorem kidsL_len (l kids : List Int) : (kidsL l kids).length = kids.length := by simp [kidsL]
theorem kidsL_get (l kids : List Int) {k : Nat} (h : k < kids.length) : (kidsL l kids).getD k 0 = l.getD (kids.getD k 0).toNat 0 := by
  simp [kidsL, List.getD_eq_getElem?_getD, List.getElem?_eq_getElem h]
theorem kidsL_take (l kids : List Int) (k : Nat) (h : k < kids.length) : (kidsL l kids).take (k + 1) = (kidsL l kids).take k ++ [l.getD (kids.getD k 0).toNat 0] := by
  have hk : k < (kidsL l kids).length := by rw [kidsL_len]; exact h
  rw [List.take_succ_eq_append_getElem hk]
  congr 2
  rw [← kidsL_get l kids h, getI_lt hk]
set_option maxHeartbeats 800000 in
theorem spKids_any (a b : Option Addr) (la ca lb cb : Nat) (l kids : List Int) (w : World) (h : Sl w a la l) (hb : Sl w b lb kids) (hm : lb ≤ 200) (hk : ∀ i, i < lb → ∃ y : Nat, kids.getD i 0 = y ∧ y < la) :
    Calls Tryz.prog 76 #[.slice a la ca, .slice b lb cb] w fun e w' => ∃ v : Value, e = .returned v ∧ w'.ownsRow w.heap.size 3 1 v lb (vals (kidsL l kids)) ∧ Below w.heap.size w w' := by
  have hll := h.1
  have hbl := hb.1
  obtain ⟨i0, hi, hz0, hz1, hz2⟩ := info_parts infoInt
  have HS : Hid (Sl w a la l ∧ Sl w b lb kids) := ⟨h, hb⟩
  have HU : Hid (∀ k, k < lb → (kidsL l kids).take (k + 1) = (kidsL l kids).take k ++ [l.getD (kids.getD k 0).toNat 0]) := fun k hk => kidsL_take l kids k (by omega)
  have HL : Hid (∀ k, k ≤ lb → ((kidsL l kids).take k).length = k) := fun k hk => by rw [List.length_take, kidsL_len]; omega
  have HE : Hid ((kidsL l kids).take lb = kidsL l kids) := List.take_of_length_le (by rw [kidsL_len]; omega)
  have HK := (show Hid _ from hk)
  have H0 : Hid ((kidsL l kids).take 0 = []) := rfl
  obtain ⟨U, hU⟩ : ∃ U : Nat → List Int, U = fun k => (kidsL l kids).take k := ⟨_, rfl⟩
  have HU' : Hid (∀ k, k < lb → U (k + 1) = U k ++ [l.getD (kids.getD k 0).toNat 0]) := fun k hk => by rw [hU]; exact HU.out k hk
  have HL' : Hid (∀ k, k ≤ lb → (U k).length = k) := fun k hk => by rw [hU]; exact HL.out k hk
  have HE' : Hid (U lb = kidsL l kids) := by show _ = _; rw [hU]; exact HE.out
  have H0' : Hid (U 0 = []) := by show _ = _; rw [hU]; rfl
  clear h hb hk HU HL HE H0 hU
  go_enter Tryz.func76, Tryz.ntmps76
  go_wp2_with fail
  go_loopw [5, 10] (fun x i wr => ∃ (k : Nat), k ≤ lb ∧ i = .int .i64 k ∧ wr.ownsRow w.heap.size 3 1 x k (vals (U k)) ∧ Below w.heap.size w wr) (fun _ i _ => lb - (intOf i).toNat)
  case atStart => exact ⟨0, Nat.zero_le _, rfl, by rw [H0'.out]; exact World.ownsRow_nil _ _ _ _, Below.refl _ _⟩
  case round =>
    obtain ⟨k, hk, rfl, hrow, hbr⟩ := hrel
    by_cases hlt : k < lb
    · obtain ⟨y, hy, hyl⟩ := HK.out k hlt
      obtain ⟨bb, ob, rfl, hbb, hcb⟩ : ∃ b' off, b = some ⟨b', off, none⟩ ∧ b' < w.heap.size ∧ ∀ i, i < lb → w.cell? ⟨b', off + i, none⟩ = some (.int .i64 (kids.getD i 0)) := by
        rcases HS.out.2.2 with h0 | h0
        · omega
        · exact h0
      obtain ⟨ba, oa, rfl, hba, hca⟩ : ∃ b' off, a = some ⟨b', off, none⟩ ∧ b' < w.heap.size ∧ ∀ i, i < la → w.cell? ⟨b', off + i, none⟩ = some (.int .i64 (l.getD i 0)) := by
        rcases HS.out.1.2 with h0 | h0
        · omega
        · exact h0
      have ck := (hbr.cell (p := ⟨bb, ob + k, none⟩) hbb).trans (hcb k hlt)
      rw [hy] at ck
      have cy := (hbr.cell (p := ⟨ba, oa + y, none⟩) hba).trans (hca y hyl)
      have hyl' : (y : Int) < la := by omega
      have hU := HU'.out k hlt
      rw [hy, Int.toNat_natCast] at hU
      have HU2 := (show Hid _ from hU)
      have hLk := HL'.out k hk
      have hsz := hbr.size
      obtain ⟨z, hz⟩ : ∃ z, l.getD y 0 = z := ⟨_, rfl⟩
      rw [hz] at cy HU2
      obtain ⟨P, hP⟩ : ∃ P, U k = P := ⟨_, rfl⟩
      rw [hP] at hrow HU2 hLk
      clear hcb hca hU hy hz hP
      go_wp2_with (at_builtin; refine wpList_append_own _ rfl _ _ 23 rfl w.heap.size 3 i0 (.int .i64 0) 1 8 Tryz.underlying23 hi hz0 hz1 hz2 rfl (by decide) _ _ _ rfl (hrow.alloc _) ⟨wr.heap.size, 0, none⟩ 1 1 [_] rfl rfl (cell_new1 _ _ _ _) (one_cell1 _ _) (by unfold maxLen; omega) (by omega) (by simp; omega) ?_; intro v' w4 hown4 hg4 _)
      have hB : Below w.heap.size w w4 := (hbr.alloc hbr.size _).grown hg4 (by simp; omega) (own_ge hrow)
      have hown5 : w4.ownsRow w.heap.size 3 1 v' (k + 1) (vals (U (k + 1))) := by rw [HU2.out, vals_append]; exact hown4
      clear hg4 hbr hrow hown4 HU2
      go_roundw
      case rel => exact ⟨k + 1, by omega, by go_num, hown5, hB⟩
      case measure => simp [intOf]; omega
    · obtain rfl : k = lb := by omega
      rw [HE'.out] at hrow
      go_wp2
      go_ret
      exact ⟨_, rfl, hrow, hbr⟩
end Go.Proofs.YtobgkfpjokfbaaaGreatDoor
namespace Go.Proofs.YtobgkfpjokfbaaaGreatDoor
set_option linter.unusedVariables false

def seg (l : List (Int × Int)) (a b : Nat) : List (Int × Int) := (l.drop a).take (b - a)
theorem seg_append (l : List (Int × Int)) (a b c : Nat) (h1 : a ≤ b) (h2 : b ≤ c) : seg l a c = seg l a b ++ seg l b c := by
  unfold seg
  have e : c - a = (b - a) + (c - b) := by omega
  rw [e, List.take_add, List.drop_drop, show a + (b - a) = b from by omega]
theorem seg_self (l : List (Int × Int)) (a : Nat) : seg l a a = [] := by unfold seg; rw [Nat.sub_self]; rfl
theorem seg_one (l : List (Int × Int)) (k : Nat) (h : k < l.length) : seg l k (k + 1) = [l.getD k (0, 0)] := by
  unfold seg
  have e : l.getD k (0, 0) = l[k] := by rw [List.getD_eq_getElem?_getD, List.getElem?_eq_getElem h]; rfl
  rw [show k + 1 - k = 1 from by omega, List.drop_eq_getElem_cons h, e]
  rfl
theorem pile_append (b : List (Int × Int)) : ∀ (a : List (Int × Int)) (p : Int), pile (a ++ b) p = (pile a p).bind fun q => pile b q
  | [], p => rfl
  | (op, n) :: a, p => by
    simp only [List.cons_append, pile]
    split
    · exact pile_append b a _
    · rfl

theorem fits_up {m p p' op n : Int} (h : fits m p op n = true) (hp : m ≤ p') : fits m p' op n = true := by
  have : ¬ p' < m := by omega
  simp only [fits, Bool.not_eq_true', Bool.or_eq_false_iff] at h ⊢
  exact ⟨⟨⟨h.1.1.1, decide_eq_false this⟩, h.1.2⟩, h.2⟩
theorem cnt_pos {l : List (Int × Int)} {q : Int} (h : pile l 0 = some q) (k : Nat) (h0 : 0 < k) (hk : k ≤ l.length) : 1 ≤ cnt l k := by
  obtain ⟨k, rfl⟩ : ∃ x, k = x + 1 := ⟨k - 1, by omega⟩
  obtain ⟨h1, h2⟩ := cnt_step h k (by omega)
  obtain ⟨a1, a2, _⟩ := fits_iff _ _ _ _ h1
  omega
theorem start_root {l : List (Int × Int)} (h : pile l 0 = some 1) (h1 : 1 ≤ l.length) : start l (l.length - 1) = 0 := by
  have e := start_cnt h (l.length - 1) (by omega)
  rw [show l.length - 1 + 1 = l.length from by omega] at e
  have hc : cnt l l.length = 1 := by unfold cnt; rw [List.take_of_length_le (Nat.le_refl _), h]; rfl
  have hle := start_le h (l.length - 1) (by omega)
  rcases Nat.eq_zero_or_pos (start l (l.length - 1)) with h0 | h0
  · exact h0
  · have := cnt_pos h _ h0 (by omega)
    omega
theorem seg_all (l : List (Int × Int)) : seg l 0 l.length = l := by
  unfold seg
  rw [List.drop_zero, Nat.sub_zero, List.take_of_length_le (Nat.le_refl _)]
end Go.Proofs.YtobgkfpjokfbaaaGreatDoor
