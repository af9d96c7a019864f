/-
  PROVED HERE: what marking, holding and comparing of answers that are lists of products tell. No other condition.
-/
import Derived.Test.YtpjgjpjfchfmlaaDoorMonoMark
import Derived.Test.YtpjgjpjfchfmlaaDoorMonoEq
import Derived.Test.YtpjgjpjfchfmlaaDoorInts
import Derived.Test.YtpjgjpjfchfmlaaDoorOrder
import Derived.Test.YtpjgjpjfchfmlaaDoorPolyAddM
namespace Go.Proofs.YtpjgjpjfchfmlaaDoor
open Go.ChangeShapes Go.WideShapes Go.ChangeAt Go.RowKit
set_option linter.unusedVariables false

set_option maxHeartbeats 1600000 in
set_option maxRecDepth 20000 in
theorem heldP_any (a : Option Addr) (len cap k : Nat) (p : List Mon) (w : World) (h : PSl w a len (marksP k p)) (hk : 1 ≤ k) (hpl : p.length = len) (hn : stN k p len ≤ 1048577) :
    Calls Tryd.prog 13 #[.slice a len cap, .int .i64 k] w fun e w' => e = .returned (.int .i64 (stN k p len : Nat)) ∧ w' = w := by
  have hmono := fun i hi => stN_mono k p i hi
  rw [hpl] at hmono
  have HMo := (show Hid _ from hmono)
  have hlb : len ≤ 1048577 := by unfold stN at hn; omega
  clear hmono
  go_enter Tryd.func13, Tryd.ntmps13
  go_wp2
  go_loopw [1, 5] (fun x i wr => ∃ (j : Nat), j ≤ len ∧ i = .int .i64 j ∧ x = .int .i64 (stN k p j : Nat) ∧ wr = w) (fun _ i _ => len - (intOf i).toNat)
  case atStart => exact ⟨0, Nat.zero_le _, rfl, by simp [stN], rfl⟩
  case round =>
    obtain ⟨j, hj, rfl, rfl, rfl⟩ := hrel
    by_cases hlt : j < len
    · obtain ⟨b, off, rfl, hbl, hc⟩ := h.at (by omega)
      obtain ⟨ai, li, ci, c1, hli, hci, hS, c2⟩ := hc j hlt
      rw [marksP_get k p j (by omega)] at hS c2
      simp only at hS c2
      have hst := stN_step k p j (by omega)
      have hle := HMo.out (j + 1) (by omega)
      obtain ⟨s, hs⟩ : ∃ s, stN k p j = s := ⟨_, rfl⟩
      have hs1 : 1 ≤ s := by rw [← hs]; unfold stN; omega
      obtain ⟨L, hL⟩ : ∃ L, (p.getD j ([], 0)).1.length = L := ⟨_, rfl⟩
      rw [hs, hL] at hst hS c2
      rw [hs]
      obtain rfl : li = L := by have := hS.1; rw [marksI_len] at this; omega
      have HC := (show Hid _ from heldI_any ai li ci s wr hS (by omega) (by omega))
      obtain ⟨t, ht⟩ : ∃ t : Nat, s + li = t := ⟨_, rfl⟩
      rw [ht] at hst c2 HC
      have HST : Hid (stN k p (j + 1) = t + 1) := hst
      have hjl : (j : Int) < len := by omega
      have hb1 : t ≤ 1048577 := by omega
      clear hc hS hst hle hs hL ht
      go_wp2_with fail
      refine Calls.mono HC.out ?_
      rintro e w1 ⟨rfl, rfl⟩
      clear HC
      go_wp2
      go_roundw
      case rel => exact ⟨j + 1, by omega, by go_num, by rw [HST.out]; congr 1, by first | trivial | rfl⟩
      case measure => simp [intOf]; omega
    · obtain rfl : j = len := by omega
      go_wp2
      go_ret
      exact ⟨rfl, rfl⟩
/-- Few products of four powers each. -/
def Few4 (q : List Mon) : Prop := q.length ≤ 40 ∧ ∀ i, i < q.length → (q.getD i ([], 0)).1.length = 4
theorem few_st {q : List Mon} (h : Few4 q) : stN 1 q q.length ≤ 1000 := by
  have : ∀ i, i ≤ q.length → stN 1 q i = 1 + 5 * i := by
    intro i
    induction i with
    | zero => intro _; simp [stN]
    | succ i ih =>
      intro hi
      rw [stN_step 1 q i (by omega), ih (by omega), h.2 i (by omega)]
      omega
  rw [this _ (Nat.le_refl _)]
  have := h.1
  omega
theorem OwnV.spec {w : World} {lo : Nat} {v : Value} {q : List Mon} (h : OwnV w lo v q) (hf : Few4 q) : SpecV w v q := by
  rcases h with ⟨rfl, a, cap, rfl⟩ | ⟨g, cap, rfl, h2, h3, h4⟩
  · exact ⟨a, cap, rfl, rfl, .inl rfl⟩
  · exact ⟨_, _, rfl, h4.psl (fun i hi => by have := hf.2 i hi; omega)⟩
/-- In memory of its own from lo to hi. -/
def OwnIn (w : World) (lo hi : Nat) (v : Value) (q : List Mon) : Prop := (q = [] ∧ ∃ a cap, v = .slice a 0 cap) ∨ ∃ g cap, v = .slice (some ⟨g, 0, none⟩) q.length cap ∧ PMine w lo hi g q.length q
theorem OwnV.within {w : World} {lo : Nat} {v : Value} {q : List Mon} (h : OwnV w lo v q) : OwnIn w lo w.heap.size v q := by
  rcases h with h | ⟨g, cap, h1, _, _, h4⟩
  · exact .inl h
  · exact .inr ⟨g, cap, h1, h4⟩
theorem OwnIn.map {w w' : World} {lo hi : Nat} {v : Value} {q : List Mon} (h : OwnIn w lo hi v q) (hs : hi ≤ w'.heap.size) (hk : ∀ b, lo ≤ b → b < hi → w'.heap[b]? = w.heap[b]?) : OwnIn w' lo hi v q := by
  rcases h with h | ⟨g, cap, h1, h4⟩
  · exact .inl h
  · exact .inr ⟨g, cap, h1, h4.map (Nat.le_refl _) (Nat.le_refl _) hs hk⟩
theorem OwnIn.keep {w w' : World} {lo hi : Nat} {v : Value} {q : List Mon} (h : OwnIn w lo hi v q) (hh : hi ≤ w.heap.size) (hb : Below w.heap.size w w') : OwnIn w' lo hi v q :=
  h.map (Nat.le_trans hh hb.size) (fun b _ hlt => hb.block b (by omega))
theorem OwnIn.spec {w : World} {lo hi : Nat} {v : Value} {q : List Mon} (h : OwnIn w lo hi v q) (hf : Few4 q) : SpecV w v q := by
  rcases h with ⟨rfl, a, cap, rfl⟩ | ⟨g, cap, rfl, h4⟩
  · exact ⟨a, cap, rfl, rfl, .inl rfl⟩
  · exact ⟨_, _, rfl, h4.psl (fun i hi => by have := hf.2 i hi; omega)⟩
theorem mark_none (a : Option Addr) (cap : Nat) (k : Int) (w : World) : Calls Tryd.prog 12 #[.slice a 0 cap, .int .i64 k] w fun e w' => e = .returned (.int .i64 k) ∧ w' = w := by
  go_enter Tryd.func12, Tryd.ntmps12
  go_wp2
  go_loopw [1, 5] (fun x i wr => i = .int .i64 0 ∧ x = .int .i64 k ∧ wr = w) (fun _ _ _ => 0)
  case atStart => exact ⟨rfl, rfl, rfl⟩
  case round =>
    obtain ⟨rfl, rfl, rfl⟩ := hrel
    go_wp2
    go_ret
    exact ⟨rfl, rfl⟩
theorem markV_any (lo hi : Nat) (v : Value) (q : List Mon) (w : World) (h : OwnIn w lo hi v q) (hf : Few4 q) :
    Calls Tryd.prog 12 #[v, .int .i64 1] w fun e w' => e = .returned (.int .i64 (stN 1 q q.length : Nat)) ∧ TurnIn lo hi w w' ∧ SpecV w' v (marksP 1 q) := by
  rcases h with ⟨rfl, a, cap, rfl⟩ | ⟨g, cap, rfl, h4⟩
  · refine (mark_none a cap 1 w).mono ?_
    rintro e w' ⟨rfl, rfl⟩
    exact ⟨rfl, TurnIn.refl _ _ _, a, cap, rfl, rfl, .inl rfl⟩
  · have := few_st hf
    refine (markP_any lo hi g q.length cap 1 q w h4 (by omega) (by omega)).mono ?_
    rintro e w' ⟨rfl, h1, h2⟩
    exact ⟨rfl, h1, some ⟨g, 0, none⟩, cap, by rw [marksP_len], by rw [marksP_len]; exact h2⟩
theorem heldV_any (v : Value) (q : List Mon) (w : World) (h : SpecV w v (marksP 1 q)) (hf : Few4 q) :
    Calls Tryd.prog 13 #[v, .int .i64 1] w fun e w' => e = .returned (.int .i64 (stN 1 q q.length : Nat)) ∧ w' = w := by
  obtain ⟨a, cap, rfl, hP⟩ := h
  have := few_st hf
  rw [marksP_len] at hP ⊢
  exact heldP_any a q.length cap 1 q w hP (by omega) rfl (by omega)
theorem eqV_same (u v : Value) (q : List Mon) (w : World) (h : SpecV w u q) (h' : SpecV w v q) (hf : Few4 q) : Calls Tryd.prog 9 #[u, v] w fun e w' => e = .returned (.bool true) ∧ Below w.heap.size w w' := by
  obtain ⟨a, ca, rfl, hP⟩ := h
  obtain ⟨b, cb, rfl, hQ⟩ := h'
  have := hf.1
  exact eqP_same a b q.length ca cb q w hP hQ (by omega) (fun i hi => by have := hf.2 i hi; omega)
theorem few_of {q : List Mon} (h : polyB q = true) : Few4 q := ⟨poly_len h, fun i hi => by
  have hm : q.getD i ([], 0) ∈ q := by rw [List.getD_eq_getElem?_getD, List.getElem?_eq_getElem hi]; exact List.getElem_mem _
  have : ∀ (prev : Option (List Int)) (q : List Mon), gpF prev q = true → ∀ x ∈ q, powB x.1 = true := by
    intro prev q
    induction q generalizing prev with
    | nil => intro _ x hx; cases hx
    | cons m r ih =>
      intro hq x hx
      rw [gpF, Bool.and_eq_true] at hq
      rcases List.mem_cons.1 hx with rfl | hx
      · have h1 := hq.1; unfold fitM at h1; rw [Bool.and_eq_true, Bool.and_eq_true] at h1; exact h1.1.1
      · exact ih _ hq.2 x hx
  unfold polyB at h
  rw [Bool.and_eq_true] at h
  exact pow_len (this _ q h.1 _ hm)⟩
theorem few_nil : Few4 [] := ⟨by simp, fun i hi => absurd hi (by simp)⟩
theorem SpecV.turn {w w' : World} {lo hi : Nat} {v : Value} {q : List Mon} {base : Nat} {w0 : World} (h : SpecV w0 v q) (hb : Below w0.heap.size w0 w') : SpecV w' v q := h.keep hb
end Go.Proofs.YtpjgjpjfchfmlaaDoor
