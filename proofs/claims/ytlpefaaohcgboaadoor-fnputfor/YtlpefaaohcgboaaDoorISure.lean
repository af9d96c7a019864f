/-
  PROVED HERE: which variables the program tells as surely reckoned, at every list of nodes, in a world whose table of arities is laid. No other condition.
-/
import Derived.Test.YtlpefaaohcgboaaDoorITree
import Derived.Test.YtlpefaaohcgboaaDoorRising
import Derived.Test.YtlpefaaohcgboaaDoorAsserts
namespace Go.Proofs.YtlpefaaohcgboaaDoor
open Go.ChangeShapes Go.WideShapes Go.ChangeAt Go.RowKit
set_option linter.unusedVariables false
attribute [local go_sem] as_nn as_nv as_nc as_no as_vn as_vv as_vc as_vo as_cn as_cv as_cc as_co as_on as_ov as_oc as_oo

/-- Marks and those of a list. -/
def orL (s : Nat → Bool) (o : List Int) (j : Nat) : Bool := s j || inL o j
/-- Seeing what is surely reckoned in a tree that lies behind the block of the marks marks just that. -/
def SeeAt (l : List (Int × Int)) (g : Nat) (f k : Nat) (v : Value) : Prop :=
  ∀ W s, IsTree W (fun x => g < x) l f k v → Seen W g s → Calls Tryd.prog 44 #[v, .pointer (some ⟨g, 0, none⟩)] W fun e w' => ∃ u, e = .returned u ∧ Seen w' g (orL s (sureF l f k)) ∧ W.grownBy w' (some g)
theorem Seen.eq {w : World} {g : Nat} {s s' : Nat → Bool} (h : Seen w g s) (e : ∀ j, s' j = s j) : Seen w g s' := by
  have : s' = s := funext e
  rw [this]; exact h
theorem IsTree.grown {w w' : World} {g : Nat} {l : List (Int × Int)} {f k : Nat} {v : Value} (h : IsTree w (fun x => g < x) l f k v) (hg : w.grownBy w' (some g)) : IsTree w' (fun x => g < x) l f k v :=
  IsTree.map hg.size (fun x h1 h2 => ⟨h1, hg.block x h2 (fun e => by injection e with e; omega)⟩) f f k v (Nat.le_refl _) h
theorem grown_below {w w' : World} {g : Nat} (h : Below w.heap.size w w') : w.grownBy w' (some g) := ⟨h.os, h.tape, h.output, h.size, fun k hk _ => h.block k hk⟩
theorem grown_trans {a b c : World} {g : Nat} (h : a.grownBy b (some g)) (k : b.grownBy c (some g)) : a.grownBy c (some g) := h.trans k
theorem some_ne {a b : Nat} (h : a ≠ b) : (some a : Option Nat) ≠ some b := fun e => h (Option.some.inj e)
theorem orL_nil (s : Nat → Bool) (j : Nat) : orL s [] j = s j := by simp [orL, inL]
theorem inL_fold : ∀ (us o : List Int) (j : Nat), inL (us.foldl putL o) j = (inL o j || inL us j)
  | [], o, j => by rw [show inL [] j = false from rfl, Bool.or_false]; rfl
  | u :: us, o, j => by
    show inL (us.foldl putL (putL o u)) j = _
    rw [inL_fold us (putL o u) j]
    have e : inL (putL o u) j = (inL o j || decide ((j : Int) = u)) := by
      unfold inL
      rw [putL_eq]
      by_cases h : (j : Int) ∈ putS o u
      · rw [decide_eq_true h]
        rcases (putS_has _ _ _).1 h with h' | h'
        · rw [decide_eq_true h']; rfl
        · rw [decide_eq_true h', Bool.or_true]
      · rw [decide_eq_false h]
        have h1 : ¬ (j : Int) ∈ o := fun x => h ((putS_has _ _ _).2 (.inl x))
        have h2 : ¬ (j : Int) = u := fun x => h ((putS_has _ _ _).2 (.inr x))
        rw [decide_eq_false h1, decide_eq_false h2]; rfl
    have e2 : inL (u :: us) j = (decide ((j : Int) = u) || inL us j) := by
      unfold inL
      by_cases h1 : (j : Int) = u <;> by_cases h2 : (j : Int) ∈ us <;> simp [h1, h2]
    rw [e, e2, Bool.or_assoc]
theorem inL_foldP (g : Nat → List Int) : ∀ (rs : List Nat) (o : List Int) (j : Nat), inL (foldP g rs o) j = (inL o j || rs.any fun r => inL (g r) j)
  | [], o, j => by simp [foldP]
  | r :: rs, o, j => by
    show inL (foldP g rs ((g r).foldl putL o)) j = _
    rw [inL_foldP g rs, inL_fold, List.any_cons, Bool.or_assoc]
/-- Marks and those of the first parts. -/
def orP (s : Nat → Bool) (g : Nat → List Int) (R : List Nat) (k j : Nat) : Bool := s j || (R.take k).any fun r => inL (g r) j
theorem orP_zero (s : Nat → Bool) (g : Nat → List Int) (R : List Nat) (j : Nat) : s j = orP s g R 0 j := by simp [orP]
theorem orP_succ (s : Nat → Bool) (g : Nat → List Int) (R : List Nat) (k : Nat) (hk : k < R.length) (j : Nat) : orP s g R (k + 1) j = orL (orP s g R k) (g (R.getD k 0)) j := by
  unfold orP orL
  have e : R.getD k 0 = R[k] := by rw [List.getD_eq_getElem?_getD, List.getElem?_eq_getElem hk]; rfl
  rw [List.take_succ_eq_append_getElem hk, List.any_append, e, Bool.or_assoc]
  simp

set_option maxRecDepth 20000 in
theorem seeNum (n : Int) (g : Nat) (W : World) : Calls Tryd.prog 44 #[.iface 109 (.agg #[.int .i64 n]), .pointer (some ⟨g, 0, none⟩)] W fun e w' => ∃ u, e = .returned u ∧ Below W.heap.size W w' := by
  have hb0 : Below W.heap.size W ((W.alloc (.cells #[.int .i64 0] 100)).alloc (.cells #[.int .i64 n] 109)) := ((Below.refl _ _).alloc (Nat.le_refl _) _).alloc (by simp) _
  go_enter Tryd.func44, Tryd.ntmps44
  go_wp2
  generalize (W.alloc (.cells #[.int .i64 0] 100)).alloc (.cells #[.int .i64 n] 109) = W1 at hb0 ⊢
  go_loopw [22] (fun i wr => i = .int .i64 0 ∧ wr = W1) (fun _ _ => 0)
  case atStart => exact ⟨rfl, rfl⟩
  case round =>
    obtain ⟨rfl, rfl⟩ := hrel
    go_wp2
    go_returns
    exact ⟨_, rfl, hb0⟩
set_option maxRecDepth 20000 in
theorem seeVar (n : Nat) (hn : n < 4) (g : Nat) (s : Nat → Bool) (W : World) (hs : Seen W g s) : Calls Tryd.prog 44 #[.iface 100 (.agg #[.int .i64 (n : Int)]), .pointer (some ⟨g, 0, none⟩)] W fun e w' => ∃ u, e = .returned u ∧ Seen w' g (orL s [(n : Int)]) ∧ W.grownBy w' (some g) := by
  have hg := hs.lt
  have hb0 : Below W.heap.size W (W.alloc (.cells #[.int .i64 (n : Int)] 100)) := (Below.refl _ _).alloc (Nat.le_refl _) _
  have hs1 := hs.keep hb0
  have n0 : (W.alloc (.cells #[.int .i64 (n : Int)] 100)).cell? ⟨W.heap.size, 0, none⟩ = some (.int .i64 (n : Int)) := by simp [go_sem]
  obtain ⟨d1, d2⟩ := hs1.cell n hn
  generalize s n = s0 at d1
  have HS1 : Hid (Seen (W.alloc (.cells #[.int .i64 (n : Int)] 100)) g s) := hs1
  have i1 : (n : Int) < 4 := by omega
  clear hs hs1
  go_enter Tryd.func44, Tryd.ntmps44
  go_wp2
  have hsz : (W.alloc (.cells #[.int .i64 (n : Int)] 100)).heap.size = W.heap.size + 1 := by simp
  generalize W.alloc (.cells #[.int .i64 (n : Int)] 100) = W1 at hb0 n0 d1 d2 HS1 hsz ⊢
  have hsn : Seen ((W1.setCell ⟨g, n, none⟩ (.bool true)).alloc (.cells #[.int .i64 (n : Int)] 100)).drew g (orL s [(n : Int)]) :=
    (HS1.out.set n hn (fun j => by
      unfold orL inL
      by_cases h : j = n
      · subst h; simp
      · have : ¬ (j : Int) = n := by omega
        simp [h, this])).keep (((Below.refl _ _).alloc (Nat.le_refl _) _).drew)
  have hgn : W.grownBy ((W1.setCell ⟨g, n, none⟩ (.bool true)).alloc (.cells #[.int .i64 (n : Int)] 100)).drew (some g) := by
    refine (grown_below hb0).trans (World.grownBy.trans (b := W1.setCell ⟨g, n, none⟩ (.bool true)) ?_ (grown_below (((Below.refl _ _).alloc (Nat.le_refl _) _).drew)))
    exact ⟨rfl, rfl, rfl, by simp, fun i hi hne => Below.heap_setCell _ _ _ _ (fun e => hne (by rw [e]))⟩
  have HN := (show Hid _ from And.intro hsn hgn)
  clear hsn hgn HS1
  go_region
  all_goals
    go_wp2
    generalize ((W1.setCell ⟨g, n, none⟩ (.bool true)).alloc (.cells #[.int .i64 (n : Int)] 100)).drew = W2 at HN ⊢
    go_loopw [22] (fun i wr => i = .int .i64 0 ∧ wr = W2) (fun _ _ => 0)
    case atStart => exact ⟨rfl, rfl⟩
    case round =>
      obtain ⟨rfl, rfl⟩ := hrel
      go_wp2
      go_returns
      exact ⟨_, rfl, HN.out⟩

set_option maxHeartbeats 1600000 in
set_option maxRecDepth 20000 in
theorem seeOp (l : List (Int × Int)) (f g : Nat) (op : Int) (R : List Nat) (m : Nat) (hmm : R.length = m) (hm3 : m ≤ 3) (vs : Nat → Value) (gs cap : Nat) (s : Nat → Bool) (W : World) (hs : Seen W g s) (hgs : g < gs) (hgl : gs < W.heap.size) (hc : ∀ i, i < m → W.cell? ⟨gs, i, none⟩ = some (vs i))
    (ht : ∀ i, i < m → IsTree W (fun x => g < x) l f (R.getD i 0) (vs i)) (IH : ∀ i, i < m → SeeAt l g f (R.getD i 0) (vs i)) :
    Calls Tryd.prog 44 #[.iface 114 (.agg #[.int .i64 op, .slice (some ⟨gs, 0, none⟩) m cap]), .pointer (some ⟨g, 0, none⟩)] W fun e w' => ∃ u, e = .returned u ∧ Seen w' g (orP s (sureF l f) R m) ∧ W.grownBy w' (some g) := by
  have HS : Hid (Seen W g s) := hs
  have HC : Hid (∀ i, i < m → W.cell? ⟨gs, i, none⟩ = some (vs i)) := hc
  have HT : Hid (∀ i, i < m → IsTree W (fun x => g < x) l f (R.getD i 0) (vs i)) := ht
  have HI : Hid (∀ i, i < m → SeeAt l g f (R.getD i 0) (vs i)) := IH
  have hg := hs.lt
  clear hc ht IH hs
  have hb0 : Below W.heap.size W ((W.alloc (.cells #[.int .i64 0] 100)).alloc (.cells #[.int .i64 op, .slice (some ⟨gs, 0, none⟩) m cap] 114)) := ((Below.refl _ _).alloc (Nat.le_refl _) _).alloc (by simp) _
  go_enter Tryd.func44, Tryd.ntmps44
  go_wp2
  rw [show (#[.agg #[.int .i64 op, .slice (some ⟨gs, 0, none⟩) m cap], .pointer (some ⟨W.heap.size + 1, 0, none⟩), .slice (some ⟨gs, 0, none⟩) m cap, .pointer (some ⟨W.heap.size + 1, 1, none⟩), .slice (some ⟨gs, 0, none⟩) m cap] : Array Value).getD 2 undef = .slice (some ⟨gs, 0, none⟩) m cap from rfl]
  generalize (W.alloc (.cells #[.int .i64 0] 100)).alloc (.cells #[.int .i64 op, .slice (some ⟨gs, 0, none⟩) m cap] 114) = W1 at hb0 ⊢
  go_loopw [22] (fun i wr => ∃ (k : Nat), k ≤ m ∧ i = .int .i64 k ∧ Hid (Seen wr g (orP s (sureF l f) R k)) ∧ W.grownBy wr (some g)) (fun i _ => m - (intOf i).toNat)
  case atStart => exact ⟨0, Nat.zero_le _, rfl, (HS.out.keep hb0).eq (fun j => (orP_zero s _ R j).symm), grown_below hb0⟩
  case round =>
    obtain ⟨k, hk, rfl, hsn, hgr⟩ := hrel
    by_cases hlt : k < m
    · have hlt' : (k : Int) < m := by omega
      have c1 := hgr.cell (HC.out k hlt) (some_ne (show gs ≠ g by omega))
      have C := (show Hid _ from HI.out k hlt wr _ ((HT.out k hlt).grown hgr) hsn.out)
      obtain ⟨tt, xx, ev⟩ := (HT.out k hlt).form
      rw [ev] at c1 C
      go_wp2_with fail
      refine Calls.mono C.out ?_
      rintro e w2 ⟨u, rfl, hs2, hg2⟩
      have hnx : Hid (Seen w2 g (orP s (sureF l f) R (k + 1))) := hs2.eq (fun j => orP_succ s _ R k (by omega) j)
      have hgn := hgr.trans hg2
      clear hs2 hg2 C hgr hsn
      go_wp2
      go_roundw
      case rel => exact ⟨k + 1, by omega, by go_num, hnx, hgn⟩
      case measure => simp [intOf]; omega
    · obtain rfl : k = m := by omega
      go_wp2
      go_returns
      exact ⟨_, rfl, hsn.out, hgr⟩

set_option maxHeartbeats 1600000 in
set_option maxRecDepth 20000 in
theorem seeChoice (l : List (Int × Int)) (f g r : Nat) (t0 t1 t2 : TypeId) (v0 v1 v2 : Value) (s : Nat → Bool) (W : World) (hs : Seen W g s) 
    (ht : IsTree W (fun x => g < x) l f r (.iface t0 v0)) (IH : SeeAt l g f r (.iface t0 v0)) :
    Calls Tryd.prog 44 #[.iface 111 (.agg #[.iface t0 v0, .iface t1 v1, .iface t2 v2]), .pointer (some ⟨g, 0, none⟩)] W fun e w' => ∃ u, e = .returned u ∧ Seen w' g (orP s (sureF l f) [r] 1) ∧ W.grownBy w' (some g) := by
  have HS : Hid (Seen W g s) := hs
  have HT : Hid (IsTree W (fun x => g < x) l f r (.iface t0 v0)) := ht
  have HI : Hid (SeeAt l g f r (.iface t0 v0)) := IH
  have hg := hs.lt
  clear ht IH hs
  have hb0 : Below W.heap.size W (((W.alloc (.cells #[.int .i64 0] 100)).alloc (.cells #[.iface t0 v0, .iface t1 v1, .iface t2 v2] 111)).alloc (.cells #[.iface t0 v0] 74)) := (((Below.refl _ _).alloc (Nat.le_refl _) _).alloc (by simp) _).alloc (by simp; omega) _
  have n0 : (((W.alloc (.cells #[.int .i64 0] 100)).alloc (.cells #[.iface t0 v0, .iface t1 v1, .iface t2 v2] 111)).alloc (.cells #[.iface t0 v0] 74)).cell? ⟨W.heap.size + 1 + 1, 0, none⟩ = some (.iface t0 v0) := by simp [go_sem]
  go_enter Tryd.func44, Tryd.ntmps44
  go_wp2
  rw [show (#[.agg #[.iface t0 v0, .iface t1 v1, .iface t2 v2], .pointer (some ⟨W.heap.size + 1, 0, none⟩), .slice (some ⟨W.heap.size + 1 + 1, 0, none⟩) 1 1, .pointer (some ⟨W.heap.size + 1, 0, none⟩), .iface t0 v0, .slice (some ⟨W.heap.size + 1 + 1, 0, none⟩) 1 1] : Array Value).getD 2 undef = .slice (some ⟨W.heap.size + 1 + 1, 0, none⟩) 1 1 from rfl]
  generalize ((W.alloc (.cells #[.int .i64 0] 100)).alloc (.cells #[.iface t0 v0, .iface t1 v1, .iface t2 v2] 111)).alloc (.cells #[.iface t0 v0] 74) = W1 at hb0 n0 ⊢
  go_loopw [22] (fun i wr => ∃ (k : Nat), k ≤ 1 ∧ i = .int .i64 k ∧ Hid (Seen wr g (orP s (sureF l f) [r] k)) ∧ W.grownBy wr (some g) ∧ W1.grownBy wr (some g)) (fun i _ => 1 - (intOf i).toNat)
  case atStart => exact ⟨0, Nat.zero_le _, rfl, (HS.out.keep hb0).eq (fun j => (orP_zero s _ [r] j).symm), grown_below hb0, World.grownBy.refl _ _⟩
  case round =>
    obtain ⟨k, hk, rfl, hsn, hgr, hgr1⟩ := hrel
    by_cases hlt : k < 1
    · have hlt' : (k : Int) < 1 := by omega
      have hk0 : k = 0 := by omega
      have c1 : wr.cell? ⟨W.heap.size + 1 + 1, k, none⟩ = some (.iface t0 v0) := by rw [hk0]; exact hgr1.cell n0 (some_ne (show W.heap.size + 1 + 1 ≠ g by omega))
      have hrk : [r].getD k 0 = r := by rw [hk0]; rfl
      have HRK : Hid ([r].getD k 0 = r) := hrk
      clear hk0 hrk
      have C := (show Hid _ from HI.out wr _ (HT.out.grown hgr) hsn.out)
      go_wp2_with fail
      refine Calls.mono C.out ?_
      rintro e w2 ⟨u, rfl, hs2, hg2⟩
      have hnx : Hid (Seen w2 g (orP s (sureF l f) [r] (k + 1))) := hs2.eq (fun j => by rw [orP_succ s _ [r] k (by simpa using hlt) j, HRK.out])
      have hgn := hgr.trans hg2
      have hgn1 := hgr1.trans hg2
      clear hs2 hg2 C hgr hsn hgr1
      go_wp2
      go_roundw
      case rel => exact ⟨k + 1, by omega, by go_num, hnx, hgn, hgn1⟩
      case measure => simp [intOf]; omega
    · obtain rfl : k = 1 := by omega
      go_wp2
      go_returns
      exact ⟨_, rfl, hsn.out, hgr⟩

theorem seeSure_any {l : List (Int × Int)} {q : Int} (h : pile l 0 = some q) (g : Nat) : ∀ (f k : Nat) (v : Value), k < l.length → SeeAt l g f k v
  | 0, _, _, _ => fun W s ht => ht.elim
  | f + 1, k, v, hk => by
    intro W s ht hs
    have IH := fun k v hk => seeSure_any h g f k v hk
    obtain ⟨h1, h2⟩ := cnt_step h k hk
    obtain ⟨a1, a2, a3, _⟩ := fits_iff _ _ _ _ h1
    rcases ht with ⟨h0, rfl⟩ | ⟨h0, rfl⟩ | ⟨h0, v0, v1, v2, rfl, t0, t1, t2⟩ | ⟨h0, h0', gs, cap, vs, rfl, hok, hg, hc⟩
    · have e : sureF l (f + 1) k = [] := by
        unfold sureF
        rw [if_neg (by omega), h0]
        rfl
      rw [e]
      refine (seeNum _ g W).mono ?_
      rintro e w' ⟨u, rfl, hb⟩
      exact ⟨u, rfl, (hs.keep hb).eq (orL_nil s), grown_below hb⟩
    · obtain ⟨n0, n4⟩ := a3 h0
      have e : sureF l (f + 1) k = [(l.getD k (0, 0)).2] := by unfold sureF; rw [if_pos h0]
      rw [e]
      obtain ⟨n, hn⟩ := Int.eq_ofNat_of_zero_le n0
      rw [hn]
      exact seeVar n (by omega) g s W hs
    · have e3 : ar (l.getD k (0, 0)).1 = 3 := by rw [h0]; rfl
      have hr : (roots l 3 k).getD 0 0 < l.length := by
        have := getD_lt (roots l 3 k) k 0 (roots_lt h 3 k (by omega) (by omega)) (by rw [roots_len]; omega)
        omega
      have e : ∀ j, orL s (sureF l (f + 1) k) j = orP s (sureF l f) [(roots l 3 k).getD 0 0] 1 j := by
        intro j
        have e1 : sureF l (f + 1) k = foldP (sureF l f) [(roots l 3 k).getD 0 0] [] := by
          show (if _ then _ else _) = _
          rw [if_neg (by omega), if_pos h0, e3]
          show foldP _ ((roots l 3 k).take 1) [] = _
          have hl := roots_len l 3 k
          generalize roots l 3 k = R at hl
          match R, hl with
          | r :: R', _ => rfl
        unfold orL orP
        rw [e1, inL_foldP]
        rfl
      obtain ⟨x0, y0, rfl⟩ := t0.form
      obtain ⟨x1, y1, rfl⟩ := t1.form
      obtain ⟨x2, y2, rfl⟩ := t2.form
      refine (seeChoice l f g _ x0 x1 x2 y0 y1 y2 s W hs t0 (IH _ _ hr)).mono ?_
      rintro e' w' ⟨u, rfl, hs', hg'⟩
      exact ⟨u, rfl, hs'.eq e, hg'⟩
    · obtain ⟨m, hm⟩ : ∃ m : Nat, ar (l.getD k (0, 0)).1 = m := ⟨(ar (l.getD k (0, 0)).1).toNat, by omega⟩
      have hr3 := ar_range (l.getD k (0, 0)).1
      rw [hm, Int.toNat_natCast] at hc
      rw [hm, Int.toNat_natCast]
      have hr : ∀ i, i < m → (roots l m k).getD i 0 < l.length := fun i hi => by
        have := getD_lt (roots l m k) k i (roots_lt h m k (by omega) (by omega)) (by rw [roots_len]; exact hi)
        omega
      have e : ∀ j, orL s (sureF l (f + 1) k) j = orP s (sureF l f) (roots l m k) m j := by
        intro j
        have e1 : sureF l (f + 1) k = foldP (sureF l f) (roots l m k) [] := by
          show (if _ then _ else _) = _
          rw [if_neg (by omega), if_neg (by omega), hm, Int.toNat_natCast, List.take_of_length_le (by rw [roots_len]; exact Nat.le_refl _)]
        unfold orL orP
        rw [e1, inL_foldP, List.take_of_length_le (by rw [roots_len]; exact Nat.le_refl _)]
        rfl
      refine (seeOp l f g _ (roots l m k) m (roots_len l m k) (by omega) vs gs cap s W hs hok hg (fun i hi => (hc i hi).1) (fun i hi => (hc i hi).2) (fun i hi => IH _ _ (hr i hi))).mono ?_
      rintro e' w' ⟨u, rfl, hs', hg'⟩
      exact ⟨u, rfl, hs'.eq e, hg'⟩

set_option maxHeartbeats 1600000 in
set_option maxRecDepth 20000 in
theorem implSure_any (a : Option Addr) (len cap : Nat) (l : List (Int × Int)) (w : World) (ht : Tab w) (h : NSl w a len l) (hm : len ≤ 9223372036854775807) :
    Calls Tryd.prog 11 #[.slice a len cap] w fun e w' => ∃ v : Value, e = .returned (.tuple #[v, .bool (goodB l)]) ∧ w'.ownsRow w.heap.size 3 1 v (sureL l).length (vals (sureL l)) ∧ Below w.heap.size w w' := by
  have hll := h.1
  have HG := (show Hid _ from implGood_any a len cap l w ht h hm)
  have HT : Hid (Tab w) := ht
  have HS : Hid (NSl w a len l) := h
  clear ht
  by_cases hg : goodB l = true
  · obtain ⟨hp, g1, g2⟩ := good_pile hg
    rw [show sureL l = sureF l len (len - 1) from by unfold sureL; rw [if_pos hg, hll], hg]
    rw [hg] at HG
    have hfew : Few (sureF l len (len - 1)) := few_sure hp len (len - 1) (by omega)
    have HTr : Hid (∀ W, Tab W → NSl W a len l → Calls Tryd.prog 45 #[.slice a len cap] W fun e w' => ∃ v, e = .returned v ∧ IsTree w' (fun g => W.heap.size ≤ g) l len (len - 1) v ∧ Below W.heap.size W w') := fun W hT hS => treeOf_any hp a len cap W hT hS (by omega) (by omega)
    have HSee : Hid (∀ W (g B : Nat) (x : Value), g < B → IsTree W (fun y => B ≤ y) l len (len - 1) x → Seen W g (fun _ => false) → Calls Tryd.prog 44 #[x, .pointer (some ⟨g, 0, none⟩)] W fun e w' => ∃ u, e = .returned u ∧ Seen w' g (inL (sureF l len (len - 1))) ∧ W.grownBy w' (some g)) := fun W g B x hgB hX hs => by
      refine (seeSure_any hp g len (len - 1) x (by omega) W _ (IsTree.map (Nat.le_refl _) (fun y h1 h2 => ⟨Nat.lt_of_lt_of_le hgB h1, rfl⟩) len len (len - 1) x (Nat.le_refl _) hX) hs).mono ?_
      rintro e w' ⟨u, rfl, hs', hg'⟩
      exact ⟨u, rfl, hs'.eq (fun j => by simp [orL]), hg'⟩
    have HR : Hid (∀ W, Calls Tryd.prog 46 #[.agg #[.bool (inL (sureF l len (len - 1)) 0), .bool (inL (sureF l len (len - 1)) 1), .bool (inL (sureF l len (len - 1)) 2), .bool (inL (sureF l len (len - 1)) 3)]] W fun e w' => ∃ v : Value, e = .returned v ∧ w'.ownsRow W.heap.size 3 1 v (sureF l len (len - 1)).length (vals (sureF l len (len - 1))) ∧ Below W.heap.size W w') := fun W => by
      have := rising_any (inL (sureF l len (len - 1))) W
      rw [ris_few hfew] at this
      exact this
    generalize sureF l len (len - 1) = O at HR HSee ⊢
    clear hfew hp hg h
    go_enter Tryd.func11, Tryd.ntmps11
    go_wp2_with fail
    refine Calls.mono HG.out ?_
    rintro e w1 ⟨rfl, hb1⟩
    clear HG
    have hs0 : Seen (w1.alloc (.cells #[.bool false, .bool false, .bool false, .bool false] 71)) w1.heap.size (fun _ => false) := by
      show (w1.alloc _).heap[w1.heap.size]? = _
      rw [heap_alloc_new]
    have hb2 := hb1.alloc hb1.size (.cells #[.bool false, .bool false, .bool false, .bool false] 71)
    have hlt : w1.heap.size < (w1.alloc (.cells #[.bool false, .bool false, .bool false, .bool false] 71)).heap.size := by simp
    have HS0 := (show Hid _ from hs0)
    clear hs0
    go_wp2_with fail
    generalize w1.alloc (.cells #[.bool false, .bool false, .bool false, .bool false] 71) = W2 at HS0 hb2 hlt ⊢
    refine Calls.mono (HTr.out _ (HT.out.keeps hb2) (HS.out.keep hb2)) ?_
    rintro e w3 ⟨x, rfl, htree, hb3⟩
    have hB3 := hb2.trans (hb3.mono hb2.size)
    have C := (show Hid _ from HSee.out w3 w1.heap.size _ x hlt htree (Seen.keep HS0.out hb3))
    obtain ⟨tt, xx, rfl⟩ := htree.form
    clear htree HS0 HSee HTr
    go_wp2_with fail
    refine Calls.mono C.out ?_
    rintro e w4 ⟨u, rfl, hs4, hg4⟩
    have hB4 : Below w.heap.size w w4 := hB3.grown hg4 hB3.size (fun r hr => by cases hr; exact hb1.size)
    have d0 := (hs4.cell 0 (by omega)).1
    have d1 := (hs4.cell 1 (by omega)).1
    have d2 := (hs4.cell 2 (by omega)).1
    have d3 := (hs4.cell 3 (by omega)).1
    clear C hg4 hs4
    go_wp2_with fail
    refine Calls.mono (HR.out _) ?_
    rintro e w5 ⟨v, rfl, hown, hb5⟩
    go_wp2
    go_ret2
    exact ⟨_, rfl, own_base hown hB4.size, hB4.trans (hb5.mono hB4.size)⟩
  · have hg' : goodB l = false := by simpa using hg
    have hL : sureL l = [] := by unfold sureL; rw [if_neg hg]
    rw [hg', hL]
    rw [hg'] at HG
    clear hL hg hg' h
    go_enter Tryd.func11, Tryd.ntmps11
    go_wp2_with fail
    refine Calls.mono HG.out ?_
    rintro e w1 ⟨rfl, hb1⟩
    go_wp2
    go_ret2
    exact ⟨_, rfl, World.ownsRow_nil _ _ _ _, hb1⟩
end Go.Proofs.YtlpefaaohcgboaaDoor
