/-
  PROVED HERE: all namings, as the model lists them. No condition. what the model's l6Closed answers: the least joining that is closed, at all nodes that are as they must be and all good parts of them. No other condition. what is left to do for a closing, read out of memory. No condition.
-/
import Derived.Test.YtobgkfpjokfbaaaGreatDoorRun32
import Derived.Test.YtobgkfpjokfbaaaGreatDoorRun14
import Derived.Laws.AppendOwnNone
import Derived.Maps.AppendAt
import Derived.Laws.OwnMore
import Derived.Test.YtobgkfpjokfbaaaGreatDoorRun28
import Derived.Test.YtobgkfpjokfbaaaGreatDoorRun13
import Derived.Test.YtobgkfpjokfbaaaGreatDoorRun29
import Derived.Test.YtobgkfpjokfbaaaGreatDoorRun19
import Derived.Deep.CutRange
import Derived.Deep.RegionHeld3
import Derived.Test.YtobgkfpjokfbaaaGreatDoorRun31
namespace Go.Proofs.YtobgkfpjokfbaaaGreatDoor
open Go.ChangeShapes Go.WideShapes Go.ChangeAt Go.RowKit
set_option linter.unusedVariables false

theorem own8Z_any (a : Option Addr) (cap : Nat) (w : World) :
    Calls Tryz.prog 97 #[.slice a 0 cap] w fun e w' => ∃ v : Value, e = .returned v ∧ w'.ownsRow w.heap.size 3 1 v 0 (vals []) ∧ Below w.heap.size w w' := by
  obtain ⟨i0, hi, hz0, hz1, hz2⟩ := info_parts infoInt
  have hb0 : Below w.heap.size w (w.alloc (.cells #[] 3)) := (Below.refl _ _).alloc (Nat.le_refl _) _
  cases a with
  | none =>
    go_enter Tryz.func97, Tryz.ntmps97
    go_wp2
    go_ret
    exact ⟨_, rfl, empty5 w, hb0⟩
  | some x =>
    go_enter Tryz.func97, Tryz.ntmps97
    go_wp2_with (at_builtin; refine wpList_append_own _ rfl _ _ 23 rfl w.heap.size 3 i0 (.int .i64 0) 1 8 Tryz.underlying23 hi hz0 hz1 hz2 rfl (by decide) _ _ _ rfl (empty5 w) x 0 cap (vals []) rfl rfl (fun j u hj => by simp [vals] at hj) (fun u hu => by simp [vals] at hu) (by unfold maxLen; omega) (by omega) (by simp) ?_; intro v' w4 hown4 hg4 _)
    go_ret
    rw [Nat.zero_add, List.nil_append] at hown4
    exact ⟨_, rfl, hown4, hb0.grown hg4 (by simp) (fun r hr => by cases hr; exact Nat.le_refl _)⟩
theorem own8_any (a : Option Addr) (len cap : Nat) (l : List Int) (w : World) (h : Sl w a len l) (hn : len ≤ 1048576) :
    Calls Tryz.prog 97 #[.slice a len cap] w fun e w' => ∃ v : Value, e = .returned v ∧ w'.ownsRow w.heap.size 3 1 v len (vals l) ∧ Below w.heap.size w w' := by
  by_cases h0 : len = 0
  · subst h0
    have : l = [] := List.length_eq_zero_iff.1 h.1
    subst this
    exact own8Z_any a cap w
  · exact own5_any a len cap l w h (by omega) hn
abbrev nov8 : Value := .bool false
/-- A row of rows of numbers. -/
def RowsP (w : World) (g : Option Nat) (ok : Nat → Prop) (xs : List Value) (ps : List (List Int)) : Prop :=
  xs.length = ps.length ∧ ∀ i, i < ps.length → ∃ b off ci, xs.getD i nov8 = .slice (some ⟨b, off, none⟩) (ps.getD i []).length ci ∧ Sl w (some ⟨b, off, none⟩) (ps.getD i []).length (ps.getD i []) ∧ b < w.heap.size ∧ g ≠ some b ∧ ok b
theorem RowsP.keep {w w' : World} {g : Option Nat} {ok : Nat → Prop} {xs : List Value} {ps : List (List Int)} (h : RowsP w g ok xs ps) (hb : Below w.heap.size w w') : RowsP w' g ok xs ps :=
  ⟨h.1, fun i hi => by
    obtain ⟨b, off, ci, h1, h2, h3, h4, h5⟩ := h.2 i hi
    exact ⟨b, off, ci, h1, h2.keep hb, Nat.lt_of_lt_of_le h3 hb.size, h4, h5⟩⟩
theorem getV8_app {xs ys : List Value} {k : Nat} (h : k < xs.length) : (xs ++ ys).getD k nov8 = xs.getD k nov8 := by
  rw [List.getD_eq_getElem?_getD, List.getElem?_append_left h, ← List.getD_eq_getElem?_getD]
theorem getV8_app2 {xs ys : List Value} {k : Nat} (h : xs.length ≤ k) : (xs ++ ys).getD k nov8 = ys.getD (k - xs.length) nov8 := by
  rw [List.getD_eq_getElem?_getD, List.getElem?_append_right h, ← List.getD_eq_getElem?_getD]
theorem getP8_app {xs ys : List (List Int)} {k : Nat} (h : k < xs.length) : (xs ++ ys).getD k [] = xs.getD k [] := by
  rw [List.getD_eq_getElem?_getD, List.getElem?_append_left h, ← List.getD_eq_getElem?_getD]
theorem getP8_app2 {xs ys : List (List Int)} {k : Nat} (h : xs.length ≤ k) : (xs ++ ys).getD k [] = ys.getD (k - xs.length) [] := by
  rw [List.getD_eq_getElem?_getD, List.getElem?_append_right h, ← List.getD_eq_getElem?_getD]
theorem RowsP.one {w w6 : World} {g g6 : Option Nat} {ok ok' : Nat → Prop} {v : Value} {p : List Int} (h : ∃ b off ci, v = .slice (some ⟨b, off, none⟩) p.length ci ∧ Sl w (some ⟨b, off, none⟩) p.length p ∧ b < w.heap.size ∧ ok b ∧ g ≠ some b) (hok : ∀ b, ok b → ok' b) (hg : w.grownBy w6 g) (h6 : g6 = g ∨ ∃ n, g6 = some n ∧ w.heap.size ≤ n) : ∃ b off ci, v = .slice (some ⟨b, off, none⟩) p.length ci ∧ Sl w6 (some ⟨b, off, none⟩) p.length p ∧ b < w6.heap.size ∧ g6 ≠ some b ∧ ok' b := by
  obtain ⟨b, off, ci, h1, h2, h3, h4, h5⟩ := h
  have hb := hg.block b h3 (fun e => h5 e.symm)
  refine ⟨b, off, ci, h1, ⟨h2.1, ?_⟩, Nat.lt_of_lt_of_le h3 hg.size, ?_, hok b h4⟩
  · rcases h2.2 with h0 | ⟨b', off', e, hl, hc⟩
    · exact .inl h0
    · cases e
      exact .inr ⟨b, off, rfl, Nat.lt_of_lt_of_le h3 hg.size, fun i hi => (World.cell?_of_block (a := ⟨b, off + i, none⟩) hb).trans (hc i hi)⟩
  · rcases h6 with e | ⟨n, e, hn⟩
    · rw [e]; exact h5
    · rw [e]; intro e'; have := Option.some.inj e'; omega
theorem RowsP.app {w w6 : World} {g g' g6 : Option Nat} {ok ok' : Nat → Prop} {xs xs' : List Value} {ps ps' : List (List Int)} (h : RowsP w g ok xs ps) (h' : RowsP w g' ok' xs' ps') (hne : ∀ b, ok' b → g ≠ some b) (hok : ∀ b, ok' b → ok b)
    (hg : w.grownBy w6 g) (h6 : g6 = g ∨ ∃ n, g6 = some n ∧ w.heap.size ≤ n) : RowsP w6 g6 ok (xs ++ xs') (ps ++ ps') := by
  have hl := h.1
  refine ⟨by rw [List.length_append, List.length_append, h.1, h'.1], fun i hi => ?_⟩
  rw [List.length_append] at hi
  by_cases hlt : i < ps.length
  · rw [getV8_app (by omega), getP8_app hlt]
    obtain ⟨b, off, ci, h1, h2, h3, h4, h5⟩ := h.2 i hlt
    exact RowsP.one (ok := ok) ⟨b, off, ci, h1, h2, h3, h5, h4⟩ (fun _ h => h) hg h6
  · rw [getV8_app2 (by omega), getP8_app2 (by omega), hl]
    obtain ⟨b, off, ci, h1, h2, h3, h4, h5⟩ := h'.2 (i - ps.length) (by omega)
    exact RowsP.one (ok := ok') ⟨b, off, ci, h1, h2, h3, h5, hne b h5⟩ hok hg h6
theorem RowsP.one_cells {w : World} {g : Option Nat} {ok : Nat → Prop} {xs : List Value} {ps : List (List Int)} (h : RowsP w g ok xs ps) : ∀ u ∈ xs, u.oneCell' = true := by
  intro u hu
  obtain ⟨i, hi, e⟩ := List.getElem_of_mem hu
  obtain ⟨b, off, ci, h1, -⟩ := h.2 i (by rw [← h.1]; exact hi)
  rw [List.getD_eq_getElem?_getD, List.getElem?_eq_getElem hi] at h1
  simp only [Option.getD_some] at h1
  rw [← e, h1]
  rfl
/-- The namings that begin with one of the first k names more. -/
def permsK (m : Nat) (p : List Int) (k : Nat) : List (List Int) := (List.range k).flatMap fun v => if ((v : Nat) : Int) ∈ p then [] else permsL m (p ++ [((v : Nat) : Int)])
theorem permsK_4 (m : Nat) (p : List Int) : permsK m p 4 = permsL (m + 1) p := by
  simp [permsK, permsL, List.range_succ, List.flatMap_cons]
theorem permsK_step (m : Nat) (p : List Int) (k : Nat) : permsK m p (k + 1) = permsK m p k ++ if ((k : Nat) : Int) ∈ p then [] else permsL m (p ++ [((k : Nat) : Int)]) := by
  unfold permsK
  rw [List.range_succ, List.flatMap_append, List.flatMap_singleton]
theorem permsL_few : ∀ (m : Nat) (p : List Int), (permsL m p).length ≤ 4 ^ m := by
  intro m
  induction m with
  | zero => intro p; simp [permsL]
  | succ m ih =>
    intro p
    rw [← permsK_4]
    have : ∀ k, (permsK m p k).length ≤ k * 4 ^ m := by
      intro k
      induction k with
      | zero => simp [permsK]
      | succ k ihk =>
        rw [permsK_step, List.length_append, Nat.succ_mul]
        have := ih (p ++ [((k : Nat) : Int)])
        split
        · simp; omega
        · omega
    have := this 4
    rw [Nat.pow_succ]
    omega
theorem permsK_few (m : Nat) (p : List Int) (k : Nat) (hk : k ≤ 4) (hm : m ≤ 3) : (permsK m p k).length ≤ 256 := by
  have : ∀ k, (permsK m p k).length ≤ k * 4 ^ m := by
    intro k
    induction k with
    | zero => simp [permsK]
    | succ k ihk =>
      rw [permsK_step, List.length_append, Nat.succ_mul]
      have := permsL_few m (p ++ [((k : Nat) : Int)])
      split
      · simp; omega
      · omega
  have h1 := this k
  have h2 : 4 ^ m ≤ 4 ^ 3 := Nat.pow_le_pow_right (by omega) hm
  have h3 : k * 4 ^ m ≤ 4 * 4 ^ 3 := Nat.mul_le_mul hk h2
  omega
theorem permsL_pos : ∀ (m : Nat) (p : List Int), p.length + m = 4 → 0 < (permsL m p).length := by
  intro m
  induction m with
  | zero => intro p _; simp [permsL]
  | succ m ih =>
    intro p hp
    obtain ⟨v, hv, hn⟩ : ∃ v ∈ [0, 1, 2, (3 : Int)], v ∉ p := by
      refine Classical.byContradiction fun hx => ?_
      have := sub_len (l := [0, 1, 2, (3 : Int)]) (m := p) (by decide) (fun v hv => Classical.byContradiction fun hn => hx ⟨v, hv, hn⟩)
      simp at this
      omega
    have h1 := ih (p ++ [v]) (by simp; omega)
    obtain ⟨q, hq⟩ := List.exists_mem_of_length_pos h1
    unfold permsL
    refine List.length_pos_of_mem (a := q) (List.mem_flatMap.2 ⟨v, hv, ?_⟩)
    rw [if_neg hn]
    exact hq
theorem infoIntS : (Tryz.prog.info? 23).map (fun i => (i.zero, i.size, i.bytes)) = some (some (.slice none 0 0), 1, 24) := by kernel_rfl
theorem row_open {w : World} {base e n : Nat} {v : Value} {xs : List Value} (h : w.ownsRow base e 1 v n xs) : ∃ a c, v = .slice a n c := by
  rcases h.2 with ⟨rfl, rfl⟩ | ⟨g, cap, cur, rfl, _⟩
  · exact ⟨_, _, rfl⟩
  · exact ⟨_, _, rfl⟩
def PermR (W w' : World) (oka : Nat → Prop) (ps : List (List Int)) (e : Ending) : Prop := ∃ (v : Value) (xs : List Value), e = .returned v ∧ w'.ownsRow W.heap.size 23 1 v xs.length xs ∧ RowsP w' v.ownBlock (fun b => oka b ∨ W.heap.size ≤ b) xs ps ∧ Below W.heap.size W w'
def OkA (a : Option Addr) (b : Nat) : Prop := ∃ off, a = some ⟨b, off, none⟩
end Go.Proofs.YtobgkfpjokfbaaaGreatDoor
namespace Go.Proofs.YtobgkfpjokfbaaaGreatDoor
open Go.ChangeShapes Go.WideShapes Go.ChangeAt Go.RowKit
set_option linter.unusedVariables false

/-- The numbers that lie in a slice. -/
def readL (w : World) (v : Value) (n : Nat) : List Int := match v with
  | .slice (some ad) _ _ => (List.range n).map fun i => match w.cell? ⟨ad.block, ad.off + i, none⟩ with | some (.int _ z) => z | _ => 0
  | _ => []
theorem readL_of {w : World} {a : Option Addr} {n cap : Nat} {l : List Int} (h : Sl w a n l) (h0 : 0 < n) : readL w (.slice a n cap) n = l := by
  rcases h.2 with h1 | ⟨b, off, rfl, _, hc⟩
  · omega
  · unfold readL
    refine list_ext (by simp [h.1]) fun k hk => ?_
    simp only [List.length_map, List.length_range] at hk
    have := hc k hk
    simp [List.getD_eq_getElem?_getD, hk, this]
def flagN (v : Value) : Nat := match v with | .bool true => 1 | _ => 0
/-- Nodes of one shape of the first k are of one part. -/
def CongK (p : List EN) (l : List Int) (k : Nat) : Prop := ∀ i j, i < j → j < k → shO l (p.getD i e0) = shO l (p.getD j e0) → l.getD i 0 = l.getD j 0
theorem cong_all {p : List EN} {l : List Int} (h : CongK p l p.length) : Cong p l := fun i j hi hj e => by
  rcases Nat.lt_trichotomy i j with h1 | h1 | h1
  · exact h i j h1 hj e
  · rw [h1]
  · exact (h j i h1 hi e.symm).symm
theorem par_nonneg {n : Nat} {l : List Int} (h : PartsN n l) : ∀ k, k < l.length → 0 ≤ l.getD k 0 := fun k hk => (h.2.1 k hk).1

/-- The model's test of two nodes. -/
def CongR (p : List EN) (l : List Int) (i k : Nat) : Bool := decide (l.getD i 0 ≠ l.getD k 0 ∧ shO l (p.getD i e0) = shO l (p.getD k e0))
/-- An answer that is the least joining that is closed. -/
def ClAns (w w' : World) (n : Nat) (p : List EN) (l0 : List Int) (e : Ending) : Prop := ∃ (v : Option Addr) (c : Nat) (L : List Int), e = .returned (.slice v n c) ∧ Sl w' v n L ∧ Closure p l0 L ∧ Below w.heap.size w w'
set_option maxHeartbeats 6400000 in
set_option maxRecDepth 20000 in
theorem l6Closed_any {p : List EN} {l0 : List Int} (hN : nodesB p = true) (hP0 : PartsN p.length l0) (a b : Option Addr) (n cap cb : Nat) (w : World) (hE : ESl w a n p) (hS : Sl w b n l0) :
    Calls Tryz.prog 74 #[.slice a n cap, .slice b n cb] w fun e w' => ClAns w w' n p l0 e := by
  have hpl : p.length = n := hE.1
  have hn120 : n ≤ 120 := by have := ((nodesB_iff p).1 hN).1; omega
  have HO := (show Hid _ from own8_any b n cb l0 w hS (by omega))
  have HEw : Hid (∀ W, Below w.heap.size w W → ESl W a n p) := fun W hW => hE.keep hW
  have HT : Hid (Toward p l0 l0) := toward_start hP0
  have HN : Hid (nodesB p = true ∧ PartsN p.length l0 ∧ p.length = n) := ⟨hN, hP0, hpl⟩
  have HJ : Hid (∀ (L : List Int) (i k : Nat), Toward p l0 L → i < n → k < n → shO L (p.getD i e0) = shO L (p.getD k e0) → L.getD i 0 ≠ L.getD k 0 → Toward p l0 (joinPL L i k) ∧ rootsN (joinPL L i k) n < rootsN L n) := fun L i k hT hi hk e hne => by
    refine ⟨toward_join hN (by rw [hP0.1]) hT (by omega) (by omega) e, ?_⟩
    have := meas_roots (n := n) (by rw [← hpl]; exact hT.1) hi hk hne
    omega
  clear hE hS hN hP0 hpl
  go_enter Tryz.func74, Tryz.ntmps74
  go_wp2_with fail
  refine Calls.mono HO.out ?_
  rintro e w1 ⟨v1, rfl, hr1, hb1⟩
  obtain ⟨a1, c1, rfl, hs1⟩ := Sl.vals hr1
  clear HO hr1
  go_wp2_with fail
  go_loopw [5, 6] (fun x y wr => ∃ (L : List Int) (a' : Option Addr) (c' : Nat) (f : Bool), x = .slice a' n c' ∧ y = .bool f ∧ Sl wr a' n L ∧ Hid (Toward p l0 L ∧ (f = false → Cong p L)) ∧ Below w.heap.size w wr) (fun x y wr => if n = 0 then flagN y else 2 * rootsN (readL wr x n) n + flagN y)
  case atStart => exact ⟨l0, a1, c1, true, rfl, rfl, hs1, ⟨HT.out, fun h => by cases h⟩, hb1⟩
  case round =>
    obtain ⟨L0, a2, c2, f, rfl, rfl, hs2, hI2, hb2⟩ := hrel
    obtain ⟨wo, hwo⟩ : ∃ x, x = wr := ⟨_, rfl⟩
    subst hwo
    cases f with
    | false =>
      go_wp2_with fail
      go_ret
      exact ⟨a2, c2, L0, rfl, hs2, toward_end hI2.out.1 (by first | exact hI2.out.2 rfl | exact hI2.out.2 trivial), hb2⟩
    | true =>
      go_wp2_with fail
      go_loopw [5, 6, 16] (fun x y z wr => ∃ (k : Nat) (L : List Int) (a' : Option Addr) (c' : Nat) (f1 : Bool), k ≤ n ∧ z = .int .i64 k ∧ x = .slice a' n c' ∧ y = .bool f1 ∧ Sl wr a' n L ∧ Hid (Toward p l0 L ∧ (f1 = false → L = L0 ∧ CongK p L k) ∧ (f1 = true → rootsN L n < rootsN L0 n)) ∧ Below w.heap.size w wr) (fun x y z wr => n - (intOf z).toNat)
      case atStart => exact ⟨0, L0, a2, c2, false, Nat.zero_le _, rfl, rfl, rfl, hs2, ⟨hI2.out.1, fun _ => ⟨rfl, fun i j _ h => absurd h (Nat.not_lt_zero _)⟩, fun h => by cases h⟩, hb2⟩
      case round =>
        obtain ⟨k, L1, a3, c3, f1, hk, rfl, rfl, rfl, hs3, hI3, hb3⟩ := hrel
        obtain ⟨wp, hwp⟩ : ∃ x, x = wr := ⟨_, rfl⟩
        subst hwp
        by_cases hkn : k < n
        · obtain ⟨bn, off, rfl, hbl, hc⟩ := (HEw.out wp hb3).at (by omega)
          obtain ⟨ak, lk, ck, d1, d2, d3, hlk, hck, hSk⟩ := hc k hkn
          obtain ⟨y, hy⟩ : ∃ y, p.getD k e0 = y := ⟨_, rfl⟩
          rw [hy] at d1 d2 hSk
          obtain ⟨yo, yn, yk⟩ := y
          simp only at d1 d2 hSk
          have hkn' : (k : Int) < n := by omega
          obtain ⟨W2, hW2⟩ : ∃ W2, wp.alloc (.cells #[.int .i64 yo, .int .i64 yn, .slice ak lk ck] 80) = W2 := ⟨_, rfl⟩
          have hbW : Below wp.heap.size wp W2 := by rw [← hW2]; exact (Below.refl _ _).alloc (Nat.le_refl _) _
          have m0 : W2.cell? ⟨wp.heap.size, 0, none⟩ = some (.int .i64 yo) := by rw [← hW2]; simp [go_sem]
          have m1 : W2.cell? ⟨wp.heap.size, 1, none⟩ = some (.int .i64 yn) := by rw [← hW2]; simp [go_sem]
          have m2 : W2.cell? ⟨wp.heap.size, 2, none⟩ = some (.slice ak lk ck) := by rw [← hW2]; simp [go_sem]
          have hsW : wp.heap.size < W2.heap.size := by rw [← hW2]; simp
          have HM : Hid (∀ W, Below W2.heap.size W2 W → W.cell? ⟨wp.heap.size, 0, none⟩ = some (.int .i64 yo) ∧ W.cell? ⟨wp.heap.size, 1, none⟩ = some (.int .i64 yn) ∧ W.cell? ⟨wp.heap.size, 2, none⟩ = some (.slice ak lk ck) ∧ Sl W ak lk yk ∧ Below w.heap.size w W) := fun W hW => ⟨(hW.cell (p := ⟨wp.heap.size, 0, none⟩) hsW).trans m0, (hW.cell (p := ⟨wp.heap.size, 1, none⟩) hsW).trans m1, (hW.cell (p := ⟨wp.heap.size, 2, none⟩) hsW).trans m2, (hSk.keep hbW).keep hW, hb3.trans ((hbW.trans (hW.mono hbW.size)).mono hb3.size)⟩
          have hs3' := hs3.keep hbW
          have HY : Hid (p.getD k e0 = (yo, yn, yk)) := hy
          have HI3 : Hid (Toward p l0 L1 ∧ (f1 = false → L1 = L0 ∧ CongK p L1 k) ∧ (f1 = true → rootsN L1 n < rootsN L0 n)) := hI3.out
          clear hc hSk m0 m1 m2 hs3 hy
          go_wp2_with fail
          (try rw [hW2])
          clear hW2
          go_loopw [5, 6, 9] (fun x y z wr => ∃ (i : Nat) (L : List Int) (a' : Option Addr) (c' : Nat) (f2 : Bool), i ≤ k ∧ z = .int .i64 i ∧ x = .slice a' n c' ∧ y = .bool f2 ∧ Sl wr a' n L ∧ Hid (Toward p l0 L ∧ (f2 = false → L = L0 ∧ CongK p L k ∧ ∀ j, j < i → shO L (p.getD j e0) = shO L (p.getD k e0) → L.getD j 0 = L.getD k 0) ∧ (f2 = true → rootsN L n < rootsN L0 n)) ∧ Below W2.heap.size W2 wr) (fun x y z wr => k - (intOf z).toNat)
          case atStart => exact ⟨0, L1, a3, c3, f1, Nat.zero_le _, rfl, rfl, rfl, hs3', ⟨HI3.out.1, fun h => ⟨(HI3.out.2.1 h).1, (HI3.out.2.1 h).2, fun j hj => absurd hj (Nat.not_lt_zero _)⟩, HI3.out.2.2⟩, Below.refl _ _⟩
          case round =>
            obtain ⟨i, L, a4, c4, f2, hi, rfl, rfl, rfl, hs4, hI4, hb4⟩ := hrel
            obtain ⟨wq, hwq⟩ : ∃ x, x = wr := ⟨_, rfl⟩
            subst hwq
            have hin : (i : Int) < n := by omega
            by_cases hik : i < k
            · have hik' : (i : Int) < k := by omega
              obtain ⟨aj, lj, cj, g1, g2, g3, hlj, hcj, hSj⟩ := (by
                obtain ⟨bn', off', e', hbl', hc'⟩ := (HEw.out wq (HM.out wq hb4).2.2.2.2).at (show 0 < n by omega)
                cases e'
                exact hc' i (by omega) : ∃ ai li ci, wq.cell? ⟨bn, off + i * 3, none⟩ = some (.int .i64 (p.getD i e0).1) ∧ wq.cell? ⟨bn, off + i * 3 + 1, none⟩ = some (.int .i64 (p.getD i e0).2.1) ∧ wq.cell? ⟨bn, off + i * 3 + 2, none⟩ = some (.slice ai li ci) ∧ li ≤ 9223372036854775807 ∧ li ≤ ci ∧ Sl wq ai li (p.getD i e0).2.2)
              obtain ⟨x, hx⟩ : ∃ x, p.getD i e0 = x := ⟨_, rfl⟩
              rw [hx] at g1 g2 hSj
              obtain ⟨xo, xn, xk⟩ := x
              simp only at g1 g2 hSj
              obtain ⟨W4, hW4⟩ : ∃ W4, wq.alloc (.cells #[.int .i64 xo, .int .i64 xn, .slice aj lj cj] 80) = W4 := ⟨_, rfl⟩
              have hbX : Below wq.heap.size wq W4 := by rw [← hW4]; exact (Below.refl _ _).alloc (Nat.le_refl _) _
              have n0 : W4.cell? ⟨wq.heap.size, 0, none⟩ = some (.int .i64 xo) := by rw [← hW4]; simp [go_sem]
              have n1 : W4.cell? ⟨wq.heap.size, 1, none⟩ = some (.int .i64 xn) := by rw [← hW4]; simp [go_sem]
              have n2 : W4.cell? ⟨wq.heap.size, 2, none⟩ = some (.slice aj lj cj) := by rw [← hW4]; simp [go_sem]
              have hsX : wq.heap.size < W4.heap.size := by rw [← hW4]; simp
              obtain ⟨bo, oo, rfl, hbo, hco⟩ : ∃ b off, a4 = some ⟨b, off, none⟩ ∧ b < W4.heap.size ∧ ∀ i, i < n → W4.cell? ⟨b, off + i, none⟩ = some (.int .i64 (L.getD i 0)) := by
                rcases (hs4.keep hbX).2 with h0 | h0
                · omega
                · exact h0
              have hB4 : Below W2.heap.size W2 W4 := hb4.trans (hbX.mono hb4.size)
              have li := hco i (by omega)
              have lk' := hco k (by omega)
              have hX : Hid (p.getD i e0 = (xo, xn, xk)) := hx
              have HZ : Hid (∀ W, Below W4.heap.size W4 W → (W.cell? ⟨wq.heap.size, 0, none⟩ = some (.int .i64 xo) ∧ W.cell? ⟨wq.heap.size, 1, none⟩ = some (.int .i64 xn) ∧ W.cell? ⟨wq.heap.size, 2, none⟩ = some (.slice aj lj cj) ∧ W.cell? ⟨wp.heap.size, 0, none⟩ = some (.int .i64 yo) ∧ W.cell? ⟨wp.heap.size, 1, none⟩ = some (.int .i64 yn) ∧ W.cell? ⟨wp.heap.size, 2, none⟩ = some (.slice ak lk ck) ∧ W.cell? ⟨bo, oo + i, none⟩ = some (.int .i64 (L.getD i 0)) ∧ W.cell? ⟨bo, oo + k, none⟩ = some (.int .i64 (L.getD k 0))) ∧ Sl W ak lk yk ∧ Sl W aj lj xk ∧ Sl W (some ⟨bo, oo, none⟩) n L ∧ Below W2.heap.size W2 W) := fun W hW => by
                have hY := hB4.trans (hW.mono hB4.size)
                obtain ⟨o1, o2, o3, o4, o5⟩ := HM.out W hY
                exact ⟨⟨(hW.cell (p := ⟨wq.heap.size, 0, none⟩) hsX).trans n0, (hW.cell (p := ⟨wq.heap.size, 1, none⟩) hsX).trans n1, (hW.cell (p := ⟨wq.heap.size, 2, none⟩) hsX).trans n2, o1, o2, o3, (hW.cell (p := ⟨bo, oo + i, none⟩) hbo).trans li, (hW.cell (p := ⟨bo, oo + k, none⟩) hbo).trans lk'⟩, o4, (hSj.keep hbX).keep hW, (hs4.keep hbX).keep hW, hY⟩
              have HI4 : Hid (Toward p l0 L ∧ (f2 = false → L = L0 ∧ CongK p L k ∧ ∀ j, j < i → shO L (p.getD j e0) = shO L (p.getD k e0) → L.getD j 0 = L.getD k 0) ∧ (f2 = true → rootsN L n < rootsN L0 n)) := hI4.out
              have HR : Hid (ESl wq (some ⟨bn, off, none⟩) n p) := HEw.out wq (HM.out wq hb4).2.2.2.2
              clear hs4 hI4 hSj hx n0 n1 n2 hco hB4 li lk' hb4 hbX
              have HRt : Hid (CongR p L i k = true → L.getD i 0 ≠ L.getD k 0 ∧ shO L (p.getD i e0) = shO L (p.getD k e0)) := fun h => by unfold CongR at h; exact of_decide_eq_true h
              have HRf : Hid (CongR p L i k = false → shO L (p.getD i e0) = shO L (p.getD k e0) → L.getD i 0 = L.getD k 0) := fun h e => by
                unfold CongR at h
                have := of_decide_eq_false h
                by_cases e1 : L.getD i 0 = L.getD k 0
                · exact e1
                · exact absurd ⟨e1, e⟩ this
              have ga : ∀ x : Ahead W4, x.w.cell? ⟨wq.heap.size, 0, none⟩ = some (.int .i64 xo) := fun x => (HZ.out x.w x.h).1.1
              have gb : ∀ x : Ahead W4, x.w.cell? ⟨wq.heap.size, 1, none⟩ = some (.int .i64 xn) := fun x => (HZ.out x.w x.h).1.2.1
              have gc : ∀ x : Ahead W4, x.w.cell? ⟨wq.heap.size, 2, none⟩ = some (.slice aj lj cj) := fun x => (HZ.out x.w x.h).1.2.2.1
              have gd : ∀ x : Ahead W4, x.w.cell? ⟨wp.heap.size, 0, none⟩ = some (.int .i64 yo) := fun x => (HZ.out x.w x.h).1.2.2.2.1
              have ge : ∀ x : Ahead W4, x.w.cell? ⟨wp.heap.size, 1, none⟩ = some (.int .i64 yn) := fun x => (HZ.out x.w x.h).1.2.2.2.2.1
              have gf : ∀ x : Ahead W4, x.w.cell? ⟨wp.heap.size, 2, none⟩ = some (.slice ak lk ck) := fun x => (HZ.out x.w x.h).1.2.2.2.2.2.1
              have gg : ∀ x : Ahead W4, x.w.cell? ⟨bo, oo + i, none⟩ = some (.int .i64 (L.getD i 0)) := fun x => (HZ.out x.w x.h).1.2.2.2.2.2.2.1
              have gh : ∀ x : Ahead W4, x.w.cell? ⟨bo, oo + k, none⟩ = some (.int .i64 (L.getD k 0)) := fun x => (HZ.out x.w x.h).1.2.2.2.2.2.2.2
              obtain ⟨zi, hzi⟩ : ∃ z, L.getD i 0 = z := ⟨_, rfl⟩
              obtain ⟨zk, hzk⟩ : ∃ z, L.getD k 0 = z := ⟨_, rfl⟩
              have HQ : Hid (CongR p L i k = decide (zi ≠ zk ∧ shO L (xo, xn, xk) = shO L (yo, yn, yk))) := by show CongR p L i k = _; unfold CongR; rw [hX.out, HY.out, hzi, hzk]
              have HKL : Hid ((shO L (xo, xn, xk) = shO L (yo, yn, yk)) ↔ (xo = yo ∧ xn = yn ∧ kidsL L xk = kidsL L yk)) := by
                have := shO_iff HN.out.1 L (i := i) (j := k) (by have := HN.out.2.2; omega) (by have := HN.out.2.2; omega)
                rw [hX.out, HY.out] at this
                exact this
              rw [hzi] at gg
              rw [hzk] at gh
              go_upto_region 12 with fail
              (try rw [hW4])
              clear hW4
              have hzi' : Hid (L.getD i 0 = zi) := hzi
              have hzk' : Hid (L.getD k 0 = zk) := hzk
              clear hzi hzk
              go_cut [63] from 30 to 63 (fun s wx => s = .bool (CongR p L i k) ∧ Below W4.heap.size W4 wx)
              case first =>
                by_cases hz : zi = zk
                · have hR : Hid (CongR p L i k = false) := by show CongR p L i k = false; rw [HQ.out]; exact decide_eq_false fun h => h.1 hz
                  have hee : (zi != zk) = false := by simpa using hz
                  clear HZ HQ HKL HRt HRf hz HR
                  have hne' := ahead_some W4
                  refine wp_region_ahead (by kernel_rfl) (by kernel_rfl) ?_
                  repeat (first
                    | go_big_quiet_skip
                    | (go_big_quiet_want; go_big_quiet_op; go_big_quiet_on))
                  refine wpQuiet_nil ?_
                  intro _ hw'
                  obtain ⟨xq, rfl⟩ := hw'
                  go_wp2_with fail
                  go_meet
                  exact ⟨by rw [hR.out], xq.h⟩
                · have hee : (zi != zk) = true := by simpa using hz
                  by_cases ho : xo = yo
                  · have heo : (xo == yo) = true := by simpa using ho
                    by_cases hn : xn = yn
                    · have hen : (xn == yn) = true := by simpa using hn
                      have hR : Hid (decide (kidsL L xk = kidsL L yk) = CongR p L i k) := by
                        show decide (kidsL L xk = kidsL L yk) = CongR p L i k
                        rw [HQ.out]
                        exact decide_eq_decide.2 ⟨fun h => ⟨hz, HKL.out.2 ⟨ho, hn, h⟩⟩, fun h => (HKL.out.1 h.2).2.2⟩
                      have hxk : Hid (∀ j, j < lj → ∃ y : Nat, xk.getD j 0 = y ∧ y < n) := fun j hj => by
                        have hjl : xk.length = lj := (HZ.out W4 (Below.refl _ _)).2.2.1.1
                        have := kid_natI (k := i) (j := j) HN.out.1 (by have := HN.out.2.2; omega) (by rw [hX.out]; simp only; omega)
                        rw [hX.out] at this
                        obtain ⟨y, h1, h2⟩ := this
                        exact ⟨y, h1, by omega⟩
                      have hyk : Hid (∀ j, j < lk → ∃ y : Nat, yk.getD j 0 = y ∧ y < n) := fun j hj => by
                        have hjl : yk.length = lk := (HZ.out W4 (Below.refl _ _)).2.1.1
                        have := kid_natI (k := k) (j := j) HN.out.1 (by have := HN.out.2.2; omega) (by rw [HY.out]; simp only; omega)
                        rw [HY.out] at this
                        obtain ⟨y, h1, h2⟩ := this
                        exact ⟨y, h1, by omega⟩
                      have hfx : lj ≤ 200 ∧ lk ≤ 200 := by
                        have q1 := fit_few (((nodesB_iff p).1 HN.out.1).2 i (by have := HN.out.2.2; omega))
                        have q2 := fit_few (((nodesB_iff p).1 HN.out.1).2 k (by have := HN.out.2.2; omega))
                        rw [hX.out] at q1
                        rw [HY.out] at q2
                        have r1 := (HZ.out W4 (Below.refl _ _)).2.2.1.1
                        have r2 := (HZ.out W4 (Below.refl _ _)).2.1.1
                        simp only at q1 q2
                        omega
                      have HKx := fun (W : World) (hW : Below W4.heap.size W4 W) => spKids_any (some ⟨bo, oo, none⟩) aj n c4 lj cj L xk W (HZ.out W hW).2.2.2.1 (HZ.out W hW).2.2.1 hfx.1 hxk.out
                      have HKy := fun (W : World) (hW : Below W4.heap.size W4 W) => spKids_any (some ⟨bo, oo, none⟩) ak n c4 lk ck L yk W (HZ.out W hW).2.2.2.1 (HZ.out W hW).2.1 hfx.2 hyk.out
                      have HSm := fun (W : World) (ax ay : Option Addr) (cx cy : Nat) (h1 : Sl W ax lj (kidsL L xk)) (h2 : Sl W ay lk (kidsL L yk)) => spSame_any ax ay lj cx lk cy (kidsL L xk) (kidsL L yk) W h1 h2 (by omega)
                      have HZc := fun (W : World) (hW : Below W4.heap.size W4 W) => (show Hid _ from (HZ.out W hW).1)
                      simp only [hzi'.out, hzk'.out] at HZc
                      generalize decide (kidsL L xk = kidsL L yk) = R at hR HSm
                      generalize kidsL L xk = Kx at HKx HSm
                      generalize kidsL L yk = Ky at HKy HSm
                      have hBd : Below W4.heap.size W4 W4.drew := (Below.refl _ _).drew
                      have zD := (HZc W4.drew hBd).out
                      clear HZ HQ HKL HRt HRf hxk hyk ga gb gc gd ge gf gg gh ho hn hz
                      go_region_held3 (fun w' => w'.cell? ⟨wq.heap.size, 0, none⟩ = some (.int .i64 xo) ∧ w'.cell? ⟨wq.heap.size, 1, none⟩ = some (.int .i64 xn) ∧ w'.cell? ⟨wq.heap.size, 2, none⟩ = some (.slice aj lj cj) ∧ w'.cell? ⟨wp.heap.size, 0, none⟩ = some (.int .i64 yo) ∧ w'.cell? ⟨wp.heap.size, 1, none⟩ = some (.int .i64 yn) ∧ w'.cell? ⟨wp.heap.size, 2, none⟩ = some (.slice ak lk ck) ∧ w'.cell? ⟨bo, oo + i, none⟩ = some (.int .i64 zi) ∧ w'.cell? ⟨bo, oo + k, none⟩ = some (.int .i64 zk))
                        (first | with_reducible assumption | assumption)
                        (first
                        | (go_at_call 76; first
                            | (with_reducible refine Calls.mono (HKx W4.drew hBd) ?_; rintro e v3 ⟨vx, rfl, hrx, hb3'⟩; obtain ⟨ax, cx, rfl, hsx⟩ := Sl.vals hrx; have hB3 : Below W4.heap.size W4 v3 := hBd.trans (hb3'.mono hBd.size); have z3 := (HZc v3 hB3).out; clear hrx hb3')
                            | (with_reducible refine Calls.mono (HKx v3 hB3) ?_; rintro e v4 ⟨vx, rfl, hrx, hb4'⟩; obtain ⟨ax, cx, rfl, hsx⟩ := Sl.vals hrx; have hB4 : Below W4.heap.size W4 v4 := hB3.trans (hb4'.mono hB3.size); have z4 := (HZc v4 hB4).out; have hsy4 := Sl.keep hsy hb4'; clear hrx hb4')
                            | (with_reducible refine Calls.mono (HKy W4.drew hBd) ?_; rintro e v3 ⟨vy, rfl, hry, hb3'⟩; obtain ⟨ay, cy, rfl, hsy⟩ := Sl.vals hry; have hB3 : Below W4.heap.size W4 v3 := hBd.trans (hb3'.mono hBd.size); have z3 := (HZc v3 hB3).out; clear hry hb3')
                            | (with_reducible refine Calls.mono (HKy v3 hB3) ?_; rintro e v4 ⟨vy, rfl, hry, hb4'⟩; obtain ⟨ay, cy, rfl, hsy⟩ := Sl.vals hry; have hB4 : Below W4.heap.size W4 v4 := hB3.trans (hb4'.mono hB3.size); have z4 := (HZc v4 hB4).out; have hsx4 := Sl.keep hsx hb4'; clear hry hb4'))
                        | (go_at_call 93; first
                            | (with_reducible refine Calls.mono (HSm v4 _ _ _ _ hsx4 hsy) ?_; rintro e v5 ⟨rfl, m5, rfl⟩; have hB5 : Below W4.heap.size W4 (v4.drewN m5) := Go.below_drewN hB4 m5; have z5 := (HZc _ hB5).out)
                            | (with_reducible refine Calls.mono (HSm v4 _ _ _ _ hsx hsy4) ?_; rintro e v5 ⟨rfl, m5, rfl⟩; have hB5 : Below W4.heap.size W4 (v4.drewN m5) := Go.below_drewN hB4 m5; have z5 := (HZc _ hB5).out)))
                      all_goals
                        go_wp2_with fail
                        go_meet
                        exact ⟨by rw [hR.out], hB5⟩
                    · have hR : Hid (CongR p L i k = false) := by show CongR p L i k = false; rw [HQ.out]; exact decide_eq_false fun h => hn (HKL.out.1 h.2).2.1
                      have hen : (xn == yn) = false := by simpa using hn
                      clear HZ HQ HKL HRt HRf hz ho hn HR
                      have hne' := ahead_some W4
                      refine wp_region_ahead (by kernel_rfl) (by kernel_rfl) ?_
                      repeat (first
                        | go_big_quiet_skip
                        | (go_big_quiet_want; go_big_quiet_op; go_big_quiet_on))
                      refine wpQuiet_nil ?_
                      intro _ hw'
                      obtain ⟨xq, rfl⟩ := hw'
                      go_wp2_with fail
                      go_meet
                      exact ⟨by rw [hR.out], xq.h⟩
                  · have hR : Hid (CongR p L i k = false) := by show CongR p L i k = false; rw [HQ.out]; exact decide_eq_false fun h => ho (HKL.out.1 h.2).1
                    have heo : (xo == yo) = false := by simpa using ho
                    clear HZ HQ HKL HRt HRf hz ho HR
                    have hne' := ahead_some W4
                    refine wp_region_ahead (by kernel_rfl) (by kernel_rfl) ?_
                    repeat (first
                      | go_big_quiet_skip
                      | (go_big_quiet_want; go_big_quiet_op; go_big_quiet_on))
                    refine wpQuiet_nil ?_
                    intro _ hw'
                    obtain ⟨xq, rfl⟩ := hw'
                    go_wp2_with fail
                    go_meet
                    exact ⟨by rw [hR.out], xq.h⟩
              case rest =>
              obtain ⟨rfl, hbc⟩ := hcut
              obtain ⟨W5, hW5⟩ : ∃ W5, W5 = wc := ⟨_, rfl⟩
              subst hW5
              obtain ⟨-, -, -, hs5, hB5⟩ := HZ.out W5 hbc
              clear ga gb gc gd ge gf gg gh HQ HKL hX HY HR HZ
              cases hr : CongR p L i k with
              | false =>
                have hnx := (show Hid _ from HRf.out hr)
                clear HRt HRf hr
                go_wp2_with fail
                go_roundw
                case rel => exact ⟨i + 1, L, some ⟨bo, oo, none⟩, c4, f2, by omega, by go_num, rfl, rfl, hs5, ⟨HI4.out.1, fun h => ⟨(HI4.out.2.1 h).1, (HI4.out.2.1 h).2.1, fun j hj e => by
                  by_cases e1 : j = i
                  · subst e1; exact hnx.out e
                  · exact (HI4.out.2.1 h).2.2 j (by omega) e⟩, HI4.out.2.2⟩, hB5⟩
                case measure => simp [intOf]; omega
              | true =>
                obtain ⟨h1, h2⟩ := HRt.out hr
                have hLn : L.length = n := hs5.1
                have hTj := (show Hid _ from HJ.out L i k HI4.out.1 (by omega) hkn h2 h1)
                have hr0 : Hid (rootsN L n ≤ rootsN L0 n) := by
                  show rootsN L n ≤ rootsN L0 n
                  cases f2 with
                  | false => rw [(HI4.out.2.1 rfl).1]; exact Nat.le_refl _
                  | true => exact Nat.le_of_lt (HI4.out.2.2 rfl)
                have HJn := (show Hid _ from l5Join_any (some ⟨bo, oo, none⟩) n c4 L i k W5 hs5 (par_nonneg HI4.out.1.1) (by omega) (by omega) hkn)
                clear HRt HRf hr h1 h2 hs5
                go_wp2_with fail
                refine Calls.mono HJn.out ?_
                rintro e w6 ⟨v6, rfl, hr6, hb6⟩
                obtain ⟨a6, c6, rfl, hs6⟩ := Sl.vals hr6
                have hB6 : Below W2.heap.size W2 w6 := hB5.trans (hb6.mono hB5.size)
                clear HJn hr6 hb6
                go_wp2_with fail
                go_roundw
                case rel => exact ⟨i + 1, joinPL L i k, a6, c6, true, by omega, by go_num, rfl, rfl, hs6, ⟨hTj.out.1, (fun h => by cases h), fun _ => Nat.lt_of_lt_of_le hTj.out.2 hr0.out⟩, hB6⟩
                case measure => simp [intOf]; omega
            · obtain rfl : i = k := by omega
              clear hik
              go_wp2_with fail
              go_roundw
              case rel => exact ⟨i + 1, L, a4, c4, f2, by omega, by go_num, rfl, rfl, hs4, ⟨hI4.out.1, fun h => by
                obtain ⟨q1, q2, q3⟩ := hI4.out.2.1 h
                refine ⟨q1, fun s j h1 h2 h3 => ?_⟩
                by_cases e : j = i
                · subst e; exact q3 s h1 h3
                · exact q2 s j h1 (by omega) h3, hI4.out.2.2⟩, (HM.out _ hb4).2.2.2.2⟩
              case measure => simp [intOf]; omega
        · obtain rfl : k = n := by omega
          go_wp2_with fail
          have hfin : Hid (f1 = false → Cong p L1) := fun h => cong_all (by rw [HN.out.2.2]; exact (hI3.out.2.1 h).2)
          have hrt : Hid ((f1 = false → L1 = L0) ∧ (f1 = true → rootsN L1 k < rootsN L0 k)) := ⟨fun h => (hI3.out.2.1 h).1, hI3.out.2.2⟩
          go_roundw
          case rel => exact ⟨L1, a3, c3, f1, rfl, rfl, hs3, ⟨hI3.out.1, hfin.out⟩, hb3⟩
          case measure =>
            have hm : (if k = 0 then flagN (.bool f1) else 2 * rootsN (readL wp (.slice a3 k c3) k) k + flagN (.bool f1)) < (if k = 0 then flagN (.bool true) else 2 * rootsN (readL wo (.slice a2 k c2) k) k + flagN (.bool true)) := by
              by_cases h0 : k = 0
              · rw [if_pos h0, if_pos h0]
                cases f1 with
                | false => exact Nat.lt_succ_self 0
                | true => exact absurd (hrt.out.2 rfl) (by rw [h0]; exact Nat.lt_irrefl 0)
              · rw [if_neg h0, if_neg h0, readL_of hs3 (by omega), readL_of hs2 (by omega)]
                cases f1 with
                | false => rw [hrt.out.1 rfl]; exact Nat.lt_succ_self _
                | true => have := hrt.out.2 rfl; show 2 * _ + 1 < 2 * _ + 1; omega
            exact hm
end Go.Proofs.YtobgkfpjokfbaaaGreatDoor
namespace Go.Proofs.YtobgkfpjokfbaaaGreatDoor
open Go.ChangeShapes Go.WideShapes Go.ChangeAt Go.RowKit
open Go.MapKept Go.ChangeMaps
set_option linter.unusedVariables false

def lenV6 : Value → Nat
  | .slice _ n _ => n
  | _ => 0
def cellV (w : World) (b j : Nat) : Value := (w.cell? ⟨b, j, none⟩).getD (.int .i64 0)
def blkV : Value → Nat
  | .slice (some a) _ _ => a.block
  | _ => 0
/-- What is left to do, read out of memory. -/
def leftM (w : World) (C n : Nat) : Nat := lenV6 (cellV w C 4) + rootsN (readL w (cellV w C 1) n) n * sumN (fun y => if (readL w (cellV w C 1) n).getD y 0 = y then lenV6 (cellV w (blkV (cellV w C 2)) y) else 0) n
theorem len_row {w : World} {base e size n : Nat} {v : Value} {xs : List Value} (h : w.ownsRow base e size v n xs) : lenV6 v = n := by
  obtain ⟨a, c, rfl, _⟩ := row_slice h
  rfl
theorem leftM_of {w : World} {lo : Nat} {T : Nat → Nat} {n C bu bf : Nat} {na vp vd : Value} {V : Nat → Value} {l : List Int} {U : Nat → List Int} {F : Sh → Option Int} {D : List (Int × Int)} (h : Clo w lo T n C bu bf na vp vd V l U F D) : leftM w C n = leftN l U n D.length := by
  have e4 : cellV w C 4 = vd := by unfold cellV; rw [h.c4]; rfl
  have e1 : cellV w C 1 = vp := by unfold cellV; rw [h.c1]; rfl
  have e2 : blkV (cellV w C 2) = bu := by unfold cellV; rw [h.c2]; rfl
  unfold leftM leftN
  rw [e4, e1, e2, len_row h.rd]
  rcases Nat.eq_zero_or_pos n with h0 | h0
  · subst h0
    rfl
  · obtain ⟨ap, cp, rfl, hs⟩ := Sl.vals h.rp
    rw [readL_of hs h0]
    unfold totN
    congr 2
    refine sumN_congr fun y hy => ?_
    try simp only
    have : cellV w bu y = V y := by unfold cellV; rw [(h.cu y hy).1]; rfl
    rw [this, len_row (h.ru y hy)]
/-- A root there is, and its users are no more than what is left. -/
theorem users_few {n : Nat} {l : List Int} (hP : PartsN n l) (U : Nat → List Int) {i j : Nat} (hi : i < n) (hj : j < n) (hne : l.getD i 0 ≠ l.getD j 0) (d : Nat) : ∀ g : Nat, g < n → l.getD g 0 = g → (U g).length + d ≤ leftN l U n d := by
  intro g hg hr
  have h1 := meas_roots hP hi hj hne
  have h2 := sumN_ge (f := fun x => if l.getD x 0 = x then (U x).length else 0) hg
  try simp only at h2
  rw [if_pos hr] at h2
  unfold leftN
  have h3 : totN l U n ≤ rootsN l n * totN l U n := Nat.le_mul_of_pos_left _ (by omega)
  have h4 : (U g).length ≤ totN l U n := h2
  omega
theorem snoc_cases {α : Type} (D : List α) : D = [] ∨ ∃ D0 x, D = D0 ++ [x] := by
  rcases List.eq_nil_or_concat D with h | ⟨D0, x, h⟩
  · exact .inl h
  · exact .inr ⟨D0, x, by simpa using h⟩
end Go.Proofs.YtobgkfpjokfbaaaGreatDoor
