/-
  PROVED HERE: all namings, as the model lists them. No condition.
-/
import Derived.Test.YtkadanagmahhgaaGreatDoorRun18
import Derived.Test.YtkadanagmahhgaaGreatDoorRun21
import Derived.Test.YtkadanagmahhgaaGreatDoorRun8
import Derived.Laws.AppendOwnNone
import Derived.Maps.AppendAt
import Derived.Laws.OwnMore
namespace Go.Proofs.YtkadanagmahhgaaGreatDoor
open Go.ChangeShapes Go.WideShapes Go.ChangeAt Go.RowKit
set_option linter.unusedVariables false

theorem own8Z_any (a : Option Addr) (cap : Nat) (w : World) :
    Calls Tryz.prog 151 #[.slice a 0 cap] w fun e w' => ∃ v : Value, e = .returned v ∧ w'.ownsRow w.heap.size 3 1 v 0 (vals []) ∧ Below w.heap.size w w' := by
  obtain ⟨i0, hi, hz0, hz1, hz2⟩ := info_parts infoInt
  have hb0 : Below w.heap.size w (w.alloc (.cells #[] 3)) := (Below.refl _ _).alloc (Nat.le_refl _) _
  cases a with
  | none =>
    go_enter Tryz.func151, Tryz.ntmps151
    go_wp2
    go_ret
    exact ⟨_, rfl, empty5 w, hb0⟩
  | some x =>
    go_enter Tryz.func151, Tryz.ntmps151
    go_wp2_with (at_builtin; refine wpList_append_own _ rfl _ _ 62 rfl w.heap.size 3 i0 (.int .i64 0) 1 8 Tryz.underlying62 hi hz0 hz1 hz2 rfl (by decide) _ _ _ rfl (empty5 w) x 0 cap (vals []) rfl rfl (fun j u hj => by simp [vals] at hj) (fun u hu => by simp [vals] at hu) (by unfold maxLen; omega) (by omega) (by simp) ?_; intro v' w4 hown4 hg4 _)
    go_ret
    rw [Nat.zero_add, List.nil_append] at hown4
    exact ⟨_, rfl, hown4, hb0.grown hg4 (by simp) (fun r hr => by cases hr; exact Nat.le_refl _)⟩
theorem own8_any (a : Option Addr) (len cap : Nat) (l : List Int) (w : World) (h : Sl w a len l) (hn : len ≤ 1048576) :
    Calls Tryz.prog 151 #[.slice a len cap] w fun e w' => ∃ v : Value, e = .returned v ∧ w'.ownsRow w.heap.size 3 1 v len (vals l) ∧ Below w.heap.size w w' := by
  by_cases h0 : len = 0
  · subst h0
    have : l = [] := List.length_eq_zero_iff.1 h.1
    subst this
    exact own8Z_any a cap w
  · exact own5_any a len cap l w h (by omega) hn
set_option maxHeartbeats 1600000 in
theorem has8_any (a : Option Addr) (len cap : Nat) (l : List Int) (v : Int) (w : World) (h : Sl w a len l) (hm : len ≤ 1000) :
    Calls Tryz.prog 62 #[.slice a len cap, .int .i64 v] w fun e w' => e = .returned (.bool (decide (v ∈ l))) ∧ w' = w := by
  have hll := h.1
  have HS : Hid (Sl w a len l) := h
  have HY : Hid (∀ k, k < len → l.getD k 0 = v → true = decide (v ∈ l)) := fun k hk e => by
    rw [decide_eq_true]
    rw [← e, List.getD_eq_getElem?_getD, List.getElem?_eq_getElem (by omega)]
    exact List.getElem_mem _
  have HN : Hid ((∀ k, k < len → ¬ l.getD k 0 = v) → false = decide (v ∈ l)) := fun hx => by
    rw [decide_eq_false]
    intro hm
    obtain ⟨k, hk, e⟩ := List.getElem_of_mem hm
    refine hx k (by omega) ?_
    rw [List.getD_eq_getElem?_getD, List.getElem?_eq_getElem hk]
    exact e
  generalize decide (v ∈ l) = R at HY HN ⊢
  clear h hll
  go_enter Tryz.func62, Tryz.ntmps62
  go_wp2_with fail
  go_loopw [9] (fun x wr => ∃ (k : Nat), k ≤ len ∧ x = .int .i64 k ∧ Hid (∀ j, j < k → ¬ l.getD j 0 = v) ∧ wr = w) (fun x _ => len - (intOf x).toNat)
  case atStart => exact ⟨0, Nat.zero_le _, rfl, fun j hj => absurd hj (Nat.not_lt_zero _), rfl⟩
  case round =>
    obtain ⟨k, hk, rfl, hE, rfl⟩ := hrel
    by_cases hlt : k < len
    · obtain ⟨b, off, rfl, hb⟩ : ∃ b off, a = some ⟨b, off, none⟩ ∧ wr.cell? ⟨b, off + k, none⟩ = some (.int .i64 (l.getD k 0)) := by
        rcases HS.out.2 with h0 | ⟨b, off, e, _, hc⟩
        · omega
        · exact ⟨b, off, e, hc k hlt⟩
      have hkl : (k : Int) < len := by omega
      by_cases e : l.getD k 0 = v
      · have hR := HY.out k hlt e
        subst hR
        rw [e] at hb
        have e2 : (v == v) = true := by simp
        clear HY HN hE e
        go_wp2
        go_ret
        exact ⟨rfl, rfl⟩
      · have HE2 : Hid (∀ j, j < k + 1 → ¬ l.getD j 0 = v) := fun j hj => by
          by_cases e2 : j = k
          · rw [e2]; exact e
          · exact hE.out j (by omega)
        have e2 : (l.getD k 0 == v) = false := by simpa using e
        clear e hE
        generalize l.getD k 0 = y at hb e2
        go_wp2
        exact ⟨⟨k + 1, by omega, by go_num, HE2, trivial⟩, by simp [intOf]; omega⟩
    · obtain rfl : k = len := by omega
      have hR := HN.out hE.out
      subst hR
      go_wp2
      go_ret
      exact ⟨rfl, rfl⟩

abbrev nov8 : Value := .bool false
/-- A row of rows of numbers. -/
def RowsP (w : World) (g : Option Nat) (ok : Nat → Prop) (xs : List Value) (ps : List (List Int)) : Prop :=
  xs.length = ps.length ∧ ∀ i, i < ps.length → ∃ b off ci, xs.getD i nov8 = .slice (some ⟨b, off, none⟩) (ps.getD i []).length ci ∧ Sl w (some ⟨b, off, none⟩) (ps.getD i []).length (ps.getD i []) ∧ b < w.heap.size ∧ g ≠ some b ∧ ok b
theorem RowsP.keep {w w' : World} {g : Option Nat} {ok : Nat → Prop} {xs : List Value} {ps : List (List Int)} (h : RowsP w g ok xs ps) (hb : Below w.heap.size w w') : RowsP w' g ok xs ps :=
  ⟨h.1, fun i hi => by
    obtain ⟨b, off, ci, h1, h2, h3, h4, h5⟩ := h.2 i hi
    exact ⟨b, off, ci, h1, h2.keep hb, Nat.lt_of_lt_of_le h3 hb.size, h4, h5⟩⟩
theorem getV8_app {xs ys : List Value} {k : Nat} (h : k < xs.length) : (xs ++ ys).getD k nov8 = xs.getD k nov8 := by
  rw [List.getD_eq_getElem?_getD, List.getElem?_append_left h, ← List.getD_eq_getElem?_getD]
theorem getV8_app2 {xs ys : List Value} {k : Nat} (h : xs.length ≤ k) : (xs ++ ys).getD k nov8 = ys.getD (k - xs.length) nov8 := by
  rw [List.getD_eq_getElem?_getD, List.getElem?_append_right h, ← List.getD_eq_getElem?_getD]
theorem getP8_app {xs ys : List (List Int)} {k : Nat} (h : k < xs.length) : (xs ++ ys).getD k [] = xs.getD k [] := by
  rw [List.getD_eq_getElem?_getD, List.getElem?_append_left h, ← List.getD_eq_getElem?_getD]
theorem getP8_app2 {xs ys : List (List Int)} {k : Nat} (h : xs.length ≤ k) : (xs ++ ys).getD k [] = ys.getD (k - xs.length) [] := by
  rw [List.getD_eq_getElem?_getD, List.getElem?_append_right h, ← List.getD_eq_getElem?_getD]
theorem RowsP.one {w w6 : World} {g g6 : Option Nat} {ok ok' : Nat → Prop} {v : Value} {p : List Int} (h : ∃ b off ci, v = .slice (some ⟨b, off, none⟩) p.length ci ∧ Sl w (some ⟨b, off, none⟩) p.length p ∧ b < w.heap.size ∧ ok b ∧ g ≠ some b) (hok : ∀ b, ok b → ok' b) (hg : w.grownBy w6 g) (h6 : g6 = g ∨ ∃ n, g6 = some n ∧ w.heap.size ≤ n) : ∃ b off ci, v = .slice (some ⟨b, off, none⟩) p.length ci ∧ Sl w6 (some ⟨b, off, none⟩) p.length p ∧ b < w6.heap.size ∧ g6 ≠ some b ∧ ok' b := by
  obtain ⟨b, off, ci, h1, h2, h3, h4, h5⟩ := h
  have hb := hg.block b h3 (fun e => h5 e.symm)
  refine ⟨b, off, ci, h1, ⟨h2.1, ?_⟩, Nat.lt_of_lt_of_le h3 hg.size, ?_, hok b h4⟩
  · rcases h2.2 with h0 | ⟨b', off', e, hl, hc⟩
    · exact .inl h0
    · cases e
      exact .inr ⟨b, off, rfl, Nat.lt_of_lt_of_le h3 hg.size, fun i hi => (World.cell?_of_block (a := ⟨b, off + i, none⟩) hb).trans (hc i hi)⟩
  · rcases h6 with e | ⟨n, e, hn⟩
    · rw [e]; exact h5
    · rw [e]; intro e'; have := Option.some.inj e'; omega
theorem RowsP.app {w w6 : World} {g g' g6 : Option Nat} {ok ok' : Nat → Prop} {xs xs' : List Value} {ps ps' : List (List Int)} (h : RowsP w g ok xs ps) (h' : RowsP w g' ok' xs' ps') (hne : ∀ b, ok' b → g ≠ some b) (hok : ∀ b, ok' b → ok b)
    (hg : w.grownBy w6 g) (h6 : g6 = g ∨ ∃ n, g6 = some n ∧ w.heap.size ≤ n) : RowsP w6 g6 ok (xs ++ xs') (ps ++ ps') := by
  have hl := h.1
  refine ⟨by rw [List.length_append, List.length_append, h.1, h'.1], fun i hi => ?_⟩
  rw [List.length_append] at hi
  by_cases hlt : i < ps.length
  · rw [getV8_app (by omega), getP8_app hlt]
    obtain ⟨b, off, ci, h1, h2, h3, h4, h5⟩ := h.2 i hlt
    exact RowsP.one (ok := ok) ⟨b, off, ci, h1, h2, h3, h5, h4⟩ (fun _ h => h) hg h6
  · rw [getV8_app2 (by omega), getP8_app2 (by omega), hl]
    obtain ⟨b, off, ci, h1, h2, h3, h4, h5⟩ := h'.2 (i - ps.length) (by omega)
    exact RowsP.one (ok := ok') ⟨b, off, ci, h1, h2, h3, h5, hne b h5⟩ hok hg h6
theorem RowsP.one_cells {w : World} {g : Option Nat} {ok : Nat → Prop} {xs : List Value} {ps : List (List Int)} (h : RowsP w g ok xs ps) : ∀ u ∈ xs, u.oneCell' = true := by
  intro u hu
  obtain ⟨i, hi, e⟩ := List.getElem_of_mem hu
  obtain ⟨b, off, ci, h1, -⟩ := h.2 i (by rw [← h.1]; exact hi)
  rw [List.getD_eq_getElem?_getD, List.getElem?_eq_getElem hi] at h1
  simp only [Option.getD_some] at h1
  rw [← e, h1]
  rfl
/-- The namings that begin with one of the first k names more. -/
def permsK (m : Nat) (p : List Int) (k : Nat) : List (List Int) := (List.range k).flatMap fun v => if ((v : Nat) : Int) ∈ p then [] else permsL m (p ++ [((v : Nat) : Int)])
theorem permsK_4 (m : Nat) (p : List Int) : permsK m p 4 = permsL (m + 1) p := by
  simp [permsK, permsL, List.range_succ, List.flatMap_cons]
theorem permsK_step (m : Nat) (p : List Int) (k : Nat) : permsK m p (k + 1) = permsK m p k ++ if ((k : Nat) : Int) ∈ p then [] else permsL m (p ++ [((k : Nat) : Int)]) := by
  unfold permsK
  rw [List.range_succ, List.flatMap_append, List.flatMap_singleton]
theorem permsL_few : ∀ (m : Nat) (p : List Int), (permsL m p).length ≤ 4 ^ m := by
  intro m
  induction m with
  | zero => intro p; simp [permsL]
  | succ m ih =>
    intro p
    rw [← permsK_4]
    have : ∀ k, (permsK m p k).length ≤ k * 4 ^ m := by
      intro k
      induction k with
      | zero => simp [permsK]
      | succ k ihk =>
        rw [permsK_step, List.length_append, Nat.succ_mul]
        have := ih (p ++ [((k : Nat) : Int)])
        split
        · simp; omega
        · omega
    have := this 4
    rw [Nat.pow_succ]
    omega
theorem permsK_few (m : Nat) (p : List Int) (k : Nat) (hk : k ≤ 4) (hm : m ≤ 3) : (permsK m p k).length ≤ 256 := by
  have : ∀ k, (permsK m p k).length ≤ k * 4 ^ m := by
    intro k
    induction k with
    | zero => simp [permsK]
    | succ k ihk =>
      rw [permsK_step, List.length_append, Nat.succ_mul]
      have := permsL_few m (p ++ [((k : Nat) : Int)])
      split
      · simp; omega
      · omega
  have h1 := this k
  have h2 : 4 ^ m ≤ 4 ^ 3 := Nat.pow_le_pow_right (by omega) hm
  have h3 : k * 4 ^ m ≤ 4 * 4 ^ 3 := Nat.mul_le_mul hk h2
  omega
theorem permsL_pos : ∀ (m : Nat) (p : List Int), p.length + m = 4 → 0 < (permsL m p).length := by
  intro m
  induction m with
  | zero => intro p _; simp [permsL]
  | succ m ih =>
    intro p hp
    obtain ⟨v, hv, hn⟩ : ∃ v ∈ [0, 1, 2, (3 : Int)], v ∉ p := by
      refine Classical.byContradiction fun hx => ?_
      have := sub_len (l := [0, 1, 2, (3 : Int)]) (m := p) (by decide) (fun v hv => Classical.byContradiction fun hn => hx ⟨v, hv, hn⟩)
      simp at this
      omega
    have h1 := ih (p ++ [v]) (by simp; omega)
    obtain ⟨q, hq⟩ := List.exists_mem_of_length_pos h1
    unfold permsL
    refine List.length_pos_of_mem (a := q) (List.mem_flatMap.2 ⟨v, hv, ?_⟩)
    rw [if_neg hn]
    exact hq
theorem infoIntS : (Tryz.prog.info? 62).map (fun i => (i.zero, i.size, i.bytes)) = some (some (.slice none 0 0), 1, 24) := by kernel_rfl
theorem row_open {w : World} {base e n : Nat} {v : Value} {xs : List Value} (h : w.ownsRow base e 1 v n xs) : ∃ a c, v = .slice a n c := by
  rcases h.2 with ⟨rfl, rfl⟩ | ⟨g, cap, cur, rfl, _⟩
  · exact ⟨_, _, rfl⟩
  · exact ⟨_, _, rfl⟩
def PermR (W w' : World) (oka : Nat → Prop) (ps : List (List Int)) (e : Ending) : Prop := ∃ (v : Value) (xs : List Value), e = .returned v ∧ w'.ownsRow W.heap.size 62 1 v xs.length xs ∧ RowsP w' v.ownBlock (fun b => oka b ∨ W.heap.size ≤ b) xs ps ∧ Below W.heap.size W w'
def OkA (a : Option Addr) (b : Nat) : Prop := ∃ off, a = some ⟨b, off, none⟩
set_option maxHeartbeats 6400000 in
set_option maxRecDepth 20000 in
theorem perms_any : ∀ (m : Nat) (a : Option Addr) (len cap : Nat) (p : List Int) (W : World), Sl W a len p → len + m = 4 → (∀ b off, a = some ⟨b, off, none⟩ → b < W.heap.size) →
    Calls Tryz.prog 135 #[.slice a len cap] W fun e w' => PermR W w' (OkA a) (permsL m p) e := by
  obtain ⟨i0, hi, hz0, hz1, hz2⟩ := info_parts infoInt
  obtain ⟨j0, hj, jz0, jz1, jz2⟩ := info_parts infoIntS
  intro m
  induction m with
  | zero =>
    intro a len cap p W h hlm hblk
    have hll := h.1
    obtain ⟨b, off, rfl, hbl⟩ : ∃ b off, a = some ⟨b, off, none⟩ ∧ b < W.heap.size := by
      rcases h.2 with h0 | ⟨b, off, e, hl, _⟩
      · omega
      · exact ⟨b, off, e, hl⟩
    obtain rfl : len = 4 := by omega
    obtain ⟨W1, hW1⟩ : ∃ W1, W.alloc (.cells #[.slice (some ⟨b, off, none⟩) 4 cap] 62) = W1 := ⟨_, rfl⟩
    have HP : Hid (PermR W W1 (OkA (some ⟨b, off, none⟩)) (permsL 0 p) (.returned (.slice (some ⟨W.heap.size, 0, none⟩) 1 1))) := by
      rw [← hW1]
      refine ⟨_, [.slice (some ⟨b, off, none⟩) 4 cap], rfl, World.ownsRow_lit W #[.slice (some ⟨b, off, none⟩) 4 cap] 1 (Nat.le_refl _) (by unfold maxLen; omega) rfl, ⟨rfl, fun i hi => ?_⟩, (Below.refl _ _).alloc (Nat.le_refl _) _⟩
      simp only [permsL, List.length_singleton] at hi
      obtain rfl : i = 0 := by omega
      refine ⟨b, off, cap, ?_, ?_, ?_, ?_, .inl ⟨off, rfl⟩⟩
      · simp [permsL, hll]
      · simp only [permsL, List.getD_cons_zero, hll]
        exact h.keep ((Below.refl _ _).alloc (Nat.le_refl _) _)
      · simp; omega
      · simp [Value.ownBlock]; omega
    clear h hll hblk
    go_enter Tryz.func135, Tryz.ntmps135
    go_wp2
    (try rw [hW1])
    go_ret
    exact HP.out
  | succ m ih =>
    intro a len cap p W h hlm hblk
    have hll := h.1
    have HIH := (show Hid _ from ih)
    have HOwn : Hid (∀ W', Below W.heap.size W W' → Calls Tryz.prog 151 #[.slice a len cap] W' fun e w' => ∃ v : Value, e = .returned v ∧ w'.ownsRow W'.heap.size 3 1 v len (vals p) ∧ Below W'.heap.size W' w') := fun W' hW => own8_any a len cap p W' (h.keep hW) (by omega)
    have HHas : Hid (∀ (k : Nat) W', Below W.heap.size W W' → Calls Tryz.prog 62 #[.slice a len cap, .int .i64 (k : Int)] W' fun e w' => e = .returned (.bool (decide (((k : Nat) : Int) ∈ p))) ∧ w' = W') := fun k W' hW => has8_any a len cap p k W' (h.keep hW) (by omega)
    have hl4 : ((len : Int) == 4) = false := by simp; omega
    clear h ih
    go_enter Tryz.func135, Tryz.ntmps135
    go_wp2_with fail
    go_loopw [3, 4] (fun y i wr => ∃ (k : Nat) (xs : List Value) (ao : Option Addr) (co : Nat), k ≤ 4 ∧ i = .int .i64 k ∧ y = .slice ao xs.length co ∧ Hid (wr.ownsRow W.heap.size 62 1 (.slice ao xs.length co) xs.length xs ∧ RowsP wr (Value.slice ao xs.length co).ownBlock (fun b => OkA a b ∨ W.heap.size ≤ b) xs (permsK m p k) ∧ Below W.heap.size W wr)) (fun _ i _ => 4 - (intOf i).toNat)
    case atStart => exact ⟨0, [], none, 0, Nat.zero_le _, rfl, rfl, World.ownsRow_nil _ _ _ _, ⟨rfl, fun i hi => absurd hi (Nat.not_lt_zero _)⟩, Below.refl _ _⟩
    case round =>
      obtain ⟨k, xs, ao, co, hk, rfl, rfl, hR⟩ := hrel
      by_cases hlt : k < 4
      · have hkl : (k : Int) < 4 := by omega
        have hstep := permsK_step m p k
        have HH := (show Hid _ from HHas.out k wr hR.out.2.2)
        by_cases hin : ((k : Nat) : Int) ∈ p
        · rw [decide_eq_true hin] at HH
          rw [if_pos hin, List.append_nil] at hstep
          have HR := (show Hid _ from hR.out)
          rw [← hstep] at HR
          clear hin hR hstep
          go_wp2_with fail
          refine Calls.mono HH.out ?_
          rintro e w2 ⟨rfl, rfl⟩
          clear HH
          go_wp2
          exact ⟨⟨k + 1, xs, ao, co, by omega, by go_num, rfl, HR⟩, by simp [intOf]; omega⟩
        · rw [decide_eq_false hin] at HH
          rw [if_neg hin] at hstep
          have HSt := (show Hid _ from hstep)
          have HO := (show Hid _ from HOwn.out wr hR.out.2.2)
          clear hin hstep
          go_wp2_with fail
          refine Calls.mono HH.out ?_
          rintro e w2 ⟨rfl, rfl⟩
          clear HH
          go_wp2_with fail
          refine Calls.mono HO.out ?_
          rintro e w3 ⟨v1, rfl, ho1, hb3⟩
          clear HO
          go_wp2_with (at_builtin; refine wpList_append_own _ rfl _ _ 62 rfl w2.heap.size 3 i0 (.int .i64 0) 1 8 Tryz.underlying62 hi hz0 hz1 hz2 rfl (by decide) _ _ _ rfl (ho1.alloc _) ⟨w3.heap.size, 0, none⟩ 1 1 [_] rfl rfl (cell_new1 _ _ _ _) (one_cell1 _ _) (by unfold maxLen; omega) (by omega) (by have := hb3.size; simp; omega) ?_; intro v2 w4 hown4 hg4 _)
          have e1 : vals p ++ [Value.int .i64 (k : Int)] = vals (p ++ [((k : Nat) : Int)]) := by rw [vals_append]; rfl
          rw [e1] at hown4
          obtain ⟨a2, c2, rfl, hs2⟩ := Sl.vals hown4
          have hb4 : Below w2.heap.size w2 w4 := (hb3.alloc hb3.size _).grown hg4 (hb3.alloc hb3.size _).size (fun r hr => own_ge ho1 r hr)
          have hlt2 : ∀ b off, a2 = some ⟨b, off, none⟩ → w2.heap.size ≤ b ∧ b < w4.heap.size := fun b off e => by
            subst e
            rcases hown4.2 with ⟨e, _⟩ | ⟨g, cap', cur, e, hg, hh, _⟩
            · cases e
            · cases e
              exact ⟨hg, (Array.getElem?_eq_some_iff.1 hh).1⟩
          have HC := (show Hid _ from HIH.out a2 (len + 1) c2 (p ++ [((k : Nat) : Int)]) w4 hs2 (by omega) (fun b off e => (hlt2 b off e).2))
          clear ho1 hb3 hg4 hown4 e1 hs2
          go_wp2_with fail
          refine Calls.mono HC.out ?_
          rintro e w5 ⟨v3, xs3, rfl, ho3, hr3, hb5⟩
          have hpos : 0 < xs3.length := by
            have := permsL_pos m (p ++ [((k : Nat) : Int)]) (by simp; omega)
            have := hr3.1
            omega
          obtain ⟨g3, c3, rfl, hg3, hg3l⟩ := own_open ho3 hpos
          have hcell : ∀ j u, xs3[j]? = some u → w5.cell? ((⟨g3, 0, none⟩ : Addr).add j) = some u := fun j u hj => by
            have hjl : j < xs3.length := by
              rcases Nat.lt_or_ge j xs3.length with h0 | h0
              · exact h0
              · rw [List.getElem?_eq_none h0] at hj; cases hj
            rw [add_at, Nat.zero_add, ho3.cellAt j (by omega)]
            exact hj
          have hbw5 : Below w2.heap.size w2 w5 := hb4.trans (hb5.mono hb4.size)
          have hR5 : w5.ownsRow W.heap.size 62 1 (.slice ao xs.length co) xs.length xs := own_keep hR.out.1 hbw5
          have hwW : W.heap.size ≤ w5.heap.size := Nat.le_trans hR.out.2.2.size hbw5.size
          have hf1 := permsK_few m p k (by omega) (by omega)
          have hf3 := permsL_few m (p ++ [((k : Nat) : Int)])
          have hf4 : 4 ^ m ≤ 4 ^ 3 := Nat.pow_le_pow_right (by omega) (by omega)
          have hx1 := hR.out.2.1.1
          have hx3 := hr3.1
          have hxl : xs.length + xs3.length ≤ 400 := by omega
          have h1c := hr3.one_cells
          have HNX : Hid (∀ (v6 : Value) (w6 : World), w5.grownBy w6 (Value.slice ao xs.length co).ownBlock → (v6.ownBlock = (Value.slice ao xs.length co).ownBlock ∨ v6.ownBlock = some w5.heap.size) → RowsP w6 v6.ownBlock (fun b => OkA a b ∨ W.heap.size ≤ b) (xs ++ xs3) (permsK m p (k + 1)) ∧ Below W.heap.size W w6) := fun v6 w6 hg h6 => by
            rw [HSt.out]
            have hoin := own_in hR.out.1
            have hw24 := hb4.size
            have hWw := hR.out.2.2.size
            have hlow : ∀ b, (OkA a2 b ∨ w4.heap.size ≤ b) → w2.heap.size ≤ b := fun b hb => by
              rcases hb with ⟨off, e⟩ | hb
              · exact (hlt2 b off e).1
              · omega
            refine ⟨(hR.out.2.1.keep hbw5).app hr3 (fun b hb e => ?_) (fun b hb => .inr (by have := hlow b hb; omega)) hg ?_, (hR.out.2.2.trans (hbw5.mono hR.out.2.2.size)).grown hg hwW (fun r hr => own_ge hR.out.1 r hr)⟩
            · have := hlow b hb
              have := hoin b e
              omega
            · rcases h6 with h | h
              · exact .inl h
              · exact .inr ⟨_, h, Nat.le_refl _⟩
          clear HC hb5 hb4 hr3 hR HSt hf1 hf3 hf4 hx1 hx3 hlt2 hbw5
          go_wp2_with (at_builtin; refine wpList_append_own_at _ rfl _ _ 164 rfl W.heap.size 62 j0 (.slice none 0 0) 1 24 Tryz.underlying164 hj jz0 jz1 jz2 rfl (by decide) _ _ _ rfl hR5 ⟨g3, 0, none⟩ xs3.length c3 xs3 rfl (by omega) hcell h1c (by unfold maxLen; omega) (by omega) hwW ?_; intro v6 w6 k1 k2 _ k3; obtain ⟨a6, c6, rfl⟩ := row_open k1; have HN6 := (show Hid _ from HNX.out _ _ k2 k3); have HK1 := (show Hid _ from k1); clear k1 k2 k3)
          rw [← List.length_append] at HK1
          refine ⟨⟨k + 1, xs ++ xs3, a6, c6, by omega, by go_num, by rw [List.length_append], HK1.out, ?_, HN6.out.2⟩, by simp [intOf]; omega⟩
          have := HN6.out.1
          rw [List.length_append]
          exact this
      · obtain rfl : k = 4 := by omega
        have HR := (show Hid _ from hR.out)
        rw [permsK_4] at HR
        clear hR
        go_wp2
        go_ret
        exact ⟨_, xs, rfl, HR.out⟩
end Go.Proofs.YtkadanagmahhgaaGreatDoor
