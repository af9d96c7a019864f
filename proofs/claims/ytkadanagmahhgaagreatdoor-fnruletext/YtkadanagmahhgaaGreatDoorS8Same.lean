/-
  PROVED HERE: what the model answers of two rules, whether they are the same by some naming; and SameRule, the model's and the program's. In a world whose table of arities is laid. No other condition.
-/
import Derived.Test.YtkadanagmahhgaaGreatDoorRun20
import Derived.Deep.RegionWith
import Derived.Test.YtkadanagmahhgaaGreatDoorS8Perm
import Derived.Test.YtkadanagmahhgaaGreatDoorRun18
namespace Go.Proofs.YtkadanagmahhgaaGreatDoor
open Go.ChangeShapes Go.WideShapes Go.ChangeAt Go.RowKit
set_option linter.unusedVariables false

theorem pile_VR : ∀ (l : List (Int × Int)) (p : Int), pile l p ≠ none → VR l := by
  intro l
  induction l with
  | nil => intro p _ x hx; cases hx
  | cons y l ih =>
    intro p h x hx e
    obtain ⟨op, n⟩ := y
    unfold pile at h
    by_cases hf : fits (ar op) p op n = true
    · rw [if_pos hf] at h
      rcases List.mem_cons.1 hx with rfl | hx
      · simp only at e
        subst e
        simp only [fits, Bool.not_eq_true', Bool.or_eq_false_iff, Bool.and_eq_false_iff, decide_eq_false_iff_not, beq_self_eq_true, Bool.true_eq_false, false_or] at hf
        simp only
        omega
      · exact ih _ h x hx e
    · rw [if_neg hf] at h
      exact absurd rfl h
theorem pat_VR {l : List (Int × Int)} (h : patB l = true) : VR l ∧ 1 ≤ l.length ∧ l.length ≤ 7 := by
  unfold patB at h
  rw [Bool.and_eq_true, decide_eq_true_eq] at h
  obtain ⟨hp, h1, -⟩ := good_pile h.1
  exact ⟨pile_VR l 0 (by rw [hp]; simp), h1, h.2⟩
/-- A naming makes one rule the other. -/
def hitS (rl rr sl sr : List (Int × Int)) (q : List Int) : Bool := nmL (lk q) rl == sl && nmL (lk q) rr == sr
set_option maxHeartbeats 6400000 in
set_option maxRecDepth 20000 in
theorem specNames_any (a b a' b' : Option Addr) (n c m d n' c' m' d' : Nat) (p r p' r' : List (Int × Int)) (w : World) (h1 : NSl w a n p) (h2 : NSl w b m r) (h3 : NSl w a' n' p') (h4 : NSl w b' m' r') (v1 : VR p) (v2 : VR r)
    (l1 : 1 ≤ n ∧ n ≤ 40) (l2 : 1 ≤ m ∧ m ≤ 40) (l3 : n' ≤ 40) (l4 : m' ≤ 40) :
    Calls Tryz.prog 104 #[.agg #[.slice a n c, .slice b m d], .agg #[.slice a' n' c', .slice b' m' d']] w fun e w' => e = .returned (.bool (sameS p r p' r')) ∧ Below w.heap.size w w' := by
  obtain ⟨e1, o1, rfl, -, -⟩ := h1.at (by omega)
  obtain ⟨e2, o2, rfl, -, -⟩ := h2.at (by omega)
  obtain ⟨W1, hW1⟩ : ∃ W1, (w.alloc (.cells #[.slice (some ⟨e1, o1, none⟩) n c, .slice (some ⟨e2, o2, none⟩) m d] 26)).alloc (.cells #[.slice a' n' c', .slice b' m' d'] 26) = W1 := ⟨_, rfl⟩
  have hb1 : Below w.heap.size w W1 := by rw [← hW1]; exact ((Below.refl _ _).alloc (Nat.le_refl _) _).alloc (by simp) _
  have hs1 : W1.heap.size = w.heap.size + 2 := by rw [← hW1]; simp
  have n0 : W1.cell? ⟨w.heap.size, 0, none⟩ = some (.slice (some ⟨e1, o1, none⟩) n c) := by rw [← hW1]; simp [go_sem]
  have n1 : W1.cell? ⟨w.heap.size, 1, none⟩ = some (.slice (some ⟨e2, o2, none⟩) m d) := by rw [← hW1]; simp [go_sem]
  have n2 : W1.cell? ⟨w.heap.size + 1, 0, none⟩ = some (.slice a' n' c') := by rw [← hW1]; simp [go_sem]
  have n3 : W1.cell? ⟨w.heap.size + 1, 1, none⟩ = some (.slice b' m' d') := by rw [← hW1]; simp [go_sem]
  have HQ : Hid (∀ W, Below W1.heap.size W1 W → (W.cell? ⟨w.heap.size, 0, none⟩ = some (.slice (some ⟨e1, o1, none⟩) n c) ∧ W.cell? ⟨w.heap.size, 1, none⟩ = some (.slice (some ⟨e2, o2, none⟩) m d) ∧ W.cell? ⟨w.heap.size + 1, 0, none⟩ = some (.slice a' n' c') ∧ W.cell? ⟨w.heap.size + 1, 1, none⟩ = some (.slice b' m' d')) ∧ NSl W (some ⟨e1, o1, none⟩) n p ∧ NSl W (some ⟨e2, o2, none⟩) m r ∧ NSl W a' n' p' ∧ NSl W b' m' r' ∧ Below w.heap.size w W) := fun W hW => by
    have hw : Below w.heap.size w W := hb1.trans (hW.mono (by omega))
    exact ⟨⟨(hW.cell (p := ⟨w.heap.size, 0, none⟩) (by show w.heap.size < _; omega)).trans n0, (hW.cell (p := ⟨w.heap.size, 1, none⟩) (by show w.heap.size < _; omega)).trans n1, (hW.cell (p := ⟨w.heap.size + 1, 0, none⟩) (by show w.heap.size + 1 < _; omega)).trans n2, (hW.cell (p := ⟨w.heap.size + 1, 1, none⟩) (by show w.heap.size + 1 < _; omega)).trans n3⟩, h1.keep hw, h2.keep hw, h3.keep hw, h4.keep hw, hw⟩
  have HP := (show Hid _ from perms_any 4 none 0 0 [] W1 ⟨rfl, .inl rfl⟩ rfl (fun b off e => by cases e))
  have HNa : Hid (∀ W b off n c nb no nc l q, NSl W (some ⟨b, off, none⟩) n l → Sl W (some ⟨nb, no, none⟩) 4 q → VR l → 1 ≤ n → n ≤ 40 → Calls Tryz.prog 137 #[.slice (some ⟨b, off, none⟩) n c, .slice (some ⟨nb, no, none⟩) 4 nc] W fun e w' => ∃ (g c : Nat), e = .returned (.slice (some ⟨g, 0, none⟩) n c) ∧ NSl w' (some ⟨g, 0, none⟩) n (nmL (lk q) l) ∧ Below W.heap.size W w') := fun W b off n c nb no nc l q h1 h2 h3 h4 h5 => named_any b off n c l nb no nc q W h1 h2 h3 h4 h5
  have HY : Hid (∀ k, k < (permsL 4 []).length → hitS p r p' r' ((permsL 4 []).getD k []) = true → true = sameS p r p' r') := fun k hk e => by
    symm
    refine List.any_eq_true.2 ⟨(permsL 4 []).getD k [], ?_, e⟩
    rw [List.getD_eq_getElem?_getD, List.getElem?_eq_getElem hk]
    exact List.getElem_mem _
  have HN : Hid ((∀ k, k < (permsL 4 []).length → hitS p r p' r' ((permsL 4 []).getD k []) = false) → false = sameS p r p' r') := fun hx => by
    symm
    refine Bool.eq_false_iff.2 fun ht => ?_
    obtain ⟨q, hq, he⟩ := List.any_eq_true.1 ht
    obtain ⟨k, hk, e⟩ := List.getElem_of_mem hq
    have := hx k hk
    rw [List.getD_eq_getElem?_getD, List.getElem?_eq_getElem hk, Option.getD_some, e] at this
    unfold hitS at this
    rw [this] at he
    cases he
  have HL4 : Hid (∀ k, k < (permsL 4 []).length → ((permsL 4 []).getD k []).length = 4) := fun k hk => by
    rw [List.getD_eq_getElem?_getD, List.getElem?_eq_getElem hk]
    obtain ⟨t, e1, e2, -⟩ := permsL_mem 4 [] _ (List.getElem_mem hk)
    rw [Option.getD_some, e1]
    simpa using e2
  have HV : Hid (VR p ∧ VR r ∧ (1 ≤ n ∧ n ≤ 40) ∧ (1 ≤ m ∧ m ≤ 40) ∧ n' ≤ 40 ∧ m' ≤ 40) := ⟨v1, v2, l1, l2, l3, l4⟩
  have hfew := permsL_few 4 []
  generalize sameS p r p' r' = R at HY HN ⊢
  generalize permsL 4 [] = ps at HP HY HN HL4 hfew
  clear h1 h2 h3 h4 v1 v2 l1 l2 l3 l4 hb1 hs1 n0 n1 n2 n3
  go_enter Tryz.func104, Tryz.ntmps104
  go_wp2_with fail
  (try rw [hW1])
  refine Calls.mono HP.out ?_
  rintro e w2 ⟨v, xs, rfl, ho, hrows, hb2⟩
  obtain ⟨av, cv, rfl⟩ := row_open ho
  have hxl := hrows.1
  have HX : Hid (w2.ownsRow W1.heap.size 62 1 (.slice av xs.length cv) xs.length xs ∧ RowsP w2 (Value.slice av xs.length cv).ownBlock (fun b => OkA none b ∨ W1.heap.size ≤ b) xs ps ∧ Below W1.heap.size W1 w2) := ⟨ho, hrows, hb2⟩
  clear HP hW1 ho hrows hb2
  go_wp2_with fail
  go_loopw [9] (fun x wr => ∃ (k : Nat), k ≤ xs.length ∧ x = .int .i64 k ∧ Hid ((∀ j, j < k → hitS p r p' r' (ps.getD j []) = false) ∧ Below w2.heap.size w2 wr)) (fun x _ => xs.length - (intOf x).toNat)
  case atStart => exact ⟨0, Nat.zero_le _, rfl, fun j hj => absurd hj (Nat.not_lt_zero _), Below.refl _ _⟩
  case round =>
    obtain ⟨k, hk, rfl, hR⟩ := hrel
    by_cases hlt : k < xs.length
    · have hkl : (k : Int) < xs.length := by omega
      obtain ⟨nb, no, nc, hx1, hx2, -⟩ := HX.out.2.1.2 k (by omega)
      have hq4 := HL4.out k (by omega)
      rw [hq4] at hx1 hx2
      obtain ⟨q, hq⟩ : ∃ q, ps.getD k [] = q := ⟨_, rfl⟩
      rw [hq] at hx2
      obtain ⟨gv, cv', hgv, hgl⟩ : ∃ gv cv', (Value.slice av xs.length cv) = .slice (some ⟨gv, 0, none⟩) xs.length cv' ∧ wr.cell? ⟨gv, k, none⟩ = some (.slice (some ⟨nb, no, none⟩) 4 nc) := by
        obtain ⟨gv, cv', e, _, hgs⟩ := own_open HX.out.1 (by omega)
        refine ⟨gv, cv', e, ?_⟩
        have ho := HX.out.1
        rw [e] at ho
        rw [hR.out.2.cell (p := ⟨gv, k, none⟩) hgs, ho.cellAt k (by omega), List.getElem?_eq_getElem hlt]
        rw [List.getD_eq_getElem?_getD, List.getElem?_eq_getElem hlt, Option.getD_some] at hx1
        rw [hx1]
      cases hgv
      have hBW : ∀ W, Below wr.heap.size wr W → Below W1.heap.size W1 W ∧ Below w2.heap.size w2 W ∧ Sl W (some ⟨nb, no, none⟩) 4 q := fun W hW => by
        have h2 := hR.out.2.trans (hW.mono hR.out.2.size)
        exact ⟨HX.out.2.2.trans (h2.mono HX.out.2.2.size), h2, hx2.keep h2⟩
      have HBW := (show Hid _ from hBW)
      have hD : Below wr.heap.size wr wr.drew := (Below.refl _ _).drew
      obtain ⟨⟨z0, z1, z2, z3⟩, hp1, -⟩ := HQ.out _ (hBW _ hD).1
      have H16 := (show Hid _ from HNa.out wr.drew e1 o1 n c nb no nc p q hp1 (hBW _ hD).2.2 HV.out.1 HV.out.2.2.1.1 HV.out.2.2.1.2)
      clear hp1 hBW hx1 hx2 hq4
      by_cases hE : (nmL (lk q) p == p') = true
      · have hH : hitS p r p' r' q = (nmL (lk q) r == r') := by unfold hitS; rw [hE, Bool.true_and]
        by_cases hE2 : (nmL (lk q) r == r') = true
        · have hY := HY.out k (by omega) (by rw [hq, hH]; exact hE2)
          subst hY
          clear HY HN hH hq
          go_wp2_with fail
          go_region_with (first
            | (go_at_call 137; first
                | (refine Calls.mono H16.out ?_; rintro e v6 ⟨g6, c6, rfl, hN6, hb6⟩; have hB6 : Below wr.heap.size wr v6 := hD.trans (hb6.mono hD.size); obtain ⟨⟨x0, x1, x2, x3⟩, -, -, hp3, -⟩ := HQ.out v6 (HBW.out v6 hB6).1; have H19 := (show Hid _ from eqT8_any _ _ n c6 n' c' _ _ v6 hN6 hp3 (by have := HV.out.2.2.1.2; omega) (by have := HV.out.2.2.2.2.1; omega)); rw [hE] at H19; clear H16 hN6 hp3)
                | (refine Calls.mono H24.out ?_; rintro e v8 ⟨g8, c8, rfl, hN8, hb8⟩; have hB8 : Below wr.heap.size wr v8 := hB7.trans (hb8.mono hB7.size); obtain ⟨⟨u0, u1, u2, u3⟩, -, -, -, hp4, -⟩ := HQ.out v8 (HBW.out v8 hB8).1; have H27 := (show Hid _ from eqT8_any _ _ m c8 m' d' _ _ v8 hN8 hp4 (by have := HV.out.2.2.2.1.2; omega) (by have := HV.out.2.2.2.2.2; omega)); rw [hE2] at H27; clear H24 hN8 hp4))
            | (go_at_call 136; first
                | (refine Calls.mono H19.out ?_; rintro e v7 ⟨rfl, hb7⟩; have hB7 : Below wr.heap.size wr v7 := hB6.trans (hb7.mono hB6.size); obtain ⟨⟨y0, y1, y2, y3⟩, -, hp2, -⟩ := HQ.out v7 (HBW.out v7 hB7).1; have H24 := (show Hid _ from HNa.out v7 e2 o2 m d nb no nc r q hp2 (HBW.out v7 hB7).2.2 HV.out.2.1 HV.out.2.2.2.1.1 HV.out.2.2.2.1.2); clear H19 hp2)
                | (refine Calls.mono H27.out ?_; rintro e v9 ⟨rfl, hb9⟩; have HB9 : Hid (Below w.heap.size w v9) := (HQ.out v9 (HBW.out v9 (hB8.trans (hb9.mono hB8.size))).1).2.2.2.2.2; clear H27)))
          all_goals
            go_wp2
            go_ret
            exact ⟨rfl, HB9.out⟩
        · rw [Bool.not_eq_true] at hE2
          have HJ : Hid (∀ j, j < k + 1 → hitS p r p' r' (ps.getD j []) = false) := fun j hj => by
            by_cases e : j = k
            · rw [e, hq, hH]; exact hE2
            · exact hR.out.1 j (by omega)
          clear HY HN hH hq hR
          go_wp2_with fail
          go_region_with (first
            | (go_at_call 137; first
                | (refine Calls.mono H16.out ?_; rintro e v6 ⟨g6, c6, rfl, hN6, hb6⟩; have hB6 : Below wr.heap.size wr v6 := hD.trans (hb6.mono hD.size); obtain ⟨⟨x0, x1, x2, x3⟩, -, -, hp3, -⟩ := HQ.out v6 (HBW.out v6 hB6).1; have H19 := (show Hid _ from eqT8_any _ _ n c6 n' c' _ _ v6 hN6 hp3 (by have := HV.out.2.2.1.2; omega) (by have := HV.out.2.2.2.2.1; omega)); rw [hE] at H19; clear H16 hN6 hp3)
                | (refine Calls.mono H24.out ?_; rintro e v8 ⟨g8, c8, rfl, hN8, hb8⟩; have hB8 : Below wr.heap.size wr v8 := hB7.trans (hb8.mono hB7.size); obtain ⟨⟨u0, u1, u2, u3⟩, -, -, -, hp4, -⟩ := HQ.out v8 (HBW.out v8 hB8).1; have H27 := (show Hid _ from eqT8_any _ _ m c8 m' d' _ _ v8 hN8 hp4 (by have := HV.out.2.2.2.1.2; omega) (by have := HV.out.2.2.2.2.2; omega)); rw [hE2] at H27; clear H24 hN8 hp4))
            | (go_at_call 136; first
                | (refine Calls.mono H19.out ?_; rintro e v7 ⟨rfl, hb7⟩; have hB7 : Below wr.heap.size wr v7 := hB6.trans (hb7.mono hB6.size); obtain ⟨⟨y0, y1, y2, y3⟩, -, hp2, -⟩ := HQ.out v7 (HBW.out v7 hB7).1; have H24 := (show Hid _ from HNa.out v7 e2 o2 m d nb no nc r q hp2 (HBW.out v7 hB7).2.2 HV.out.2.1 HV.out.2.2.2.1.1 HV.out.2.2.2.1.2); clear H19 hp2)
                | (refine Calls.mono H27.out ?_; rintro e v9 ⟨rfl, hb9⟩; have HB9 : Hid (Below w2.heap.size w2 v9) := (HBW.out v9 (hB8.trans (hb9.mono hB8.size))).2.1; clear H27)))
          all_goals
            go_wp2
            exact ⟨⟨k + 1, by omega, by go_num, HJ.out, HB9.out⟩, by simp [intOf]; omega⟩
      · rw [Bool.not_eq_true] at hE
        have hH : hitS p r p' r' q = false := by unfold hitS; rw [hE, Bool.false_and]
        have HJ : Hid (∀ j, j < k + 1 → hitS p r p' r' (ps.getD j []) = false) := fun j hj => by
          by_cases e : j = k
          · rw [e, hq]; exact hH
          · exact hR.out.1 j (by omega)
        clear HY HN hH hq hR
        go_wp2_with fail
        first | (go_region_with (first
          | (go_at_call 137; refine Calls.mono H16.out ?_; rintro e v6 ⟨g6, c6, rfl, hN6, hb6⟩; have hB6 : Below wr.heap.size wr v6 := hD.trans (hb6.mono hD.size); obtain ⟨⟨x0, x1, x2, x3⟩, -⟩ := HQ.out v6 (HBW.out v6 hB6).1; have H19 := (show Hid _ from eqT8_any _ _ n c6 n' c' _ _ v6 hN6 (HQ.out v6 (HBW.out v6 hB6).1).2.2.2.1 (by have := HV.out.2.2.1.2; omega) (by have := HV.out.2.2.2.2.1; omega)); rw [hE] at H19; clear H16 hN6)
          | (go_at_call 136; refine Calls.mono H19.out ?_; rintro e v7 ⟨rfl, hb7⟩; have hB7 : Below wr.heap.size wr v7 := hB6.trans (hb7.mono hB6.size); have HB7 : Hid (Below w2.heap.size w2 v7) := (HBW.out v7 hB7).2.1; obtain ⟨⟨y0, y1, y2, y3⟩, -⟩ := HQ.out v7 (HBW.out v7 hB7).1; clear H19))) | fail
        all_goals
          go_wp2
          exact ⟨⟨k + 1, by omega, by go_num, HJ.out, HB7.out⟩, by simp [intOf]; omega⟩
    · obtain rfl : k = xs.length := by omega
      have hN := HN.out (fun j hj => hR.out.1 j (by omega))
      subst hN
      have HB := (show Hid (Below w.heap.size w wr) from (HQ.out wr (HX.out.2.2.trans (hR.out.2.mono HX.out.2.2.size))).2.2.2.2.2)
      clear hR
      go_wp2
      go_ret
      exact ⟨rfl, HB.out⟩
end Go.Proofs.YtkadanagmahhgaaGreatDoor
