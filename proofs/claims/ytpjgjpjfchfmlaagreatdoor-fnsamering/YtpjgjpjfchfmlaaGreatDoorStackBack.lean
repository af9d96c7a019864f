/-
  PROVED HERE: the sum of products of a term, node by node on a pile of sums. No condition. the sum of products of a sum's own term is that sum, plainly. No condition. a good sum falls, and its term's sum is itself, plainly. No condition.
-/
import Derived.Test.YtpjgjpjfchfmlaaGreatDoorSegTree
import Derived.Test.YtpjgjpjfchfmlaaGreatDoorRingMs
import Derived.Test.YtpjgjpjfchfmlaaGreatDoorTerms4
import Derived.Test.YtpjgjpjfchfmlaaGreatDoorPolyEvals
namespace Go.Proofs.YtpjgjpjfchfmlaaGreatDoor
set_option linter.unusedVariables false

/-- What a node makes of the sums of its parts. -/
def opP (x : Int × Int) (vs : List (Option (List Mon))) : Option (List Mon) :=
  if x.1 = 1 then some (numP x.2) else if x.1 = 2 then some (varP x.2.toNat)
  else match vs.getD 0 none with
    | none => none
    | some p => if x.1 = 3 then okP (mulP p (numP (-1))) else match vs.getD 1 none with
      | none => none
      | some q => okP (twoP x.1 p q)
/-- What the tree of node k comes to where a variable may have trapped. -/
def evalP (l : List (Int × Int)) : Nat → Nat → Option (List Mon)
  | 0, _ => none
  | f + 1, k => opP (l.getD k (0, 0)) ((roots l (ar (l.getD k (0, 0)).1).toNat k).map (evalP l f))
def valP (l : List (Int × Int)) (k : Nat) : Option (List Mon) := evalP l (k + 1) k
theorem evalP_fuel {l : List (Int × Int)} {q : Int} (h : pile l 0 = some q) : ∀ K k, k ≤ K → k < l.length → ∀ f, k < f → evalP l f k = valP l k := by
  intro K
  induction K with
  | zero =>
    intro k hk hl f hf
    obtain ⟨f, rfl⟩ : ∃ x, f = x + 1 := ⟨f - 1, by omega⟩
    obtain ⟨h1, h2⟩ := cnt_step h k hl
    obtain ⟨a1, a2, _⟩ := fits_iff _ _ _ _ h1
    obtain rfl : k = 0 := by omega
    rw [cnt_zero] at a2
    show opP _ _ = opP _ _
    rw [show (ar (l.getD 0 (0, 0)).1).toNat = 0 from by omega]
    rfl
  | succ K ih =>
    intro k hk hl f hf
    obtain ⟨f, rfl⟩ : ∃ x, f = x + 1 := ⟨f - 1, by omega⟩
    obtain ⟨h1, h2⟩ := cnt_step h k hl
    obtain ⟨a1, a2, _⟩ := fits_iff _ _ _ _ h1
    show opP _ ((roots l _ k).map (evalP l f)) = opP _ ((roots l _ k).map (evalP l k))
    congr 1
    refine List.map_congr_left fun r hr => ?_
    have hrk := roots_lt h _ k (by omega) (by omega) r hr
    rw [ih r (by omega) (by omega) f (by omega), ih r (by omega) (by omega) k (by omega)]
theorem valP_eq {l : List (Int × Int)} {q : Int} (h : pile l 0 = some q) (k : Nat) (hk : k < l.length) : valP l k = opP (l.getD k (0, 0)) ((roots l (ar (l.getD k (0, 0)).1).toNat k).map (valP l)) := by
  obtain ⟨h1, h2⟩ := cnt_step h k hk
  obtain ⟨a1, a2, _⟩ := fits_iff _ _ _ _ h1
  show opP _ ((roots l _ k).map (evalP l k)) = _
  congr 1
  refine List.map_congr_left fun r hr => ?_
  have hrk := roots_lt h _ k (by omega) (by omega) r hr
  exact evalP_fuel h r r (Nat.le_refl _) (by omega) k hrk
/-- One node on a pile of values. -/
def pushP (st : List (Option (List Mon))) (x : Int × Int) : List (Option (List Mon)) := opP x ((st.take (ar x.1).toNat).reverse) :: st.drop (ar x.1).toNat
def runP (l : List (Int × Int)) (st : List (Option (List Mon))) : List (Option (List Mon)) := l.foldl (pushP) st
theorem runP_append (a b : List (Int × Int)) (st : List (Option (List Mon))) : runP (a ++ b) st = runP b (runP a st) := List.foldl_append
theorem runsP {l : List (Int × Int)} {q : Int} (h : pile l 0 = some q) : ∀ K,
    (∀ k, k < K → k < l.length → ∀ st (p : Int), 0 ≤ p → runP (seg l (start l k) (k + 1)) st = valP l k :: st ∧ pile (seg l (start l k) (k + 1)) p = some (p + 1)) := by
  intro K
  induction K with
  | zero => intro k hk; omega
  | succ K ih =>
    have forest : ∀ (m x : Nat), x ≤ K → x ≤ l.length → (m : Int) ≤ cnt l x → ∀ st (p : Int), 0 ≤ p → runP (seg l (back l m x) x) st = ((roots l m x).map (valP l)).reverse ++ st ∧ pile (seg l (back l m x) x) p = some (p + m) := by
      intro m
      induction m with
      | zero =>
        intro x _ _ _ st p hp
        show runP (seg l x x) st = _ ∧ pile (seg l x x) p = _
        rw [seg_self]
        exact ⟨rfl, by simp [pile]⟩
      | succ m ihm =>
        intro x hx hxl hm st p hp
        have hx0 : 0 < x := by
          rcases Nat.eq_zero_or_pos x with h0 | h0
          · subst h0; rw [cnt_zero] at hm; omega
          · exact h0
        have b1 := start_le h (x - 1) (by omega)
        have b2 := start_cnt h (x - 1) (by omega)
        rw [show x - 1 + 1 = x from by omega] at b2
        have b3 := back_le h m (start l (x - 1)) (by omega) (by omega)
        rw [back_succ, seg_append l _ (start l (x - 1)) x b3.1 (by omega)]
        have f1 := ihm (start l (x - 1)) (by omega) (by omega) (by omega) st p hp
        have t1 := ih (x - 1) (by omega) (by omega) (((roots l m (start l (x - 1))).map (valP l)).reverse ++ st) (p + m) (by omega)
        rw [show x - 1 + 1 = x from by omega] at t1
        rw [runP_append, f1.1, t1.1, pile_append, f1.2]
        refine ⟨?_, ?_⟩
        · show _ = ((roots l m (start l (x - 1)) ++ [x - 1]).map (valP l)).reverse ++ st
          simp
        · show pile _ (p + m) = _
          rw [t1.2]
          congr 1
          omega
    intro k hk hl st p hp
    by_cases hkK : k < K
    · exact ih k hkK hl st p hp
    obtain rfl : k = K := by omega
    obtain ⟨h1, h2⟩ := cnt_step h k hl
    obtain ⟨a1, a2, a3, a4⟩ := fits_iff _ _ _ _ h1
    obtain ⟨m, hm⟩ : ∃ m : Nat, ar (l.getD k (0, 0)).1 = m := ⟨(ar (l.getD k (0, 0)).1).toNat, by omega⟩
    have hst := start_eq h k hl
    rw [hm, Int.toNat_natCast] at hst
    have b3 := back_le h m k (by omega) (by omega)
    have f1 := forest m k (Nat.le_refl _) (by omega) (by omega) st p hp
    rw [hst, seg_append l _ k (k + 1) b3.1 (by omega), seg_one l k hl, runP_append, f1.1, pile_append, f1.2]
    refine ⟨?_, ?_⟩
    · show [_].foldl (pushP) _ = _
      simp only [List.foldl_cons, List.foldl_nil, pushP]
      rw [valP_eq h k hl, hm, Int.toNat_natCast]
      have hlen : (((roots l m k).map (valP l)).reverse).length = m := by rw [List.length_reverse, List.length_map, roots_len]
      rw [List.take_left' hlen, List.drop_left' hlen, List.reverse_reverse]
    · show pile [l.getD k (0, 0)] (p + m) = _
      have hf := fits_up h1 (show ar (l.getD k (0, 0)).1 ≤ p + m by omega)
      clear h1 h2 a1 a2 a3 a4
      generalize l.getD k (0, 0) = x at hf hm ⊢
      obtain ⟨op, n⟩ := x
      simp only [pile]
      simp only at hf hm
      rw [if_pos hf, hm]
      congr 1
      omega

/-- A good term on a pile of values leaves one more there. -/
theorem good_runP {l : List (Int × Int)} (hg : goodB l = true) (st : List (Option (List Mon))) : runP l st = valP l (l.length - 1) :: st := by
  obtain ⟨h, h1, _⟩ := good_pile hg
  have := (runsP h l.length (l.length - 1) (by omega) (by omega) st 0 (Int.le_refl _)).1
  rwa [start_root h h1, show l.length - 1 + 1 = l.length from by omega, seg_all] at this
theorem mapP_getD (h : Nat → Option (List Mon)) (R : List Nat) (i : Nat) (hi : i < R.length) : (R.map h).getD i none = h (R.getD i 0) := by
  simp [List.getD_eq_getElem?_getD, List.getElem?_map, List.getElem?_eq_getElem hi]
theorem ofF_P {l : List (Int × Int)} {q : Int} (h : pile l 0 = some q) (h7 : ∀ k, (l.getD k (0, 0)).1 ≠ 7) : ∀ f k, k < l.length → ofF l f k = evalP l f k
  | 0, _, _ => rfl
  | f + 1, k, hk => by
    obtain ⟨h1, h2⟩ := cnt_step h k hk
    obtain ⟨a1, a2, a3, _⟩ := fits_iff _ _ _ _ h1
    have ho := good_ops h k hk
    unfold ofF evalP opP
    by_cases e1 : (l.getD k (0, 0)).1 = 1
    · rw [if_pos e1, if_pos e1]
    · by_cases e2 : (l.getD k (0, 0)).1 = 2
      · rw [if_neg e1, if_neg e1, if_pos e2, if_pos e2]
      · rw [if_neg e1, if_neg e1, if_neg e2, if_neg e2]
        obtain ⟨m, hm⟩ : ∃ m : Nat, ar (l.getD k (0, 0)).1 = m := ⟨(ar (l.getD k (0, 0)).1).toNat, by omega⟩
        have hm1 : 1 ≤ m ∧ ((l.getD k (0, 0)).1 ≠ 3 → 2 ≤ m) := by
          have : (l.getD k (0, 0)).1 = 3 ∨ (l.getD k (0, 0)).1 = 4 ∨ (l.getD k (0, 0)).1 = 5 ∨ (l.getD k (0, 0)).1 = 6 ∨ (l.getD k (0, 0)).1 = 8 ∨ (l.getD k (0, 0)).1 = 9 ∨ (l.getD k (0, 0)).1 = 10 ∨ (l.getD k (0, 0)).1 = 11 := by have := h7 k; omega
          rcases this with e | e | e | e | e | e | e | e <;> rw [e] at hm
          · have e0 : ar 3 = 1 := rfl; omega
          · have e0 : ar 4 = 2 := rfl; omega
          · have e0 : ar 5 = 2 := rfl; omega
          · have e0 : ar 6 = 2 := rfl; omega
          · have e0 : ar 8 = 2 := rfl; omega
          · have e0 : ar 9 = 2 := rfl; omega
          · have e0 : ar 10 = 2 := rfl; omega
          · have e0 : ar 11 = 3 := rfl; omega
        rw [hm, Int.toNat_natCast]
        have hlr := roots_len l m k
        have hrt : ∀ i, i < m → (roots l m k).getD i 0 < k := fun i hi => getD_lt (roots l m k) k i (roots_lt h m k (by omega) (by omega)) (by rw [roots_len]; exact hi)
        have r0 := hrt 0 (by omega)
        rw [mapP_getD _ _ 0 (by omega), ← ofF_P h h7 f _ (by omega)]
        cases ofF l f ((roots l m k).getD 0 0) with
        | none => rfl
        | some p =>
          simp only
          by_cases e3 : (l.getD k (0, 0)).1 = 3
          · rw [if_pos e3, if_pos e3]
          · have r1 := hrt 1 (by have := hm1.2 e3; omega)
            rw [if_neg e3, if_neg e3, if_neg (h7 k), mapP_getD _ _ 1 (by have := hm1.2 e3; omega), ← ofF_P h h7 f _ (by omega)]
            cases ofF l f ((roots l m k).getD 1 0) with
            | none => rfl
            | some q => rfl
end Go.Proofs.YtpjgjpjfchfmlaaGreatDoor
namespace Go.Proofs.YtpjgjpjfchfmlaaGreatDoor
open Go.RowKit
set_option linter.unusedVariables false

/-- None, or that one. -/
def Res (X : Option (List Mon)) (q : List Mon) : Prop := ∀ s, X = some s → s = q
theorem Res.some (q : List Mon) : Res (some q) q := fun s h => (Option.some.inj h).symm
theorem okP_res (s : List Mon) : Res (okP s) s := fun t h => (okP_some h).1
/-- So many more of one power. -/
def addK (e : List Int) (v i : Nat) : List Int := e.set v (e.getD v 0 + (i : Int))
theorem addK_len (e : List Int) (v i : Nat) : (addK e v i).length = e.length := by simp [addK]
theorem addK_zero {e : List Int} {v : Nat} (h : v < e.length) : addK e v 0 = e := by
  unfold addK
  have : e.getD v 0 + ((0 : Nat) : Int) = e[v] := by rw [List.getD_eq_getElem?_getD, List.getElem?_eq_getElem h]; simp
  rw [this]
  exact List.set_getElem_self h
theorem addK_add {e : List Int} {v : Nat} (h : v < e.length) (i j : Nat) : addK (addK e v i) v j = addK e v (i + j) := by
  unfold addK
  have e1 : (e.set v (e.getD v 0 + (i : Int))).getD v 0 = e.getD v 0 + (i : Int) := by
    rw [List.getD_eq_getElem?_getD, List.getElem?_set, if_pos rfl, if_pos h]; rfl
  rw [e1, List.set_set]
  congr 1
  omega
theorem addE_unit {e : List Int} (h : e.length = 4) (v : Nat) (hv : v < 4) : addE e (unit4 v) = addK e v 1 := by
  match e, h with
  | [a, b, c, d], _ =>
    match v, hv with
    | 0, _ => simp [addE, addK, unit4, zero4]
    | 1, _ => simp [addE, addK, unit4, zero4]
    | 2, _ => simp [addE, addK, unit4, zero4]
    | 3, _ => simp [addE, addK, unit4, zero4]
theorem mul_var {e : List Int} {n : Int} (h : e.length = 4) (hn : InI n) (h0 : n ≠ 0) (v : Nat) (hv : v < 4) : mulP [(e, n)] (varP v) = [(addK e v 1, n)] := by
  rw [varP_is]
  have hw : wrap64 (n * 1) = n := by
    rw [Int.mul_one]
    exact Like.eq (wrap_in _) hn (like_wrap _)
  show addF [] [(addE e (unit4 v), wrap64 (n * 1))] = _
  rw [hw, addE_unit h v hv]
  show putP [] (addK e v 1) n = _
  unfold putP putO
  simp [h0]
theorem ar_1 : (ar 1).toNat = 0 := rfl
theorem ar_2 : (ar 2).toNat = 0 := rfl
theorem ar_4 : (ar 4).toNat = 2 := rfl
theorem ar_6 : (ar 6).toNat = 2 := rfl
theorem push_var (v : Int) (st : List (Option (List Mon))) : pushP st (2, v) = some (varP v.toNat) :: st := by
  show opP (2, v) ((st.take (ar 2).toNat).reverse) :: st.drop (ar 2).toNat = _
  rw [ar_2]
  simp [opP]
theorem push_num (n : Int) (st : List (Option (List Mon))) : pushP st (1, n) = some (numP n) :: st := by
  show opP (1, n) ((st.take (ar 1).toNat).reverse) :: st.drop (ar 1).toNat = _
  rw [ar_1]
  simp [opP]
theorem push_mul (X Y : Option (List Mon)) (st : List (Option (List Mon))) (p q : List Mon) (hX : Res X p) (hY : Res Y q) : ∃ Z, pushP (Y :: X :: st) (6, 0) = Z :: st ∧ Res Z (mulP p q) := by
  refine ⟨opP (6, 0) [X, Y], ?_, ?_⟩
  · show opP (6, 0) (((Y :: X :: st).take (ar 6).toNat).reverse) :: (Y :: X :: st).drop (ar 6).toNat = _
    rw [ar_6]
    rfl
  · intro s hs
    cases X with
    | none => cases hs
    | some p' =>
      cases Y with
      | none => cases hs
      | some q' =>
        obtain rfl := hX p' rfl
        obtain rfl := hY q' rfl
        exact okP_res _ s hs
theorem push_add (X Y : Option (List Mon)) (st : List (Option (List Mon))) (p q : List Mon) (hX : Res X p) (hY : Res Y q) : ∃ Z, pushP (Y :: X :: st) (4, 0) = Z :: st ∧ Res Z (addP p q) := by
  refine ⟨opP (4, 0) [X, Y], ?_, ?_⟩
  · show opP (4, 0) (((Y :: X :: st).take (ar 4).toNat).reverse) :: (Y :: X :: st).drop (ar 4).toNat = _
    rw [ar_4]
    rfl
  · intro s hs
    cases X with
    | none => cases hs
    | some p' =>
      cases Y with
      | none => cases hs
      | some q' =>
        obtain rfl := hX p' rfl
        obtain rfl := hY q' rfl
        exact okP_res _ s hs
theorem runP_cons (x : Int × Int) (l : List (Int × Int)) (st : List (Option (List Mon))) : runP (x :: l) st = runP l (pushP st x) := rfl
theorem run_rep {n : Int} (hn : InI n) (h0 : n ≠ 0) (v : Nat) (hv : v < 4) : ∀ (i : Nat) (e : List Int) (X : Option (List Mon)) (st : List (Option (List Mon))), e.length = 4 → Res X [(e, n)] → ∃ Z, runP (rep i v) (X :: st) = Z :: st ∧ Res Z [(addK e v i, n)]
  | 0, e, X, st, he, hX => ⟨X, rfl, by rw [addK_zero (by omega)]; exact hX⟩
  | i + 1, e, X, st, he, hX => by
    obtain ⟨Z, h1, h2⟩ := push_mul X (some (varP v)) st [(e, n)] (varP v) hX (Res.some _)
    rw [mul_var he hn h0 v hv] at h2
    obtain ⟨Z', h3, h4⟩ := run_rep hn h0 v hv i (addK e v 1) Z st (by rw [addK_len]; exact he) h2
    refine ⟨Z', ?_, by rw [addK_add (by omega), Nat.add_comm] at h4; exact h4⟩
    show runP ((2, (v : Int)) :: (6, 0) :: rep i v) (X :: st) = _
    rw [runP_cons, runP_cons, push_var, Int.toNat_natCast, h1]
    exact h3
theorem run_mon {e : List Int} {n : Int} (he : e.length = 4) (hp : ∀ x ∈ e, 0 ≤ x) (hn : InI n) (h0 : n ≠ 0) (st : List (Option (List Mon))) : ∃ Z, runP (monT (e, n)) st = Z :: st ∧ Res Z [(e, n)] := by
  match e, he, hp with
  | [a, b, c, d], _, hp =>
    have ha := hp a (by simp)
    have hb := hp b (by simp)
    have hc := hp c (by simp)
    have hd := hp d (by simp)
    have hnum : numP n = [(zero4, n)] := by rw [numP_is, if_neg h0]
    obtain ⟨Z0, k1, r1⟩ := run_rep hn h0 0 (by omega) a.toNat zero4 (some (numP n)) st rfl (by rw [hnum]; exact Res.some _)
    obtain ⟨Z1, k2, r2⟩ := run_rep hn h0 1 (by omega) b.toNat _ Z0 st (by rw [addK_len]; rfl) r1
    obtain ⟨Z2, k3, r3⟩ := run_rep hn h0 2 (by omega) c.toNat _ Z1 st (by rw [addK_len, addK_len]; rfl) r2
    obtain ⟨Z3, k4, r4⟩ := run_rep hn h0 3 (by omega) d.toNat _ Z2 st (by rw [addK_len, addK_len, addK_len]; rfl) r3
    refine ⟨Z3, ?_, ?_⟩
    · show runP ((1, n) :: (rep a.toNat 0 ++ (rep b.toNat 1 ++ (rep c.toNat 2 ++ (rep d.toNat 3 ++ []))))) st = _
      rw [runP_cons, push_num, runP_append, k1, runP_append, k2, runP_append, k3, runP_append, k4]
      rfl
    · have : addK (addK (addK (addK zero4 0 a.toNat) 1 b.toNat) 2 c.toNat) 3 d.toNat = [a, b, c, d] := by
        have ea : ((a.toNat : Nat) : Int) = a := Int.toNat_of_nonneg ha
        have eb : ((b.toNat : Nat) : Int) = b := Int.toNat_of_nonneg hb
        have ec : ((c.toNat : Nat) : Int) = c := Int.toNat_of_nonneg hc
        have ed : ((d.toNat : Nat) : Int) = d := Int.toNat_of_nonneg hd
        unfold addK
        rw [ea, eb, ec, ed]
        show [0 + a, 0 + b, 0 + c, 0 + d] = _
        rw [Int.zero_add, Int.zero_add, Int.zero_add, Int.zero_add]
      rw [this] at r4
      exact r4
theorem addF_self {p : List Mon} (h : Sum4 p) : addF [] p = p := by
  obtain ⟨a1, _, a3⟩ := addF_ok (q := p) sum4_nil (fun m hm => ⟨(h.2 m hm).1, (h.2 m hm).2.1⟩)
  exact sum_unique a1 h fun e => by have := a3 e; rwa [coef_nil, Int.zero_add] at this
theorem add_next {P : List Mon} {m : Mon} (h : Sum4 (P ++ [m])) : addP P [m] = P ++ [m] := by
  have hP : ∀ x ∈ P, x.1.length = 4 ∧ InI x.2 := fun x hx => ⟨(h.2 x (List.mem_append_left _ hx)).1, (h.2 x (List.mem_append_left _ hx)).2.1⟩
  have hm : ∀ x ∈ [m], x.1.length = 4 ∧ InI x.2 := fun x hx => ⟨(h.2 x (List.mem_append_right _ hx)).1, (h.2 x (List.mem_append_right _ hx)).2.1⟩
  obtain ⟨a1, _, a3⟩ := addP_ok hP hm
  exact sum_unique a1 h fun e => by rw [coef_append]; exact a3 e
theorem sum4_pre {P R : List Mon} (h : Sum4 (P ++ R)) : Sum4 P := ⟨(List.pairwise_append.1 h.1).1, fun x hx => h.2 x (List.mem_append_left _ hx)⟩
theorem run_rest : ∀ (R P : List Mon) (k : Nat) (X : Option (List Mon)), 0 < k → Sum4 (P ++ R) → (∀ m ∈ R, ∀ x ∈ m.1, 0 ≤ x) → Res X P → ∃ Z, runP (termF k R) [X] = [Z] ∧ Res Z (P ++ R)
  | [], P, k, X, _, _, _, hX => ⟨X, rfl, by rw [List.append_nil]; exact hX⟩
  | m :: R, P, k, X, hk, hs, hp, hX => by
    have hm := hs.2 m (List.mem_append_right _ (List.mem_cons_self ..))
    obtain ⟨Y, h1, h2⟩ := run_mon (e := m.1) (n := m.2) hm.1 (hp m (List.mem_cons_self ..)) hm.2.1 hm.2.2 [X]
    obtain ⟨Z, h3, h4⟩ := push_add X Y [] P [m] hX h2
    have hs' : Sum4 ((P ++ [m]) ++ R) := by rw [List.append_assoc]; exact hs
    rw [add_next (sum4_pre hs')] at h4
    obtain ⟨W, h5, h6⟩ := run_rest R (P ++ [m]) (k + 1) Z (by omega) hs' (fun x hx => hp x (List.mem_cons_of_mem _ hx)) h4
    refine ⟨W, ?_, by rw [List.append_assoc] at h6; exact h6⟩
    show runP (monT m ++ (tailT k ++ termF (k + 1) R)) [X] = _
    have ht : tailT k = [(4, 0)] := by unfold tailT; rw [if_neg (by omega)]
    rw [runP_append, h1, ht]
    show runP ((4, 0) :: termF (k + 1) R) [Y, X] = _
    rw [runP_cons, h3]
    exact h5
theorem run_term {p : List Mon} (hs : Sum4 p) (hp : ∀ m ∈ p, ∀ x ∈ m.1, 0 ≤ x) : ∃ Z, runP (termP p) [] = [Z] ∧ Res Z p := by
  unfold termP
  match p, hs, hp with
  | [], _, _ =>
    refine ⟨some (numP 0), ?_, ?_⟩
    · show runP [(1, 0)] [] = _
      rw [runP_cons, push_num]
      rfl
    · rw [numP_is, if_pos rfl]; exact Res.some _
  | m :: R, hs, hp =>
    rw [if_neg (by simp)]
    have hm := hs.2 m (List.mem_cons_self ..)
    obtain ⟨Y, h1, h2⟩ := run_mon (e := m.1) (n := m.2) hm.1 (hp m (List.mem_cons_self ..)) hm.2.1 hm.2.2 []
    obtain ⟨Z, h3, h4⟩ := run_rest R [m] 1 Y (by omega) hs (fun x hx => hp x (List.mem_cons_of_mem _ hx)) h2
    refine ⟨Z, ?_, h4⟩
    show runP (monT m ++ (tailT 0 ++ termF 1 R)) [] = _
    have ht : tailT 0 = [] := rfl
    rw [runP_append, h1, ht]
    exact h3
/-- Its ops. -/
def No7 (l : List (Int × Int)) : Prop := ∀ x ∈ l, x.1 ≠ 7
theorem no7_app {a b : List (Int × Int)} (ha : No7 a) (hb : No7 b) : No7 (a ++ b) := fun x hx => by
  rcases List.mem_append.1 hx with h | h
  · exact ha x h
  · exact hb x h
theorem no7_cons {x : Int × Int} {b : List (Int × Int)} (ha : x.1 ≠ 7) (hb : No7 b) : No7 (x :: b) := fun y hy => by
  rcases List.mem_cons.1 hy with rfl | h
  · exact ha
  · exact hb y h
theorem no7_nil : No7 [] := fun x hx => by cases hx
theorem no7_rep (v : Nat) : ∀ i, No7 (rep i v)
  | 0 => no7_nil
  | i + 1 => no7_cons (by show (2 : Int) ≠ 7; decide) (no7_cons (by show (6 : Int) ≠ 7; decide) (no7_rep v i))
theorem no7_pow : ∀ (e : List Int) (j : Nat), No7 (powT j e)
  | [], j => no7_nil
  | n :: r, j => no7_app (no7_rep j n.toNat) (no7_pow r (j + 1))
theorem no7_term : ∀ (p : List Mon) (k : Nat), No7 (termF k p)
  | [], k => no7_nil
  | m :: r, k => no7_app (no7_cons (by show (1 : Int) ≠ 7; decide) (no7_pow m.1 0)) (no7_app (by unfold tailT; split; exact no7_nil; exact no7_cons (by show (4 : Int) ≠ 7; decide) no7_nil) (no7_term r (k + 1)))
theorem no7_at {l : List (Int × Int)} (h : No7 l) (k : Nat) : (l.getD k (0, 0)).1 ≠ 7 := by
  by_cases hk : k < l.length
  · have e : l.getD k (0, 0) = l[k] := by rw [List.getD_eq_getElem?_getD, List.getElem?_eq_getElem hk]; rfl
    rw [e]
    exact h _ (List.getElem_mem hk)
  · rw [List.getD_eq_getElem?_getD, List.getElem?_eq_none (by omega)]
    decide
theorem term_back {p : List Mon} (hs : Sum4 p) (hp : ∀ m ∈ p, ∀ x ∈ m.1, 0 ≤ x) {s : List Mon} (h : ofT (termP p) = some s) : s = p := by
  unfold ofT at h
  by_cases hr : isRingB (termP p) = true
  · rw [if_pos hr] at h
    unfold isRingB at hr
    rw [Bool.and_eq_true] at hr
    obtain ⟨hpl, g1, g2⟩ := good_pile hr.1
    have h7 : No7 (termP p) := by
      unfold termP
      split
      · exact no7_cons (by decide) no7_nil
      · exact no7_term p 0
    rw [ofF_P hpl (no7_at h7) _ _ (by omega)] at h
    obtain ⟨Z, r1, r2⟩ := run_term hs hp
    have := good_runP hr.1 []
    rw [r1] at this
    have hz : Z = valP (termP p) ((termP p).length - 1) := (List.cons.inj this).1
    have hv : valP (termP p) ((termP p).length - 1) = evalP (termP p) (termP p).length ((termP p).length - 1) := by
      unfold valP
      rw [show (termP p).length - 1 + 1 = (termP p).length from by omega]
    rw [← hv, ← hz] at h
    exact r2 s h
  · rw [if_neg hr] at h; cases h
end Go.Proofs.YtpjgjpjfchfmlaaGreatDoor
namespace Go.Proofs.YtpjgjpjfchfmlaaGreatDoor
open Go.RowKit
set_option linter.unusedVariables false

theorem gp_falls : ∀ (prev : Option (List Int)) (q : List Mon), gpF prev q = true → Falls q ∧ (∀ e, prev = some e → e.length = 4 → ∀ x ∈ q, cmpL e x.1 = 1)
  | _, [], _ => ⟨List.Pairwise.nil, fun _ _ _ x hx => by cases hx⟩
  | prev, m :: r, hq => by
    have hall := gp_pow prev (m :: r) hq
    rw [gpF, Bool.and_eq_true] at hq
    obtain ⟨f1, f2⟩ := gp_falls (some m.1) r hq.2
    have hm4 := pow_len (hall m (List.mem_cons_self ..))
    have hr := f2 m.1 rfl hm4
    refine ⟨List.pairwise_cons.2 ⟨fun x hx => hr x hx, f1⟩, fun e he h4 x hx => ?_⟩
    subst he
    have h1 := hq.1
    unfold fitM at h1
    rw [Bool.and_eq_true] at h1
    have h2 : 0 < cmpL e m.1 := of_decide_eq_true h1.2
    have h3 : cmpL e m.1 = 1 := by rcases cmp_range e m.1 with t | t | t <;> omega
    rcases List.mem_cons.1 hx with rfl | hx
    · exact h3
    · exact cmp_trans (by omega) (by rw [hm4, pow_len (hall x (List.mem_cons_of_mem _ hx))]) h3 (hr x hx)
theorem poly_sum4 {p : List Mon} (h : polyB p = true) (hI : ∀ x ∈ p, InI x.2) : Sum4 p ∧ ∀ m ∈ p, ∀ x ∈ m.1, 0 ≤ x := by
  unfold polyB at h
  rw [Bool.and_eq_true] at h
  have hall := gpF_all none p h.1
  refine ⟨⟨(gp_falls none p h.1).1, fun x hx => ⟨pow_len (hall x hx).1, hI x hx, (hall x hx).2⟩⟩, fun m hm x hx => ?_⟩
  have hp := (hall m hm).1
  unfold powB allB at hp
  rw [Bool.and_eq_true, List.all_eq_true] at hp
  have := hp.2 x hx
  rw [Bool.and_eq_true] at this
  exact of_decide_eq_true this.1
theorem termR_back {p : List Mon} (hI : ∀ x ∈ p, InI x.2) (ho : termOk p = true) {s : List Mon} (h : ofT (termR p) = some s) : s = p ∧ (∀ m ∈ p, m.1.length = 4) ∧ p.length ≤ 40 := by
  unfold termR at h
  rw [if_pos ho] at h
  unfold termOk at ho
  rw [Bool.and_eq_true] at ho
  obtain ⟨h1, h2⟩ := poly_sum4 ho.1 hI
  exact ⟨term_back h1 h2 h, fun m hm => (h1.2 m hm).1, poly_len ho.1⟩
end Go.Proofs.YtpjgjpjfchfmlaaGreatDoor
