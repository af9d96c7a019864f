/-
  PROVED HERE: nodes have one shape where op and number are the same and their kids are of the same parts. No condition. plain facts on rules under other names: that two rules are the same by some naming is that they are alike when their variables are named in the order in which they are met. No condition but that variables are within 0..3. plain facts on what stays where memory grows or one block is written. No condition.
-/
import Derived.Test.YtobgkfpjokfbaaaGreatDoorRun27
import Derived.Test.YtobgkfpjokfbaaaGreatDoorRun9
import Derived.Test.YtobgkfpjokfbaaaGreatDoorRun0
namespace Go.Proofs.YtobgkfpjokfbaaaGreatDoor
set_option linter.unusedVariables false

theorem partOf_kids (l kids : List Int) (i : Nat) : partOf l kids i = (kidsL l kids).getD i 0 := by
  unfold partOf
  by_cases h : i < kids.length
  · rw [if_pos h, kidsL_get l kids h]
  · rw [if_neg h, List.getD_eq_getElem?_getD, List.getElem?_eq_none (by rw [kidsL_len]; omega)]; rfl
theorem shO_iff {p : List EN} (hN : nodesB p = true) (l : List Int) {i j : Nat} (hi : i < p.length) (hj : j < p.length) : shO l (p.getD i e0) = shO l (p.getD j e0) ↔ (p.getD i e0).1 = (p.getD j e0).1 ∧ (p.getD i e0).2.1 = (p.getD j e0).2.1 ∧ kidsL l (p.getD i e0).2.2 = kidsL l (p.getD j e0).2.2 := by
  have hf := ((nodesB_iff p).1 hN).2
  have fi := fit_node (hf i hi)
  have fj := fit_node (hf j hj)
  have gi := fit_few (hf i hi)
  revert fi fj gi
  generalize p.getD i e0 = x
  generalize p.getD j e0 = y
  intro fi fj gi
  simp only [shO, Prod.mk.injEq, partOf_kids]
  constructor
  · rintro ⟨e1, e2, h0, h1, h2⟩
    refine ⟨e1, e2, list_ext (by rw [kidsL_len, kidsL_len]; have := fi.2.1; have := fj.2.1; rw [e1] at *; omega) fun k hk => ?_⟩
    rw [kidsL_len] at hk
    have hk3 : k = 0 ∨ k = 1 ∨ k = 2 := by omega
    rcases hk3 with rfl | rfl | rfl
    · exact h0
    · exact h1
    · exact h2
  · rintro ⟨e1, e2, e3⟩
    rw [e3]
    exact ⟨e1, e2, rfl, rfl, rfl⟩
end Go.Proofs.YtobgkfpjokfbaaaGreatDoor
namespace Go.Proofs.YtobgkfpjokfbaaaGreatDoor
set_option linter.unusedVariables false

/-- The place of a number in a list. -/
def ix (v : Int) : List Int → Nat
  | [] => 0
  | x :: l => if v = x then 0 else ix v l + 1
theorem ix_mem {v : Int} : ∀ {l : List Int}, v ∈ l → ix v l < l.length ∧ l.getD (ix v l) 0 = v := by
  intro l
  induction l with
  | nil => intro h; cases h
  | cons x l ih =>
    intro h
    unfold ix
    by_cases e : v = x
    · rw [if_pos e]; subst e; exact ⟨Nat.zero_lt_succ _, rfl⟩
    · rw [if_neg e]
      have h' : v ∈ l := by
        rcases List.mem_cons.1 h with h | h
        · exact absurd h e
        · exact h
      obtain ⟨h1, h2⟩ := ih h'
      refine ⟨by simp; omega, ?_⟩
      simpa [List.getD_eq_getElem?_getD] using h2
theorem ix_not {v : Int} : ∀ {l : List Int}, v ∉ l → ix v l = l.length := by
  intro l
  induction l with
  | nil => intro _; rfl
  | cons x l ih =>
    intro h
    have h1 : v ≠ x := fun e => h (List.mem_cons.2 (.inl e))
    have h2 : v ∉ l := fun e => h (List.mem_cons.2 (.inr e))
    unfold ix
    rw [if_neg h1, ih h2]
    rfl
theorem ix_app {v : Int} {m : List Int} : ∀ {l : List Int}, v ∈ l → ix v (l ++ m) = ix v l := by
  intro l
  induction l with
  | nil => intro h; cases h
  | cons x l ih =>
    intro h
    simp only [List.cons_append, ix]
    by_cases e : v = x
    · rw [if_pos e, if_pos e]
    · rw [if_neg e, if_neg e]
      have h' : v ∈ l := by
        rcases List.mem_cons.1 h with h | h
        · exact absurd h e
        · exact h
      rw [ih h']
theorem ix_end {v : Int} : ∀ {l : List Int}, v ∉ l → ix v (l ++ [v]) = l.length := by
  intro l
  induction l with
  | nil => intro _; simp [ix]
  | cons x l ih =>
    intro h
    have h1 : v ≠ x := fun e => h (List.mem_cons.2 (.inl e))
    have h2 : v ∉ l := fun e => h (List.mem_cons.2 (.inr e))
    simp only [List.cons_append, ix]
    rw [if_neg h1, ih h2]
    rfl
theorem ix_map {f : Int → Int} {v : Int} : ∀ {l : List Int}, (∀ x ∈ l, f v = f x → v = x) → ix (f v) (l.map f) = ix v l := by
  intro l
  induction l with
  | nil => intro _; rfl
  | cons x l ih =>
    intro h
    simp only [List.map_cons, ix]
    by_cases e : v = x
    · rw [if_pos (by rw [e]), if_pos e]
    · rw [if_neg (fun e' => e (h x (List.mem_cons.2 (.inl rfl)) e')), if_neg e, ih (fun y hy => h y (List.mem_cons.2 (.inr hy)))]
theorem ix_get : ∀ {l : List Int} {i : Nat}, l.Nodup → i < l.length → ix (l.getD i 0) l = i := by
  intro l
  induction l with
  | nil => intro i _ h; exact absurd h (Nat.not_lt_zero _)
  | cons x l ih =>
    intro i hn h
    rw [List.nodup_cons] at hn
    cases i with
    | zero => simp [ix]
    | succ i =>
      have hi : i < l.length := by simpa using h
      have e : (x :: l).getD (i + 1) 0 = l.getD i 0 := by simp [List.getD_eq_getElem?_getD]
      have hm : l.getD i 0 ∈ l := by rw [List.getD_eq_getElem?_getD, List.getElem?_eq_getElem hi]; exact List.getElem_mem _
      have hne : ¬ l.getD i 0 = x := fun e' => hn.1 (by rw [← e']; exact hm)
      rw [e]
      unfold ix
      rw [if_neg hne, ih hn.2 hi]

/-- A term by other names. -/
def nmL (f : Int → Int) (l : List (Int × Int)) : List (Int × Int) := l.map fun x => if x.1 = 2 then (x.1, f x.2) else x
/-- The variables of a term lie within 0..3. -/
def VR (l : List (Int × Int)) : Prop := ∀ x ∈ l, x.1 = 2 → 0 ≤ x.2 ∧ x.2 < 4
theorem nmL_congr {f g : Int → Int} {l : List (Int × Int)} (h : ∀ x ∈ l, x.1 = 2 → f x.2 = g x.2) : nmL f l = nmL g l := by
  unfold nmL
  refine List.map_congr_left fun x hx => ?_
  by_cases e : x.1 = 2
  · rw [if_pos e, if_pos e, h x hx e]
  · rw [if_neg e, if_neg e]
theorem nmL_nmL (f g : Int → Int) (l : List (Int × Int)) : nmL f (nmL g l) = nmL (fun v => f (g v)) l := by
  unfold nmL
  rw [List.map_map]
  refine List.map_congr_left fun x hx => ?_
  simp only [Function.comp]
  by_cases e : x.1 = 2
  · rw [if_pos e, if_pos e, if_pos e]
  · rw [if_neg e, if_neg e, if_neg e]
theorem nmL_id {f : Int → Int} {l : List (Int × Int)} (h : ∀ x ∈ l, x.1 = 2 → f x.2 = x.2) : nmL f l = l := by
  unfold nmL
  conv => rhs; rw [← List.map_id l]
  refine List.map_congr_left fun x hx => ?_
  by_cases e : x.1 = 2
  · rw [if_pos e, h x hx e]; rfl
  · rw [if_neg e]; rfl
theorem nmL_len (f : Int → Int) (l : List (Int × Int)) : (nmL f l).length = l.length := by simp [nmL]
/-- What has been met, behind one more. -/
def addM (ms : List Int) (v : Int) : List Int := if v ∈ ms then ms else ms ++ [v]
def nextM (ms : List Int) (x : Int × Int) : List Int := if x.1 = 2 then addM ms x.2 else ms
def metL : List Int → List (Int × Int) → List Int
  | ms, [] => ms
  | ms, x :: r => metL (nextM ms x) r
def renX (ms : List Int) (x : Int × Int) : Int × Int := if x.1 = 2 then (x.1, (ix x.2 ms : Nat)) else x
/-- A term whose variables are named in the order in which they are met. -/
def renL : List Int → List (Int × Int) → List (Int × Int)
  | _, [] => []
  | ms, x :: r => renX ms x :: renL (nextM ms x) r
theorem addM_ext (ms : List Int) (v : Int) : ∃ t, addM ms v = ms ++ t := by
  unfold addM
  split
  · exact ⟨[], by simp⟩
  · exact ⟨[v], rfl⟩
theorem nextM_ext (ms : List Int) (x : Int × Int) : ∃ t, nextM ms x = ms ++ t := by
  unfold nextM
  split
  · exact addM_ext ms x.2
  · exact ⟨[], by simp⟩
theorem metL_ext : ∀ (l : List (Int × Int)) (ms : List Int), ∃ t, metL ms l = ms ++ t := by
  intro l
  induction l with
  | nil => intro ms; exact ⟨[], by simp [metL]⟩
  | cons x l ih =>
    intro ms
    obtain ⟨t, ht⟩ := ih (nextM ms x)
    obtain ⟨s, hs⟩ := nextM_ext ms x
    exact ⟨s ++ t, by rw [metL, ht, hs, List.append_assoc]⟩
theorem addM_mem (ms : List Int) (v : Int) : v ∈ addM ms v := by
  unfold addM
  split
  · assumption
  · simp
theorem metL_mem : ∀ (l : List (Int × Int)) (ms : List Int) (x : Int × Int), x ∈ l → x.1 = 2 → x.2 ∈ metL ms l := by
  intro l
  induction l with
  | nil => intro ms x h; cases h
  | cons y l ih =>
    intro ms x h e
    rcases List.mem_cons.1 h with rfl | h
    · obtain ⟨t, ht⟩ := metL_ext l (nextM ms x)
      rw [metL, ht]
      refine List.mem_append_left _ ?_
      unfold nextM
      rw [if_pos e]
      exact addM_mem _ _
    · exact ih _ x h e
theorem metL_good : ∀ (l : List (Int × Int)) (ms : List Int), VR l → (ms.Nodup ∧ ∀ v ∈ ms, 0 ≤ v ∧ v < 4) → ((metL ms l).Nodup ∧ ∀ v ∈ metL ms l, 0 ≤ v ∧ v < 4) := by
  intro l
  induction l with
  | nil => intro ms _ h; exact h
  | cons x l ih =>
    intro ms hv h
    refine ih _ (fun y hy => hv y (List.mem_cons.2 (.inr hy))) ?_
    unfold nextM
    split
    · next e =>
      unfold addM
      split
      · exact h
      · next hn =>
        refine ⟨?_, fun v hm => ?_⟩
        · rw [List.nodup_append]
          exact ⟨h.1, by simp, fun a ha b hb e' => by simp at hb; exact hn (by rw [← hb, ← e']; exact ha)⟩
        · rcases List.mem_append.1 hm with hm | hm
          · exact h.2 v hm
          · simp at hm
            rw [hm]
            exact hv x (List.mem_cons.2 (.inl rfl)) e
    · exact h
theorem renX_ix (ms : List Int) (x : Int × Int) (t : List Int) : renX ms x = if x.1 = 2 then (x.1, ((ix x.2 (nextM ms x ++ t) : Nat) : Int)) else x := by
  unfold renX nextM
  by_cases e : x.1 = 2
  · rw [if_pos e, if_pos e, if_pos e, ix_app (addM_mem ms x.2)]
    unfold addM
    by_cases hm : x.2 ∈ ms
    · rw [if_pos hm]
    · rw [if_neg hm, ix_end hm, ix_not hm]
  · rw [if_neg e, if_neg e]
theorem renL_nm : ∀ (l : List (Int × Int)) (ms t : List Int), renL ms l = nmL (fun v => ((ix v (metL ms l ++ t) : Nat) : Int)) l := by
  intro l
  induction l with
  | nil => intro ms t; rfl
  | cons x l ih =>
    intro ms t
    obtain ⟨s, hs⟩ := metL_ext l (nextM ms x)
    have e1 := ih (nextM ms x) t
    have e2 := renX_ix ms x (s ++ t)
    rw [← List.append_assoc, ← hs] at e2
    rw [renL, e1, e2]
    rfl
theorem metL_map {f : Int → Int} (hf : ∀ x y, 0 ≤ x ∧ x < 4 → 0 ≤ y ∧ y < 4 → f x = f y → x = y) : ∀ (l : List (Int × Int)) (ms : List Int), VR l → (∀ v ∈ ms, 0 ≤ v ∧ v < 4) → metL (ms.map f) (nmL f l) = (metL ms l).map f := by
  intro l
  induction l with
  | nil => intro ms _ _; rfl
  | cons x l ih =>
    intro ms hv hm
    have hvl : VR l := fun y hy => hv y (List.mem_cons.2 (.inr hy))
    have e : nextM (ms.map f) (if x.1 = 2 then (x.1, f x.2) else x) = (nextM ms x).map f := by
      by_cases h2 : x.1 = 2
      · rw [if_pos h2]
        unfold nextM
        rw [if_pos h2, if_pos h2]
        have hx := hv x (List.mem_cons.2 (.inl rfl)) h2
        unfold addM
        by_cases hin : x.2 ∈ ms
        · rw [if_pos hin, if_pos (List.mem_map.2 ⟨x.2, hin, rfl⟩)]
        · rw [if_neg hin, if_neg ?_]
          · simp
          · intro hc
            obtain ⟨y, hy, e⟩ := List.mem_map.1 hc
            exact hin (by rw [← hf y x.2 (hm y hy) hx e]; exact hy)
      · rw [if_neg h2]
        unfold nextM
        rw [if_neg h2, if_neg h2]
    have hn : ∀ v ∈ nextM ms x, 0 ≤ v ∧ v < 4 := by
      unfold nextM
      split
      · next h2 =>
        unfold addM
        split
        · exact hm
        · intro v h
          rcases List.mem_append.1 h with h | h
          · exact hm v h
          · simp at h
            rw [h]
            exact hv x (List.mem_cons.2 (.inl rfl)) h2
      · exact hm
    have := ih (nextM ms x) hvl hn
    show metL (ms.map f) ((if x.1 = 2 then (x.1, f x.2) else x) :: nmL f l) = _
    rw [metL, e, this]
    rfl

/-- All namings that begin as one does, m names to come. -/
def permsL : Nat → List Int → List (List Int)
  | 0, p => [p]
  | m + 1, p => [0, 1, 2, 3].flatMap fun v => if v ∈ p then [] else permsL m (p ++ [v])
theorem permsL_mem : ∀ (m : Nat) (p q : List Int), q ∈ permsL m p → ∃ r, q = p ++ r ∧ r.length = m ∧ (p.Nodup → q.Nodup) ∧ ((∀ v ∈ p, 0 ≤ v ∧ v < 4) → ∀ v ∈ q, 0 ≤ v ∧ v < 4) := by
  intro m
  induction m with
  | zero =>
    intro p q h
    simp [permsL] at h
    subst h
    exact ⟨[], by simp, rfl, fun h => h, fun h => h⟩
  | succ m ih =>
    intro p q h
    unfold permsL at h
    obtain ⟨v, hv, hq⟩ := List.mem_flatMap.1 h
    by_cases hm : v ∈ p
    · rw [if_pos hm] at hq; cases hq
    · rw [if_neg hm] at hq
      obtain ⟨r, h1, h2, h3, h4⟩ := ih _ _ hq
      have hvr : 0 ≤ v ∧ v < 4 := by
        simp at hv
        omega
      refine ⟨v :: r, by rw [h1]; simp, by simp [h2], fun hp => h3 ?_, fun hp => h4 fun u hu => ?_⟩
      · rw [List.nodup_append]
        exact ⟨hp, by simp, fun a ha b hb e' => by simp at hb; exact hm (by rw [← hb, ← e']; exact ha)⟩
      · rcases List.mem_append.1 hu with hu | hu
        · exact hp u hu
        · simp at hu
          rw [hu]
          exact hvr
theorem permsL_has : ∀ (r p : List Int), (p ++ r).Nodup → (∀ v ∈ r, 0 ≤ v ∧ v < 4) → p ++ r ∈ permsL r.length p := by
  intro r
  induction r with
  | nil => intro p _ _; simp [permsL]
  | cons v r ih =>
    intro p hn hv
    have hvr := hv v (List.mem_cons.2 (.inl rfl))
    show _ ∈ permsL (r.length + 1) p
    unfold permsL
    refine List.mem_flatMap.2 ⟨v, ?_, ?_⟩
    · have : v = 0 ∨ v = 1 ∨ v = 2 ∨ v = 3 := by omega
      simpa using this
    · have hm : v ∉ p := by
        intro hm
        rw [List.nodup_append] at hn
        exact hn.2.2 v hm v (List.mem_cons.2 (.inl rfl)) rfl
      rw [if_neg hm]
      have := ih (p ++ [v]) (by simpa using hn) (fun u hu => hv u (List.mem_cons.2 (.inr hu)))
      simpa using this

/-- What a naming names. -/
def lk (q : List Int) (v : Int) : Int := q.getD v.toNat 0
/-- Two rules are the same by some naming. -/
def sameS (rl rr sl sr : List (Int × Int)) : Bool := (permsL 4 []).any fun q => nmL (lk q) rl == sl && nmL (lk q) rr == sr
/-- Two rules are alike, their variables named in the order in which they are met. -/
def sameI (rl rr sl sr : List (Int × Int)) : Bool := (renL [] rl == renL [] sl) && (renL (metL [] rl) rr == renL (metL [] sl) sr)

def fillM (ms : List Int) : List Int := ms ++ [0, 1, 2, 3].filter (fun v => decide (v ∉ ms))
theorem fillM_mem (ms : List Int) (v : Int) (h : 0 ≤ v ∧ v < 4) : v ∈ fillM ms := by
  unfold fillM
  by_cases hm : v ∈ ms
  · exact List.mem_append_left _ hm
  · refine List.mem_append_right _ (List.mem_filter.2 ⟨?_, by simpa using hm⟩)
    have : v = 0 ∨ v = 1 ∨ v = 2 ∨ v = 3 := by omega
    simpa using this
theorem fillM_good (ms : List Int) (h : ms.Nodup ∧ ∀ v ∈ ms, 0 ≤ v ∧ v < 4) : (fillM ms).Nodup ∧ ∀ v ∈ fillM ms, 0 ≤ v ∧ v < 4 := by
  unfold fillM
  refine ⟨?_, fun v hv => ?_⟩
  · rw [List.nodup_append]
    refine ⟨h.1, List.Pairwise.filter _ (show [0, 1, 2, (3 : Int)].Nodup by decide), fun a ha b hb e => ?_⟩
    have := (List.mem_filter.1 hb).2
    simp at this
    exact this (e ▸ ha)
  · rcases List.mem_append.1 hv with hv | hv
    · exact h.2 v hv
    · have := (List.mem_filter.1 hv).1
      simp at this
      omega
theorem sub_len : ∀ {l m : List Int}, l.Nodup → (∀ v ∈ l, v ∈ m) → l.length ≤ m.length := by
  intro l
  induction l with
  | nil => intro m _ _; exact Nat.zero_le _
  | cons x l ih =>
    intro m hn h
    rw [List.nodup_cons] at hn
    have hx := h x (List.mem_cons.2 (.inl rfl))
    have := ih (m := m.erase x) hn.2 (fun v hv => (List.mem_erase_of_ne (fun e => hn.1 (by rw [← e]; exact hv))).2 (h v (List.mem_cons.2 (.inr hv))))
    rw [List.length_erase_of_mem hx] at this
    have := List.length_pos_of_mem hx
    simp only [List.length_cons]
    omega
theorem map_nodup {f : Int → Int} : ∀ {l : List Int}, (∀ x ∈ l, ∀ y ∈ l, f x = f y → x = y) → l.Nodup → (l.map f).Nodup := by
  intro l
  induction l with
  | nil => intro _ _; exact List.nodup_nil
  | cons x l ih =>
    intro h hn
    rw [List.nodup_cons] at hn
    rw [List.map_cons, List.nodup_cons]
    refine ⟨fun hm => ?_, ih (fun a ha b hb => h a (List.mem_cons.2 (.inr ha)) b (List.mem_cons.2 (.inr hb))) hn.2⟩
    obtain ⟨y, hy, e⟩ := List.mem_map.1 hm
    have := h y (List.mem_cons.2 (.inr hy)) x (List.mem_cons.2 (.inl rfl)) e
    exact hn.1 (by rw [← this]; exact hy)
theorem nodup_le4 {l : List Int} (h : l.Nodup) (hv : ∀ v ∈ l, 0 ≤ v ∧ v < 4) (ha : ∀ v : Int, 0 ≤ v ∧ v < 4 → v ∈ l) : l.length = 4 := by
  have h1 : l.length ≤ [0, 1, 2, (3 : Int)].length := sub_len h fun v hm => by
    have := hv v hm
    have : v = 0 ∨ v = 1 ∨ v = 2 ∨ v = 3 := by omega
    simpa using this
  have h2 : [0, 1, 2, (3 : Int)].length ≤ l.length := sub_len (by decide) fun v hm => by
    simp at hm
    exact ha v (by omega)
  simp at h1 h2
  omega
theorem lk_inj {q : List Int} (h4 : q.length = 4) (hn : q.Nodup) (x y : Int) (hx : 0 ≤ x ∧ x < 4) (hy : 0 ≤ y ∧ y < 4) (h : lk q x = lk q y) : x = y := by
  unfold lk at h
  have e1 := ix_get hn (i := x.toNat) (by omega)
  have e2 := ix_get hn (i := y.toNat) (by omega)
  rw [h] at e1
  omega
theorem same_eq (rl rr sl sr : List (Int × Int)) (h1 : VR rl) (h2 : VR rr) (h3 : VR sl) (h4 : VR sr) : sameS rl rr sl sr = sameI rl rr sl sr := by
  have e0 : ([] : List Int).Nodup ∧ ∀ v ∈ ([] : List Int), 0 ≤ v ∧ v < (4 : Int) := ⟨List.nodup_nil, fun v hv => by cases hv⟩
  obtain ⟨t, ht⟩ := metL_ext rr (metL [] rl)
  obtain ⟨u, hu⟩ := metL_ext sr (metL [] sl)
  have gr := metL_good rr _ h2 (metL_good rl _ h1 e0)
  have gs := metL_good sr _ h4 (metL_good sl _ h3 e0)
  have r1 : renL [] rl = nmL (fun v => ((ix v (metL (metL [] rl) rr) : Nat) : Int)) rl := by rw [renL_nm rl [] t, ht]
  have r2 : renL (metL [] rl) rr = nmL (fun v => ((ix v (metL (metL [] rl) rr) : Nat) : Int)) rr := by rw [renL_nm rr _ [], List.append_nil]
  have s1 : renL [] sl = nmL (fun v => ((ix v (metL (metL [] sl) sr) : Nat) : Int)) sl := by rw [renL_nm sl [] u, hu]
  have s2 : renL (metL [] sl) sr = nmL (fun v => ((ix v (metL (metL [] sl) sr) : Nat) : Int)) sr := by rw [renL_nm sr _ [], List.append_nil]
  have mr1 : ∀ x ∈ rl, x.1 = 2 → x.2 ∈ metL (metL [] rl) rr := fun x hx e => by rw [ht]; exact List.mem_append_left _ (metL_mem rl [] x hx e)
  have mr2 : ∀ x ∈ rr, x.1 = 2 → x.2 ∈ metL (metL [] rl) rr := fun x hx e => metL_mem rr _ x hx e
  have ms1 : ∀ x ∈ sl, x.1 = 2 → x.2 ∈ metL (metL [] sl) sr := fun x hx e => by rw [hu]; exact List.mem_append_left _ (metL_mem sl [] x hx e)
  have ms2 : ∀ x ∈ sr, x.1 = 2 → x.2 ∈ metL (metL [] sl) sr := fun x hx e => metL_mem sr _ x hx e
  unfold sameI
  rw [r1, r2, s1, s2]
  have key : ∀ f : Int → Int, (∀ x y, 0 ≤ x ∧ x < 4 → 0 ≤ y ∧ y < 4 → f x = f y → x = y) → nmL f rl = sl → nmL f rr = sr → metL (metL [] sl) sr = (metL (metL [] rl) rr).map f := by
    intro f hf e1 e2
    rw [← e1, ← e2]
    have := metL_map hf rl [] h1 (fun v hv => by cases hv)
    simp only [List.map_nil] at this
    rw [this]
    exact metL_map hf rr _ h2 (metL_good rl _ h1 e0).2
  generalize metL (metL [] rl) rr = Mr at *
  generalize metL (metL [] sl) sr = Ms at *
  rw [Bool.eq_iff_iff]
  constructor
  · intro h
    obtain ⟨q, hq, he⟩ := List.any_eq_true.1 h
    rw [Bool.and_eq_true, beq_iff_eq, beq_iff_eq] at he
    obtain ⟨he1, he2⟩ := he
    obtain ⟨r, f1, f2, f3, f4⟩ := permsL_mem 4 [] q hq
    have hq4 : q.length = 4 := by rw [f1]; simpa using f2
    have hinj := lk_inj hq4 (f3 List.nodup_nil)
    have hM := key (lk q) hinj he1 he2
    rw [Bool.and_eq_true, beq_iff_eq, beq_iff_eq, hM, ← he1, ← he2, nmL_nmL, nmL_nmL]
    refine ⟨nmL_congr fun x hx e => ?_, nmL_congr fun x hx e => ?_⟩
    · rw [ix_map fun y hy hxy => hinj _ _ (h1 x hx e) (gr.2 y hy) hxy]
    · rw [ix_map fun y hy hxy => hinj _ _ (h2 x hx e) (gr.2 y hy) hxy]
  · intro h
    rw [Bool.and_eq_true, beq_iff_eq, beq_iff_eq] at h
    obtain ⟨c1, c2⟩ := h
    have fr := fillM_good Mr gr
    have fs := fillM_good Ms gs
    have lr := nodup_le4 fr.1 fr.2 (fillM_mem Mr)
    have ls := nodup_le4 fs.1 fs.2 (fillM_mem Ms)
    have hk : ∀ v : Int, 0 ≤ v ∧ v < 4 → ix v (fillM Mr) < 4 := fun v hv => by
      have := (ix_mem (fillM_mem Mr v hv)).1
      omega
    have hq : [0, 1, 2, 3].map (fun v : Int => (fillM Ms).getD (ix v (fillM Mr)) 0) ∈ permsL 4 [] := by
      have := permsL_has ([0, 1, 2, 3].map (fun v : Int => (fillM Ms).getD (ix v (fillM Mr)) 0)) [] ?_ ?_
      · simpa using this
      · rw [List.nil_append]
        refine map_nodup (fun x hx y hy e => ?_) (by decide)
        have hx' : 0 ≤ x ∧ x < 4 := by simp at hx; omega
        have hy' : 0 ≤ y ∧ y < 4 := by simp at hy; omega
        have e1 := ix_get fs.1 (i := ix x (fillM Mr)) (by rw [ls]; exact hk x hx')
        have e2 := ix_get fs.1 (i := ix y (fillM Mr)) (by rw [ls]; exact hk y hy')
        rw [e] at e1
        have e3 : ix x (fillM Mr) = ix y (fillM Mr) := e1.symm.trans e2
        have g1 := (ix_mem (fillM_mem Mr x hx')).2
        have g2 := (ix_mem (fillM_mem Mr y hy')).2
        rw [e3] at g1
        exact g1.symm.trans g2
      · intro v hv
        obtain ⟨x, hx, rfl⟩ := List.mem_map.1 hv
        have hx' : 0 ≤ x ∧ x < 4 := by simp at hx; omega
        have hlt : ix x (fillM Mr) < (fillM Ms).length := by rw [ls]; exact hk x hx'
        rw [List.getD_eq_getElem?_getD, List.getElem?_eq_getElem hlt]
        exact fs.2 _ (List.getElem_mem _)
    have hlk : ∀ v : Int, 0 ≤ v ∧ v < 4 → lk ([0, 1, 2, 3].map (fun v : Int => (fillM Ms).getD (ix v (fillM Mr)) 0)) v = (fillM Ms).getD (ix v (fillM Mr)) 0 := by
      intro v hv
      have : v = 0 ∨ v = 1 ∨ v = 2 ∨ v = 3 := by omega
      rcases this with rfl | rfl | rfl | rfl <;> rfl
    have side : ∀ (r s : List (Int × Int)), VR r → (∀ x ∈ r, x.1 = 2 → x.2 ∈ Mr) → (∀ x ∈ s, x.1 = 2 → x.2 ∈ Ms) → nmL (fun v => ((ix v Mr : Nat) : Int)) r = nmL (fun v => ((ix v Ms : Nat) : Int)) s → nmL (lk ([0, 1, 2, 3].map (fun v : Int => (fillM Ms).getD (ix v (fillM Mr)) 0))) r = s := by
      intro r s hr hmr hms e
      have e1 : nmL (lk ([0, 1, 2, 3].map (fun v : Int => (fillM Ms).getD (ix v (fillM Mr)) 0))) r = nmL (fun i => (fillM Ms).getD i.toNat 0) (nmL (fun v => ((ix v Mr : Nat) : Int)) r) := by
        rw [nmL_nmL]
        refine nmL_congr fun x hx hx2 => ?_
        rw [hlk x.2 (hr x hx hx2)]
        simp only [Int.toNat_natCast]
        rw [show fillM Mr = Mr ++ [0, 1, 2, 3].filter (fun v => decide (v ∉ Mr)) from rfl, ix_app (hmr x hx hx2)]
      rw [e1, e, nmL_nmL]
      refine nmL_id fun x hx hx2 => ?_
      simp only [Int.toNat_natCast]
      obtain ⟨g1, g2⟩ := ix_mem (hms x hx hx2)
      have : (fillM Ms).getD (ix x.2 Ms) 0 = Ms.getD (ix x.2 Ms) 0 := by
        simp only [List.getD_eq_getElem?_getD, fillM]
        rw [List.getElem?_append_left g1]
      rw [this, g2]
    refine List.any_eq_true.2 ⟨_, hq, ?_⟩
    rw [Bool.and_eq_true, beq_iff_eq, beq_iff_eq]
    exact ⟨side rl sl h1 mr1 ms1 c1, side rr sr h2 mr2 ms2 c2⟩
end Go.Proofs.YtobgkfpjokfbaaaGreatDoor
namespace Go.Proofs.YtobgkfpjokfbaaaGreatDoor
open Go.ChangeShapes Go.WideShapes Go.ChangeAt Go.RowKit
set_option linter.unusedVariables false

theorem NSl.grown {w w' : World} {a : Option Addr} {len : Nat} {l : List (Int × Int)} {r : Option Nat} (h : NSl w a len l) (hg : w.grownBy w' r) (hne : ∀ x, a = some x → some x.block ≠ r) : NSl w' a len l := by
  refine ⟨h.1, ?_⟩
  rcases h.2 with h0 | ⟨b, off, ha, hlt, hc⟩
  · exact .inl h0
  · have hb := hg.block b hlt (hne _ ha)
    refine .inr ⟨b, off, ha, Nat.lt_of_lt_of_le hlt hg.size, fun i hi => ?_⟩
    rw [← (hc i hi).1, ← (hc i hi).2]
    constructor <;> simp only [World.cell?, hb]
theorem own_keep {w w' : World} {base e size n : Nat} {v : Value} {xs : List Value} (h : w.ownsRow base e size v n xs) (hb : Below w.heap.size w w') : w'.ownsRow base e size v n xs :=
  h.kept (grown_of hb) (by cases hv : v.ownBlock <;> simp)
theorem own_grown {w w' : World} {base e size n : Nat} {v : Value} {xs : List Value} {r : Option Nat} (h : w.ownsRow base e size v n xs) (hg : w.grownBy w' r) (hne : ∀ x, v.ownBlock = some x → some x ≠ r) : w'.ownsRow base e size v n xs :=
  h.kept hg (by
    cases hv : v.ownBlock with
    | none => exact .inl rfl
    | some x => exact .inr (hne x hv))
theorem own_in {w : World} {base e size n : Nat} {v : Value} {xs : List Value} (h : w.ownsRow base e size v n xs) : ∀ x, v.ownBlock = some x → x < w.heap.size := by
  intro x hx
  rcases h.2 with ⟨rfl, _⟩ | ⟨g, cap, cur, rfl, _, hg, _⟩
  · cases hx
  · cases hx; exact Array.getElem?_eq_some_iff.1 hg |>.1
end Go.Proofs.YtobgkfpjokfbaaaGreatDoor
