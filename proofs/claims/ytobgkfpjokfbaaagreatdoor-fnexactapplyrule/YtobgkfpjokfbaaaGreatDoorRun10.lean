/-
  PROVED HERE: plain facts on nodes that are put into a graph, one by one. No condition. what the laws' own marking of lists of ints leaves, at every list of at most a million. No other condition. what the laws' own copying of lists of ints leaves, at every list of at most a million. No other condition.
-/
import Derived.Test.YtobgkfpjokfbaaaGreatDoorRun4
import Derived.Test.YtobgkfpjokfbaaaGreatDoorRun9
import Derived.Test.YtobgkfpjokfbaaaGreatDoorRun6
import Derived.Test.YtobgkfpjokfbaaaGreatDoorRun2
namespace Go.Proofs.YtobgkfpjokfbaaaGreatDoor
set_option linter.unusedVariables false

/-- A graph: nodes and parts. -/
abbrev GS := List EN × List Int
/-- The class of the first node that is alike. -/
def findL (p : List EN) (l : List Int) (x : EN) : Option Int := ((List.range p.length).find? fun k => decide (p.getD k e0 = x)).map fun k => l.getD k 0
theorem findL_at {p : List EN} {l : List Int} {x : EN} {k : Nat} (hk : k < p.length) (e : p.getD k e0 = x) (hn : ∀ j, j < k → p.getD j e0 ≠ x) : findL p l x = some (l.getD k 0) := by
  unfold findL
  have : (List.range p.length).find? (fun k => decide (p.getD k e0 = x)) = some k := by
    rw [List.find?_range_eq_some]
    refine ⟨by simpa using e, by simpa using hk, fun j hj => ?_⟩
    simpa using hn j hj
  rw [this]; rfl
theorem findL_no {p : List EN} {l : List Int} {x : EN} (hn : ∀ j, j < p.length → p.getD j e0 ≠ x) : findL p l x = none := by
  unfold findL
  have : (List.range p.length).find? (fun k => decide (p.getD k e0 = x)) = none := by
    rw [List.find?_eq_none]
    intro j hj
    simpa using hn j (by simpa using hj)
  rw [this]; rfl
theorem findL_some {p : List EN} {l : List Int} {x : EN} {v : Int} (h : findL p l x = some v) : ∃ k, k < p.length ∧ p.getD k e0 = x ∧ l.getD k 0 = v ∧ ∀ j, j < k → p.getD j e0 ≠ x := by
  unfold findL at h
  cases hf : (List.range p.length).find? (fun k => decide (p.getD k e0 = x)) with
  | none => rw [hf] at h; cases h
  | some k =>
    rw [hf] at h
    rw [List.find?_range_eq_some] at hf
    obtain ⟨h1, h2, h3⟩ := hf
    refine ⟨k, by simpa using h2, by simpa using h1, by simpa using h, fun j hj => by simpa using h3 j hj⟩
theorem findL_none {p : List EN} {l : List Int} {x : EN} (h : findL p l x = none) : ∀ j, j < p.length → p.getD j e0 ≠ x := by
  intro j hj e
  unfold findL at h
  rw [Option.map_eq_none_iff, List.find?_eq_none] at h
  have := h j (by simpa using hj)
  simp at this
  exact this e
def putL (g : GS) (x : EN) : GS × Int := match findL g.1 g.2 x with
  | some v => (g, v)
  | none => ((g.1 ++ [x], g.2 ++ [(g.1.length : Int)]), (g.1.length : Int))
theorem putL_some {g : GS} {x : EN} {v : Int} (h : findL g.1 g.2 x = some v) : putL g x = (g, v) := by unfold putL; rw [h]
theorem putL_none {g : GS} {x : EN} (h : findL g.1 g.2 x = none) : putL g x = ((g.1 ++ [x], g.2 ++ [(g.1.length : Int)]), (g.1.length : Int)) := by unfold putL; rw [h]
/-- A good graph of any size. -/
def GoodG (g : GS) : Prop := (∀ i, i < g.1.length → fitE i (g.1.getD i e0) = true) ∧ g.2.length = g.1.length ∧ Par g.2 ∧ Flat g.2 ∧ Rest g.1 g.2
theorem graphB_good (p : List EN) (l : List Int) : graphB p l = true ↔ p.length ≤ 120 ∧ GoodG (p, l) := by
  rw [graphB_iff, headB_iff, nodesB_iff, partB_iff]
  constructor
  · rintro ⟨⟨⟨h1, h2⟩, h3, h4, h5, h6⟩, h7⟩
    exact ⟨h1, h2, h3, h5, h6, h7⟩
  · rintro ⟨h1, h2, h3, h5, h6, h7⟩
    simp only at h2 h3 h5 h6 h7
    exact ⟨⟨⟨h1, h2⟩, h3, by omega, h5, h6⟩, h7⟩
theorem graphB_of {g : GS} (h : GoodG g) : graphB g.1 g.2 = decide (g.1.length ≤ 120) := by
  by_cases h0 : g.1.length ≤ 120
  · rw [decide_eq_true h0]; exact (graphB_good _ _).2 ⟨h0, h⟩
  · rw [decide_eq_false h0]
    cases hb : graphB g.1 g.2 with
    | false => rfl
    | true => exact absurd ((graphB_good _ _).1 hb).1 h0
/-- A class of a graph. -/
def IsCl (g : GS) (c : Int) : Prop := 0 ≤ c ∧ c < (g.1.length : Int) ∧ g.2.getD c.toNat 0 = c
theorem getD_old {α : Type} (l m : List α) (d : α) {k : Nat} (h : k < l.length) : (l ++ m).getD k d = l.getD k d := by
  rw [List.getD_eq_getElem?_getD, List.getD_eq_getElem?_getD, List.getElem?_append_left h]
theorem getD_new {α : Type} (l : List α) (x d : α) : (l ++ [x]).getD l.length d = x := by
  rw [List.getD_eq_getElem?_getD, List.getElem?_append_right (Nat.le_refl _), Nat.sub_self]; rfl
theorem isCl_add {g : GS} (hl : g.2.length = g.1.length) {c : Int} (h : IsCl g c) (x : EN) : IsCl (g.1 ++ [x], g.2 ++ [(g.1.length : Int)]) c := by
  obtain ⟨h1, h2, h3⟩ := h
  refine ⟨h1, by simp; omega, ?_⟩
  show (g.2 ++ [_]).getD c.toNat 0 = c
  rw [getD_old _ _ _ (by omega)]; exact h3
theorem add_good {g : GS} (h : GoodG g) {x : EN} (hx : nodeOk x.1 x.2.1 x.2.2.length = true) (hk : ∀ c ∈ x.2.2, IsCl g c) (hf : findL g.1 g.2 x = none) : GoodG (g.1 ++ [x], g.2 ++ [(g.1.length : Int)]) := by
  obtain ⟨h1, h2, h3, h4, h5⟩ := h
  have hno := findL_none hf
  refine ⟨fun i hi => ?_, by simp [h2], fun k hk' => ?_, fun k hk' => ?_, fun k hk' => ⟨fun c hc => ?_, fun i hi e => ?_⟩⟩
  · simp only [List.length_append, List.length_singleton] at hi
    by_cases e : i < g.1.length
    · show fitE i ((g.1 ++ [x]).getD i e0) = true
      rw [getD_old _ _ _ e]; exact h1 i e
    · obtain rfl : i = g.1.length := by omega
      show fitE g.1.length ((g.1 ++ [x]).getD g.1.length e0) = true
      rw [getD_new]
      unfold fitE
      rw [hx, Bool.true_and, kidsB_iff]
      intro c hc
      have := hk c hc
      exact ⟨this.1, by have := this.2.1; omega⟩
  · simp only [List.length_append, List.length_singleton] at hk'
    show 0 ≤ (g.2 ++ [_]).getD k 0 ∧ (g.2 ++ [_]).getD k 0 ≤ (k : Int)
    by_cases e : k < g.2.length
    · rw [getD_old _ _ _ e]; exact h3 k e
    · obtain rfl : k = g.2.length := by omega
      rw [getD_new]; omega
  · simp only [List.length_append, List.length_singleton] at hk'
    show (g.2 ++ [_]).getD ((g.2 ++ [_]).getD k 0).toNat 0 = (g.2 ++ [_]).getD k 0
    by_cases e : k < g.2.length
    · rw [getD_old _ _ _ e]
      have := h3 k e
      rw [getD_old _ _ _ (by omega)]; exact h4 k e
    · obtain rfl : k = g.2.length := by omega
      rw [getD_new, show ((g.1.length : Int)).toNat = g.2.length by omega, getD_new]
  · simp only [List.length_append, List.length_singleton] at hk'
    show (g.2 ++ [_]).getD c.toNat 0 = c
    by_cases e : k < g.1.length
    · have hc' : c ∈ (g.1.getD k e0).2.2 := by
        have : (g.1 ++ [x]).getD k e0 = g.1.getD k e0 := getD_old _ _ _ e
        rw [← this]; exact hc
      have := (fit_node (h1 k e)).2.2.2 c hc'
      rw [getD_old _ _ _ (by omega)]
      exact (h5 k e).1 c hc'
    · obtain rfl : k = g.1.length := by omega
      have hc' : c ∈ x.2.2 := by
        have : (g.1 ++ [x]).getD g.1.length e0 = x := getD_new _ _ _
        rw [← this]; exact hc
      have := hk c hc'
      have h02 := this.2.1
      have h01 := this.1
      rw [getD_old _ _ _ (by omega)]; exact this.2.2
  · simp only [List.length_append, List.length_singleton] at hk'
    have e' : (g.1 ++ [x]).getD k e0 = (g.1 ++ [x]).getD i e0 := e
    show (g.2 ++ [_]).getD i 0 = (g.2 ++ [_]).getD k 0
    by_cases e1 : k < g.1.length
    · rw [getD_old _ _ _ e1, getD_old _ _ _ (by omega)] at e'
      rw [getD_old _ _ _ (by omega), getD_old _ _ _ (by omega)]
      exact (h5 k e1).2 i hi e'
    · obtain rfl : k = g.1.length := by omega
      rw [getD_new, getD_old _ _ _ hi] at e'
      exact absurd e'.symm (hno i hi)
theorem putL_good {g : GS} (h : GoodG g) {x : EN} (hx : nodeOk x.1 x.2.1 x.2.2.length = true) (hk : ∀ c ∈ x.2.2, IsCl g c) : GoodG (putL g x).1 ∧ IsCl (putL g x).1 (putL g x).2 ∧ (∀ c, IsCl g c → IsCl (putL g x).1 c) ∧ g.1.length ≤ (putL g x).1.1.length := by
  cases hf : findL g.1 g.2 x with
  | some v =>
    rw [putL_some hf]
    obtain ⟨k, h1, h2, h3, _⟩ := findL_some hf
    have hp := h.2.2.1 k (by have := h.2.1; omega)
    have hfl := h.2.2.2.1 k (by have := h.2.1; omega)
    refine ⟨h, ⟨?_, ?_, ?_⟩, fun c hc => hc, Nat.le_refl _⟩
    · show 0 ≤ v; omega
    · show v < (g.1.length : Int); omega
    · show g.2.getD v.toNat 0 = v; rw [← h3]; exact hfl
  | none =>
    rw [putL_none hf]
    refine ⟨add_good h hx hk hf, ⟨by show (0 : Int) ≤ g.1.length; omega, by simp; omega, ?_⟩, fun c hc => isCl_add h.2.1 hc x, by simp⟩
    show (g.2 ++ [_]).getD ((g.1.length : Int)).toNat 0 = _
    rw [show ((g.1.length : Int)).toNat = g.2.length by have := h.2.1; omega, getD_new]
/-- What a node of a term comes to. -/
def classA (b : Option (List Int)) (g : GS) (n : Int × Int) (kids : List Int) : GS × Int :=
  match b with
  | some bs => if n.1 = 2 then (g, bs.getD n.2.toNat 0) else putL g (n.1, n.2, kids)
  | none => putL g (n.1, n.2, kids)
def stepA (b : Option (List Int)) (s : GS × List Int) (n : Int × Int) : GS × List Int :=
  ((classA b s.1 n (s.2.drop (s.2.length - (ar n.1).toNat))).1, s.2.take (s.2.length - (ar n.1).toNat) ++ [(classA b s.1 n (s.2.drop (s.2.length - (ar n.1).toNat))).2])
def runA (b : Option (List Int)) (t : List (Int × Int)) (s : GS × List Int) : GS × List Int := t.foldl (stepA b) s
theorem runA_append (b : Option (List Int)) (t u : List (Int × Int)) (s : GS × List Int) : runA b (t ++ u) s = runA b u (runA b t s) := List.foldl_append
theorem stepA_frame (b : Option (List Int)) (P Q : List Int) (g : GS) (n : Int × Int) (h : (ar n.1).toNat ≤ Q.length) : stepA b (g, P ++ Q) n = ((stepA b (g, Q) n).1, P ++ (stepA b (g, Q) n).2) := by
  unfold stepA
  simp only
  have e1 : (P ++ Q).length - (ar n.1).toNat = P.length + (Q.length - (ar n.1).toNat) := by rw [List.length_append]; omega
  rw [e1]
  have e2 : (P ++ Q).drop (P.length + (Q.length - (ar n.1).toNat)) = Q.drop (Q.length - (ar n.1).toNat) := by
    rw [← List.drop_drop, List.drop_left]
  have e3 : (P ++ Q).take (P.length + (Q.length - (ar n.1).toNat)) = P ++ Q.take (Q.length - (ar n.1).toNat) := by
    rw [List.take_append, List.take_of_length_le (by omega), Nat.add_sub_cancel_left]
  rw [e2, e3, List.append_assoc]
theorem stepA_len (b : Option (List Int)) (Q : List Int) (g : GS) (n : Int × Int) (h : (ar n.1).toNat ≤ Q.length) : (stepA b (g, Q) n).2.length = Q.length - (ar n.1).toNat + 1 := by
  unfold stepA
  simp only [List.length_append, List.length_take, List.length_singleton]
  omega
theorem runA_frame (b : Option (List Int)) (P : List Int) : ∀ (t : List (Int × Int)) (g : GS) (Q : List Int) (q : Int), pile t Q.length = some q → runA b t (g, P ++ Q) = ((runA b t (g, Q)).1, P ++ (runA b t (g, Q)).2) ∧ ((runA b t (g, Q)).2.length : Int) = q
  | [], g, Q, q, h => ⟨rfl, by simp only [pile] at h; exact Option.some.inj h⟩
  | (op, n) :: t, g, Q, q, h => by
    simp only [pile] at h
    split at h
    · rename_i hf
      obtain ⟨a1, a2, _⟩ := fits_iff _ _ _ _ hf
      have hle : (ar op).toNat ≤ Q.length := by omega
      have hl := stepA_len b Q g (op, n) hle
      have e : (Q.length : Int) + (1 - ar op) = ((stepA b (g, Q) (op, n)).2.length : Int) := by rw [hl]; show _ = (((Q.length - (ar op).toNat + 1 : Nat)) : Int); omega
      rw [e] at h
      have ih := runA_frame b P t (stepA b (g, Q) (op, n)).1 (stepA b (g, Q) (op, n)).2 q h
      have fr := stepA_frame b P Q g (op, n) hle
      show runA b t (stepA b (g, P ++ Q) (op, n)) = ((runA b t (stepA b (g, Q) (op, n))).1, P ++ (runA b t (stepA b (g, Q) (op, n))).2) ∧ ((runA b t (stepA b (g, Q) (op, n))).2.length : Int) = q
      rw [fr]
      exact ih
    · cases h
/-- Variables stand for classes. -/
def BOk (b : Option (List Int)) (g : GS) (t : List (Int × Int)) : Prop := ∀ bs, b = some bs → ∀ n ∈ t, n.1 = 2 → IsCl g (bs.getD n.2.toNat 0)
theorem node_fits {op n p : Int} {m : Nat} (hf : fits (ar op) p op n = true) (hm : (m : Int) = ar op) : nodeOk op n m = true := by
  rw [fits_eq] at hf
  simp only [Bool.and_eq_true, decide_eq_true_eq] at hf
  unfold nodeOk
  rw [hf.1.2, decide_eq_true hf.1.1, decide_eq_true hm]; rfl
theorem stepA_good {b : Option (List Int)} {g : GS} {Q : List Int} {n : Int × Int} (h : GoodG g) (hQ : ∀ c ∈ Q, IsCl g c) (hf : fits (ar n.1) Q.length n.1 n.2 = true) (hb : BOk b g [n]) :
    GoodG (stepA b (g, Q) n).1 ∧ (∀ c ∈ (stepA b (g, Q) n).2, IsCl (stepA b (g, Q) n).1 c) ∧ (∀ c, IsCl g c → IsCl (stepA b (g, Q) n).1 c) ∧ g.1.length ≤ (stepA b (g, Q) n).1.1.length := by
  obtain ⟨a1, a2, _⟩ := fits_iff _ _ _ _ hf
  obtain ⟨op, N⟩ := n
  simp only at hf a1 a2
  have hlen : (Q.drop (Q.length - (ar op).toNat)).length = (ar op).toNat := by rw [List.length_drop]; omega
  have hput := putL_good h (x := (op, N, Q.drop (Q.length - (ar op).toNat))) (by simp only; exact node_fits hf (by rw [hlen]; omega)) (fun c hc => hQ c (List.mem_of_mem_drop hc))
  have key : GoodG (classA b g (op, N) (Q.drop (Q.length - (ar op).toNat))).1 ∧ IsCl (classA b g (op, N) (Q.drop (Q.length - (ar op).toNat))).1 (classA b g (op, N) (Q.drop (Q.length - (ar op).toNat))).2 ∧ (∀ c, IsCl g c → IsCl (classA b g (op, N) (Q.drop (Q.length - (ar op).toNat))).1 c) ∧ g.1.length ≤ (classA b g (op, N) (Q.drop (Q.length - (ar op).toNat))).1.1.length := by
    unfold classA
    cases b with
    | none => exact hput
    | some bs =>
      simp only
      by_cases e : op = 2
      · rw [if_pos e]
        exact ⟨h, hb bs rfl (op, N) (List.mem_singleton.2 rfl) e, fun c hc => hc, Nat.le_refl _⟩
      · rw [if_neg e]; exact hput
  refine ⟨key.1, fun c hc => ?_, key.2.2.1, key.2.2.2⟩
  have hc' : c ∈ Q.take (Q.length - (ar op).toNat) ++ [(classA b g (op, N) (Q.drop (Q.length - (ar op).toNat))).2] := hc
  rcases List.mem_append.1 hc' with h1 | h1
  · exact key.2.2.1 c (hQ c (List.mem_of_mem_take h1))
  · rw [List.mem_singleton.1 h1]; exact key.2.1
theorem BOk.step {b : Option (List Int)} {g g' : GS} {t u : List (Int × Int)} (h : BOk b g t) (hs : ∀ n ∈ u, n ∈ t) (hc : ∀ c, IsCl g c → IsCl g' c) : BOk b g' u := fun bs e n hn h2 => hc _ (h bs e n (hs n hn) h2)
theorem runA_good {b : Option (List Int)} : ∀ (t : List (Int × Int)) (g : GS) (Q : List Int) (q : Int), pile t Q.length = some q → GoodG g → (∀ c ∈ Q, IsCl g c) → BOk b g t →
    GoodG (runA b t (g, Q)).1 ∧ (∀ c ∈ (runA b t (g, Q)).2, IsCl (runA b t (g, Q)).1 c) ∧ (∀ c, IsCl g c → IsCl (runA b t (g, Q)).1 c) ∧ g.1.length ≤ (runA b t (g, Q)).1.1.length
  | [], g, Q, q, _, h, hQ, _ => ⟨h, hQ, fun c hc => hc, Nat.le_refl _⟩
  | (op, n) :: t, g, Q, q, hp, h, hQ, hb => by
    simp only [pile] at hp
    split at hp
    · rename_i hf
      obtain ⟨a1, a2, _⟩ := fits_iff _ _ _ _ hf
      have hle : (ar op).toNat ≤ Q.length := by omega
      have hl := stepA_len b Q g (op, n) hle
      have e : (Q.length : Int) + (1 - ar op) = ((stepA b (g, Q) (op, n)).2.length : Int) := by rw [hl]; show _ = (((Q.length - (ar op).toNat + 1 : Nat)) : Int); omega
      rw [e] at hp
      have st := stepA_good (n := (op, n)) h hQ hf (hb.step (u := [(op, n)]) (fun x hx => by rw [List.mem_singleton.1 hx]; exact List.mem_cons_self ..) (fun c hc => hc))
      have ih := runA_good t (stepA b (g, Q) (op, n)).1 (stepA b (g, Q) (op, n)).2 q hp st.1 st.2.1 (hb.step (fun x hx => List.mem_cons_of_mem _ hx) st.2.2.1)
      exact ⟨ih.1, ih.2.1, fun c hc => ih.2.2.1 c (st.2.2.1 c hc), Nat.le_trans st.2.2.2 ih.2.2.2⟩
    · cases hp
/-- Where the j-th part of a node ends. -/
def endAt (l : List (Int × Int)) (m x j : Nat) : Nat := if j = 0 then back l m x else (roots l m x).getD (j - 1) 0 + 1
theorem roots_last (l : List (Int × Int)) (m x : Nat) : (roots l (m + 1) x).getD m 0 = x - 1 := by
  show (roots l m (start l (x - 1)) ++ [x - 1]).getD m 0 = _
  rw [List.getD_eq_getElem?_getD, List.getElem?_append_right (by rw [roots_len]; exact Nat.le_refl _), roots_len, Nat.sub_self]; rfl
theorem roots_old (l : List (Int × Int)) (m x : Nat) {j : Nat} (hj : j < m) : (roots l (m + 1) x).getD j 0 = (roots l m (start l (x - 1))).getD j 0 := by
  show (roots l m (start l (x - 1)) ++ [x - 1]).getD j 0 = _
  exact getD_old _ _ _ (by rw [roots_len]; exact hj)
theorem endAt_old (l : List (Int × Int)) (m x : Nat) {j : Nat} (hj : j ≤ m) : endAt l (m + 1) x j = endAt l m (start l (x - 1)) j := by
  unfold endAt
  by_cases e : j = 0
  · rw [if_pos e, if_pos e]; rfl
  · rw [if_neg e, if_neg e, roots_old l m x (by omega)]
theorem roots_chain {l : List (Int × Int)} {q : Int} (h : pile l 0 = some q) : ∀ (m x : Nat), x ≤ l.length → (m : Int) ≤ cnt l x → endAt l m x m = x ∧ ∀ j, j < m → start l ((roots l m x).getD j 0) = endAt l m x j ∧ endAt l m x j ≤ (roots l m x).getD j 0 ∧ (roots l m x).getD j 0 < x
  | 0, x, _, _ => ⟨rfl, fun j hj => absurd hj (Nat.not_lt_zero _)⟩
  | m + 1, x, hx, hm => by
    have hx0 : 0 < x := by
      rcases Nat.eq_zero_or_pos x with h0 | h0
      · subst h0; rw [cnt_zero] at hm; omega
      · exact h0
    have b1 := start_le h (x - 1) (by omega)
    have b2 := start_cnt h (x - 1) (by omega)
    rw [show x - 1 + 1 = x from by omega] at b2
    have ih := roots_chain h m (start l (x - 1)) (by omega) (by omega)
    refine ⟨?_, fun j hj => ?_⟩
    · unfold endAt
      rw [if_neg (by omega), show m + 1 - 1 = m from rfl, roots_last]; omega
    · rw [endAt_old l m x (by omega)]
      by_cases e : j = m
      · subst e
        rw [roots_last, ih.1]; exact ⟨rfl, b1, by omega⟩
      · rw [roots_old l m x (by omega)]
        have := ih.2 j (by omega)
        exact ⟨this.1, this.2.1, by omega⟩
/-- A tree's piece of the term, on a pile. -/
theorem seg_pile {l : List (Int × Int)} {q : Int} (h : pile l 0 = some q) : ∀ K,
    (∀ k, k < K → k < l.length → ∀ (p : Int), 0 ≤ p → pile (seg l (start l k) (k + 1)) p = some (p + 1)) := by
  intro K
  induction K with
  | zero => intro k hk; omega
  | succ K ih =>
    have forest : ∀ (m x : Nat), x ≤ K → x ≤ l.length → (m : Int) ≤ cnt l x → ∀ (p : Int), 0 ≤ p → pile (seg l (back l m x) x) p = some (p + m) := by
      intro m
      induction m with
      | zero =>
        intro x _ _ _ p hp
        show pile (seg l x x) p = _
        rw [seg_self]
        simp [pile]
      | succ m ihm =>
        intro x hx hxl hm p hp
        have hx0 : 0 < x := by
          rcases Nat.eq_zero_or_pos x with h0 | h0
          · subst h0; rw [cnt_zero] at hm; omega
          · exact h0
        have b1 := start_le h (x - 1) (by omega)
        have b2 := start_cnt h (x - 1) (by omega)
        rw [show x - 1 + 1 = x from by omega] at b2
        have b3 := back_le h m (start l (x - 1)) (by omega) (by omega)
        rw [back_succ, seg_append l _ (start l (x - 1)) x b3.1 (by omega)]
        have f1 := ihm (start l (x - 1)) (by omega) (by omega) (by omega) p hp
        have t1 := ih (x - 1) (by omega) (by omega) (p + m) (by omega)
        rw [show x - 1 + 1 = x from by omega] at t1
        rw [pile_append, f1]
        show pile _ (p + m) = _
        rw [t1]
        congr 1
        omega
    intro k hk hl p hp
    by_cases hkK : k < K
    · exact ih k hkK hl p hp
    obtain rfl : k = K := by omega
    obtain ⟨h1, h2⟩ := cnt_step h k hl
    obtain ⟨a1, a2, a3, a4⟩ := fits_iff _ _ _ _ h1
    obtain ⟨m, hm⟩ : ∃ m : Nat, ar (l.getD k (0, 0)).1 = m := ⟨(ar (l.getD k (0, 0)).1).toNat, by omega⟩
    have hst := start_eq h k hl
    rw [hm, Int.toNat_natCast] at hst
    have b3 := back_le h m k (by omega) (by omega)
    have f1 := forest m k (Nat.le_refl _) (by omega) (by omega) p hp
    rw [hst, seg_append l _ k (k + 1) b3.1 (by omega), seg_one l k hl, pile_append, f1]
    show pile [l.getD k (0, 0)] (p + m) = _
    have hf := fits_up h1 (show ar (l.getD k (0, 0)).1 ≤ p + m by omega)
    clear h1 h2 a1 a2 a3 a4
    generalize l.getD k (0, 0) = x at hf hm ⊢
    obtain ⟨op, n⟩ := x
    simp only [pile]
    simp only at hf hm
    rw [if_pos hf, hm]
    congr 1
    omega
/-- What the tree of node k comes to. -/
def treeA (b : Option (List Int)) (t : List (Int × Int)) (g : GS) (k : Nat) : GS × List Int := runA b (seg t (start t k) (k + 1)) (g, [])
def kidsA (b : Option (List Int)) (t : List (Int × Int)) (g : GS) (k j : Nat) : GS × List Int := runA b (seg t (start t k) (endAt t (ar (t.getD k (0, 0)).1).toNat k j)) (g, [])
theorem treeA_len {t : List (Int × Int)} {q : Int} (h : pile t 0 = some q) (b : Option (List Int)) (g : GS) {k : Nat} (hk : k < t.length) : ∃ c, treeA b t g k = ((treeA b t g k).1, [c]) := by
  have hp := seg_pile h (k + 1) k (by omega) hk 0 (Int.le_refl _)
  have := (runA_frame b [] _ g [] _ hp).2
  have hl : (treeA b t g k).2.length = 1 := by unfold treeA; omega
  match e : (treeA b t g k).2, hl with
  | [c], _ => exact ⟨c, by rw [← e]⟩
theorem chain_of {t : List (Int × Int)} {q : Int} (h : pile t 0 = some q) {k : Nat} (hk : k < t.length) : endAt t (ar (t.getD k (0, 0)).1).toNat k (ar (t.getD k (0, 0)).1).toNat = k ∧ endAt t (ar (t.getD k (0, 0)).1).toNat k 0 = start t k ∧ ∀ j, j < (ar (t.getD k (0, 0)).1).toNat → start t ((roots t (ar (t.getD k (0, 0)).1).toNat k).getD j 0) = endAt t (ar (t.getD k (0, 0)).1).toNat k j ∧ endAt t (ar (t.getD k (0, 0)).1).toNat k j ≤ (roots t (ar (t.getD k (0, 0)).1).toNat k).getD j 0 ∧ (roots t (ar (t.getD k (0, 0)).1).toNat k).getD j 0 < k := by
  obtain ⟨h1, h2⟩ := cnt_step h k hk
  obtain ⟨a1, a2, _⟩ := fits_iff _ _ _ _ h1
  have := roots_chain h (ar (t.getD k (0, 0)).1).toNat k (by omega) (by omega)
  exact ⟨this.1, by unfold endAt; rw [if_pos rfl, start_eq h k hk], this.2⟩
theorem endAt_ge {t : List (Int × Int)} {q : Int} (h : pile t 0 = some q) {k : Nat} (hk : k < t.length) : ∀ j, j ≤ (ar (t.getD k (0, 0)).1).toNat → start t k ≤ endAt t (ar (t.getD k (0, 0)).1).toNat k j
  | 0, _ => by rw [(chain_of h hk).2.1]; exact Nat.le_refl _
  | j + 1, hj => by
    have c := (chain_of h hk).2.2 j (by omega)
    have ih := endAt_ge h hk j (by omega)
    have : endAt t (ar (t.getD k (0, 0)).1).toNat k (j + 1) = (roots t (ar (t.getD k (0, 0)).1).toNat k).getD j 0 + 1 := by unfold endAt; rw [if_neg (by omega)]; rfl
    omega
theorem kidsA_zero {t : List (Int × Int)} {q : Int} (h : pile t 0 = some q) (b : Option (List Int)) (g : GS) {k : Nat} (hk : k < t.length) : kidsA b t g k 0 = (g, []) := by
  unfold kidsA
  rw [(chain_of h hk).2.1, seg_self]; rfl
/-- One part more. -/
theorem kidsA_succ {t : List (Int × Int)} {q : Int} (h : pile t 0 = some q) (b : Option (List Int)) (g : GS) {k : Nat} (hk : k < t.length) {j : Nat} (hj : j < (ar (t.getD k (0, 0)).1).toNat) {g1 : GS} {ks : List Int} (e : kidsA b t g k j = (g1, ks)) {g2 : GS} {c : Int} (e2 : treeA b t g1 ((roots t (ar (t.getD k (0, 0)).1).toNat k).getD j 0) = (g2, [c])) : kidsA b t g k (j + 1) = (g2, ks ++ [c]) := by
  have ch := (chain_of h hk).2.2 j hj
  have hge := endAt_ge h hk j (by omega)
  unfold kidsA at e ⊢
  have es : endAt t (ar (t.getD k (0, 0)).1).toNat k (j + 1) = (roots t (ar (t.getD k (0, 0)).1).toNat k).getD j 0 + 1 := by unfold endAt; rw [if_neg (by omega)]; rfl
  rw [es, seg_append t _ (endAt t (ar (t.getD k (0, 0)).1).toNat k j) _ hge (by omega), runA_append, e]
  unfold treeA at e2
  rw [ch.1] at e2
  have hp := seg_pile h k _ ch.2.2 (by omega) 0 (Int.le_refl _)
  rw [ch.1] at hp
  have fr := (runA_frame b ks _ g1 [] _ hp).1
  rw [List.append_nil] at fr
  rw [fr, e2]
/-- The node itself. -/
theorem treeA_node {t : List (Int × Int)} {q : Int} (h : pile t 0 = some q) (b : Option (List Int)) (g : GS) {k : Nat} (hk : k < t.length) {g1 : GS} {ks : List Int} (e : kidsA b t g k (ar (t.getD k (0, 0)).1).toNat = (g1, ks)) : treeA b t g k = ((classA b g1 (t.getD k (0, 0)) ks).1, [(classA b g1 (t.getD k (0, 0)) ks).2]) ∧ ks.length = (ar (t.getD k (0, 0)).1).toNat := by
  have ch := chain_of h hk
  have hst := start_le h k hk
  unfold kidsA at e
  rw [ch.1] at e
  unfold treeA
  have hlen : ks.length = (ar (t.getD k (0, 0)).1).toNat := by
    obtain ⟨h1, h2⟩ := cnt_step h k hk
    obtain ⟨a1, a2, _⟩ := fits_iff _ _ _ _ h1
    have hp := seg_pile h (k + 1) k (by omega) hk 0 (Int.le_refl _)
    rw [seg_append t _ k (k + 1) hst (by omega), pile_append] at hp
    cases hq : pile (seg t (start t k) k) 0 with
    | none => rw [hq] at hp; cases hp
    | some r =>
      rw [hq] at hp
      have := (runA_frame b [] _ g [] _ hq).2
      rw [e] at this
      simp only at this
      have hp' : pile (seg t k (k + 1)) r = some (0 + 1) := hp
      rw [seg_one t k hk] at hp'
      generalize t.getD k (0, 0) = x at hp' a1
      obtain ⟨op, n⟩ := x
      simp only [pile] at hp'
      split at hp'
      · have := Option.some.inj hp'
        simp only at a1 ⊢
        omega
      · cases hp'
  refine ⟨?_, hlen⟩
  rw [seg_append t _ k (k + 1) hst (by omega), runA_append, e, seg_one t k hk]
  show stepA b (g1, ks) _ = _
  unfold stepA
  simp only
  rw [hlen, Nat.sub_self, List.drop_zero, List.take_zero, List.nil_append]
theorem treeA_root {t : List (Int × Int)} (hg : goodB t = true) (b : Option (List Int)) (g : GS) : treeA b t g (t.length - 1) = runA b t (g, []) := by
  obtain ⟨h, h1, _⟩ := good_pile hg
  unfold treeA
  rw [start_root h h1, show t.length - 1 + 1 = t.length from by omega, seg_all]
end Go.Proofs.YtobgkfpjokfbaaaGreatDoor
namespace Go.Proofs.YtobgkfpjokfbaaaGreatDoor
open Go.ChangeShapes Go.WideShapes Go.ChangeAt Go.RowKit
set_option linter.unusedVariables false

/-- What marking leaves. -/
def marksI (k len : Nat) : List Int := (List.range len).map fun i => ((k + i : Nat) : Int)
theorem marksI_len (k len : Nat) : (marksI k len).length = len := by simp [marksI]
theorem marksI_get (k len i : Nat) (h : i < len) : (marksI k len).getD i 0 = ((k + i : Nat) : Int) := by
  simp [marksI, List.getD_eq_getElem?_getD, h]
/-- A row of one's own: it may be written. -/
def MineI (w : World) (b len : Nat) : Prop := b < w.heap.size ∧ ∀ i, i < len → (∃ v, w.cell? ⟨b, i, none⟩ = some v) ∧ w.frozen? ⟨b, i, none⟩ = false
theorem MineI.of {w : World} {base e n g cap : Nat} {l : List Int} (h : w.ownsRow base e 1 (.slice (some ⟨g, 0, none⟩) n cap) n (vals l)) : MineI w g n := by
  have hl : l.length = n := by have := h.1; rw [vals_len] at this; omega
  refine ⟨owns_lt h, fun i hi => ⟨?_, ?_⟩⟩
  · rw [h.cellAt i (by omega)]
    exact ⟨_, List.getElem?_eq_getElem (by rw [vals_len]; omega)⟩
  · exact h.frozenAt i
theorem one_set (wr : World) (b p : Nat) (u : Value) (c1 : ∃ x, wr.cell? ⟨b, p, none⟩ = some x) :
    (wr.setCell ⟨b, p, none⟩ u).cell? ⟨b, p, none⟩ = some u ∧ (∀ i, i ≠ p → (wr.setCell ⟨b, p, none⟩ u).cell? ⟨b, i, none⟩ = wr.cell? ⟨b, i, none⟩) ∧ (∀ i, (wr.setCell ⟨b, p, none⟩ u).frozen? ⟨b, i, none⟩ = wr.frozen? ⟨b, i, none⟩) := by
  obtain ⟨x1, c1⟩ := c1
  refine ⟨World.cell?_setCell_same _ _ _ c1, fun i hp => ?_, fun i => by simp [go_sem]⟩
  have m1 : (⟨b, p, none⟩ : Addr) ≠ ⟨b, i, none⟩ := by intro e; injection e with _ e2 _; omega
  rw [World.cell?_setCell_other _ _ _ _ m1]
theorem grown_setI {w wr : World} {b : Nat} (h : w.grownBy wr (some b)) (p : Nat) (u : Value) : w.grownBy (wr.setCell ⟨b, p, none⟩ u) (some b) :=
  ⟨h.os, h.tape, h.output, by have := h.size; simpa [World.setCell] using this, fun i hi hne => (Below.heap_setCell _ _ _ _ (fun e => hne (by rw [e]))).trans (h.block i hi hne)⟩
theorem markI_any (b len cap k : Nat) (w : World) (h : MineI w b len) (hn : len ≤ 1048576) (hk : k ≤ 16777216) :
    Calls Tryz.prog 36 #[.slice (some ⟨b, 0, none⟩) len cap, .int .i64 k] w fun e w' => e = .returned (.int .i64 (k + len : Nat)) ∧ w.grownBy w' (some b) ∧ Sl w' (some ⟨b, 0, none⟩) len (marksI k len) := by
  obtain ⟨hb, hm⟩ := h
  go_enter Tryz.func36, Tryz.ntmps36
  go_wp2
  go_loopw [1, 5] (fun x i wr => ∃ (j : Nat), j ≤ len ∧ i = .int .i64 j ∧ x = .int .i64 (k + j : Nat) ∧ w.grownBy wr (some b) ∧ Hid (∀ i, i < len → (∃ v, wr.cell? ⟨b, i, none⟩ = some v) ∧ wr.frozen? ⟨b, i, none⟩ = false) ∧ Hid (∀ i, i < j → wr.cell? ⟨b, i, none⟩ = some (.int .i64 (k + i : Nat)))) (fun _ i _ => len - (intOf i).toNat)
  case atStart => exact ⟨0, Nat.zero_le _, rfl, rfl, World.grownBy.refl _ _, hm, fun i hi => absurd hi (Nat.not_lt_zero _)⟩
  case round =>
    obtain ⟨j, hj, rfl, rfl, hg, hmr, hdone⟩ := hrel
    clear hm
    by_cases hlt : j < len
    · obtain ⟨⟨v1, c1⟩, f1⟩ := hmr.out j hlt
      have HR : Hid (w.grownBy (wr.setCell ⟨b, j, none⟩ (.int .i64 ((k : Int) + j))) (some b) ∧ (∀ i, i < len → (∃ v, (wr.setCell ⟨b, j, none⟩ (.int .i64 ((k : Int) + j))).cell? ⟨b, i, none⟩ = some v) ∧ (wr.setCell ⟨b, j, none⟩ (.int .i64 ((k : Int) + j))).frozen? ⟨b, i, none⟩ = false) ∧ (∀ i, i < j + 1 → (wr.setCell ⟨b, j, none⟩ (.int .i64 ((k : Int) + j))).cell? ⟨b, i, none⟩ = some (.int .i64 (k + i : Nat)))) := by
        obtain ⟨t1, t2, t3⟩ := one_set wr b j (.int .i64 ((k : Int) + j)) ⟨_, c1⟩
        refine ⟨grown_setI hg _ _, fun i hi => ⟨?_, by rw [t3]; exact (hmr.out i hi).2⟩, fun i hi => ?_⟩
        · by_cases e : i = j
          · subst e; exact ⟨_, t1⟩
          · rw [t2 i e]; exact (hmr.out i hi).1
        · by_cases e : i = j
          · subst e; rw [t1]; go_num
          · rw [t2 i e]; exact hdone.out i (by omega)
      clear hdone hg hmr
      go_wp2
      go_roundw
      case rel => exact ⟨j + 1, by omega, by go_num, by go_num, HR.out.1, HR.out.2.1, HR.out.2.2⟩
      case measure => simp [intOf]; omega
    · obtain rfl : j = len := by omega
      go_wp2
      go_ret
      refine ⟨rfl, hg, marksI_len _ _, ?_⟩
      by_cases h0 : j = 0
      · exact .inl h0
      · exact .inr ⟨b, 0, rfl, Nat.lt_of_lt_of_le hb hg.size, fun i hi => by rw [marksI_get _ _ _ hi, Nat.zero_add]; exact hdone.out i hi⟩
end Go.Proofs.YtobgkfpjokfbaaaGreatDoor
namespace Go.Proofs.YtobgkfpjokfbaaaGreatDoor
open Go.ChangeShapes Go.WideShapes Go.ChangeAt Go.RowKit
set_option linter.unusedVariables false

theorem copyI5_any (a : Option Addr) (len cap : Nat) (l : List Int) (w : World) (h : Sl w a len l) (hn : len ≤ 1048576) :
    Calls Tryz.prog 26 #[.slice a len cap] w fun e w' => e = .returned (.slice (some ⟨w.heap.size, 0, none⟩) len len) ∧ Below w.heap.size w w' ∧ w.heap.size < w'.heap.size ∧ (∀ i, i < len → w'.cell? ⟨w.heap.size, i, none⟩ = some (.int .i64 (l.getD i 0)) ∧ w'.frozen? ⟨w.heap.size, i, none⟩ = false) := by
  obtain ⟨i0, hi, hz0, hz1, hz2⟩ := info_parts infoInt
  obtain ⟨hlen, hsl⟩ := h
  go_enter Tryz.func26, Tryz.ntmps26
  go_wp2_with (at_make; refine wpList_make_full _ rfl _ _ 23 rfl w.heap.size 3 i0 (.int .i64 0) 1 Tryz.underlying23 hi hz0 hz1 _ _ _ _ len rfl rfl rfl rfl (by rw [hz2]; omega) (by unfold maxLen; omega) (Nat.le_refl _) ?_; intro w1 hown hgrow)
  have hb1 : Below w.heap.size w w1 := (Below.refl _ _).grown hgrow (Nat.le_refl _) (fun k hk => by cases hk)
  clear hgrow
  go_loopw [4] (fun i wr => ∃ (k : Nat) (xs : List Value), k ≤ len ∧ i = .int .i64 k ∧ wr.ownsRow w.heap.size 3 1 (.slice (some ⟨w.heap.size, 0, none⟩) len len) len xs ∧ Hid (∀ j, j < k → xs[j]? = some (.int .i64 (l.getD j 0))) ∧ Below w.heap.size w wr) (fun i _ => len - (intOf i).toNat)
  case atStart => exact ⟨0, _, Nat.zero_le _, rfl, hown, fun j hj => absurd hj (Nat.not_lt_zero _), hb1⟩
  case round =>
    obtain ⟨k, xs, hk, rfl, howr, hx, hbr⟩ := hrel
    clear hown hb1
    by_cases hlt : k < len
    · obtain ⟨b, off, rfl, hbl, hc⟩ : ∃ b off, a = some ⟨b, off, none⟩ ∧ b < w.heap.size ∧ ∀ i, i < len → w.cell? ⟨b, off + i, none⟩ = some (.int .i64 (l.getD i 0)) := by
        rcases hsl with h0 | h0
        · omega
        · exact h0
      have hck : wr.cell? ⟨b, off + k, none⟩ = some (.int .i64 (l.getD k 0)) := (hbr.cell (p := ⟨b, off + k, none⟩) hbl).trans (hc k hlt)
      have hfr := howr.frozenAt k
      have hcg := howr.cellAt k (by omega)
      have hst := howr.stored k (.int .i64 (l.getD k 0))
      have R : Hid (∃ xs', (wr.setCell ⟨w.heap.size, k, none⟩ (.int .i64 (l.getD k 0))).ownsRow w.heap.size 3 1 (.slice (some ⟨w.heap.size, 0, none⟩) len len) len xs' ∧ (∀ j, j < k + 1 → xs'[j]? = some (.int .i64 (l.getD j 0))) ∧ Below w.heap.size w (wr.setCell ⟨w.heap.size, k, none⟩ (.int .i64 (l.getD k 0)))) := by
        refine ⟨_, hst.1, fun j hj => ?_, hbr.setCell (Nat.le_refl _) _⟩
        rw [List.getElem?_set]
        by_cases e : k = j
        · subst e
          rw [if_pos rfl, if_pos (by have := howr.1; omega)]
        · rw [if_neg e]; exact hx.out j (by omega)
      obtain ⟨y, hxk⟩ : ∃ y, xs[k]? = some y := ⟨_, List.getElem?_eq_getElem (by have := howr.1; omega)⟩
      rw [hxk] at hcg
      clear hst hc howr hx hxk
      generalize l.getD k 0 = z at hck R
      go_wp2
      go_roundw
      case rel =>
        obtain ⟨xs', r1, r2, r3⟩ := R.out
        exact ⟨k + 1, xs', by omega, by go_num, r1, r2, r3⟩
      case measure => simp [intOf]; omega
    · go_wp2
      obtain rfl : k = len := by omega
      go_ret
      refine ⟨rfl, hbr, owns_lt howr, fun i hi => ⟨?_, howr.frozenAt i⟩⟩
      rw [howr.cellAt i (by omega)]
      exact hx.out i hi
theorem MineI.keep {w w' : World} {b len : Nat} (h : MineI w b len) (hb : Below w.heap.size w w') : MineI w' b len := by
  refine ⟨Nat.lt_of_lt_of_le h.1 hb.size, fun i hi => ?_⟩
  have e := hb.block b h.1
  obtain ⟨⟨v, hv⟩, hf⟩ := h.2 i hi
  exact ⟨⟨v, by rw [← hv]; simp only [World.cell?, e]⟩, by rw [← hf]; simp only [World.frozen?, e]⟩
theorem copyI_mine (a : Option Addr) (len cap : Nat) (l : List Int) (w : World) (h : Sl w a len l) (hn : len ≤ 1048576) :
    Calls Tryz.prog 26 #[.slice a len cap] w fun e w' => e = .returned (.slice (some ⟨w.heap.size, 0, none⟩) len len) ∧ Below w.heap.size w w' ∧ Sl w' (some ⟨w.heap.size, 0, none⟩) len l ∧ MineI w' w.heap.size len := by
  refine (copyI5_any a len cap l w h hn).mono ?_
  rintro e w' ⟨rfl, hb, hlt, hc⟩
  exact ⟨rfl, hb, ⟨h.1, .inr ⟨w.heap.size, 0, rfl, hlt, fun i hi => by rw [Nat.zero_add]; exact (hc i hi).1⟩⟩, hlt, fun i hi => ⟨⟨_, (hc i hi).1⟩, (hc i hi).2⟩⟩
end Go.Proofs.YtobgkfpjokfbaaaGreatDoor
