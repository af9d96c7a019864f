/-
  PROVED HERE: the program's way of closing parts, as steps on lists alone: what is due is of one shape, what is found is of its shape, and where nothing is due nodes of one shape are of one part. No condition. how many steps the closing of parts takes: each joining takes a part away, and what it makes due is no more than the users of that part. No condition.
-/
import Derived.Test.YthkjmgjajmghmaaDoorRun7
namespace Go.Proofs.YthkjmgjajmghmaaDoor
set_option linter.unusedVariables false

abbrev FD := (Sh → Option Int) × List (Int × Int)
/-- What is found and what is due behind the placing of a node. -/
def placeL (p : List EN) (l : List Int) (S : FD) (k : Int) : FD :=
  match S.1 (shO l (p.getD k.toNat e0)) with
  | some o => (S.1, S.2 ++ [(k, o)])
  | none => (setS S.1 (shO l (p.getD k.toNat e0)) (some k), S.2)
/-- One more user of the part of a kid. -/
def addU (l : List Int) (k : Int) (U : Nat → List Int) (c : Int) : Nat → List Int := fun y => if (y : Int) = l.getD c.toNat 0 then U y ++ [k] else U y
def usersK (p : List EN) (l : List Int) : Nat → Nat → List Int
  | 0 => fun _ => []
  | k + 1 => (p.getD k e0).2.2.foldl (addU l k) (usersK p l k)
def stateK (p : List EN) (l : List Int) : Nat → FD
  | 0 => (fun _ => none, [])
  | k + 1 => placeL p l (stateK p l k) k
def dropF (p : List EN) (l : List Int) (f : Sh → Option Int) (us : List Int) : Sh → Option Int := us.foldl (fun f u => setS f (shO l (p.getD u.toNat e0)) none) f
def moveU (U : Nat → List Int) (least gone : Int) : Nat → List Int := fun y => if (y : Int) = least then U y ++ U gone.toNat else U y

/-- Of one part in all coarser parts in which what is due is of one. -/
def Conn (n : Nat) (l : List Int) (D : List (Int × Int)) (i j : Nat) : Prop := ∀ m, PartsN n m → FinerL l m → (∀ x ∈ D, m.getD x.1.toNat 0 = m.getD x.2.toNat 0) → m.getD i 0 = m.getD j 0
structure Inv (p : List EN) (l0 l : List Int) (S : FD) (P : Nat → Prop) : Prop where
  tw : Toward p l0 l
  fnd : ∀ e v, S.1 e = some v → ∃ k : Nat, v = k ∧ k < p.length ∧ shO l (p.getD k e0) = e
  con : ∀ k, P k → k < p.length → ∃ v : Nat, S.1 (shO l (p.getD k e0)) = some (v : Int) ∧ Conn p.length l S.2 k v
  due : ∀ x ∈ S.2, ∃ i j : Nat, x = ((i : Int), (j : Int)) ∧ i < p.length ∧ j < p.length ∧ shO l (p.getD i e0) = shO l (p.getD j e0)
structure Users (p : List EN) (l : List Int) (U : Nat → List Int) (K : Nat) : Prop where
  mem : ∀ y, ∀ v ∈ U y, ∃ k : Nat, v = k ∧ k < K
  all : ∀ k, k < K → ∀ j, j < (p.getD k e0).2.2.length → ∀ y : Nat, l.getD ((p.getD k e0).2.2.getD j 0).toNat 0 = (y : Int) → (k : Int) ∈ U y
  only : ∀ y : Nat, y < p.length → l.getD y 0 = y → ∀ k : Nat, (k : Int) ∈ U y → ∃ j, j < (p.getD k e0).2.2.length ∧ l.getD ((p.getD k e0).2.2.getD j 0).toNat 0 = (y : Int)
theorem Conn.mono {n : Nat} {l : List Int} {D D' : List (Int × Int)} {i j : Nat} (h : Conn n l D i j) (hd : ∀ x ∈ D, x ∈ D') : Conn n l D' i j := fun m h1 h2 h3 => h m h1 h2 fun x hx => h3 x (hd x hx)

theorem inv_place {p : List EN} {l0 l : List Int} {S : FD} {P : Nat → Prop} (h : Inv p l0 l S P) {k : Nat} (hk : k < p.length) : Inv p l0 l (placeL p l S k) (fun x => P x ∨ x = k) := by
  obtain ⟨tw, fnd, con, due⟩ := h
  unfold placeL
  rw [Int.toNat_natCast]
  cases hf : S.1 (shO l (p.getD k e0)) with
  | some o =>
    obtain ⟨v, rfl, hv, hs⟩ := fnd _ _ hf
    simp only
    refine ⟨tw, fnd, fun x hx hxn => ?_, fun x hx => ?_⟩
    · rcases hx with hx | rfl
      · obtain ⟨u, h1, h2⟩ := con x hx hxn
        exact ⟨u, h1, h2.mono fun y hy => List.mem_append_left _ hy⟩
      · refine ⟨v, hf, fun m h1 h2 h3 => ?_⟩
        have := h3 ((x : Int), (v : Int)) (List.mem_append_right _ (by simp))
        simpa using this
    · rcases List.mem_append.1 hx with hx | hx
      · exact due x hx
      · rw [List.mem_singleton] at hx
        exact ⟨k, v, hx, hk, hv, hs.symm⟩
  | none =>
    simp only
    refine ⟨tw, fun e v he => ?_, fun x hx hxn => ?_, due⟩
    · simp only [setS] at he
      split at he
      · rename_i e1
        cases he
        exact ⟨k, rfl, hk, e1.symm⟩
      · exact fnd e v he
    · rcases hx with hx | rfl
      · obtain ⟨u, h1, h2⟩ := con x hx hxn
        refine ⟨u, ?_, h2⟩
        simp only [setS]
        rw [if_neg (fun e1 => by rw [e1, hf] at h1; cases h1)]
        exact h1
      · exact ⟨x, by simp [setS], fun m _ _ _ => rfl⟩
theorem inv_places {p : List EN} {l0 l : List Int} (us : List Int) : ∀ {S : FD} {P : Nat → Prop}, Inv p l0 l S P → (∀ v ∈ us, ∃ k : Nat, v = k ∧ k < p.length) → Inv p l0 l (us.foldl (placeL p l) S) (fun x => P x ∨ (x : Int) ∈ us) := by
  induction us with
  | nil => intro S P h _; exact ⟨h.tw, h.fnd, fun k hk hn => h.con k (by rcases hk with hk | hk; exact hk; cases hk) hn, h.due⟩
  | cons u us ih =>
    intro S P h hu
    obtain ⟨k, rfl, hk⟩ := hu u (List.mem_cons_self ..)
    have := ih (inv_place h hk) fun v hv => hu v (List.mem_cons_of_mem _ hv)
    refine ⟨this.tw, this.fnd, fun x hx hn => this.con x ?_ hn, this.due⟩
    rcases hx with hx | hx
    · exact .inl (.inl hx)
    · rcases List.mem_cons.1 hx with hx | hx
      · exact .inl (.inr (by omega))
      · exact .inr hx
theorem drop_some (p : List EN) (l : List Int) (us : List Int) : ∀ (f : Sh → Option Int) (e : Sh) (v : Int), dropF p l f us e = some v ↔ f e = some v ∧ ∀ u ∈ us, shO l (p.getD u.toNat e0) ≠ e := by
  induction us with
  | nil => intro f e v; simp [dropF]
  | cons u us ih =>
    intro f e v
    have : dropF p l f (u :: us) = dropF p l (setS f (shO l (p.getD u.toNat e0)) none) us := rfl
    rw [this, ih]
    unfold setS
    by_cases h : e = shO l (p.getD u.toNat e0)
    · rw [if_pos h]
      constructor
      · rintro ⟨h1, _⟩; cases h1
      · rintro ⟨_, h2⟩; exact absurd h.symm (h2 u (List.mem_cons_self ..))
    · rw [if_neg h]
      constructor
      · rintro ⟨h1, h2⟩
        refine ⟨h1, fun x hx => ?_⟩
        rcases List.mem_cons.1 hx with rfl | hx
        · exact fun e1 => h e1.symm
        · exact h2 x hx
      · rintro ⟨h1, h2⟩
        exact ⟨h1, fun x hx => h2 x (List.mem_cons_of_mem _ hx)⟩
/-- A shape without the part that is gone stays. -/
theorem sh_stays {p : List EN} (hN : nodesB p = true) {l : List Int} (hl : l.length = p.length) {a b k : Nat} (hk : k < p.length) (h : ∀ j, j < (p.getD k e0).2.2.length → l.getD ((p.getD k e0).2.2.getD j 0).toNat 0 ≠ max (l.getD a 0) (l.getD b 0)) : shO (joinPL l a b) (p.getD k e0) = shO l (p.getD k e0) := by
  have ki := fun t ht => kid_natI (k := k) (j := t) hN hk ht
  revert h ki
  generalize p.getD k e0 = x
  obtain ⟨xo, xn, xk⟩ := x
  intro h ki
  simp only [shO, Prod.mk.injEq, true_and]
  have one : ∀ t, partOf (joinPL l a b) xk t = partOf l xk t := by
    intro t
    unfold partOf
    by_cases ht1 : t < xk.length
    · rw [if_pos ht1, if_pos ht1]
      obtain ⟨c, c1, c2⟩ := ki t ht1
      have := h t ht1
      simp only at c1
      rw [c1, Int.toNat_natCast] at this ⊢
      rw [join_get l a b (by omega), if_neg this]
    · rw [if_neg ht1, if_neg ht1]
  exact ⟨one 0, one 1, one 2⟩
/-- One shape, one list of kids' parts. -/
theorem sh_kid {p : List EN} (hN : nodesB p = true) {l : List Int} {i j : Nat} (hi : i < p.length) (hj : j < p.length) (e : shO l (p.getD i e0) = shO l (p.getD j e0)) {t : Nat} (ht : t < (p.getD i e0).2.2.length) : t < (p.getD j e0).2.2.length ∧ l.getD ((p.getD i e0).2.2.getD t 0).toNat 0 = l.getD ((p.getD j e0).2.2.getD t 0).toNat 0 := by
  have hf := ((nodesB_iff p).1 hN).2
  have fi := fit_node (hf i hi)
  have fj := fit_node (hf j hj)
  have gi := fit_few (hf i hi)
  revert e fi fj gi ht
  generalize p.getD i e0 = x
  generalize p.getD j e0 = y
  obtain ⟨xo, xn, xk⟩ := x
  obtain ⟨yo, yn, yk⟩ := y
  intro e ht fi fj gi
  simp only [shO, Prod.mk.injEq] at e
  simp only at fi fj gi ht ⊢
  obtain ⟨e1, e2, h0, h1, h2⟩ := e
  subst e1
  have hlen : xk.length = yk.length := by omega
  refine ⟨by omega, ?_⟩
  have one : partOf l xk t = partOf l yk t := by
    rcases (show t = 0 ∨ t = 1 ∨ t = 2 by omega) with rfl | rfl | rfl
    · exact h0
    · exact h1
    · exact h2
  unfold partOf at one
  rw [if_pos ht, if_pos (by omega)] at one
  exact one
theorem parts_kid {p : List EN} (hN : nodesB p = true) {l : List Int} (hl : PartsN p.length l) {k j : Nat} (hk : k < p.length) (hj : j < (p.getD k e0).2.2.length) : ∃ y : Nat, l.getD ((p.getD k e0).2.2.getD j 0).toNat 0 = y ∧ y < p.length ∧ l.getD y 0 = y := by
  obtain ⟨c, c1, c2⟩ := kid_natI (k := k) (j := j) hN hk hj
  obtain ⟨a, a1, a2, a3⟩ := part_nat hl (show c < p.length by omega)
  exact ⟨a, by rw [c1, Int.toNat_natCast, a1], by omega, a3⟩

/-- The joining of two parts. -/
theorem inv_join {p : List EN} (hN : nodesB p = true) {l0 l : List Int} (hl0 : l0.length = p.length) {U : Nat → List Int} {f : Sh → Option Int} {D : List (Int × Int)} {i j : Nat} (hi : i < p.length) (hj : j < p.length) (he : shO l (p.getD i e0) = shO l (p.getD j e0)) (hne : l.getD i 0 ≠ l.getD j 0)
    (h : Inv p l0 l (f, D ++ [((i : Int), (j : Int))]) (fun _ => True)) (hU : Users p l U p.length) {g : Nat} (hg : max (l.getD i 0) (l.getD j 0) = (g : Int)) :
    Inv p l0 (joinPL l i j) ((U g).foldl (placeL p (joinPL l i j)) (dropF p l f (U g), D)) (fun _ => True) := by
  obtain ⟨tw, fnd, con, due⟩ := h
  have hP := tw.1
  have hL := hP.1
  obtain ⟨a, a1, a2, a3⟩ := part_nat hP hi
  obtain ⟨b, b1, b2, b3⟩ := part_nat hP hj
  have hgn : g < p.length ∧ l.getD g 0 = g := by
    rcases (show g = a ∨ g = b by omega) with rfl | rfl
    · exact ⟨by omega, a3⟩
    · exact ⟨by omega, b3⟩
  have hno : ∀ k, k < p.length → ¬ (k : Int) ∈ U g → ∀ t, t < (p.getD k e0).2.2.length → l.getD ((p.getD k e0).2.2.getD t 0).toNat 0 ≠ max (l.getD i 0) (l.getD j 0) := fun k hk hn t ht e => hn (hU.all k hk t ht g (e.trans hg))
  have hst : ∀ k, k < p.length → ¬ (k : Int) ∈ U g → shO (joinPL l i j) (p.getD k e0) = shO l (p.getD k e0) := fun k hk hn => sh_stays hN hL hk (hno k hk hn)
  have hbase : Inv p l0 (joinPL l i j) (dropF p l f (U g), D) (fun x => ¬ (x : Int) ∈ U g) := by
    refine ⟨toward_join hN hl0 tw hi hj he, fun e v hv => ?_, fun k hk hn => ?_, fun x hx => ?_⟩
    · obtain ⟨h1, h2⟩ := (drop_some p l (U g) f e v).1 hv
      obtain ⟨k, rfl, hk, hs⟩ := fnd e v h1
      refine ⟨k, rfl, hk, ?_⟩
      rw [hst k hk (fun hm => h2 k hm (by rw [Int.toNat_natCast]; exact hs))]
      exact hs
    · obtain ⟨v, h1, h2⟩ := con k trivial hn
      refine ⟨v, ?_, fun m m1 m2 m3 => ?_⟩
      · rw [hst k hn hk]
        refine (drop_some p l (U g) f _ _).2 ⟨h1, fun u hu e => ?_⟩
        obtain ⟨x, rfl, hx⟩ := hU.mem g u hu
        rw [Int.toNat_natCast] at e
        obtain ⟨t, ht, hte⟩ := hU.only g hgn.1 hgn.2 x hu
        obtain ⟨r1, r2⟩ := sh_kid hN hx hn e ht
        exact hno k hn hk t r1 (by rw [← r2, hte, hg])
      · refine h2 m m1 (finer_trans (n := p.length) hL (by rw [join_len]; exact hL) (joinPL_finer i j) m2) fun x hx => ?_
        rcases List.mem_append.1 hx with hx | hx
        · exact m3 x hx
        · rw [List.mem_singleton] at hx
          subst hx
          simp only [Int.toNat_natCast]
          exact m2 i j (by rw [join_len]; omega) (by rw [join_len]; omega) (joinPL_one hP hi hj)
    · obtain ⟨x1, x2, rfl, h1, h2, h3⟩ := due x (List.mem_append_left _ hx)
      exact ⟨x1, x2, rfl, h1, h2, sh_coarse hN rfl hL (joinPL_finer i j) h1 h2 h3⟩
  have := inv_places (U g) hbase (hU.mem g)
  refine ⟨this.tw, this.fnd, fun k _ hk => this.con k ?_ hk, this.due⟩
  by_cases hm : (k : Int) ∈ U g
  · exact .inr hm
  · exact .inl hm
theorem users_join {p : List EN} (hN : nodesB p = true) {l : List Int} (hP : PartsN p.length l) {U : Nat → List Int} {i j : Nat} (hi : i < p.length) (hj : j < p.length) (hne : l.getD i 0 ≠ l.getD j 0) (hU : Users p l U p.length) : Users p (joinPL l i j) (moveU U (min (l.getD i 0) (l.getD j 0)) (max (l.getD i 0) (l.getD j 0))) p.length := by
  have hL := hP.1
  obtain ⟨a, a1, a2, a3⟩ := part_nat hP hi
  obtain ⟨b, b1, b2, b3⟩ := part_nat hP hj
  obtain ⟨g, hg⟩ : ∃ g : Nat, max (l.getD i 0) (l.getD j 0) = (g : Int) := ⟨max a b, by omega⟩
  obtain ⟨s, hs⟩ : ∃ s : Nat, min (l.getD i 0) (l.getD j 0) = (s : Int) := ⟨min a b, by omega⟩
  have hgs : g ≠ s := by omega
  have hgn : g < p.length ∧ l.getD g 0 = g := by
    rcases (show g = a ∨ g = b by omega) with rfl | rfl
    · exact ⟨by omega, a3⟩
    · exact ⟨by omega, b3⟩
  have hsn : s < p.length ∧ l.getD s 0 = s := by
    rcases (show s = a ∨ s = b by omega) with rfl | rfl
    · exact ⟨by omega, a3⟩
    · exact ⟨by omega, b3⟩
  have hgt : ∀ c : Nat, c < p.length → (joinPL l i j).getD c 0 = if l.getD c 0 = (g : Int) then (s : Int) else l.getD c 0 := fun c hc => by rw [join_get l i j (by omega), hg, hs]
  rw [hg, hs]
  refine ⟨fun y v hv => ?_, fun k hk t ht y hy => ?_, fun y hy hr k hm => ?_⟩
  · unfold moveU at hv
    split at hv
    · rcases List.mem_append.1 hv with hv | hv
      · exact hU.mem _ v hv
      · exact hU.mem _ v hv
    · exact hU.mem _ v hv
  · obtain ⟨c, c1, c2⟩ := kid_natI (k := k) (j := t) hN hk ht
    rw [c1, Int.toNat_natCast, hgt c (by omega)] at hy
    have hAll := hU.all k hk t ht
    rw [c1, Int.toNat_natCast] at hAll
    unfold moveU
    by_cases e : l.getD c 0 = (g : Int)
    · rw [if_pos e] at hy
      rw [if_pos hy.symm, Int.toNat_natCast]
      exact List.mem_append_right _ (hAll g e)
    · rw [if_neg e] at hy
      have := hAll y hy
      split
      · exact List.mem_append_left _ this
      · exact this
  · rw [hgt y hy] at hr
    have hyg : y ≠ g := by
      rintro rfl
      rw [if_pos hgn.2] at hr
      omega
    have hry : l.getD y 0 = y := by
      split at hr
      · rename_i e
        have : y = s := by omega
        subst this
        exact hsn.2
      · exact hr
    have key : ∀ z : Nat, z < p.length → l.getD z 0 = z → (z = g ∨ z = y) → (k : Int) ∈ U z → (z = g → y = s) → ∃ t, t < (p.getD k e0).2.2.length ∧ (joinPL l i j).getD ((p.getD k e0).2.2.getD t 0).toNat 0 = (y : Int) := by
      intro z hz hzr hzc hkz hzg
      obtain ⟨x, hx, hxk⟩ := hU.mem z k hkz
      obtain ⟨t, ht, hte⟩ := hU.only z hz hzr k hkz
      refine ⟨t, ht, ?_⟩
      obtain ⟨c, c1, c2⟩ := kid_natI (k := k) (j := t) hN (by omega) ht
      rw [c1, Int.toNat_natCast] at hte ⊢
      rw [hgt c (by omega), hte]
      rcases hzc with rfl | rfl
      · rw [if_pos rfl, hzg rfl]
      · rw [if_neg (by omega)]
    unfold moveU at hm
    split at hm
    · rename_i e
      rw [Int.toNat_natCast] at hm
      rcases List.mem_append.1 hm with hm | hm
      · exact key y hy hry (.inr rfl) hm (fun e => absurd e hyg)
      · exact key g hgn.1 hgn.2 (.inl rfl) hm (fun _ => by omega)
    · exact key y hy hry (.inr rfl) hm (fun e => absurd e hyg)
/-- Where nothing is due the parts are closed. -/
theorem inv_end {p : List EN} {l0 l : List Int} {f : Sh → Option Int} (h : Inv p l0 l (f, []) (fun _ => True)) : Closure p l0 l := by
  refine toward_end h.tw fun i j hi hj e => ?_
  obtain ⟨v, h1, h2⟩ := h.con i trivial hi
  obtain ⟨u, k1, k2⟩ := h.con j trivial hj
  rw [e] at h1
  rw [h1] at k1
  injection k1 with k1
  have : v = u := by omega
  subst this
  rw [h2 l h.tw.1 (finer_refl l) (fun x hx => by cases hx), k2 l h.tw.1 (finer_refl l) (fun x hx => by cases hx)]
/-- A due pair of one part is done. -/
theorem inv_skip {p : List EN} {l0 l : List Int} {f : Sh → Option Int} {D : List (Int × Int)} {i j : Nat} (he : l.getD i 0 = l.getD j 0) (hi : i < p.length) (hj : j < p.length) (h : Inv p l0 l (f, D ++ [((i : Int), (j : Int))]) (fun _ => True)) : Inv p l0 l (f, D) (fun _ => True) := by
  have hL := h.tw.1.1
  refine ⟨h.tw, h.fnd, fun k _ hk => ?_, fun x hx => h.due x (List.mem_append_left _ hx)⟩
  obtain ⟨v, h1, h2⟩ := h.con k trivial hk
  refine ⟨v, h1, fun m m1 m2 m3 => h2 m m1 m2 fun x hx => ?_⟩
  rcases List.mem_append.1 hx with hx | hx
  · exact m3 x hx
  · rw [List.mem_singleton] at hx
    subst hx
    simp only [Int.toNat_natCast]
    exact m2 i j (by omega) (by omega) he
theorem inv_first {p : List EN} {l0 : List Int} (h : PartsN p.length l0) : ∀ K, K ≤ p.length → Inv p l0 l0 (stateK p l0 K) (fun x => x < K) := by
  intro K
  induction K with
  | zero => intro _; exact ⟨toward_start h, fun e v he => by simp [stateK] at he, fun k hk => absurd hk (Nat.not_lt_zero _), fun x hx => by simp [stateK] at hx⟩
  | succ K ih =>
    intro hK
    have := inv_place (ih (by omega)) (show K < p.length by omega)
    exact ⟨this.tw, this.fnd, fun k hk hn => this.con k (by omega) hn, this.due⟩
end Go.Proofs.YthkjmgjajmghmaaDoor
namespace Go.Proofs.YthkjmgjajmghmaaDoor
set_option linter.unusedVariables false

def sumN (f : Nat → Nat) : Nat → Nat
  | 0 => 0
  | n + 1 => sumN f n + f n
theorem sumN_congr {f g : Nat → Nat} {n : Nat} (h : ∀ y, y < n → f y = g y) : sumN f n = sumN g n := by
  induction n with
  | zero => rfl
  | succ n ih => simp only [sumN]; rw [ih fun y hy => h y (by omega), h n (by omega)]
theorem sumN_set {f f' : Nat → Nat} {n g : Nat} (hg : g < n) (h : ∀ y, y < n → y ≠ g → f' y = f y) : sumN f' n + f g = sumN f n + f' g := by
  induction n with
  | zero => omega
  | succ n ih =>
    simp only [sumN]
    by_cases e : g = n
    · subst e
      rw [sumN_congr (f := f') (g := f) fun y hy => h y (by omega) (by omega)]
      omega
    · have := ih (by omega) fun y hy hne => h y (by omega) hne
      have := h n (by omega) (by omega)
      omega
theorem sumN_le {f g : Nat → Nat} {n : Nat} (h : ∀ y, y < n → f y ≤ g y) : sumN f n ≤ sumN g n := by
  induction n with
  | zero => exact Nat.le_refl _
  | succ n ih => have := ih fun y hy => h y (by omega); have := h n (by omega); simp only [sumN]; omega
theorem sumN_ge {f : Nat → Nat} {n g : Nat} (hg : g < n) : f g ≤ sumN f n := by
  induction n with
  | zero => omega
  | succ n ih =>
    simp only [sumN]
    by_cases e : g = n
    · subst e; omega
    · have := ih (by omega); omega
def rootsN (l : List Int) (n : Nat) : Nat := sumN (fun x => if l.getD x 0 = x then 1 else 0) n
def totN (l : List Int) (U : Nat → List Int) (n : Nat) : Nat := sumN (fun x => if l.getD x 0 = x then (U x).length else 0) n
theorem rootsN_le (l : List Int) (n : Nat) : rootsN l n ≤ n := by
  unfold rootsN
  induction n with
  | zero => exact Nat.le_refl _
  | succ n ih => simp only [sumN]; split <;> omega
theorem places_len6 (p : List EN) (l : List Int) (us : List Int) : ∀ S : FD, (us.foldl (placeL p l) S).2.length ≤ S.2.length + us.length := by
  induction us with
  | nil => intro S; exact Nat.le_refl _
  | cons u us ih =>
    intro S
    have := ih (placeL p l S u)
    have h1 : (placeL p l S u).2.length ≤ S.2.length + 1 := by
      unfold placeL
      split <;> simp
    simp only [List.foldl_cons, List.length_cons]
    omega
theorem join_facts {n : Nat} {l : List Int} (hP : PartsN n l) {i j : Nat} (hi : i < n) (hj : j < n) (hne : l.getD i 0 ≠ l.getD j 0) : ∃ g s : Nat, max (l.getD i 0) (l.getD j 0) = (g : Int) ∧ min (l.getD i 0) (l.getD j 0) = (s : Int) ∧ g ≠ s ∧ g < n ∧ s < n ∧ l.getD g 0 = g ∧ l.getD s 0 = s ∧ ∀ c : Nat, c < n → (joinPL l i j).getD c 0 = if l.getD c 0 = (g : Int) then (s : Int) else l.getD c 0 := by
  have hL := hP.1
  obtain ⟨a, a1, a2, a3⟩ := part_nat hP hi
  obtain ⟨b, b1, b2, b3⟩ := part_nat hP hj
  obtain ⟨g, hg⟩ : ∃ g : Nat, max (l.getD i 0) (l.getD j 0) = (g : Int) := ⟨max a b, by omega⟩
  obtain ⟨s, hs⟩ : ∃ s : Nat, min (l.getD i 0) (l.getD j 0) = (s : Int) := ⟨min a b, by omega⟩
  have hgn : g < n ∧ l.getD g 0 = g := by
    rcases (show g = a ∨ g = b by omega) with rfl | rfl
    · exact ⟨by omega, a3⟩
    · exact ⟨by omega, b3⟩
  have hsn : s < n ∧ l.getD s 0 = s := by
    rcases (show s = a ∨ s = b by omega) with rfl | rfl
    · exact ⟨by omega, a3⟩
    · exact ⟨by omega, b3⟩
  exact ⟨g, s, hg, hs, by omega, hgn.1, hsn.1, hgn.2, hsn.2, fun c hc => by rw [join_get l i j (by omega), hg, hs]⟩
theorem root_join {n : Nat} {l : List Int} {i j g s : Nat} (hgs : g ≠ s) (hs : l.getD s 0 = s) (hget : ∀ c : Nat, c < n → (joinPL l i j).getD c 0 = if l.getD c 0 = (g : Int) then (s : Int) else l.getD c 0) (x : Nat) (hx : x < n) : (joinPL l i j).getD x 0 = x ↔ (l.getD x 0 = x ∧ x ≠ g) := by
  rw [hget x hx]
  constructor
  · intro h
    by_cases e : l.getD x 0 = (g : Int)
    · rw [if_pos e] at h
      have : x = s := by omega
      subst this
      rw [hs] at e
      omega
    · rw [if_neg e] at h
      exact ⟨h, fun e1 => e (by rw [h, e1])⟩
  · rintro ⟨h1, h2⟩
    rw [if_neg (by rw [h1]; omega)]
    exact h1
/-- A joining takes a root away, and moves users. -/
theorem meas_roots {n : Nat} {l : List Int} (hP : PartsN n l) {i j : Nat} (hi : i < n) (hj : j < n) (hne : l.getD i 0 ≠ l.getD j 0) : rootsN (joinPL l i j) n + 1 = rootsN l n := by
  obtain ⟨g, s, hg, hs, hgs, hgn, hsn, hgr, hsr, hget⟩ := join_facts hP hi hj hne
  have hr := root_join hgs hsr hget
  have := sumN_set (f := fun x => if l.getD x 0 = x then 1 else 0) (f' := fun x => if (joinPL l i j).getD x 0 = x then 1 else 0) hgn (fun y hy hyg => by
    try simp only
    by_cases e : l.getD y 0 = y
    · rw [if_pos e, if_pos ((hr y hy).2 ⟨e, hyg⟩)]
    · rw [if_neg e, if_neg (fun e1 => e ((hr y hy).1 e1).1)])
  try simp only at this
  rw [if_pos hgr, if_neg (fun e1 => ((hr g hgn).1 e1).2 rfl)] at this
  unfold rootsN
  omega
theorem meas_tot {n : Nat} {l : List Int} (hP : PartsN n l) (U : Nat → List Int) {i j : Nat} (hi : i < n) (hj : j < n) (hne : l.getD i 0 ≠ l.getD j 0) : totN (joinPL l i j) (moveU U (min (l.getD i 0) (l.getD j 0)) (max (l.getD i 0) (l.getD j 0))) n = totN l U n ∧ ∀ g : Nat, max (l.getD i 0) (l.getD j 0) = (g : Int) → (U g).length ≤ totN l U n := by
  obtain ⟨g, s, hg, hs, hgs, hgn, hsn, hgr, hsr, hget⟩ := join_facts hP hi hj hne
  have hr := root_join hgs hsr hget
  rw [hg, hs]
  constructor
  · have h1 := sumN_set (f := fun x => if l.getD x 0 = x then (U x).length else 0) (f' := fun x => if x = g then 0 else if l.getD x 0 = x then (U x).length else 0) hgn (fun y hy hyg => by (try simp only); rw [if_neg hyg])
    have h2 := sumN_set (f := fun x => if x = g then 0 else if l.getD x 0 = x then (U x).length else 0) (f' := fun x => if (joinPL l i j).getD x 0 = x then (moveU U (s : Int) (g : Int) x).length else 0) hsn (fun y hy hys => by
      try simp only
      have hm : moveU U (s : Int) (g : Int) y = U y := by unfold moveU; rw [if_neg (by omega)]
      rw [hm]
      by_cases e : l.getD y 0 = y
      · by_cases e2 : y = g
        · rw [if_pos e2, if_neg (fun e1 => ((hr y hy).1 e1).2 e2)]
        · rw [if_neg e2, if_pos e, if_pos ((hr y hy).2 ⟨e, e2⟩)]
      · rw [if_neg (fun e1 => e ((hr y hy).1 e1).1)]
        split
        · rfl
        · first | rfl | rw [if_neg e])
    have hm : (moveU U (s : Int) (g : Int) s).length = (U s).length + (U g).length := by unfold moveU; rw [if_pos rfl, Int.toNat_natCast, List.length_append]
    try simp only at h1 h2
    first | rw [if_pos rfl, if_pos hgr] at h1 | rw [if_pos trivial, if_pos hgr] at h1
    rw [if_neg (fun e => hgs e.symm), if_pos hsr, if_pos ((hr s hsn).2 ⟨hsr, fun e => hgs e.symm⟩), hm] at h2
    unfold totN
    omega
  · intro x hx
    obtain rfl : x = g := by omega
    have := sumN_ge (f := fun x => if l.getD x 0 = x then (U x).length else 0) hgn
    try simp only at this
    rw [if_pos hgr] at this
    exact this
/-- What is left to do. -/
def leftN (l : List Int) (U : Nat → List Int) (n d : Nat) : Nat := d + rootsN l n * totN l U n
theorem left_join {p : List EN} {l : List Int} (hP : PartsN p.length l) (U : Nat → List Int) (f : Sh → Option Int) (D : List (Int × Int)) {i j g : Nat} (hi : i < p.length) (hj : j < p.length) (hne : l.getD i 0 ≠ l.getD j 0) (hg : max (l.getD i 0) (l.getD j 0) = (g : Int)) :
    leftN (joinPL l i j) (moveU U (min (l.getD i 0) (l.getD j 0)) (max (l.getD i 0) (l.getD j 0))) p.length ((U g).foldl (placeL p (joinPL l i j)) (dropF p l f (U g), D)).2.length < leftN l U p.length (D.length + 1) := by
  have h1 := meas_roots hP hi hj hne
  obtain ⟨h2, h3⟩ := meas_tot hP U hi hj hne
  have h4 := h3 g hg
  have h5 := places_len6 p (joinPL l i j) (U g) (dropF p l f (U g), D)
  unfold leftN
  rw [h2, ← h1, Nat.add_mul, Nat.one_mul]
  try simp only at h5
  omega
theorem addU_len (l : List Int) (k : Int) (n : Nat) (kids : List Int) : ∀ U : Nat → List Int, sumN (fun y => (kids.foldl (addU l k) U y).length) n ≤ sumN (fun y => (U y).length) n + kids.length := by
  induction kids with
  | nil => intro U; exact Nat.le_refl _
  | cons c r ih =>
    intro U
    have h1 := ih (addU l k U c)
    simp only [List.foldl_cons, List.length_cons]
    have h2 : sumN (fun y => (addU l k U c y).length) n ≤ sumN (fun y => (U y).length) n + 1 := by
      by_cases hx : ∃ x : Nat, x < n ∧ (x : Int) = l.getD c.toNat 0
      · obtain ⟨x, hx, hxe⟩ := hx
        have := sumN_set (f := fun y => (U y).length) (f' := fun y => (addU l k U c y).length) hx (fun y hy hyx => by unfold addU; (try simp only); rw [if_neg (by omega)])
        have e : (addU l k U c x).length = (U x).length + 1 := by unfold addU; rw [if_pos hxe]; simp
        try simp only at this
        omega
      · rw [sumN_congr (f := fun y => (addU l k U c y).length) (g := fun y => (U y).length) fun y hy => by unfold addU; (try simp only); rw [if_neg (fun e => hx ⟨y, hy, e⟩)]]
        omega
    omega
theorem usersK_len (p : List EN) (l : List Int) (n : Nat) (hk : ∀ k, k < p.length → (p.getD k e0).2.2.length ≤ 3) : ∀ K, K ≤ p.length → sumN (fun y => (usersK p l K y).length) n ≤ 3 * K := by
  intro K
  induction K with
  | zero =>
    intro _
    have : ∀ m, sumN (fun _ => 0) m = 0 := by
      intro m
      induction m with
      | zero => rfl
      | succ m ih => simp only [sumN]; omega
    simp only [usersK, List.length_nil]
    rw [this]
    omega
  | succ K ih =>
    intro hK
    have h1 := ih (by omega)
    have h2 := addU_len l (K : Int) n (p.getD K e0).2.2 (usersK p l K)
    have h3 := hk K (by omega)
    simp only [usersK]
    omega
theorem totN_le (l : List Int) (U : Nat → List Int) (n : Nat) : totN l U n ≤ sumN (fun y => (U y).length) n := sumN_le fun y hy => by (try simp only); split <;> omega
theorem stateK_len (p : List EN) (l : List Int) : ∀ K, (stateK p l K).2.length ≤ K := by
  intro K
  induction K with
  | zero => exact Nat.le_refl _
  | succ K ih =>
    have : (placeL p l (stateK p l K) K).2.length ≤ (stateK p l K).2.length + 1 := by
      unfold placeL
      split <;> simp
    simp only [stateK]
    omega
theorem left_first {p : List EN} (hN : nodesB p = true) (l : List Int) : leftN l (usersK p l p.length) p.length (stateK p l p.length).2.length ≤ 50000 := by
  have h0 := (nodesB_iff p).1 hN
  have h1 := rootsN_le l p.length
  have h2 := totN_le l (usersK p l p.length) p.length
  have h3 := usersK_len p l p.length (fun k hk => fit_few (h0.2 k hk)) p.length (Nat.le_refl _)
  have h4 := stateK_len p l p.length
  have h5 : rootsN l p.length * totN l (usersK p l p.length) p.length ≤ 120 * 360 := Nat.mul_le_mul (by omega) (by omega)
  unfold leftN
  omega
/-- The users of all parts, once all nodes are entered. -/
theorem users_add {p : List EN} (hN : nodesB p = true) {l : List Int} (hP : PartsN p.length l) {k : Nat} (hk : k < p.length) : ∀ (kids : List Int) (U : Nat → List Int) (y : Nat) (v : Int), v ∈ kids.foldl (addU l k) U y ↔ v ∈ U y ∨ (v = k ∧ ∃ c ∈ kids, (y : Int) = l.getD c.toNat 0) := by
  intro kids
  induction kids with
  | nil => intro U y v; simp
  | cons c r ih =>
    intro U y v
    rw [List.foldl_cons, ih]
    unfold addU
    constructor
    · rintro (h | ⟨rfl, d, hd, he⟩)
      · split at h
        · rename_i e
          rcases List.mem_append.1 h with h | h
          · exact .inl h
          · exact .inr ⟨by simpa using h, c, List.mem_cons_self .., e⟩
        · exact .inl h
      · exact .inr ⟨rfl, d, List.mem_cons_of_mem _ hd, he⟩
    · rintro (h | ⟨rfl, d, hd, he⟩)
      · left
        split
        · exact List.mem_append_left _ h
        · exact h
      · rcases List.mem_cons.1 hd with rfl | hd
        · left
          rw [if_pos he]
          exact List.mem_append_right _ (by simp)
        · exact .inr ⟨rfl, d, hd, he⟩
theorem users_first {p : List EN} (hN : nodesB p = true) {l : List Int} (hP : PartsN p.length l) : ∀ K, K ≤ p.length → Users p l (usersK p l K) K := by
  intro K
  induction K with
  | zero =>
    intro _
    exact ⟨fun y v hv => by simp [usersK] at hv, fun k hk => absurd hk (Nat.not_lt_zero _), fun y _ _ k hk => by simp [usersK] at hk⟩
  | succ K ih =>
    intro hK
    obtain ⟨i1, i2, i3⟩ := ih (by omega)
    have hmem := users_add hN hP (show K < p.length by omega) (p.getD K e0).2.2 (usersK p l K)
    refine ⟨fun y v hv => ?_, fun k hk j hj y hy => ?_, fun y hy hr k hm => ?_⟩
    · rcases (hmem y v).1 hv with h | ⟨rfl, _⟩
      · obtain ⟨k, e, hk⟩ := i1 y v h
        exact ⟨k, e, by omega⟩
      · exact ⟨K, rfl, by omega⟩
    · refine (hmem y k).2 ?_
      by_cases e : k = K
      · subst e
        refine .inr ⟨rfl, (p.getD k e0).2.2.getD j 0, ?_, hy.symm⟩
        rw [getI_lt hj]
        exact List.getElem_mem _
      · exact .inl (i2 k (by omega) j hj y hy)
    · rcases (hmem y k).1 hm with h | ⟨e, c, hc, he⟩
      · exact i3 y hy hr k h
      · obtain rfl : k = K := by omega
        obtain ⟨j, hj, rfl⟩ := List.getElem_of_mem hc
        exact ⟨j, hj, by rw [getI_lt hj]; exact he.symm⟩
end Go.Proofs.YthkjmgjajmghmaaDoor
