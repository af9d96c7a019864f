/-
  PROVED HERE: how many steps the closing of parts takes: each joining takes a part away, and what it makes due is no more than the users of that part. No condition. how the program's closing of parts lies in memory of its own, and what each step on it leaves. No condition. how the program's closing lies at its beginning. No condition.
-/
import Derived.Test.YtobgkfpjokfbaaaGreatDoorRun27
import Derived.Test.YtobgkfpjokfbaaaGreatDoorRun11
import Derived.Test.YtobgkfpjokfbaaaGreatDoorRun20
import Derived.Test.YtobgkfpjokfbaaaGreatDoorRun18
namespace Go.Proofs.YtobgkfpjokfbaaaGreatDoor
set_option linter.unusedVariables false

def sumN (f : Nat → Nat) : Nat → Nat
  | 0 => 0
  | n + 1 => sumN f n + f n
theorem sumN_congr {f g : Nat → Nat} {n : Nat} (h : ∀ y, y < n → f y = g y) : sumN f n = sumN g n := by
  induction n with
  | zero => rfl
  | succ n ih => simp only [sumN]; rw [ih fun y hy => h y (by omega), h n (by omega)]
theorem sumN_set {f f' : Nat → Nat} {n g : Nat} (hg : g < n) (h : ∀ y, y < n → y ≠ g → f' y = f y) : sumN f' n + f g = sumN f n + f' g := by
  induction n with
  | zero => omega
  | succ n ih =>
    simp only [sumN]
    by_cases e : g = n
    · subst e
      rw [sumN_congr (f := f') (g := f) fun y hy => h y (by omega) (by omega)]
      omega
    · have := ih (by omega) fun y hy hne => h y (by omega) hne
      have := h n (by omega) (by omega)
      omega
theorem sumN_le {f g : Nat → Nat} {n : Nat} (h : ∀ y, y < n → f y ≤ g y) : sumN f n ≤ sumN g n := by
  induction n with
  | zero => exact Nat.le_refl _
  | succ n ih => have := ih fun y hy => h y (by omega); have := h n (by omega); simp only [sumN]; omega
theorem sumN_ge {f : Nat → Nat} {n g : Nat} (hg : g < n) : f g ≤ sumN f n := by
  induction n with
  | zero => omega
  | succ n ih =>
    simp only [sumN]
    by_cases e : g = n
    · subst e; omega
    · have := ih (by omega); omega
def rootsN (l : List Int) (n : Nat) : Nat := sumN (fun x => if l.getD x 0 = x then 1 else 0) n
def totN (l : List Int) (U : Nat → List Int) (n : Nat) : Nat := sumN (fun x => if l.getD x 0 = x then (U x).length else 0) n
theorem rootsN_le (l : List Int) (n : Nat) : rootsN l n ≤ n := by
  unfold rootsN
  induction n with
  | zero => exact Nat.le_refl _
  | succ n ih => simp only [sumN]; split <;> omega
theorem places_len6 (p : List EN) (l : List Int) (us : List Int) : ∀ S : FD, (us.foldl (placeL p l) S).2.length ≤ S.2.length + us.length := by
  induction us with
  | nil => intro S; exact Nat.le_refl _
  | cons u us ih =>
    intro S
    have := ih (placeL p l S u)
    have h1 : (placeL p l S u).2.length ≤ S.2.length + 1 := by
      unfold placeL
      split <;> simp
    simp only [List.foldl_cons, List.length_cons]
    omega
theorem join_facts {n : Nat} {l : List Int} (hP : PartsN n l) {i j : Nat} (hi : i < n) (hj : j < n) (hne : l.getD i 0 ≠ l.getD j 0) : ∃ g s : Nat, max (l.getD i 0) (l.getD j 0) = (g : Int) ∧ min (l.getD i 0) (l.getD j 0) = (s : Int) ∧ g ≠ s ∧ g < n ∧ s < n ∧ l.getD g 0 = g ∧ l.getD s 0 = s ∧ ∀ c : Nat, c < n → (joinPL l i j).getD c 0 = if l.getD c 0 = (g : Int) then (s : Int) else l.getD c 0 := by
  have hL := hP.1
  obtain ⟨a, a1, a2, a3⟩ := part_nat hP hi
  obtain ⟨b, b1, b2, b3⟩ := part_nat hP hj
  obtain ⟨g, hg⟩ : ∃ g : Nat, max (l.getD i 0) (l.getD j 0) = (g : Int) := ⟨max a b, by omega⟩
  obtain ⟨s, hs⟩ : ∃ s : Nat, min (l.getD i 0) (l.getD j 0) = (s : Int) := ⟨min a b, by omega⟩
  have hgn : g < n ∧ l.getD g 0 = g := by
    rcases (show g = a ∨ g = b by omega) with rfl | rfl
    · exact ⟨by omega, a3⟩
    · exact ⟨by omega, b3⟩
  have hsn : s < n ∧ l.getD s 0 = s := by
    rcases (show s = a ∨ s = b by omega) with rfl | rfl
    · exact ⟨by omega, a3⟩
    · exact ⟨by omega, b3⟩
  exact ⟨g, s, hg, hs, by omega, hgn.1, hsn.1, hgn.2, hsn.2, fun c hc => by rw [join_get l i j (by omega), hg, hs]⟩
theorem root_join {n : Nat} {l : List Int} {i j g s : Nat} (hgs : g ≠ s) (hs : l.getD s 0 = s) (hget : ∀ c : Nat, c < n → (joinPL l i j).getD c 0 = if l.getD c 0 = (g : Int) then (s : Int) else l.getD c 0) (x : Nat) (hx : x < n) : (joinPL l i j).getD x 0 = x ↔ (l.getD x 0 = x ∧ x ≠ g) := by
  rw [hget x hx]
  constructor
  · intro h
    by_cases e : l.getD x 0 = (g : Int)
    · rw [if_pos e] at h
      have : x = s := by omega
      subst this
      rw [hs] at e
      omega
    · rw [if_neg e] at h
      exact ⟨h, fun e1 => e (by rw [h, e1])⟩
  · rintro ⟨h1, h2⟩
    rw [if_neg (by rw [h1]; omega)]
    exact h1
/-- A joining takes a root away, and moves users. -/
theorem meas_roots {n : Nat} {l : List Int} (hP : PartsN n l) {i j : Nat} (hi : i < n) (hj : j < n) (hne : l.getD i 0 ≠ l.getD j 0) : rootsN (joinPL l i j) n + 1 = rootsN l n := by
  obtain ⟨g, s, hg, hs, hgs, hgn, hsn, hgr, hsr, hget⟩ := join_facts hP hi hj hne
  have hr := root_join hgs hsr hget
  have := sumN_set (f := fun x => if l.getD x 0 = x then 1 else 0) (f' := fun x => if (joinPL l i j).getD x 0 = x then 1 else 0) hgn (fun y hy hyg => by
    try simp only
    by_cases e : l.getD y 0 = y
    · rw [if_pos e, if_pos ((hr y hy).2 ⟨e, hyg⟩)]
    · rw [if_neg e, if_neg (fun e1 => e ((hr y hy).1 e1).1)])
  try simp only at this
  rw [if_pos hgr, if_neg (fun e1 => ((hr g hgn).1 e1).2 rfl)] at this
  unfold rootsN
  omega
theorem meas_tot {n : Nat} {l : List Int} (hP : PartsN n l) (U : Nat → List Int) {i j : Nat} (hi : i < n) (hj : j < n) (hne : l.getD i 0 ≠ l.getD j 0) : totN (joinPL l i j) (moveU U (min (l.getD i 0) (l.getD j 0)) (max (l.getD i 0) (l.getD j 0))) n = totN l U n ∧ ∀ g : Nat, max (l.getD i 0) (l.getD j 0) = (g : Int) → (U g).length ≤ totN l U n := by
  obtain ⟨g, s, hg, hs, hgs, hgn, hsn, hgr, hsr, hget⟩ := join_facts hP hi hj hne
  have hr := root_join hgs hsr hget
  rw [hg, hs]
  constructor
  · have h1 := sumN_set (f := fun x => if l.getD x 0 = x then (U x).length else 0) (f' := fun x => if x = g then 0 else if l.getD x 0 = x then (U x).length else 0) hgn (fun y hy hyg => by (try simp only); rw [if_neg hyg])
    have h2 := sumN_set (f := fun x => if x = g then 0 else if l.getD x 0 = x then (U x).length else 0) (f' := fun x => if (joinPL l i j).getD x 0 = x then (moveU U (s : Int) (g : Int) x).length else 0) hsn (fun y hy hys => by
      try simp only
      have hm : moveU U (s : Int) (g : Int) y = U y := by unfold moveU; rw [if_neg (by omega)]
      rw [hm]
      by_cases e : l.getD y 0 = y
      · by_cases e2 : y = g
        · rw [if_pos e2, if_neg (fun e1 => ((hr y hy).1 e1).2 e2)]
        · rw [if_neg e2, if_pos e, if_pos ((hr y hy).2 ⟨e, e2⟩)]
      · rw [if_neg (fun e1 => e ((hr y hy).1 e1).1)]
        split
        · rfl
        · first | rfl | rw [if_neg e])
    have hm : (moveU U (s : Int) (g : Int) s).length = (U s).length + (U g).length := by unfold moveU; rw [if_pos rfl, Int.toNat_natCast, List.length_append]
    try simp only at h1 h2
    first | rw [if_pos rfl, if_pos hgr] at h1 | rw [if_pos trivial, if_pos hgr] at h1
    rw [if_neg (fun e => hgs e.symm), if_pos hsr, if_pos ((hr s hsn).2 ⟨hsr, fun e => hgs e.symm⟩), hm] at h2
    unfold totN
    omega
  · intro x hx
    obtain rfl : x = g := by omega
    have := sumN_ge (f := fun x => if l.getD x 0 = x then (U x).length else 0) hgn
    try simp only at this
    rw [if_pos hgr] at this
    exact this
/-- What is left to do. -/
def leftN (l : List Int) (U : Nat → List Int) (n d : Nat) : Nat := d + rootsN l n * totN l U n
theorem left_join {p : List EN} {l : List Int} (hP : PartsN p.length l) (U : Nat → List Int) (f : Sh → Option Int) (D : List (Int × Int)) {i j g : Nat} (hi : i < p.length) (hj : j < p.length) (hne : l.getD i 0 ≠ l.getD j 0) (hg : max (l.getD i 0) (l.getD j 0) = (g : Int)) :
    leftN (joinPL l i j) (moveU U (min (l.getD i 0) (l.getD j 0)) (max (l.getD i 0) (l.getD j 0))) p.length ((U g).foldl (placeL p (joinPL l i j)) (dropF p l f (U g), D)).2.length < leftN l U p.length (D.length + 1) := by
  have h1 := meas_roots hP hi hj hne
  obtain ⟨h2, h3⟩ := meas_tot hP U hi hj hne
  have h4 := h3 g hg
  have h5 := places_len6 p (joinPL l i j) (U g) (dropF p l f (U g), D)
  unfold leftN
  rw [h2, ← h1, Nat.add_mul, Nat.one_mul]
  try simp only at h5
  omega
theorem addU_len (l : List Int) (k : Int) (n : Nat) (kids : List Int) : ∀ U : Nat → List Int, sumN (fun y => (kids.foldl (addU l k) U y).length) n ≤ sumN (fun y => (U y).length) n + kids.length := by
  induction kids with
  | nil => intro U; exact Nat.le_refl _
  | cons c r ih =>
    intro U
    have h1 := ih (addU l k U c)
    simp only [List.foldl_cons, List.length_cons]
    have h2 : sumN (fun y => (addU l k U c y).length) n ≤ sumN (fun y => (U y).length) n + 1 := by
      by_cases hx : ∃ x : Nat, x < n ∧ (x : Int) = l.getD c.toNat 0
      · obtain ⟨x, hx, hxe⟩ := hx
        have := sumN_set (f := fun y => (U y).length) (f' := fun y => (addU l k U c y).length) hx (fun y hy hyx => by unfold addU; (try simp only); rw [if_neg (by omega)])
        have e : (addU l k U c x).length = (U x).length + 1 := by unfold addU; rw [if_pos hxe]; simp
        try simp only at this
        omega
      · rw [sumN_congr (f := fun y => (addU l k U c y).length) (g := fun y => (U y).length) fun y hy => by unfold addU; (try simp only); rw [if_neg (fun e => hx ⟨y, hy, e⟩)]]
        omega
    omega
theorem usersK_len (p : List EN) (l : List Int) (n : Nat) (hk : ∀ k, k < p.length → (p.getD k e0).2.2.length ≤ 3) : ∀ K, K ≤ p.length → sumN (fun y => (usersK p l K y).length) n ≤ 3 * K := by
  intro K
  induction K with
  | zero =>
    intro _
    have : ∀ m, sumN (fun _ => 0) m = 0 := by
      intro m
      induction m with
      | zero => rfl
      | succ m ih => simp only [sumN]; omega
    simp only [usersK, List.length_nil]
    rw [this]
    omega
  | succ K ih =>
    intro hK
    have h1 := ih (by omega)
    have h2 := addU_len l (K : Int) n (p.getD K e0).2.2 (usersK p l K)
    have h3 := hk K (by omega)
    simp only [usersK]
    omega
theorem totN_le (l : List Int) (U : Nat → List Int) (n : Nat) : totN l U n ≤ sumN (fun y => (U y).length) n := sumN_le fun y hy => by (try simp only); split <;> omega
theorem stateK_len (p : List EN) (l : List Int) : ∀ K, (stateK p l K).2.length ≤ K := by
  intro K
  induction K with
  | zero => exact Nat.le_refl _
  | succ K ih =>
    have : (placeL p l (stateK p l K) K).2.length ≤ (stateK p l K).2.length + 1 := by
      unfold placeL
      split <;> simp
    simp only [stateK]
    omega
theorem left_first {p : List EN} (hN : nodesB p = true) (l : List Int) : leftN l (usersK p l p.length) p.length (stateK p l p.length).2.length ≤ 50000 := by
  have h0 := (nodesB_iff p).1 hN
  have h1 := rootsN_le l p.length
  have h2 := totN_le l (usersK p l p.length) p.length
  have h3 := usersK_len p l p.length (fun k hk => fit_few (h0.2 k hk)) p.length (Nat.le_refl _)
  have h4 := stateK_len p l p.length
  have h5 : rootsN l p.length * totN l (usersK p l p.length) p.length ≤ 120 * 360 := Nat.mul_le_mul (by omega) (by omega)
  unfold leftN
  omega
/-- The users of all parts, once all nodes are entered. -/
theorem users_add {p : List EN} (hN : nodesB p = true) {l : List Int} (hP : PartsN p.length l) {k : Nat} (hk : k < p.length) : ∀ (kids : List Int) (U : Nat → List Int) (y : Nat) (v : Int), v ∈ kids.foldl (addU l k) U y ↔ v ∈ U y ∨ (v = k ∧ ∃ c ∈ kids, (y : Int) = l.getD c.toNat 0) := by
  intro kids
  induction kids with
  | nil => intro U y v; simp
  | cons c r ih =>
    intro U y v
    rw [List.foldl_cons, ih]
    unfold addU
    constructor
    · rintro (h | ⟨rfl, d, hd, he⟩)
      · split at h
        · rename_i e
          rcases List.mem_append.1 h with h | h
          · exact .inl h
          · exact .inr ⟨by simpa using h, c, List.mem_cons_self .., e⟩
        · exact .inl h
      · exact .inr ⟨rfl, d, List.mem_cons_of_mem _ hd, he⟩
    · rintro (h | ⟨rfl, d, hd, he⟩)
      · left
        split
        · exact List.mem_append_left _ h
        · exact h
      · rcases List.mem_cons.1 hd with rfl | hd
        · left
          rw [if_pos he]
          exact List.mem_append_right _ (by simp)
        · exact .inr ⟨rfl, d, hd, he⟩
theorem users_first {p : List EN} (hN : nodesB p = true) {l : List Int} (hP : PartsN p.length l) : ∀ K, K ≤ p.length → Users p l (usersK p l K) K := by
  intro K
  induction K with
  | zero =>
    intro _
    exact ⟨fun y v hv => by simp [usersK] at hv, fun k hk => absurd hk (Nat.not_lt_zero _), fun y _ _ k hk => by simp [usersK] at hk⟩
  | succ K ih =>
    intro hK
    obtain ⟨i1, i2, i3⟩ := ih (by omega)
    have hmem := users_add hN hP (show K < p.length by omega) (p.getD K e0).2.2 (usersK p l K)
    refine ⟨fun y v hv => ?_, fun k hk j hj y hy => ?_, fun y hy hr k hm => ?_⟩
    · rcases (hmem y v).1 hv with h | ⟨rfl, _⟩
      · obtain ⟨k, e, hk⟩ := i1 y v h
        exact ⟨k, e, by omega⟩
      · exact ⟨K, rfl, by omega⟩
    · refine (hmem y k).2 ?_
      by_cases e : k = K
      · subst e
        refine .inr ⟨rfl, (p.getD k e0).2.2.getD j 0, ?_, hy.symm⟩
        rw [getI_lt hj]
        exact List.getElem_mem _
      · exact .inl (i2 k (by omega) j hj y hy)
    · rcases (hmem y k).1 hm with h | ⟨e, c, hc, he⟩
      · exact i3 y hy hr k h
      · obtain rfl : k = K := by omega
        obtain ⟨j, hj, rfl⟩ := List.getElem_of_mem hc
        exact ⟨j, hj, by rw [getI_lt hj]; exact he.symm⟩
end Go.Proofs.YtobgkfpjokfbaaaGreatDoor
namespace Go.Proofs.YtobgkfpjokfbaaaGreatDoor
open Go.ChangeShapes Go.WideShapes Go.ChangeAt Go.RowKit
open Go.MapKept Go.ChangeMaps
set_option linter.unusedVariables false

/-- A closing in memory of its own: the tag of a block tells what it belongs to: 0 the struct, 1 the parts, 2 the row of users, 3 the map, 4 what is due, 5 + y the users of y. -/
structure Clo (w : World) (lo : Nat) (T : Nat → Nat) (n C bu bf : Nat) (na vp vd : Value) (V : Nat → Value) (l : List Int) (U : Nat → List Int) (F : Sh → Option Int) (D : List (Int × Int)) : Prop where
  hC : lo ≤ C ∧ C < w.heap.size ∧ T C = 0
  hu : lo ≤ bu ∧ bu < w.heap.size ∧ T bu = 2
  hf : lo ≤ bf ∧ bf < w.heap.size ∧ T bf = 3
  c0 : w.cell? ⟨C, 0, none⟩ = some na
  c1 : w.cell? ⟨C, 1, none⟩ = some vp
  c2 : w.cell? ⟨C, 2, none⟩ = some (.slice (some ⟨bu, 0, none⟩) n n)
  c3 : w.cell? ⟨C, 3, none⟩ = some (.map (some bf))
  c4 : w.cell? ⟨C, 4, none⟩ = some vd
  fz : w.frozen? ⟨C, 4, none⟩ = false
  rp : w.ownsRow lo 3 1 vp n (vals l)
  tp : ∀ x, vp.ownBlock = some x → T x = 1
  cu : ∀ y, y < n → w.cell? ⟨bu, y, none⟩ = some (V y) ∧ w.frozen? ⟨bu, y, none⟩ = false
  ru : ∀ y, y < n → w.ownsRow lo 3 1 (V y) (U y).length (vals (U y))
  tu : ∀ y, y < n → ∀ x, (V y).ownBlock = some x → T x = 5 + y
  rf : SMap w bf F
  rd : w.ownsRow lo 135 2 vd D.length (flat D)
  td : ∀ x, vd.ownBlock = some x → T x = 4
section
variable {w : World} {lo : Nat} {T : Nat → Nat} {n C bu bf : Nat} {na vp vd : Value} {V : Nat → Value} {l : List Int} {U : Nat → List Int} {F : Sh → Option Int} {D : List (Int × Int)}
theorem Clo.keep (h : Clo w lo T n C bu bf na vp vd V l U F D) {w' : World} (hb : Below w.heap.size w w') : Clo w' lo T n C bu bf na vp vd V l U F D := by
  have hs := hb.size
  have cell : ∀ (b j : Nat), b < w.heap.size → w'.cell? ⟨b, j, none⟩ = w.cell? ⟨b, j, none⟩ := fun b j hl => hb.cell (p := ⟨b, j, none⟩) hl
  have frz : ∀ (b j : Nat), b < w.heap.size → w'.frozen? ⟨b, j, none⟩ = w.frozen? ⟨b, j, none⟩ := fun b j hl => World.frozen?_of_block (a := ⟨b, j, none⟩) (hb.block b hl)
  have row : ∀ {b e s m : Nat} {v : Value} {xs : List Value}, w.ownsRow b e s v m xs → w'.ownsRow b e s v m xs := fun hr => row_map hr fun x hx hl => hb.block x hl
  have k1 := h.hC.2.1
  have k2 := h.hu.2.1
  have k3 := h.hf.2.1
  exact ⟨⟨h.hC.1, by omega, h.hC.2.2⟩, ⟨h.hu.1, by omega, h.hu.2.2⟩, ⟨h.hf.1, by omega, h.hf.2.2⟩, (cell C 0 k1).trans h.c0, (cell C 1 k1).trans h.c1, (cell C 2 k1).trans h.c2, (cell C 3 k1).trans h.c3, (cell C 4 k1).trans h.c4, (frz C 4 k1).trans h.fz, row h.rp, h.tp,
    fun y hy => ⟨(cell bu y k2).trans (h.cu y hy).1, (frz bu y k2).trans (h.cu y hy).2⟩, fun y hy => row (h.ru y hy), h.tu, h.rf.block (hb.block bf k3), row h.rd, h.td⟩
/-- The tags with one block more. -/
def tagAt (T : Nat → Nat) (v : Value) (q : Nat) : Nat → Nat := fun b => if v.ownBlock = some b then q else T b
theorem tagAt_old {T : Nat → Nat} {v v' : Value} {q s b : Nat} (hat : v'.ownBlock = v.ownBlock ∨ v'.ownBlock = some s) (hT : ∀ x, v.ownBlock = some x → T x = q) (hb : b < s) : tagAt T v' q b = T b := by
  unfold tagAt
  split
  · rename_i e
    rcases hat with h0 | h0
    · rw [h0] at e; exact (hT b e).symm
    · rw [h0] at e; injection e; omega
  · rfl
/-- A pair more that is due, ahead of its storing. -/
theorem Clo.dueRow (h : Clo w lo T n C bu bf na vp vd V l U F D) {w6 : World} {v6 : Value} {a b : Int} (hrow : w6.ownsRow lo 135 2 v6 (D.length + 1) (flat D ++ [.int .i64 a, .int .i64 b])) (hg : w.grownBy w6 vd.ownBlock) (hat : v6.ownBlock = vd.ownBlock ∨ v6.ownBlock = some w.heap.size) :
    w6.cell? ⟨C, 4, none⟩ = some vd ∧ w6.frozen? ⟨C, 4, none⟩ = false ∧ Clo (w6.setCell ⟨C, 4, none⟩ v6) lo (tagAt T v6 4) n C bu bf na vp v6 V l U F (D ++ [(a, b)]) := by
  have hs := hg.size
  have told : ∀ {x : Nat}, x < w.heap.size → tagAt T v6 4 x = T x := fun hx => tagAt_old hat h.td hx
  have blk6 : ∀ x, x < w.heap.size → T x ≠ 4 → w6.heap[x]? = w.heap[x]? := fun x hx ht => hg.block x hx (fun e => ht (h.td x e.symm))
  have k1 := h.hC.2.1
  have k2 := h.hu.2.1
  have k3 := h.hf.2.1
  have cell6 : ∀ (x j : Nat), x < w.heap.size → T x ≠ 4 → w6.cell? ⟨x, j, none⟩ = w.cell? ⟨x, j, none⟩ := fun x j hx ht => World.cell?_of_block (a := ⟨x, j, none⟩) (blk6 x hx ht)
  have frz6 : ∀ (x j : Nat), x < w.heap.size → T x ≠ 4 → w6.frozen? ⟨x, j, none⟩ = w.frozen? ⟨x, j, none⟩ := fun x j hx ht => World.frozen?_of_block (a := ⟨x, j, none⟩) (blk6 x hx ht)
  have tC := h.hC.2.2
  have tu := h.hu.2.2
  have tf := h.hf.2.2
  have c4 := (cell6 C 4 k1 (by omega)).trans h.c4
  have blk : ∀ x, x ≠ C → (w6.setCell ⟨C, 4, none⟩ v6).heap[x]? = w6.heap[x]? := fun x hx => heap_setCell_other w6 ⟨C, 4, none⟩ x v6 hx
  have cell7 : ∀ (x j : Nat), x ≠ C → (w6.setCell ⟨C, 4, none⟩ v6).cell? ⟨x, j, none⟩ = w6.cell? ⟨x, j, none⟩ := fun x j hx => World.cell?_of_block (a := ⟨x, j, none⟩) (blk x hx)
  have cellC : ∀ j, j ≠ 4 → (w6.setCell ⟨C, 4, none⟩ v6).cell? ⟨C, j, none⟩ = w.cell? ⟨C, j, none⟩ := fun j hj => (World.cell?_setCell_other _ _ _ _ (by intro e; cases e; exact hj rfl)).trans (cell6 C j k1 (by omega))
  have row7 : ∀ {b e s m : Nat} {v : Value} {xs : List Value}, w.ownsRow b e s v m xs → (∀ x, v.ownBlock = some x → T x ≠ 4 ∧ T x ≠ 0) → (w6.setCell ⟨C, 4, none⟩ v6).ownsRow b e s v m xs := fun hr ht => row_map hr fun x hx hl => (blk x (fun e => (ht x hx).2 (by rw [e]; exact tC))).trans (blk6 x hl (ht x hx).1)
  have hsz : w6.heap.size ≤ (w6.setCell ⟨C, 4, none⟩ v6).heap.size := by simp
  refine ⟨c4, (frz6 C 4 k1 (by omega)).trans h.fz, ⟨h.hC.1, by simp; omega, (told k1).trans tC⟩, ⟨h.hu.1, by simp; omega, (told k2).trans tu⟩, ⟨h.hf.1, by simp; omega, (told k3).trans tf⟩, (cellC 0 (by omega)).trans h.c0, (cellC 1 (by omega)).trans h.c1, (cellC 2 (by omega)).trans h.c2, (cellC 3 (by omega)).trans h.c3, World.cell?_setCell_same _ _ _ c4, ?_, ?_, fun x hx => ?_, fun y hy => ⟨?_, ?_⟩, fun y hy => ?_, fun y hy x hx => ?_, ?_, ?_, fun x hx => ?_⟩
  · rw [World.frozen?_setCell]; exact (frz6 C 4 k1 (by omega)).trans h.fz
  · exact row7 h.rp fun x hx => by have := h.tp x hx; omega
  · rw [told (h.rp.lt x hx).2]; exact h.tp x hx
  · rw [cell7 bu y (fun e => by rw [e] at tu; omega), cell6 bu y k2 (by omega)]; exact (h.cu y hy).1
  · rw [World.frozen?_setCell]; exact (frz6 bu y k2 (by omega)).trans (h.cu y hy).2
  · exact row7 (h.ru y hy) fun x hx => by have := h.tu y hy x hx; omega
  · rw [told ((h.ru y hy).lt x hx).2]; exact h.tu y hy x hx
  · exact h.rf.block ((blk bf (fun e => by rw [e] at tf; omega)).trans (blk6 bf k3 (by omega)))
  · rw [flat_append, List.length_append]
    exact row_map hrow fun x hx hl => blk x fun e => by
      rcases hat with h0 | h0
      · rw [h0] at hx; have := h.td x hx; rw [e] at this; omega
      · rw [h0] at hx; injection hx; omega
  · unfold tagAt; rw [if_pos hx]
/-- The map holds something else. -/
theorem Clo.setMap (h : Clo w lo T n C bu bf na vp vd V l U F D) {o : Obj} {F' : Sh → Option Int} (ho : ∀ w3 : World, w3.heap[bf]? = some o → SMap w3 bf F') : Clo (setBlock w bf o) lo T n C bu bf na vp vd V l U F' D := by
  have k1 := h.hC.2.1
  have k2 := h.hu.2.1
  have k3 := h.hf.2.1
  have tC := h.hC.2.2
  have tu := h.hu.2.2
  have tf := h.hf.2.2
  have blk : ∀ x, x ≠ bf → (setBlock w bf o).heap[x]? = w.heap[x]? := fun x hx => setB_ne x hx
  have cell : ∀ (x j : Nat), x ≠ bf → (setBlock w bf o).cell? ⟨x, j, none⟩ = w.cell? ⟨x, j, none⟩ := fun x j hx => World.cell?_of_block (a := ⟨x, j, none⟩) (blk x hx)
  have frz : ∀ (x j : Nat), x ≠ bf → (setBlock w bf o).frozen? ⟨x, j, none⟩ = w.frozen? ⟨x, j, none⟩ := fun x j hx => World.frozen?_of_block (a := ⟨x, j, none⟩) (blk x hx)
  have row : ∀ {b e s m : Nat} {v : Value} {xs : List Value}, w.ownsRow b e s v m xs → (∀ x, v.ownBlock = some x → T x ≠ 3) → (setBlock w bf o).ownsRow b e s v m xs := fun hr ht => row_map hr fun x hx hl => blk x (fun e => ht x hx (by rw [e]; exact tf))
  have hsz : (setBlock w bf o).heap.size = w.heap.size := setB_size ..
  have nC : C ≠ bf := fun e => by rw [e] at tC; omega
  have nu : bu ≠ bf := fun e => by rw [e] at tu; omega
  refine ⟨⟨h.hC.1, by omega, tC⟩, ⟨h.hu.1, by omega, tu⟩, ⟨h.hf.1, by omega, tf⟩, (cell C 0 nC).trans h.c0, (cell C 1 nC).trans h.c1, (cell C 2 nC).trans h.c2, (cell C 3 nC).trans h.c3, (cell C 4 nC).trans h.c4, (frz C 4 nC).trans h.fz, row h.rp (fun x hx => by have := h.tp x hx; omega), h.tp, fun y hy => ⟨(cell bu y nu).trans (h.cu y hy).1, (frz bu y nu).trans (h.cu y hy).2⟩, fun y hy => row (h.ru y hy) (fun x hx => by have := h.tu y hy x hx; omega), h.tu, ho _ ?_, row h.rd (fun x hx => by have := h.td x hx; omega), h.td⟩
  simp [setBlock, k3]
/-- A part is another one. -/
theorem Clo.setPart (h : Clo w lo T n C bu bf na vp vd V l U F D) {bp cp k : Nat} (hv : vp = .slice (some ⟨bp, 0, none⟩) n cp) (hk : k < n) (x : Int) : Clo (w.setCell ⟨bp, k, none⟩ (.int .i64 x)) lo T n C bu bf na vp vd V (l.set k x) U F D := by
  subst hv
  have k1 := h.hC.2.1
  have k2 := h.hu.2.1
  have k3 := h.hf.2.1
  have tC := h.hC.2.2
  have tu := h.hu.2.2
  have tf := h.hf.2.2
  have tp := h.tp bp rfl
  have blk : ∀ b, b ≠ bp → (w.setCell ⟨bp, k, none⟩ (.int .i64 x)).heap[b]? = w.heap[b]? := fun b hb => heap_setCell_other w ⟨bp, k, none⟩ b _ hb
  have cell : ∀ (b j : Nat), b ≠ bp → (w.setCell ⟨bp, k, none⟩ (.int .i64 x)).cell? ⟨b, j, none⟩ = w.cell? ⟨b, j, none⟩ := fun b j hb => World.cell?_of_block (a := ⟨b, j, none⟩) (blk b hb)
  have frz : ∀ (b j : Nat), (w.setCell ⟨bp, k, none⟩ (.int .i64 x)).frozen? ⟨b, j, none⟩ = w.frozen? ⟨b, j, none⟩ := fun b j => World.frozen?_setCell ..
  have row : ∀ {b e s m : Nat} {v : Value} {xs : List Value}, w.ownsRow b e s v m xs → (∀ z, v.ownBlock = some z → T z ≠ 1) → (w.setCell ⟨bp, k, none⟩ (.int .i64 x)).ownsRow b e s v m xs := fun hr ht => row_map hr fun z hz hl => blk z (fun e => ht z hz (by rw [e]; exact tp))
  have nC : C ≠ bp := fun e => by rw [e] at tC; omega
  have nu : bu ≠ bp := fun e => by rw [e] at tu; omega
  have nf : bf ≠ bp := fun e => by rw [e] at tf; omega
  have hst := (h.rp.stored k (.int .i64 x)).1
  refine ⟨⟨h.hC.1, by simp; omega, tC⟩, ⟨h.hu.1, by simp; omega, tu⟩, ⟨h.hf.1, by simp; omega, tf⟩, (cell C 0 nC).trans h.c0, (cell C 1 nC).trans h.c1, (cell C 2 nC).trans h.c2, (cell C 3 nC).trans h.c3, (cell C 4 nC).trans h.c4, (frz C 4).trans h.fz, ?_, h.tp, fun y hy => ⟨(cell bu y nu).trans (h.cu y hy).1, (frz bu y).trans (h.cu y hy).2⟩, fun y hy => row (h.ru y hy) (fun z hz => by have := h.tu y hy z hz; omega), h.tu, h.rf.block (blk bf nf), row h.rd (fun z hz => by have := h.td z hz; omega), h.td⟩
  have : vals (l.set k x) = (vals l).set k (.int .i64 x) := by simp [vals, List.map_set]
  rw [this]
  exact hst
/-- What is due without its last pair. -/
theorem Clo.popDue {a b : Int} (h : Clo w lo T n C bu bf na vp vd V l U F (D ++ [(a, b)])) : ∃ bd cd, vd = .slice (some ⟨bd, 0, none⟩) (D.length + 1) cd ∧ D.length + 1 ≤ cd ∧ w.cell? ⟨bd, D.length * 2, none⟩ = some (.int .i64 a) ∧ w.cell? ⟨bd, D.length * 2 + 1, none⟩ = some (.int .i64 b) ∧ bd ≠ C ∧ bd < w.heap.size ∧
    Clo (w.setCell ⟨C, 4, none⟩ (.slice (some ⟨bd, 0, none⟩) D.length cd)) lo T n C bu bf na vp (.slice (some ⟨bd, 0, none⟩) D.length cd) V l U F D := by
  have hrd := h.rd
  rw [List.length_append, List.length_singleton] at hrd
  have hcells := hrd
  obtain ⟨bd, cd, hvd, hbd, hcd⟩ : ∃ bd cd, vd = .slice (some ⟨bd, 0, none⟩) (D.length + 1) cd ∧ bd < w.heap.size ∧ D.length + 1 ≤ cd := by
    rcases hrd.2 with ⟨_, h0⟩ | ⟨g, cap, cur, e, _, hg, hcap, _⟩
    · omega
    · exact ⟨g, cap, e, (Array.getElem?_eq_some_iff.1 hg).1, hcap⟩
  subst hvd
  have k1 := h.hC.2.1
  have k2 := h.hu.2.1
  have k3 := h.hf.2.1
  have tC := h.hC.2.2
  have tu := h.hu.2.2
  have tf := h.hf.2.2
  have td := h.td bd rfl
  have hbC : bd ≠ C := fun e => by rw [e] at td; omega
  have e0 : (flat (D ++ [(a, b)]))[D.length * 2]? = some (.int .i64 a) := by rw [flat_append, List.getElem?_append_right (by rw [flat_len]; omega), flat_len, Nat.sub_self]; rfl
  have e1 : (flat (D ++ [(a, b)]))[D.length * 2 + 1]? = some (.int .i64 b) := by rw [flat_append, List.getElem?_append_right (by rw [flat_len]; omega), flat_len, show D.length * 2 + 1 - D.length * 2 = 1 by omega]; rfl
  have blk : ∀ x, x ≠ C → (w.setCell ⟨C, 4, none⟩ (.slice (some ⟨bd, 0, none⟩) D.length cd)).heap[x]? = w.heap[x]? := fun x hx => heap_setCell_other w ⟨C, 4, none⟩ x _ hx
  have cell7 : ∀ (x j : Nat), x ≠ C → (w.setCell ⟨C, 4, none⟩ (.slice (some ⟨bd, 0, none⟩) D.length cd)).cell? ⟨x, j, none⟩ = w.cell? ⟨x, j, none⟩ := fun x j hx => World.cell?_of_block (a := ⟨x, j, none⟩) (blk x hx)
  have cellC : ∀ j, j ≠ 4 → (w.setCell ⟨C, 4, none⟩ (.slice (some ⟨bd, 0, none⟩) D.length cd)).cell? ⟨C, j, none⟩ = w.cell? ⟨C, j, none⟩ := fun j hj => World.cell?_setCell_other _ _ _ _ (by intro e; cases e; exact hj rfl)
  have row7 : ∀ {b e s m : Nat} {v : Value} {xs : List Value}, w.ownsRow b e s v m xs → (∀ x, v.ownBlock = some x → T x ≠ 0) → (w.setCell ⟨C, 4, none⟩ (.slice (some ⟨bd, 0, none⟩) D.length cd)).ownsRow b e s v m xs := fun hr ht => row_map hr fun x hx hl => blk x (fun e => ht x hx (by rw [e]; exact tC))
  have hpop : w.ownsRow lo 135 2 (.slice (some ⟨bd, 0, none⟩) D.length cd) D.length (flat D) := by
    have : flat (D ++ [(a, b)]) = flat D ++ [.int .i64 a, .int .i64 b] := flat_append _ _
    rw [this] at hrd
    exact ownsRow_pop (flat_len D) hrd
  refine ⟨bd, cd, rfl, hcd, (hcells.cellAt (D.length * 2) (by omega)).trans e0, (hcells.cellAt (D.length * 2 + 1) (by omega)).trans e1, hbC, hbd, ⟨h.hC.1, by simp; omega, tC⟩, ⟨h.hu.1, by simp; omega, tu⟩, ⟨h.hf.1, by simp; omega, tf⟩, (cellC 0 (by omega)).trans h.c0, (cellC 1 (by omega)).trans h.c1, (cellC 2 (by omega)).trans h.c2, (cellC 3 (by omega)).trans h.c3, World.cell?_setCell_same _ _ _ h.c4, ?_, ?_, h.tp, fun y hy => ⟨?_, ?_⟩, fun y hy => ?_, h.tu, ?_, ?_, fun x hx => ?_⟩
  · rw [World.frozen?_setCell]; exact h.fz
  · exact row7 h.rp fun x hx => by have := h.tp x hx; omega
  · rw [cell7 bu y (fun e => by rw [e] at tu; omega)]; exact (h.cu y hy).1
  · rw [World.frozen?_setCell]; exact (h.cu y hy).2
  · exact row7 (h.ru y hy) fun x hx => by have := h.tu y hy x hx; omega
  · exact h.rf.block (blk bf (fun e => by rw [e] at tf; omega))
  · exact row7 hpop fun x hx => by injection hx with hx; rw [← hx]; simp only; omega
  · injection hx with hx; rw [← hx]; exact td
/-- Users more of one part, ahead of their storing. -/
theorem Clo.userRow (h : Clo w lo T n C bu bf na vp vd V l U F D) {y0 : Nat} (hy0 : y0 < n) {w6 : World} {v6 : Value} {us : List Int} (hrow : w6.ownsRow lo 3 1 v6 ((U y0).length + us.length) (vals (U y0) ++ vals us)) (hg : w.grownBy w6 (V y0).ownBlock) (hat : v6.ownBlock = (V y0).ownBlock ∨ v6.ownBlock = some w.heap.size) :
    w6.cell? ⟨bu, y0, none⟩ = some (V y0) ∧ w6.frozen? ⟨bu, y0, none⟩ = false ∧ w6.cell? ⟨C, 2, none⟩ = some (.slice (some ⟨bu, 0, none⟩) n n) ∧ Clo (w6.setCell ⟨bu, y0, none⟩ v6) lo (tagAt T v6 (5 + y0)) n C bu bf na vp vd (fun y => if y = y0 then v6 else V y) l (fun y => if y = y0 then U y0 ++ us else U y) F D := by
  have hs := hg.size
  have told : ∀ {x : Nat}, x < w.heap.size → tagAt T v6 (5 + y0) x = T x := fun hx => tagAt_old hat (h.tu y0 hy0) hx
  have blk6 : ∀ x, x < w.heap.size → T x ≠ 5 + y0 → w6.heap[x]? = w.heap[x]? := fun x hx ht => hg.block x hx (fun e => ht (h.tu y0 hy0 x e.symm))
  have k1 := h.hC.2.1
  have k2 := h.hu.2.1
  have k3 := h.hf.2.1
  have cell6 : ∀ (x j : Nat), x < w.heap.size → T x ≠ 5 + y0 → w6.cell? ⟨x, j, none⟩ = w.cell? ⟨x, j, none⟩ := fun x j hx ht => World.cell?_of_block (a := ⟨x, j, none⟩) (blk6 x hx ht)
  have frz6 : ∀ (x j : Nat), x < w.heap.size → T x ≠ 5 + y0 → w6.frozen? ⟨x, j, none⟩ = w.frozen? ⟨x, j, none⟩ := fun x j hx ht => World.frozen?_of_block (a := ⟨x, j, none⟩) (blk6 x hx ht)
  have tC := h.hC.2.2
  have tu := h.hu.2.2
  have tf := h.hf.2.2
  have cB := (cell6 bu y0 k2 (by omega)).trans (h.cu y0 hy0).1
  have blk : ∀ x, x ≠ bu → (w6.setCell ⟨bu, y0, none⟩ v6).heap[x]? = w6.heap[x]? := fun x hx => heap_setCell_other w6 ⟨bu, y0, none⟩ x v6 hx
  have nC : C ≠ bu := fun e => by rw [e] at tC; omega
  have cell7 : ∀ (x j : Nat), x ≠ bu → x < w.heap.size → T x ≠ 5 + y0 → (w6.setCell ⟨bu, y0, none⟩ v6).cell? ⟨x, j, none⟩ = w.cell? ⟨x, j, none⟩ := fun x j hx hl ht => (World.cell?_of_block (a := ⟨x, j, none⟩) (blk x hx)).trans (cell6 x j hl ht)
  have row7 : ∀ {b e s m : Nat} {v : Value} {xs : List Value}, w.ownsRow b e s v m xs → (∀ x, v.ownBlock = some x → T x ≠ 5 + y0 ∧ T x ≠ 2) → (w6.setCell ⟨bu, y0, none⟩ v6).ownsRow b e s v m xs := fun hr ht => row_map hr fun x hx hl => (blk x (fun e => (ht x hx).2 (by rw [e]; exact tu))).trans (blk6 x hl (ht x hx).1)
  refine ⟨cB, (frz6 bu y0 k2 (by omega)).trans (h.cu y0 hy0).2, (cell6 C 2 k1 (by omega)).trans h.c2, ⟨h.hC.1, by simp; omega, (told k1).trans tC⟩, ⟨h.hu.1, by simp; omega, (told k2).trans tu⟩, ⟨h.hf.1, by simp; omega, (told k3).trans tf⟩, (cell7 C 0 nC k1 (by omega)).trans h.c0, (cell7 C 1 nC k1 (by omega)).trans h.c1, (cell7 C 2 nC k1 (by omega)).trans h.c2, (cell7 C 3 nC k1 (by omega)).trans h.c3, (cell7 C 4 nC k1 (by omega)).trans h.c4, ?_, ?_, fun x hx => ?_, fun y hy => ⟨?_, ?_⟩, fun y hy => ?_, fun y hy x hx => ?_, ?_, ?_, fun x hx => ?_⟩
  · rw [World.frozen?_setCell]; exact (frz6 C 4 k1 (by omega)).trans h.fz
  · exact row7 h.rp fun x hx => by have := h.tp x hx; omega
  · rw [told (h.rp.lt x hx).2]; exact h.tp x hx
  · by_cases e : y = y0
    · subst e
      simp only [if_pos]
      exact World.cell?_setCell_same _ _ _ cB
    · simp only [if_neg e]
      rw [World.cell?_setCell_other _ _ _ _ (by intro e1; cases e1; exact e rfl), cell6 bu y k2 (by omega)]
      exact (h.cu y hy).1
  · rw [World.frozen?_setCell]; exact (frz6 bu y k2 (by omega)).trans (h.cu y hy).2
  · by_cases e : y = y0
    · subst e
      simp only [if_pos]
      rw [vals_append, List.length_append]
      exact row_map hrow fun x hx hl => blk x fun e => by
        rcases hat with h0 | h0
        · rw [h0] at hx; have := h.tu y hy x hx; rw [e] at this; omega
        · rw [h0] at hx; injection hx; omega
    · simp only [if_neg e]
      exact row7 (h.ru y hy) fun x hx => by have := h.tu y hy x hx; omega
  · by_cases e : y = y0
    · subst e
      simp only [if_pos] at hx
      unfold tagAt
      rw [if_pos hx]
    · simp only [if_neg e] at hx
      rw [told ((h.ru y hy).lt x hx).2]; exact h.tu y hy x hx
  · exact h.rf.block ((blk bf (fun e => by rw [e] at tf; omega)).trans (blk6 bf k3 (by omega)))
  · exact row7 h.rd fun x hx => by have := h.td x hx; omega
  · rw [told (h.rd.lt x hx).2]; exact h.td x hx
end
end Go.Proofs.YtobgkfpjokfbaaaGreatDoor
namespace Go.Proofs.YtobgkfpjokfbaaaGreatDoor
open Go.ChangeShapes Go.WideShapes Go.ChangeAt Go.RowKit
open Go.MapKept Go.ChangeMaps
set_option linter.unusedVariables false

theorem clo_start {wx : World} {lo n C bu bf : Nat} {na vp : Value} {l : List Int} (hC : lo ≤ C ∧ C < wx.heap.size) (hu : lo ≤ bu ∧ bu < wx.heap.size) (hf : lo ≤ bf ∧ bf < wx.heap.size) (hne : C ≠ bu ∧ C ≠ bf ∧ bu ≠ bf) (hv : ∀ x, vp.ownBlock = some x → x ≠ C ∧ x ≠ bu ∧ x ≠ bf)
    (c0 : wx.cell? ⟨C, 0, none⟩ = some na) (c1 : wx.cell? ⟨C, 1, none⟩ = some vp) (c2 : wx.cell? ⟨C, 2, none⟩ = some (.slice (some ⟨bu, 0, none⟩) n n)) (c3 : wx.cell? ⟨C, 3, none⟩ = some (.map (some bf))) (c4 : wx.cell? ⟨C, 4, none⟩ = some (.slice none 0 0)) (fz : wx.frozen? ⟨C, 4, none⟩ = false)
    (hcu : ∀ y, y < n → wx.cell? ⟨bu, y, none⟩ = some (.slice none 0 0) ∧ wx.frozen? ⟨bu, y, none⟩ = false) (hm : wx.heap[bf]? = some (.map #[] 0)) (rp : wx.ownsRow lo 3 1 vp n (vals l)) :
    Clo wx lo (fun b => if b = C then 0 else if b = bu then 2 else if b = bf then 3 else 1) n C bu bf na vp (.slice none 0 0) (fun _ => .slice none 0 0) l (fun _ => []) (fun _ => none) [] := by
  obtain ⟨h1, h2, h3⟩ := hne
  refine ⟨⟨hC.1, hC.2, if_pos rfl⟩, ⟨hu.1, hu.2, ?_⟩, ⟨hf.1, hf.2, ?_⟩, c0, c1, c2, c3, c4, fz, rp, fun x hx => ?_, hcu, fun y hy => World.ownsRow_nil _ _ _ _, fun y hy x hx => ?_, smap_empty (clock := 0) hm, World.ownsRow_nil _ _ _ _, fun x hx => ?_⟩
  · simp [Ne.symm h1]
  · simp [Ne.symm h2, Ne.symm h3]
  · obtain ⟨q1, q2, q3⟩ := hv x hx
    simp [q1, q2, q3]
  · simp [Value.ownBlock] at hx
  · simp [Value.ownBlock] at hx
end Go.Proofs.YtobgkfpjokfbaaaGreatDoor
