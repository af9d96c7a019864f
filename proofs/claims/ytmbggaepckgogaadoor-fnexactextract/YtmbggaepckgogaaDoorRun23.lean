/-
  PROVED HERE: the cheapest term of a class, plainly: its classes fall, so it ends. No condition. what the program's chooserOf and the functions that it hands back answer, at every graph; the table of costs is laid. No other condition.
-/
import Derived.Test.YtmbggaepckgogaaDoorRun22
import Derived.Test.YtmbggaepckgogaaDoorRun19
import Derived.Deep.RegionHeld3
import Derived.Deep.CutRange
namespace Go.Proofs.YtmbggaepckgogaaDoor
open Go.ChangeShapes Go.WideShapes Go.ChangeAt Go.RowKit
set_option linter.unusedVariables false

/-- A class that costs less, or as much with a lesser number. -/
def fallsB (B : List Int) (y c : Nat) : Bool := decide (B.getD y 0 < B.getD c 0 ∨ (B.getD y 0 = B.getD c 0 ∧ y < c))
/-- How many numbers below n fall below c. -/
def cntF (B : List Int) (c : Nat) : Nat → Nat
  | 0 => 0
  | n + 1 => cntF B c n + (if fallsB B n c = true then 1 else 0)
theorem falls_trans {B : List Int} {x y c : Nat} (h : fallsB B x y = true) (h' : fallsB B y c = true) : fallsB B x c = true := by
  unfold fallsB at *
  simp only [decide_eq_true_eq] at *
  omega
theorem cntF_le {B : List Int} {y c : Nat} (h : fallsB B y c = true) : ∀ n, cntF B y n ≤ cntF B c n
  | 0 => Nat.le_refl _
  | n + 1 => by
    have := cntF_le h n
    simp only [cntF]
    by_cases hn : fallsB B n y = true
    · rw [if_pos hn, if_pos (falls_trans hn h)]; omega
    · rw [if_neg hn]; split <;> omega
theorem cntF_lt {B : List Int} {y c : Nat} (h : fallsB B y c = true) : ∀ n, y < n → cntF B y n < cntF B c n
  | 0, hy => absurd hy (Nat.not_lt_zero _)
  | n + 1, hy => by
    simp only [cntF]
    by_cases e : y = n
    · subst e
      have := cntF_le h y
      have hn : ¬ fallsB B y y = true := by unfold fallsB; simp
      rw [if_neg hn, if_pos h]; omega
    · have := cntF_lt h n (by omega)
      by_cases hn : fallsB B n y = true
      · rw [if_pos hn, if_pos (falls_trans hn h)]; omega
      · rw [if_neg hn]; split <;> omega
theorem cntF_n (B : List Int) (c : Nat) : ∀ n, cntF B c n ≤ n
  | 0 => Nat.le_refl _
  | n + 1 => by
    have := cntF_n B c n
    simp only [cntF]
    split <;> omega
/-- The classes below a chosen node fall. -/
theorem cho_falls {p : List EN} {l B : List Int} (hg : CostG p l) (hb : BestC p l B) (hs : StillP p l B) {c j : Nat} (hc : c < p.length) (hcl : l.getD c 0 = c) (h : IsCho p l B c j) {y : Int} (hy : y ∈ (p.getD j e0).2.2) (hy0 : 0 ≤ y) : fallsB B y.toNat c = true ∧ y.toNat < p.length ∧ l.getD y.toNat 0 = (y.toNat : Int) := by
  obtain ⟨h1, h2, h3, h4⟩ := h
  have hin := best_in hb
  obtain ⟨k1, k2⟩ := hg.kids j h1 y hy
  have hpy := hg.pos y.toNat (by omega)
  refine ⟨?_, by omega, by unfold clsN at k2; omega⟩
  have hsum : ∀ ks : List Int, y ∈ ks → B.getD y.toNat 0 ≤ sumK B ks := by
    intro ks
    induction ks with
    | nil => intro h; cases h
    | cons x r ih =>
      intro h
      simp only [sumK]
      have q1 := hin.get x.toNat
      have q2 := (sumK_in hin r).1
      rcases List.mem_cons.1 h with e | e
      · subst e; omega
      · have := ih e; omega
  have hs1 := hsum _ hy
  have hcst := cst_pos (p.getD j e0).1
  have hBy := hin.get y.toNat
  have hBc := hin.get c
  unfold priceB at h3
  unfold fallsB
  simp only [decide_eq_true_eq]
  by_cases ht : B.getD c 0 = topC
  · by_cases hty : B.getD y.toNat 0 = topC
    · right
      refine ⟨by omega, ?_⟩
      have hjc : j ≤ c := by
        apply Classical.byContradiction
        intro hlt
        have q1 := still_ge hs hc hcl
        have q2 := (price_in hin (p.getD c e0)).2
        exact h4 c (by omega) ⟨hcl, by omega⟩
      omega
    · left; omega
  · left; omega
theorem flatMap_same {α β : Type} {f g : α → List β} : ∀ (l : List α), (∀ a ∈ l, f a = g a) → l.flatMap f = l.flatMap g
  | [], _ => rfl
  | x :: r, h => by
    rw [List.flatMap_cons, List.flatMap_cons, h x (by simp), flatMap_same r (fun a ha => h a (by simp [ha]))]
/-- The term of a class, so far as so many steps go. -/
def tmF (p : List EN) (ch : Nat → Nat) : Nat → Nat → List (Int × Int)
  | 0, _ => []
  | f + 1, c => ((p.getD (ch c) e0).2.2.flatMap fun y => tmF p ch f y.toNat) ++ [((p.getD (ch c) e0).1, (p.getD (ch c) e0).2.1)]
/-- A choice for each class. -/
def ChF (p : List EN) (l B : List Int) (ch : Nat → Nat) : Prop := ∀ c, c < p.length → l.getD c 0 = c → IsCho p l B c (ch c)
theorem chF_some {p : List EN} {l B : List Int} (hg : CostG p l) (hb : BestC p l B) (hs : StillP p l B) : ∃ ch, ChF p l B ch := by
  have h : ∀ c : Nat, ∃ j : Nat, c < p.length → l.getD c 0 = c → IsCho p l B c j := fun c => by
    by_cases hc : c < p.length ∧ l.getD c 0 = c
    · obtain ⟨j0, j1, j2, j3⟩ := cls_att hg hb hs hc.1 hc.2
      have hex : ∃ j, j < p.length ∧ l.getD j 0 = c ∧ priceB B (p.getD j e0) = B.getD c 0 := ⟨j0, j1, j2, j3⟩
      have : ∀ N j, j ≤ N → (j < p.length ∧ l.getD j 0 = c ∧ priceB B (p.getD j e0) = B.getD c 0) → ∃ j, IsCho p l B c j := by
        intro N
        induction N with
        | zero => intro j hj hP; exact ⟨j, hP.1, hP.2.1, hP.2.2, fun i hi => by omega⟩
        | succ N ih =>
          intro j hj hP
          by_cases hsm : ∃ i, i < j ∧ (l.getD i 0 = c ∧ priceB B (p.getD i e0) = B.getD c 0)
          · obtain ⟨i, hi, hPi⟩ := hsm
            exact ih i (by omega) ⟨by omega, hPi⟩
          · exact ⟨j, hP.1, hP.2.1, hP.2.2, fun i hi hPi => hsm ⟨i, hi, hPi⟩⟩
      obtain ⟨j, hj⟩ := this j0 j0 (Nat.le_refl _) ⟨j1, j2, j3⟩
      exact ⟨j, fun _ _ => hj⟩
    · exact ⟨0, fun h1 h2 => absurd ⟨h1, h2⟩ hc⟩
  exact ⟨fun c => Classical.choose (h c), fun c => Classical.choose_spec (h c)⟩
theorem tm_fuel {p : List EN} {l B : List Int} {ch : Nat → Nat} (hg : CostG p l) (hb : BestC p l B) (hs : StillP p l B) (hlow : ∀ k, k < p.length → ∀ y ∈ (p.getD k e0).2.2, 0 ≤ y) (hch : ChF p l B ch) : ∀ N c, cntF B c p.length ≤ N → c < p.length → l.getD c 0 = c → ∀ f f', N < f → N < f' → tmF p ch f c = tmF p ch f' c := by
  intro N
  induction N with
  | zero =>
    intro c hN hc hcl f f' hf hf'
    obtain ⟨f, rfl⟩ : ∃ g, f = g + 1 := ⟨f - 1, by omega⟩
    obtain ⟨f', rfl⟩ : ∃ g, f' = g + 1 := ⟨f' - 1, by omega⟩
    simp only [tmF]
    have hC := hch c hc hcl
    have : (p.getD (ch c) e0).2.2 = [] := by
      apply List.eq_nil_iff_forall_not_mem.2
      intro y hy
      obtain ⟨q1, q2, q3⟩ := cho_falls hg hb hs hc hcl hC hy (hlow _ hC.1 y hy)
      have := cntF_lt q1 p.length q2
      omega
    rw [this]
    rfl
  | succ N ih =>
    intro c hN hc hcl f f' hf hf'
    obtain ⟨f, rfl⟩ : ∃ g, f = g + 1 := ⟨f - 1, by omega⟩
    obtain ⟨f', rfl⟩ : ∃ g, f' = g + 1 := ⟨f' - 1, by omega⟩
    simp only [tmF]
    have hC := hch c hc hcl
    congr 1
    apply flatMap_same
    intro y hy
    obtain ⟨q1, q2, q3⟩ := cho_falls hg hb hs hc hcl hC hy (hlow _ hC.1 y hy)
    have := cntF_lt q1 p.length q2
    exact ih y.toNat (by omega) q2 q3 f f' (by omega) (by omega)
/-- The term of a class. -/
def tmT (p : List EN) (ch : Nat → Nat) (c : Nat) : List (Int × Int) := tmF p ch (p.length + 1) c
theorem tmT_eq {p : List EN} {l B : List Int} {ch : Nat → Nat} (hg : CostG p l) (hb : BestC p l B) (hs : StillP p l B) (hlow : ∀ k, k < p.length → ∀ y ∈ (p.getD k e0).2.2, 0 ≤ y) (hch : ChF p l B ch) {c : Nat} (hc : c < p.length) (hcl : l.getD c 0 = c) : tmT p ch c = ((p.getD (ch c) e0).2.2.flatMap fun y => tmT p ch y.toNat) ++ [((p.getD (ch c) e0).1, (p.getD (ch c) e0).2.1)] := by
  have hC := hch c hc hcl
  unfold tmT
  conv => lhs; simp only [tmF]
  congr 1
  apply flatMap_same
  intro y hy
  obtain ⟨q1, q2, q3⟩ := cho_falls hg hb hs hc hcl hC hy (hlow _ hC.1 y hy)
  have h1 := cntF_lt q1 p.length q2
  have h2 := cntF_n B c p.length
  exact tm_fuel hg hb hs hlow hch (p.length - 1) y.toNat (by omega) q2 q3 _ _ (by omega) (by omega)
/-- L is X where X is not too long, and too long too where it is. -/
def TruncT (X L : List (Int × Int)) : Prop := (X.length ≤ 40 → L = X) ∧ (40 < X.length → 40 < L.length)
theorem trunc_self (X : List (Int × Int)) : TruncT X X := ⟨fun _ => rfl, fun h => h⟩
/-- What the first k kids make. -/
def tmK (p : List EN) (ch : Nat → Nat) (ks : List Int) (k : Nat) : List (Int × Int) := (ks.take k).flatMap fun y => tmT p ch y.toNat
theorem tmK_succ (p : List EN) (ch : Nat → Nat) (ks : List Int) {k : Nat} (hk : k < ks.length) : tmK p ch ks (k + 1) = tmK p ch ks k ++ tmT p ch (ks.getD k 0).toNat := by
  unfold tmK
  rw [List.take_succ_eq_append_getElem hk, List.flatMap_append, getI_lt hk]
  simp
theorem tmK_all (p : List EN) (ch : Nat → Nat) (ks : List Int) : tmK p ch ks ks.length = ks.flatMap fun y => tmT p ch y.toNat := by
  unfold tmK; rw [List.take_length]
theorem tmK_more (p : List EN) (ch : Nat → Nat) (ks : List Int) {k k' : Nat} (h : k ≤ k') : (tmK p ch ks k).length ≤ (tmK p ch ks k').length := by
  unfold tmK
  have : ks.take k = (ks.take k').take k := by rw [List.take_take, Nat.min_eq_left h]
  rw [this]
  conv => rhs; rw [← List.take_append_drop k (ks.take k')]
  rw [List.flatMap_append, List.length_append]
  omega
end Go.Proofs.YtmbggaepckgogaaDoor
namespace Go.Proofs.YtmbggaepckgogaaDoor
open Go.ChangeShapes Go.WideShapes Go.ChangeAt Go.RowKit
set_option linter.unusedVariables false

def cmpI (x y : Int) : Int := if x < y then -1 else if x > y then 1 else 0
theorem isNaN_any (x : Int) (w : World) : Calls Tryd.prog 75 #[.int .i64 x] w fun e w' => e = .returned (.bool false) ∧ w' = w := by
  have hx : (x != x) = false := by simp
  go_enter Tryd.func75, Tryd.ntmps75
  go_wp2
  go_ret
  exact ⟨by first | rfl | simp, rfl⟩
theorem compare_any (x y : Int) (w : World) : Calls Tryd.prog 60 #[.int .i64 x, .int .i64 y] w fun e w' => e = .returned (.int .i64 (cmpI x y)) ∧ w' = w := by
  have HX : Hid (∀ z W, Calls Tryd.prog 75 #[.int .i64 z] W fun e w' => e = .returned (.bool false) ∧ w' = W) := fun z W => isNaN_any z W
  unfold cmpI
  by_cases h1 : x < y
  · rw [if_pos h1]
    go_enter Tryd.func60, Tryd.ntmps60
    go_wp2_with (go_at_call 75; refine Calls.mono (HX.out _ _) ?_; rintro e w2 ⟨rfl, rfl⟩)
    go_ret
    exact ⟨rfl, rfl⟩
  · rw [if_neg h1]
    by_cases h2 : x > y
    · rw [if_pos h2]
      go_enter Tryd.func60, Tryd.ntmps60
      go_wp2_with (go_at_call 75; refine Calls.mono (HX.out _ _) ?_; rintro e w2 ⟨rfl, rfl⟩)
      go_ret
      exact ⟨rfl, rfl⟩
    · rw [if_neg h2]
      go_enter Tryd.func60, Tryd.ntmps60
      go_wp2_with (go_at_call 75; refine Calls.mono (HX.out _ _) ?_; rintro e w2 ⟨rfl, rfl⟩)
      go_ret
      exact ⟨rfl, rfl⟩
/-- What chooserOf leaves in memory. -/
structure ChoAt (W : World) (p : List EN) (l B : List Int) (a b : Option Addr) (n cap lb cb qg qp qc q G : Nat) : Prop where
  cst : Cst W
  es : ESl W a n p
  sl : Sl W b lb l
  row : Sl W (some ⟨G, 0, none⟩) n B
  g0 : W.cell? ⟨qg, 0, none⟩ = some (.slice a n cap)
  g1 : W.cell? ⟨qg, 1, none⟩ = some (.slice b lb cb)
  pf : W.cell? ⟨qp, 0, none⟩ = some (.func (.func 74) #[] #[.pointer (some ⟨q, 0, none⟩)])
  cf : W.cell? ⟨qc, 0, none⟩ = some (.func (.func 59) #[] #[.pointer (some ⟨qp, 0, none⟩), .pointer (some ⟨qg, 0, none⟩)])
  q0 : W.cell? ⟨q, 0, none⟩ = some (.slice (some ⟨G, 0, none⟩) n n)
theorem ChoAt.keep {W W' : World} {p : List EN} {l B : List Int} {a b : Option Addr} {n cap lb cb qg qp qc q G : Nat} (h : ChoAt W p l B a b n cap lb cb qg qp qc q G) (hb : Below W.heap.size W W') : ChoAt W' p l B a b n cap lb cb qg qp qc q G :=
  ⟨h.cst.keeps hb, h.es.keep hb, h.sl.keep hb, h.row.keep hb, (hb.cell (p := ⟨qg, 0, none⟩) (World.block_lt_of_cell? _ _ h.g0)).trans h.g0, (hb.cell (p := ⟨qg, 1, none⟩) (World.block_lt_of_cell? _ _ h.g1)).trans h.g1, (hb.cell (p := ⟨qp, 0, none⟩) (World.block_lt_of_cell? _ _ h.pf)).trans h.pf, (hb.cell (p := ⟨qc, 0, none⟩) (World.block_lt_of_cell? _ _ h.cf)).trans h.cf, (hb.cell (p := ⟨q, 0, none⟩) (World.block_lt_of_cell? _ _ h.q0)).trans h.q0⟩
/-- What a graph must have for its costs to be asked. -/
structure CostI (p : List EN) (l B : List Int) (n lb : Nat) : Prop where
  g : CostG p l
  len : p.length = n
  llen : l.length = lb
  few : ∀ i, i < n → (p.getD i e0).2.2.length ≤ 3
  low : ∀ k, k < p.length → ∀ y ∈ (p.getD k e0).2.2, 0 ≤ y
  ops : ∀ i, i < p.length → 1 ≤ (p.getD i e0).1 ∧ (p.getD i e0).1 ≤ 11
  cin : InC B n
  small : n ≤ 120
theorem CostI.lb_eq {p : List EN} {l B : List Int} {n lb : Nat} (h : CostI p l B n lb) : lb = n := by
  have := h.g.len
  have := h.len
  have := h.llen
  omega
/-- A node's price, asked of the function that tells prices. -/
theorem priceAt_any {p : List EN} {l B : List Int} {n lb : Nat} (hI : CostI p l B n lb) {W : World} {a b : Option Addr} {cap cb qg qp qc q G : Nat} (hA : ChoAt W p l B a b n cap lb cb qg qp qc q G) {x : Nat} (hx : x < n) : ∃ (bn on : Nat) (yo yn : Int) (ai : Option Addr) (li ci : Nat), a = some ⟨bn, on, none⟩ ∧
    (∀ W', Below W.heap.size W W' → (W'.cell? ⟨bn, on + x * 3, none⟩ = some (.int .i64 yo) ∧ W'.cell? ⟨bn, on + x * 3 + 1, none⟩ = some (.int .i64 yn) ∧ W'.cell? ⟨bn, on + x * 3 + 2, none⟩ = some (.slice ai li ci)) ∧ Calls Tryd.prog 74 #[.agg #[.int .i64 yo, .int .i64 yn, .slice ai li ci], .pointer (some ⟨q, 0, none⟩)] W' fun e w' => e = .returned (.int .i64 (priceB B (p.getD x e0))) ∧ Below W'.heap.size W' w') := by
  obtain ⟨hg, hpl, hll, hfew, hlow, hop, hin, h120⟩ := hI
  have hE := hA.es
  obtain ⟨bn, on, rfl, hbl, hc⟩ := hE.at (by omega)
  obtain ⟨ai, li, ci, c1, c2, c3, hli, hci, hS⟩ := hc x hx
  obtain ⟨y, hy⟩ : ∃ y, p.getD x e0 = y := ⟨_, rfl⟩
  have hopx := hop x (by omega)
  have hkd := hg.kids x (by omega)
  have hl0 := hlow x (by omega)
  have h3 := hfew x hx
  rw [hy] at c1 c2 hS hopx hkd hl0 h3
  rw [hy]
  obtain ⟨yo, yn, yk⟩ := y
  simp only at c1 c2 hS hopx hkd hl0 h3
  refine ⟨bn, on, yo, yn, ai, li, ci, rfl, fun W' hW => ?_⟩
  have hA' := hA.keep hW
  refine ⟨⟨(hW.cell (p := ⟨bn, on + x * 3, none⟩) hbl).trans c1, (hW.cell (p := ⟨bn, on + x * 3 + 1, none⟩) hbl).trans c2, (hW.cell (p := ⟨bn, on + x * 3 + 2, none⟩) hbl).trans c3⟩, ?_⟩
  have hyn : ((yo.toNat : Nat) : Int) = yo := by omega
  have := price_any yo.toNat yn ⟨by omega, by omega⟩ ai li ci yk q (some ⟨G, 0, none⟩) n n B W' hA'.cst hA'.q0 (hS.keep hW) hA'.row hin (fun i hi => by
    have hm : yk.getD i 0 ∈ yk := by
      rw [getI_lt (by have := hS.1; omega)]
      exact List.getElem_mem _
    have := (hkd _ hm).1
    have h0 := hl0 _ hm
    exact ⟨(yk.getD i 0).toNat, by omega, by omega⟩) (by have := hS.1; omega) (by omega)
  rw [hyn] at this
  exact this
set_option maxHeartbeats 3200000 in
set_option maxRecDepth 20000 in
theorem cheaper_any {p : List EN} {l B : List Int} {n lb : Nat} (hI : CostI p l B n lb) {W : World} {a b : Option Addr} {cap cb qg qp qc q G : Nat} (hA : ChoAt W p l B a b n cap lb cb qg qp qc q G) {x y : Nat} (hx : x < n) (hy : y < n) :
    Calls Tryd.prog 59 #[.int .i64 x, .int .i64 y, .pointer (some ⟨qp, 0, none⟩), .pointer (some ⟨qg, 0, none⟩)] W fun e w' => e = .returned (.int .i64 (cmpI (priceB B (p.getD x e0)) (priceB B (p.getD y e0)))) ∧ Below W.heap.size W w' := by
  obtain ⟨bn, on, xo, xn, ax, lx, cx, rfl, hX⟩ := priceAt_any hI hA hx
  obtain ⟨bn', on', yo, yn, ay, ly, cy, e, hY⟩ := priceAt_any hI hA hy
  cases e
  have hKA : ∀ W', Below W.heap.size W W' → (W'.cell? ⟨qp, 0, none⟩ = some (.func (.func 74) #[] #[.pointer (some ⟨q, 0, none⟩)]) ∧ W'.cell? ⟨qg, 0, none⟩ = some (.slice (some ⟨bn, on, none⟩) n cap) ∧ W'.cell? ⟨bn, on + x * 3, none⟩ = some (.int .i64 xo) ∧ W'.cell? ⟨bn, on + x * 3 + 1, none⟩ = some (.int .i64 xn) ∧ W'.cell? ⟨bn, on + x * 3 + 2, none⟩ = some (.slice ax lx cx) ∧ W'.cell? ⟨bn, on + y * 3, none⟩ = some (.int .i64 yo) ∧ W'.cell? ⟨bn, on + y * 3 + 1, none⟩ = some (.int .i64 yn) ∧ W'.cell? ⟨bn, on + y * 3 + 2, none⟩ = some (.slice ay ly cy)) := fun W' hW => ⟨(hA.keep hW).pf, (hA.keep hW).g0, (hX W' hW).1.1, (hX W' hW).1.2.1, (hX W' hW).1.2.2, (hY W' hW).1.1, (hY W' hW).1.2.1, (hY W' hW).1.2.2⟩
  have HPX := fun W' hW => (hX W' hW).2
  have HPY := fun W' hW => (hY W' hW).2
  have hxn : (x : Int) < n := by omega
  have hyn : (y : Int) < n := by omega
  have HCM := fun (u v : Int) (W : World) => compare_any u v W
  generalize priceB B (p.getD x e0) = u at HPX ⊢
  generalize priceB B (p.getD y e0) = v at HPY ⊢
  have hBd : Below W.heap.size W W.drew := (Below.refl _ _).drew
  have zD := hKA W.drew hBd
  clear hA hI hX hY hx hy
  go_enter Tryd.func59, Tryd.ntmps59
  go_upto_region 1 with fail
  go_region_held3 (fun w' => w'.cell? ⟨qp, 0, none⟩ = some (.func (.func 74) #[] #[.pointer (some ⟨q, 0, none⟩)]) ∧ w'.cell? ⟨qg, 0, none⟩ = some (.slice (some ⟨bn, on, none⟩) n cap) ∧ w'.cell? ⟨bn, on + x * 3, none⟩ = some (.int .i64 xo) ∧ w'.cell? ⟨bn, on + x * 3 + 1, none⟩ = some (.int .i64 xn) ∧ w'.cell? ⟨bn, on + x * 3 + 2, none⟩ = some (.slice ax lx cx) ∧ w'.cell? ⟨bn, on + y * 3, none⟩ = some (.int .i64 yo) ∧ w'.cell? ⟨bn, on + y * 3 + 1, none⟩ = some (.int .i64 yn) ∧ w'.cell? ⟨bn, on + y * 3 + 2, none⟩ = some (.slice ay ly cy))
    (first | with_reducible assumption | assumption)
    (first
    | (go_at_call 74; first
        | (with_reducible refine Calls.mono (HPX W.drew hBd) ?_; rintro e v3 ⟨rfl, hb3⟩; have hB3 : Below W.heap.size W v3 := hBd.trans (hb3.mono hBd.size); have z3 := hKA v3 hB3; clear hb3)
        | (with_reducible refine Calls.mono (HPY v3 hB3) ?_; rintro e v4 ⟨rfl, hb4⟩; have hB4 : Below W.heap.size W v4 := hB3.trans (hb4.mono hB3.size); have z4 := hKA v4 hB4; clear hb4))
    | (go_at_call 60; refine Calls.mono (HCM _ _ _) ?_; rintro e v5 ⟨rfl, rfl⟩))
  all_goals
    go_wp2
    go_ret
    exact ⟨rfl, hB4⟩
end Go.Proofs.YtmbggaepckgogaaDoor
