/-
  PROVED HERE: what the program's chooserOf and the functions that it hands back answer, at every graph; the table of costs is laid. No other condition. what the program's choosing function answers: the first of the cheapest nodes of a class; the table of costs is laid. No other condition.
-/
import Derived.Test.YtmbggaepckgogaaDoorRun22
import Derived.Test.YtmbggaepckgogaaDoorRun19
import Derived.Deep.RegionHeld3
import Derived.Deep.CutRange
namespace Go.Proofs.YtmbggaepckgogaaDoor
open Go.ChangeShapes Go.WideShapes Go.ChangeAt Go.RowKit
set_option linter.unusedVariables false

def cmpI (x y : Int) : Int := if x < y then -1 else if x > y then 1 else 0
theorem isNaN_any (x : Int) (w : World) : Calls Tryd.prog 75 #[.int .i64 x] w fun e w' => e = .returned (.bool false) ∧ w' = w := by
  have hx : (x != x) = false := by simp
  go_enter Tryd.func75, Tryd.ntmps75
  go_wp2
  go_ret
  exact ⟨by first | rfl | simp, rfl⟩
theorem compare_any (x y : Int) (w : World) : Calls Tryd.prog 60 #[.int .i64 x, .int .i64 y] w fun e w' => e = .returned (.int .i64 (cmpI x y)) ∧ w' = w := by
  have HX : Hid (∀ z W, Calls Tryd.prog 75 #[.int .i64 z] W fun e w' => e = .returned (.bool false) ∧ w' = W) := fun z W => isNaN_any z W
  unfold cmpI
  by_cases h1 : x < y
  · rw [if_pos h1]
    go_enter Tryd.func60, Tryd.ntmps60
    go_wp2_with (go_at_call 75; refine Calls.mono (HX.out _ _) ?_; rintro e w2 ⟨rfl, rfl⟩)
    go_ret
    exact ⟨rfl, rfl⟩
  · rw [if_neg h1]
    by_cases h2 : x > y
    · rw [if_pos h2]
      go_enter Tryd.func60, Tryd.ntmps60
      go_wp2_with (go_at_call 75; refine Calls.mono (HX.out _ _) ?_; rintro e w2 ⟨rfl, rfl⟩)
      go_ret
      exact ⟨rfl, rfl⟩
    · rw [if_neg h2]
      go_enter Tryd.func60, Tryd.ntmps60
      go_wp2_with (go_at_call 75; refine Calls.mono (HX.out _ _) ?_; rintro e w2 ⟨rfl, rfl⟩)
      go_ret
      exact ⟨rfl, rfl⟩
/-- What chooserOf leaves in memory. -/
structure ChoAt (W : World) (p : List EN) (l B : List Int) (a b : Option Addr) (n cap lb cb qg qp qc q G : Nat) : Prop where
  cst : Cst W
  es : ESl W a n p
  sl : Sl W b lb l
  row : Sl W (some ⟨G, 0, none⟩) n B
  g0 : W.cell? ⟨qg, 0, none⟩ = some (.slice a n cap)
  g1 : W.cell? ⟨qg, 1, none⟩ = some (.slice b lb cb)
  pf : W.cell? ⟨qp, 0, none⟩ = some (.func (.func 74) #[] #[.pointer (some ⟨q, 0, none⟩)])
  cf : W.cell? ⟨qc, 0, none⟩ = some (.func (.func 59) #[] #[.pointer (some ⟨qp, 0, none⟩), .pointer (some ⟨qg, 0, none⟩)])
  q0 : W.cell? ⟨q, 0, none⟩ = some (.slice (some ⟨G, 0, none⟩) n n)
theorem ChoAt.keep {W W' : World} {p : List EN} {l B : List Int} {a b : Option Addr} {n cap lb cb qg qp qc q G : Nat} (h : ChoAt W p l B a b n cap lb cb qg qp qc q G) (hb : Below W.heap.size W W') : ChoAt W' p l B a b n cap lb cb qg qp qc q G :=
  ⟨h.cst.keeps hb, h.es.keep hb, h.sl.keep hb, h.row.keep hb, (hb.cell (p := ⟨qg, 0, none⟩) (World.block_lt_of_cell? _ _ h.g0)).trans h.g0, (hb.cell (p := ⟨qg, 1, none⟩) (World.block_lt_of_cell? _ _ h.g1)).trans h.g1, (hb.cell (p := ⟨qp, 0, none⟩) (World.block_lt_of_cell? _ _ h.pf)).trans h.pf, (hb.cell (p := ⟨qc, 0, none⟩) (World.block_lt_of_cell? _ _ h.cf)).trans h.cf, (hb.cell (p := ⟨q, 0, none⟩) (World.block_lt_of_cell? _ _ h.q0)).trans h.q0⟩
/-- What a graph must have for its costs to be asked. -/
structure CostI (p : List EN) (l B : List Int) (n lb : Nat) : Prop where
  g : CostG p l
  len : p.length = n
  llen : l.length = lb
  few : ∀ i, i < n → (p.getD i e0).2.2.length ≤ 3
  low : ∀ k, k < p.length → ∀ y ∈ (p.getD k e0).2.2, 0 ≤ y
  ops : ∀ i, i < p.length → 1 ≤ (p.getD i e0).1 ∧ (p.getD i e0).1 ≤ 11
  cin : InC B n
  small : n ≤ 120
theorem CostI.lb_eq {p : List EN} {l B : List Int} {n lb : Nat} (h : CostI p l B n lb) : lb = n := by
  have := h.g.len
  have := h.len
  have := h.llen
  omega
/-- A node's price, asked of the function that tells prices. -/
theorem priceAt_any {p : List EN} {l B : List Int} {n lb : Nat} (hI : CostI p l B n lb) {W : World} {a b : Option Addr} {cap cb qg qp qc q G : Nat} (hA : ChoAt W p l B a b n cap lb cb qg qp qc q G) {x : Nat} (hx : x < n) : ∃ (bn on : Nat) (yo yn : Int) (ai : Option Addr) (li ci : Nat), a = some ⟨bn, on, none⟩ ∧
    (∀ W', Below W.heap.size W W' → (W'.cell? ⟨bn, on + x * 3, none⟩ = some (.int .i64 yo) ∧ W'.cell? ⟨bn, on + x * 3 + 1, none⟩ = some (.int .i64 yn) ∧ W'.cell? ⟨bn, on + x * 3 + 2, none⟩ = some (.slice ai li ci)) ∧ Calls Tryd.prog 74 #[.agg #[.int .i64 yo, .int .i64 yn, .slice ai li ci], .pointer (some ⟨q, 0, none⟩)] W' fun e w' => e = .returned (.int .i64 (priceB B (p.getD x e0))) ∧ Below W'.heap.size W' w') := by
  obtain ⟨hg, hpl, hll, hfew, hlow, hop, hin, h120⟩ := hI
  have hE := hA.es
  obtain ⟨bn, on, rfl, hbl, hc⟩ := hE.at (by omega)
  obtain ⟨ai, li, ci, c1, c2, c3, hli, hci, hS⟩ := hc x hx
  obtain ⟨y, hy⟩ : ∃ y, p.getD x e0 = y := ⟨_, rfl⟩
  have hopx := hop x (by omega)
  have hkd := hg.kids x (by omega)
  have hl0 := hlow x (by omega)
  have h3 := hfew x hx
  rw [hy] at c1 c2 hS hopx hkd hl0 h3
  rw [hy]
  obtain ⟨yo, yn, yk⟩ := y
  simp only at c1 c2 hS hopx hkd hl0 h3
  refine ⟨bn, on, yo, yn, ai, li, ci, rfl, fun W' hW => ?_⟩
  have hA' := hA.keep hW
  refine ⟨⟨(hW.cell (p := ⟨bn, on + x * 3, none⟩) hbl).trans c1, (hW.cell (p := ⟨bn, on + x * 3 + 1, none⟩) hbl).trans c2, (hW.cell (p := ⟨bn, on + x * 3 + 2, none⟩) hbl).trans c3⟩, ?_⟩
  have hyn : ((yo.toNat : Nat) : Int) = yo := by omega
  have := price_any yo.toNat yn ⟨by omega, by omega⟩ ai li ci yk q (some ⟨G, 0, none⟩) n n B W' hA'.cst hA'.q0 (hS.keep hW) hA'.row hin (fun i hi => by
    have hm : yk.getD i 0 ∈ yk := by
      rw [getI_lt (by have := hS.1; omega)]
      exact List.getElem_mem _
    have := (hkd _ hm).1
    have h0 := hl0 _ hm
    exact ⟨(yk.getD i 0).toNat, by omega, by omega⟩) (by have := hS.1; omega) (by omega)
  rw [hyn] at this
  exact this
set_option maxHeartbeats 3200000 in
set_option maxRecDepth 20000 in
theorem cheaper_any {p : List EN} {l B : List Int} {n lb : Nat} (hI : CostI p l B n lb) {W : World} {a b : Option Addr} {cap cb qg qp qc q G : Nat} (hA : ChoAt W p l B a b n cap lb cb qg qp qc q G) {x y : Nat} (hx : x < n) (hy : y < n) :
    Calls Tryd.prog 59 #[.int .i64 x, .int .i64 y, .pointer (some ⟨qp, 0, none⟩), .pointer (some ⟨qg, 0, none⟩)] W fun e w' => e = .returned (.int .i64 (cmpI (priceB B (p.getD x e0)) (priceB B (p.getD y e0)))) ∧ Below W.heap.size W w' := by
  obtain ⟨bn, on, xo, xn, ax, lx, cx, rfl, hX⟩ := priceAt_any hI hA hx
  obtain ⟨bn', on', yo, yn, ay, ly, cy, e, hY⟩ := priceAt_any hI hA hy
  cases e
  have hKA : ∀ W', Below W.heap.size W W' → (W'.cell? ⟨qp, 0, none⟩ = some (.func (.func 74) #[] #[.pointer (some ⟨q, 0, none⟩)]) ∧ W'.cell? ⟨qg, 0, none⟩ = some (.slice (some ⟨bn, on, none⟩) n cap) ∧ W'.cell? ⟨bn, on + x * 3, none⟩ = some (.int .i64 xo) ∧ W'.cell? ⟨bn, on + x * 3 + 1, none⟩ = some (.int .i64 xn) ∧ W'.cell? ⟨bn, on + x * 3 + 2, none⟩ = some (.slice ax lx cx) ∧ W'.cell? ⟨bn, on + y * 3, none⟩ = some (.int .i64 yo) ∧ W'.cell? ⟨bn, on + y * 3 + 1, none⟩ = some (.int .i64 yn) ∧ W'.cell? ⟨bn, on + y * 3 + 2, none⟩ = some (.slice ay ly cy)) := fun W' hW => ⟨(hA.keep hW).pf, (hA.keep hW).g0, (hX W' hW).1.1, (hX W' hW).1.2.1, (hX W' hW).1.2.2, (hY W' hW).1.1, (hY W' hW).1.2.1, (hY W' hW).1.2.2⟩
  have HPX := fun W' hW => (hX W' hW).2
  have HPY := fun W' hW => (hY W' hW).2
  have hxn : (x : Int) < n := by omega
  have hyn : (y : Int) < n := by omega
  have HCM := fun (u v : Int) (W : World) => compare_any u v W
  generalize priceB B (p.getD x e0) = u at HPX ⊢
  generalize priceB B (p.getD y e0) = v at HPY ⊢
  have hBd : Below W.heap.size W W.drew := (Below.refl _ _).drew
  have zD := hKA W.drew hBd
  clear hA hI hX hY hx hy
  go_enter Tryd.func59, Tryd.ntmps59
  go_upto_region 1 with fail
  go_region_held3 (fun w' => w'.cell? ⟨qp, 0, none⟩ = some (.func (.func 74) #[] #[.pointer (some ⟨q, 0, none⟩)]) ∧ w'.cell? ⟨qg, 0, none⟩ = some (.slice (some ⟨bn, on, none⟩) n cap) ∧ w'.cell? ⟨bn, on + x * 3, none⟩ = some (.int .i64 xo) ∧ w'.cell? ⟨bn, on + x * 3 + 1, none⟩ = some (.int .i64 xn) ∧ w'.cell? ⟨bn, on + x * 3 + 2, none⟩ = some (.slice ax lx cx) ∧ w'.cell? ⟨bn, on + y * 3, none⟩ = some (.int .i64 yo) ∧ w'.cell? ⟨bn, on + y * 3 + 1, none⟩ = some (.int .i64 yn) ∧ w'.cell? ⟨bn, on + y * 3 + 2, none⟩ = some (.slice ay ly cy))
    (first | with_reducible assumption | assumption)
    (first
    | (go_at_call 74; first
        | (with_reducible refine Calls.mono (HPX W.drew hBd) ?_; rintro e v3 ⟨rfl, hb3⟩; have hB3 : Below W.heap.size W v3 := hBd.trans (hb3.mono hBd.size); have z3 := hKA v3 hB3; clear hb3)
        | (with_reducible refine Calls.mono (HPY v3 hB3) ?_; rintro e v4 ⟨rfl, hb4⟩; have hB4 : Below W.heap.size W v4 := hB3.trans (hb4.mono hB3.size); have z4 := hKA v4 hB4; clear hb4))
    | (go_at_call 60; refine Calls.mono (HCM _ _ _) ?_; rintro e v5 ⟨rfl, rfl⟩))
  all_goals
    go_wp2
    go_ret
    exact ⟨rfl, hB4⟩
end Go.Proofs.YtmbggaepckgogaaDoor
namespace Go.Proofs.YtmbggaepckgogaaDoor
open Go.ChangeShapes Go.WideShapes Go.ChangeAt Go.RowKit
set_option linter.unusedVariables false

theorem cmpI_neg (x y : Int) : cmpI x y < 0 ↔ x < y := by
  unfold cmpI
  by_cases h1 : x < y
  · rw [if_pos h1]; omega
  · rw [if_neg h1]
    by_cases h2 : x > y
    · rw [if_pos h2]; omega
    · rw [if_neg h2]; omega
/-- The price of a node by its number in a list. -/
def prI (p : List EN) (B L : List Int) (i : Nat) : Int := priceB B (p.getD (L.getD i 0).toNat e0)
set_option maxHeartbeats 3200000 in
set_option maxRecDepth 20000 in
theorem minFunc_any {p : List EN} {l B : List Int} {n lb : Nat} (hI : CostI p l B n lb) {w : World} {a b : Option Addr} {cap cb qg qp qc q G : Nat} (hA : ChoAt w p l B a b n cap lb cb qg qp qc q G) (xa : Option Addr) (len xc : Nat) (L : List Int) (hL : Sl w xa len L) (hl0 : 0 < len) (hln : len ≤ 120) (hLn : ∀ i, i < len → ∃ z : Nat, L.getD i 0 = z ∧ z < n) :
    Calls Tryd.prog 62 #[.slice xa len xc, .func (.func 59) #[] #[.pointer (some ⟨qp, 0, none⟩), .pointer (some ⟨qg, 0, none⟩)]] w fun e w' => ∃ t, t < len ∧ e = .returned (.int .i64 (L.getD t 0)) ∧ (∀ s, s < len → prI p B L t ≤ prI p B L s) ∧ (∀ s, s < t → prI p B L t < prI p B L s) ∧ Below w.heap.size w w' := by
  obtain ⟨bx, ox, rfl, hbx, hcx⟩ := hL.2.resolve_left (by omega)
  have HCmp : Hid (∀ W, Below w.heap.size w W → ∀ i j, i < len → j < len → Calls Tryd.prog 59 #[.int .i64 (L.getD i 0), .int .i64 (L.getD j 0), .pointer (some ⟨qp, 0, none⟩), .pointer (some ⟨qg, 0, none⟩)] W fun e w' => e = .returned (.int .i64 (cmpI (prI p B L i) (prI p B L j))) ∧ Below W.heap.size W w') := fun W hW i j hi hj => by
    obtain ⟨zi, e1, h1⟩ := hLn i hi
    obtain ⟨zj, e2, h2⟩ := hLn j hj
    have := cheaper_any hI (hA.keep hW) h1 h2
    unfold prI
    rw [e1, e2, Int.toNat_natCast, Int.toNat_natCast]
    exact this
  have HC : Hid (∀ W, Below w.heap.size w W → ∀ i, i < len → W.cell? ⟨bx, ox + i, none⟩ = some (.int .i64 (L.getD i 0))) := fun W hW i hi => (hW.cell (p := ⟨bx, ox + i, none⟩) hbx).trans (hcx i hi)
  have c0 := HC.out w (Below.refl _ _) 0 hl0
  rw [Nat.add_zero] at c0
  have hli : ¬ (len : Int) < 1 := by omega
  have hli0 : (0 : Int) < len := by omega
  clear hI hA hL hcx hLn hbx
  go_enter Tryd.func62, Tryd.ntmps62
  go_wp2_with fail
  clear c0
  go_loopw [5, 6] (fun x i wr => ∃ (k t : Nat), k ≤ len ∧ t < k ∧ i = .int .i64 k ∧ x = .int .i64 (L.getD t 0) ∧ Hid ((∀ s, s < k → prI p B L t ≤ prI p B L s) ∧ (∀ s, s < t → prI p B L t < prI p B L s)) ∧ Below w.heap.size w wr) (fun _ i _ => len - (intOf i).toNat)
  case atStart => exact ⟨1, 0, by omega, by omega, rfl, rfl, ⟨fun s hs => by (obtain rfl : s = 0 := (by omega)); exact Int.le_refl _, fun s hs => absurd hs (Nat.not_lt_zero _)⟩, Below.refl _ _⟩
  case round =>
    obtain ⟨k, t, hk, ht, rfl, rfl, hP, hbr⟩ := hrel
    obtain ⟨wo, rfl⟩ : ∃ x, x = wr := ⟨_, rfl⟩
    by_cases hlt : k < len
    · have ck := HC.out wo hbr k hlt
      have HK := (show Hid _ from HCmp.out wo hbr k t hlt (by omega))
      have hcn := cmpI_neg (prI p B L k) (prI p B L t)
      have HP2 : Hid ((prI p B L k < prI p B L t → (∀ s, s < k + 1 → prI p B L k ≤ prI p B L s) ∧ ∀ s, s < k → prI p B L k < prI p B L s) ∧ (prI p B L t ≤ prI p B L k → ∀ s, s < k + 1 → prI p B L t ≤ prI p B L s)) := by
        obtain ⟨h1, h2⟩ := hP.out
        refine ⟨fun h => ⟨fun s hs => ?_, fun s hs => ?_⟩, fun h s hs => ?_⟩
        · by_cases e : s = k
          · subst e; exact Int.le_refl _
          · have := h1 s (by omega); omega
        · have := h1 s hs; omega
        · by_cases e : s = k
          · subst e; omega
          · exact h1 s (by omega)
      have HB := (show Hid _ from hbr)
      have hkl : (k : Int) < len := by omega
      have HPt := (show Hid _ from hP.out.2)
      generalize hck : cmpI (prI p B L k) (prI p B L t) = cv at HK hcn
      clear hck hP hbr
      go_wp2_with fail
      refine Calls.mono HK.out ?_
      rintro e w3 ⟨rfl, hb3⟩
      have HB3 := (show Hid _ from HB.out.trans (hb3.mono HB.out.size))
      have ck3 := HC.out w3 HB3.out k hlt
      clear HK hb3 HB ck
      by_cases hneg : cv < 0
      · have HR := (show Hid _ from HP2.out.1 (hcn.1 hneg))
        clear HP2 hcn HPt
        go_wp2
        go_roundw
        case rel => exact ⟨k + 1, k, by omega, by omega, by go_num, rfl, HR.out, HB3.out⟩
        case measure => simp [intOf]; omega
      · have HR := (show Hid _ from HP2.out.2 (by
          by_cases h : prI p B L k < prI p B L t
          · exact absurd (hcn.2 h) hneg
          · omega))
        clear HP2 hcn
        go_wp2
        go_roundw
        case rel => exact ⟨k + 1, t, by omega, by omega, by go_num, rfl, ⟨HR.out, HPt.out⟩, HB3.out⟩
        case measure => simp [intOf]; omega
    · obtain rfl : k = len := by omega
      have HB := (show Hid _ from hbr)
      clear hbr
      go_wp2
      go_ret
      exact ⟨t, ht, rfl, hP.out.1, hP.out.2, HB.out⟩
theorem pickU_sorted (f : Nat → Bool) : ∀ k, (pickU f k).Pairwise (· < ·)
  | 0 => by
    have h : pickU f 0 = [] := rfl
    rw [h]; exact List.Pairwise.nil
  | k + 1 => by
    rw [pickU_succ]
    split
    · rw [List.pairwise_append]
      refine ⟨pickU_sorted f k, by simp, fun x hx y hy => ?_⟩
      have h1 := pickU_lt10 f k x hx
      have h2 := List.mem_singleton.1 hy
      omega
    · exact pickU_sorted f k
/-- The first of the cheapest places of a class is the node that is chosen. -/
theorem cho_places {p : List EN} {l B : List Int} (hg : CostG p l) (hb : BestC p l B) (hs : StillP p l B) {c : Nat} (hc : c < p.length) (hcl : l.getD c 0 = c) {t : Nat} (ht : t < (placesL l c).length) (h1 : ∀ s, s < (placesL l c).length → prI p B (placesL l c) t ≤ prI p B (placesL l c) s) (h2 : ∀ s, s < t → prI p B (placesL l c) t < prI p B (placesL l c) s) : ∃ j : Nat, (placesL l c).getD t 0 = j ∧ IsCho p l B c j := by
  have hlen := hg.len
  have hat : ∀ s, s < (placesL l c).length → ∃ j : Nat, (placesL l c).getD s 0 = j ∧ j < p.length ∧ l.getD j 0 = c := fun s hs' => by
    have hm : (placesL l c).getD s 0 ∈ placesL l c := by rw [getI_lt hs']; exact List.getElem_mem _
    have q1 := pickU_lt10 _ _ _ hm
    have q2 := pickU_mem10 _ _ _ hm
    simp only [beq_iff_eq] at q2
    exact ⟨((placesL l c).getD s 0).toNat, by omega, by omega, q2⟩
  have hfind : ∀ i, i < p.length → l.getD i 0 = c → ∃ s, s < (placesL l c).length ∧ (placesL l c).getD s 0 = i := fun i hi hli => by
    have hm : ((i : Nat) : Int) ∈ placesL l c := (pickU_mem _ _ _).2 ⟨by omega, by simpa using hli⟩
    obtain ⟨s, hs', e⟩ := List.getElem_of_mem hm
    exact ⟨s, hs', by rw [getI_lt hs', e]⟩
  obtain ⟨j, ej, hj, hlj⟩ := hat t ht
  refine ⟨j, ej, cho_of hg hb hs hc hcl hj hlj (fun i hi hli => ?_) (fun i hi hli => ?_)⟩
  · obtain ⟨s, hs', es⟩ := hfind i hi hli
    have := h1 s hs'
    unfold prI at this
    rw [ej, es, Int.toNat_natCast, Int.toNat_natCast] at this
    exact this
  · obtain ⟨s, hs', es⟩ := hfind i (by omega) hli
    have hst : s < t := by
      have hsrt := pickU_sorted (fun i => l.getD i 0 == (c : Int)) l.length
      rcases Nat.lt_trichotomy s t with e | e | e
      · exact e
      · subst e; rw [ej] at es; omega
      · have := List.pairwise_iff_getElem.1 hsrt t s ht hs' e
        have q1 : (placesL l c)[t] = (j : Int) := by rw [← getI_lt ht]; exact ej
        have q2 : (placesL l c)[s] = (i : Int) := by rw [← getI_lt hs']; exact es
        have q3 : (placesL l c)[t] < (placesL l c)[s] := this
        omega
    have := h2 s hst
    unfold prI at this
    rw [ej, es, Int.toNat_natCast, Int.toNat_natCast] at this
    exact this
set_option maxHeartbeats 3200000 in
set_option maxRecDepth 20000 in
theorem chooser2_any {p : List EN} {l B : List Int} {n lb : Nat} (hI : CostI p l B n lb) (hb : BestC p l B) (hs : StillP p l B) {w : World} {a b : Option Addr} {cap cb qg qp qc q G : Nat} (hA : ChoAt w p l B a b n cap lb cb qg qp qc q G) {c : Nat} (hc : c < n) (hcl : l.getD c 0 = c) :
    Calls Tryd.prog 61 #[.int .i64 c, .pointer (some ⟨qg, 0, none⟩), .pointer (some ⟨qc, 0, none⟩)] w fun e w' => ∃ j : Nat, e = .returned (.int .i64 j) ∧ IsCho p l B c j ∧ Below w.heap.size w w' := by
  have hlb := hI.lb_eq
  have hlen := hI.len
  have hll := hI.llen
  have h120 := hI.small
  have hKA : ∀ W', Below w.heap.size w W' → (W'.cell? ⟨qg, 1, none⟩ = some (.slice b lb cb) ∧ W'.cell? ⟨qc, 0, none⟩ = some (.func (.func 59) #[] #[.pointer (some ⟨qp, 0, none⟩), .pointer (some ⟨qg, 0, none⟩)])) := fun W' hW => ⟨(hA.keep hW).g1, (hA.keep hW).cf⟩
  have HPl := fun (W : World) (hW : Below w.heap.size w W) => places_any b lb cb l c W (hA.keep hW).sl (by omega)
  have hmem : ((c : Nat) : Int) ∈ placesL l c := (pickU_mem _ _ _).2 ⟨by omega, by simpa using hcl⟩
  have hp0 : 0 < (placesL l c).length := List.length_pos_of_mem hmem
  have hpn : (placesL l c).length ≤ 120 := by have := places_len l (c : Int); omega
  have hpz : ∀ i, i < (placesL l c).length → ∃ z : Nat, (placesL l c).getD i 0 = z ∧ z < n := fun i hi => by
    have hm : (placesL l c).getD i 0 ∈ placesL l c := by rw [getI_lt hi]; exact List.getElem_mem _
    have q1 := pickU_lt10 _ _ _ hm
    exact ⟨((placesL l c).getD i 0).toNat, by omega, by omega⟩
  have HMf := fun (W : World) (hW : Below w.heap.size w W) (xa : Option Addr) (xc : Nat) (hx : Sl W xa (placesL l c).length (placesL l c)) => minFunc_any hI (hA.keep hW) xa _ xc (placesL l c) hx hp0 hpn hpz
  have HF : Hid (∀ t, t < (placesL l c).length → (∀ s, s < (placesL l c).length → prI p B (placesL l c) t ≤ prI p B (placesL l c) s) → (∀ s, s < t → prI p B (placesL l c) t < prI p B (placesL l c) s) → ∃ j : Nat, (placesL l c).getD t 0 = j ∧ IsCho p l B c j) := fun t ht h1 h2 => cho_places hI.g hb hs (by omega) hcl ht h1 h2
  have hBd : Below w.heap.size w w.drew := (Below.refl _ _).drew
  have zD := hKA w.drew hBd
  clear hA hI hb hs hc hcl hlb hlen hll h120 hp0 hpn hpz hmem
  go_enter Tryd.func61, Tryd.ntmps61
  go_upto_region 1 with fail
  go_region_held3 (fun w' => w'.cell? ⟨qg, 1, none⟩ = some (.slice b lb cb) ∧ w'.cell? ⟨qc, 0, none⟩ = some (.func (.func 59) #[] #[.pointer (some ⟨qp, 0, none⟩), .pointer (some ⟨qg, 0, none⟩)]))
    (first | with_reducible assumption | assumption)
    (first
    | (go_at_call 63; with_reducible refine Calls.mono (HPl w.drew hBd) ?_; rintro e v3 ⟨vx, rfl, hrx, hb3⟩; obtain ⟨xa, xc, rfl, hsx⟩ := Sl.vals hrx; have hB3 : Below w.heap.size w v3 := hBd.trans (hb3.mono hBd.size); have z3 := hKA v3 hB3; clear hb3 hrx)
    | (go_at_call 62; refine Calls.mono (HMf v3 hB3 xa xc hsx) ?_; rintro e v4 ⟨t, ht, rfl, hm1, hm2, hb4⟩; have hB4 : Below w.heap.size w v4 := hB3.trans (hb4.mono hB3.size); obtain ⟨j, hj, hcho⟩ := HF.out t ht hm1 hm2; rw [hj]; have z4 := hKA v4 hB4; clear hb4 hm1 hm2))
  all_goals
    have HH := (show Hid _ from And.intro hcho hB4)
    clear hcho hB4
    go_wp2
    go_ret
    exact ⟨j, rfl, HH.out.1, HH.out.2⟩
end Go.Proofs.YtmbggaepckgogaaDoor
