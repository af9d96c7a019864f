/-
  PROVED HERE: what the program's choosing function answers: the first of the cheapest nodes of a class; the table of costs is laid. No other condition. what the model's l10Chosen and ChosenIn answer. No other condition.
-/
import Derived.Test.YtmbggaepckgogaaDoorRun23
import Derived.Test.YtmbggaepckgogaaDoorRun22
import Derived.Test.YtmbggaepckgogaaDoorRun12
import Derived.Deep.RegionHeld3
import Derived.Deep.CutRange
namespace Go.Proofs.YtmbggaepckgogaaDoor
open Go.ChangeShapes Go.WideShapes Go.ChangeAt Go.RowKit
set_option linter.unusedVariables false

theorem cmpI_neg (x y : Int) : cmpI x y < 0 ↔ x < y := by
  unfold cmpI
  by_cases h1 : x < y
  · rw [if_pos h1]; omega
  · rw [if_neg h1]
    by_cases h2 : x > y
    · rw [if_pos h2]; omega
    · rw [if_neg h2]; omega
/-- The price of a node by its number in a list. -/
def prI (p : List EN) (B L : List Int) (i : Nat) : Int := priceB B (p.getD (L.getD i 0).toNat e0)
set_option maxHeartbeats 3200000 in
set_option maxRecDepth 20000 in
theorem minFunc_any {p : List EN} {l B : List Int} {n lb : Nat} (hI : CostI p l B n lb) {w : World} {a b : Option Addr} {cap cb qg qp qc q G : Nat} (hA : ChoAt w p l B a b n cap lb cb qg qp qc q G) (xa : Option Addr) (len xc : Nat) (L : List Int) (hL : Sl w xa len L) (hl0 : 0 < len) (hln : len ≤ 120) (hLn : ∀ i, i < len → ∃ z : Nat, L.getD i 0 = z ∧ z < n) :
    Calls Tryd.prog 62 #[.slice xa len xc, .func (.func 59) #[] #[.pointer (some ⟨qp, 0, none⟩), .pointer (some ⟨qg, 0, none⟩)]] w fun e w' => ∃ t, t < len ∧ e = .returned (.int .i64 (L.getD t 0)) ∧ (∀ s, s < len → prI p B L t ≤ prI p B L s) ∧ (∀ s, s < t → prI p B L t < prI p B L s) ∧ Below w.heap.size w w' := by
  obtain ⟨bx, ox, rfl, hbx, hcx⟩ := hL.2.resolve_left (by omega)
  have HCmp : Hid (∀ W, Below w.heap.size w W → ∀ i j, i < len → j < len → Calls Tryd.prog 59 #[.int .i64 (L.getD i 0), .int .i64 (L.getD j 0), .pointer (some ⟨qp, 0, none⟩), .pointer (some ⟨qg, 0, none⟩)] W fun e w' => e = .returned (.int .i64 (cmpI (prI p B L i) (prI p B L j))) ∧ Below W.heap.size W w') := fun W hW i j hi hj => by
    obtain ⟨zi, e1, h1⟩ := hLn i hi
    obtain ⟨zj, e2, h2⟩ := hLn j hj
    have := cheaper_any hI (hA.keep hW) h1 h2
    unfold prI
    rw [e1, e2, Int.toNat_natCast, Int.toNat_natCast]
    exact this
  have HC : Hid (∀ W, Below w.heap.size w W → ∀ i, i < len → W.cell? ⟨bx, ox + i, none⟩ = some (.int .i64 (L.getD i 0))) := fun W hW i hi => (hW.cell (p := ⟨bx, ox + i, none⟩) hbx).trans (hcx i hi)
  have c0 := HC.out w (Below.refl _ _) 0 hl0
  rw [Nat.add_zero] at c0
  have hli : ¬ (len : Int) < 1 := by omega
  have hli0 : (0 : Int) < len := by omega
  clear hI hA hL hcx hLn hbx
  go_enter Tryd.func62, Tryd.ntmps62
  go_wp2_with fail
  clear c0
  go_loopw [5, 6] (fun x i wr => ∃ (k t : Nat), k ≤ len ∧ t < k ∧ i = .int .i64 k ∧ x = .int .i64 (L.getD t 0) ∧ Hid ((∀ s, s < k → prI p B L t ≤ prI p B L s) ∧ (∀ s, s < t → prI p B L t < prI p B L s)) ∧ Below w.heap.size w wr) (fun _ i _ => len - (intOf i).toNat)
  case atStart => exact ⟨1, 0, by omega, by omega, rfl, rfl, ⟨fun s hs => by (obtain rfl : s = 0 := (by omega)); exact Int.le_refl _, fun s hs => absurd hs (Nat.not_lt_zero _)⟩, Below.refl _ _⟩
  case round =>
    obtain ⟨k, t, hk, ht, rfl, rfl, hP, hbr⟩ := hrel
    obtain ⟨wo, rfl⟩ : ∃ x, x = wr := ⟨_, rfl⟩
    by_cases hlt : k < len
    · have ck := HC.out wo hbr k hlt
      have HK := (show Hid _ from HCmp.out wo hbr k t hlt (by omega))
      have hcn := cmpI_neg (prI p B L k) (prI p B L t)
      have HP2 : Hid ((prI p B L k < prI p B L t → (∀ s, s < k + 1 → prI p B L k ≤ prI p B L s) ∧ ∀ s, s < k → prI p B L k < prI p B L s) ∧ (prI p B L t ≤ prI p B L k → ∀ s, s < k + 1 → prI p B L t ≤ prI p B L s)) := by
        obtain ⟨h1, h2⟩ := hP.out
        refine ⟨fun h => ⟨fun s hs => ?_, fun s hs => ?_⟩, fun h s hs => ?_⟩
        · by_cases e : s = k
          · subst e; exact Int.le_refl _
          · have := h1 s (by omega); omega
        · have := h1 s hs; omega
        · by_cases e : s = k
          · subst e; omega
          · exact h1 s (by omega)
      have HB := (show Hid _ from hbr)
      have hkl : (k : Int) < len := by omega
      have HPt := (show Hid _ from hP.out.2)
      generalize hck : cmpI (prI p B L k) (prI p B L t) = cv at HK hcn
      clear hck hP hbr
      go_wp2_with fail
      refine Calls.mono HK.out ?_
      rintro e w3 ⟨rfl, hb3⟩
      have HB3 := (show Hid _ from HB.out.trans (hb3.mono HB.out.size))
      have ck3 := HC.out w3 HB3.out k hlt
      clear HK hb3 HB ck
      by_cases hneg : cv < 0
      · have HR := (show Hid _ from HP2.out.1 (hcn.1 hneg))
        clear HP2 hcn HPt
        go_wp2
        go_roundw
        case rel => exact ⟨k + 1, k, by omega, by omega, by go_num, rfl, HR.out, HB3.out⟩
        case measure => simp [intOf]; omega
      · have HR := (show Hid _ from HP2.out.2 (by
          by_cases h : prI p B L k < prI p B L t
          · exact absurd (hcn.2 h) hneg
          · omega))
        clear HP2 hcn
        go_wp2
        go_roundw
        case rel => exact ⟨k + 1, t, by omega, by omega, by go_num, rfl, ⟨HR.out, HPt.out⟩, HB3.out⟩
        case measure => simp [intOf]; omega
    · obtain rfl : k = len := by omega
      have HB := (show Hid _ from hbr)
      clear hbr
      go_wp2
      go_ret
      exact ⟨t, ht, rfl, hP.out.1, hP.out.2, HB.out⟩
theorem pickU_sorted (f : Nat → Bool) : ∀ k, (pickU f k).Pairwise (· < ·)
  | 0 => by
    have h : pickU f 0 = [] := rfl
    rw [h]; exact List.Pairwise.nil
  | k + 1 => by
    rw [pickU_succ]
    split
    · rw [List.pairwise_append]
      refine ⟨pickU_sorted f k, by simp, fun x hx y hy => ?_⟩
      have h1 := pickU_lt10 f k x hx
      have h2 := List.mem_singleton.1 hy
      omega
    · exact pickU_sorted f k
/-- The first of the cheapest places of a class is the node that is chosen. -/
theorem cho_places {p : List EN} {l B : List Int} (hg : CostG p l) (hb : BestC p l B) (hs : StillP p l B) {c : Nat} (hc : c < p.length) (hcl : l.getD c 0 = c) {t : Nat} (ht : t < (placesL l c).length) (h1 : ∀ s, s < (placesL l c).length → prI p B (placesL l c) t ≤ prI p B (placesL l c) s) (h2 : ∀ s, s < t → prI p B (placesL l c) t < prI p B (placesL l c) s) : ∃ j : Nat, (placesL l c).getD t 0 = j ∧ IsCho p l B c j := by
  have hlen := hg.len
  have hat : ∀ s, s < (placesL l c).length → ∃ j : Nat, (placesL l c).getD s 0 = j ∧ j < p.length ∧ l.getD j 0 = c := fun s hs' => by
    have hm : (placesL l c).getD s 0 ∈ placesL l c := by rw [getI_lt hs']; exact List.getElem_mem _
    have q1 := pickU_lt10 _ _ _ hm
    have q2 := pickU_mem10 _ _ _ hm
    simp only [beq_iff_eq] at q2
    exact ⟨((placesL l c).getD s 0).toNat, by omega, by omega, q2⟩
  have hfind : ∀ i, i < p.length → l.getD i 0 = c → ∃ s, s < (placesL l c).length ∧ (placesL l c).getD s 0 = i := fun i hi hli => by
    have hm : ((i : Nat) : Int) ∈ placesL l c := (pickU_mem _ _ _).2 ⟨by omega, by simpa using hli⟩
    obtain ⟨s, hs', e⟩ := List.getElem_of_mem hm
    exact ⟨s, hs', by rw [getI_lt hs', e]⟩
  obtain ⟨j, ej, hj, hlj⟩ := hat t ht
  refine ⟨j, ej, cho_of hg hb hs hc hcl hj hlj (fun i hi hli => ?_) (fun i hi hli => ?_)⟩
  · obtain ⟨s, hs', es⟩ := hfind i hi hli
    have := h1 s hs'
    unfold prI at this
    rw [ej, es, Int.toNat_natCast, Int.toNat_natCast] at this
    exact this
  · obtain ⟨s, hs', es⟩ := hfind i (by omega) hli
    have hst : s < t := by
      have hsrt := pickU_sorted (fun i => l.getD i 0 == (c : Int)) l.length
      rcases Nat.lt_trichotomy s t with e | e | e
      · exact e
      · subst e; rw [ej] at es; omega
      · have := List.pairwise_iff_getElem.1 hsrt t s ht hs' e
        have q1 : (placesL l c)[t] = (j : Int) := by rw [← getI_lt ht]; exact ej
        have q2 : (placesL l c)[s] = (i : Int) := by rw [← getI_lt hs']; exact es
        have q3 : (placesL l c)[t] < (placesL l c)[s] := this
        omega
    have := h2 s hst
    unfold prI at this
    rw [ej, es, Int.toNat_natCast, Int.toNat_natCast] at this
    exact this
set_option maxHeartbeats 3200000 in
set_option maxRecDepth 20000 in
theorem chooser2_any {p : List EN} {l B : List Int} {n lb : Nat} (hI : CostI p l B n lb) (hb : BestC p l B) (hs : StillP p l B) {w : World} {a b : Option Addr} {cap cb qg qp qc q G : Nat} (hA : ChoAt w p l B a b n cap lb cb qg qp qc q G) {c : Nat} (hc : c < n) (hcl : l.getD c 0 = c) :
    Calls Tryd.prog 61 #[.int .i64 c, .pointer (some ⟨qg, 0, none⟩), .pointer (some ⟨qc, 0, none⟩)] w fun e w' => ∃ j : Nat, e = .returned (.int .i64 j) ∧ IsCho p l B c j ∧ Below w.heap.size w w' := by
  have hlb := hI.lb_eq
  have hlen := hI.len
  have hll := hI.llen
  have h120 := hI.small
  have hKA : ∀ W', Below w.heap.size w W' → (W'.cell? ⟨qg, 1, none⟩ = some (.slice b lb cb) ∧ W'.cell? ⟨qc, 0, none⟩ = some (.func (.func 59) #[] #[.pointer (some ⟨qp, 0, none⟩), .pointer (some ⟨qg, 0, none⟩)])) := fun W' hW => ⟨(hA.keep hW).g1, (hA.keep hW).cf⟩
  have HPl := fun (W : World) (hW : Below w.heap.size w W) => places_any b lb cb l c W (hA.keep hW).sl (by omega)
  have hmem : ((c : Nat) : Int) ∈ placesL l c := (pickU_mem _ _ _).2 ⟨by omega, by simpa using hcl⟩
  have hp0 : 0 < (placesL l c).length := List.length_pos_of_mem hmem
  have hpn : (placesL l c).length ≤ 120 := by have := places_len l (c : Int); omega
  have hpz : ∀ i, i < (placesL l c).length → ∃ z : Nat, (placesL l c).getD i 0 = z ∧ z < n := fun i hi => by
    have hm : (placesL l c).getD i 0 ∈ placesL l c := by rw [getI_lt hi]; exact List.getElem_mem _
    have q1 := pickU_lt10 _ _ _ hm
    exact ⟨((placesL l c).getD i 0).toNat, by omega, by omega⟩
  have HMf := fun (W : World) (hW : Below w.heap.size w W) (xa : Option Addr) (xc : Nat) (hx : Sl W xa (placesL l c).length (placesL l c)) => minFunc_any hI (hA.keep hW) xa _ xc (placesL l c) hx hp0 hpn hpz
  have HF : Hid (∀ t, t < (placesL l c).length → (∀ s, s < (placesL l c).length → prI p B (placesL l c) t ≤ prI p B (placesL l c) s) → (∀ s, s < t → prI p B (placesL l c) t < prI p B (placesL l c) s) → ∃ j : Nat, (placesL l c).getD t 0 = j ∧ IsCho p l B c j) := fun t ht h1 h2 => cho_places hI.g hb hs (by omega) hcl ht h1 h2
  have hBd : Below w.heap.size w w.drew := (Below.refl _ _).drew
  have zD := hKA w.drew hBd
  clear hA hI hb hs hc hcl hlb hlen hll h120 hp0 hpn hpz hmem
  go_enter Tryd.func61, Tryd.ntmps61
  go_upto_region 1 with fail
  go_region_held3 (fun w' => w'.cell? ⟨qg, 1, none⟩ = some (.slice b lb cb) ∧ w'.cell? ⟨qc, 0, none⟩ = some (.func (.func 59) #[] #[.pointer (some ⟨qp, 0, none⟩), .pointer (some ⟨qg, 0, none⟩)]))
    (first | with_reducible assumption | assumption)
    (first
    | (go_at_call 63; with_reducible refine Calls.mono (HPl w.drew hBd) ?_; rintro e v3 ⟨vx, rfl, hrx, hb3⟩; obtain ⟨xa, xc, rfl, hsx⟩ := Sl.vals hrx; have hB3 : Below w.heap.size w v3 := hBd.trans (hb3.mono hBd.size); have z3 := hKA v3 hB3; clear hb3 hrx)
    | (go_at_call 62; refine Calls.mono (HMf v3 hB3 xa xc hsx) ?_; rintro e v4 ⟨t, ht, rfl, hm1, hm2, hb4⟩; have hB4 : Below w.heap.size w v4 := hB3.trans (hb4.mono hB3.size); obtain ⟨j, hj, hcho⟩ := HF.out t ht hm1 hm2; rw [hj]; have z4 := hKA v4 hB4; clear hb4 hm1 hm2))
  all_goals
    have HH := (show Hid _ from And.intro hcho hB4)
    clear hcho hB4
    go_wp2
    go_ret
    exact ⟨j, rfl, HH.out.1, HH.out.2⟩
end Go.Proofs.YtmbggaepckgogaaDoor
namespace Go.Proofs.YtmbggaepckgogaaDoor
open Go.ChangeShapes Go.WideShapes Go.ChangeAt Go.RowKit
set_option linter.unusedVariables false

set_option maxHeartbeats 3200000 in
set_option maxRecDepth 20000 in
theorem l10Chosen_any {p : List EN} {l m : List Int} (hg : CostG p l) (hM : BestM p l m) (a b : Option Addr) (n cap lb cb : Nat) (bm : Option Addr) (cm c : Nat) (w : World) (h : ESl w a n p) (hl : Sl w b lb l) (hm : Sl w bm n m) (hn : n ≤ 120) (hk0 : ∀ k, k < p.length → ∀ y ∈ (p.getD k e0).2.2, 0 ≤ y) (h3 : ∀ i, i < n → (p.getD i e0).2.2.length ≤ 3) (hc : c < n) (hcl : l.getD c 0 = c) :
    Calls Tryd.prog 35 #[.agg #[.slice a n cap, .slice b lb cb], .slice bm n cm, .int .i64 c] w fun e w' => ∃ j : Nat, e = .returned (.int .i64 j) ∧ IsCho p l (valM m) c j ∧ Below w.heap.size w w' := by
  have hll := h.1
  have hl1 := hl.1
  have hlb : lb = n := by have := hg.len; omega
  obtain ⟨W1, hW1⟩ : ∃ W1, w.alloc (.cells #[.slice a n cap, .slice b lb cb] 31) = W1 := ⟨_, rfl⟩
  have hb1 : Below w.heap.size w W1 := by rw [← hW1]; exact (Below.refl _ _).alloc (Nat.le_refl _) _
  have hs1 : w.heap.size < W1.heap.size := by rw [← hW1]; simp
  have n0 : W1.cell? ⟨w.heap.size, 0, none⟩ = some (.slice a n cap) := by rw [← hW1]; simp [go_sem]
  have n1 : W1.cell? ⟨w.heap.size, 1, none⟩ = some (.slice b lb cb) := by rw [← hW1]; simp [go_sem]
  have HX : Hid (∀ W, Below W1.heap.size W1 W → (W.cell? ⟨w.heap.size, 0, none⟩ = some (.slice a n cap) ∧ W.cell? ⟨w.heap.size, 1, none⟩ = some (.slice b lb cb)) ∧ ESl W a n p ∧ Sl W b lb l ∧ Sl W bm n m ∧ Below w.heap.size w W) := fun W hW => ⟨⟨(hW.cell (p := ⟨w.heap.size, 0, none⟩) hs1).trans n0, (hW.cell (p := ⟨w.heap.size, 1, none⟩) hs1).trans n1⟩, (h.keep hb1).keep hW, (hl.keep hb1).keep hW, (hm.keep hb1).keep hW, hb1.trans (hW.mono hb1.size)⟩
  have HG : Hid (CostG p l ∧ BestM p l m ∧ p.length = n ∧ lb = n ∧ (∀ k, k < p.length → ∀ y ∈ (p.getD k e0).2.2, 0 ≤ y) ∧ (∀ i, i < n → (p.getD i e0).2.2.length ≤ 3) ∧ l.getD c 0 = c) := ⟨hg, hM, hll, hlb, hk0, h3, hcl⟩
  have HV : Hid (m.getD c 0 = (valM m).getD c 0) := by
    have h1 := bestM_get hg hM hM.2.1 (k := c) (by omega)
    have hcc : clsN l c = c := by unfold clsN; rw [hcl]; rfl
    rw [hcc] at h1
    exact h1
  clear h hl hm hb1 hg hM hk0 h3 hcl hll hl1 hlb
  go_enter Tryd.func35, Tryd.ntmps35
  go_wp2_with fail
  (try rw [hW1])
  clear hW1
  go_loopw [12] (fun i wr => ∃ (k : Nat), k ≤ n ∧ i = .int .i64 k ∧ Hid (∀ i, i < k → ¬ (l.getD i 0 = c ∧ priceB (valM m) (p.getD i e0) = (valM m).getD c 0)) ∧ Below W1.heap.size W1 wr) (fun i _ => n - (intOf i).toNat)
  case atStart => exact ⟨0, Nat.zero_le _, rfl, fun i hi => absurd hi (Nat.not_lt_zero _), Below.refl _ _⟩
  case round =>
    obtain ⟨k, hk, rfl, hN, hbr⟩ := hrel
    obtain ⟨wo, rfl⟩ : ∃ x, x = wr := ⟨_, rfl⟩
    by_cases hlt : k < n
    · obtain ⟨hg, hM, hpl, hlb, hk0, h3, hcl⟩ := HG.out
      obtain ⟨⟨q0, q1⟩, hE6, hS6, hM6, -⟩ := HX.out wo hbr
      obtain ⟨bn, on, rfl, hbl, hce⟩ := hE6.at (by omega)
      obtain ⟨ai, li, ci, c1, c2, c3, hli, hci, hS⟩ := hce k hlt
      obtain ⟨z, hz⟩ : ∃ z : Nat, l.getD k 0 = z := ⟨(l.getD k 0).toNat, by have := hg.pos k (by omega); omega⟩
      have hnode := known_node hg hM.1 hM.2.2 (k := k) (by omega)
      have hkd := hg.kids k (by omega)
      have hHV := HV.out
      obtain ⟨V, hV⟩ : ∃ V, m.getD c 0 = V := ⟨_, rfl⟩
      obtain ⟨C, hC⟩ : ∃ C, nodeM m (p.getD k e0) = C := ⟨_, rfl⟩
      have HYes : Hid (z = c → C = V → IsCho p l (valM m) c k) := fun e1 e2 => ⟨by omega, by rw [hz, e1], by rw [← hnode, hC, e2, ← hV, hHV], hN.out⟩
      have HNo : Hid (¬ (z = c ∧ C = V) → ∀ i, i < k + 1 → ¬ (l.getD i 0 = c ∧ priceB (valM m) (p.getD i e0) = (valM m).getD c 0)) := fun hne i hi => by
        by_cases e : i = k
        · subst e
          intro hh
          refine hne ⟨by have := hh.1; omega, ?_⟩
          rw [← hC, hnode, hh.2, ← hHV, hV]
        · exact hN.out i (by omega)
      have HCall : Hid (∀ W yo yn, p.getD k e0 = (yo, yn, (p.getD k e0).2.2) → Below wo.heap.size wo W → Calls Tryd.prog 49 #[.agg #[.int .i64 yo, .int .i64 yn, .slice ai li ci], .slice bm n cm] W fun e w' => e = .returned (.int .i64 C) ∧ Below W.heap.size W w') := fun W yo yn hy hW => by
        have := l10Node_any yo yn ai li ci (p.getD k e0).2.2 bm n cm m W (hS.keep hW) (hM6.keep hW) (by have := hM.1; rw [hpl] at this; exact this) (fun i hi => by
          have hm : (p.getD k e0).2.2.getD i 0 ∈ (p.getD k e0).2.2 := by
            rw [getI_lt (by have := hS.1; omega)]
            exact List.getElem_mem _
          have := (hkd _ hm).1
          have h0 := hk0 k (by omega) _ hm
          exact ⟨((p.getD k e0).2.2.getD i 0).toNat, by omega, by omega⟩) (by have := hS.1; have := h3 k hlt; omega) (by omega)
        rw [← hy, hC] at this
        exact this
      have HW : Hid (∀ W, Below wo.heap.size wo W → (W.cell? ⟨w.heap.size, 0, none⟩ = some (.slice (some ⟨bn, on, none⟩) n cap) ∧ W.cell? ⟨w.heap.size, 1, none⟩ = some (.slice b lb cb)) ∧ (∃ bb ob, b = some ⟨bb, ob, none⟩ ∧ W.cell? ⟨bb, ob + k, none⟩ = some (.int .i64 z)) ∧ (∃ bb ob, bm = some ⟨bb, ob, none⟩ ∧ W.cell? ⟨bb, ob + c, none⟩ = some (.int .i64 V)) ∧ Below W1.heap.size W1 W) := fun W hW => by
        have hWG : Below W1.heap.size W1 W := hbr.trans (hW.mono hbr.size)
        obtain ⟨x0, -, x2, x3, -⟩ := HX.out W hWG
        obtain ⟨bb, ob, e, _, hcb⟩ := x2.2.resolve_left (by omega)
        obtain ⟨bb3, ob3, e3, _, hcb3⟩ := x3.2.resolve_left (by omega)
        exact ⟨x0, ⟨bb, ob, e, by rw [hcb k (by omega), hz]⟩, ⟨bb3, ob3, e3, by rw [hcb3 c hc, hV]⟩, hWG⟩
      obtain ⟨y, hy⟩ : ∃ y, p.getD k e0 = y := ⟨_, rfl⟩
      rw [hy] at c1 c2 HCall
      obtain ⟨yo, yn, yk⟩ := y
      simp only at c1 c2
      have HCall2 : Hid (∀ W, Below wo.heap.size wo W → Calls Tryd.prog 49 #[.agg #[.int .i64 yo, .int .i64 yn, .slice ai li ci], .slice bm n cm] W fun e w' => e = .returned (.int .i64 C) ∧ Below W.heap.size W w') := fun W hW => HCall.out W yo yn rfl hW
      obtain ⟨B5, hB5⟩ : ∃ B5, wo.heap.size = B5 := ⟨_, rfl⟩
      obtain ⟨W7, hW7⟩ : ∃ W7, wo.alloc (.cells #[.int .i64 yo, .int .i64 yn, .slice ai li ci] 74) = W7 := ⟨_, rfl⟩
      have hb7 : Below wo.heap.size wo W7 := by rw [← hW7]; exact (Below.refl _ _).alloc (Nat.le_refl _) _
      have o0 : W7.cell? ⟨wo.heap.size, 0, none⟩ = some (.int .i64 yo) := by rw [← hW7]; simp [go_sem]
      have o1 : W7.cell? ⟨wo.heap.size, 1, none⟩ = some (.int .i64 yn) := by rw [← hW7]; simp [go_sem]
      have o2 : W7.cell? ⟨wo.heap.size, 2, none⟩ = some (.slice ai li ci) := by rw [← hW7]; simp [go_sem]
      have hs7 : wo.heap.size < W7.heap.size := by rw [← hW7]; simp
      rw [hB5] at o0 o1 o2 hs7
      have hkl : (k : Int) < n := by omega
      have hkb : (k : Int) < lb := by omega
      have hcn : (c : Int) < n := by omega
      obtain ⟨-, ⟨bb, ob, rfl, -⟩, ⟨bb3, ob3, rfl, -⟩, -⟩ := HW.out W7 hb7
      have HA : Hid (∀ W, Below W7.heap.size W7 W → (W.cell? ⟨w.heap.size, 0, none⟩ = some (.slice (some ⟨bn, on, none⟩) n cap) ∧ W.cell? ⟨w.heap.size, 1, none⟩ = some (.slice (some ⟨bb, ob, none⟩) lb cb) ∧ W.cell? ⟨B5, 0, none⟩ = some (.int .i64 yo) ∧ W.cell? ⟨B5, 1, none⟩ = some (.int .i64 yn) ∧ W.cell? ⟨B5, 2, none⟩ = some (.slice ai li ci) ∧ W.cell? ⟨bb, ob + k, none⟩ = some (.int .i64 z) ∧ W.cell? ⟨bb3, ob3 + c, none⟩ = some (.int .i64 V)) ∧ Below W1.heap.size W1 W) := fun W hW => by
        obtain ⟨⟨x0, x1⟩, ⟨bb', ob', e1, x2⟩, ⟨bb3', ob3', e2, x3⟩, x4⟩ := HW.out W (hb7.trans (hW.mono hb7.size))
        cases e1
        cases e2
        exact ⟨⟨x0, x1, (hW.cell (p := ⟨B5, 0, none⟩) hs7).trans o0, (hW.cell (p := ⟨B5, 1, none⟩) hs7).trans o1, (hW.cell (p := ⟨B5, 2, none⟩) hs7).trans o2, x2, x3⟩, x4⟩
      have HCx : Hid (∀ W, Below W7.heap.size W7 W → Calls Tryd.prog 49 #[.agg #[.int .i64 yo, .int .i64 yn, .slice ai li ci], .slice (some ⟨bb3, ob3, none⟩) n cm] W fun e w' => e = .returned (.int .i64 C) ∧ Below W.heap.size W w') := fun W hW => HCall2.out W (hb7.trans (hW.mono hb7.size))
      clear hg hM hpl hlb hk0 h3 hcl hE6 hS6 hM6 hce hS hli hci hC hz hV hkd hnode hHV HCall HCall2 hy hb7 q0 q1 hbl hN hbr hs7 HW HV
      go_wp2_with fail
      (try rw [hW7])
      (try rw [hB5])
      clear hW7 c1 c2 c3 hB5 n0 n1 o0 o1 o2
      go_upto_region 4 with fail
      by_cases hzc : z = c
      · have HYes2 : Hid (C = V → IsCho p l (valM m) c k) := fun e => HYes.out hzc e
        have HNo2 : Hid (¬ C = V → ∀ i, i < k + 1 → ¬ (l.getD i 0 = c ∧ priceB (valM m) (p.getD i e0) = (valM m).getD c 0)) := fun e => HNo.out (fun h => e h.2)
        subst hzc
        clear HYes HNo
        go_cut [33] from 17 to 33 (fun s wx => s = .bool (C == V) ∧ Below W7.heap.size W7 wx)
        case first =>
          have HZc := HA.out
          have hBd : Below W7.heap.size W7 W7.drew := (Below.refl _ _).drew
          have zD := (HZc W7.drew hBd).1
          have HCc := HCx.out
          clear HA HCx HYes2 HNo2 HG HX
          go_region_held3 (fun w' => w'.cell? ⟨w.heap.size, 0, none⟩ = some (.slice (some ⟨bn, on, none⟩) n cap) ∧ w'.cell? ⟨w.heap.size, 1, none⟩ = some (.slice (some ⟨bb, ob, none⟩) lb cb) ∧ w'.cell? ⟨B5, 0, none⟩ = some (.int .i64 yo) ∧ w'.cell? ⟨B5, 1, none⟩ = some (.int .i64 yn) ∧ w'.cell? ⟨B5, 2, none⟩ = some (.slice ai li ci) ∧ w'.cell? ⟨bb, ob + k, none⟩ = some (.int .i64 z) ∧ w'.cell? ⟨bb3, ob3 + z, none⟩ = some (.int .i64 V))
            (first | with_reducible assumption | assumption)
            (first
            | (go_at_call 49; refine Calls.mono (HCc W7.drew hBd) ?_; rintro e v3 ⟨rfl, hb3'⟩; have hB3 : Below W7.heap.size W7 v3 := hBd.trans (hb3'.mono hBd.size); have z3 := (HZc v3 hB3).1; clear hb3'))
          all_goals
            go_wp2_with fail
            go_meet
            exact ⟨rfl, hB3⟩
        case rest =>
        obtain ⟨rfl, hcw⟩ := hcut
        obtain ⟨w8, hw8⟩ : ∃ w8, w8 = wc := ⟨_, rfl⟩
        subst hw8
        have hB8 := (HA.out w8 hcw).2
        clear hcw
        by_cases hCV : C = V
        · have HR := (show Hid _ from HYes2.out hCV)
          have HB8 := (show Hid _ from (HX.out w8 hB8).2.2.2.2)
          subst hCV
          have hCC : (C == C) = true := by simp
          clear HYes2 HNo2 HA HCx HG HX hB8
          go_wp2
          go_ret
          exact ⟨k, rfl, HR.out, HB8.out⟩
        · have HR := (show Hid _ from HNo2.out hCV)
          have hCV2 : (C == V) = false := by simp [hCV]
          have HB8 := (show Hid _ from hB8)
          clear HYes2 HNo2 HA HCx HG HX hB8
          go_wp2
          go_roundw
          case rel => exact ⟨k + 1, by omega, by go_num, HR.out, HB8.out⟩
          case measure => simp [intOf]; omega
      · have hzi : ((z : Int) == (c : Int)) = false := by simp; omega
        have HR := (show Hid _ from HNo.out (fun h => hzc h.1))
        clear HYes HNo HCx
        go_cut [33] from 17 to 33 (fun s wx => s = .bool false ∧ Below W7.heap.size W7 wx)
        case first =>
          have ga : ∀ x : Ahead W7, x.w.cell? ⟨w.heap.size, 0, none⟩ = some (.slice (some ⟨bn, on, none⟩) n cap) := fun x => (HA.out x.w x.h).1.1
          have gb : ∀ x : Ahead W7, x.w.cell? ⟨w.heap.size, 1, none⟩ = some (.slice (some ⟨bb, ob, none⟩) lb cb) := fun x => (HA.out x.w x.h).1.2.1
          have gg : ∀ x : Ahead W7, x.w.cell? ⟨bb, ob + k, none⟩ = some (.int .i64 z) := fun x => (HA.out x.w x.h).1.2.2.2.2.2.1
          clear HA HG HX HR hzc
          have hne' := ahead_some W7
          refine wp_region_ahead (by kernel_rfl) (by kernel_rfl) ?_
          repeat (first
            | go_big_quiet_skip
            | (go_big_quiet_want; go_big_quiet_op; go_big_quiet_on))
          refine wpQuiet_nil ?_
          intro _ hw'
          obtain ⟨xq, rfl⟩ := hw'
          go_wp2_with fail
          go_meet
          exact ⟨rfl, xq.h⟩
        case rest =>
        obtain ⟨rfl, hcw⟩ := hcut
        obtain ⟨w8, hw8⟩ : ∃ w8, w8 = wc := ⟨_, rfl⟩
        subst hw8
        have HB8 := (show Hid _ from (HA.out w8 hcw).2)
        clear hcw HA HG HX
        go_wp2
        go_roundw
        case rel => exact ⟨k + 1, by omega, by go_num, HR.out, HB8.out⟩
        case measure => simp [intOf]; omega
    · exfalso
      obtain rfl : k = n := by omega
      obtain ⟨hg, hM, hpl, hlb, hk0, h3, hcl⟩ := HG.out
      obtain ⟨j, j1, j2, j3⟩ := cls_att hg hM.2.1 (stillM_val hg hM.1 hM.2.2) (c := c) (by omega) hcl
      exact hN.out j (by omega) ⟨j2, j3⟩
end Go.Proofs.YtmbggaepckgogaaDoor
