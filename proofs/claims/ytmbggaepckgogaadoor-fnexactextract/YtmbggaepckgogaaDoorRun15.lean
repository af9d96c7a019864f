/-
  PROVED HERE: what priceOver and the function that it hands back answer, at every node whose kids lie within the costs; the table of costs is laid. No other condition. a good graph has what the best costs want. No other condition.
-/
import Derived.Test.YtmbggaepckgogaaDoorRun13
import Derived.Lib.MinMax
import Derived.Test.YtmbggaepckgogaaDoorRun14
import Derived.Test.YtmbggaepckgogaaDoorRun5
namespace Go.Proofs.YtmbggaepckgogaaDoor
open Go.ChangeShapes Go.WideShapes Go.ChangeAt Go.RowKit
set_option linter.unusedVariables false

theorem sumK_drop (b ks : List Int) (k : Nat) (h : k < ks.length) : sumK b (ks.drop k) = b.getD (ks.getD k 0).toNat 0 + sumK b (ks.drop (k + 1)) := by
  rw [List.drop_eq_getElem_cons h, getI_lt h]
  rfl
theorem priceOver_any (v : Option Addr) (lv cv : Nat) (w : World) :
    Calls Tryd.prog 55 #[.slice v lv cv] w fun e w' => e = .returned (.func (.func 74) #[] #[.pointer (some ⟨w.heap.size, 0, none⟩)]) ∧ Below w.heap.size w w' ∧ w'.heap.size = w.heap.size + 1 ∧ w'.cell? ⟨w.heap.size, 0, none⟩ = some (.slice v lv cv) := by
  have hmf : ∀ (fn : Fn) (first cap : Array Value) (w : World), (Instr.makeFunc fn first cap).run Tryd.prog w = .ok (.func fn first cap) w := fun _ _ _ _ => rfl
  have HF : Hid (∀ t1, Below w.heap.size w (w.alloc (.cells #[.slice v lv cv] t1)) ∧ (w.alloc (.cells #[.slice v lv cv] t1)).heap.size = w.heap.size + 1 ∧ (w.alloc (.cells #[.slice v lv cv] t1)).cell? ⟨w.heap.size, 0, none⟩ = some (.slice v lv cv)) := fun t1 => ⟨(Below.refl _ _).alloc (Nat.le_refl _) _, by simp, by simp [go_sem]⟩
  go_enter Tryd.func55, Tryd.ntmps55
  go_wp2
  refine bodyPost_ret (v := .func (.func 74) #[] #[.pointer (some ⟨w.heap.size, 0, none⟩)]) ?_ ?_ ?_
  · simp [results, Tryd.results55, go_sem, *]
  · rfl
  · exact ⟨rfl, HF.out _⟩
set_option maxHeartbeats 3200000 in
set_option maxRecDepth 20000 in
theorem price_any (xo : Nat) (xn : Int) (hxo : 1 ≤ xo ∧ xo ≤ 11) (ka : Option Addr) (kl kc : Nat) (ks : List Int) (q : Nat) (b : Option Addr) (lb cb : Nat) (m : List Int) (w : World) (hT : Cst w) (hq : w.cell? ⟨q, 0, none⟩ = some (.slice b lb cb)) (hk : Sl w ka kl ks) (hm : Sl w b lb m) (hin : InC m lb) (hks : ∀ j, j < kl → ∃ z : Nat, ks.getD j 0 = z ∧ z < lb) (h3 : kl ≤ 3) (hlb : lb ≤ 1000) :
    Calls Tryd.prog 74 #[.agg #[.int .i64 xo, .int .i64 xn, .slice ka kl kc], .pointer (some ⟨q, 0, none⟩)] w fun e w' => e = .returned (.int .i64 (priceB m (xo, xn, ks))) ∧ Below w.heap.size w w' := by
  obtain ⟨W1, hW1⟩ : ∃ W1, w.alloc (.cells #[.int .i64 xo, .int .i64 xn, .slice ka kl kc] 74) = W1 := ⟨_, rfl⟩
  have hb1 : Below w.heap.size w W1 := by rw [← hW1]; exact (Below.refl _ _).alloc (Nat.le_refl _) _
  have n0 : W1.cell? ⟨w.heap.size, 0, none⟩ = some (.int .i64 xo) := by rw [← hW1]; simp [go_sem]
  have n2 : W1.cell? ⟨w.heap.size, 2, none⟩ = some (.slice ka kl kc) := by rw [← hW1]; simp [go_sem]
  have hkl := hk.1
  have hml := hm.1
  have hq1 : W1.cell? ⟨q, 0, none⟩ = some (.slice b lb cb) := (hb1.cell (p := ⟨q, 0, none⟩) (World.block_lt_of_cell? w _ hq)).trans hq
  have hc := cst_pos xo
  have hct : W1.cell? ⟨0, xo, none⟩ = some (.int .i64 (cst xo)) := by rw [(hT.keeps hb1) xo (by omega), ctab_get xo hxo]
  have HG : Hid (min (cst xo + sumK m ks) 1125899906842624 = priceB m (xo, xn, ks)) := rfl
  generalize priceB m (xo, xn, ks) = R at HG ⊢
  generalize cst (xo : Int) = C at hct hc HG
  have hk1 := hk.keep hb1
  have hm1 := hm.keep hb1
  have HB1 : Hid (Below w.heap.size w W1) := hb1
  have hx12 : (xo : Int) < 12 := by omega
  have HSK : Hid (∀ k, k ≤ kl → 0 ≤ sumK m (ks.drop k) ∧ sumK m (ks.drop k) ≤ 3 * topC) := fun k hk => by
    have := sumK_in hin (ks.drop k)
    have hl : ((ks.drop k).length : Int) ≤ 3 := by rw [List.length_drop]; omega
    have ht : (0 : Int) ≤ topC := by simp [topC]
    exact ⟨this.1, Int.le_trans this.2 (Int.mul_le_mul_of_nonneg_right hl ht)⟩
  clear hk hm hb1 hT hq
  go_enter Tryd.func74, Tryd.ntmps74
  go_wp2_with fail
  (try rw [hW1])
  clear hW1
  go_loopw [4, 14] (fun x i wr => W1 = wr ∧ ∃ (k : Nat) (S : Int), k ≤ kl ∧ i = .int .i64 k ∧ x = .int .i64 S ∧ 0 ≤ S ∧ S ≤ 20 + k * 1125899906842624 ∧ Hid (S + sumK m (ks.drop k) = C + sumK m ks)) (fun _ i _ => kl - (intOf i).toNat)
  case atStart => exact ⟨rfl, 0, C, Nat.zero_le _, rfl, rfl, by omega, by omega, rfl⟩
  case round =>
    obtain ⟨rfl, k, S, hk, rfl, rfl, p0, p1, hR⟩ := hrel
    by_cases hlt : k < kl
    · obtain ⟨ba, oa, rfl, hbl, hcs⟩ := hk1.2.resolve_left (by omega)
      have c1 := hcs k hlt
      obtain ⟨z, hz, hzl⟩ := hks k hlt
      obtain ⟨bb, ob, rfl, hbm, hcm⟩ := hm1.2.resolve_left (by omega)
      have c2 := hcm z hzl
      have hv := hin.2 z hzl
      have hd := sumK_drop m ks k (by omega)
      have HR := hR.out
      rw [hz] at c1
      rw [hd, hz, Int.toNat_natCast] at HR
      clear hd hR hcs hcm hz hks HG HSK
      generalize m.getD z 0 = v at c2 hv HR
      have ht : topC = 1125899906842624 := rfl
      rw [ht] at hv
      obtain ⟨v0, v1⟩ := hv
      have hkb : (k : Int) ≤ 2 := by omega
      have hzl' : (z : Int) < lb := by omega
      have HR2 : Hid ((S + v) + sumK m (ks.drop (k + 1)) = C + sumK m ks) := by show _ = _; omega
      clear HR
      go_wp2
      go_roundw
      case rel => exact ⟨trivial, k + 1, S + v, by omega, by go_num, rfl, by omega, by push_cast; omega, HR2.out⟩
      case measure => simp [intOf]; omega
    · obtain rfl : k = kl := by omega
      have HR := hR.out
      rw [List.drop_of_length_le (by omega)] at HR
      have HR2 : Hid (min S 1125899906842624 = R) := by
        have h0 : sumK m [] = 0 := rfl
        rw [h0] at HR
        have h2 := HG.out
        show _ = _
        rw [← h2]
        congr 1
        omega
      clear HR hR HG HSK
      go_wp2
      go_ret
      exact ⟨by rw [← HR2.out]; rfl, HB1.out⟩
end Go.Proofs.YtmbggaepckgogaaDoor
namespace Go.Proofs.YtmbggaepckgogaaDoor
open Go.ChangeShapes Go.WideShapes Go.ChangeAt Go.RowKit
set_option linter.unusedVariables false

theorem mem_natI {p : List EN} {k : Nat} (h : nodesB p = true) (hk : k < p.length) {y : Int} (hy : y ∈ (p.getD k e0).2.2) : 0 ≤ y ∧ y.toNat < k := by
  obtain ⟨j, hj, e⟩ := List.getElem_of_mem hy
  obtain ⟨z, h1, h2⟩ := kid_natI h hk hj
  rw [getI_lt hj, e] at h1
  omega
theorem costG_of {p : List EN} {l : List Int} (h : graphB p l = true) : CostG p l := by
  obtain ⟨h1, h2⟩ := (graphB_iff p l).1 h
  obtain ⟨hN, hlen, hp⟩ := (headB_iff p l).1 h1
  obtain ⟨_, hpar, hflat⟩ := (partB_iff l).1 hp
  have hpk := fun k (hk : k < p.length) => hpar k (by omega)
  refine ⟨hlen, fun k hk => ?_, fun k hk => (hpk k hk).1, fun k hk y hy => ?_⟩
  · have := hpk k hk
    unfold clsN
    omega
  · have h3 := mem_natI hN hk hy
    refine ⟨h3.2, ?_⟩
    have h4 := (h2 k hk).1 y hy
    unfold clsN
    rw [h4]
theorem kids_of {p : List EN} {l : List Int} (h : graphB p l = true) : (∀ k, k < p.length → ∀ y ∈ (p.getD k e0).2.2, 0 ≤ y) ∧ ∀ k, k < p.length → (p.getD k e0).2.2.length ≤ 3 := by
  obtain ⟨h1, h2⟩ := (graphB_iff p l).1 h
  obtain ⟨hN, hlen, hp⟩ := (headB_iff p l).1 h1
  exact ⟨fun k hk y hy => (mem_natI hN hk hy).1, fun k hk => fit_few (((nodesB_iff p).1 hN).2 k hk)⟩
end Go.Proofs.YtmbggaepckgogaaDoor
