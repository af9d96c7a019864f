/-
  PROVED HERE: what the program's look whether kids are classes answers, at every graph of good nodes and parts. No other condition.
-/
import Derived.Test.YtbmgflapagbkcaaDoorE6Plain
namespace Go.Proofs.YtbmgflapagbkcaaDoor
open Go.ChangeShapes Go.WideShapes Go.ChangeAt Go.RowKit
set_option linter.unusedVariables false

def AllCl (p : List EN) (l : List Int) : Prop := ∀ k, k < p.length → KidsCl l (p.getD k e0).2.2
instance (p : List EN) (l : List Int) : Decidable (AllCl p l) := inferInstanceAs (Decidable (∀ k, k < p.length → KidsCl l (p.getD k e0).2.2))
def AllOne (p : List EN) (l : List Int) : Prop := ∀ k, k < p.length → OneCl p l k
instance (p : List EN) (l : List Int) : Decidable (AllOne p l) := inferInstanceAs (Decidable (∀ k, k < p.length → OneCl p l k))
theorem rest_two (p : List EN) (l : List Int) : Rest p l ↔ AllCl p l ∧ AllOne p l := ⟨fun h => ⟨fun k hk => (h k hk).1, fun k hk => (h k hk).2⟩, fun h k hk => ⟨h.1 k hk, h.2 k hk⟩⟩
theorem kid_natI {p : List EN} {k j : Nat} (h : nodesB p = true) (hk : k < p.length) (hj : j < (p.getD k e0).2.2.length) : ∃ y : Nat, (p.getD k e0).2.2.getD j 0 = y ∧ y < k := by
  obtain ⟨_, h2⟩ := (nodesB_iff p).1 h
  obtain ⟨_, _, _, h3⟩ := fit_node (h2 k hk)
  have hm : (p.getD k e0).2.2.getD j 0 ∈ (p.getD k e0).2.2 := by rw [getI_lt hj]; exact List.getElem_mem _
  have := h3 _ hm
  exact ⟨((p.getD k e0).2.2.getD j 0).toNat, by omega, by omega⟩
theorem kidsCl_ofI {l kids : List Int} (h : ∀ j, j < kids.length → l.getD (kids.getD j 0).toNat 0 = kids.getD j 0) : KidsCl l kids := by
  intro x hx
  obtain ⟨j, hj, rfl⟩ := List.getElem_of_mem hx
  have := h j hj
  rwa [getI_lt hj] at this
theorem kidsCl_atI {l kids : List Int} (h : KidsCl l kids) (j : Nat) (hj : j < kids.length) : l.getD (kids.getD j 0).toNat 0 = kids.getD j 0 := h _ (by rw [getI_lt hj]; exact List.getElem_mem _)

set_option maxHeartbeats 3200000 in
theorem implKids_any (a b : Option Addr) (len cap cb : Nat) (p : List EN) (l : List Int) (w : World) (h : ESl w a len p) (hl : Sl w b len l) (hN : nodesB p = true) :
    Calls Tryd.prog 55 #[.agg #[.slice a len cap, .slice b len cb]] w fun e w' => e = .returned (.bool (decide (AllCl p l))) ∧ Below w.heap.size w w' := by
  have hll := h.1
  have hl1 := hl.1
  have h120 := ((nodesB_iff p).1 hN).1
  obtain ⟨W1, hW1⟩ : ∃ W1, w.alloc (.cells #[.slice a len cap, .slice b len cb] 32) = W1 := ⟨_, rfl⟩
  have hb1 : Below w.heap.size w W1 := by rw [← hW1]; exact (Below.refl _ _).alloc (Nat.le_refl _) _
  have n0 : W1.cell? ⟨w.heap.size, 0, none⟩ = some (.slice a len cap) := by rw [← hW1]; simp [go_sem]
  have n1 : W1.cell? ⟨w.heap.size, 1, none⟩ = some (.slice b len cb) := by rw [← hW1]; simp [go_sem]
  have hs1 : w.heap.size < W1.heap.size := by rw [← hW1]; simp
  have HE : Hid (ESl W1 a len p ∧ Sl W1 b len l ∧ Below w.heap.size w W1) := ⟨h.keep hb1, hl.keep hb1, hb1⟩
  have HNn := (show Hid (nodesB p = true) from hN)
  clear h hl hb1 hN
  go_enter Tryd.func55, Tryd.ntmps55
  go_wp2_with fail
  (try rw [hW1])
  go_loopw [10] (fun i wr => ∃ k : Nat, k ≤ len ∧ i = .int .i64 k ∧ Below W1.heap.size W1 wr ∧ Hid (∀ j, j < k → KidsCl l (p.getD j e0).2.2)) (fun i _ => len - (intOf i).toNat)
  case atStart => exact ⟨0, Nat.zero_le _, rfl, Below.refl _ _, fun j hj => absurd hj (Nat.not_lt_zero _)⟩
  case round =>
    obtain ⟨k, hk, rfl, hbr, hT⟩ := hrel
    obtain ⟨wo, rfl⟩ : ∃ x, x = wr := ⟨_, rfl⟩
    by_cases hlt : k < len
    · obtain ⟨bn, on, rfl, hbl, hc⟩ := (HE.out.1.keep hbr).at (by omega)
      obtain ⟨ai, li, ci, c1, c2, c3, hli, hci, hS⟩ := hc k hlt
      obtain ⟨bp, op, rfl, hpl, hcp⟩ : ∃ b' off, b = some ⟨b', off, none⟩ ∧ b' < wo.heap.size ∧ ∀ i, i < len → wo.cell? ⟨b', off + i, none⟩ = some (.int .i64 (l.getD i 0)) := by
        rcases (HE.out.2.1.keep hbr).2 with h0 | h0
        · omega
        · exact h0
      obtain ⟨x, hx⟩ : ∃ x, p.getD k e0 = x := ⟨_, rfl⟩
      obtain ⟨xo, xn, xk⟩ := x
      rw [hx] at c1 c2 hS
      simp only at c1 c2 hS
      have HX := (show Hid _ from hx)
      have hS1 := hS.1
      have hkl : (k : Int) < len := by omega
      have hsz : ¬ bn = wo.heap.size := by omega
      have q1 := (hbr.cell (p := ⟨w.heap.size, 1, none⟩) hs1).trans n1
      have hsw : w.heap.size < wo.heap.size := Nat.lt_of_lt_of_le hs1 hbr.size
      obtain ⟨W2, hW2⟩ : ∃ W2, wo.alloc (.cells #[.int .i64 xo, .int .i64 xn, .slice ai li ci] 36) = W2 := ⟨_, rfl⟩
      have hb2 : Below wo.heap.size wo W2 := by rw [← hW2]; exact (Below.refl _ _).alloc (Nat.le_refl _) _
      have m2 : W2.cell? ⟨wo.heap.size, 2, none⟩ = some (.slice ai li ci) := by rw [← hW2]; simp [go_sem]
      have p1 := (hb2.cell (p := ⟨w.heap.size, 1, none⟩) hsw).trans q1
      have HK : Hid (∀ j, j < li → ∃ y : Nat, xk.getD j 0 = y ∧ y < k) := fun j hj => by
        have := kid_natI (j := j) HNn.out (show k < p.length by omega) (by rw [hx]; simp only; omega)
        rwa [hx] at this
      have HS := (show Hid (Sl wo ai li xk) from hS)
      have HCp : Hid (∀ i, i < len → W2.cell? ⟨bp, op + i, none⟩ = some (.int .i64 (l.getD i 0))) := fun i hi => (hb2.cell (p := ⟨bp, op + i, none⟩) hpl).trans (hcp i hi)
      have HB2 : Hid (Below wo.heap.size wo W2) := hb2
      have HF : Hid (Below w.heap.size w W2) := HE.out.2.2.trans ((hbr.trans (hb2.mono hbr.size)).mono HE.out.2.2.size)
      have HG : Hid (Below W1.heap.size W1 W2) := hbr.trans (hb2.mono hbr.size)
      clear hc hcp hS hb2 hbr q1 hx
      go_wp2_with fail
      (try rw [hW2])
      go_loopw [17] (fun i wr => ∃ j : Nat, j ≤ li ∧ i = .int .i64 j ∧ wr = W2 ∧ Hid (∀ i, i < j → l.getD (xk.getD i 0).toNat 0 = xk.getD i 0)) (fun i _ => li - (intOf i).toNat)
      case atStart => exact ⟨0, Nat.zero_le _, rfl, rfl, fun j hj => absurd hj (Nat.not_lt_zero _)⟩
      case round =>
        obtain ⟨j, hj, rfl, rfl, hK⟩ := hrel
        obtain ⟨W2, rfl⟩ : ∃ x, x = wr := ⟨_, rfl⟩
        by_cases hjl : j < li
        · obtain ⟨y, hy, hyk⟩ := HK.out j hjl
          obtain ⟨bk, ok, rfl, hbk, hck⟩ : ∃ b' off, ai = some ⟨b', off, none⟩ ∧ b' < wo.heap.size ∧ ∀ i, i < li → wo.cell? ⟨b', off + i, none⟩ = some (.int .i64 (xk.getD i 0)) := by
            rcases HS.out.2 with h0 | h0
            · omega
            · exact h0
          have ck := (HB2.out.cell (p := ⟨bk, ok + j, none⟩) hbk).trans (hck j hjl)
          rw [hy] at ck
          have cy := HCp.out y (by omega)
          have hyl : (y : Int) < len := by omega
          have hjl' : (j : Int) < li := by omega
          by_cases e : l.getD y 0 = y
          · have HR : Hid (∀ i, i < j + 1 → l.getD (xk.getD i 0).toNat 0 = xk.getD i 0) := fun i hi => by
              by_cases e1 : i = j
              · rw [e1, hy, Int.toNat_natCast]; exact e
              · exact hK.out i (by omega)
            rw [e] at cy
            have hyy : ((y : Int) != y) = false := by simp
            clear hK hck hy e
            go_wp2_with fail
            go_roundw
            case rel => exact ⟨j + 1, by omega, by go_num, by first | trivial | rfl, HR⟩
            case measure => simp [intOf]; omega
          · have HV : Hid (decide (AllCl p l) = false) := decide_eq_false (fun hr => e (by
              have := hr k (by omega)
              rw [HX.out] at this
              have := kidsCl_atI this j (by simp only; omega)
              simp only at this
              rwa [hy, Int.toNat_natCast] at this))
            have hyy : (l.getD y 0 != (y : Int)) = true := by simpa using e
            clear hK hck hy e
            generalize l.getD y 0 = z at cy hyy
            go_wp2_with fail
            go_ret
            exact ⟨by rw [HV.out] <;> rfl, HF.out⟩
        · obtain rfl : j = li := by omega
          have HR : Hid (∀ j, j < k + 1 → KidsCl l (p.getD j e0).2.2) := fun i hi => by
            by_cases e1 : i = k
            · rw [e1, HX.out]; exact kidsCl_ofI (fun i hi => hK.out i (by simp only at hi; omega))
            · exact hT.out i (by omega)
          clear hK hT
          go_wp2_with fail
          go_roundw
          case rel => exact ⟨k + 1, by omega, by go_num, HG.out, HR⟩
          case measure => simp [intOf]; omega
    · obtain rfl : k = len := by omega
      have HV : Hid (decide (AllCl p l) = true) := decide_eq_true (fun j hj => hT.out j (by omega))
      have HB : Hid (Below w.heap.size w wo) := HE.out.2.2.trans (hbr.mono HE.out.2.2.size)
      clear hT
      go_wp2
      go_ret
      exact ⟨by rw [HV.out] <;> rfl, HB.out⟩
end Go.Proofs.YtbmgflapagbkcaaDoor
