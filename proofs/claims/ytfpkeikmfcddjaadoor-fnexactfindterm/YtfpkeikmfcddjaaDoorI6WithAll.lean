/-
  PROVED HERE: what the program's nodesWithClasses answers, at every list of nodes whose kids are numbers of the parts. No other condition.
-/
import Derived.Test.YtfpkeikmfcddjaaDoorI6With
namespace Go.Proofs.YtfpkeikmfcddjaaDoor
open Go.ChangeShapes Go.WideShapes Go.ChangeAt Go.RowKit
set_option linter.unusedVariables false

/-- Nodes with the classes of their kids. -/
def withL (l : List Int) (p : List EN) : List EN := p.map fun x => (x.1, x.2.1, kidsL l x.2.2)
theorem withL_len (l : List Int) (p : List EN) : (withL l p).length = p.length := by simp [withL]
theorem withL_get (l : List Int) (p : List EN) {k : Nat} (h : k < p.length) : (withL l p).getD k e0 = ((p.getD k e0).1, (p.getD k e0).2.1, kidsL l (p.getD k e0).2.2) := by
  simp [withL, List.getD_eq_getElem?_getD, List.getElem?_eq_getElem h]
set_option maxHeartbeats 1600000 in
theorem withAll_own (a b : Option Addr) (len cap lb cb : Nat) (p : List EN) (l : List Int) (w : World) (h : ESl w a len p) (hl : Sl w b lb l) (hn : len ≤ 120) (hp : ∀ i, i < len → (p.getD i e0).2.2.length ≤ 3 ∧ ∀ j, j < (p.getD i e0).2.2.length → ∃ y : Nat, (p.getD i e0).2.2.getD j 0 = y ∧ y < lb) :
    Calls Tryd.prog 92 #[.slice a len cap, .slice b lb cb] w fun e w' => e = .returned (.slice (some ⟨w.heap.size, 0, none⟩) len len) ∧ Below w.heap.size w w' ∧ ∃ xs, w'.ownsRow w.heap.size 36 3 (.slice (some ⟨w.heap.size, 0, none⟩) len len) len xs ∧ ECopy w w' (withL l p) len xs := by
  obtain ⟨i0, hi, hz0, hz1, hz2⟩ := info_parts infoENode
  have hsl := h
  have hlen : (withL l p).length = len := by rw [withL_len]; exact h.1
  have hpl := h.1
  clear h
  go_enter Tryd.func92, Tryd.ntmps92
  go_wp2_with (at_make; refine wpList_make_full _ rfl _ _ 30 rfl w.heap.size 36 i0 (.agg #[.int .i64 0, .int .i64 0, .slice none 0 0]) 3 Tryd.underlying30 hi hz0 hz1 _ _ _ _ len rfl rfl rfl rfl (by rw [hz2]; omega) (by unfold maxLen; omega) (Nat.le_refl _) ?_; intro w1 hown hgrow)
  have hb1 : Below w.heap.size w w1 := (Below.refl _ _).grown hgrow (Nat.le_refl _) (fun k hk => by cases hk)
  clear hgrow
  go_loopw [13] (fun i wr => ∃ (k : Nat) (xs : List Value), k ≤ len ∧ i = .int .i64 k ∧ wr.ownsRow w.heap.size 36 3 (.slice (some ⟨w.heap.size, 0, none⟩) len len) len xs ∧ Hid (ECopy w wr (withL l p) k xs) ∧ Below w.heap.size w wr) (fun i _ => len - (intOf i).toNat)
  case atStart => exact ⟨0, _, Nat.zero_le _, rfl, hown, ⟨fun _ => 0, fun j hj => absurd hj (Nat.not_lt_zero _)⟩, hb1⟩
  case round =>
    obtain ⟨k, xs, hk, rfl, howr, hx, hbr⟩ := hrel
    clear hown hb1
    by_cases hlt : k < len
    · obtain ⟨b', off, rfl, hbl, hc⟩ := (hsl.keep hbr).at (by omega)
      obtain ⟨ai, li, ci, c1, c2, c3, hli, hci, hS⟩ := hc k hlt
      obtain ⟨hp3, hpk⟩ := hp k hlt
      obtain ⟨m, hm⟩ : ∃ m, p.getD k e0 = m := ⟨_, rfl⟩
      have hl1 := hS.1
      have HM : Hid ((withL l p).getD k e0 = (m.1, m.2.1, kidsL l m.2.2)) := by show _ = _; rw [withL_get l p (by omega), hm]
      rw [hm] at c1 c2 hS hpk hl1 hp3
      obtain ⟨xo, xn, e⟩ := m
      simp only at c1 c2 hS hpk hl1 hp3 HM
      have hle : (kidsL l e).length = li := by rw [kidsL_len]; exact hl1
      obtain ⟨W2, hW2⟩ : ∃ W2, wr.alloc (.cells #[.int .i64 xo, .int .i64 xn, .slice ai li ci] 36) = W2 := ⟨_, rfl⟩
      have hbA : Below wr.heap.size wr W2 := by rw [← hW2]; exact (Below.refl _ _).alloc (Nat.le_refl _) _
      have m0 : W2.cell? ⟨wr.heap.size, 0, none⟩ = some (.int .i64 xo) := by rw [← hW2]; simp [go_sem]
      have m1 : W2.cell? ⟨wr.heap.size, 1, none⟩ = some (.int .i64 xn) := by rw [← hW2]; simp [go_sem]
      have m2 : W2.cell? ⟨wr.heap.size, 2, none⟩ = some (.slice ai li ci) := by rw [← hW2]; simp [go_sem]
      have hszA : wr.heap.size < W2.heap.size := by rw [← hW2]; simp
      have hsz : ¬ b' = wr.heap.size := by omega
      have hkl : (k : Int) < len := by omega
      have HT := (show Hid _ from withC_any xo xn ai b li ci lb cb e l W2 (hS.keep hbA) ((hl.keep hbr).keep hbA) (by omega) (fun j hj => hpk j (by omega)))
      have hwl := owns_lt howr
      clear hc hm hS
      go_wp2_with fail
      (try rw [hW2])
      refine Calls.mono HT.out ?_
      rintro r w2 ⟨g, rfl, hb2', hg1', hg2, hcg⟩
      have hb2 : Below wr.heap.size wr w2 := hbA.trans (hb2'.mono hbA.size)
      have hg1 : wr.heap.size ≤ g := by omega
      clear hb2' hbA hW2 m0 m1 m2
      have how2 := howr.kept (grown_of hb2) (.inr (by simp [Value.ownBlock]))
      have hf1 := how2.frozenAt (k * 3)
      have hf2 := how2.frozenAt (k * 3 + 1)
      have hf3 := how2.frozenAt (k * 3 + 2)
      have hxl : xs.length = len * 3 := howr.1
      obtain ⟨y1, hy1⟩ : ∃ y, xs[k * 3]? = some y := ⟨_, List.getElem?_eq_getElem (by omega)⟩
      obtain ⟨y2, hy2⟩ : ∃ y, xs[k * 3 + 1]? = some y := ⟨_, List.getElem?_eq_getElem (by omega)⟩
      obtain ⟨y3, hy3⟩ : ∃ y, xs[k * 3 + 2]? = some y := ⟨_, List.getElem?_eq_getElem (by omega)⟩
      have hcl1 := how2.cellAt (k * 3) (by omega)
      have hcl2 := how2.cellAt (k * 3 + 1) (by omega)
      have hcl3 := how2.cellAt (k * 3 + 2) (by omega)
      rw [hy1] at hcl1
      rw [hy2] at hcl2
      rw [hy3] at hcl3
      have HR := (show Hid _ from ecopy_step (x := .slice (some ⟨g, 0, none⟩) li li) (y := xo) (z := xn) hx.out hlt hb2 hwl how2 hbr ⟨hg1, hg2⟩ (by rw [HM.out]; simp only; rw [hle]; exact hcg) (by rw [HM.out]; simp only; rw [hle]) (by rw [HM.out]) (by rw [HM.out]))
      clear hx how2 hb2 hcg hbr howr hy1 hy2 hy3 HT c1 c2 c3 HM
      go_wp2
      go_roundw
      case rel =>
        obtain ⟨xs', r1, r2, r3⟩ := HR.out
        exact ⟨k + 1, xs', by omega, by go_num, r1, r2, r3⟩
      case measure => simp [intOf]; omega
    · go_wp2
      obtain rfl : k = len := by omega
      go_ret
      exact ⟨rfl, hbr, xs, howr, hx.out⟩
end Go.Proofs.YtfpkeikmfcddjaaDoor
