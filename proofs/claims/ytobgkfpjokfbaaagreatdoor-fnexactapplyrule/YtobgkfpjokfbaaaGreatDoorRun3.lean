/-
  PROVED HERE: plain facts on nodes of graphs, and how lists of them lie in memory. No condition. what the program's look whether kids are classes answers, at every graph of good nodes and parts. No other condition. how the program's shapes of nodes lie in a map, and what looking up, storing and deleting do to it. No condition.
-/
import Derived.Test.YtobgkfpjokfbaaaGreatDoorRun2
import Derived.Test.YtobgkfpjokfbaaaGreatDoorRows
import Derived.WideKeyEntry
import Derived.DeepKeys4
import Derived.Maps.OwnSet
import Derived.Maps.RangeRun
namespace Go.Proofs.YtobgkfpjokfbaaaGreatDoor
open Go.ChangeShapes Go.WideShapes Go.ChangeAt Go.RowKit
set_option linter.unusedVariables false

/-- A node of a graph: op, number, kids. -/
abbrev EN := Int × Int × List Int
def e0 : EN := (0, 0, [])
/-- The slice (a, len, cap) holds the nodes p in the world w. -/
def ESl (w : World) (a : Option Addr) (len : Nat) (p : List EN) : Prop :=
  p.length = len ∧ (len = 0 ∨ ∃ b off, a = some ⟨b, off, none⟩ ∧ b < w.heap.size ∧ ∀ i, i < len → ∃ ai li ci, w.cell? ⟨b, off + i * 3, none⟩ = some (.int .i64 (p.getD i e0).1) ∧ w.cell? ⟨b, off + i * 3 + 1, none⟩ = some (.int .i64 (p.getD i e0).2.1) ∧ w.cell? ⟨b, off + i * 3 + 2, none⟩ = some (.slice ai li ci) ∧ li ≤ 9223372036854775807 ∧ li ≤ ci ∧ Sl w ai li (p.getD i e0).2.2)
theorem ESl.keep {w w' : World} {a : Option Addr} {len : Nat} {p : List EN} (h : ESl w a len p) (hb : Below w.heap.size w w') : ESl w' a len p := by
  refine ⟨h.1, ?_⟩
  rcases h.2 with h0 | ⟨b, off, ha, hlt, hc⟩
  · exact .inl h0
  · refine .inr ⟨b, off, ha, Nat.lt_of_lt_of_le hlt hb.size, fun i hi => ?_⟩
    obtain ⟨ai, li, ci, c1, c2, c3, c4, c5, c6⟩ := hc i hi
    exact ⟨ai, li, ci, (hb.cell (p := ⟨b, off + i * 3, none⟩) hlt).trans c1, (hb.cell (p := ⟨b, off + i * 3 + 1, none⟩) hlt).trans c2, (hb.cell (p := ⟨b, off + i * 3 + 2, none⟩) hlt).trans c3, c4, c5, c6.keep hb⟩
theorem ESl.at {w : World} {a : Option Addr} {len : Nat} {p : List EN} (h : ESl w a len p) (h0 : 0 < len) :
    ∃ b off, a = some ⟨b, off, none⟩ ∧ b < w.heap.size ∧ ∀ i, i < len → ∃ ai li ci, w.cell? ⟨b, off + i * 3, none⟩ = some (.int .i64 (p.getD i e0).1) ∧ w.cell? ⟨b, off + i * 3 + 1, none⟩ = some (.int .i64 (p.getD i e0).2.1) ∧ w.cell? ⟨b, off + i * 3 + 2, none⟩ = some (.slice ai li ci) ∧ li ≤ 9223372036854775807 ∧ li ≤ ci ∧ Sl w ai li (p.getD i e0).2.2 := by
  rcases h.2 with h1 | h1
  · omega
  · exact h1

/-- Numbers within bounds. -/
def kidsB (l : List Int) (lo hi : Int) : Bool := l.all fun x => decide (lo ≤ x ∧ x ≤ hi)
theorem kidsB_drop (l : List Int) (k : Nat) (lo hi : Int) (h : k < l.length) : kidsB (l.drop k) lo hi = (decide (lo ≤ l.getD k 0 ∧ l.getD k 0 ≤ hi) && kidsB (l.drop (k + 1)) lo hi) := by
  rw [List.drop_eq_getElem_cons h, getI_lt h]; rfl
theorem kidsB_iff (l : List Int) (lo hi : Int) : kidsB l lo hi = true ↔ ∀ x ∈ l, lo ≤ x ∧ x ≤ hi := by
  unfold kidsB
  rw [List.all_eq_true]
  simp only [decide_eq_true_eq]
/-- Is a node of an op, a number and so many kids one? -/
def nodeOk (op n : Int) (m : Nat) : Bool := decide (0 ≤ ar op) && decide ((m : Int) = ar op) && numFits op n
/-- A node that may have the number k. -/
def fitE (k : Nat) (x : EN) : Bool := nodeOk x.1 x.2.1 x.2.2.length && kidsB x.2.2 0 ((k : Int) - 1)
def eachB : Nat → List EN → Bool
  | _, [] => true
  | k, x :: r => fitE k x && eachB (k + 1) r
theorem getDE_lt {p : List EN} {k : Nat} (h : k < p.length) : p.getD k e0 = p[k] := by
  rw [List.getD_eq_getElem?_getD, List.getElem?_eq_getElem h]; rfl
theorem eachB_drop (p : List EN) (k : Nat) (h : k < p.length) : eachB k (p.drop k) = (fitE k (p.getD k e0) && eachB (k + 1) (p.drop (k + 1))) := by
  rw [List.drop_eq_getElem_cons h, getDE_lt h]; rfl
def nodesB (p : List EN) : Bool := decide (p.length ≤ 120) && eachB 0 p
theorem eachB_all (p : List EN) : ∀ k, eachB k (p.drop k) = true → ∀ i, k ≤ i → i < p.length → fitE i (p.getD i e0) = true := by
  intro k
  induction hn : p.length - k generalizing k with
  | zero => intro _ i h1 h2; omega
  | succ n ih =>
    intro h i h1 h2
    rw [eachB_drop p k (by omega), Bool.and_eq_true] at h
    by_cases e : i = k
    · subst e; exact h.1
    · exact ih (k + 1) (by omega) h.2 i (by omega) h2
theorem nodesB_iff (p : List EN) : nodesB p = true ↔ p.length ≤ 120 ∧ ∀ i, i < p.length → fitE i (p.getD i e0) = true := by
  unfold nodesB
  rw [Bool.and_eq_true, decide_eq_true_iff]
  refine and_congr_right fun _ => ⟨fun h i hi => eachB_all p 0 (by simpa using h) i (Nat.zero_le _) hi, fun h => ?_⟩
  suffices ∀ n k, p.length - k = n → eachB k (p.drop k) = true by simpa using this _ 0 rfl
  intro n
  induction n with
  | zero => intro k hk; rw [List.drop_of_length_le (by omega)]; rfl
  | succ n ih => intro k hk; rw [eachB_drop p k (by omega), h k (by omega), ih (k + 1) (by omega)]; rfl
theorem fit_node {k : Nat} {x : EN} (h : fitE k x = true) : 0 ≤ ar x.1 ∧ (x.2.2.length : Int) = ar x.1 ∧ numFits x.1 x.2.1 = true ∧ ∀ y ∈ x.2.2, 0 ≤ y ∧ y < (k : Int) := by
  unfold fitE nodeOk at h
  simp only [Bool.and_eq_true, decide_eq_true_eq] at h
  obtain ⟨⟨⟨h1, h2⟩, h3⟩, h4⟩ := h
  refine ⟨h1, h2, h3, fun y hy => ?_⟩
  have := (kidsB_iff _ _ _).1 h4 y hy
  omega
theorem fit_few {k : Nat} {x : EN} (h : fitE k x = true) : x.2.2.length ≤ 3 := by
  have h1 := fit_node h
  have := (ar_range x.1).2
  omega
/-- Kids are classes. -/
def KidsCl (l : List Int) (kids : List Int) : Prop := ∀ x ∈ kids, l.getD x.toNat 0 = x
instance (l kids : List Int) : Decidable (KidsCl l kids) := inferInstanceAs (Decidable (∀ x ∈ kids, l.getD x.toNat 0 = x))
/-- A node is of one class with those ahead that are alike. -/
def OneCl (p : List EN) (l : List Int) (k : Nat) : Prop := ∀ i, i < k → p.getD k e0 = p.getD i e0 → l.getD i 0 = l.getD k 0
instance (p : List EN) (l : List Int) (k : Nat) : Decidable (OneCl p l k) := inferInstanceAs (Decidable (∀ i, i < k → p.getD k e0 = p.getD i e0 → l.getD i 0 = l.getD k 0))
def Rest (p : List EN) (l : List Int) : Prop := ∀ k, k < p.length → KidsCl l (p.getD k e0).2.2 ∧ OneCl p l k
instance (p : List EN) (l : List Int) : Decidable (Rest p l) := inferInstanceAs (Decidable (∀ k, k < p.length → KidsCl l (p.getD k e0).2.2 ∧ OneCl p l k))
/-- Nodes with as many good parts. -/
def headB (p : List EN) (l : List Int) : Bool := nodesB p && decide (l.length = p.length) && partB l
def graphB (p : List EN) (l : List Int) : Bool := headB p l && decide (Rest p l)
theorem headB_iff (p : List EN) (l : List Int) : headB p l = true ↔ nodesB p = true ∧ l.length = p.length ∧ partB l = true := by
  unfold headB
  rw [Bool.and_eq_true, Bool.and_eq_true, decide_eq_true_iff, and_assoc]
theorem graphB_iff (p : List EN) (l : List Int) : graphB p l = true ↔ headB p l = true ∧ Rest p l := by
  unfold graphB
  rw [Bool.and_eq_true, decide_eq_true_iff]
end Go.Proofs.YtobgkfpjokfbaaaGreatDoor
namespace Go.Proofs.YtobgkfpjokfbaaaGreatDoor
open Go.ChangeShapes Go.WideShapes Go.ChangeAt Go.RowKit
set_option linter.unusedVariables false

def AllCl (p : List EN) (l : List Int) : Prop := ∀ k, k < p.length → KidsCl l (p.getD k e0).2.2
instance (p : List EN) (l : List Int) : Decidable (AllCl p l) := inferInstanceAs (Decidable (∀ k, k < p.length → KidsCl l (p.getD k e0).2.2))
def AllOne (p : List EN) (l : List Int) : Prop := ∀ k, k < p.length → OneCl p l k
instance (p : List EN) (l : List Int) : Decidable (AllOne p l) := inferInstanceAs (Decidable (∀ k, k < p.length → OneCl p l k))
theorem rest_two (p : List EN) (l : List Int) : Rest p l ↔ AllCl p l ∧ AllOne p l := ⟨fun h => ⟨fun k hk => (h k hk).1, fun k hk => (h k hk).2⟩, fun h k hk => ⟨h.1 k hk, h.2 k hk⟩⟩
theorem kid_natI {p : List EN} {k j : Nat} (h : nodesB p = true) (hk : k < p.length) (hj : j < (p.getD k e0).2.2.length) : ∃ y : Nat, (p.getD k e0).2.2.getD j 0 = y ∧ y < k := by
  obtain ⟨_, h2⟩ := (nodesB_iff p).1 h
  obtain ⟨_, _, _, h3⟩ := fit_node (h2 k hk)
  have hm : (p.getD k e0).2.2.getD j 0 ∈ (p.getD k e0).2.2 := by rw [getI_lt hj]; exact List.getElem_mem _
  have := h3 _ hm
  exact ⟨((p.getD k e0).2.2.getD j 0).toNat, by omega, by omega⟩
theorem kidsCl_ofI {l kids : List Int} (h : ∀ j, j < kids.length → l.getD (kids.getD j 0).toNat 0 = kids.getD j 0) : KidsCl l kids := by
  intro x hx
  obtain ⟨j, hj, rfl⟩ := List.getElem_of_mem hx
  have := h j hj
  rwa [getI_lt hj] at this
theorem kidsCl_atI {l kids : List Int} (h : KidsCl l kids) (j : Nat) (hj : j < kids.length) : l.getD (kids.getD j 0).toNat 0 = kids.getD j 0 := h _ (by rw [getI_lt hj]; exact List.getElem_mem _)

set_option maxHeartbeats 3200000 in
theorem implKids_any (a b : Option Addr) (len cap cb : Nat) (p : List EN) (l : List Int) (w : World) (h : ESl w a len p) (hl : Sl w b len l) (hN : nodesB p = true) :
    Calls Tryz.prog 78 #[.agg #[.slice a len cap, .slice b len cb]] w fun e w' => e = .returned (.bool (decide (AllCl p l))) ∧ Below w.heap.size w w' := by
  have hll := h.1
  have hl1 := hl.1
  have h120 := ((nodesB_iff p).1 hN).1
  obtain ⟨W1, hW1⟩ : ∃ W1, w.alloc (.cells #[.slice a len cap, .slice b len cb] 36) = W1 := ⟨_, rfl⟩
  have hb1 : Below w.heap.size w W1 := by rw [← hW1]; exact (Below.refl _ _).alloc (Nat.le_refl _) _
  have n0 : W1.cell? ⟨w.heap.size, 0, none⟩ = some (.slice a len cap) := by rw [← hW1]; simp [go_sem]
  have n1 : W1.cell? ⟨w.heap.size, 1, none⟩ = some (.slice b len cb) := by rw [← hW1]; simp [go_sem]
  have hs1 : w.heap.size < W1.heap.size := by rw [← hW1]; simp
  have HE : Hid (ESl W1 a len p ∧ Sl W1 b len l ∧ Below w.heap.size w W1) := ⟨h.keep hb1, hl.keep hb1, hb1⟩
  have HNn := (show Hid (nodesB p = true) from hN)
  clear h hl hb1 hN
  go_enter Tryz.func78, Tryz.ntmps78
  go_wp2_with fail
  (try rw [hW1])
  go_loopw [10] (fun i wr => ∃ k : Nat, k ≤ len ∧ i = .int .i64 k ∧ Below W1.heap.size W1 wr ∧ Hid (∀ j, j < k → KidsCl l (p.getD j e0).2.2)) (fun i _ => len - (intOf i).toNat)
  case atStart => exact ⟨0, Nat.zero_le _, rfl, Below.refl _ _, fun j hj => absurd hj (Nat.not_lt_zero _)⟩
  case round =>
    obtain ⟨k, hk, rfl, hbr, hT⟩ := hrel
    obtain ⟨wo, rfl⟩ : ∃ x, x = wr := ⟨_, rfl⟩
    by_cases hlt : k < len
    · obtain ⟨bn, on, rfl, hbl, hc⟩ := (HE.out.1.keep hbr).at (by omega)
      obtain ⟨ai, li, ci, c1, c2, c3, hli, hci, hS⟩ := hc k hlt
      obtain ⟨bp, op, rfl, hpl, hcp⟩ : ∃ b' off, b = some ⟨b', off, none⟩ ∧ b' < wo.heap.size ∧ ∀ i, i < len → wo.cell? ⟨b', off + i, none⟩ = some (.int .i64 (l.getD i 0)) := by
        rcases (HE.out.2.1.keep hbr).2 with h0 | h0
        · omega
        · exact h0
      obtain ⟨x, hx⟩ : ∃ x, p.getD k e0 = x := ⟨_, rfl⟩
      obtain ⟨xo, xn, xk⟩ := x
      rw [hx] at c1 c2 hS
      simp only at c1 c2 hS
      have HX := (show Hid _ from hx)
      have hS1 := hS.1
      have hkl : (k : Int) < len := by omega
      have hsz : ¬ bn = wo.heap.size := by omega
      have q1 := (hbr.cell (p := ⟨w.heap.size, 1, none⟩) hs1).trans n1
      have hsw : w.heap.size < wo.heap.size := Nat.lt_of_lt_of_le hs1 hbr.size
      obtain ⟨W2, hW2⟩ : ∃ W2, wo.alloc (.cells #[.int .i64 xo, .int .i64 xn, .slice ai li ci] 80) = W2 := ⟨_, rfl⟩
      have hb2 : Below wo.heap.size wo W2 := by rw [← hW2]; exact (Below.refl _ _).alloc (Nat.le_refl _) _
      have m2 : W2.cell? ⟨wo.heap.size, 2, none⟩ = some (.slice ai li ci) := by rw [← hW2]; simp [go_sem]
      have p1 := (hb2.cell (p := ⟨w.heap.size, 1, none⟩) hsw).trans q1
      have HK : Hid (∀ j, j < li → ∃ y : Nat, xk.getD j 0 = y ∧ y < k) := fun j hj => by
        have := kid_natI (j := j) HNn.out (show k < p.length by omega) (by rw [hx]; simp only; omega)
        rwa [hx] at this
      have HS := (show Hid (Sl wo ai li xk) from hS)
      have HCp : Hid (∀ i, i < len → W2.cell? ⟨bp, op + i, none⟩ = some (.int .i64 (l.getD i 0))) := fun i hi => (hb2.cell (p := ⟨bp, op + i, none⟩) hpl).trans (hcp i hi)
      have HB2 : Hid (Below wo.heap.size wo W2) := hb2
      have HF : Hid (Below w.heap.size w W2) := HE.out.2.2.trans ((hbr.trans (hb2.mono hbr.size)).mono HE.out.2.2.size)
      have HG : Hid (Below W1.heap.size W1 W2) := hbr.trans (hb2.mono hbr.size)
      clear hc hcp hS hb2 hbr q1 hx
      go_wp2_with fail
      (try rw [hW2])
      go_loopw [17] (fun i wr => ∃ j : Nat, j ≤ li ∧ i = .int .i64 j ∧ wr = W2 ∧ Hid (∀ i, i < j → l.getD (xk.getD i 0).toNat 0 = xk.getD i 0)) (fun i _ => li - (intOf i).toNat)
      case atStart => exact ⟨0, Nat.zero_le _, rfl, rfl, fun j hj => absurd hj (Nat.not_lt_zero _)⟩
      case round =>
        obtain ⟨j, hj, rfl, rfl, hK⟩ := hrel
        obtain ⟨W2, rfl⟩ : ∃ x, x = wr := ⟨_, rfl⟩
        by_cases hjl : j < li
        · obtain ⟨y, hy, hyk⟩ := HK.out j hjl
          obtain ⟨bk, ok, rfl, hbk, hck⟩ : ∃ b' off, ai = some ⟨b', off, none⟩ ∧ b' < wo.heap.size ∧ ∀ i, i < li → wo.cell? ⟨b', off + i, none⟩ = some (.int .i64 (xk.getD i 0)) := by
            rcases HS.out.2 with h0 | h0
            · omega
            · exact h0
          have ck := (HB2.out.cell (p := ⟨bk, ok + j, none⟩) hbk).trans (hck j hjl)
          rw [hy] at ck
          have cy := HCp.out y (by omega)
          have hyl : (y : Int) < len := by omega
          have hjl' : (j : Int) < li := by omega
          by_cases e : l.getD y 0 = y
          · have HR : Hid (∀ i, i < j + 1 → l.getD (xk.getD i 0).toNat 0 = xk.getD i 0) := fun i hi => by
              by_cases e1 : i = j
              · rw [e1, hy, Int.toNat_natCast]; exact e
              · exact hK.out i (by omega)
            rw [e] at cy
            have hyy : ((y : Int) != y) = false := by simp
            clear hK hck hy e
            go_wp2_with fail
            go_roundw
            case rel => exact ⟨j + 1, by omega, by go_num, by first | trivial | rfl, HR⟩
            case measure => simp [intOf]; omega
          · have HV : Hid (decide (AllCl p l) = false) := decide_eq_false (fun hr => e (by
              have := hr k (by omega)
              rw [HX.out] at this
              have := kidsCl_atI this j (by simp only; omega)
              simp only at this
              rwa [hy, Int.toNat_natCast] at this))
            have hyy : (l.getD y 0 != (y : Int)) = true := by simpa using e
            clear hK hck hy e
            generalize l.getD y 0 = z at cy hyy
            go_wp2_with fail
            go_ret
            exact ⟨by rw [HV.out] <;> rfl, HF.out⟩
        · obtain rfl : j = li := by omega
          have HR : Hid (∀ j, j < k + 1 → KidsCl l (p.getD j e0).2.2) := fun i hi => by
            by_cases e1 : i = k
            · rw [e1, HX.out]; exact kidsCl_ofI (fun i hi => hK.out i (by simp only at hi; omega))
            · exact hT.out i (by omega)
          clear hK hT
          go_wp2_with fail
          go_roundw
          case rel => exact ⟨k + 1, by omega, by go_num, HG.out, HR⟩
          case measure => simp [intOf]; omega
    · obtain rfl : k = len := by omega
      have HV : Hid (decide (AllCl p l) = true) := decide_eq_true (fun j hj => hT.out j (by omega))
      have HB : Hid (Below w.heap.size w wo) := HE.out.2.2.trans (hbr.mono HE.out.2.2.size)
      clear hT
      go_wp2
      go_ret
      exact ⟨by rw [HV.out] <;> rfl, HB.out⟩
end Go.Proofs.YtobgkfpjokfbaaaGreatDoor
namespace Go.Proofs.YtobgkfpjokfbaaaGreatDoor
open Go.ChangeShapes Go.WideShapes Go.ChangeAt Go.RowKit
open Go.MapKept Go.ChangeMaps
set_option linter.unusedVariables false

theorem laidOutS : laidOutB Tryz.prog = true := by kernel_rfl
theorem shLaw : WideMaps.KeyLaw Tryz.prog 115 := deep_law_laid laidOutS (m := 3) (by omega) (of_decide_eq_true (by kernel_rfl)) (by kernel_rfl) (by kernel_rfl)
/-- What makes a shape: op, number, three kids. -/
abbrev Sh := Int × Int × Int × Int × Int
def shV (e : Sh) : Value := .agg #[.int .i64 e.1, .int .i64 e.2.1, .int .i64 e.2.2.1, .int .i64 e.2.2.2.1, .int .i64 e.2.2.2.2]
def ShIn (e : Sh) : Prop := InI e.1 ∧ InI e.2.1 ∧ InI e.2.2.1 ∧ InI e.2.2.2.1 ∧ InI e.2.2.2.2
theorem shV_inj {e f : Sh} (h : shV e = shV f) : e = f := by
  obtain ⟨o, n, a, b, c⟩ := e
  obtain ⟨o', n', a', b', c'⟩ := f
  simp only [shV, Value.agg.injEq, Array.mk.injEq, List.cons.injEq, Value.int.injEq, true_and, and_true] at h
  obtain ⟨rfl, rfl, rfl, rfl, rfl⟩ := h
  rfl
theorem wf_ofS {x : Int} (h : InI x) : (Lit.int .i64 x).wf = true := by
  unfold InI at h
  have e1 : IntKind.i64.min = -9223372036854775808 := by decide
  have e2 : IntKind.i64.max = 9223372036854775807 := by decide
  simp only [Lit.wf, Bool.and_eq_true, decide_eq_true_eq]
  omega
theorem keyTypeS : Tryz.prog.keyType 115 = true := by kernel_rfl
theorem cellsSh : Tryz.prog.cellsOf 115 = 5 := by kernel_rfl
theorem cellsK3 : Tryz.prog.cellsOf 113 = 3 := by kernel_rfl
theorem cellsIntSh : Tryz.prog.cellsOf 3 = 1 := by kernel_rfl
theorem cellsI64Sh : Tryz.prog.cellsOf 2 = 1 := by kernel_rfl
set_option maxRecDepth 20000 in
theorem sh_some {e : Sh} (h : ShIn e) : ∃ l, keyOf Tryz.prog 115 (shV e) = some l := by
  obtain ⟨o, n, a, b, c⟩ := e
  obtain ⟨h1, h2, h3, h4, h5⟩ := h
  simp only at h1 h2 h3 h4 h5
  have w1 := wf_ofS h1
  have w2 := wf_ofS h2
  have w3 := wf_ofS h3
  have w4 := wf_ofS h4
  have w5 := wf_ofS h5
  have hf : (shV (o, n, a, b, c)).formed Tryz.prog 115 = true := by rfl
  obtain ⟨m, hm⟩ : ∃ m, Tryz.prog.types.size = m + 2 := ⟨Tryz.prog.types.size - 2, by have : 1 < Tryz.prog.types.size := of_decide_eq_true (by kernel_rfl); omega⟩
  have e1 : ∀ (k : Nat) (x : Int), (Lit.int .i64 x).wf = true → Tryz.prog.keyLits (k + 1) 3 [.int .i64 x] = some [.int .i64 x] := fun k x hx => by simp [Program.keyLits, Tryz.underlying3, hx]
  have e2 : ∀ (k : Nat) (x : Int), (Lit.int .i64 x).wf = true → Tryz.prog.keyLits (k + 1) 2 [.int .i64 x] = some [.int .i64 x] := fun k x hx => by simp [Program.keyLits, Tryz.underlying2, hx]
  have e3 : Tryz.prog.keyLits (m + 2) 113 [.int .i64 a, .int .i64 b, .int .i64 c] = some [.int .i64 a, .int .i64 b, .int .i64 c] := by
    unfold Program.keyLits
    simp only [Tryz.underlying113, cellsK3, cellsIntSh]
    rw [if_pos (show ([.int .i64 a, .int .i64 b, .int .i64 c] : List Value).length = 3 from rfl), show List.range 3 = [0, 1, 2] from rfl]
    have f0 : Tryz.prog.keyLits (m + 1) 3 (([.int .i64 a, .int .i64 b, .int .i64 c] : List Value).drop (0 * 1) |>.take 1) = some [.int .i64 a] := e1 m a w3
    have f1 : Tryz.prog.keyLits (m + 1) 3 (([.int .i64 a, .int .i64 b, .int .i64 c] : List Value).drop (1 * 1) |>.take 1) = some [.int .i64 b] := e1 m b w4
    have f2 : Tryz.prog.keyLits (m + 1) 3 (([.int .i64 a, .int .i64 b, .int .i64 c] : List Value).drop (2 * 1) |>.take 1) = some [.int .i64 c] := e1 m c w5
    simp only [List.mapM_cons, List.mapM_nil, f0, f1, f2]
    rfl
  have hl : Tryz.prog.keyLits (Tryz.prog.types.size + 1) 115 (shV (o, n, a, b, c)).cells.toList = some [.int .i64 o, .int .i64 n, .int .i64 a, .int .i64 b, .int .i64 c] := by
    have hc : (shV (o, n, a, b, c)).cells.toList = [.int .i64 o, .int .i64 n, .int .i64 a, .int .i64 b, .int .i64 c] := rfl
    rw [hc, hm]
    unfold Program.keyLits
    simp only [Tryz.underlying115, cellsSh]
    rw [if_pos ⟨rfl, by simp⟩]
    have f0 : Tryz.prog.keyLits (m + 2) 3 (([.int .i64 o, .int .i64 n, .int .i64 a, .int .i64 b, .int .i64 c] : List Value).drop 0 |>.take 1) = some [.int .i64 o] := e1 (m + 1) o w1
    have f1 : Tryz.prog.keyLits (m + 2) 2 (([.int .i64 o, .int .i64 n, .int .i64 a, .int .i64 b, .int .i64 c] : List Value).drop 1 |>.take 1) = some [.int .i64 n] := e2 (m + 1) n w2
    have f2 : Tryz.prog.keyLits (m + 2) 113 (([.int .i64 o, .int .i64 n, .int .i64 a, .int .i64 b, .int .i64 c] : List Value).drop 2 |>.take 3) = some [.int .i64 a, .int .i64 b, .int .i64 c] := e3
    simp only [List.mapM_cons, List.mapM_nil, f0, f1, f2, cellsK3, cellsIntSh, cellsI64Sh]
    rfl
  refine ⟨.string (keyBytes [.int .i64 o, .int .i64 n, .int .i64 a, .int .i64 b, .int .i64 c]), ?_⟩
  unfold keyOf
  rw [Tryz.underlying115]
  simp only [keyTypeS, hf, hl, Bool.and_self, if_pos, Option.map_some]
/-- Block b is a map from shapes to numbers. -/
def SMap (w : World) (b : Nat) (f : Sh → Option Int) : Prop := ∃ es clock, w.heap[b]? = some (.map es clock) ∧ Stamped es clock ∧ (∀ x ∈ es.toList, ∃ e v, x.key = shV e ∧ x.val = .int .i64 v ∧ ShIn e ∧ f e = some v) ∧ ∀ e v, f e = some v → ∃ x ∈ es.toList, x.key = shV e
theorem SMap.block {w w' : World} {b : Nat} {f : Sh → Option Int} (h : SMap w b f) (hb : w'.heap[b]? = w.heap[b]?) : SMap w' b f := by
  obtain ⟨es, clock, h1, h2, h3, h4⟩ := h
  exact ⟨es, clock, hb.trans h1, h2, h3, h4⟩
theorem SMap.lt {w : World} {b : Nat} {f : Sh → Option Int} (h : SMap w b f) : b < w.heap.size := by
  obtain ⟨es, clock, h1, _⟩ := h
  exact (Array.getElem?_eq_some_iff.1 h1).1
theorem SMap.keep {w w' : World} {b : Nat} {f : Sh → Option Int} (h : SMap w b f) (hb : Below w.heap.size w w') : SMap w' b f := h.block (hb.block b h.lt)
theorem smap_empty {w : World} {b clock : Nat} (h : w.heap[b]? = some (.map #[] clock)) : SMap w b fun _ => none :=
  ⟨#[], clock, h, (stamped_iff _ _).2 ⟨fun x hx => by simp at hx, by simp, by simp⟩, fun x hx => by simp at hx, fun e v h => by cases h⟩
/-- Where a key is. -/
theorem smap_find {w : World} {es : Array MapEntry} {f : Sh → Option Int} (h3 : ∀ x ∈ es.toList, ∃ e v, x.key = shV e ∧ x.val = .int .i64 v ∧ ShIn e ∧ f e = some v) (h4 : ∀ e v, f e = some v → ∃ x ∈ es.toList, x.key = shV e) {e : Sh} (he : ShIn e) :
    ((Instr.findKey 115 (shV e) es.toList).run Tryz.prog w = .ok none w ∧ (∀ x ∈ es.toList, x.key ≠ shV e) ∧ f e = none) ∨
    ∃ j x v, (Instr.findKey 115 (shV e) es.toList).run Tryz.prog w = .ok (some (j, .int .i64 v)) w ∧ es.toList[j]? = some x ∧ x.key = shV e ∧ x.val = .int .i64 v ∧ f e = some v := by
  obtain ⟨l, hl⟩ := sh_some he
  have hall : ∀ x ∈ es.toList, ∃ l, keyOf Tryz.prog 115 x.key = some l := fun x hx => by
    obtain ⟨e', v, k1, _, k3, _⟩ := h3 x hx
    rw [k1]; exact sh_some k3
  rcases shLaw.find w hl es.toList hall with ⟨r1, r2⟩ | ⟨j, x, r1, r2, r3⟩
  · refine .inl ⟨r1, r2, ?_⟩
    cases hf : f e with
    | none => rfl
    | some v =>
      obtain ⟨x, hx, hxe⟩ := h4 e v hf
      exact absurd hxe (r2 x hx)
  · obtain ⟨e', v, k1, k2, k3, k4⟩ := h3 x (List.mem_of_getElem? r2)
    have := shV_inj (k1.symm.trans r3)
    subst this
    exact .inr ⟨j, x, v, by rw [r1, k2], r2, r3, k2, k4⟩
theorem zeroIntSh (w : World) : (zeroValue 3).run Tryz.prog w = .ok (.int .i64 0) w := by kernel_rfl
/-- What is told of a key. -/
def told (o : Option Int) : Value := match o with | some v => .tuple #[.int .i64 v, .bool true] | none => .tuple #[.int .i64 0, .bool false]
theorem SMap.lookup {w : World} {b : Nat} {f : Sh → Option Int} (h : SMap w b f) {e : Sh} (he : ShIn e) : (Instr.lookup 110 (.map (some b)) (shV e) true).run Tryz.prog w = .ok (told (f e)) w := by
  obtain ⟨es, clock, h1, h2, h3, h4⟩ := h
  obtain ⟨l, hl⟩ := sh_some he
  rcases smap_find (w := w) h3 h4 he with ⟨r1, r2, r3⟩ | ⟨j, x, v, r1, r2, r3, r4, r5⟩
  · rw [r3]
    simp [told, Instr.lookup, run_underlying Tryz.underlying110, MapKept.run_getObj_map h1, shLaw.check w _ hl, r1, Result.andThen]
  · rw [r5]
    simp [told, Instr.lookup, run_underlying Tryz.underlying110, MapKept.run_getObj_map h1, shLaw.check w _ hl, r1, Result.andThen]
/-- A key's number set. -/
def setS (f : Sh → Option Int) (e : Sh) (o : Option Int) : Sh → Option Int := fun e' => if e' = e then o else f e'
theorem SMap.store {w : World} {b : Nat} {f : Sh → Option Int} (h : SMap w b f) {e : Sh} (he : ShIn e) (v : Int) :
    ∃ o : Obj, (Instr.mapUpdate 110 (.map (some b)) (shV e) (.int .i64 v)).run Tryz.prog w = .ok () (setBlock w b o) ∧ ∀ w3 : World, w3.heap[b]? = some o → SMap w3 b (setS f e (some v)) := by
  obtain ⟨es, clock, h1, h2, h3, h4⟩ := h
  obtain ⟨l, hl⟩ := sh_some he
  rcases smap_find (w := w) h3 h4 he with ⟨r1, r2, r3⟩ | ⟨j, y, u, r1, r2, r3, r4, r5⟩
  · refine ⟨.map (es.push ⟨shV e, .int .i64 v, clock⟩) (clock + 1), ?_, fun w3 hw3 => ⟨_, _, hw3, stamped_push h2 r2, fun x hx => ?_, fun e' v' h' => ?_⟩⟩
    · simp [Instr.mapUpdate, run_underlying Tryz.underlying110, MapKept.run_getObj_map h1, shLaw.check w false hl, r1, MapKept.run_setObj_map _ h1, Result.andThen, setBlock]
    · simp only [Array.toList_push, List.mem_append, List.mem_singleton] at hx
      rcases hx with hx | rfl
      · obtain ⟨e', v', k1, k2, k3, k4⟩ := h3 x hx
        refine ⟨e', v', k1, k2, k3, ?_⟩
        unfold setS
        rw [if_neg (fun e1 => r2 x hx (by rw [k1, e1])), k4]
      · exact ⟨e, v, rfl, rfl, he, by unfold setS; rw [if_pos rfl]⟩
    · unfold setS at h'
      by_cases e1 : e' = e
      · exact ⟨⟨shV e, .int .i64 v, clock⟩, by simp, by rw [e1]⟩
      · rw [if_neg e1] at h'
        obtain ⟨x, hx, hxe⟩ := h4 e' v' h'
        exact ⟨x, by simp [hx], hxe⟩
  · have hj : es[j]? = some y := by simpa using r2
    have ht : (es.modify j (fun e' => { e' with key := shV e, val := .int .i64 v })).toList = es.toList.set j { y with key := shV e, val := .int .i64 v } := by
      rw [Array.toList_modify, modify_eq_set _ _ _ _ r2]
    refine ⟨.map (es.modify j (fun e' => { e' with key := shV e, val := .int .i64 v })) clock, ?_, fun w3 hw3 => ⟨_, _, hw3, stamped_modify h2 j _ (fun _ _ => rfl) (fun e' _ he' => ?_), fun x hx => ?_, fun e' v' h' => ?_⟩⟩
    · simp [Instr.mapUpdate, run_underlying Tryz.underlying110, MapKept.run_getObj_map h1, shLaw.check w false hl, r1, hj, r3, shLaw.stays w hl, MapKept.run_setObj_map _ h1, Result.andThen, setBlock]
    · rw [hj] at he'; cases he'; exact r3.symm
    · rw [ht] at hx
      obtain ⟨i, hi, rfl⟩ := List.getElem_of_mem hx
      rw [List.getElem_set]
      by_cases e1 : j = i
      · rw [if_pos e1]; exact ⟨e, v, rfl, rfl, he, by unfold setS; rw [if_pos rfl]⟩
      · rw [if_neg e1]
        rw [List.length_set] at hi
        obtain ⟨e', v', k1, k2, k3, k4⟩ := h3 _ (List.getElem_mem hi)
        refine ⟨e', v', k1, k2, k3, ?_⟩
        unfold setS
        rw [if_neg (fun e2 => ?_), k4]
        have hp := List.pairwise_iff_getElem.1 ((stamped_iff es clock).1 h2).2.2
        obtain ⟨g1, g2⟩ := List.getElem?_eq_some_iff.1 r2
        rcases Nat.lt_or_gt_of_ne e1 with hlt | hlt
        · exact hp j i g1 hi hlt (by rw [g2, r3, k1, e2])
        · exact hp i j hi g1 hlt (by rw [g2, r3, k1, e2])
    · rw [ht]
      unfold setS at h'
      by_cases e1 : e' = e
      · exact ⟨_, List.mem_set (by have := (List.getElem?_eq_some_iff.1 r2).1; exact this) _, by rw [e1]⟩
      · rw [if_neg e1] at h'
        obtain ⟨x, hx, hxe⟩ := h4 e' v' h'
        obtain ⟨i, hi, rfl⟩ := List.getElem_of_mem hx
        have hne : j ≠ i := fun e2 => by
          subst e2
          obtain ⟨g1, g2⟩ := List.getElem?_eq_some_iff.1 r2
          rw [g2, r3] at hxe
          exact e1 (shV_inj hxe).symm
        refine ⟨_, List.getElem_mem (l := es.toList.set j { y with key := shV e, val := .int .i64 v }) (n := i) (by rw [List.length_set]; exact hi), ?_⟩
        rw [List.getElem_set, if_neg hne]; exact hxe
/-- Deleting a key. -/
theorem SMap.delete {w : World} {b : Nat} {f : Sh → Option Int} (h : SMap w b f) {e : Sh} (he : ShIn e) (ty : TypeId) :
    ∃ o : Obj, (Builtin.delete_ #[110, 115] ty #[.map (some b), shV e]).run Tryz.prog w = .ok (.tuple #[]) (setBlock w b o) ∧ ∀ w3 : World, w3.heap[b]? = some o → SMap w3 b (setS f e none) := by
  obtain ⟨es, clock, h1, h2, h3, h4⟩ := h
  obtain ⟨l, hl⟩ := sh_some he
  rcases smap_find (w := w) h3 h4 he with ⟨r1, r2, r3⟩ | ⟨j, y, u, r1, r2, r3, r4, r5⟩
  · refine ⟨.map es clock, ?_, fun w3 hw3 => ⟨_, _, hw3, h2, fun x hx => ?_, fun e' v' h' => ?_⟩⟩
    · simp [Builtin.delete_, run_underlying Tryz.underlying110, MapKept.run_getObj_map h1, shLaw.check w _ hl, r1, MapKept.run_setObj_map _ h1, Result.andThen, setBlock]
    · obtain ⟨e', v', k1, k2, k3, k4⟩ := h3 x hx
      exact ⟨e', v', k1, k2, k3, by unfold setS; rw [if_neg (fun e1 => r2 x hx (by rw [k1, e1])), k4]⟩
    · unfold setS at h'
      by_cases e1 : e' = e
      · rw [if_pos e1] at h'; cases h'
      · rw [if_neg e1] at h'; exact h4 e' v' h'
  · have hlt : j < es.size := by have := (List.getElem?_eq_some_iff.1 r2).1; simpa using this
    have hl2 : (es.eraseIdxIfInBounds j).toList = es.toList.eraseIdx j := by
      rw [Array.eraseIdxIfInBounds, dif_pos hlt]; simp
    have hp := List.pairwise_iff_getElem.1 ((stamped_iff es clock).1 h2).2.2
    obtain ⟨g1, g2⟩ := List.getElem?_eq_some_iff.1 r2
    refine ⟨.map (es.eraseIdxIfInBounds j) clock, ?_, fun w3 hw3 => ⟨_, _, hw3, stamped_erase h2 j, fun x hx => ?_, fun e' v' h' => ?_⟩⟩
    · simp [Builtin.delete_, run_underlying Tryz.underlying110, MapKept.run_getObj_map h1, shLaw.check w _ hl, r1, MapKept.run_setObj_map _ h1, Result.andThen, setBlock]
    · rw [hl2] at hx
      obtain ⟨i, hi1, hi2⟩ := List.mem_eraseIdx_iff_getElem?.1 hx
      obtain ⟨e', v', k1, k2, k3, k4⟩ := h3 x (List.mem_of_mem_eraseIdx hx)
      refine ⟨e', v', k1, k2, k3, ?_⟩
      unfold setS
      rw [if_neg (fun e2 => ?_), k4]
      obtain ⟨l1, q1⟩ := List.getElem?_eq_some_iff.1 hi2
      rcases Nat.lt_or_gt_of_ne hi1 with hlt' | hlt'
      · exact hp i j l1 g1 hlt' (by rw [q1, g2, r3, k1, e2])
      · exact hp j i g1 l1 hlt' (by rw [q1, g2, r3, k1, e2])
    · rw [hl2]
      unfold setS at h'
      by_cases e1 : e' = e
      · rw [if_pos e1] at h'; cases h'
      · rw [if_neg e1] at h'
        obtain ⟨x, hx, hxe⟩ := h4 e' v' h'
        obtain ⟨i, hi⟩ := List.getElem?_of_mem hx
        refine ⟨x, List.mem_eraseIdx_iff_getElem?.2 ⟨i, fun e2 => ?_, hi⟩, hxe⟩
        subst e2
        rw [r2] at hi
        cases hi
        exact e1 (shV_inj (hxe.symm.trans r3))
end Go.Proofs.YtobgkfpjokfbaaaGreatDoor
