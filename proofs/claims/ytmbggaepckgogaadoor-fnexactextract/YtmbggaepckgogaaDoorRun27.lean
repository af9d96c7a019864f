/-
  PROVED HERE: what a term costs, the program's and the model's, at every list of nodes; in a world whose tables of arities and of costs are laid. No other condition. what the program's and the model's Extract answer, at every graph and number; the tables of arities and of costs are laid. No other condition.
-/
import Derived.Test.YtmbggaepckgogaaDoorRun8
import Derived.Test.YtmbggaepckgogaaDoorRun1
import Derived.Test.YtmbggaepckgogaaDoorRun3
import Derived.Test.YtmbggaepckgogaaDoorRun26
import Derived.Test.YtmbggaepckgogaaDoorRun25
namespace Go.Proofs.YtmbggaepckgogaaDoor
open Go.ChangeShapes Go.WideShapes Go.ChangeAt Go.RowKit
set_option linter.unusedVariables false

/-- What the first k nodes of a term cost. -/
def cstK (l : List (Int × Int)) : Nat → Int
  | 0 => 0
  | k + 1 => cstK l k + cst (l.getD k (0, 0)).1
theorem cstK_le (l : List (Int × Int)) (k : Nat) : 0 ≤ cstK l k ∧ cstK l k ≤ 20 * k := by
  induction k with
  | zero => exact ⟨Int.le_refl _, by simp [cstK]⟩
  | succ k ih =>
    have := cst_pos (l.getD k (0, 0)).1
    simp only [cstK]
    omega
theorem pile_ops (l : List (Int × Int)) : ∀ p q : Int, pile l p = some q → ∀ k, k < l.length → 0 ≤ ar (l.getD k (0, 0)).1 := by
  induction l with
  | nil => intro p q _ k hk; simp at hk
  | cons x r ih =>
    obtain ⟨op, n⟩ := x
    intro p q h k hk
    simp only [pile] at h
    split at h
    · rename_i hf
      cases k with
      | zero =>
        rw [fits_eq] at hf
        simp only [Bool.and_eq_true, decide_eq_true_eq] at hf
        exact hf.1.1
      | succ k =>
        have := ih _ _ h k (by simp at hk; omega)
        simpa using this
    · cases h
theorem good_ops {l : List (Int × Int)} (h : goodB l = true) (k : Nat) (hk : k < l.length) : 1 ≤ (l.getD k (0, 0)).1 ∧ (l.getD k (0, 0)).1 ≤ 11 := by
  have := pile_ops l 0 1 (good_pile h).1 k hk
  have hr : ¬ ((l.getD k (0, 0)).1 < 1 ∨ 11 < (l.getD k (0, 0)).1) := fun hc => by rw [ar_out _ hc] at this; omega
  omega

theorem l10Cost_any (a : Option Addr) (len cap : Nat) (l : List (Int × Int)) (w : World) (h : NSl w a len l) (hm : len ≤ 40) :
    Calls Tryd.prog 40 #[.slice a len cap] w fun e w' => e = .returned (.int .i64 (cstK l len)) ∧ Below w.heap.size w w' := by
  have hll := h.1
  go_enter Tryd.func40, Tryd.ntmps40
  go_wp2_with fail
  go_loopw [3, 8] (fun x i wr => ∃ (k : Nat), k ≤ len ∧ i = .int .i64 k ∧ x = .int .i64 (cstK l k) ∧ Below w.heap.size w wr) (fun _ i _ => len - (intOf i).toNat)
  case atStart => exact ⟨0, Nat.zero_le _, rfl, rfl, Below.refl _ _⟩
  case round =>
    obtain ⟨k, hk, rfl, rfl, hbr⟩ := hrel
    by_cases hlt : k < len
    · obtain ⟨b, off, rfl, hbl, hc⟩ := h.at (by omega)
      have c1 := (hbr.cell (p := ⟨b, off + k * 2, none⟩) hbl).trans (hc k hlt).1
      have c2 := (hbr.cell (p := ⟨b, off + k * 2 + 1, none⟩) hbl).trans (hc k hlt).2
      have hstep : cstK l (k + 1) = cstK l k + cst (l.getD k (0, 0)).1 := rfl
      have hle := cstK_le l k
      have hcp := cst_pos (l.getD k (0, 0)).1
      clear hc h
      generalize (l.getD k (0, 0)).1 = x at c1 hstep hcp
      generalize (l.getD k (0, 0)).2 = y at c2
      have HS : Hid (cstK l (k + 1) = cstK l k + cst x) := hstep
      clear hstep
      have HC : Hid (∀ W, Calls Tryd.prog 65 #[.int .i64 x] W fun e w' => e = .returned (.int .i64 (cst x)) ∧ w' = W) := fun W => l10Op_any x W
      generalize cst x = C at HC HS hcp
      generalize cstK l k = S at HS hle ⊢
      obtain ⟨p1, p2⟩ := hle
      obtain ⟨p3, p4⟩ := hcp
      have hbr' := hbr.alloc hbr.size (.cells #[.int .i64 x, .int .i64 y] 68)
      go_wp2_with (go_at_call 65; refine Calls.mono (HC.out _) ?_; rintro e w1 ⟨rfl, rfl⟩)
      go_roundw
      case rel => exact ⟨k + 1, by omega, by go_num, by rw [HS.out], hbr'⟩
      case measure => simp [intOf]; omega
    · obtain rfl : k = len := by omega
      go_wp2
      go_ret
      exact ⟨rfl, hbr⟩
/-- What CostOf tells. -/
def costOf (l : List (Int × Int)) : Int := if goodB l = true then cstK l l.length else 0
theorem implCost_any (a : Option Addr) (len cap : Nat) (l : List (Int × Int)) (w : World) (ht : Tab w) (hc : Cst w) (h : NSl w a len l) (hm : len ≤ 9223372036854775807) :
    Calls Tryd.prog 43 #[.slice a len cap] w fun e w' => e = .returned (.tuple #[.int .i64 (costOf l), .bool (goodB l)]) ∧ Below w.heap.size w w' := by
  have hll := h.1
  have HG := (show Hid _ from implGood_any a len cap l w ht h hm)
  unfold costOf
  by_cases hg : goodB l = true
  · have h40 := (good_pile hg).2.2
    have HO := (show Hid _ from fun k hk => good_ops hg k hk)
    rw [if_pos hg, hll]
    rw [hg] at HG ⊢
    have HT : Hid (Cst w) := hc
    clear hg hm ht hc
    go_enter Tryd.func43, Tryd.ntmps43
    go_wp2_with fail
    refine Calls.mono HG.out ?_
    rintro e w2 ⟨rfl, hb2⟩
    clear HG
    go_wp2_with fail
    go_loopw [4, 12] (fun x i wr => ∃ (k : Nat), k ≤ len ∧ i = .int .i64 k ∧ x = .int .i64 (cstK l k) ∧ Below w.heap.size w wr) (fun _ i _ => len - (intOf i).toNat)
    case atStart => exact ⟨0, Nat.zero_le _, rfl, rfl, hb2⟩
    case round =>
      obtain ⟨k, hk, rfl, rfl, hbr⟩ := hrel
      by_cases hlt : k < len
      · obtain ⟨b, off, rfl, hbl, hc⟩ := h.at (by omega)
        have c1 := (hbr.cell (p := ⟨b, off + k * 2, none⟩) hbl).trans (hc k hlt).1
        have c2 := (hbr.cell (p := ⟨b, off + k * 2 + 1, none⟩) hbl).trans (hc k hlt).2
        have hstep : cstK l (k + 1) = cstK l k + cst (l.getD k (0, 0)).1 := rfl
        have hle := cstK_le l k
        have hcp := cst_pos (l.getD k (0, 0)).1
        obtain ⟨o1, o2⟩ := HO.out k (by omega)
        clear hc h
        generalize (l.getD k (0, 0)).1 = x at c1 hstep hcp o1 o2
        generalize (l.getD k (0, 0)).2 = y at c2
        obtain ⟨n, rfl⟩ := Int.eq_ofNat_of_zero_le (show 0 ≤ x by omega)
        have hbr' := hbr.alloc hbr.size (.cells #[.int .i64 n, .int .i64 y] 68)
        have c3 := (HT.out.keeps hbr') n (by omega)
        rw [ctab_get n (by omega)] at c3
        have HS : Hid (cstK l (k + 1) = cstK l k + cst n) := hstep
        clear hstep
        have o3 : (n : Int) < 12 := by omega
        generalize cst n = C at HS hcp c3
        generalize cstK l k = S at HS hle ⊢
        obtain ⟨p1, p2⟩ := hle
        obtain ⟨p3, p4⟩ := hcp
        clear HO HT
        go_wp2
        go_roundw
        case rel => exact ⟨k + 1, by omega, by go_num, by rw [HS.out], hbr'⟩
        case measure => simp [intOf]; omega
      · obtain rfl : k = len := by omega
        go_wp2
        go_ret2
        exact ⟨rfl, hbr⟩
  · rw [if_neg hg]
    rw [Bool.not_eq_true] at hg
    rw [hg] at HG ⊢
    clear h hll hg hm hc ht
    go_enter Tryd.func43, Tryd.ntmps43
    go_wp2_with fail
    refine Calls.mono HG.out ?_
    rintro e w2 ⟨rfl, hb2⟩
    go_wp2
    go_ret2
    exact ⟨rfl, hb2⟩
end Go.Proofs.YtmbggaepckgogaaDoor
namespace Go.Proofs.YtmbggaepckgogaaDoor
open Go.ChangeShapes Go.WideShapes Go.ChangeAt Go.RowKit
set_option linter.unusedVariables false

theorem tm_same {p : List EN} {l B : List Int} {ch ch' : Nat → Nat} (hg : CostG p l) (hb : BestC p l B) (hs : StillP p l B) (hlow : ∀ k, k < p.length → ∀ y ∈ (p.getD k e0).2.2, 0 ≤ y) (h : ChF p l B ch) (h' : ChF p l B ch') : ∀ f c, c < p.length → l.getD c 0 = c → tmF p ch f c = tmF p ch' f c
  | 0, c, _, _ => rfl
  | f + 1, c, hc, hcl => by
    have e := cho_one (h c hc hcl) (h' c hc hcl)
    simp only [tmF]
    rw [← e]
    congr 1
    apply flatMap_same
    intro y hy
    have hC := h c hc hcl
    obtain ⟨q1, q2, q3⟩ := cho_falls hg hb hs hc hcl hC hy (hlow _ hC.1 y hy)
    exact tm_same hg hb hs hlow h h' f y.toNat q2 q3
/-- The cheapest term of a class that may be chosen. -/
def ExtC (p : List EN) (l : List Int) (c : Int) (T : List (Int × Int)) : Prop := choOk p l c = true → ∀ B, BestC p l B → StillP p l B → ∀ ch, ChF p l B ch → T = tmT p ch c.toNat
theorem extC_some (p : List EN) (l : List Int) (c : Int) : ∃ T, ExtC p l c T := by
  by_cases h : choOk p l c = true ∧ ∃ B, BestC p l B ∧ StillP p l B
  · obtain ⟨hok, B, hB, hS⟩ := h
    have hok2 := hok
    unfold choOk at hok2
    simp only [Bool.and_eq_true] at hok2
    have hg := costG_of hok2.1
    obtain ⟨k, rfl, hk, hkl⟩ := clB_nat hok2.2
    obtain ⟨ch, hch⟩ := chF_some hg hB hS
    refine ⟨tmT p ch ((k : Nat) : Int).toNat, fun _ B' hB' hS' ch' hch' => ?_⟩
    have e := best_unique hB hB'
    subst e
    rw [Int.toNat_natCast]
    unfold tmT
    exact tm_same hg hB hS (kids_of hok2.1).1 hch hch' _ k (by have := hg.len; omega) hkl
  · exact ⟨[], fun hok B hB hS _ _ => absurd ⟨hok, B, hB, hS⟩ h⟩
def extOk (p : List EN) (l : List Int) (c : Int) (T : List (Int × Int)) : Bool := choOk p l c && goodB T
def extL (p : List EN) (l : List Int) (c : Int) (T : List (Int × Int)) : List (Int × Int) := if extOk p l c T = true then T else []
def extV (p : List EN) (l : List Int) (c : Int) (T : List (Int × Int)) : Int := if extOk p l c T = true then cstK T T.length else 0
theorem trunc_good {T L : List (Int × Int)} (h : TruncT T L) : goodB L = goodB T ∧ (goodB T = true → L = T) := by
  by_cases h4 : T.length ≤ 40
  · rw [h.1 h4]; exact ⟨rfl, fun _ => rfl⟩
  · have h5 := h.2 (by omega)
    have e1 : goodB T = false := by unfold goodB; rw [decide_eq_false (by omega)]; rfl
    have e2 : goodB L = false := by unfold goodB; rw [decide_eq_false (by omega)]; rfl
    rw [e1, e2]
    exact ⟨rfl, fun h => by cases h⟩
theorem extL_few (p : List EN) (l : List Int) (c : Int) (T : List (Int × Int)) : (extL p l c T).length ≤ 40 := by
  unfold extL
  split
  · rename_i h
    unfold extOk at h
    simp only [Bool.and_eq_true] at h
    exact (good_pile h.2).2.2
  · simp
theorem extL_not {p : List EN} {l : List Int} {c : Int} {T : List (Int × Int)} (h : extOk p l c T = false) : extL p l c T = [] ∧ extV p l c T = 0 := by
  unfold extL extV
  rw [h]
  exact ⟨rfl, rfl⟩
theorem extL_yes {p : List EN} {l : List Int} {c : Int} {T : List (Int × Int)} (h : extOk p l c T = true) : extL p l c T = T ∧ extV p l c T = cstK T T.length := by
  unfold extL extV
  rw [h]
  exact ⟨rfl, rfl⟩
theorem whereGood_any (a : Option Addr) (len cap : Nat) (L : List (Int × Int)) (w : World) (hT : Tab w) (h : NSl w a len L) (hm : len ≤ 100000) :
    Calls Tryd.prog 41 #[.slice a len cap] w fun e w' => e = .returned (if goodB L = true then .tuple #[.slice a len cap, .bool true] else .tuple #[.slice none 0 0, .bool false]) ∧ Below w.heap.size w w' := by
  have HG := (show Hid _ from implGood_any a len cap L w hT h (by omega))
  cases hg : goodB L with
  | true =>
    rw [hg] at HG
    rw [if_pos rfl]
    clear hT h hg
    go_enter Tryd.func41, Tryd.ntmps41
    go_wp2_with fail
    refine Calls.mono HG.out ?_
    rintro e w2 ⟨rfl, hb2⟩
    have HB := (show Hid _ from hb2)
    clear HG hb2
    go_wp2
    go_ret2
    exact ⟨rfl, HB.out⟩
  | false =>
    rw [hg] at HG
    rw [if_neg (by simp)]
    clear hT h hg
    go_enter Tryd.func41, Tryd.ntmps41
    go_wp2_with fail
    refine Calls.mono HG.out ?_
    rintro e w2 ⟨rfl, hb2⟩
    have HB := (show Hid _ from hb2)
    clear HG hb2
    go_wp2
    go_ret2
    exact ⟨rfl, HB.out⟩

set_option maxHeartbeats 1000000 in
set_option maxRecDepth 20000 in
theorem implExtract_any (a b : Option Addr) (len cap lb cb : Nat) (p : List EN) (l : List Int) (c : Int) (T : List (Int × Int)) (hC : ExtC p l c T) (w : World) (hT : Tab w) (hCs : Cst w) (hI : InE p) (h : ESl w a len p) (hl : Sl w b lb l) (hm : len ≤ 9223372036854775807) (hm2 : lb ≤ 9223372036854775807) :
    Calls Tryd.prog 18 #[.agg #[.slice a len cap, .slice b lb cb], .int .i64 c] w fun e w' => ∃ v : Value, e = .returned (.tuple #[v, .int .i64 (extV p l c T), .bool (extOk p l c T)]) ∧ w'.ownsRow w.heap.size 68 2 v (extL p l c T).length (flat (extL p l c T)) ∧ Below w.heap.size w w' := by
  have hll := h.1
  have hl1 := hl.1
  obtain ⟨W1, hW1⟩ : ∃ W1, w.alloc (.cells #[.slice a len cap, .slice b lb cb] 31) = W1 := ⟨_, rfl⟩
  have hb1 : Below w.heap.size w W1 := by rw [← hW1]; exact (Below.refl _ _).alloc (Nat.le_refl _) _
  have n0 : W1.cell? ⟨w.heap.size, 0, none⟩ = some (.slice a len cap) := by rw [← hW1]; simp [go_sem]
  have n1 : W1.cell? ⟨w.heap.size, 1, none⟩ = some (.slice b lb cb) := by rw [← hW1]; simp [go_sem]
  have hs1 : w.heap.size < W1.heap.size := by rw [← hW1]; simp
  have HG := (show Hid _ from implGraph_any a b len cap lb cb p l W1 (hT.keeps hb1) (h.keep hb1) (hl.keep hb1) hm2 hI)
  have HF : Hid (∀ W, Below W1.heap.size W1 W → Below w.heap.size w W ∧ Cst W ∧ ESl W a len p ∧ Sl W b lb l ∧ W.cell? ⟨w.heap.size, 0, none⟩ = some (.slice a len cap) ∧ W.cell? ⟨w.heap.size, 1, none⟩ = some (.slice b lb cb)) := fun W hW => ⟨hb1.trans (hW.mono hb1.size), (hCs.keeps hb1).keeps hW, (h.keep hb1).keep hW, (hl.keep hb1).keep hW, (hW.cell (p := ⟨w.heap.size, 0, none⟩) hs1).trans n0, (hW.cell (p := ⟨w.heap.size, 1, none⟩) hs1).trans n1⟩
  cases hG : graphB p l with
  | false =>
    have hno : choOk p l c = false := by unfold choOk; rw [hG]; rfl
    have hno2 : extOk p l c T = false := by unfold extOk; rw [hno]; rfl
    rw [(extL_not hno2).1, (extL_not hno2).2, hno2]
    rw [hG] at HG
    clear h hl hb1 hG hT hCs hI hC hno hno2
    go_enter Tryd.func18, Tryd.ntmps18
    go_wp2_with fail
    (try rw [hW1])
    refine Calls.mono HG.out ?_
    rintro e w2 ⟨rfl, hb2⟩
    have HE := (show Hid _ from (HF.out _ hb2).1)
    clear HG hW1 HF hb2
    go_wp2
    go_ret3
    exact ⟨_, rfl, World.ownsRow_nil _ _ _ _, HE.out⟩
  | true =>
    rw [hG] at HG
    obtain ⟨hP, hlen, h120⟩ := graph_parts2 hG
    obtain rfl : lb = len := by omega
    have HCl : Hid (∀ W, Below W1.heap.size W1 W → Calls Tryd.prog 36 #[.agg #[.slice a lb cap, .slice b lb cb], .int .i64 c] W fun e w' => e = .returned (.bool (clB l c)) ∧ Below W.heap.size W w') := fun W hW => implClass_any a b lb cap cb l c W (HF.out W hW).2.2.2.1 (by omega)
    cases hcl : clB l c with
    | false =>
      have hno : choOk p l c = false := by unfold choOk; rw [hG, hcl]; rfl
      have hno2 : extOk p l c T = false := by unfold extOk; rw [hno]; rfl
      rw [(extL_not hno2).1, (extL_not hno2).2, hno2]
      rw [hcl] at HCl
      clear h hl hb1 hG hT hCs hI hC hno hno2 hP
      go_enter Tryd.func18, Tryd.ntmps18
      go_wp2_with fail
      (try rw [hW1])
      refine Calls.mono HG.out ?_
      rintro e w2 ⟨rfl, hb2⟩
      obtain ⟨-, -, -, -, q0, q1⟩ := HF.out w2 hb2
      have HC2 := (show Hid _ from HCl.out w2 hb2)
      have HB2 := (show Hid _ from hb2)
      clear HG hW1 HCl hb2 n0 n1
      go_wp2_with fail
      refine Calls.mono HC2.out ?_
      rintro e w3 ⟨rfl, hb3⟩
      have HE := (show Hid _ from (HF.out _ (HB2.out.trans (hb3.mono HB2.out.size))).1)
      clear HC2 hb3 HB2 q0 q1 HF
      go_wp2
      go_ret3
      exact ⟨_, rfl, World.ownsRow_nil _ _ _ _, HE.out⟩
    | true =>
      have hyes : choOk p l c = true := by unfold choOk; rw [hG, hcl]; rfl
      have hC1 := hC hyes
      rw [hcl] at HCl
      obtain ⟨k, rfl, hkl, hkc⟩ := clB_nat hcl
      rw [Int.toNat_natCast] at hC1
      have HTb : Hid (∀ W, Below W1.heap.size W1 W → Tab W) := fun W hW => (hT.keeps hb1).keeps hW
      have HCh : Hid (∀ W, Below W1.heap.size W1 W → Calls Tryd.prog 37 #[.agg #[.slice a lb cap, .slice b lb cb]] W fun e w4 => ∃ (qg qc : Nat), e = .returned (.func (.func 61) #[] #[.pointer (some ⟨qg, 0, none⟩), .pointer (some ⟨qc, 0, none⟩)]) ∧ Hid (Calls Tryd.prog 42 #[.agg #[.slice a lb cap, .slice b lb cb], .int .i64 k, .func (.func 61) #[] #[.pointer (some ⟨qg, 0, none⟩), .pointer (some ⟨qc, 0, none⟩)], .slice none 0 0] w4 fun e w5 => ∃ (va : Option Addr) (n vc : Nat) (L : List (Int × Int)), e = .returned (.slice va n vc) ∧ w5.ownsRow w4.heap.size 68 2 (.slice va n vc) n (flat L) ∧ NSl w5 va n L ∧ goodB L = goodB T ∧ (goodB T = true → L = T) ∧ n ≤ 1000 ∧ Below w4.heap.size w4 w5) ∧ Below W.heap.size W w4) := fun W hW => (chooser_any hG a b lb cap lb cb W (HF.out W hW).2.1 (HF.out W hW).2.2.1 (HF.out W hW).2.2.2.1 (by omega)).mono fun e w4 ⟨qg, qp, qc, q, G, m, r1, r2, r3, r4, r5, r6⟩ => by
        refine ⟨qg, qc, r1, ?_, r6⟩
        obtain ⟨ch, hch⟩ := chF_some r3.g r4 r5
        have eT := hC1 m r4 r5 ch hch
        refine (cheapest_any r3 r4 r5 hch r2 _ k (Nat.le_refl _) (by omega) hkc w4 (.slice none 0 0) [] (Below.refl _ _) (World.ownsRow_nil _ _ _ _) (by simp)).mono ?_
        rintro e w5 ⟨v', L, rfl, h1, h2, -, h4, h5⟩
        obtain ⟨va, vc, rfl, hns⟩ := NSl.row h1
        rw [List.nil_append, ← eT] at h2
        have h6 := cntF_n m k p.length
        simp only [List.length_nil] at h4
        exact ⟨va, _, vc, L, rfl, h1, hns, (trunc_good h2).1, (trunc_good h2).2, by omega, h5.low (fun r hr => by cases hr) (Nat.le_refl _)⟩
      have HZ := fun (W : World) (hW : Below W1.heap.size W1 W) => (HF.out W hW).2.2.2.2
      cases hgT : goodB T with
      | false =>
        have hno2 : extOk p l k T = false := by unfold extOk; rw [hgT, Bool.and_false]
        rw [(extL_not hno2).1, (extL_not hno2).2, hno2]
        rw [hgT] at HCh
        have HCo : Hid (∀ W, Below W1.heap.size W1 W → Calls Tryd.prog 43 #[.slice none 0 0] W fun e w' => e = .returned (.tuple #[.int .i64 0, .bool false]) ∧ Below W.heap.size W w') := fun W hW => implCost_any none 0 0 [] W (HTb.out W hW) (HF.out W hW).2.1 ⟨rfl, .inl rfl⟩ (by omega)
        have HWg : ∀ W, Below W1.heap.size W1 W → ∀ (va : Option Addr) (n vc : Nat) (L : List (Int × Int)), NSl W va n L → goodB L = false → n ≤ 1000 → Calls Tryd.prog 41 #[.slice va n vc] W fun e w' => e = .returned (.tuple #[.slice none 0 0, .bool false]) ∧ Below W.heap.size W w' := fun W hW va n vc L hn hg hle => (whereGood_any va n vc L W (HTb.out W hW) hn (by omega)).mono fun e w' ⟨r1, r2⟩ => ⟨by rw [r1, hg]; rfl, r2⟩
        clear h hl hb1 hG hT hCs hI hC hyes hP hcl hC1 hkl hkc HTb hgT hno2
        go_enter Tryd.func18, Tryd.ntmps18
        go_wp2_with fail
        (try rw [hW1])
        refine Calls.mono HG.out ?_
        rintro e w2 ⟨rfl, hb2⟩
        obtain ⟨-, -, -, -, q0, q1⟩ := HF.out w2 hb2
        have HC2 := (show Hid _ from HCl.out w2 hb2)
        have HB2 := (show Hid _ from hb2)
        clear HG hW1 HCl hb2 n0 n1
        go_wp2_with fail
        refine Calls.mono HC2.out ?_
        rintro e w3 ⟨rfl, hb3⟩
        have hB3 := HB2.out.trans (hb3.mono HB2.out.size)
        clear q0 q1 HC2 HB2 hb3
        go_upto_region 3 with fail
        have hBd : Below W1.heap.size W1 w3.drew := hB3.drew
        have zD := HZ w3.drew hBd
        go_region_held3 (fun w' => w'.cell? ⟨w.heap.size, 0, none⟩ = some (.slice a lb cap) ∧ w'.cell? ⟨w.heap.size, 1, none⟩ = some (.slice b lb cb))
          (first | with_reducible assumption | assumption)
          (first
          | (go_at_call 37; with_reducible refine Calls.mono (HCh.out w3.drew hBd) ?_; rintro e v4 ⟨qg, qc, rfl, hK4, hb4⟩; have hB4 : Below W1.heap.size W1 v4 := hBd.trans (hb4.mono hBd.size); have z4 := HZ v4 hB4; clear hb4)
          | (go_at_call 42; with_reducible refine Calls.mono hK4.out ?_; rintro e v5 ⟨va, n, vc, L, rfl, hrow, hns, hgL, hLT, hn, hb5⟩; have hB5 : Below W1.heap.size W1 v5 := hB4.trans (hb5.mono hB4.size); have z5 := HZ v5 hB5; clear hb5)
          | (go_at_call 41; with_reducible refine Calls.mono (HWg v5 hB5 va n vc L hns hgL hn) ?_; rintro e v6 ⟨rfl, hb6⟩; have hB6 : Below W1.heap.size W1 v6 := hB5.trans (hb6.mono hB5.size); have z6 := HZ v6 hB6; clear hb6))
        all_goals
          have HC6 := (show Hid _ from HCo.out v6 hB6)
          have HB6 := (show Hid _ from hB6)
          clear hB6 hB5 hB4 hBd hB3 z4 z5 z6 zD hrow hns hgL hLT hK4 HCh HWg HCo
          go_wp2_with fail
          refine Calls.mono HC6.out ?_
          rintro e w7 ⟨rfl, hb7⟩
          have HE := (show Hid _ from (HF.out _ (HB6.out.trans (hb7.mono HB6.out.size))).1)
          clear HC6 hb7 HB6 HF
          go_wp2
          go_ret3
          exact ⟨_, rfl, World.ownsRow_nil _ _ _ _, HE.out⟩
      | true =>
        have hno2 : extOk p l k T = true := by unfold extOk; rw [hyes, hgT]; rfl
        rw [(extL_yes hno2).1, (extL_yes hno2).2, hno2]
        rw [hgT] at HCh
        obtain ⟨CT, hCT⟩ : ∃ CT, cstK T T.length = CT := ⟨_, rfl⟩
        rw [hCT]
        have HWg : ∀ W, Below W1.heap.size W1 W → ∀ (va : Option Addr) (n vc : Nat) (L : List (Int × Int)), NSl W va n L → goodB L = true → n ≤ 1000 → Calls Tryd.prog 41 #[.slice va n vc] W fun e w' => e = .returned (.tuple #[.slice va n vc, .bool true]) ∧ Below W.heap.size W w' := fun W hW va n vc L hn hg hle => (whereGood_any va n vc L W (HTb.out W hW) hn (by omega)).mono fun e w' ⟨r1, r2⟩ => ⟨by rw [r1, hg]; rfl, r2⟩
        have HCo : ∀ W, Below W1.heap.size W1 W → ∀ (va : Option Addr) (n vc : Nat), NSl W va n T → Calls Tryd.prog 43 #[.slice va n vc] W fun e w' => e = .returned (.tuple #[.int .i64 CT, .bool true]) ∧ Below W.heap.size W w' := fun W hW va n vc hn => (implCost_any va n vc T W (HTb.out W hW) (HF.out W hW).2.1 hn (by have := hn.1; have := (good_pile hgT).2.2; omega)).mono fun e w' ⟨r1, r2⟩ => ⟨by rw [r1, hgT]; unfold costOf; rw [if_pos hgT, hCT], r2⟩
        have HTl := (show Hid _ from hgT)
        clear h hl hb1 hG hT hCs hI hC hyes hP hcl hC1 hkl hkc HTb hgT hno2
        go_enter Tryd.func18, Tryd.ntmps18
        go_wp2_with fail
        (try rw [hW1])
        refine Calls.mono HG.out ?_
        rintro e w2 ⟨rfl, hb2⟩
        obtain ⟨-, -, -, -, q0, q1⟩ := HF.out w2 hb2
        have HC2 := (show Hid _ from HCl.out w2 hb2)
        have HB2 := (show Hid _ from hb2)
        clear HG hW1 HCl hb2 n0 n1
        go_wp2_with fail
        refine Calls.mono HC2.out ?_
        rintro e w3 ⟨rfl, hb3⟩
        have hB3 := HB2.out.trans (hb3.mono HB2.out.size)
        clear q0 q1 HC2 HB2 hb3
        go_upto_region 3 with fail
        have hBd : Below W1.heap.size W1 w3.drew := hB3.drew
        have zD := HZ w3.drew hBd
        go_region_held3 (fun w' => w'.cell? ⟨w.heap.size, 0, none⟩ = some (.slice a lb cap) ∧ w'.cell? ⟨w.heap.size, 1, none⟩ = some (.slice b lb cb))
          (first | with_reducible assumption | assumption)
          (first
          | (go_at_call 37; with_reducible refine Calls.mono (HCh.out w3.drew hBd) ?_; rintro e v4 ⟨qg, qc, rfl, hK4, hb4⟩; have hB4 : Below W1.heap.size W1 v4 := hBd.trans (hb4.mono hBd.size); have z4 := HZ v4 hB4; clear hb4)
          | (go_at_call 42; with_reducible refine Calls.mono hK4.out ?_; rintro e v5 ⟨va, n, vc, L, rfl, hrow, hns, hgL, hLT, hn, hb5⟩; have hB5 : Below W1.heap.size W1 v5 := hB4.trans (hb5.mono hB4.size); have z5 := HZ v5 hB5; clear hb5)
          | (go_at_call 41; with_reducible refine Calls.mono (HWg v5 hB5 va n vc L hns hgL hn) ?_; rintro e v6 ⟨rfl, hb6⟩; have hB6 : Below W1.heap.size W1 v6 := hB5.trans (hb6.mono hB5.size); have z6 := HZ v6 hB6; have hns6 := NSl.keep hns hb6; have hrow6 := own_base (row_keep hrow hb6) (Nat.le_trans (HF.out W1 (Below.refl _ _)).1.size hB4.size); clear hb6))
        all_goals
          have e8 : L = T := hLT (by trivial)
          rw [e8] at hns6 hrow6
          have HC6 := (show Hid _ from HCo v6 hB6 va n vc hns6)
          have HB6 := (show Hid _ from hB6)
          have HR6 := (show Hid _ from hrow6)
          have eN := (show Hid _ from (show n = T.length from by have := hns6.1; omega))
          clear hB6 hB5 hB4 hBd hB3 z4 z5 z6 zD hrow hrow6 hns6 hns hgL hLT hK4 HCh HWg HCo e8
          go_wp2_with fail
          refine Calls.mono HC6.out ?_
          rintro e w7 ⟨rfl, hb7⟩
          have HE := (show Hid _ from (HF.out _ (HB6.out.trans (hb7.mono HB6.out.size))).1)
          have HR7 := (show Hid _ from row_keep HR6.out hb7)
          clear HC6 hb7 HB6 HF HR6
          go_wp2
          go_ret3
          exact ⟨_, rfl, eN.out ▸ HR7.out, HE.out⟩

set_option maxHeartbeats 1000000 in
set_option maxRecDepth 20000 in
theorem specExtract_any (a b : Option Addr) (len cap lb cb : Nat) (p : List EN) (l : List Int) (c : Int) (T : List (Int × Int)) (hC : ExtC p l c T) (w : World) (h : ESl w a len p) (hl : Sl w b lb l) (hm : len ≤ 9223372036854775807) (hm2 : lb ≤ 9223372036854775807) :
    Calls Tryd.prog 17 #[.agg #[.slice a len cap, .slice b lb cb], .int .i64 c] w fun e w' => ∃ v : Value, e = .returned (.tuple #[v, .int .i64 (extV p l c T), .bool (extOk p l c T)]) ∧ w'.ownsRow w.heap.size 68 2 v (extL p l c T).length (flat (extL p l c T)) ∧ Below w.heap.size w w' := by
  have hll := h.1
  have hl1 := hl.1
  obtain ⟨W1, hW1⟩ : ∃ W1, w.alloc (.cells #[.slice a len cap, .slice b lb cb] 31) = W1 := ⟨_, rfl⟩
  have hb1 : Below w.heap.size w W1 := by rw [← hW1]; exact (Below.refl _ _).alloc (Nat.le_refl _) _
  have n0 : W1.cell? ⟨w.heap.size, 0, none⟩ = some (.slice a len cap) := by rw [← hW1]; simp [go_sem]
  have n1 : W1.cell? ⟨w.heap.size, 1, none⟩ = some (.slice b lb cb) := by rw [← hW1]; simp [go_sem]
  have hs1 : w.heap.size < W1.heap.size := by rw [← hW1]; simp
  have HG := (show Hid _ from specGraph_any a b len cap lb cb p l W1 (h.keep hb1) (hl.keep hb1) hm hm2)
  have HF : Hid (∀ W, Below W1.heap.size W1 W → Below w.heap.size w W ∧ ESl W a len p ∧ Sl W b lb l ∧ W.cell? ⟨w.heap.size, 0, none⟩ = some (.slice a len cap) ∧ W.cell? ⟨w.heap.size, 1, none⟩ = some (.slice b lb cb)) := fun W hW => ⟨hb1.trans (hW.mono hb1.size), (h.keep hb1).keep hW, (hl.keep hb1).keep hW, (hW.cell (p := ⟨w.heap.size, 0, none⟩) hs1).trans n0, (hW.cell (p := ⟨w.heap.size, 1, none⟩) hs1).trans n1⟩
  cases hG : graphB p l with
  | false =>
    have hno : choOk p l c = false := by unfold choOk; rw [hG]; rfl
    have hno2 : extOk p l c T = false := by unfold extOk; rw [hno]; rfl
    rw [(extL_not hno2).1, (extL_not hno2).2, hno2]
    rw [hG] at HG
    clear h hl hb1 hG hC hno hno2
    go_enter Tryd.func17, Tryd.ntmps17
    go_wp2_with fail
    (try rw [hW1])
    refine Calls.mono HG.out ?_
    rintro e w2 ⟨rfl, hb2⟩
    have HE := (show Hid _ from (HF.out _ hb2).1)
    clear HG hW1 HF hb2
    go_wp2
    go_ret3
    exact ⟨_, rfl, World.ownsRow_nil _ _ _ _, HE.out⟩
  | true =>
    rw [hG] at HG
    obtain ⟨hP, hlen, h120⟩ := graph_parts2 hG
    obtain rfl : lb = len := by omega
    have HCl : Hid (∀ W, Below W1.heap.size W1 W → Calls Tryd.prog 34 #[.agg #[.slice a lb cap, .slice b lb cb], .int .i64 c] W fun e w' => e = .returned (.bool (clB l c)) ∧ Below W.heap.size W w') := fun W hW => specClass_any a b lb cap cb l c W (HF.out W hW).2.2.1 (by omega)
    cases hcl : clB l c with
    | false =>
      have hno : choOk p l c = false := by unfold choOk; rw [hG, hcl]; rfl
      have hno2 : extOk p l c T = false := by unfold extOk; rw [hno]; rfl
      rw [(extL_not hno2).1, (extL_not hno2).2, hno2]
      rw [hcl] at HCl
      clear h hl hb1 hG hC hno hno2 hP
      go_enter Tryd.func17, Tryd.ntmps17
      go_wp2_with fail
      (try rw [hW1])
      refine Calls.mono HG.out ?_
      rintro e w2 ⟨rfl, hb2⟩
      obtain ⟨-, -, -, q0, q1⟩ := HF.out w2 hb2
      have HC2 := (show Hid _ from HCl.out w2 hb2)
      have HB2 := (show Hid _ from hb2)
      clear HG hW1 HCl hb2 n0 n1
      go_wp2_with fail
      refine Calls.mono HC2.out ?_
      rintro e w3 ⟨rfl, hb3⟩
      have HE := (show Hid _ from (HF.out _ (HB2.out.trans (hb3.mono HB2.out.size))).1)
      clear HC2 hb3 HB2 q0 q1 HF
      go_wp2
      go_ret3
      exact ⟨_, rfl, World.ownsRow_nil _ _ _ _, HE.out⟩
    | true =>
      have hyes : choOk p l c = true := by unfold choOk; rw [hG, hcl]; rfl
      have hC1 := hC hyes
      rw [hcl] at HCl
      obtain ⟨k, rfl, hkl, hkc⟩ := clB_nat hcl
      rw [Int.toNat_natCast] at hC1
      have HBs := fun (W : World) (hW : Below W1.heap.size W1 W) => l10Best_any (costG_of hG) a b lb cap lb cb W (HF.out W hW).2.1 (HF.out W hW).2.2.1 (by omega) (kids_of hG).1 (fun i hi => (kids_of hG).2 i (by omega))
      have HTm : ∀ (W : World) (hW : Below W1.heap.size W1 W) (m : List Int) (hM : BestM p l m) (bm : Option Addr) (cm : Nat) (hs : Sl W bm lb m), Calls Tryd.prog 38 #[.agg #[.slice a lb cap, .slice b lb cb], .slice bm lb cm, .int .i64 k] W fun e w5 => ∃ (va : Option Addr) (n vc : Nat) (L : List (Int × Int)), e = .returned (.slice va n vc) ∧ w5.ownsRow W.heap.size 68 2 (.slice va n vc) n (flat L) ∧ NSl w5 va n L ∧ goodB L = goodB T ∧ (goodB T = true → L = T) ∧ n ≤ 100000 ∧ Below W.heap.size W w5 := fun W hW m hM bm cm hs => by
        have hg := costG_of hG
        have hSt := stillM_val hg hM.1 hM.2.2
        obtain ⟨ch, hch⟩ := chF_some hg hM.2.1 hSt
        have eT := hC1 _ hM.2.1 hSt ch hch
        refine (l10Term_any hG hM hch a b lb cap lb cb bm cm (by omega) (by omega) _ k (Nat.le_refl _) (by omega) hkc W (HF.out W hW).2.1 (HF.out W hW).2.2.1 hs).mono ?_
        rintro e w5 ⟨v', L, rfl, h1, h2, -, h4, h5⟩
        obtain ⟨va, vc, rfl, hns⟩ := NSl.row h1
        rw [← eT] at h2
        have h6 := cntF_n (valM m) k p.length
        exact ⟨va, _, vc, L, rfl, h1, hns, (trunc_good h2).1, (trunc_good h2).2, by omega, h5⟩
      have HZ := fun (W : World) (hW : Below W1.heap.size W1 W) => (HF.out W hW).2.2.2
      have HGd : ∀ (W : World) (va : Option Addr) (n vc : Nat) (L : List (Int × Int)), NSl W va n L → goodB L = goodB T → n ≤ 100000 → Calls Tryd.prog 39 #[.slice va n vc] W fun e w' => e = .returned (.bool (goodB T)) ∧ Below W.heap.size W w' := fun W va n vc L hn hg hle => by rw [← hg]; exact specGood_any va n vc L W hn (by omega)
      cases hgT : goodB T with
      | false =>
        have hno2 : extOk p l k T = false := by unfold extOk; rw [hgT, Bool.and_false]
        rw [(extL_not hno2).1, (extL_not hno2).2, hno2]
        rw [hgT] at HTm HGd
        clear h hl hb1 hG hC hyes hP hcl hC1 hkl hkc hgT hno2
        go_enter Tryd.func17, Tryd.ntmps17
        go_wp2_with fail
        (try rw [hW1])
        refine Calls.mono HG.out ?_
        rintro e w2 ⟨rfl, hb2⟩
        obtain ⟨-, -, -, q0, q1⟩ := HF.out w2 hb2
        have HC2 := (show Hid _ from HCl.out w2 hb2)
        have HB2 := (show Hid _ from hb2)
        clear HG hW1 HCl hb2 n0 n1
        go_wp2_with fail
        refine Calls.mono HC2.out ?_
        rintro e w3 ⟨rfl, hb3⟩
        have hB3 := HB2.out.trans (hb3.mono HB2.out.size)
        clear q0 q1 HC2 HB2 hb3
        go_upto_region 3 with fail
        have hBd : Below W1.heap.size W1 w3.drew := hB3.drew
        have zD := HZ w3.drew hBd
        go_region_held3 (fun w' => w'.cell? ⟨w.heap.size, 0, none⟩ = some (.slice a lb cap) ∧ w'.cell? ⟨w.heap.size, 1, none⟩ = some (.slice b lb cb))
          (first | with_reducible assumption | assumption)
          (first
          | (go_at_call 25; with_reducible refine Calls.mono (HBs w3.drew hBd) ?_; rintro e v4 ⟨vm, m, rfl, hrm, hM, hb4⟩; obtain ⟨bm, cm, rfl, hsm⟩ := Sl.vals hrm; have hB4 : Below W1.heap.size W1 v4 := hBd.trans (hb4.mono hBd.size); have z4 := HZ v4 hB4; clear hb4 hrm)
          | (go_at_call 38; with_reducible refine Calls.mono (HTm v4 hB4 m hM bm cm hsm) ?_; rintro e v5 ⟨va, n, vc, L, rfl, hrow, hns, hgL, hLT, hn, hb5⟩; have hB5 : Below W1.heap.size W1 v5 := hB4.trans (hb5.mono hB4.size); have z5 := HZ v5 hB5; clear hb5))
        all_goals
          have HC6 := (show Hid _ from HGd v5 va n vc L hns hgL hn)
          have HB6 := (show Hid _ from hB5)
          clear hB5 hB4 hBd hB3 z4 z5 zD hrow hns hgL hLT HGd HTm HBs hM hsm
          go_wp2_with fail
          refine Calls.mono HC6.out ?_
          rintro e w7 ⟨rfl, hb7⟩
          have HE := (show Hid _ from (HF.out _ (HB6.out.trans (hb7.mono HB6.out.size))).1)
          clear HC6 hb7 HB6 HF
          go_wp2
          go_ret3
          exact ⟨_, rfl, World.ownsRow_nil _ _ _ _, HE.out⟩
      | true =>
        have hno2 : extOk p l k T = true := by unfold extOk; rw [hyes, hgT]; rfl
        rw [(extL_yes hno2).1, (extL_yes hno2).2, hno2]
        rw [hgT] at HTm HGd
        obtain ⟨CT, hCT⟩ : ∃ CT, cstK T T.length = CT := ⟨_, rfl⟩
        rw [hCT]
        have HCo : ∀ (W : World) (va : Option Addr) (n vc : Nat), NSl W va n T → Calls Tryd.prog 40 #[.slice va n vc] W fun e w' => e = .returned (.int .i64 CT) ∧ Below W.heap.size W w' := fun W va n vc hn => (l10Cost_any va n vc T W hn (by have := hn.1; have := (good_pile hgT).2.2; omega)).mono fun e w' ⟨r1, r2⟩ => ⟨by rw [r1, ← hCT, hn.1], r2⟩
        clear h hl hb1 hG hC hyes hP hcl hC1 hkl hkc hgT hno2
        go_enter Tryd.func17, Tryd.ntmps17
        go_wp2_with fail
        (try rw [hW1])
        refine Calls.mono HG.out ?_
        rintro e w2 ⟨rfl, hb2⟩
        obtain ⟨-, -, -, q0, q1⟩ := HF.out w2 hb2
        have HC2 := (show Hid _ from HCl.out w2 hb2)
        have HB2 := (show Hid _ from hb2)
        clear HG hW1 HCl hb2 n0 n1
        go_wp2_with fail
        refine Calls.mono HC2.out ?_
        rintro e w3 ⟨rfl, hb3⟩
        have hB3 := HB2.out.trans (hb3.mono HB2.out.size)
        clear q0 q1 HC2 HB2 hb3
        go_upto_region 3 with fail
        have hBd : Below W1.heap.size W1 w3.drew := hB3.drew
        have zD := HZ w3.drew hBd
        go_region_held3 (fun w' => w'.cell? ⟨w.heap.size, 0, none⟩ = some (.slice a lb cap) ∧ w'.cell? ⟨w.heap.size, 1, none⟩ = some (.slice b lb cb))
          (first | with_reducible assumption | assumption)
          (first
          | (go_at_call 25; with_reducible refine Calls.mono (HBs w3.drew hBd) ?_; rintro e v4 ⟨vm, m, rfl, hrm, hM, hb4⟩; obtain ⟨bm, cm, rfl, hsm⟩ := Sl.vals hrm; have hB4 : Below W1.heap.size W1 v4 := hBd.trans (hb4.mono hBd.size); have z4 := HZ v4 hB4; clear hb4 hrm)
          | (go_at_call 38; with_reducible refine Calls.mono (HTm v4 hB4 m hM bm cm hsm) ?_; rintro e v5 ⟨va, n, vc, L, rfl, hrow, hns, hgL, hLT, hn, hb5⟩; have hB5 : Below W1.heap.size W1 v5 := hB4.trans (hb5.mono hB4.size); have z5 := HZ v5 hB5; have hrow5 := own_base hrow (Nat.le_trans (HF.out W1 (Below.refl _ _)).1.size hB4.size); clear hb5))
        all_goals
          have e8 : L = T := hLT (by trivial)
          have HC6 := (show Hid _ from HGd v5 va n vc L hns hgL hn)
          rw [e8] at hns hrow5
          have eN := (show Hid _ from (show n = T.length from by have := hns.1; omega))
          have HB6 := (show Hid _ from hB5)
          have HR6 := (show Hid _ from hrow5)
          have HN6 := (show Hid _ from hns)
          clear hB5 hB4 hBd hB3 z4 z5 zD hrow hrow5 hns hgL hLT HGd HTm HBs hM hsm e8
          go_wp2_with fail
          refine Calls.mono HC6.out ?_
          rintro e w7 ⟨rfl, hb7⟩
          have hB7 := HB6.out.trans (hb7.mono HB6.out.size)
          have HR7 := (show Hid _ from row_keep HR6.out hb7)
          have HC7 := (show Hid _ from HCo w7 va n vc (NSl.keep HN6.out hb7))
          have HB7 := (show Hid _ from hB7)
          clear HC6 hb7 HB6 HR6 HN6 hB7 HCo
          go_wp2_with fail
          refine Calls.mono HC7.out ?_
          rintro e w8 ⟨rfl, hb8⟩
          have HE := (show Hid _ from (HF.out _ (HB7.out.trans (hb8.mono HB7.out.size))).1)
          have HR8 := (show Hid _ from row_keep HR7.out hb8)
          clear HC7 hb8 HB7 HF HR7
          go_wp2
          go_ret3
          exact ⟨_, rfl, eN.out ▸ HR8.out, HE.out⟩
end Go.Proofs.YtmbggaepckgogaaDoor
