/-
  PROVED HERE: what the laws' own copying of lists of ints leaves, at every list of at most a million. No other condition. what the laws' own weighing and copying of nodes and graphs answer, at every list of at most a million. No other condition.
-/
import Derived.Test.YtmbggaepckgogaaDoorRun3
import Derived.Test.YtmbggaepckgogaaDoorRun30
import Derived.Test.YtmbggaepckgogaaDoorRun4
import Derived.Deep.RegionWith
namespace Go.Proofs.YtmbggaepckgogaaDoor
open Go.ChangeShapes Go.WideShapes Go.ChangeAt Go.RowKit
set_option linter.unusedVariables false

theorem copyI5_any (a : Option Addr) (len cap : Nat) (l : List Int) (w : World) (h : Sl w a len l) (hn : len ≤ 1048576) :
    Calls Tryd.prog 28 #[.slice a len cap] w fun e w' => e = .returned (.slice (some ⟨w.heap.size, 0, none⟩) len len) ∧ Below w.heap.size w w' ∧ w.heap.size < w'.heap.size ∧ (∀ i, i < len → w'.cell? ⟨w.heap.size, i, none⟩ = some (.int .i64 (l.getD i 0)) ∧ w'.frozen? ⟨w.heap.size, i, none⟩ = false) := by
  obtain ⟨i0, hi, hz0, hz1, hz2⟩ := info_parts infoInt
  obtain ⟨hlen, hsl⟩ := h
  go_enter Tryd.func28, Tryd.ntmps28
  go_wp2_with (at_make; refine wpList_make_full _ rfl _ _ 23 rfl w.heap.size 3 i0 (.int .i64 0) 1 Tryd.underlying23 hi hz0 hz1 _ _ _ _ len rfl rfl rfl rfl (by rw [hz2]; omega) (by unfold maxLen; omega) (Nat.le_refl _) ?_; intro w1 hown hgrow)
  have hb1 : Below w.heap.size w w1 := (Below.refl _ _).grown hgrow (Nat.le_refl _) (fun k hk => by cases hk)
  clear hgrow
  go_loopw [4] (fun i wr => ∃ (k : Nat) (xs : List Value), k ≤ len ∧ i = .int .i64 k ∧ wr.ownsRow w.heap.size 3 1 (.slice (some ⟨w.heap.size, 0, none⟩) len len) len xs ∧ Hid (∀ j, j < k → xs[j]? = some (.int .i64 (l.getD j 0))) ∧ Below w.heap.size w wr) (fun i _ => len - (intOf i).toNat)
  case atStart => exact ⟨0, _, Nat.zero_le _, rfl, hown, fun j hj => absurd hj (Nat.not_lt_zero _), hb1⟩
  case round =>
    obtain ⟨k, xs, hk, rfl, howr, hx, hbr⟩ := hrel
    clear hown hb1
    by_cases hlt : k < len
    · obtain ⟨b, off, rfl, hbl, hc⟩ : ∃ b off, a = some ⟨b, off, none⟩ ∧ b < w.heap.size ∧ ∀ i, i < len → w.cell? ⟨b, off + i, none⟩ = some (.int .i64 (l.getD i 0)) := by
        rcases hsl with h0 | h0
        · omega
        · exact h0
      have hck : wr.cell? ⟨b, off + k, none⟩ = some (.int .i64 (l.getD k 0)) := (hbr.cell (p := ⟨b, off + k, none⟩) hbl).trans (hc k hlt)
      have hfr := howr.frozenAt k
      have hcg := howr.cellAt k (by omega)
      have hst := howr.stored k (.int .i64 (l.getD k 0))
      have R : Hid (∃ xs', (wr.setCell ⟨w.heap.size, k, none⟩ (.int .i64 (l.getD k 0))).ownsRow w.heap.size 3 1 (.slice (some ⟨w.heap.size, 0, none⟩) len len) len xs' ∧ (∀ j, j < k + 1 → xs'[j]? = some (.int .i64 (l.getD j 0))) ∧ Below w.heap.size w (wr.setCell ⟨w.heap.size, k, none⟩ (.int .i64 (l.getD k 0)))) := by
        refine ⟨_, hst.1, fun j hj => ?_, hbr.setCell (Nat.le_refl _) _⟩
        rw [List.getElem?_set]
        by_cases e : k = j
        · subst e
          rw [if_pos rfl, if_pos (by have := howr.1; omega)]
        · rw [if_neg e]; exact hx.out j (by omega)
      obtain ⟨y, hxk⟩ : ∃ y, xs[k]? = some y := ⟨_, List.getElem?_eq_getElem (by have := howr.1; omega)⟩
      rw [hxk] at hcg
      clear hst hc howr hx hxk
      generalize l.getD k 0 = z at hck R
      go_wp2
      go_roundw
      case rel =>
        obtain ⟨xs', r1, r2, r3⟩ := R.out
        exact ⟨k + 1, xs', by omega, by go_num, r1, r2, r3⟩
      case measure => simp [intOf]; omega
    · go_wp2
      obtain rfl : k = len := by omega
      go_ret
      refine ⟨rfl, hbr, owns_lt howr, fun i hi => ⟨?_, howr.frozenAt i⟩⟩
      rw [howr.cellAt i (by omega)]
      exact hx.out i hi
theorem MineI.keep {w w' : World} {b len : Nat} (h : MineI w b len) (hb : Below w.heap.size w w') : MineI w' b len := by
  refine ⟨Nat.lt_of_lt_of_le h.1 hb.size, fun i hi => ?_⟩
  have e := hb.block b h.1
  obtain ⟨⟨v, hv⟩, hf⟩ := h.2 i hi
  exact ⟨⟨v, by rw [← hv]; simp only [World.cell?, e]⟩, by rw [← hf]; simp only [World.frozen?, e]⟩
theorem copyI_mine (a : Option Addr) (len cap : Nat) (l : List Int) (w : World) (h : Sl w a len l) (hn : len ≤ 1048576) :
    Calls Tryd.prog 28 #[.slice a len cap] w fun e w' => e = .returned (.slice (some ⟨w.heap.size, 0, none⟩) len len) ∧ Below w.heap.size w w' ∧ Sl w' (some ⟨w.heap.size, 0, none⟩) len l ∧ MineI w' w.heap.size len := by
  refine (copyI5_any a len cap l w h hn).mono ?_
  rintro e w' ⟨rfl, hb, hlt, hc⟩
  exact ⟨rfl, hb, ⟨h.1, .inr ⟨w.heap.size, 0, rfl, hlt, fun i hi => by rw [Nat.zero_add]; exact (hc i hi).1⟩⟩, hlt, fun i hi => ⟨⟨_, (hc i hi).1⟩, (hc i hi).2⟩⟩
end Go.Proofs.YtmbggaepckgogaaDoor
namespace Go.Proofs.YtmbggaepckgogaaDoor
open Go.ChangeShapes Go.WideShapes Go.ChangeAt Go.RowKit
set_option linter.unusedVariables false

/-- What is left of n behind m more. -/
def szV (n m : Int) : Int := if m ≤ n then n - m else -1
theorem sz6I_any (a : Option Addr) (len cap : Nat) (n : Int) (w : World) (hn : 0 ≤ n ∧ n ≤ 1048576) (hl : len ≤ 9223372036854775807) :
    Calls Tryd.prog 23 #[.slice a len cap, .int .i64 n] w fun e w' => e = .returned (.int .i64 (szV n len)) ∧ w' = w := by
  unfold szV
  by_cases h : (len : Int) ≤ n
  · rw [if_pos h]
    have h1 : ¬ n - len < 0 := by omega
    go_enter Tryd.func23, Tryd.ntmps23
    go_wp2
    go_ret
    exact ⟨rfl, rfl⟩
  · rw [if_neg h]
    have h1 : n - len < 0 := by omega
    go_enter Tryd.func23, Tryd.ntmps23
    go_wp2
    go_ret
    exact ⟨rfl, rfl⟩
theorem szV_cases (n m : Int) (hn : 0 ≤ n) (hm : 0 ≤ m) : (szV n m = -1 ∧ n < m) ∨ (0 ≤ szV n m ∧ szV n m = n - m ∧ m ≤ n) := by
  unfold szV
  by_cases h : m ≤ n
  · rw [if_pos h]; exact .inr ⟨by omega, rfl, h⟩
  · rw [if_neg h]; exact .inl ⟨rfl, by omega⟩
theorem szE_any (op n : Int) (a : Option Addr) (len cap : Nat) (k : Int) (w : World) (hn : 0 ≤ k ∧ k ≤ 1048576) (hl : len ≤ 9223372036854775807) :
    Calls Tryd.prog 45 #[.agg #[.int .i64 op, .int .i64 n, .slice a len cap], .int .i64 k] w fun e w' => e = .returned (.int .i64 (szV k len)) ∧ Below w.heap.size w w' := by
  have HS : Hid (∀ W, Calls Tryd.prog 23 #[.slice a len cap, .int .i64 k] W fun e w' => e = .returned (.int .i64 (szV k len)) ∧ w' = W) := fun W => sz6I_any a len cap k W hn hl
  have HB : Hid (Below w.heap.size w (w.alloc (.cells #[.int .i64 op, .int .i64 n, .slice a len cap] 71))) := (Below.refl _ _).alloc (Nat.le_refl _) _
  rcases szV_cases k len hn.1 (by omega) with ⟨e1, _⟩ | ⟨h1, _, _⟩
  · rw [e1] at HS ⊢
    go_enter Tryd.func45, Tryd.ntmps45
    go_wp2_with fail
    refine Calls.mono (HS.out _) ?_
    rintro e w2 ⟨rfl, rfl⟩
    go_wp2
    go_ret
    exact ⟨rfl, HB.out⟩
  · have h2 : ¬ szV k len < 0 := by omega
    generalize szV k len = s at HS h1 h2 ⊢
    go_enter Tryd.func45, Tryd.ntmps45
    go_wp2_with fail
    refine Calls.mono (HS.out _) ?_
    rintro e w2 ⟨rfl, rfl⟩
    go_wp2
    go_ret
    exact ⟨rfl, HB.out⟩
/-- What is left of n behind the kids of some nodes. -/
def szK : Int → List EN → Int
  | n, [] => n
  | n, x :: r => if szV n x.2.2.length < 0 then -1 else szK (szV n x.2.2.length) r
def szL (n : Int) (p : List EN) : Int := if szV n p.length < 0 then -1 else szK (szV n p.length) p
theorem szK_drop (n : Int) (p : List EN) (k : Nat) (h : k < p.length) : szK n (p.drop k) = if szV n (p.getD k e0).2.2.length < 0 then -1 else szK (szV n (p.getD k e0).2.2.length) (p.drop (k + 1)) := by
  rw [List.drop_eq_getElem_cons h, getDE_lt h]; rfl
theorem szK_all : ∀ (p : List EN) (n : Int), 0 ≤ n → 0 ≤ szK n p → szK n p ≤ n ∧ ∀ x ∈ p, (x.2.2.length : Int) ≤ n := by
  intro p
  induction p with
  | nil => intro n h0 _; exact ⟨Int.le_refl _, fun x hx => by cases hx⟩
  | cons x r ih =>
    intro n h0 h
    unfold szK at h ⊢
    rcases szV_cases n x.2.2.length h0 (by omega) with ⟨e1, e2⟩ | ⟨e1, e2, e3⟩
    · rw [if_pos (by omega)] at h; omega
    · rw [if_neg (by omega)] at h ⊢
      obtain ⟨i1, i2⟩ := ih _ e1 h
      refine ⟨by omega, fun y hy => ?_⟩
      rcases List.mem_cons.1 hy with rfl | hy
      · exact e3
      · have := i2 y hy; omega
theorem szK_range : ∀ (p : List EN) (n : Int), 0 ≤ n → szK n p = -1 ∨ 0 ≤ szK n p := by
  intro p
  induction p with
  | nil => intro n h0; exact .inr h0
  | cons x r ih =>
    intro n h0
    unfold szK
    rcases szV_cases n x.2.2.length h0 (by omega) with ⟨e1, e2⟩ | ⟨e1, e2, e3⟩
    · rw [if_pos (by omega)]; exact .inl rfl
    · rw [if_neg (by omega)]; exact ih _ e1
theorem szL_range (n : Int) (p : List EN) (hn : 0 ≤ n) : szL n p = -1 ∨ 0 ≤ szL n p := by
  unfold szL
  rcases szV_cases n p.length hn (by omega) with ⟨e1, e2⟩ | ⟨e1, e2, e3⟩
  · rw [if_pos (by omega)]; exact .inl rfl
  · rw [if_neg (by omega)]; exact szK_range p _ e1
theorem szL_all (n : Int) (p : List EN) (hn : 0 ≤ n) (h : 0 ≤ szL n p) : szL n p ≤ n ∧ (p.length : Int) ≤ n ∧ ∀ i, i < p.length → ((p.getD i e0).2.2.length : Int) ≤ n := by
  unfold szL at h ⊢
  rcases szV_cases n p.length hn (by omega) with ⟨e1, e2⟩ | ⟨e1, e2, e3⟩
  · rw [if_pos (by omega)] at h; omega
  · rw [if_neg (by omega)] at h ⊢
    obtain ⟨h1, h2⟩ := szK_all p _ e1 h
    refine ⟨by omega, e3, fun i hi => ?_⟩
    have := h2 (p.getD i e0) (by rw [getDE_lt hi]; exact List.getElem_mem _)
    omega
set_option maxHeartbeats 800000 in
theorem szES_any (a : Option Addr) (len cap : Nat) (p : List EN) (n : Int) (w : World) (h : ESl w a len p) (hn : 0 ≤ n ∧ n ≤ 1048576) (hl : len ≤ 9223372036854775807) :
    Calls Tryd.prog 22 #[.slice a len cap, .int .i64 n] w fun e w' => e = .returned (.int .i64 (szL n p)) ∧ Below w.heap.size w w' := by
  have hll := h.1
  unfold szL
  rw [hll]
  rcases szV_cases n len hn.1 (by omega) with ⟨e1, e2⟩ | ⟨e1, e2, e3⟩
  · rw [if_pos (by omega)]
    have h1 : n - len < 0 := by omega
    go_enter Tryd.func22, Tryd.ntmps22
    go_wp2
    go_ret
    exact ⟨rfl, Below.refl _ _⟩
  · rw [if_neg (by omega), e2]
    have h1 : ¬ n - len < 0 := by omega
    have hm0 : 0 ≤ n - len ∧ n - (len : Int) ≤ 1048576 := by omega
    clear e1 e2
    obtain ⟨m, hm⟩ : ∃ m : Int, n - len = m := ⟨_, rfl⟩
    have hlen : len ≤ 1048576 := by omega
    rw [hm] at hm0 ⊢
    have HM := (show Hid _ from hm)
    go_enter Tryd.func22, Tryd.ntmps22
    go_wp2_with fail
    (try rw [hm])
    go_loopw [1, 5] (fun y i wr => ∃ (k : Nat) (s : Int), k ≤ len ∧ i = .int .i64 k ∧ y = .int .i64 s ∧ (0 ≤ s ∧ s ≤ 1048576) ∧ Below w.heap.size w wr ∧ Hid (szK s (p.drop k) = szK m p)) (fun _ i _ => len - (intOf i).toNat)
    case atStart => exact ⟨0, m, Nat.zero_le _, rfl, rfl, hm0, Below.refl _ _, rfl⟩
    case round =>
      obtain ⟨k, s, hk, rfl, rfl, hs, hbr, hT⟩ := hrel
      clear hm HM
      by_cases hlt : k < len
      · obtain ⟨bn, on, rfl, hbl, hc⟩ := (h.keep hbr).at (by omega)
        obtain ⟨ai, li, ci, c1, c2, c3, hli, hci, hS⟩ := hc k hlt
        have hst := szK_drop s p k (by omega)
        rw [hT.out] at hst
        have hS1 := hS.1
        rw [hS1] at hst
        have hkl : (k : Int) < len := by omega
        obtain ⟨x, hx⟩ : ∃ x, (p.getD k e0).1 = x := ⟨_, rfl⟩
        obtain ⟨y, hy⟩ : ∃ y, (p.getD k e0).2.1 = y := ⟨_, rfl⟩
        rw [hx] at c1
        rw [hy] at c2
        have HZ := (show Hid _ from szE_any x y ai li ci s wr hs hli)
        clear hc hS hx hy hT
        rcases szV_cases s li hs.1 (by omega) with ⟨e1, e2⟩ | ⟨e1, e2, e3⟩
        · rw [if_pos (by omega)] at hst
          rw [e1] at HZ
          have HV : Hid (szK m p = -1) := hst
          clear hst e1 e2
          go_wp2_with fail
          refine Calls.mono HZ.out ?_
          rintro e w2 ⟨rfl, hb2⟩
          have HB : Hid (Below w.heap.size w w2) := hbr.trans (hb2.mono hbr.size)
          clear HZ
          go_wp2
          go_ret
          exact ⟨by rw [HV.out] <;> rfl, HB.out⟩
        · rw [if_neg (by omega)] at hst
          have HR : Hid (szK (szV s li) (p.drop (k + 1)) = szK m p) := hst.symm
          have h2 : ¬ szV s li < 0 := by omega
          have h3 : 0 ≤ szV s li ∧ szV s li ≤ 1048576 := by omega
          clear hst e1 e2 e3
          generalize szV s li = t at HZ HR h2 h3
          go_wp2_with fail
          refine Calls.mono HZ.out ?_
          rintro e w2 ⟨rfl, hb2⟩
          have HB : Hid (Below w.heap.size w w2) := hbr.trans (hb2.mono hbr.size)
          clear HZ hbr hb2
          go_wp2
          go_roundw
          case rel => exact ⟨k + 1, t, by omega, by go_num, rfl, h3, HB.out, HR⟩
          case measure => simp [intOf]; omega
      · obtain rfl : k = len := by omega
        have HV : Hid (szK m p = s) := by show _ = _; rw [← hT.out, ← hll, List.drop_of_length_le (Nat.le_refl _)]; rfl
        clear hT
        go_wp2
        go_ret
        exact ⟨by rw [HV.out] <;> rfl, hbr⟩
def szG (n : Int) (p : List EN) (l : List Int) : Int := if szL n p < 0 then -1 else szV (szL n p) l.length
theorem szG_any (a b : Option Addr) (len cap lb cb : Nat) (p : List EN) (l : List Int) (n : Int) (w : World) (h : ESl w a len p) (hl : Sl w b lb l) (hn : 0 ≤ n ∧ n ≤ 1048576) (hm : len ≤ 9223372036854775807) (hm2 : lb ≤ 9223372036854775807) :
    Calls Tryd.prog 6 #[.agg #[.slice a len cap, .slice b lb cb], .int .i64 n] w fun e w' => e = .returned (.int .i64 (szG n p l)) ∧ Below w.heap.size w w' := by
  have hl1 := hl.1
  obtain ⟨W1, hW1⟩ : ∃ W1, w.alloc (.cells #[.slice a len cap, .slice b lb cb] 25) = W1 := ⟨_, rfl⟩
  have hb1 : Below w.heap.size w W1 := by rw [← hW1]; exact (Below.refl _ _).alloc (Nat.le_refl _) _
  have n0 : W1.cell? ⟨w.heap.size, 0, none⟩ = some (.slice a len cap) := by rw [← hW1]; simp [go_sem]
  have n1 : W1.cell? ⟨w.heap.size, 1, none⟩ = some (.slice b lb cb) := by rw [← hW1]; simp [go_sem]
  have hs1 : w.heap.size < W1.heap.size := by rw [← hW1]; simp
  have HZ := (show Hid _ from szES_any a len cap p n W1 (h.keep hb1) hn hm)
  have HF : Hid (∀ W, Below W1.heap.size W1 W → Below w.heap.size w W) := fun W hW => hb1.trans (hW.mono hb1.size)
  unfold szG
  rw [hl1]
  have hr := szL_range n p hn.1
  have ha := szL_all n p hn.1
  clear h hl hb1
  generalize szL n p = s at HZ hr ha ⊢
  rcases hr with rfl | h0
  · rw [if_pos (by omega)]
    clear ha
    go_enter Tryd.func6, Tryd.ntmps6
    go_wp2_with fail
    (try rw [hW1])
    refine Calls.mono HZ.out ?_
    rintro e w2 ⟨rfl, hb2⟩
    clear HZ hW1
    go_wp2
    go_ret
    exact ⟨rfl, HF.out _ hb2⟩
  · rw [if_neg (by omega)]
    have hs2 := (ha h0).1
    have h2 : ¬ s < 0 := by omega
    have HS : Hid (∀ W, Calls Tryd.prog 23 #[.slice b lb cb, .int .i64 s] W fun e w' => e = .returned (.int .i64 (szV s lb)) ∧ w' = W) := fun W => sz6I_any b lb cb s W (by omega) hm2
    clear ha
    rcases szV_cases s lb h0 (by omega) with ⟨e1, e2⟩ | ⟨e1, e2, e3⟩
    · rw [e1] at HS ⊢
      clear e1 e2
      go_enter Tryd.func6, Tryd.ntmps6
      go_wp2_with fail
      (try rw [hW1])
      refine Calls.mono HZ.out ?_
      rintro e w2 ⟨rfl, hb2⟩
      have q1 := (hb2.cell (p := ⟨w.heap.size, 1, none⟩) hs1).trans n1
      clear HZ hW1
      go_wp2_with fail
      refine Calls.mono (HS.out _) ?_
      rintro e w3 ⟨rfl, rfl⟩
      clear HS
      go_wp2
      go_ret
      exact ⟨rfl, HF.out _ hb2⟩
    · have h3 : ¬ szV s lb < 0 := by omega
      clear e1 e2 e3
      generalize szV s lb = t at HS h3 ⊢
      go_enter Tryd.func6, Tryd.ntmps6
      go_wp2_with fail
      (try rw [hW1])
      refine Calls.mono HZ.out ?_
      rintro e w2 ⟨rfl, hb2⟩
      have q1 := (hb2.cell (p := ⟨w.heap.size, 1, none⟩) hs1).trans n1
      clear HZ hW1
      go_wp2_with fail
      refine Calls.mono (HS.out _) ?_
      rintro e w3 ⟨rfl, rfl⟩
      clear HS
      go_wp2
      go_ret
      exact ⟨rfl, HF.out _ hb2⟩
/-- What weighing lets through. -/
theorem szG_all (p : List EN) (l : List Int) : szG 1048576 p l = -1 ∨ (0 ≤ szG 1048576 p l ∧ szG 1048576 p l ≤ 1048576 ∧ p.length ≤ 1048576 ∧ l.length ≤ 1048576 ∧ ∀ i, i < p.length → (p.getD i e0).2.2.length ≤ 1048576) := by
  unfold szG
  rcases szL_range 1048576 p (by omega) with h | h
  · rw [if_pos (by omega)]; exact .inl rfl
  · obtain ⟨h1, h2, h3⟩ := szL_all 1048576 p (by omega) h
    rw [if_neg (by omega)]
    rcases szV_cases (szL 1048576 p) l.length h (by omega) with ⟨e1, e2⟩ | ⟨e1, e2, e3⟩
    · exact .inl e1
    · exact .inr ⟨e1, by omega, by omega, by omega, fun i hi => by have := h3 i hi; omega⟩
end Go.Proofs.YtmbggaepckgogaaDoor
