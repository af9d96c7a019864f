/-
  PROVED HERE: what the laws' own measuring, copying, comparing and marking of lists of lists of nodes does. No condition but the size that the laws themselves ask.
-/
import Derived.Test.YtlpefaaohcgboaaDoorMany
import Derived.Test.YtlpefaaohcgboaaDoorNodes
import Derived.Test.YtlpefaaohcgboaaDoorKeeps
namespace Go.Proofs.YtlpefaaohcgboaaDoor
open Go.ChangeShapes Go.WideShapes Go.ChangeAt Go.RowKit
set_option linter.unusedVariables false

/-- How many nodes the first n lists have. -/
def tot (ls : List (List (Int × Int))) (n : Nat) : Nat := (cat ls n).length
theorem tot_zero (ls : List (List (Int × Int))) : tot ls 0 = 0 := rfl
theorem tot_succ (ls : List (List (Int × Int))) (n : Nat) (h : n < ls.length) : tot ls (n + 1) = tot ls n + (ls.getD n []).length := by
  unfold tot; rw [cat_succ ls n h, List.length_append]
theorem tot_le (ls : List (List (Int × Int))) (n : Nat) : ∀ j, n + j ≤ ls.length → tot ls n ≤ tot ls (n + j)
  | 0, _ => Nat.le_refl _
  | j + 1, h => by
    have := tot_le ls n j (by omega)
    have := tot_succ ls (n + j) (by omega)
    rw [show n + (j + 1) = n + j + 1 from by omega]
    omega
theorem tot_part (ls : List (List (Int × Int))) (i m : Nat) (h : i < m) (hm : m ≤ ls.length) : tot ls i + (ls.getD i []).length ≤ tot ls m := by
  have := tot_succ ls i (by omega)
  have := tot_le ls (i + 1) (m - (i + 1)) (by omega)
  rw [show i + 1 + (m - (i + 1)) = m from by omega] at this
  omega

set_option maxRecDepth 20000 in
theorem szSS_any (a : Option Addr) (lb cb n : Nat) (ls : List (List (Int × Int))) (w : World) (h : NNSl w a lb ls) (hn : n ≤ 1048576) (hl : lb ≤ 9223372036854775807) :
    Calls Tryd.prog 33 #[.slice a lb cb, .int .i64 n] w fun e w' => e = .returned (.int .i64 (if lb + tot ls lb ≤ n then ((n - lb - tot ls lb : Nat) : Int) else -1)) ∧ w' = w := by
  have hlb := h.1
  by_cases h0 : lb ≤ n
  · have i0 : ¬ (n : Int) - lb < 0 := by omega
    have HS : Hid (NNSl w a lb ls) := h
    have HT : Hid (∀ k, k < lb → tot ls (k + 1) = tot ls k + (ls.getD k []).length) := fun k hk => tot_succ ls k (by omega)
    have HZ : Hid (∀ (a : Option Addr) (len cap m : Nat), m ≤ 1048576 → len ≤ 9223372036854775807 → Calls Tryd.prog 28 #[.slice a len cap, .int .i64 m] w fun e w' => e = .returned (.int .i64 (if len ≤ m then ((m - len : Nat) : Int) else -1)) ∧ w' = w) := fun a len cap m h1 h2 => sz_any a len cap m w h1 h2
    have HP : Hid (∀ k, k < lb → tot ls k + (ls.getD k []).length ≤ tot ls lb) := fun k hk => tot_part ls k lb hk (by omega)
    obtain ⟨R, hR⟩ : ∃ R, (if lb + tot ls lb ≤ n then ((n - lb - tot ls lb : Nat) : Int) else -1) = R := ⟨_, rfl⟩
    rw [hR]
    have HR : Hid ((if lb + tot ls lb ≤ n then ((n - lb - tot ls lb : Nat) : Int) else -1) = R) := hR
    clear h hR
    go_enter Tryd.func33, Tryd.ntmps33
    go_wp2_with fail
    go_loopw [1, 5] (fun x i wr => ∃ k m : Nat, k ≤ lb ∧ i = .int .i64 k ∧ x = .int .i64 m ∧ Hid (m + lb + tot ls k = n) ∧ m ≤ n ∧ wr = w) (fun _ i _ => lb - (intOf i).toNat)
    case atStart => exact ⟨0, n - lb, Nat.zero_le _, rfl, by congr 1; omega, by rw [tot_zero]; show n - lb + lb + 0 = n; omega, by omega, rfl⟩
    case round =>
      obtain ⟨k, m, hk, rfl, rfl, hm, hmn, rfl⟩ := hrel
      by_cases hlt : k < lb
      · obtain ⟨b, off, rfl, hbl, hc⟩ := HS.out.at (by omega)
        obtain ⟨ai, li, ci, cc, hli, _, hsl⟩ := hc k hlt
        have hll := hsl.1
        have C := HZ.out ai li ci m (by omega) hli
        have hp := HP.out k hlt
        have ht := HT.out k hlt
        rw [hll] at hp ht
        clear hc
        have i1 : (k : Int) < lb := by omega
        by_cases hfit : li ≤ m
        · rw [if_pos hfit] at C
          have C' := (show Hid _ from C)
          have i2 : ¬ ((m - li : Nat) : Int) < 0 := by omega
          have hnx : Hid ((m - li) + lb + tot ls (k + 1) = n) := by have := hm.out; show (m - li) + lb + tot ls (k + 1) = n; omega
          have hmn' : m - li ≤ n := by omega
          clear C hp ht hm hsl
          generalize m - li = m' at C' i2 hnx hmn'
          go_wp2_with fail
          refine Calls.mono C'.out ?_
          rintro e w1 ⟨rfl, rfl⟩
          go_wp2
          go_roundw
          case rel => exact ⟨k + 1, m', by omega, by go_num, rfl, hnx, hmn', (by first | trivial | rfl)⟩
          case measure => simp [intOf]; omega
        · rw [if_neg hfit] at C
          have C' := (show Hid _ from C)
          have hR' : R = -1 := by
            rw [← HR.out, if_neg]
            have := hm.out
            omega
          have HR' := (show Hid _ from hR')
          clear C hp ht hm hsl hR'
          go_wp2_with fail
          refine Calls.mono C'.out ?_
          rintro e w1 ⟨rfl, rfl⟩
          go_wp2
          go_ret
          exact ⟨by rw [HR'.out]; rfl, rfl⟩
      · obtain rfl : k = lb := by omega
        have hR' : R = m := by
          have := hm.out
          rw [← HR.out, if_pos (by omega)]
          omega
        have HR' := (show Hid _ from hR')
        clear hR'
        go_wp2
        go_ret
        exact ⟨by rw [HR'.out]; rfl, rfl⟩
  · rw [if_neg (by omega)]
    have i0 : (n : Int) - lb < 0 := by omega
    go_enter Tryd.func33, Tryd.ntmps33
    go_wp2
    go_ret
    exact ⟨rfl, rfl⟩

theorem infoList : (Tryd.prog.info? 24).map (fun i => (i.zero, i.size, i.bytes)) = some (some (.slice none 0 0), 1, 24) := by kernel_rfl
/-- Copied lists: where each lies, one behind the other, each one's own. -/
def Copied (w : World) (b : Nat) (ls : List (List (Int × Int))) (k : Nat) (f : Nat → Nat) : Prop :=
  ∀ i, i < k → b < f i ∧ f i < w.heap.size ∧ (∀ j, j < i → f j < f i) ∧ NSl w (some ⟨f i, 0, none⟩) (ls.getD i []).length (ls.getD i []) ∧ Mine w (f i) 0 (ls.getD i []).length
theorem Mine.grow {w w' : World} {b off len : Nat} {r : Option Nat} (h : Mine w b off len) (hg : w.grownBy w' r) (hne : some b ≠ r) : Mine w' b off len := by
  refine ⟨Nat.lt_of_lt_of_le h.1 hg.size, fun i hi => ?_⟩
  have e := hg.block b h.1 hne
  obtain ⟨⟨v, hv⟩, hf⟩ := h.2 i hi
  refine ⟨⟨v, ?_⟩, ?_⟩
  · rw [← hv]; simp only [World.cell?, e]
  · rw [← hf]; simp only [World.frozen?, e]
theorem ne_some {a b : Nat} (h : a ≠ b) : (some a : Option Nat) ≠ some b := fun e => h (Option.some.inj e)
theorem Copied.grown {w w' : World} {b k : Nat} {ls : List (List (Int × Int))} {f : Nat → Nat} {r : Option Nat} (h : Copied w b ls k f) (hg : w.grownBy w' r) (hne : ∀ i, i < k → some (f i) ≠ r) : Copied w' b ls k f := by
  intro i hi
  obtain ⟨h1, h2, h3, h4, h5⟩ := h i hi
  exact ⟨h1, Nat.lt_of_lt_of_le h2 hg.size, h3, h4.grown hg (fun x hx => by cases hx; exact hne i hi), h5.grow hg (hne i hi)⟩
theorem Copied.put {w : World} {b k g : Nat} {ls : List (List (Int × Int))} {f : Nat → Nat} (h : Copied w b ls k f) (hg : ∀ i, i < k → f i < g) (hb : b < g) (hlt : g < w.heap.size) (hs : NSl w (some ⟨g, 0, none⟩) (ls.getD k []).length (ls.getD k [])) (hm : Mine w g 0 (ls.getD k []).length) : Copied w b ls (k + 1) (fun i => if i = k then g else f i) := by
  intro i hi
  by_cases e : i = k
  · subst e
    simp only
    refine ⟨hb, hlt, fun j hj => ?_, hs, hm⟩
    rw [if_neg (by omega)]
    exact hg j hj
  · simp only [if_neg e]
    obtain ⟨h1, h2, h3, h4, h5⟩ := h i (by omega)
    refine ⟨h1, h2, fun j hj => ?_, h4, h5⟩
    rw [if_neg (by omega)]
    exact h3 j hj

set_option maxHeartbeats 1600000 in
set_option maxRecDepth 20000 in
theorem copyNN_mine (a : Option Addr) (lb cb : Nat) (ls : List (List (Int × Int))) (w : World) (h : NNSl w a lb ls) (hn : lb ≤ 1048576) (hp : ∀ i, i < lb → (ls.getD i []).length ≤ 1048576) :
    Calls Tryd.prog 34 #[.slice a lb cb] w fun e w' => e = .returned (.slice (some ⟨w.heap.size, 0, none⟩) lb lb) ∧ Below w.heap.size w w' ∧ w.heap.size < w'.heap.size ∧ ∃ f : Nat → Nat, Copied w' w.heap.size ls lb f ∧ ∀ i, i < lb → w'.cell? ⟨w.heap.size, i, none⟩ = some (.slice (some ⟨f i, 0, none⟩) (ls.getD i []).length (ls.getD i []).length) := by
  obtain ⟨i0, hi, hz0, hz1, hz2⟩ := info_parts infoList
  have HS : Hid (NNSl w a lb ls) := h
  have HP : Hid (∀ i, i < lb → (ls.getD i []).length ≤ 1048576) := hp
  have hlb := h.1
  clear h hp
  go_enter Tryd.func34, Tryd.ntmps34
  go_wp2_with (at_make; refine wpList_make_full _ rfl _ _ 25 rfl w.heap.size 24 i0 (.slice none 0 0) 1 Tryd.underlying25 hi hz0 hz1 _ _ _ _ lb rfl rfl rfl rfl (by rw [hz2]; omega) (by unfold maxLen; omega) (Nat.le_refl _) ?_; intro w1 hown hgrow)
  have hb1 : Below w.heap.size w w1 := (Below.refl _ _).grown hgrow (Nat.le_refl _) (fun k hk => by cases hk)
  clear hgrow
  go_loopw [4] (fun i wr => ∃ (k : Nat) (xs : List Value) (f : Nat → Nat), k ≤ lb ∧ i = .int .i64 k ∧ wr.ownsRow w.heap.size 24 1 (.slice (some ⟨w.heap.size, 0, none⟩) lb lb) lb xs ∧ Hid (Copied wr w.heap.size ls k f ∧ ∀ j, j < k → xs[j]? = some (.slice (some ⟨f j, 0, none⟩) (ls.getD j []).length (ls.getD j []).length)) ∧ Below w.heap.size w wr) (fun i _ => lb - (intOf i).toNat)
  case atStart => exact ⟨0, _, fun _ => 0, Nat.zero_le _, rfl, hown, ⟨fun j hj => absurd hj (Nat.not_lt_zero _), fun j hj => absurd hj (Nat.not_lt_zero _)⟩, hb1⟩
  case round =>
    obtain ⟨k, xs, f, hk, rfl, howr, hH, hbr⟩ := hrel
    clear hown hb1
    by_cases hlt : k < lb
    · obtain ⟨b, off, rfl, hbl, hc⟩ := HS.out.at (by omega)
      obtain ⟨ai, li, ci, cc, hli, _, hsl⟩ := hc k hlt
      have c1 := (hbr.cell (p := ⟨b, off + k, none⟩) hbl).trans cc
      have hll := hsl.1
      have hpk := HP.out k hlt
      have C := (show Hid _ from copyN_mine ai li ci _ wr (hsl.keep hbr) (by omega))
      have hxl : xs.length = lb := by have := howr.1; omega
      have hwlt : w.heap.size < wr.heap.size := owns_lt howr
      clear hc hsl cc
      go_wp2_with fail
      refine Calls.mono C.out ?_
      rintro e w2 ⟨rfl, hb2, hs2, hm2⟩
      have how2 := own_keep howr hb2
      have hbr2 := hbr.trans (hb2.mono hbr.size)
      have hf1 := how2.frozenAt k
      obtain ⟨y1, hy1⟩ : ∃ y, xs[k]? = some y := ⟨_, List.getElem?_eq_getElem (by omega)⟩
      have hg1 := how2.cellAt k (by omega)
      rw [hy1] at hg1
      have hst := how2.stored k (.slice (some ⟨wr.heap.size, 0, none⟩) li li)
      have hcp : Copied w2 w.heap.size ls (k + 1) (fun i => if i = k then wr.heap.size else f i) := by
        refine (hH.out.1.grown (grown_of hb2) (fun i hi' => by simp)).put (fun i hi' => (hH.out.1 i hi').2.1) hwlt hm2.1 ?_ ?_
        · rw [hll]; exact hs2
        · rw [hll]; exact hm2
      have HN : Hid (Copied (w2.setCell ⟨w.heap.size, k, none⟩ (.slice (some ⟨wr.heap.size, 0, none⟩) li li)) w.heap.size ls (k + 1) (fun i => if i = k then wr.heap.size else f i) ∧ ∀ j, j < k + 1 → (xs.set k (.slice (some ⟨wr.heap.size, 0, none⟩) li li))[j]? = some (.slice (some ⟨(fun i => if i = k then wr.heap.size else f i) j, 0, none⟩) (ls.getD j []).length (ls.getD j []).length)) := by
        refine ⟨hcp.grown hst.2 (fun i hi' => ne_some (Nat.ne_of_gt (hcp i hi').1)), fun j hj => ?_⟩
        by_cases e : j = k
        · subst e
          rw [List.getElem?_set, if_pos rfl, if_pos (by omega), hll]
          simp
        · rw [List.getElem?_set, if_neg (by omega)]
          simp only [if_neg e]
          exact hH.out.2 j (by omega)
      have HB : Below w.heap.size w (w2.setCell ⟨w.heap.size, k, none⟩ (.slice (some ⟨wr.heap.size, 0, none⟩) li li)) := hbr2.setCell (Nat.le_refl _) _
      have HO := (show Hid _ from hst.1)
      clear hst hcp hH hbr hbr2 how2 howr C hs2 hm2 hb2
      go_wp2
      go_roundw
      case rel => exact ⟨k + 1, _, _, by omega, by go_num, HO.out, HN, HB⟩
      case measure => simp [intOf]; omega
    · obtain rfl : k = lb := by omega
      go_wp2
      go_ret
      refine ⟨rfl, hbr, owns_lt howr, f, hH.out.1, fun i hi' => ?_⟩
      rw [howr.cellAt i (by omega)]
      exact hH.out.2 i hi'

theorem Copied.lists {w : World} {b lb : Nat} {ls : List (List (Int × Int))} {f : Nat → Nat} (h : Copied w b ls lb f) (hl : ls.length = lb) (hb : b < w.heap.size) (hc : ∀ i, i < lb → w.cell? ⟨b, i, none⟩ = some (.slice (some ⟨f i, 0, none⟩) (ls.getD i []).length (ls.getD i []).length)) (hp : ∀ i, i < lb → (ls.getD i []).length ≤ 1048576) : NNSl w (some ⟨b, 0, none⟩) lb ls := by
  refine ⟨hl, .inr ⟨b, 0, rfl, hb, fun i hi => ?_⟩⟩
  rw [Nat.zero_add]
  have := hp i hi
  exact ⟨_, _, _, hc i hi, by omega, Nat.le_refl _, (h i hi).2.2.2.1⟩

set_option maxRecDepth 20000 in
theorem eqNN_same (a b : Option Addr) (lb ca cb : Nat) (ls : List (List (Int × Int))) (w : World) (h : NNSl w a lb ls) (h' : NNSl w b lb ls) (hn : lb ≤ 1048576) (hp : ∀ i, i < lb → (ls.getD i []).length ≤ 1048576) :
    Calls Tryd.prog 35 #[.slice a lb ca, .slice b lb cb] w fun e w' => e = .returned (.bool true) ∧ Below w.heap.size w w' := by
  have hne : ((lb : Int) != lb) = false := by simp
  have HA : Hid (NNSl w a lb ls) := h
  have HB : Hid (NNSl w b lb ls) := h'
  have HP : Hid (∀ i, i < lb → (ls.getD i []).length ≤ 1048576) := hp
  clear h h' hp
  go_enter Tryd.func35, Tryd.ntmps35
  go_wp2
  go_loopw [5] (fun i wr => ∃ (k : Nat), k ≤ lb ∧ i = .int .i64 k ∧ Below w.heap.size w wr) (fun i _ => lb - (intOf i).toNat)
  case atStart => exact ⟨0, Nat.zero_le _, rfl, Below.refl _ _⟩
  case round =>
    obtain ⟨k, hk, rfl, hbr⟩ := hrel
    by_cases hlt : k < lb
    · obtain ⟨b1, off, rfl, hbl, hc⟩ := HA.out.at (by omega)
      obtain ⟨b2, off', rfl, hbl', hc'⟩ := HB.out.at (by omega)
      obtain ⟨a1, l1, k1, cc, m1, _, s1⟩ := hc k hlt
      obtain ⟨a2, l2, k2, cc', m2, _, s2⟩ := hc' k hlt
      have c1 := (hbr.cell (p := ⟨b1, off + k, none⟩) hbl).trans cc
      have c2 := (hbr.cell (p := ⟨b2, off' + k, none⟩) hbl').trans cc'
      have hpk := HP.out k hlt
      have e1 := s1.1
      have e2 := s2.1
      obtain rfl : l1 = l2 := by omega
      have HE : Hid (∀ W, Below w.heap.size w W → Calls Tryd.prog 30 #[.slice a1 l1 k1, .slice a2 l1 k2] W fun e w' => e = .returned (.bool true) ∧ Below W.heap.size W w') := fun W hW => eqN_same a1 a2 l1 k1 k2 _ W (s1.keep hW) (s2.keep hW) (by omega)
      clear hc hc' s1 s2 cc cc'
      have hlt' : (k : Int) < lb := by omega
      go_wp2_with fail
      go_region_with (go_at_call 30; refine (HE.out _ hbr.drew).mono ?_; rintro e w1 ⟨rfl, hb⟩)
      all_goals
        have hbb := hbr.drew.trans (hb.mono hbr.size)
        go_wp2
        go_roundw
        case rel => exact ⟨k + 1, by omega, by go_num, hbb⟩
        case measure => simp [intOf]; omega
    · go_wp2
      go_ret
      exact ⟨rfl, hbr⟩

/-- All blocks but those from lo to hi are as they were. -/
structure Within (lo hi : Nat) (w w' : World) : Prop where
  os : w'.os = w.os
  tape : w'.tape = w.tape
  output : w'.output = w.output
  size : w.heap.size ≤ w'.heap.size
  block : ∀ i, i < w.heap.size → (i < lo ∨ hi ≤ i) → w'.heap[i]? = w.heap[i]?
theorem Within.refl (lo hi : Nat) (w : World) : Within lo hi w w := ⟨rfl, rfl, rfl, Nat.le_refl _, fun _ _ _ => rfl⟩
theorem Within.grown {lo hi g : Nat} {a b c : World} (h : Within lo hi a b) (hg : b.grownBy c (some g)) (h1 : lo ≤ g) (h2 : g < hi) : Within lo hi a c :=
  ⟨hg.os.trans h.os, hg.tape.trans h.tape, hg.output.trans h.output, Nat.le_trans h.size hg.size, fun i hi' ho => (hg.block i (Nat.lt_of_lt_of_le hi' h.size) (ne_some (by omega))).trans (h.block i hi' ho)⟩
theorem Within.below {lo hi B : Nat} {a b c : World} (h : Below B a b) (k : Within lo hi b c) (h1 : B ≤ lo) (h2 : B ≤ b.heap.size) : Below B a c :=
  ⟨k.os.trans h.os, k.tape.trans h.tape, k.output.trans h.output, Nat.le_trans h.size k.size, fun i hi' => (k.block i (by omega) (.inl (by omega))).trans (h.block i hi')⟩
theorem own_within {lo hi : Nat} {w w' : World} {base e size n : Nat} {v : Value} {xs : List Value} (h : w.ownsRow base e size v n xs) (hw : Within lo hi w w') (hne : ∀ x, v.ownBlock = some x → x < lo ∨ hi ≤ x) : w'.ownsRow base e size v n xs := by
  refine ⟨h.1, ?_⟩
  rcases h.2 with hn | ⟨g, cap, cur, rfl, hb, hgg, rest⟩
  · exact .inl hn
  · refine .inr ⟨g, cap, cur, rfl, hb, ?_, rest⟩
    rw [hw.block g (Array.getElem?_eq_some_iff.1 hgg).1 (hne g rfl)]
    exact hgg

set_option maxRecDepth 20000 in
theorem markNN_any (b lb cb k0 hi : Nat) (ls : List (List (Int × Int))) (f : Nat → Nat) (w : World) (hl : ls.length = lb) (h : Copied w b ls lb f) (hb : b < w.heap.size) (hhi : w.heap.size ≤ hi ∨ ∀ i, i < lb → f i < hi) (hc : ∀ i, i < lb → w.cell? ⟨b, i, none⟩ = some (.slice (some ⟨f i, 0, none⟩) (ls.getD i []).length (ls.getD i []).length)) (hn : lb + tot ls lb ≤ 1048576) (hk0 : k0 ≤ 4194304) :
    Calls Tryd.prog 36 #[.slice (some ⟨b, 0, none⟩) lb cb, .int .i64 k0] w fun e w' => e = .returned (.int .i64 (k0 + 2 * tot ls lb : Nat)) ∧ Within b hi w w' := by
  have HCp : Hid (Copied w b ls lb f) := h
  have HC : Hid (∀ i, i < lb → w.cell? ⟨b, i, none⟩ = some (.slice (some ⟨f i, 0, none⟩) (ls.getD i []).length (ls.getD i []).length)) := hc
  have HT : Hid (∀ k, k < lb → tot ls (k + 1) = tot ls k + (ls.getD k []).length ∧ tot ls (k + 1) ≤ tot ls lb) := fun k hk => by
    have := tot_succ ls k (by omega)
    have := tot_part ls k lb hk (by omega)
    exact ⟨by omega, by omega⟩
  have HI : Hid (∀ i, i < lb → f i < hi) := fun i hi' => by
    rcases hhi with h0 | h0
    · have := (h i hi').2.1; omega
    · exact h0 i hi'
  clear h hc hhi
  go_enter Tryd.func36, Tryd.ntmps36
  go_wp2
  go_loopw [1, 5] (fun x i wr => ∃ (k : Nat), k ≤ lb ∧ i = .int .i64 k ∧ x = .int .i64 (k0 + 2 * tot ls k : Nat) ∧ Hid (tot ls k ≤ tot ls lb) ∧ Within b hi w wr ∧ Hid (∀ i, k ≤ i → i < lb → Mine wr (f i) 0 (ls.getD i []).length) ∧ Hid (∀ i, i < lb → wr.cell? ⟨b, i, none⟩ = some (.slice (some ⟨f i, 0, none⟩) (ls.getD i []).length (ls.getD i []).length))) (fun _ i _ => lb - (intOf i).toNat)
  case atStart => exact ⟨0, Nat.zero_le _, rfl, rfl, Nat.zero_le _, Within.refl _ _ _, fun i _ hi' => (HCp.out i hi').2.2.2.2, HC⟩
  case round =>
    obtain ⟨k, hk, rfl, rfl, htk, hw, hmn, hcc⟩ := hrel
    by_cases hlt : k < lb
    · have hlt' : (k : Int) < lb := by omega
      have c1 := hcc.out k hlt
      have p5 := hmn.out k (Nat.le_refl _) hlt
      have p1 := (HCp.out k hlt).1
      obtain ⟨t1, t2⟩ := HT.out k hlt
      have hfh := HI.out k hlt
      have htk' := htk.out
      have C := mark_any (f k) 0 _ (ls.getD k []).length (k0 + 2 * tot ls k) wr p5 (by omega) (by omega)
      rw [show k0 + 2 * tot ls k + 2 * (ls.getD k []).length = k0 + 2 * tot ls (k + 1) from by omega] at C
      have C' := (show Hid _ from C)
      have HTN : Hid (tot ls (k + 1) ≤ tot ls lb) := t2
      clear C p5 t1 t2 htk htk'
      generalize (ls.getD k []).length = li at c1 C'
      go_wp2_with fail
      refine Calls.mono C'.out ?_
      rintro e w2 ⟨rfl, hg2, _⟩
      have hwn := hw.grown hg2 (by omega) hfh
      have hmn' : Hid (∀ i, k + 1 ≤ i → i < lb → Mine w2 (f i) 0 (ls.getD i []).length) := fun i h1 h2 => (hmn.out i (by omega) h2).grow hg2 (ne_some (by have := (HCp.out i h2).2.2.1 k (by omega); omega))
      have hcc' : Hid (∀ i, i < lb → w2.cell? ⟨b, i, none⟩ = some (.slice (some ⟨f i, 0, none⟩) (ls.getD i []).length (ls.getD i []).length)) := fun i hi' => hg2.cell (hcc.out i hi') (ne_some (show b ≠ f k by omega))
      clear hg2 hmn hcc hw C' c1
      go_wp2
      go_roundw
      case rel => exact ⟨k + 1, by omega, by go_num, rfl, HTN, hwn, hmn', hcc'⟩
      case measure => simp [intOf]; omega
    · obtain rfl : k = lb := by omega
      go_wp2
      go_ret
      exact ⟨rfl, hw⟩
end Go.Proofs.YtlpefaaohcgboaaDoor
