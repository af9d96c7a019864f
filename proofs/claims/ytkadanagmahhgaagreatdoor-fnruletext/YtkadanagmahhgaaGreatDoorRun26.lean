/-
  PROVED HERE: what the model's multiplying of two sums of products, term by term, leaves. No other condition. the sum of products of a term, plainly. No condition. a term's sum, where it has one, is good. No condition. which sum of products the model makes of a number and of a variable. No other condition.
-/
import Derived.Test.YtkadanagmahhgaaGreatDoorRun25
import Derived.Test.YtkadanagmahhgaaGreatDoorRun7
import Derived.Deep.RegionHeld3
import Derived.Test.YtkadanagmahhgaaGreatDoorRun2
import Derived.Test.YtkadanagmahhgaaGreatDoorRun0
namespace Go.Proofs.YtkadanagmahhgaaGreatDoor
open Go.ChangeShapes Go.WideShapes Go.ChangeAt Go.RowKit
set_option linter.unusedVariables false

theorem addE_get : ∀ (a b : List Int) (j : Nat), j < a.length → j < b.length → (addE a b).getD j 0 = a.getD j 0 + b.getD j 0
  | [], _, _, h, _ => absurd h (Nat.not_lt_zero _)
  | _ :: _, [], _, _, h => absurd h (Nat.not_lt_zero _)
  | a :: r, b :: s, 0, _, _ => rfl
  | a :: r, b :: s, j + 1, h1, h2 => by
    have := addE_get r s j (by simpa using h1) (by simpa using h2)
    simpa [addE] using this
theorem addE_take (a b : List Int) (j : Nat) (h1 : j < a.length) (h2 : a.length = b.length) : (addE a b).take (j + 1) = (addE a b).take j ++ [a.getD j 0 + b.getD j 0] := by
  have hl : j < (addE a b).length := by rw [addE_len h2]; exact h1
  rw [List.take_succ_eq_append_getElem hl]
  have := addE_get a b j h1 (by omega)
  rw [List.getD_eq_getElem?_getD, List.getElem?_eq_getElem hl] at this
  simp only [Option.getD_some] at this
  rw [this]
theorem ownQ_keep {w w' : World} {base e size n : Nat} {v : Value} {xs : List Value} (h : w.ownsRow base e size v n xs) (hb : Below w.heap.size w w') : w'.ownsRow base e size v n xs :=
  h.kept (grown_of hb) (by cases hv : v.ownBlock <;> simp)
/-- What the powers that are being added hold so far. -/
def PowR (w wr : World) (v : Value) (L : List Int) : Prop := wr.ownsRow w.heap.size 3 1 v L.length (vals L) ∧ Below w.heap.size w wr
theorem mulF_drop (o p q : List Mon) (k : Nat) (h : k < p.length) : mulF o (p.drop k) q = mulF (addF o (mulL (p.getD k ([], 0)) q)) (p.drop (k + 1)) q := by
  rw [drop_mon p k h]; rfl
theorem mulL_get (a : Mon) (q : List Mon) (j : Nat) (h : j < q.length) : (mulL a q).getD j ([], 0) = (addE a.1 (q.getD j ([], 0)).1, wrap64 (a.2 * (q.getD j ([], 0)).2)) := by
  simp [mulL, List.getD_eq_getElem?_getD, List.getElem?_eq_getElem h]
theorem one_newI (w : World) (x : Int) (t : TypeId) : ∀ j u, [Value.int .i64 x][j]? = some u → (w.alloc (.cells #[.int .i64 x] t)).cell? ((⟨w.heap.size, 0, none⟩ : Addr).add j) = some u := cell_new1 w .i64 x t
/-- What has been multiplied so far. -/
def MulR (w wr : World) (v : Value) (o rest q all : List Mon) : Prop := SpecB w.heap.size wr v o ∧ Sum4 o ∧ mulF o rest q = all ∧ Below w.heap.size w wr
def MulM (w W1 wr : World) (v : Value) (o left rest q all : List Mon) : Prop := SpecB w.heap.size wr v o ∧ Sum4 o ∧ mulF (addF o left) rest q = all ∧ Below w.heap.size w wr ∧ Below W1.heap.size W1 wr
theorem wrap_small {x : Int} (h0 : 0 ≤ x) (h1 : x ≤ 1000) : IntKind.i64.wrap x = x := by
  simp [IntKind.wrap, IntKind.bits, IntKind.signed] <;> omega
theorem held_4 {A B C D : Prop} {W w : World} (h : A ∧ B ∧ C ∧ D ∧ Below W.heap.size W w) : Below W.heap.size W w := h.2.2.2.2
set_option maxHeartbeats 6400000 in
set_option maxRecDepth 20000 in
theorem l4Mul_own (a : Option Addr) (la ca : Nat) (p : List Mon) (b : Option Addr) (lb cb : Nat) (q : List Mon) (w : World) (ha : PSl w a la p) (hb : PSl w b lb q) (hla : la ≤ 40) (hlb : lb ≤ 40) (hp : ∀ m ∈ p, m.1.length = 4 ∧ InI m.2) (hq : ∀ m ∈ q, m.1.length = 4 ∧ InI m.2) (hr : ∀ x ∈ p, ∀ y ∈ q, ∀ j, 0 ≤ x.1.getD j 0 + y.1.getD j 0 ∧ x.1.getD j 0 + y.1.getD j 0 ≤ 1000) :
    Calls Tryz.prog 128 #[.slice a la ca, .slice b lb cb] w fun r w' => ∃ v, r = .returned v ∧ SpecB w.heap.size w' v (mulP p q) ∧ Below w.heap.size w w' := by
  obtain ⟨i0, hi, hz0, hz1, hz2⟩ := info_parts infoInt
  have hpl := ha.1
  have hql := hb.1
  have HP := (show Hid _ from hp)
  have HQ := (show Hid _ from hq)
  have HRg := (show Hid _ from hr)
  have HMem : Hid (∀ (l : List Mon) k, k < l.length → l.getD k ([], 0) ∈ l) := fun l k hk => by
    rw [List.getD_eq_getElem?_getD, List.getElem?_eq_getElem hk]; exact List.getElem_mem _
  clear hp hq hr
  go_enter Tryz.func128, Tryz.ntmps128
  go_wp2_with fail
  go_loopw [5, 14] (fun v i wr => ∃ (k : Nat) (o : List Mon), k ≤ la ∧ i = .int .i64 (k : Int) ∧ o.length ≤ k * 40 ∧ Hid (MulR w wr v o (p.drop k) q (mulP p q))) (fun _ i _ => la - (intOf i).toNat)
  case atStart => exact ⟨0, [], by omega, rfl, by simp, SpecB.nil _ _, sum4_nil, rfl, Below.refl _ _⟩
  case round =>
    obtain ⟨k, o, hk, rfl, hol, HR⟩ := hrel
    obtain ⟨hv, hs, he, hbr⟩ := HR.out
    by_cases hlt : k < la
    · obtain ⟨bp, off, rfl, hbl, hc⟩ := (ha.keep hbr).at (by omega)
      obtain ⟨ai, li, ci, c1, hli, hci, hS, c2⟩ := hc k hlt
      have hmm := HP.out _ (HMem.out p k (by omega))
      have hst := mulF_drop o p q k (by omega)
      rw [he] at hst
      have hmp := HMem.out p k (by omega)
      obtain ⟨m, hm⟩ : ∃ m, p.getD k ([], 0) = m := ⟨_, rfl⟩
      rw [hm] at c2 hS hmm hst hmp
      obtain ⟨e, y⟩ := m
      simp only at c2 hS hmm
      obtain rfl : li = 4 := by have := hS.1; omega
      obtain ⟨be, oe, rfl, hce⟩ := cells_of hS (by omega)
      have hbel : be < wr.heap.size := World.block_lt_of_cell? wr _ (hce 0 (by omega))
      obtain ⟨W1, hW1⟩ : ∃ W1, wr.alloc (.cells #[.slice (some ⟨be, oe, none⟩) 4 ci, .int .i64 y] 100) = W1 := ⟨_, rfl⟩
      have hb1 : Below wr.heap.size wr W1 := by rw [← hW1]; exact (Below.refl _ _).alloc (Nat.le_refl _) _
      have hs1 : W1.heap.size = wr.heap.size + 1 := by rw [← hW1]; simp
      have n0 : W1.cell? ⟨wr.heap.size, 0, none⟩ = some (.slice (some ⟨be, oe, none⟩) 4 ci) := by rw [← hW1]; simp [go_sem]
      have n1 : W1.cell? ⟨wr.heap.size, 1, none⟩ = some (.int .i64 y) := by rw [← hW1]; simp [go_sem]
      have HCE : Hid (∀ W i, Below W1.heap.size W1 W → i < 4 → W.cell? ⟨be, oe + i, none⟩ = some (.int .i64 (e.getD i 0))) := fun W i hW hi' => ((hb1.trans (hW.mono hb1.size)).cell (p := ⟨be, oe + i, none⟩) hbel).trans (hce i hi')
      have HN : Hid (∀ W, Below W1.heap.size W1 W → W.cell? ⟨wr.heap.size, 0, none⟩ = some (.slice (some ⟨be, oe, none⟩) 4 ci) ∧ W.cell? ⟨wr.heap.size, 1, none⟩ = some (.int .i64 y)) := fun W hW => ⟨(hW.cell (p := ⟨wr.heap.size, 0, none⟩) (by show wr.heap.size < _; omega)).trans n0, (hW.cell (p := ⟨wr.heap.size, 1, none⟩) (by show wr.heap.size < _; omega)).trans n1⟩
      have HM0 : Hid (MulM w W1 W1 u5 o ((mulL (e, y) q).drop 0) (p.drop (k + 1)) q (mulP p q)) := ⟨hv.keep hb1, hs, hst.symm, hbr.trans (hb1.mono hbr.size), Below.refl _ _⟩
      have hik : (k : Int) < la := by omega
      have hbne : ¬ bp = wr.heap.size := by omega
      have HE4 := (show Hid _ from hmm)
      have HMp := (show Hid _ from hmp)
      obtain ⟨B7, hB7⟩ : ∃ B7, wr.heap.size = B7 := ⟨_, rfl⟩
      clear hv hs he hbr HR hc hS hmm hst hm hb1 hce n0 n1 hmp hbel
      go_wp2_with fail
      (try rw [hW1])
      (try rw [hB7])
      rw [hB7] at HN
      clear hW1 c1 c2
      go_loopw [5, 20] (fun v i wm => ∃ (j : Nat) (o2 : List Mon), j ≤ lb ∧ i = .int .i64 (j : Int) ∧ o2.length ≤ k * 40 + j ∧ Hid (MulM w W1 wm v o2 ((mulL (e, y) q).drop j) (p.drop (k + 1)) q (mulP p q))) (fun _ i _ => lb - (intOf i).toNat)
      case atStart => exact ⟨0, o, by omega, rfl, by omega, HM0⟩
      case round =>
        obtain ⟨j, o2, hj, rfl, hol2, HRm⟩ := hrel
        clear HM0
        obtain ⟨hv, hs, he, hbr, hbw⟩ := HRm.out
        by_cases hlt2 : j < lb
        · obtain ⟨bq, offq, rfl, hblq, hcq⟩ := (hb.keep hbr).at (by omega)
          obtain ⟨aj, lj, cj, d1, hlj, hcj, hSj, d2⟩ := hcq j hlt2
          have hmq := HQ.out _ (HMem.out q j (by omega))
          have hml := mulL_get (e, y) q j (by omega)
          have hrg := HRg.out _ HMp.out _ (HMem.out q j (by omega))
          have hst := addF_drop o2 (mulL (e, y) q) j (by simp [mulL]; omega)
          rw [hml] at hst
          obtain ⟨m2, hm2⟩ : ∃ m, q.getD j ([], 0) = m := ⟨_, rfl⟩
          rw [hm2] at d2 hSj hmq hst hrg
          obtain ⟨f, x⟩ := m2
          simp only at d2 hSj hmq hst hrg
          obtain rfl : lj = 4 := by have := hSj.1; omega
          obtain ⟨bf, of, rfl, hcf⟩ := cells_of hSj (by omega)
          have hbfl : bf < wr.heap.size := World.block_lt_of_cell? wr _ (hcf 0 (by omega))
          obtain ⟨W2, hW2⟩ : ∃ W2, wr.alloc (.cells #[.slice (some ⟨bf, of, none⟩) 4 cj, .int .i64 x] 100) = W2 := ⟨_, rfl⟩
          have hb2 : Below wr.heap.size wr W2 := by rw [← hW2]; exact (Below.refl _ _).alloc (Nat.le_refl _) _
          have hs2 : W2.heap.size = wr.heap.size + 1 := by rw [← hW2]; simp
          have m0 : W2.cell? ⟨wr.heap.size, 0, none⟩ = some (.slice (some ⟨bf, of, none⟩) 4 cj) := by rw [← hW2]; simp [go_sem]
          have m1 : W2.cell? ⟨wr.heap.size, 1, none⟩ = some (.int .i64 x) := by rw [← hW2]; simp [go_sem]
          have hB12 : Below W1.heap.size W1 W2 := hbw.trans (hb2.mono hbw.size)
          obtain ⟨k0, k1⟩ := HN.out W2 hB12
          obtain ⟨B9, hB9⟩ : ∃ B9, wr.heap.size = B9 := ⟨_, rfl⟩
          rw [hB9] at m0 m1 hs2
          have hB9n : ¬ bq = B9 := by omega
          have he4 := HE4.out.1
          have HSub : Hid (∀ W, Below W2.heap.size W2 W → (∀ i, i < 4 → W.cell? ⟨be, oe + i, none⟩ = some (.int .i64 (e.getD i 0)) ∧ W.cell? ⟨bf, of + i, none⟩ = some (.int .i64 (f.getD i 0))) ∧ W.cell? ⟨B7, 0, none⟩ = some (.slice (some ⟨be, oe, none⟩) 4 ci) ∧ W.cell? ⟨B7, 1, none⟩ = some (.int .i64 y) ∧ W.cell? ⟨B9, 0, none⟩ = some (.slice (some ⟨bf, of, none⟩) 4 cj) ∧ W.cell? ⟨B9, 1, none⟩ = some (.int .i64 x)) := fun W hW => by
            have hBW := hB12.trans (hW.mono hB12.size)
            obtain ⟨t0, t1⟩ := HN.out W hBW
            refine ⟨fun i hi' => ⟨HCE.out W i hBW hi', ?_⟩, t0, t1, (hW.cell (p := ⟨B9, 0, none⟩) (by show B9 < _; omega)).trans m0, (hW.cell (p := ⟨B9, 1, none⟩) (by show B9 < _; omega)).trans m1⟩
            exact ((hb2.trans (hW.mono hb2.size)).cell (p := ⟨bf, of + i, none⟩) hbfl).trans (hcf i hi')
          have HPut : Hid (∀ W vp, Below W2.heap.size W2 W → W.ownsRow W2.heap.size 3 1 vp 4 (vals (addE e f)) → Calls Tryz.prog 127 #[u5, vp, .int .i64 (wrap64 (y * x))] W fun r w' => ∃ v', r = .returned v' ∧ SpecB w.heap.size w' v' (putP o2 (addE e f) (wrap64 (y * x))) ∧ Below W.heap.size W w') := fun W vp hW hown => by
            obtain ⟨av, cv, rfl, hsv⟩ := Sl.vals hown
            have hcap : 4 ≤ cv := by
              rcases hown.2 with ⟨_, h'⟩ | ⟨g, cap, cur, h', _, _, h5, _⟩
              · omega
              · simp only [Value.slice.injEq, true_and] at h'; omega
            exact put_specB w.heap.size W (Nat.le_trans hbr.size (Nat.le_trans hb2.size hW.size)) u5 o2 ((hv.1.keep hb2).keep hW) (by omega) hs av cv (addE e f) (by rw [addE_len (by omega)]; exact he4) hcap hsv _
          obtain ⟨f1, f2, -⟩ := putP_ok (k := 4) (e := addE e f) (n := wrap64 (y * x)) (by rw [addE_len (by omega)]; exact he4) (wrap_in _) hs.1 (fun x hx => ⟨(hs.2 x hx).1, (hs.2 x hx).2.1⟩)
          have hl2 := putP_le o2 (addE e f) (wrap64 (y * x))
          have HF : Hid (∀ W w2 v2, Below W2.heap.size W2 W → SpecB w.heap.size w2 v2 (putP o2 (addE e f) (wrap64 (y * x))) → Below W.heap.size W w2 → MulM w W1 w2 v2 (putP o2 (addE e f) (wrap64 (y * x))) ((mulL (e, y) q).drop (j + 1)) (p.drop (k + 1)) q (mulP p q)) := fun W w2 v2 hW s2 b2 => by
            have hWw := hW.trans (b2.mono hW.size)
            have h2w := hb2.trans (hWw.mono hb2.size)
            exact ⟨s2, ⟨f1, f2⟩, by rw [← hst]; exact he, hbr.trans (h2w.mono hbr.size), hbw.trans (h2w.mono hbw.size)⟩
          generalize putP o2 (addE e f) (wrap64 (y * x)) = o3 at HPut HF hl2
          have HTk : Hid (∀ t, t < 4 → (addE e f).take (t + 1) = (addE e f).take t ++ [e.getD t 0 + f.getD t 0]) := fun t ht => addE_take e f t (by omega) (by omega)
          have HTl : Hid ((addE e f).length = 4 ∧ (addE e f).take 4 = addE e f) := by
            have : (addE e f).length = 4 := by rw [addE_len (by omega)]; exact he4
            exact ⟨this, List.take_of_length_le (by omega)⟩
          have HGr := (show Hid _ from hrg)
          have hij : (j : Int) < lb := by omega
          clear hv hs he hbr hbw HRm hcq hSj hmq hml hst hm2 hb2 hcf hbfl f1 f2 hB12 hrg
          go_wp2_with fail
          (try rw [hW2])
          (try rw [hB9])
          clear hW2 d1 d2
          go_loopw [10, 27] (fun v i wi => ∃ (t : Nat), t ≤ 4 ∧ i = .int .i64 (t : Int) ∧ Hid (PowR W2 wi v ((addE e f).take t))) (fun _ i _ => 4 - (intOf i).toNat)
          case atStart => exact ⟨0, by omega, rfl, World.ownsRow_nil _ _ _ _, Below.refl _ _⟩
          case round =>
            obtain ⟨t, ht, rfl, HRi⟩ := hrel
            clear k0 k1 m0 m1
            obtain ⟨hown, hbi⟩ := HRi.out
            obtain ⟨hcs, q0, q1, q2, q3⟩ := HSub.out wr hbi
            by_cases hlt3 : t < 4
            · obtain ⟨r0, r1⟩ := hcs t hlt3
              obtain ⟨g0, g9⟩ := HGr.out t
              have htk := HTk.out t hlt3
              have htl : ((addE e f).take t).length = t := by rw [List.length_take, HTl.out.1]; omega
              rw [htl] at hown
              have it : (t : Int) < 4 := by omega
              obtain ⟨L, hL⟩ : ∃ L, (addE e f).take t = L := ⟨_, rfl⟩
              rw [hL] at htk hown
              obtain ⟨X, hX⟩ : ∃ X, e.getD t 0 + f.getD t 0 = X := ⟨_, rfl⟩
              generalize e.getD t 0 = x1 at r0 hX htk g0 g9
              generalize f.getD t 0 = x2 at r1 hX htk g0 g9
              rw [hX] at htk g0 g9
              have hD : Below wr.heap.size wr wr.drew := Go.below_drewN (Below.refl _ _) 1
              have hsi := hbi.size
              have hwX : IntKind.i64.wrap X = X := wrap_small (by omega) (by omega)
              have HFin : Hid (∀ C v6 w6, w6.ownsRow W2.heap.size 3 1 v6 (t + 1) (vals L ++ [.int .i64 X]) → (wr.drew.alloc C).grownBy w6 u10.ownBlock → PowR W2 w6 v6 ((addE e f).take (t + 1))) := fun C v6 w6 h1 h2 => by
                rw [htk]
                have hLl : L.length = t := by rw [← hL]; exact htl
                refine ⟨?_, ?_⟩
                · rw [List.length_append, hLl]
                  have e2 : vals (L ++ [X]) = vals L ++ [.int .i64 X] := by simp [vals]
                  rw [e2]; exact h1
                · exact (hbi.trans ((hD.alloc hD.size C).mono hbi.size)).grown h2 (Nat.le_trans hsi (hD.alloc hD.size C).size) (own_ge hown)
              clear HSub HPut HF HN HCE HTk HGr HRi hcs q1 q3 htk hL htl
              go_wp2_with fail
              go_region_law (first
                | (refine step_append rfl _ _ 62 rfl W2.heap.size 3 i0 (.int .i64 0) 1 8 Tryz.underlying62 hi hz0 hz1 hz2 rfl (by decide) u10 _ _ rfl ((ownQ_keep hown hD).alloc _) ⟨wr.heap.size, 0, none⟩ 1 1 [.int .i64 X] rfl (by simp) (one_newI _ _ _) (fun u hu => by rw [List.mem_singleton.1 hu]; rfl) (by unfold maxLen; omega) (by omega) (by simp [World.drew]; omega) ?_; intro v6 w6 hown6 hg6 hat6))
              all_goals
                have H6 := (show Hid _ from HFin.out _ v6 w6 hown6 hg6)
                clear hown6 hg6 hat6 HFin r0 r1 q0 q2 hD hX hwX
                go_wp2
                go_roundw
                case rel => exact ⟨t + 1, by omega, by go_num, H6⟩
                case measure => simp [intOf]; omega
            · obtain rfl : t = 4 := by omega
              obtain ⟨l4', t4⟩ := HTl.out
              rw [t4, l4'] at hown
              have HPt : Hid (∀ W, Below wr.heap.size wr W → Calls Tryz.prog 127 #[u5, u10, .int .i64 (wrap64 (y * x))] W fun r w' => ∃ v', r = .returned v' ∧ SpecB w.heap.size w' v' o3 ∧ Below W.heap.size W w') := fun W hW => HPut.out W u10 (hbi.trans (hW.mono hbi.size)) (ownQ_keep hown hW)
              have HF2 : Hid (∀ W w2 v2, Below wr.heap.size wr W → SpecB w.heap.size w2 v2 o3 → Below W.heap.size W w2 → MulM w W1 w2 v2 o3 ((mulL (e, y) q).drop (j + 1)) (p.drop (k + 1)) q (mulP p q)) := fun W w2 v2 hW s2 b2 => HF.out W w2 v2 (hbi.trans (hW.mono hbi.size)) s2 b2
              have hD : Below wr.heap.size wr wr.drew := Go.below_drewN (Below.refl _ _) 1
              clear HPut HF HRi HSub HTk HTl HGr hcs hown hbi t4 l4'
              go_wp2_with fail
              refine Calls.mono (HPt.out _ (Below.refl _ _)) ?_
              rintro r w2 ⟨v2, rfl, s2, b2⟩
              have HR2 := (show Hid _ from HF2.out _ w2 v2 (Below.refl _ _) s2 b2)
              clear s2 b2 HF2 HPt q0 q1 q2 q3
              go_wp2
              go_roundw
              case rel => exact ⟨j + 1, o3, by omega, by go_num, by omega, HR2⟩
              case measure => simp [intOf]; omega
        · obtain rfl : j = lb := by omega
          have he' : (mulL (e, y) q).drop j = [] := List.drop_of_length_le (by simp [mulL]; omega)
          rw [he'] at he
          have HE : Hid (MulR w wr u5 o2 (p.drop (k + 1)) q (mulP p q)) := ⟨hv, hs, he, hbr⟩
          have hk2 : o2.length ≤ (k + 1) * 40 := by omega
          clear HRm hv hs he he' hbr hbw
          go_wp2_with fail
          go_roundw
          case rel => exact ⟨k + 1, o2, by omega, by go_num, hk2, HE⟩
          case measure => simp [intOf]; omega
    · obtain rfl : k = la := by omega
      rw [List.drop_of_length_le (by omega)] at he
      have HE : Hid (SpecB w.heap.size wr u5 (mulP p q) ∧ Below w.heap.size w wr) := by
        have he' : o = mulP p q := he
        rw [← he']; exact ⟨hv, hbr⟩
      clear HR hv hs he hbr
      go_wp2
      go_ret
      exact ⟨_, rfl, HE.out⟩
theorem l4Mul_any (a : Option Addr) (la ca : Nat) (p : List Mon) (b : Option Addr) (lb cb : Nat) (q : List Mon) (w : World) (ha : PSl w a la p) (hb : PSl w b lb q) (hla : la ≤ 40) (hlb : lb ≤ 40) (hp : ∀ m ∈ p, m.1.length = 4 ∧ InI m.2) (hq : ∀ m ∈ q, m.1.length = 4 ∧ InI m.2) (hr : ∀ x ∈ p, ∀ y ∈ q, ∀ j, 0 ≤ x.1.getD j 0 + y.1.getD j 0 ∧ x.1.getD j 0 + y.1.getD j 0 ≤ 1000) :
    Calls Tryz.prog 128 #[.slice a la ca, .slice b lb cb] w fun r w' => ∃ v, r = .returned v ∧ SpecV w' v (mulP p q) ∧ Below w.heap.size w w' :=
  (l4Mul_own a la ca p b lb cb q w ha hb hla hlb hp hq hr).mono fun r w' ⟨v, h1, h2, h3⟩ => ⟨v, h1, h2.1, h3⟩
theorem pow_of {p : List Mon} (h : polyB p = true) : ∀ m ∈ p, powB m.1 = true := fun m hm => by
  have : ∀ (prev : Option (List Int)) (q : List Mon), gpF prev q = true → ∀ x ∈ q, powB x.1 = true := by
    intro prev q
    induction q generalizing prev with
    | nil => intro _ x hx; cases hx
    | cons m r ih =>
      intro hq x hx
      rw [gpF, Bool.and_eq_true] at hq
      rcases List.mem_cons.1 hx with rfl | hx
      · have h1 := hq.1; unfold fitM at h1; rw [Bool.and_eq_true, Bool.and_eq_true] at h1; exact h1.1.1
      · exact ih _ hq.2 x hx
  unfold polyB at h
  rw [Bool.and_eq_true] at h
  exact this _ p h.1 m hm
theorem pow_nine {e : List Int} (h : powB e = true) (j : Nat) : 0 ≤ e.getD j 0 ∧ e.getD j 0 ≤ 9 := by
  unfold powB allB at h
  rw [Bool.and_eq_true, List.all_eq_true] at h
  rw [List.getD_eq_getElem?_getD]
  cases hj : e[j]? with
  | none => simp
  | some x =>
    have := h.2 x (List.mem_of_getElem? hj)
    rw [Bool.and_eq_true] at this
    have t1 := of_decide_eq_true this.1
    have t2 := of_decide_eq_true this.2
    simp only [Option.getD_some]
    omega
theorem nine_of {p q : List Mon} (h1 : polyB p = true) (h2 : polyB q = true) : ∀ x ∈ p, ∀ y ∈ q, ∀ j, 0 ≤ x.1.getD j 0 + y.1.getD j 0 ∧ x.1.getD j 0 + y.1.getD j 0 ≤ 1000 := fun x hx y hy j => by
  have a1 := pow_nine (pow_of h1 x hx) j
  have a2 := pow_nine (pow_of h2 y hy) j
  omega
def mulOk (p q : List Mon) : Bool := polyB p && polyB q && polyB (mulP p q)
def mulR (p q : List Mon) : List Mon := if mulOk p q = true then mulP p q else []
end Go.Proofs.YtkadanagmahhgaaGreatDoor
namespace Go.Proofs.YtkadanagmahhgaaGreatDoor
open Go.RowKit
set_option linter.unusedVariables false

def zero4 : List Int := [0, 0, 0, 0]
def unit4 (v : Nat) : List Int := zero4.set v 1
/-- A number, a variable as sums. -/
def numP (n : Int) : List Mon := putP [] zero4 n
def varP (v : Nat) : List Mon := putP [] (unit4 v) 1
theorem numP_is (n : Int) : numP n = if n = 0 then [] else [(zero4, n)] := by
  unfold numP putP putO
  by_cases h : n = 0 <;> simp [h]
theorem varP_is (v : Nat) : varP v = [(unit4 v, 1)] := by
  unfold varP putP putO
  simp
theorem addE_zero (e : List Int) (h : e.length = 4) : addE e zero4 = e := by
  match e, h with
  | [a, b, c, d], _ => simp [addE, zero4]
/-- What a sum times a number has at some powers. -/
theorem mulC_num (n : Int) (e : List Int) : ∀ p : List Mon, (∀ m ∈ p, m.1.length = 4) → Like (mulC p (numP n) e) (n * coef p e)
  | [], _ => by show Like 0 (n * 0); rw [Int.mul_zero]; exact Like.refl _
  | a :: r, h => by
    rw [mulC_cons, coef_cons, Int.mul_add]
    refine Like.add ?_ (mulC_num n e r fun m hm => h m (List.mem_cons_of_mem _ hm))
    have ha := h a (List.mem_cons_self ..)
    rw [numP_is]
    by_cases hn : n = 0
    · rw [if_pos hn, hn, Int.zero_mul]
      show Like 0 0
      exact Like.refl _
    · rw [if_neg hn]
      show Like (coef [(addE a.1 zero4, wrap64 (a.2 * n))] e) _
      rw [addE_zero _ ha, coef_cons, coef_nil, Int.add_zero]
      by_cases he : a.1 = e
      · rw [if_pos he, if_pos he, Int.mul_comm n]
        exact like_wrap _
      · rw [if_neg he, if_neg he, Int.mul_zero]
        exact Like.refl _
theorem num_fine (n : Int) (hn : InI n) : ∀ m ∈ numP n, m.1.length = 4 ∧ InI m.2 := fun m hm => by
  rw [numP_is] at hm
  by_cases h : n = 0
  · rw [if_pos h] at hm; cases hm
  · rw [if_neg h] at hm
    rcases List.mem_singleton.1 hm with rfl
    exact ⟨rfl, hn⟩
theorem times_same {s p : List Mon} {n : Int} (hs : Sum4 s) (hp : ∀ m ∈ p, m.1.length = 4) (hn : InI n) (h : ∀ e, Like (coef s e) (n * coef p e)) : s = mulP p (numP n) := by
  obtain ⟨a1, -, a3⟩ := mulP_ok hp (fun m hm => (num_fine n hn m hm).1)
  exact sum_unique hs a1 fun e => (h e).trans ((a3 e).trans (mulC_num n e p hp)).symm
theorem sub_same {s p q : List Mon} (hs : Sum4 s) (hp : ∀ m ∈ p, m.1.length = 4 ∧ InI m.2) (hq : ∀ m ∈ q, m.1.length = 4) (h : ∀ e, Like (coef s e) (coef p e + -1 * coef q e)) : s = addP p (mulP q (numP (-1))) := by
  have hn : InI (-1) := by unfold InI; omega
  obtain ⟨b1, -, b3⟩ := mulP_ok hq (fun m hm => (num_fine (-1) hn m hm).1)
  obtain ⟨a1, -, a3⟩ := addP_ok hp (fun m hm => ⟨(b1.2 m hm).1, (b1.2 m hm).2.1⟩)
  exact sum_unique hs a1 fun e => (h e).trans ((a3 e).trans ((Like.refl _).add ((b3 e).trans (mulC_num (-1) e q hq)))).symm
/-- What a shift multiplies by. -/
def shlN (n : Int) : Int := wrap64 (2 ^ (n % 64).toNat)
def okP (s : List Mon) : Option (List Mon) := if polyB s = true then some s else none
def twoP (op : Int) (p q : List Mon) : List Mon := if op = 4 then addP p q else if op = 5 then addP p (mulP q (numP (-1))) else mulP p q
/-- The sum of the tree of node k (with so much fuel); none: it is too great. -/
def ofF (l : List (Int × Int)) : Nat → Nat → Option (List Mon)
  | 0, _ => none
  | f + 1, k =>
    if (l.getD k (0, 0)).1 = 1 then some (numP (l.getD k (0, 0)).2)
    else if (l.getD k (0, 0)).1 = 2 then some (varP (l.getD k (0, 0)).2.toNat)
    else match ofF l f ((roots l (ar (l.getD k (0, 0)).1).toNat k).getD 0 0) with
      | none => none
      | some p =>
        if (l.getD k (0, 0)).1 = 3 then okP (mulP p (numP (-1)))
        else if (l.getD k (0, 0)).1 = 7 then okP (mulP p (numP (shlN (l.getD (k - 1) (0, 0)).2)))
        else match ofF l f ((roots l (ar (l.getD k (0, 0)).1).toNat k).getD 1 0) with
          | none => none
          | some q => okP (twoP (l.getD k (0, 0)).1 p q)
theorem okP_some {s p : List Mon} (h : okP s = some p) : p = s ∧ polyB s = true := by
  unfold okP at h
  by_cases h0 : polyB s = true
  · rw [if_pos h0] at h; exact ⟨(Option.some.inj h).symm, h0⟩
  · rw [if_neg h0] at h; cases h
theorem num_good (n : Int) : polyB (numP n) = true := by
  rw [numP_is]
  by_cases h : n = 0
  · rw [if_pos h]; rfl
  · rw [if_neg h]
    simp [polyB, gpF, fitM, powB, allB, zero4, h]
theorem var_good (v : Nat) (hv : v < 4) : polyB (varP v) = true := by
  rw [varP_is]
  match v, hv with
  | 0, _ => decide
  | 1, _ => decide
  | 2, _ => decide
  | 3, _ => decide
end Go.Proofs.YtkadanagmahhgaaGreatDoor
namespace Go.Proofs.YtkadanagmahhgaaGreatDoor
open Go.RowKit
set_option linter.unusedVariables false

/-- A sum that is good. -/
def GoodS (p : List Mon) : Prop := polyB p = true ∧ ∀ x ∈ p, InI x.2
theorem GoodS.fine {p : List Mon} (h : GoodS p) : ∀ m ∈ p, m.1.length = 4 ∧ InI m.2 := fine_of h.1 h.2
theorem GoodS.len {p : List Mon} (h : GoodS p) : ∀ m ∈ p, m.1.length = 4 := fun m hm => (h.fine m hm).1
theorem num_GoodS {n : Int} (h : InI n) : GoodS (numP n) := ⟨num_good n, fun x hx => (num_fine n h x hx).2⟩
theorem var_GoodS {v : Nat} (h : v < 4) : GoodS (varP v) := ⟨var_good v h, fun x hx => by
  rw [varP_is] at hx
  rcases List.mem_singleton.1 hx with rfl
  show InI 1
  unfold InI; omega⟩
theorem times_GoodS {p s : List Mon} {n : Int} (hp : GoodS p) (hn : InI n) (h : okP (mulP p (numP n)) = some s) : GoodS s := by
  obtain ⟨rfl, h1⟩ := okP_some h
  exact ⟨h1, fun x hx => ((mulP_ok hp.len (fun m hm => (num_fine n hn m hm).1)).1.2 x hx).2.1⟩
theorem two_GoodS {op : Int} {p q s : List Mon} (hp : GoodS p) (hq : GoodS q) (h : okP (twoP op p q) = some s) : GoodS s := by
  obtain ⟨rfl, h1⟩ := okP_some h
  refine ⟨h1, ?_⟩
  have hn : InI (-1) := by unfold InI; omega
  unfold twoP
  by_cases h4 : op = 4
  · rw [if_pos h4]
    exact fun x hx => ((addP_ok hp.fine hq.fine).1.2 x hx).2.1
  · rw [if_neg h4]
    by_cases h5 : op = 5
    · rw [if_pos h5]
      have hm := (mulP_ok hq.len (fun m hm => (num_fine (-1) hn m hm).1)).1
      exact fun x hx => ((addP_ok hp.fine (fun m hm' => ⟨(hm.2 m hm').1, (hm.2 m hm').2.1⟩)).1.2 x hx).2.1
    · rw [if_neg h5]
      exact fun x hx => ((mulP_ok hp.len hq.len).1.2 x hx).2.1
theorem ofF_good {l : List (Int × Int)} (hn : ∀ k, (l.getD k (0, 0)).1 = 1 → InI (l.getD k (0, 0)).2) (hv : ∀ k, (l.getD k (0, 0)).1 = 2 → (l.getD k (0, 0)).2.toNat < 4) : ∀ (f k : Nat) (p : List Mon), ofF l f k = some p → GoodS p
  | 0, _, _, h => by cases h
  | f + 1, k, p, h => by
    have ih := fun k p => ofF_good hn hv f k p
    unfold ofF at h
    by_cases h1 : (l.getD k (0, 0)).1 = 1
    · rw [if_pos h1] at h
      cases h
      exact num_GoodS (hn k h1)
    · rw [if_neg h1] at h
      by_cases h2 : (l.getD k (0, 0)).1 = 2
      · rw [if_pos h2] at h
        cases h
        exact var_GoodS (hv k h2)
      · rw [if_neg h2] at h
        cases h0 : ofF l f ((roots l (ar (l.getD k (0, 0)).1).toNat k).getD 0 0) with
        | none => rw [h0] at h; cases h
        | some p0 =>
          rw [h0] at h
          have g0 := ih _ _ h0
          simp only at h
          by_cases h3 : (l.getD k (0, 0)).1 = 3
          · rw [if_pos h3] at h
            exact times_GoodS g0 (by unfold InI; omega) h
          · rw [if_neg h3] at h
            by_cases h7 : (l.getD k (0, 0)).1 = 7
            · rw [if_pos h7] at h
              exact times_GoodS g0 (wrap_in _) h
            · rw [if_neg h7] at h
              cases h9 : ofF l f ((roots l (ar (l.getD k (0, 0)).1).toNat k).getD 1 0) with
              | none => rw [h9] at h; cases h
              | some q0 =>
                rw [h9] at h
                exact two_GoodS g0 (ih _ _ h9) h
end Go.Proofs.YtkadanagmahhgaaGreatDoor
namespace Go.Proofs.YtkadanagmahhgaaGreatDoor
open Go.ChangeShapes Go.WideShapes Go.ChangeAt Go.RowKit
set_option linter.unusedVariables false

/-- How the model answers with the sum of a node, or with none. -/
def SOf (W : World) (o : Option (List Mon)) (r : Ending) (w' : World) : Prop := ∃ v, r = .returned (.tuple #[v, .bool o.isSome]) ∧ (∀ s, o = some s → SpecB W.heap.size w' v s) ∧ Below W.heap.size W w'
theorem sl_zero (W : World) (t : TypeId) : Sl (W.alloc (.cells #[.int .i64 0, .int .i64 0, .int .i64 0, .int .i64 0] t)) (some ⟨W.heap.size, 0, none⟩) 4 zero4 := by
  refine ⟨rfl, .inr ⟨W.heap.size, 0, rfl, by simp, fun i hi => ?_⟩⟩
  match i, hi with
  | 0, _ => simp [go_sem, zero4]
  | 1, _ => simp [go_sem, zero4]
  | 2, _ => simp [go_sem, zero4]
  | 3, _ => simp [go_sem, zero4]
theorem mk4 (w : World) : (Instr.makeSlice 62 (.int .i64 4) (.int .i64 4)).run Tryz.prog w = .ok (.slice (some ⟨w.heap.size, 0, none⟩) 4 4) (w.alloc (.cells #[.int .i64 0, .int .i64 0, .int .i64 0, .int .i64 0] 3)) := by kernel_rfl
set_option maxHeartbeats 1600000 in
set_option maxRecDepth 20000 in
theorem sOfNum (b off len cap k : Nat) (n : Int) (W : World) (hk : k < len) (hl : len ≤ 40) (c1 : W.cell? ⟨b, off + k * 2, none⟩ = some (.int .i64 1)) (c2 : W.cell? ⟨b, off + k * 2 + 1, none⟩ = some (.int .i64 n)) :
    Calls Tryz.prog 99 #[.slice (some ⟨b, off, none⟩) len cap, .int .i64 (k : Int)] W fun r w' => SOf W (some (numP n)) r w' := by
  have hbl : b < W.heap.size := World.block_lt_of_cell? W _ c1
  have hik : (k : Int) < len := by omega
  have hbne : ¬ b = W.heap.size := by omega
  have hb2 : Below W.heap.size W ((W.alloc (.cells #[.int .i64 1, .int .i64 n] 66)).alloc (.cells #[.int .i64 0, .int .i64 0, .int .i64 0, .int .i64 0] 3)) := ((Below.refl _ _).alloc (Nat.le_refl _) _).alloc (by simp) _
  have HP := (show Hid _ from put_specB W.heap.size ((W.alloc (.cells #[.int .i64 1, .int .i64 n] 66)).alloc (.cells #[.int .i64 0, .int .i64 0, .int .i64 0, .int .i64 0] 3)) hb2.size (.slice none 0 0) [] (SpecV.nil _) (by simp) sum4_nil _ 4 zero4 rfl (Nat.le_refl _) (sl_zero _ _) n)
  rw [show (W.alloc (.cells #[.int .i64 1, .int .i64 n] 66)).heap.size = W.heap.size + 1 from by simp] at HP
  have HB := (show Hid _ from hb2)
  have hmk := mk4
  clear hb2
  go_enter Tryz.func99, Tryz.ntmps99
  go_wp2_with fail
  refine Calls.mono HP.out ?_
  rintro r w3 ⟨v3, rfl, s3, hb3⟩
  clear HP
  go_wp2
  go_ret2
  exact ⟨_, rfl, fun s hs => by cases hs; exact s3, HB.out.trans (hb3.mono HB.out.size)⟩
theorem sl_unit0 (W : World) (t : TypeId) : Sl (W.alloc (.cells #[.int .i64 1, .int .i64 0, .int .i64 0, .int .i64 0] t)) (some ⟨W.heap.size, 0, none⟩) 4 (unit4 0) := by
  refine ⟨rfl, .inr ⟨W.heap.size, 0, rfl, by simp, fun i hi => ?_⟩⟩
  match i, hi with
  | 0, _ => simp [go_sem, unit4, zero4]
  | 1, _ => simp [go_sem, unit4, zero4]
  | 2, _ => simp [go_sem, unit4, zero4]
  | 3, _ => simp [go_sem, unit4, zero4]
set_option maxHeartbeats 1600000 in
set_option maxRecDepth 20000 in
theorem sOfVar0 (b off len cap k : Nat) (W : World) (hk : k < len) (hl : len ≤ 40) (c1 : W.cell? ⟨b, off + k * 2, none⟩ = some (.int .i64 2)) (c2 : W.cell? ⟨b, off + k * 2 + 1, none⟩ = some (.int .i64 0)) :
    Calls Tryz.prog 99 #[.slice (some ⟨b, off, none⟩) len cap, .int .i64 (k : Int)] W fun r w' => SOf W (some (varP 0)) r w' := by
  have hbl : b < W.heap.size := World.block_lt_of_cell? W _ c1
  have hik : (k : Int) < len := by omega
  have hbne : ¬ b = W.heap.size := by omega
  have hb2 : Below W.heap.size W ((W.alloc (.cells #[.int .i64 2, .int .i64 0] 66)).alloc (.cells #[.int .i64 1, .int .i64 0, .int .i64 0, .int .i64 0] 3)) := ((Below.refl _ _).alloc (Nat.le_refl _) _).alloc (by simp) _
  have HP := (show Hid _ from put_specB W.heap.size ((W.alloc (.cells #[.int .i64 2, .int .i64 0] 66)).alloc (.cells #[.int .i64 1, .int .i64 0, .int .i64 0, .int .i64 0] 3)) hb2.size (.slice none 0 0) [] (SpecV.nil _) (by simp) sum4_nil _ 4 (unit4 0) rfl (Nat.le_refl _) (sl_unit0 _ _) 1)
  rw [show (W.alloc (.cells #[.int .i64 2, .int .i64 0] 66)).heap.size = W.heap.size + 1 from by simp] at HP
  have HB := (show Hid _ from hb2)
  have hmk := mk4
  clear hb2
  go_enter Tryz.func99, Tryz.ntmps99
  go_wp2_with fail
  refine Calls.mono HP.out ?_
  rintro r w3 ⟨v3, rfl, s3, hb3⟩
  clear HP
  go_wp2
  go_ret2
  exact ⟨_, rfl, fun s hs => by cases hs; exact s3, HB.out.trans (hb3.mono HB.out.size)⟩
theorem sl_unit1 (W : World) (t : TypeId) : Sl (W.alloc (.cells #[.int .i64 0, .int .i64 1, .int .i64 0, .int .i64 0] t)) (some ⟨W.heap.size, 0, none⟩) 4 (unit4 1) := by
  refine ⟨rfl, .inr ⟨W.heap.size, 0, rfl, by simp, fun i hi => ?_⟩⟩
  match i, hi with
  | 0, _ => simp [go_sem, unit4, zero4]
  | 1, _ => simp [go_sem, unit4, zero4]
  | 2, _ => simp [go_sem, unit4, zero4]
  | 3, _ => simp [go_sem, unit4, zero4]
set_option maxHeartbeats 1600000 in
set_option maxRecDepth 20000 in
theorem sOfVar1 (b off len cap k : Nat) (W : World) (hk : k < len) (hl : len ≤ 40) (c1 : W.cell? ⟨b, off + k * 2, none⟩ = some (.int .i64 2)) (c2 : W.cell? ⟨b, off + k * 2 + 1, none⟩ = some (.int .i64 1)) :
    Calls Tryz.prog 99 #[.slice (some ⟨b, off, none⟩) len cap, .int .i64 (k : Int)] W fun r w' => SOf W (some (varP 1)) r w' := by
  have hbl : b < W.heap.size := World.block_lt_of_cell? W _ c1
  have hik : (k : Int) < len := by omega
  have hbne : ¬ b = W.heap.size := by omega
  have hb2 : Below W.heap.size W ((W.alloc (.cells #[.int .i64 2, .int .i64 1] 66)).alloc (.cells #[.int .i64 0, .int .i64 1, .int .i64 0, .int .i64 0] 3)) := ((Below.refl _ _).alloc (Nat.le_refl _) _).alloc (by simp) _
  have HP := (show Hid _ from put_specB W.heap.size ((W.alloc (.cells #[.int .i64 2, .int .i64 1] 66)).alloc (.cells #[.int .i64 0, .int .i64 1, .int .i64 0, .int .i64 0] 3)) hb2.size (.slice none 0 0) [] (SpecV.nil _) (by simp) sum4_nil _ 4 (unit4 1) rfl (Nat.le_refl _) (sl_unit1 _ _) 1)
  rw [show (W.alloc (.cells #[.int .i64 2, .int .i64 1] 66)).heap.size = W.heap.size + 1 from by simp] at HP
  have HB := (show Hid _ from hb2)
  have hmk := mk4
  clear hb2
  go_enter Tryz.func99, Tryz.ntmps99
  go_wp2_with fail
  refine Calls.mono HP.out ?_
  rintro r w3 ⟨v3, rfl, s3, hb3⟩
  clear HP
  go_wp2
  go_ret2
  exact ⟨_, rfl, fun s hs => by cases hs; exact s3, HB.out.trans (hb3.mono HB.out.size)⟩
theorem sl_unit2 (W : World) (t : TypeId) : Sl (W.alloc (.cells #[.int .i64 0, .int .i64 0, .int .i64 1, .int .i64 0] t)) (some ⟨W.heap.size, 0, none⟩) 4 (unit4 2) := by
  refine ⟨rfl, .inr ⟨W.heap.size, 0, rfl, by simp, fun i hi => ?_⟩⟩
  match i, hi with
  | 0, _ => simp [go_sem, unit4, zero4]
  | 1, _ => simp [go_sem, unit4, zero4]
  | 2, _ => simp [go_sem, unit4, zero4]
  | 3, _ => simp [go_sem, unit4, zero4]
set_option maxHeartbeats 1600000 in
set_option maxRecDepth 20000 in
theorem sOfVar2 (b off len cap k : Nat) (W : World) (hk : k < len) (hl : len ≤ 40) (c1 : W.cell? ⟨b, off + k * 2, none⟩ = some (.int .i64 2)) (c2 : W.cell? ⟨b, off + k * 2 + 1, none⟩ = some (.int .i64 2)) :
    Calls Tryz.prog 99 #[.slice (some ⟨b, off, none⟩) len cap, .int .i64 (k : Int)] W fun r w' => SOf W (some (varP 2)) r w' := by
  have hbl : b < W.heap.size := World.block_lt_of_cell? W _ c1
  have hik : (k : Int) < len := by omega
  have hbne : ¬ b = W.heap.size := by omega
  have hb2 : Below W.heap.size W ((W.alloc (.cells #[.int .i64 2, .int .i64 2] 66)).alloc (.cells #[.int .i64 0, .int .i64 0, .int .i64 1, .int .i64 0] 3)) := ((Below.refl _ _).alloc (Nat.le_refl _) _).alloc (by simp) _
  have HP := (show Hid _ from put_specB W.heap.size ((W.alloc (.cells #[.int .i64 2, .int .i64 2] 66)).alloc (.cells #[.int .i64 0, .int .i64 0, .int .i64 1, .int .i64 0] 3)) hb2.size (.slice none 0 0) [] (SpecV.nil _) (by simp) sum4_nil _ 4 (unit4 2) rfl (Nat.le_refl _) (sl_unit2 _ _) 1)
  rw [show (W.alloc (.cells #[.int .i64 2, .int .i64 2] 66)).heap.size = W.heap.size + 1 from by simp] at HP
  have HB := (show Hid _ from hb2)
  have hmk := mk4
  clear hb2
  go_enter Tryz.func99, Tryz.ntmps99
  go_wp2_with fail
  refine Calls.mono HP.out ?_
  rintro r w3 ⟨v3, rfl, s3, hb3⟩
  clear HP
  go_wp2
  go_ret2
  exact ⟨_, rfl, fun s hs => by cases hs; exact s3, HB.out.trans (hb3.mono HB.out.size)⟩
theorem sl_unit3 (W : World) (t : TypeId) : Sl (W.alloc (.cells #[.int .i64 0, .int .i64 0, .int .i64 0, .int .i64 1] t)) (some ⟨W.heap.size, 0, none⟩) 4 (unit4 3) := by
  refine ⟨rfl, .inr ⟨W.heap.size, 0, rfl, by simp, fun i hi => ?_⟩⟩
  match i, hi with
  | 0, _ => simp [go_sem, unit4, zero4]
  | 1, _ => simp [go_sem, unit4, zero4]
  | 2, _ => simp [go_sem, unit4, zero4]
  | 3, _ => simp [go_sem, unit4, zero4]
set_option maxHeartbeats 1600000 in
set_option maxRecDepth 20000 in
theorem sOfVar3 (b off len cap k : Nat) (W : World) (hk : k < len) (hl : len ≤ 40) (c1 : W.cell? ⟨b, off + k * 2, none⟩ = some (.int .i64 2)) (c2 : W.cell? ⟨b, off + k * 2 + 1, none⟩ = some (.int .i64 3)) :
    Calls Tryz.prog 99 #[.slice (some ⟨b, off, none⟩) len cap, .int .i64 (k : Int)] W fun r w' => SOf W (some (varP 3)) r w' := by
  have hbl : b < W.heap.size := World.block_lt_of_cell? W _ c1
  have hik : (k : Int) < len := by omega
  have hbne : ¬ b = W.heap.size := by omega
  have hb2 : Below W.heap.size W ((W.alloc (.cells #[.int .i64 2, .int .i64 3] 66)).alloc (.cells #[.int .i64 0, .int .i64 0, .int .i64 0, .int .i64 1] 3)) := ((Below.refl _ _).alloc (Nat.le_refl _) _).alloc (by simp) _
  have HP := (show Hid _ from put_specB W.heap.size ((W.alloc (.cells #[.int .i64 2, .int .i64 3] 66)).alloc (.cells #[.int .i64 0, .int .i64 0, .int .i64 0, .int .i64 1] 3)) hb2.size (.slice none 0 0) [] (SpecV.nil _) (by simp) sum4_nil _ 4 (unit4 3) rfl (Nat.le_refl _) (sl_unit3 _ _) 1)
  rw [show (W.alloc (.cells #[.int .i64 2, .int .i64 3] 66)).heap.size = W.heap.size + 1 from by simp] at HP
  have HB := (show Hid _ from hb2)
  have hmk := mk4
  clear hb2
  go_enter Tryz.func99, Tryz.ntmps99
  go_wp2_with fail
  refine Calls.mono HP.out ?_
  rintro r w3 ⟨v3, rfl, s3, hb3⟩
  clear HP
  go_wp2
  go_ret2
  exact ⟨_, rfl, fun s hs => by cases hs; exact s3, HB.out.trans (hb3.mono HB.out.size)⟩
end Go.Proofs.YtkadanagmahhgaaGreatDoor
