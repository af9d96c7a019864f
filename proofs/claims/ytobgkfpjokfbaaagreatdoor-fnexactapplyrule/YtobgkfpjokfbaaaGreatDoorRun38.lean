/-
  PROVED HERE: what the model's l7Is answers, at every good graph, pattern, class and bind. No other condition. what the model's IsMatch answers, at every graph, list of nodes, class and bind. No other condition. what the model's l1Put makes of every row of numbers and every number. No other condition.
-/
import Derived.Test.YtobgkfpjokfbaaaGreatDoorRun37
import Derived.Test.YtobgkfpjokfbaaaGreatDoorSteps
import Derived.Test.YtobgkfpjokfbaaaGreatDoorRun24
import Derived.Test.YtobgkfpjokfbaaaGreatDoorRun26
import Derived.Test.YtobgkfpjokfbaaaGreatDoorRun2
import Derived.Laws.AppendOwnNone
namespace Go.Proofs.YtobgkfpjokfbaaaGreatDoor
open Go.ChangeShapes Go.WideShapes Go.ChangeAt Go.RowKit
set_option linter.unusedVariables false

theorem dec_one (g : GS) (v c : Int) : decide ((g, [v]) = (g, [c])) = (v == c) := by
  by_cases h : v = c
  · simp [h]
  · simp [h]
set_option maxHeartbeats 6400000 in
set_option maxRecDepth 20000 in
theorem specIs_any {p : List EN} {l : List Int} {t : List (Int × Int)} (hg : GoodG (p, l)) (ht : goodB t = true) (bs : List Int) (hbl : bs.length = 4) (a b ta ba : Option Addr) (lb cap cb tl tc bc : Nat) (h120 : lb ≤ 120) : ∀ k, k < tl → ∀ (c : Int) (w : World), ESl w a lb p → Sl w b lb l → NSl w ta tl t → Sl w ba 4 bs →
    Calls Tryz.prog 45 #[.agg #[.slice a lb cap, .slice b lb cb], .slice ta tl tc, .int .i64 (k : Int), .int .i64 c, .slice ba 4 bc] w fun e w' => e = .returned (.bool (decide (treeA (some bs) t (p, l) k = ((p, l), [c])))) ∧ Below w.heap.size w w' := by
  intro k
  induction k using Nat.strongRecOn with
  | ind k IH =>
  intro hk c w h hl hN hv
  obtain ⟨hp, ht1, ht40⟩ := good_pile ht
  have hll := h.1
  have htl := hN.1
  obtain ⟨tb, tof, rfl, htb, htc⟩ := hN.at (by omega)
  have hkt : k < t.length := by omega
  have htree := @tree_node t 1 hp bs (p, l) hg k hkt
  have htv := tree_var hp bs (p, l) hkt
  have hgv := good_var ht (t.getD k (0, 0)) (by rw [List.getD_eq_getElem?_getD, List.getElem?_eq_getElem hkt]; exact List.getElem_mem _)
  obtain ⟨s1, s2⟩ := cnt_step hp k hkt
  obtain ⟨a1, a2, a3, _⟩ := fits_iff _ _ _ _ s1
  have ch := (chain_of hp hkt).2.2
  have hparts := fun W (hNW : NSl W (some ⟨tb, tof, none⟩) tl t) => parts_any hp (some ⟨tb, tof, none⟩) tl tc W hNW (by omega) k hk
  have c1 := (htc k hk).1
  have c2 := (htc k hk).2
  obtain ⟨x, hx⟩ : ∃ x, t.getD k (0, 0) = x := ⟨_, rfl⟩
  rw [hx] at htree htv hgv a1 a2 ch hparts c1 c2
  obtain ⟨xo, xn⟩ := x
  simp only at htree htv hgv a1 a2 ch hparts c1 c2
  obtain ⟨m, hm⟩ : ∃ m : Nat, (ar xo).toNat = m := ⟨_, rfl⟩
  rw [hm] at htree ch hparts
  have hm3 : m ≤ 3 := by have := (ar_range xo).2; omega
  obtain ⟨W1, hW1⟩ : ∃ W1, (w.alloc (.cells #[.slice a lb cap, .slice b lb cb] 36)).alloc (.cells #[.int .i64 xo, .int .i64 xn] 83) = W1 := ⟨_, rfl⟩
  have hb1 : Below w.heap.size w W1 := by rw [← hW1]; exact ((Below.refl _ _).alloc (Nat.le_refl _) _).alloc (by simp) _
  have hs1 : W1.heap.size = w.heap.size + 2 := by rw [← hW1]; simp
  have n0 : W1.cell? ⟨w.heap.size, 0, none⟩ = some (.slice a lb cap) := by rw [← hW1]; simp [go_sem]
  have n1 : W1.cell? ⟨w.heap.size, 1, none⟩ = some (.slice b lb cb) := by rw [← hW1]; simp [go_sem]
  have x0 : W1.cell? ⟨w.heap.size + 1, 0, none⟩ = some (.int .i64 xo) := by rw [← hW1]; simp [go_sem]
  have x1 : W1.cell? ⟨w.heap.size + 1, 1, none⟩ = some (.int .i64 xn) := by rw [← hW1]; simp [go_sem]
  have hne : ¬ tb = w.heap.size := by omega
  have hkl : (k : Int) < tl := by omega
  have hF : Hid (∀ W, Below W1.heap.size W1 W → Below w.heap.size w W ∧ W.cell? ⟨w.heap.size, 0, none⟩ = some (.slice a lb cap) ∧ W.cell? ⟨w.heap.size, 1, none⟩ = some (.slice b lb cb) ∧ W.cell? ⟨w.heap.size + 1, 0, none⟩ = some (.int .i64 xo) ∧ W.cell? ⟨w.heap.size + 1, 1, none⟩ = some (.int .i64 xn)) := fun W hW => ⟨hb1.trans (hW.mono hb1.size), (hW.cell (p := ⟨w.heap.size, 0, none⟩) (by show w.heap.size < _; omega)).trans n0, (hW.cell (p := ⟨w.heap.size, 1, none⟩) (by show w.heap.size < _; omega)).trans n1, (hW.cell (p := ⟨w.heap.size + 1, 0, none⟩) (by show w.heap.size + 1 < _; omega)).trans x0, (hW.cell (p := ⟨w.heap.size + 1, 1, none⟩) (by show w.heap.size + 1 < _; omega)).trans x1⟩
  by_cases h2 : xo = 2
  · subst h2
    have hfit := hgv rfl
    obtain ⟨n, rfl⟩ : ∃ n : Nat, xn = n := ⟨xn.toNat, by omega⟩
    rw [htv rfl, dec_one, Int.toNat_natCast]
    obtain ⟨vb, vo, rfl, hvb, hvc⟩ : ∃ b off, ba = some ⟨b, off, none⟩ ∧ b < w.heap.size ∧ ∀ i, i < 4 → w.cell? ⟨b, off + i, none⟩ = some (.int .i64 (bs.getD i 0)) := by
      rcases hv.2 with h0 | h0
      · omega
      · exact h0
    have hn4 : n < 4 := by omega
    have q3 := (hb1.cell (p := ⟨vb, vo + n, none⟩) hvb).trans (hvc n hn4)
    have i0 : (0 : Int) ≤ n := by omega
    have i4 : (n : Int) < 4 := by omega
    have hne2 : ¬ vb = w.heap.size := by omega
    have hne3 : ¬ vb = w.heap.size + 1 := by omega
    have q4 := hvc n hn4
    have HB := (show Hid _ from hb1)
    generalize bs.getD n 0 = z at q3 q4 ⊢
    clear h hl hN hv htree htv hgv ch hparts hF IH hvc htc hb1 a1 a2 a3 s1 s2 hfit
    go_enter Tryz.func45, Tryz.ntmps45
    go_wp2
    (try rw [hW1])
    go_ret
    exact ⟨rfl, HB.out⟩
  · have htree := htree h2 c
    have i2 : (xo == 2) = false := by simpa using h2
    obtain ⟨T, hT⟩ : ∃ T : Nat → Int → Bool, T = fun j d => decide (treeA (some bs) t (p, l) ((roots t m k).getD j 0) = ((p, l), [d])) := ⟨_, rfl⟩
    have HTr : Hid (decide (treeA (some bs) t (p, l) k = ((p, l), [c])) = true ↔ ∃ i, i < lb ∧ (p.getD i e0).1 = xo ∧ (p.getD i e0).2.1 = xn ∧ l.getD i 0 = c ∧ ∀ j, j < m → T j ((p.getD i e0).2.2.getD j 0) = true) := by
      show _ ↔ _
      rw [decide_eq_true_iff, htree]
      constructor
      · rintro ⟨i, q1, q2, q3, q4, q5⟩
        exact ⟨i, by rw [← hll]; exact q1, q2, q3, q4, fun j hj => by rw [hT]; exact decide_eq_true (q5 j hj)⟩
      · rintro ⟨i, q1, q2, q3, q4, q5⟩
        exact ⟨i, by rw [hll]; exact q1, q2, q3, q4, fun j hj => by have := q5 j hj; rw [hT] at this; exact of_decide_eq_true this⟩
    have HI : Hid (∀ j, j < m → ∀ d W, Below W1.heap.size W1 W → Calls Tryz.prog 45 #[.agg #[.slice a lb cap, .slice b lb cb], .slice (some ⟨tb, tof, none⟩) tl tc, .int .i64 (((roots t m k).getD j 0 : Nat) : Int), .int .i64 d, .slice ba 4 bc] W fun e w' => e = .returned (.bool (T j d)) ∧ Below W.heap.size W w') := fun j hj d W hW => by
      have hc := ch j hj
      rw [hT]
      exact IH _ hc.2.2 (by omega) d W ((h.keep hb1).keep hW) ((hl.keep hb1).keep hW) ((hN.keep hb1).keep hW) ((hv.keep hb1).keep hW)
    have HP : Hid (∀ W, Below W1.heap.size W1 W → Calls Tryz.prog 70 #[.slice (some ⟨tb, tof, none⟩) tl tc, .int .i64 (k : Int)] W fun e w' => ∃ v : Value, e = .returned v ∧ w'.ownsRow W.heap.size 3 1 v m (ints (roots t m k)) ∧ Below W.heap.size W w') := fun W hW => hparts W ((hN.keep hb1).keep hW)
    have HE : Hid (∀ i, i < lb → ((p.getD i e0).1 = xo → (p.getD i e0).2.2.length = m) ∧ ∀ W, Below W1.heap.size W1 W → ∃ eb eo fb fo, a = some ⟨eb, eo, none⟩ ∧ b = some ⟨fb, fo, none⟩ ∧ fb < W1.heap.size ∧ ∃ ai li ci, W.cell? ⟨eb, eo + i * 3, none⟩ = some (.int .i64 (p.getD i e0).1) ∧ W.cell? ⟨eb, eo + i * 3 + 1, none⟩ = some (.int .i64 (p.getD i e0).2.1) ∧ W.cell? ⟨eb, eo + i * 3 + 2, none⟩ = some (.slice ai li ci) ∧ Sl W ai li (p.getD i e0).2.2 ∧ W.cell? ⟨fb, fo + i, none⟩ = some (.int .i64 (l.getD i 0))) := fun i hi => by
      refine ⟨fun e => ?_, fun W hW => ?_⟩
      · have := (fit_node (hg.1 i (by show i < p.length; omega))).2.1
        have e' : ((p, l) : GS).1.getD i e0 = p.getD i e0 := rfl
        rw [e', e] at this
        have hm' := hm
        rw [← this, Int.toNat_natCast] at hm'
        exact hm'
      · obtain ⟨eb, eo, e1, _, e2⟩ := ((h.keep hb1).keep hW).at (by omega)
        obtain ⟨ai, li, ci, d1, d2, d3, _, _, d4⟩ := e2 i hi
        rcases (hl.keep hb1).2 with h0 | ⟨fb, fo, f1, f2, f3⟩
        · omega
        · exact ⟨eb, eo, fb, fo, e1, f1, f2, ai, li, ci, d1, d2, d3, d4, (hW.cell (p := ⟨fb, fo + i, none⟩) f2).trans (f3 i hi)⟩
    have HS1 : Hid (W1.heap.size = w.heap.size + 2) := hs1
    clear h hl hN hv htree htv hgv ch hparts IH htc hb1 a1 a2 a3 s1 s2 hT hg ht hp hs1
    go_enter Tryz.func45, Tryz.ntmps45
    go_wp2_with fail
    (try rw [hW1])
    go_loopw [34] (fun i wr => ∃ n : Nat, n ≤ lb ∧ i = .int .i64 n ∧ Hid (Below W1.heap.size W1 wr) ∧ Hid (∀ i', i' < n → ¬ ((p.getD i' e0).1 = xo ∧ (p.getD i' e0).2.1 = xn ∧ l.getD i' 0 = c ∧ ∀ j, j < m → T j ((p.getD i' e0).2.2.getD j 0) = true))) (fun i _ => lb - (intOf i).toNat)
    case atStart => exact ⟨0, Nat.zero_le _, rfl, Below.refl _ _, fun i' h => absurd h (Nat.not_lt_zero _)⟩
    case round =>
      obtain ⟨n, hn, rfl, hB, hno⟩ := hrel
      obtain ⟨wo, rfl⟩ : ∃ x, x = wr := ⟨_, rfl⟩
      by_cases hlt : n < lb
      · obtain ⟨hlen, hcs⟩ := HE.out n hlt
        obtain ⟨eb, eo, fb, fo, rfl, rfl, hfb, ai, li, ci, d1, d2, d3, d4, d5⟩ := hcs wo hB.out
        obtain ⟨-, g0, g1, y0, y1⟩ := hF.out wo hB.out
        have hsz := hB.out.size
        have hs1 := HS1.out
        have z0 : ¬ w.heap.size = wo.heap.size := by omega
        have z1 : ¬ w.heap.size + 1 = wo.heap.size := by omega
        have z2 : ¬ fb = wo.heap.size := by omega
        have hnl : (n : Int) < lb := by omega
        have HN1 : Hid (∀ i', i' < n + 1 → i' ≠ n → ¬ ((p.getD i' e0).1 = xo ∧ (p.getD i' e0).2.1 = xn ∧ l.getD i' 0 = c ∧ ∀ j, j < m → T j ((p.getD i' e0).2.2.getD j 0) = true)) := fun i' h1 h2 => hno.out i' (by omega)
        clear hno
        obtain ⟨y, hy⟩ : ∃ y, p.getD n e0 = y := ⟨_, rfl⟩
        obtain ⟨lc, hlc⟩ : ∃ z, l.getD n 0 = z := ⟨_, rfl⟩
        have HY : Hid (p.getD n e0 = y ∧ l.getD n 0 = lc) := ⟨hy, hlc⟩
        rw [hy] at hlen d1 d2 d4
        rw [hlc] at d5
        clear hy hlc hcs
        obtain ⟨yo, yn, ys⟩ := y
        simp only at hlen d1 d2 d4
        have HB1 : Hid (∀ W, Below wo.heap.size wo W → Below W1.heap.size W1 W) := fun W hW => hB.out.trans (hW.mono hB.out.size)
        have hskip : (¬ (yo = xo ∧ yn = xn ∧ lc = c ∧ ∀ j, j < m → T j (ys.getD j 0) = true)) → Hid (∀ i', i' < n + 1 → ¬ ((p.getD i' e0).1 = xo ∧ (p.getD i' e0).2.1 = xn ∧ l.getD i' 0 = c ∧ ∀ j, j < m → T j ((p.getD i' e0).2.2.getD j 0) = true)) := fun hs i' h1 => by
          by_cases hin : i' = n
          · rw [hin, HY.out.1, HY.out.2]; exact hs
          · exact HN1.out i' h1 hin
        have hal : ∀ o, Below wo.heap.size wo (wo.alloc o) := fun o => (Below.refl _ _).alloc (Nat.le_refl _) o
        have HAL := (show Hid _ from hal)
        clear hal
        obtain ⟨W2, hW2⟩ : ∃ W2, wo.alloc (.cells #[.int .i64 yo, .int .i64 yn, .slice ai li ci] 80) = W2 := ⟨_, rfl⟩
        have hb2 : Below wo.heap.size wo W2 := by rw [← hW2]; exact HAL.out _
        have hs2 : wo.heap.size < W2.heap.size := by rw [← hW2]; simp
        have o2 : W2.cell? ⟨wo.heap.size, 2, none⟩ = some (.slice ai li ci) := by rw [← hW2]; simp [go_sem]
        have o0 : W2.cell? ⟨wo.heap.size, 0, none⟩ = some (.int .i64 yo) := by rw [← hW2]; simp [go_sem]
        have o1 : W2.cell? ⟨wo.heap.size, 1, none⟩ = some (.int .i64 yn) := by rw [← hW2]; simp [go_sem]
        have g0 := (hb2.cell (p := ⟨w.heap.size, 0, none⟩) (by show w.heap.size < _; omega)).trans g0
        have g1 := (hb2.cell (p := ⟨w.heap.size, 1, none⟩) (by show w.heap.size < _; omega)).trans g1
        have y0 := (hb2.cell (p := ⟨w.heap.size + 1, 0, none⟩) (by show w.heap.size + 1 < _; omega)).trans y0
        have y1 := (hb2.cell (p := ⟨w.heap.size + 1, 1, none⟩) (by show w.heap.size + 1 < _; omega)).trans y1
        have d5 := (hb2.cell (p := ⟨fb, fo + n, none⟩) (by show fb < _; omega)).trans d5
        by_cases e1 : lc = c
        · by_cases e2 : yo = xo
          · by_cases e3 : yn = xn
            · subst e1 e2 e3
              have hys := hlen rfl
              have hli : li = m := by rw [← hys]; exact d4.1.symm
              subst hli
              have q1 : (lc != lc) = false := by simp
              have q2 : (yo != yo) = false := by simp
              have q3 : (yn != yn) = false := by simp
              have HP2 := (show Hid _ from HP.out W2 (HB1.out W2 hb2))
              have HX : Hid (∀ W, Below W2.heap.size W2 W → Below wo.heap.size wo W ∧ W.cell? ⟨wo.heap.size, 2, none⟩ = some (.slice ai li ci) ∧ Sl W ai li ys) := fun W hW => ⟨hb2.trans (hW.mono hb2.size), (hW.cell (p := ⟨wo.heap.size, 2, none⟩) (by show wo.heap.size < _; omega)).trans o2, (d4.keep hb2).keep hW⟩
              clear d4 hb2 hB
              go_wp2_with fail
              (try rw [hW2])
              refine Calls.mono HP2.out ?_
              rintro e w3 ⟨v, rfl, hv3, hb3⟩
              obtain ⟨pa, pc, rfl, _⟩ := row_slice hv3
              have HV := (show Hid _ from hv3)
              have HB3 := (show Hid _ from hb3)
              clear HP2 hv3 hb3 hW2 d1 d2 d3 d5 g0 g1 y0 y1 o0 o1 o2
              go_wp2_with fail
              go_loopw [14, 64] (fun al i wr => ∃ j : Nat, j ≤ li ∧ i = .int .i64 j ∧ al = .bool (decide (∀ j', j' < j → T j' (ys.getD j' 0) = true)) ∧ Hid (Below w3.heap.size w3 wr)) (fun _ i _ => li - (intOf i).toNat)
              case atStart => exact ⟨0, Nat.zero_le _, rfl, by rw [decide_eq_true (fun j' h => absurd h (Nat.not_lt_zero _))], Below.refl _ _⟩
              case round =>
                obtain ⟨j, hj, rfl, rfl, hBi⟩ := hrel
                obtain ⟨wi, rfl⟩ : ∃ x, x = wr := ⟨_, rfl⟩
                have hBw : Below W2.heap.size W2 wi := HB3.out.trans (hBi.out.mono HB3.out.size)
                by_cases hjl : j < li
                · obtain ⟨gp, cp, e, hgl, hcp⟩ := own_row HV.out (by omega)
                  cases e
                  have cj : wi.cell? ⟨gp, j, none⟩ = some (.int .i64 (((roots t li k).getD j 0 : Nat) : Int)) := (hBi.out.cell (p := ⟨gp, j, none⟩) hgl).trans (hcp j hjl)
                  have hjm : (j : Int) < li := by omega
                  have HNX : Hid (∀ r : Bool, T j (ys.getD j 0) = r → decide (∀ j', j' < j → T j' (ys.getD j' 0) = true) = true → decide (∀ j', j' < j + 1 → T j' (ys.getD j' 0) = true) = r) := fun r hr ha => by
                    have ha := of_decide_eq_true ha
                    cases r with
                    | true =>
                      refine decide_eq_true (fun j' hj' => ?_)
                      by_cases e : j' = j
                      · rw [e]; exact hr
                      · exact ha j' (by omega)
                    | false =>
                      refine decide_eq_false (fun hc => ?_)
                      have := hc j (by omega)
                      rw [hr] at this; cases this
                  have HNF : Hid (decide (∀ j', j' < j → T j' (ys.getD j' 0) = true) = false → decide (∀ j', j' < j + 1 → T j' (ys.getD j' 0) = true) = false) := fun ha => decide_eq_false (fun hc => of_decide_eq_false ha (fun j' hj' => hc j' (by omega)))
                  have hBd : Below W2.heap.size W2 wi.drew := hBw.drew
                  obtain ⟨hwd, p2, pS⟩ := HX.out _ hBd
                  obtain ⟨-, g0, g1, -, -⟩ := hF.out _ (HB1.out _ hwd)
                  have HCI := (show Hid _ from HI.out j hjl (ys.getD j 0) _ (HB1.out _ hwd))
                  obtain ⟨kb, ko, rfl, kc⟩ := cells_of pS (by omega)
                  have kj := kc j hjl
                  have HBD : Hid (Below w3.heap.size w3 wi.drew) := hBi.out.drew
                  have HB0 : Hid (Below w3.heap.size w3 wi) := hBi.out
                  obtain ⟨r, hr⟩ : ∃ r, T j (ys.getD j 0) = r := ⟨_, rfl⟩
                  have HR := (show Hid _ from hr)
                  rw [hr] at HCI
                  obtain ⟨d, hd⟩ : ∃ d, ys.getD j 0 = d := ⟨_, rfl⟩
                  rw [hd] at HCI kj
                  obtain ⟨rt, hrt⟩ : ∃ rt, (roots t li k).getD j 0 = rt := ⟨_, rfl⟩
                  rw [hrt] at HCI cj
                  clear hBw hBd hwd pS kc hcp hBi hr hd hrt
                  cases hA : decide (∀ j', j' < j → T j' (ys.getD j' 0) = true) with
                  | true =>
                    have HA := (show Hid _ from HNX.out r HR.out hA)
                    clear hA HNX HNF
                    go_wp2_with fail
                    go_region_with (first
                      | (go_at_call 45; refine Calls.mono HCI.out ?_; rintro e w5 ⟨rfl, hb5⟩; have HB5 := (show Hid _ from HBD.out.trans (hb5.mono HBD.out.size)); clear hb5))
                    all_goals
                      clear HCI HBD p2 g0 g1 kj cj
                      go_wp2
                      go_roundw
                      case rel => exact ⟨j + 1, by omega, by go_num, by rw [HA.out], HB5⟩
                      case measure => simp [intOf]; omega
                  | false =>
                    have HA := (show Hid _ from HNF.out hA)
                    have HBI : Hid (Below w3.heap.size w3 wi.drew) := HBD
                    clear hA HNX HNF HCI HBD
                    go_wp2_with fail
                    go_quiet (fail)
                    go_wp2
                    go_roundw
                    case rel => exact ⟨j + 1, by omega, by go_num, by rw [HA.out], by first | exact below_drewN HB0.out _ | exact HBI⟩
                    case measure => simp [intOf]; omega
                · obtain rfl : j = li := by omega
                  have hBo := (HX.out _ hBw).1
                  have HBo := (show Hid _ from HB1.out _ hBo)
                  have HEnd : Hid (Below w.heap.size w wi) := (hF.out _ HBo.out).1
                  clear hBw hBi hBo
                  cases hA : decide (∀ j', j' < j → T j' (ys.getD j' 0) = true) with
                  | true =>
                    have HV : Hid (decide (treeA (some bs) t (p, l) k = ((p, l), [lc])) = true) := HTr.out.2 ⟨n, hlt, by rw [HY.out.1], by rw [HY.out.1], HY.out.2, by rw [HY.out.1]; exact of_decide_eq_true hA⟩
                    clear hA hskip
                    go_wp2
                    go_ret
                    exact ⟨by rw [HV.out] <;> rfl, HEnd.out⟩
                  | false =>
                    have HSk := hskip (fun hc => of_decide_eq_false hA hc.2.2.2)
                    clear hA hskip
                    go_wp2
                    go_roundw
                    case rel => exact ⟨n + 1, by omega, by go_num, HBo, HSk⟩
                    case measure => simp [intOf]; omega
            · have HSk := hskip (fun hc => e3 hc.2.1)
              subst e1 e2
              have q1 : (lc != lc) = false := by simp
              have q2 : (yo != yo) = false := by simp
              have q3 : (yn != xn) = true := by simpa using e3
              clear hskip d4 hlen
              go_wp2
              go_roundw
              case rel => exact ⟨n + 1, by omega, by go_num, (by first | exact HB1.out _ hb2 | exact HB1.out _ (HAL.out _)), HSk⟩
              case measure => simp [intOf]; omega
          · have HSk := hskip (fun hc => e2 hc.1)
            subst e1
            have q1 : (lc != lc) = false := by simp
            have q2 : (yo != xo) = true := by simpa using e2
            clear hskip d4 hlen
            go_wp2
            go_roundw
            case rel => exact ⟨n + 1, by omega, by go_num, (by first | exact HB1.out _ hb2 | exact HB1.out _ (HAL.out _)), HSk⟩
            case measure => simp [intOf]; omega
        · have HSk := hskip (fun hc => e1 hc.2.2.1)
          have q1 : (lc != c) = true := by simpa using e1
          clear hskip d4 hlen
          go_wp2
          go_roundw
          case rel => exact ⟨n + 1, by omega, by go_num, (by first | exact HB1.out _ hb2 | exact HB1.out _ (HAL.out _)), HSk⟩
          case measure => simp [intOf]; omega
      · obtain rfl : n = lb := by omega
        have HV : Hid (decide (treeA (some bs) t (p, l) k = ((p, l), [c])) = false) := by
          show _ = _
          cases hd : decide (treeA (some bs) t (p, l) k = ((p, l), [c])) with
          | false => rfl
          | true =>
            obtain ⟨i, q1, q2⟩ := HTr.out.1 hd
            exact absurd q2 (hno.out i q1)
        have HEnd : Hid (Below w.heap.size w wo) := (hF.out _ hB.out).1
        clear hno
        go_wp2
        go_ret
        exact ⟨by rw [HV.out] <;> rfl, HEnd.out⟩
end Go.Proofs.YtobgkfpjokfbaaaGreatDoor
namespace Go.Proofs.YtobgkfpjokfbaaaGreatDoor
open Go.ChangeShapes Go.WideShapes Go.ChangeAt Go.RowKit
set_option linter.unusedVariables false

set_option maxHeartbeats 3200000 in
set_option maxRecDepth 20000 in
theorem specIsMatch_any (a b : Option Addr) (len cap lb cb : Nat) (p : List EN) (l : List Int) (ta : Option Addr) (tl tc : Nat) (t : List (Int × Int)) (c : Int) (ba : Option Addr) (bl bc : Nat) (bs : List Int) (w : World) (h : ESl w a len p) (hl : Sl w b lb l) (ht : NSl w ta tl t) (hv : Sl w ba bl bs) (hm : len ≤ 9223372036854775807) (hm2 : lb ≤ 9223372036854775807) (hm3 : tl ≤ 9223372036854775807) (hm4 : bl ≤ 9223372036854775807) :
    Calls Tryz.prog 23 #[.agg #[.slice a len cap, .slice b lb cb], .slice ta tl tc, .int .i64 c, .slice ba bl bc] w fun e w' => e = .returned (.tuple #[.bool (isM p l t c bs), .bool (askB p l t c bs)]) ∧ Below w.heap.size w w' := by
  have hll := h.1
  have hl1 := hl.1
  have htl := ht.1
  have hvl := hv.1
  obtain ⟨W1, hW1⟩ : ∃ W1, w.alloc (.cells #[.slice a len cap, .slice b lb cb] 36) = W1 := ⟨_, rfl⟩
  have hb1 : Below w.heap.size w W1 := by rw [← hW1]; exact (Below.refl _ _).alloc (Nat.le_refl _) _
  have hs1 : w.heap.size < W1.heap.size := by rw [← hW1]; simp
  have n0 : W1.cell? ⟨w.heap.size, 0, none⟩ = some (.slice a len cap) := by rw [← hW1]; simp [go_sem]
  have n1 : W1.cell? ⟨w.heap.size, 1, none⟩ = some (.slice b lb cb) := by rw [← hW1]; simp [go_sem]
  have HG := (show Hid _ from specGraph_any a b len cap lb cb p l W1 (h.keep hb1) (hl.keep hb1) hm hm2)
  have HGt : Hid (∀ W, Below W1.heap.size W1 W → Calls Tryz.prog 41 #[.slice ta tl tc] W fun e w' => e = .returned (.bool (patB t)) ∧ Below W.heap.size W w') := fun W hW => specPat_any ta tl tc t W ((ht.keep hb1).keep hW) hm3
  have HF : Hid (∀ W, Below W1.heap.size W1 W → Below w.heap.size w W ∧ W.cell? ⟨w.heap.size, 0, none⟩ = some (.slice a len cap) ∧ W.cell? ⟨w.heap.size, 1, none⟩ = some (.slice b lb cb)) := fun W hW => ⟨hb1.trans (hW.mono hb1.size), (hW.cell (p := ⟨w.heap.size, 0, none⟩) hs1).trans n0, (hW.cell (p := ⟨w.heap.size, 1, none⟩) hs1).trans n1⟩
  cases hgb : graphB p l with
  | false =>
    have hno : askB p l t c bs = false := by unfold askB; rw [hgb]; rfl
    have hni : isM p l t c bs = false := by unfold isM; rw [hno]; rfl
    rw [hno, hni]
    rw [hgb] at HG
    clear h hl ht hv hb1 HGt hno hni
    go_enter Tryz.func23, Tryz.ntmps23
    go_wp2_with fail
    (try rw [hW1])
    refine Calls.mono HG.out ?_
    rintro e w2 ⟨rfl, hb2⟩
    have HB := (show Hid _ from (HF.out w2 hb2).1)
    clear HG hW1 HF hb2
    go_wp2
    go_ret2
    exact ⟨rfl, HB.out⟩
  | true =>
    rw [hgb] at HG
    cases hgt : patB t with
    | false =>
      have hno : askB p l t c bs = false := by unfold askB; rw [hgb, hgt]; rfl
      have hni : isM p l t c bs = false := by unfold isM; rw [hno]; rfl
      rw [hno, hni]
      rw [hgt] at HGt
      clear h hl ht hv hb1 hno hni
      go_enter Tryz.func23, Tryz.ntmps23
      go_wp2_with fail
      (try rw [hW1])
      refine Calls.mono HG.out ?_
      rintro e w2 ⟨rfl, hb2⟩
      have HT2 := (show Hid _ from HGt.out w2 hb2)
      have HB2 := (show Hid _ from hb2)
      clear HG hW1 HGt hb2
      go_wp2_with fail
      refine Calls.mono HT2.out ?_
      rintro e w3 ⟨rfl, hb3⟩
      have HB := (show Hid _ from (HF.out w3 (HB2.out.trans (hb3.mono HB2.out.size))).1)
      clear HT2 HF hb3
      go_wp2
      go_ret2
      exact ⟨rfl, HB.out⟩
    | true =>
      rw [hgt] at HGt
      obtain ⟨h120, hgood⟩ := (graphB_good p l).1 hgb
      have hgT : goodB t = true := by unfold patB at hgt; simp only [Bool.and_eq_true] at hgt; exact hgt.1
      obtain ⟨hp, ht1, ht40⟩ := good_pile hgT
      have hlp := hgood.2.1
      simp only at hlp
      obtain rfl : lb = len := by omega
      have HK : Hid (∀ W, Below W1.heap.size W1 W → Calls Tryz.prog 43 #[.agg #[.slice a lb cap, .slice b lb cb], .int .i64 c] W fun e w' => e = .returned (.bool (clB l c)) ∧ Below W.heap.size W w') := fun W hW => specClass_any a b lb cap cb l c W ((hl.keep hb1).keep hW) (by omega)
      have HV : Hid (∀ W, Below W1.heap.size W1 W → Calls Tryz.prog 44 #[.agg #[.slice a lb cap, .slice b lb cb], .slice ba bl bc] W fun e w' => e = .returned (.bool (bindB l bs)) ∧ Below W.heap.size W w') := fun W hW => specBind_any a b ba lb cap cb bl bc l bs W ((hl.keep hb1).keep hW) ((hv.keep hb1).keep hW) (by omega) hm4
      cases hkb : clB l c with
      | false =>
        have hno : askB p l t c bs = false := by unfold askB; rw [hgb, hgt, hkb]; rfl
        have hni : isM p l t c bs = false := by unfold isM; rw [hno]; rfl
        rw [hno, hni]
        rw [hkb] at HK
        clear h hl ht hv hb1 hno hni hgood hp hgb hgt hgT hlp hl1 HV
        go_enter Tryz.func23, Tryz.ntmps23
        go_wp2_with fail
        (try rw [hW1])
        refine Calls.mono HG.out ?_
        rintro e w2 ⟨rfl, hb2⟩
        have HT2 := (show Hid _ from HGt.out w2 hb2)
        have HB2 := (show Hid _ from hb2)
        clear HG hW1 HGt hb2
        go_wp2_with fail
        refine Calls.mono HT2.out ?_
        rintro e w3 ⟨rfl, hb3⟩
        have hB3 := HB2.out.trans (hb3.mono HB2.out.size)
        obtain ⟨-, g0, g1⟩ := HF.out w3 hB3
        have HK3 := (show Hid _ from HK.out w3 hB3)
        have HB3' := (show Hid _ from hB3)
        clear HT2 hb3 HB2 HK hB3
        go_wp2_with fail
        refine Calls.mono HK3.out ?_
        rintro e w4 ⟨rfl, hb4⟩
        clear g0 g1
        have HB := (show Hid _ from (HF.out w4 (HB3'.out.trans (hb4.mono HB3'.out.size))).1)
        clear HK3 HF hb4 HB3'
        go_wp2
        go_ret2
        exact ⟨rfl, HB.out⟩
      | true =>
        rw [hkb] at HK
        cases hbb : bindB l bs with
        | false =>
          have hno : askB p l t c bs = false := by unfold askB; rw [hgb, hgt, hkb, hbb]; rfl
          have hni : isM p l t c bs = false := by unfold isM; rw [hno]; rfl
          rw [hno, hni]
          rw [hbb] at HV
          clear h hl ht hv hb1 hno hni hgood hp hgb hgt hgT hlp hl1
          go_enter Tryz.func23, Tryz.ntmps23
          go_wp2_with fail
          (try rw [hW1])
          refine Calls.mono HG.out ?_
          rintro e w2 ⟨rfl, hb2⟩
          have HT2 := (show Hid _ from HGt.out w2 hb2)
          have HB2 := (show Hid _ from hb2)
          clear HG hW1 HGt hb2
          go_wp2_with fail
          refine Calls.mono HT2.out ?_
          rintro e w3 ⟨rfl, hb3⟩
          have hB3 := HB2.out.trans (hb3.mono HB2.out.size)
          obtain ⟨-, g0, g1⟩ := HF.out w3 hB3
          have HK3 := (show Hid _ from HK.out w3 hB3)
          have HB3' := (show Hid _ from hB3)
          clear HT2 hb3 HB2 HK hB3
          go_wp2_with fail
          refine Calls.mono HK3.out ?_
          rintro e w4 ⟨rfl, hb4⟩
          clear g0 g1
          have hB4 := HB3'.out.trans (hb4.mono HB3'.out.size)
          obtain ⟨-, g0, g1⟩ := HF.out w4 hB4
          have HV4 := (show Hid _ from HV.out w4 hB4)
          have HB4 := (show Hid _ from hB4)
          clear HK3 hb4 HB3' HV hB4
          go_wp2_with fail
          refine Calls.mono HV4.out ?_
          rintro e w5 ⟨rfl, hb5⟩
          clear g0 g1
          have HB := (show Hid _ from (HF.out w5 (HB4.out.trans (hb5.mono HB4.out.size))).1)
          clear HV4 HF hb5 HB4
          go_wp2
          go_ret2
          exact ⟨rfl, HB.out⟩
        | true =>
          rw [hbb] at HV
          have hyes : askB p l t c bs = true := by unfold askB; rw [hgb, hgt, hkb, hbb]; rfl
          have hism : isM p l t c bs = decide (treeA (some bs) t (p, l) (tl - 1) = ((p, l), [c])) := by
            unfold isM
            rw [hyes, Bool.true_and, ← htl]
            exact decide_eq_decide.2 (found_iff hgood hgT hbb hkb)
          rw [hism, hyes]
          have hb4 := bindB_len hbb
          obtain rfl : bl = 4 := by omega
          have HI : Hid (∀ W, Below W1.heap.size W1 W → Calls Tryz.prog 45 #[.agg #[.slice a lb cap, .slice b lb cb], .slice ta tl tc, .int .i64 ((tl - 1 : Nat) : Int), .int .i64 c, .slice ba 4 bc] W fun e w' => e = .returned (.bool (decide (treeA (some bs) t (p, l) (tl - 1) = ((p, l), [c])))) ∧ Below W.heap.size W w') := fun W hW => specIs_any hgood hgT bs hb4 a b ta ba lb cap cb tl tc bc (by omega) (tl - 1) (by omega) c W ((h.keep hb1).keep hW) ((hl.keep hb1).keep hW) ((ht.keep hb1).keep hW) ((hv.keep hb1).keep hW)
          have hsub : wrap64 ((tl : Int) - 1) = ((tl - 1 : Nat) : Int) := by unfold wrap64; omega
          have hsub2 : (tl : Int) - 1 = ((tl - 1 : Nat) : Int) := by omega
          generalize decide (treeA (some bs) t (p, l) (tl - 1) = ((p, l), [c])) = R at HI ⊢
          obtain ⟨k1, hk1⟩ : ∃ k1 : Nat, tl - 1 = k1 := ⟨_, rfl⟩
          rw [hk1] at HI hsub hsub2
          clear h hl ht hv hb1 hgood hp hgb hgt hgT hkb hbb hlp hl1 h120 hb4 hvl hism hyes hk1
          go_enter Tryz.func23, Tryz.ntmps23
          go_wp2_with fail
          (try rw [hW1])
          refine Calls.mono HG.out ?_
          rintro e w2 ⟨rfl, hb2⟩
          have HT2 := (show Hid _ from HGt.out w2 hb2)
          have HB2 := (show Hid _ from hb2)
          clear HG hW1 HGt hb2
          go_wp2_with fail
          refine Calls.mono HT2.out ?_
          rintro e w3 ⟨rfl, hb3⟩
          have hB3 := HB2.out.trans (hb3.mono HB2.out.size)
          obtain ⟨-, g0, g1⟩ := HF.out w3 hB3
          have HK3 := (show Hid _ from HK.out w3 hB3)
          have HB3' := (show Hid _ from hB3)
          clear HT2 hb3 HB2 HK hB3
          go_wp2_with fail
          refine Calls.mono HK3.out ?_
          rintro e w4 ⟨rfl, hb4⟩
          clear g0 g1
          have hB4 := HB3'.out.trans (hb4.mono HB3'.out.size)
          obtain ⟨-, g0, g1⟩ := HF.out w4 hB4
          have HV4 := (show Hid _ from HV.out w4 hB4)
          have HB4 := (show Hid _ from hB4)
          clear HK3 hb4 HB3' HV hB4
          go_wp2_with fail
          refine Calls.mono HV4.out ?_
          rintro e w5 ⟨rfl, hb5⟩
          clear g0 g1
          have hB5 := HB4.out.trans (hb5.mono HB4.out.size)
          obtain ⟨-, g0, g1⟩ := HF.out w5 hB5
          have HI5 := (show Hid _ from HI.out w5 hB5)
          have HB5 := (show Hid _ from hB5)
          clear HV4 hb5 HB4 HI hB5
          go_wp2_with fail
          (try rw [hsub2])
          refine Calls.mono HI5.out ?_
          rintro e w6 ⟨rfl, hb6⟩
          have HB := (show Hid _ from (HF.out w6 (HB5.out.trans (hb6.mono HB5.out.size))).1)
          clear HI5 HF hb6 HB5 g0 g1
          go_wp2
          go_ret2
          exact ⟨rfl, HB.out⟩
end Go.Proofs.YtobgkfpjokfbaaaGreatDoor
namespace Go.Proofs.YtobgkfpjokfbaaaGreatDoor
open Go.ChangeShapes Go.WideShapes Go.ChangeAt Go.RowKit
set_option linter.unusedVariables false

/-- Where a number belongs. -/
def place : List Int → Int → Nat
  | [], _ => 0
  | x :: l, n => if x < n then place l n + 1 else 0
/-- The list with a number put to its place, once. -/
def insL (l : List Int) (n : Int) : List Int := if place l n < l.length ∧ l.getD (place l n) 0 = n then l else l.take (place l n) ++ [n] ++ l.drop (place l n)
theorem place_le : ∀ l n, place l n ≤ l.length
  | [], _ => Nat.le_refl _
  | x :: l, n => by
    unfold place
    split
    · simp only [List.length_cons]; have := place_le l n; omega
    · exact Nat.zero_le _
theorem place_lt : ∀ l n j, j < place l n → l.getD j 0 < n
  | [], _, _, h => absurd h (Nat.not_lt_zero _)
  | x :: l, n, j, h => by
    unfold place at h
    split at h
    · next hx =>
      cases j with
      | zero => simpa using hx
      | succ j => simpa using place_lt l n j (by omega)
    · exact absurd h (Nat.not_lt_zero _)
theorem place_at : ∀ l n, place l n < l.length → ¬ l.getD (place l n) 0 < n
  | [], _, h => absurd h (Nat.not_lt_zero _)
  | x :: l, n, h => by
    unfold place at h ⊢
    split at h
    · next hx =>
      rw [if_pos hx]
      simpa using place_at l n (by simpa using h)
    · next hx => rw [if_neg hx]; simpa using hx
theorem place_next {l : List Int} {n : Int} {k : Nat} (h : k ≤ place l n) (hk : k < l.length) (hx : l.getD k 0 < n) : k + 1 ≤ place l n := by
  rcases Nat.lt_or_ge k (place l n) with h0 | h0
  · exact h0
  · have e : place l n = k := by omega
    exact absurd (by rw [e]; exact hx) (place_at l n (by omega))
theorem place_stop {l : List Int} {n : Int} {k : Nat} (h : k ≤ place l n) (hx : k < l.length → ¬ l.getD k 0 < n) : place l n = k := by
  rcases Nat.lt_or_ge k (place l n) with h0 | h0
  · have := place_le l n
    exact absurd (place_lt l n k h0) (hx (by omega))
  · omega

theorem empty_int (w : World) : (w.alloc (.cells #[] 3)).ownsRow w.heap.size 3 1 (.slice (some ⟨w.heap.size, 0, none⟩) 0 0) 0 (vals []) :=
  World.ownsRow_lit w #[] 0 (Nat.le_refl _) (by unfold maxLen; omega) rfl

theorem put_nil (n : Int) (w : World) : Calls Tryz.prog 95 #[.slice none 0 0, .int .i64 n] w fun e w' => ∃ v : Value, e = .returned v ∧ w'.ownsRow w.heap.size 3 1 v 1 (vals [n]) ∧ Below w.heap.size w w' := by
  obtain ⟨i0, hi, hz0, hz1, hz2⟩ := info_parts infoInt
  have hb0 : Below w.heap.size w (w.alloc (.cells #[] 3)) := (Below.refl _ _).alloc (Nat.le_refl _) _
  go_enter Tryz.func95, Tryz.ntmps95
  go_wp2_with fail
  go_loopw [5] (fun k wr => k = .int .i64 0 ∧ wr = w) (fun _ _ => 0)
  case atStart => exact ⟨rfl, rfl⟩
  case round =>
    obtain ⟨rfl, rfl⟩ := hrel
    have hrow := empty_int wr
    go_wp2_with (first
      | (at_builtin; refine wpList_append_own_none rfl _ _ 23 rfl wr.heap.size 3 i0 1 Tryz.underlying23 hi _ _ _ rfl hown4 rfl ?_)
      | (at_builtin; refine wpList_append_own_none rfl _ _ 23 rfl wr.heap.size 3 i0 1 Tryz.underlying23 hi _ _ _ rfl hrow rfl ?_; generalize wr.alloc (.cells #[] 3) = w1 at hrow hb0 ⊢; have hs1 := hb0.size)
      | (at_builtin; refine wpList_append_own _ rfl _ _ 23 rfl wr.heap.size 3 i0 (.int .i64 0) 1 8 Tryz.underlying23 hi hz0 hz1 hz2 rfl (by decide) _ _ _ rfl (hrow.alloc _) ⟨w1.heap.size, 0, none⟩ 1 1 [_] rfl rfl (cell_new1 _ _ _ _) (one_cell1 _ _) (by unfold maxLen; omega) (by omega) (by simp; omega) ?_; intro v' w4 hown4 hg4 _; have hB : Below wr.heap.size wr w4 := (hb0.alloc hb0.size _).grown hg4 (by simp; omega) (fun r hr => by cases hr; exact Nat.le_refl _); clear hg4 hb0))
    go_ret
    exact ⟨_, rfl, hown4, hB⟩

set_option maxHeartbeats 1600000 in
theorem put_some (g cap len : Nat) (l : List Int) (n : Int) (w : World) (h : Sl w (some ⟨g, 0, none⟩) len l) (hcap : len ≤ cap) (hn : len ≤ 1048576) : Calls Tryz.prog 95 #[.slice (some ⟨g, 0, none⟩) len cap, .int .i64 n] w fun e w' =>
    (insL l n = l ∧ e = .returned (.slice (some ⟨g, 0, none⟩) len cap) ∧ w' = w) ∨ ∃ v : Value, e = .returned v ∧ w'.ownsRow w.heap.size 3 1 v (insL l n).length (vals (insL l n)) ∧ Below w.heap.size w w' := by
  obtain ⟨i0, hi, hz0, hz1, hz2⟩ := info_parts infoInt
  have hll := h.1
  have hb0 : Below w.heap.size w (w.alloc (.cells #[] 3)) := (Below.refl _ _).alloc (Nat.le_refl _) _
  have HC : Hid (∀ i, i < len → w.cell? ⟨g, i, none⟩ = some (.int .i64 (l.getD i 0))) := fun i hi' => by
    obtain ⟨b, off, e, hc⟩ := cells_of h (by omega)
    cases e
    have := hc i hi'
    rwa [Nat.zero_add] at this
  have HS : Hid (Sl w (some ⟨g, 0, none⟩) len l) := h
  obtain ⟨P, hP⟩ : ∃ P, insL l n = P := ⟨_, rfl⟩
  rw [hP]
  have HP := (show Hid _ from hP)
  clear hP h
  go_enter Tryz.func95, Tryz.ntmps95
  go_wp2_with fail
  go_loopw [5] (fun k wr => ∃ kn : Nat, kn ≤ len ∧ k = .int .i64 kn ∧ Hid (kn ≤ place l n) ∧ wr = w) (fun k _ => len - (intOf k).toNat)
  case atStart => exact ⟨0, Nat.zero_le _, rfl, Nat.zero_le _, rfl⟩
  case round =>
    obtain ⟨k, hk, rfl, hpl, rfl⟩ := hrel
    have hend : Hid (place l n = k → ¬ (k < l.length ∧ l.getD k 0 = n) → P = l.take k ++ [n] ++ l.drop k) := fun h1 h2 => by
      rw [← HP.out]; unfold insL; rw [h1, if_neg h2]
    by_cases hlt : k < len
    · have c := HC.out k hlt
      have i1 : (k : Int) < len := by omega
      have hnx : l.getD k 0 < n → Hid (k + 1 ≤ place l n) := fun h0 => place_next hpl.out (by omega) h0
      have hst : ¬ l.getD k 0 < n → Hid (place l n = k) := fun h0 => place_stop hpl.out (fun _ => h0)
      have heq : Hid (place l n = k → l.getD k 0 = n → P = l) := fun h1 h2 => by
        rw [← HP.out]; unfold insL; rw [h1, if_pos ⟨by omega, h2⟩]
      generalize l.getD k 0 = x at c hnx hst heq hend
      by_cases hx : x < n
      · have q := hnx hx
        clear hnx hst heq hend
        go_wp2
        go_roundw
        case rel => exact ⟨k + 1, by omega, by go_num, q, (by first | trivial | rfl)⟩
        case measure => simp [intOf]; omega
      · have q := hst hx
        clear hnx hst
        by_cases hxe : x = n
        · subst hxe
          have e := (show Hid _ from heq.out q.out rfl)
          clear heq hend
          go_wp2
          go_ret
          exact .inl ⟨e.out, rfl, rfl⟩
        · have e := (show Hid _ from hend.out q.out (fun h0 => hxe h0.2))
          have hxe' : (x == n) = false := by simpa using hxe
          clear heq hend hxe
          have hA : Hid (∀ j u, (vals (l.take k))[j]? = some u → (wr.alloc (.cells #[] 3)).cell? ((⟨g, 0, none⟩ : Addr).add j) = some u) := by
            have := sl_cells (HS.out.keep hb0) 0 k (by omega)
            rwa [List.drop_zero, Nat.add_zero] at this
          have hD : Hid (∀ W, Below wr.heap.size wr W → ∀ j u, (vals (l.drop k))[j]? = some u → W.cell? ((⟨g, k, none⟩ : Addr).add j) = some u) := fun W hW => by
            have := sl_cells (HS.out.keep hW) k (len - k) (by omega)
            rwa [Nat.zero_add, List.take_of_length_le (by rw [List.length_drop]; omega)] at this
          have lA : (vals (l.take k)).length = k := by rw [vals_len, List.length_take]; omega
          have lD : (vals (l.drop k)).length = len - k := by rw [vals_len, List.length_drop]; omega
          have hPv : Hid (vals P = vals (l.take k) ++ [.int .i64 n] ++ vals (l.drop k) ∧ P.length = len + 1) := by
            rw [e.out]
            refine ⟨by rw [vals_append, vals_append]; rfl, ?_⟩
            simp only [List.length_append, List.length_take, List.length_drop, List.length_cons, List.length_nil]; omega
          have oA := vals_one (l.take k)
          have oD := vals_one (l.drop k)
          have ck : ¬ cap = k := by omega
          have kc : k ≤ cap := by omega
          generalize vals (l.take k) = VA at hA lA hPv oA
          generalize vals (l.drop k) = VD at hD lD hPv oD
          clear e q
          go_wp2_with (first
            | (at_builtin; refine wpList_append_own _ rfl _ _ 23 rfl wr.heap.size 3 i0 (.int .i64 0) 1 8 Tryz.underlying23 hi hz0 hz1 hz2 rfl (by decide) _ _ _ rfl hown3 ⟨g, k, none⟩ (len - k) (cap - k) VD rfl (by omega) (hD.out _ hB3) oD (by unfold maxLen; omega) (by omega) hB3.size ?_; intro v4 w4 hown4 hg4 _; have hB4 : Below wr.heap.size wr w4 := hB3.grown hg4 hB3.size (own_ge hown3); clear hg4 hown3 hB3)
            | (at_builtin; refine wpList_append_own _ rfl _ _ 23 rfl wr.heap.size 3 i0 (.int .i64 0) 1 8 Tryz.underlying23 hi hz0 hz1 hz2 rfl (by decide) _ _ _ rfl (hown2.alloc _) ⟨w2.heap.size, 0, none⟩ 1 1 [_] rfl rfl (cell_new1 _ _ _ _) (one_cell1 _ _) (by unfold maxLen; omega) (by omega) (by simp; omega) ?_; intro v3 w3 hown3 hg3 _; have hB3 : Below wr.heap.size wr w3 := (hB2.alloc hB2.size _).grown hg3 (by simp; omega) (own_ge hown2); clear hg3 hown2 hB2)
            | (at_builtin; refine wpList_append_own _ rfl _ _ 23 rfl wr.heap.size 3 i0 (.int .i64 0) 1 8 Tryz.underlying23 hi hz0 hz1 hz2 rfl (by decide) _ _ _ rfl (empty_int wr) ⟨g, 0, none⟩ k cap VA rfl (by omega) hA.out oA (by unfold maxLen; omega) (by omega) (by simp) ?_; intro v2 w2 hown2 hg2 _; have hB2 : Below wr.heap.size wr w2 := hb0.grown hg2 (by simp) (fun r hr => by cases hr; exact Nat.le_refl _); clear hg2 hb0; have hs2 := hB2.size))
          go_ret
          refine .inr ⟨_, rfl, ?_, hB4⟩
          rw [hPv.out.1, hPv.out.2]
          have : 0 + k + 1 + (len - k) = len + 1 := by omega
          rw [this] at hown4
          simpa [vals] using hown4
    · obtain rfl : k = len := by omega
      have q : Hid (place l n = k) := place_stop hpl.out (fun h0 => by omega)
      have e := (show Hid _ from hend.out q.out (fun h0 => by omega))
      clear hend
      have hA : Hid (∀ j u, (vals l)[j]? = some u → (wr.alloc (.cells #[] 3)).cell? ((⟨g, 0, none⟩ : Addr).add j) = some u) := by
        have := sl_cells (HS.out.keep hb0) 0 k (by omega)
        rwa [List.drop_zero, Nat.add_zero, List.take_of_length_le (by omega)] at this
      have lA : (vals l).length = k := by rw [vals_len]; omega
      have hPv : Hid (vals P = vals l ++ [.int .i64 n] ∧ P.length = k + 1) := by
        rw [e.out, List.take_of_length_le (by omega), List.drop_of_length_le (by omega), List.append_nil]
        exact ⟨vals_append _ _, by simp [hll]⟩
      have oA := vals_one l
      obtain ⟨o, ho⟩ : ∃ o, (if cap = k then some (⟨g, 0, none⟩ : Addr) else some ⟨g, k, none⟩) = some ⟨g, o, none⟩ := by
        by_cases h0 : cap = k
        · exact ⟨0, by rw [if_pos h0]⟩
        · exact ⟨k, by rw [if_neg h0]⟩
      generalize vals l = VA at hA lA hPv oA
      clear e q
      go_wp2_with (first
        | (at_builtin; refine wpList_append_own _ rfl _ _ 23 rfl wr.heap.size 3 i0 (.int .i64 0) 1 8 Tryz.underlying23 hi hz0 hz1 hz2 rfl (by decide) _ _ _ rfl hown3 ⟨g, o, none⟩ 0 (cap - k) [] rfl rfl (fun j u hj => by simp at hj) (fun u hu => by cases hu) (by unfold maxLen; omega) (by omega) hB3.size ?_; intro v4 w4 hown4 hg4 _; have hB4 : Below wr.heap.size wr w4 := hB3.grown hg4 hB3.size (own_ge hown3); clear hg4 hown3 hB3)
        | (at_builtin; refine wpList_append_own _ rfl _ _ 23 rfl wr.heap.size 3 i0 (.int .i64 0) 1 8 Tryz.underlying23 hi hz0 hz1 hz2 rfl (by decide) _ _ _ rfl (hown2.alloc _) ⟨w2.heap.size, 0, none⟩ 1 1 [_] rfl rfl (cell_new1 _ _ _ _) (one_cell1 _ _) (by unfold maxLen; omega) (by omega) (by simp; omega) ?_; intro v3 w3 hown3 hg3 _; have hB3 : Below wr.heap.size wr w3 := (hB2.alloc hB2.size _).grown hg3 (by simp; omega) (own_ge hown2); clear hg3 hown2 hB2)
        | (at_builtin; refine wpList_append_own _ rfl _ _ 23 rfl wr.heap.size 3 i0 (.int .i64 0) 1 8 Tryz.underlying23 hi hz0 hz1 hz2 rfl (by decide) _ _ _ rfl (empty_int wr) ⟨g, 0, none⟩ k cap VA rfl (by omega) hA.out oA (by unfold maxLen; omega) (by omega) (by simp) ?_; intro v2 w2 hown2 hg2 _; have hB2 : Below wr.heap.size wr w2 := hb0.grown hg2 (by simp) (fun r hr => by cases hr; exact Nat.le_refl _); clear hg2 hb0; have hs2 := hB2.size))
      go_ret
      refine .inr ⟨_, rfl, ?_, hB4⟩
      rw [hPv.out.1, hPv.out.2]
      simpa [vals] using hown4
end Go.Proofs.YtobgkfpjokfbaaaGreatDoor
