/-
  PROVED HERE: what the model's and the program's GoodPattern answer, at every list of nodes, in a world whose table of arities is laid. No other condition. plain facts on what a pattern makes with a bind. No condition. what the program's classOfTerm answers at every good term, once the function of classes that is handed over is known (a premise here; a theorem where it is used). No other condition.
-/
import Derived.Test.YtobgkfpjokfbaaaGreatDoorRun1
import Derived.Test.YtobgkfpjokfbaaaGreatDoorRun2
import Derived.Test.YtobgkfpjokfbaaaGreatDoorRun25
import Derived.Test.YtobgkfpjokfbaaaGreatDoorRun20
import Derived.Test.YtobgkfpjokfbaaaGreatDoorRun12
import Derived.Test.YtobgkfpjokfbaaaGreatDoorRun16
import Derived.Deep.RegionHeld3
namespace Go.Proofs.YtobgkfpjokfbaaaGreatDoor
open Go.ChangeShapes Go.WideShapes Go.ChangeAt Go.RowKit
set_option linter.unusedVariables false

/-- A good term of seven nodes at most. -/
def patB (l : List (Int × Int)) : Bool := goodB l && decide (l.length ≤ 7)
theorem specPat_any (a : Option Addr) (len cap : Nat) (l : List (Int × Int)) (w : World) (h : NSl w a len l) (hm : len ≤ 9223372036854775807) :
    Calls Tryz.prog 41 #[.slice a len cap] w fun e w' => e = .returned (.bool (patB l)) ∧ Below w.heap.size w w' := by
  have hll := h.1
  have HG := (show Hid _ from specGood_any a len cap l w h hm)
  unfold patB
  by_cases h7 : len ≤ 7
  · rw [decide_eq_true (show l.length ≤ 7 by omega), Bool.and_true]
    have i7 : (len : Int) ≤ 7 := by omega
    generalize goodB l = G at HG ⊢
    clear h hll
    cases G
    all_goals
      go_enter Tryz.func41, Tryz.ntmps41
      go_wp2_with fail
      refine Calls.mono HG.out ?_
      rintro e w2 ⟨rfl, hb2⟩
      go_wp2
      go_ret
      exact ⟨by first | rfl | (simp <;> omega), hb2⟩
  · rw [decide_eq_false (show ¬ l.length ≤ 7 by omega), Bool.and_false]
    have i7 : ¬ (len : Int) ≤ 7 := by omega
    generalize goodB l = G at HG
    clear h hll
    cases G
    all_goals
      go_enter Tryz.func41, Tryz.ntmps41
      go_wp2_with fail
      refine Calls.mono HG.out ?_
      rintro e w2 ⟨rfl, hb2⟩
      go_wp2
      go_ret
      exact ⟨by first | rfl | (simp <;> omega), hb2⟩
theorem implPat_any (a : Option Addr) (len cap : Nat) (l : List (Int × Int)) (w : World) (ht : Tab w) (h : NSl w a len l) (hm : len ≤ 9223372036854775807) :
    Calls Tryz.prog 52 #[.slice a len cap] w fun e w' => e = .returned (.bool (patB l)) ∧ Below w.heap.size w w' := by
  have hll := h.1
  have HG := (show Hid _ from implGood_any a len cap l w ht h hm)
  unfold patB
  by_cases h7 : len ≤ 7
  · rw [decide_eq_true (show l.length ≤ 7 by omega), Bool.and_true]
    have i7 : (len : Int) ≤ 7 := by omega
    generalize goodB l = G at HG ⊢
    clear h hll ht
    go_enter Tryz.func52, Tryz.ntmps52
    go_wp2_with fail
    refine Calls.mono HG.out ?_
    rintro e w2 ⟨rfl, hb2⟩
    go_wp2
    go_ret
    exact ⟨by first | rfl | (simp <;> omega), hb2⟩
  · rw [decide_eq_false (show ¬ l.length ≤ 7 by omega), Bool.and_false]
    have i7 : ¬ (len : Int) ≤ 7 := by omega
    clear h hll ht HG
    go_enter Tryz.func52, Tryz.ntmps52
    go_wp2
    go_ret
    exact ⟨by first | rfl | (simp <;> omega), Below.refl _ _⟩
end Go.Proofs.YtobgkfpjokfbaaaGreatDoor
namespace Go.Proofs.YtobgkfpjokfbaaaGreatDoor
open Go.ChangeShapes Go.WideShapes Go.ChangeAt Go.RowKit
set_option linter.unusedVariables false

/-- The bind has a class for each of the variables. -/
def boundB (t : List (Int × Int)) (bs : List Int) : Bool := t.all fun n => n.1 != 2 || decide (0 ≤ bs.getD n.2.toNat 0)
/-- What a pattern makes with a bind. -/
def instT (p : List EN) (l : List Int) (t : List (Int × Int)) (bs : List Int) : Option (GS × Int) := if (graphB p l && patB t && bindB l bs && boundB t bs) = true then roomA (runA (some bs) t ((p, l), [])) else none
theorem boundB_iff (t : List (Int × Int)) (bs : List Int) : boundB t bs = true ↔ ∀ n ∈ t, n.1 = 2 → 0 ≤ bs.getD n.2.toNat 0 := by
  unfold boundB
  rw [List.all_eq_true]
  constructor
  · intro h n hn h2
    have := h n hn
    simp [h2] at this
    simpa using this
  · intro h n hn
    by_cases h2 : n.1 = 2
    · have := h n hn h2
      simp [h2]
      simpa using this
    · have : (n.1 != 2) = true := by simpa using h2
      rw [this, Bool.true_or]
theorem bindB_len {l bs : List Int} (h : bindB l bs = true) : bs.length = 4 := by
  unfold bindB at h
  rw [Bool.and_eq_true] at h
  exact of_decide_eq_true h.1
theorem bindB_each {l bs : List Int} (h : bindB l bs = true) : ∀ c ∈ bs, c = -1 ∨ clB l c = true := by
  unfold bindB at h
  rw [Bool.and_eq_true, List.all_eq_true] at h
  intro c hc
  have := h.2 c hc
  rw [Bool.or_eq_true, beq_iff_eq] at this
  exact this
theorem good_var {t : List (Int × Int)} (h : goodB t = true) : ∀ n ∈ t, n.1 = 2 → 0 ≤ n.2 ∧ n.2 < 4 := by
  intro n hn h2
  obtain ⟨hp, g1, g2⟩ := good_pile h
  obtain ⟨k, hk, rfl⟩ := List.getElem_of_mem hn
  obtain ⟨s1, s2⟩ := cnt_step hp k hk
  obtain ⟨a1, a2, a3, _⟩ := fits_iff _ _ _ _ s1
  have e : t.getD k (0, 0) = t[k] := by rw [List.getD_eq_getElem?_getD, List.getElem?_eq_getElem hk]; rfl
  rw [e] at a3
  exact a3 h2
theorem bind_cl {p : List EN} {l bs : List Int} {t : List (Int × Int)} (hg : GoodG (p, l)) (hb : bindB l bs = true) (ht : goodB t = true) (hbd : boundB t bs = true) : BOk (some bs) (p, l) t := by
  intro bs' e n hn h2
  cases e
  have h4 := good_var ht n hn h2
  have h0 := (boundB_iff t bs).1 hbd n hn h2
  have hl := bindB_len hb
  have hmem : bs.getD n.2.toNat 0 ∈ bs := by
    rw [List.getD_eq_getElem?_getD, List.getElem?_eq_getElem (by omega)]
    exact List.getElem_mem _
  rcases bindB_each hb _ hmem with h | h
  · omega
  · exact (isCl_iff hg _).1 h
/-- A class of parts stays one. -/
theorem clB_add {l : List Int} {c x : Int} (h : clB l c = true) : clB (l ++ [x]) c = true := by
  unfold clB hasB at h ⊢
  simp only [Bool.and_eq_true, decide_eq_true_eq, beq_iff_eq] at h ⊢
  refine ⟨⟨h.1.1, by rw [List.length_append]; simp; omega⟩, ?_⟩
  rw [getD_old _ _ _ (by omega)]
  exact h.2
theorem runB_ge (bs : List Int) : ∀ (t : List (Int × Int)) (s : GS × List Int), s.1.1.length ≤ (runA (some bs) t s).1.1.length
  | [], s => Nat.le_refl _
  | n :: t, s => by
    refine Nat.le_trans ?_ (runB_ge bs t (stepA (some bs) s n))
    show s.1.1.length ≤ (classA (some bs) s.1 n (s.2.drop (s.2.length - (ar n.1).toNat))).1.1.length
    unfold classA
    simp only
    split
    · exact Nat.le_refl _
    · exact putL_ge _ _
theorem inst_run (bs : List Int) : ∀ (t : List (Int × Int)) (g : GS) (Q : List Int), g.1.length ≤ 120 → (∀ n ∈ t, n.1 = 2 → clB g.2 (bs.getD n.2.toNat 0) = true) → runO (clsBp bs) t (g, Q) = if (runA (some bs) t (g, Q)).1.1.length ≤ 120 then some (runA (some bs) t (g, Q)) else none
  | [], g, Q, h, _ => by
    show some (g, Q) = if g.1.length ≤ 120 then some (g, Q) else none
    rw [if_pos h]
  | n :: t, g, Q, h, hv => by
    have hge := runB_ge bs t (stepA (some bs) (g, Q) n)
    show (stepO (clsBp bs) (g, Q) n).bind (runO (clsBp bs) t) = if (runA (some bs) t (stepA (some bs) (g, Q) n)).1.1.length ≤ 120 then some (runA (some bs) t (stepA (some bs) (g, Q) n)) else none
    by_cases h2 : n.1 = 2
    · have hc : clsBp bs g n (Q.drop (Q.length - (ar n.1).toNat)) = some (g, bs.getD n.2.toNat 0) := by
        unfold clsBp
        rw [if_pos h2, if_pos (hv n List.mem_cons_self h2)]
      have e2 : stepA (some bs) (g, Q) n = (g, Q.take (Q.length - (ar n.1).toNat) ++ [bs.getD n.2.toNat 0]) := by
        unfold stepA classA
        simp only [h2, if_true]
      rw [stepO_some (cls := clsBp bs) hc, e2]
      exact inst_run bs t g _ h (fun m hm => hv m (List.mem_cons_of_mem _ hm))
    · have hcl : clsBp bs g n (Q.drop (Q.length - (ar n.1).toNat)) = clsP g (n.1, n.2, Q.drop (Q.length - (ar n.1).toNat)) := by
        unfold clsBp clsPu
        rw [if_neg h2]
      have e2 : stepA (some bs) (g, Q) n = ((putL g (n.1, n.2, Q.drop (Q.length - (ar n.1).toNat))).1, Q.take (Q.length - (ar n.1).toNat) ++ [(putL g (n.1, n.2, Q.drop (Q.length - (ar n.1).toNat))).2]) := by
        unfold stepA classA
        simp only [h2, if_false]
      cases hc : clsP g (n.1, n.2, Q.drop (Q.length - (ar n.1).toNat)) with
      | some r =>
        rw [hc] at hcl
        rw [stepO_some (cls := clsBp bs) hcl]
        have hr := (clsP_some hc).1
        rw [e2, ← hr]
        refine inst_run bs t r.1 _ (clsP_len hc h) (fun m hm h2' => ?_)
        have hm' := hv m (List.mem_cons_of_mem _ hm) h2'
        rw [hr]
        unfold putL
        split
        · exact hm'
        · exact clB_add hm'
      | none =>
        rw [hc] at hcl
        rw [stepO_none (cls := clsBp bs) hcl]
        have h0 : findL g.1 g.2 (n.1, n.2, Q.drop (Q.length - (ar n.1).toNat)) = none ∧ g.1.length = 120 := by
          unfold clsP at hc
          by_cases h0 : findL g.1 g.2 (n.1, n.2, Q.drop (Q.length - (ar n.1).toNat)) = none ∧ g.1.length = 120
          · exact h0
          · rw [if_neg h0] at hc; cases hc
        have hlen : (stepA (some bs) (g, Q) n).1.1.length = g.1.length + 1 := by rw [e2, putL_none h0.1]; simp
        rw [if_neg (by omega)]; rfl
theorem inst_none (bs : List Int) : ∀ (t : List (Int × Int)) (s : GS × List Int), (∃ n ∈ t, n.1 = 2 ∧ bs.getD n.2.toNat 0 = -1) → runO (clsBp bs) t s = none
  | [], s, h => by obtain ⟨n, hn, _⟩ := h; cases hn
  | n :: t, (g, Q), h => by
    show (stepO (clsBp bs) (g, Q) n).bind (runO (clsBp bs) t) = none
    by_cases hn : n.1 = 2 ∧ bs.getD n.2.toNat 0 = -1
    · have hc : clsBp bs g n (Q.drop (Q.length - (ar n.1).toNat)) = none := by
        unfold clsBp
        have e1 : clB g.2 (-1) = false := (by unfold clB hasB; rfl)
        rw [if_pos hn.1, hn.2, e1, if_neg (by decide)]
      rw [stepO_none (cls := clsBp bs) hc]; rfl
    · obtain ⟨m, hm, h2⟩ := h
      have hmt : m ∈ t := by
        rcases List.mem_cons.1 hm with e | e
        · rw [e] at h2; exact absurd h2 hn
        · exact e
      cases hs : stepO (clsBp bs) (g, Q) n with
      | none => rfl
      | some r => exact inst_none bs t r ⟨m, hmt, h2⟩
theorem instT_run {p : List EN} {l bs : List Int} {t : List (Int × Int)} (hg : graphB p l = true) (ht : patB t = true) (hb : bindB l bs = true) : instT p l t bs = (runO (clsBp bs) t ((p, l), [])).map (fun r => (r.1, r.2.getD 0 0)) := by
  obtain ⟨h120, hgood⟩ := (graphB_good p l).1 hg
  have hgt : goodB t = true := by unfold patB at ht; simp only [Bool.and_eq_true] at ht; exact ht.1
  unfold instT
  rw [hg, ht, hb]
  simp only [Bool.true_and]
  by_cases hbd : boundB t bs = true
  · rw [if_pos hbd]
    have hB := bind_cl hgood hb hgt hbd
    rw [inst_run bs t (p, l) [] h120 (fun n hn h2 => (isCl_iff hgood _).2 (hB bs rfl n hn h2))]
    unfold roomA
    split <;> rfl
  · rw [if_neg hbd]
    have hno : ∃ n ∈ t, n.1 = 2 ∧ bs.getD n.2.toNat 0 = -1 := by
      apply Classical.byContradiction
      intro hno
      refine hbd ((boundB_iff t bs).2 fun n hn h2 => ?_)
      have h4 := good_var hgt n hn h2
      have hl := bindB_len hb
      have hmem : bs.getD n.2.toNat 0 ∈ bs := by
        rw [List.getD_eq_getElem?_getD, List.getElem?_eq_getElem (by omega)]
        exact List.getElem_mem _
      rcases bindB_each hb _ hmem with h | h
      · exact absurd ⟨n, hn, h2, h⟩ hno
      · exact ((isCl_iff hgood _).1 h).1
    rw [inst_none bs t _ hno]; rfl
theorem instT_good {p : List EN} {l bs : List Int} {t : List (Int × Int)} {r : GS × Int} (h : instT p l t bs = some r) : GoodG r.1 ∧ r.1.1.length ≤ 120 := by
  unfold instT at h
  by_cases hc : (graphB p l && patB t && bindB l bs && boundB t bs) = true
  · rw [if_pos hc] at h
    simp only [Bool.and_eq_true] at hc
    obtain ⟨⟨⟨c1, c2⟩, c3⟩, c4⟩ := hc
    have hgt : goodB t = true := by unfold patB at c2; simp only [Bool.and_eq_true] at c2; exact c2.1
    obtain ⟨hp, ht1, ht40⟩ := good_pile hgt
    have hgood := ((graphB_good p l).1 c1).2
    have hr := runA_good (b := some bs) t (p, l) [] 1 hp hgood (fun c hc => by cases hc) (bind_cl hgood c3 hgt c4)
    unfold roomA at h
    by_cases h0 : (runA (some bs) t ((p, l), [])).1.1.length ≤ 120
    · rw [if_pos h0] at h
      cases h
      exact ⟨hr.1, h0⟩
    · rw [if_neg h0] at h; cases h
  · rw [if_neg hc] at h; cases h
end Go.Proofs.YtobgkfpjokfbaaaGreatDoor
namespace Go.Proofs.YtobgkfpjokfbaaaGreatDoor
open Go.ChangeShapes Go.WideShapes Go.ChangeAt Go.RowKit
set_option linter.unusedVariables false

set_option maxHeartbeats 3200000 in
set_option maxRecDepth 20000 in
theorem clsW_any (qb qc N : Nat) (dfl : Int × Int → Int) (cls : Cls) (hK : Keeps cls) (R : World → (Nat → Prop) → GS → Prop) (hRs : ∀ (W W' : World) S S' g, R W S g → W.heap.size ≤ W'.heap.size → (∀ b, S b → b < W.heap.size → W'.heap[b]? = W.heap[b]?) → (∀ b, b < N → W'.heap[b]? = W.heap[b]?) → (∀ b, b < W.heap.size → S b → S' b) → R W' S' g)
    (hcall : ∀ (W : World) S g n (a : Option Addr) (m cap : Nat) (kids : List Int), R W S g → GoodG g → g.1.length ≤ 120 → Sl W a m kids → (∀ x, (Value.slice a m m).ownBlock = some x → ¬ S x) → NFits g n kids →
      Calls Tryz.prog 82 #[.agg #[.int .i64 n.1, .int .i64 n.2, .slice a m cap], .pointer (some ⟨qb, 0, none⟩), .pointer (some ⟨qc, 0, none⟩)] W fun e w' => e = .returned (.tuple #[.int .i64 (((cls g n kids).map (fun r => r.2)).getD (dfl n)), .bool (cls g n kids).isSome]) ∧ KB S W w' ∧ ∀ r, cls g n kids = some r → R w' (fun b => S b ∨ W.heap.size ≤ b) r.1)
    {t : List (Int × Int)} (hp : pile t 0 = some 1) (hI : ∀ k, k < t.length → InI (t.getD k (0, 0)).2) (tb to tl tc : Nat) (ht40 : tl ≤ 40) (ht1 : 1 ≤ tl) (w : World) (S : Nat → Prop) (g : GS) (hN : NSl w (some ⟨tb, to, none⟩) tl t) (hR : R w S g) (hg : GoodG g) (h120 : g.1.length ≤ 120) (hSt : ¬ S tb) (hNw : N ≤ w.heap.size) (hT : ∀ W, KB S w W → Tab W) :
    Calls Tryz.prog 55 #[.slice (some ⟨tb, to, none⟩) tl tc, .func (.func 82) #[] #[.pointer (some ⟨qb, 0, none⟩), .pointer (some ⟨qc, 0, none⟩)]] w fun e w' => e = .returned (.tuple #[.int .i64 (((runO cls t (g, [])).map (fun r => r.2.getD 0 0)).getD 0), .bool (runO cls t (g, [])).isSome]) ∧ KB S w w' ∧ AllR (runO cls t (g, [])) (fun g' => R w' (fun b => S b ∨ w.heap.size ≤ b) g') := by
  obtain ⟨i0, hi, hz0, hz1, hz2⟩ := info_parts infoInt
  have hll := hN.1
  have HN : Hid (NSl w (some ⟨tb, to, none⟩) tl t ∧ ¬ S tb ∧ t.length = tl ∧ pile t 0 = some 1 ∧ ∀ k, k < t.length → InI (t.getD k (0, 0)).2) := ⟨hN, hSt, hll, hp, hI⟩
  have HNW : Hid (N ≤ w.heap.size) := hNw
  clear hNw
  have HT := (show Hid _ from hT)
  have HC := (show Hid _ from hcall)
  have HRS := (show Hid _ from hRs)
  have HK := (show Hid _ from hK)
  have H0 : Hid (R w S g ∧ GoodG g ∧ g.1.length ≤ 120) := ⟨hR, hg, h120⟩
  have hbt : tb < w.heap.size := by
    obtain ⟨b', off', e, hbl, _⟩ := hN.at (by omega)
    cases e; exact hbl
  clear hN hR hg h120 hSt hT hcall hRs hK hll hp hI
  go_enter Tryz.func55, Tryz.ntmps55
  go_wp2_with fail
  go_loopw [6, 16] (fun p i wr => ∃ (k : Nat) (g1 : GS) (Q : List Int) (pa : Option Addr) (pc : Nat), k ≤ tl ∧ i = .int .i64 k ∧ p = .slice pa Q.length pc ∧ Hid (runO cls t (g, []) = runO cls (t.drop k) (g1, Q) ∧ R wr (fun b => (S b ∨ w.heap.size ≤ b) ∧ (Value.slice pa Q.length pc).ownBlock ≠ some b) g1 ∧ GoodG g1 ∧ g1.1.length ≤ 120 ∧ (∀ c ∈ Q, IsCl g1 c) ∧ (Q.length : Int) = cnt t k ∧ wr.ownsRow 0 3 1 (.slice pa Q.length pc) Q.length (vals Q) ∧ (∀ x, (Value.slice pa Q.length pc).ownBlock = some x → w.heap.size ≤ x) ∧ KB S w wr)) (fun _ i _ => tl - (intOf i).toNat)
  case atStart => exact ⟨0, g, [], none, 0, Nat.zero_le _, rfl, rfl, rfl, HRS.out w w _ _ g H0.out.1 (Nat.le_refl _) (fun _ _ _ => rfl) (fun _ _ => rfl) (fun b _ h => ⟨.inl h, fun e => by cases e⟩), H0.out.2.1, H0.out.2.2, (fun c hc => by cases hc), by rw [cnt_zero]; rfl, World.ownsRow_nil _ _ _ _, (fun x hx => by cases hx), KB.refl _ _⟩
  case round =>
    obtain ⟨k, g1, Q, pa, pc, hk, rfl, rfl, hH⟩ := hrel
    obtain ⟨wo, rfl⟩ : ∃ x, x = wr := ⟨_, rfl⟩
    by_cases hlt : k < tl
    · obtain ⟨q1, q2, q3, q4, q5, q6, q7, q8, q9⟩ := hH.out
      obtain ⟨hN, hSt, hll, hp, hI⟩ := HN.out
      obtain ⟨s1, s2⟩ := cnt_step hp k (by omega)
      obtain ⟨a1, a2, a3, _⟩ := fits_iff _ _ _ _ s1
      have hno := node_fits (m := (ar (t.getD k (0, 0)).1).toNat) s1 (by omega)
      have hIk := hI k (by omega)
      obtain ⟨b', off', e, hbl, hc⟩ := (nsl_kb hN q9 hSt).at (by omega)
      cases e
      have c1 := (hc k hlt).1
      have c2 := (hc k hlt).2
      have hdr := runO_drop cls t k (g1, Q) (by omega)
      have HA := implArity_any (t.getD k (0, 0)).1 (wo.alloc (.cells #[.int .i64 (t.getD k (0, 0)).1, .int .i64 (t.getD k (0, 0)).2] 83)) (HT.out _ (q9.trans (T := fun _ => False) (KB.of ((Below.refl _ _).alloc (Nat.le_refl _) _)) (fun _ _ h => h.elim)))
      rw [decide_eq_true a1, show arN (t.getD k (0, 0)).1 = ar (t.getD k (0, 0)).1 from by unfold arN; rw [if_pos a1]] at HA
      obtain ⟨m, hm⟩ : ∃ m : Nat, ar (t.getD k (0, 0)).1 = m := ⟨(ar (t.getD k (0, 0)).1).toNat, by omega⟩
      rw [hm] at HA a2 hno s2
      rw [Int.toNat_natCast] at hno
      have hmn : m ≤ Q.length := by omega
      obtain ⟨L, hL⟩ : ∃ L, Q.length = L + m := ⟨Q.length - m, by omega⟩
      have hQ40 : Q.length ≤ 40 := by have := (cnt_le hp k (by omega)).2; omega
      obtain ⟨x, hx⟩ : ∃ x, t.getD k (0, 0) = x := ⟨_, rfl⟩
      rw [hx] at c1 c2 HA hno hIk hdr hm
      obtain ⟨xo, xn⟩ := x
      simp only at c1 c2 HA hno hIk hm
      have hsub : (Q.length : Int) - m = (L : Int) := by omega
      have hdl : Q.length - (ar (xo, xn).1).toNat = L := by simp only; rw [hm, Int.toNat_natCast]; omega
      have hkids : (Q.drop L).length = m := by rw [List.length_drop]; omega
      have hnf : NFits g1 (xo, xn) (Q.drop L) := ⟨by simp only; rw [hkids]; exact hno, hIk, fun c hc => q5 c (List.mem_of_mem_drop hc)⟩
      obtain ⟨W2, hW2⟩ : ∃ W2, wo.alloc (.cells #[.int .i64 xo, .int .i64 xn] 83) = W2 := ⟨_, rfl⟩
      have hb2 : Below wo.heap.size wo W2 := by rw [← hW2]; exact (Below.refl _ _).alloc (Nat.le_refl _) _
      have hs2 : W2.heap.size = wo.heap.size + 1 := by rw [← hW2]; simp
      have o0 : W2.cell? ⟨wo.heap.size, 0, none⟩ = some (.int .i64 xo) := by rw [← hW2]; simp [go_sem]
      have o1 : W2.cell? ⟨wo.heap.size, 1, none⟩ = some (.int .i64 xn) := by rw [← hW2]; simp [go_sem]
      rw [hW2] at HA
      have HA2 := (show Hid _ from HA)
      have hkl : (k : Int) < tl := by omega
      have hsz : ¬ tb = wo.heap.size := by have := q9.size; omega
      have HRD : Hid (R W2.drew (fun b => ((S b ∨ w.heap.size ≤ b) ∧ (Value.slice pa Q.length pc).ownBlock ≠ some b) ∧ b < wo.heap.size) g1) := HRS.out wo W2.drew _ _ g1 q2 (by show wo.heap.size ≤ W2.heap.size; omega) (fun b _ hl => hb2.block b hl) (fun b hb => hb2.block b (by have := q9.size; have := HNW.out; omega)) (fun b hl h => ⟨h, hl⟩)
      have hkbD : KB S w W2.drew := q9.trans (T := fun _ => False) (KB.of (below_drawn hb2 1)) (fun _ _ h => h.elim)
      have hrowD : W2.drew.ownsRow 0 3 1 (.slice pa Q.length pc) Q.length (vals Q) := row_keep q7 (below_drawn hb2 1)
      have hbx : ∀ W', KB (fun b => ((S b ∨ w.heap.size ≤ b) ∧ (Value.slice pa Q.length pc).ownBlock ≠ some b) ∧ b < wo.heap.size) W2.drew W' → W'.cell? ⟨wo.heap.size, 0, none⟩ = some (.int .i64 xo) ∧ W'.cell? ⟨wo.heap.size, 1, none⟩ = some (.int .i64 xn) := fun W' h => ⟨(h.cell (p := ⟨wo.heap.size, 0, none⟩) (by show wo.heap.size < W2.heap.size; omega) (fun h => Nat.lt_irrefl _ h.2)).trans o0, (h.cell (p := ⟨wo.heap.size, 1, none⟩) (by show wo.heap.size < W2.heap.size; omega) (fun h => Nat.lt_irrefl _ h.2)).trans o1⟩
      have HBX := (show Hid _ from hbx)
      have HFIN : Hid (∀ w4, KB (fun b => ((S b ∨ w.heap.size ≤ b) ∧ (Value.slice pa Q.length pc).ownBlock ≠ some b) ∧ b < wo.heap.size) W2.drew w4 → KB S w w4 ∧ w4.ownsRow 0 3 1 (.slice pa Q.length pc) Q.length (vals Q)) := fun w4 h4 => ⟨hkbD.trans h4 (fun b hb h => by
          rcases h.1.1 with h | h
          · exact h
          · omega), row_map hrowD (fun x hx hl => h4.block x hl (fun h => h.1.2 hx))⟩
      have HNEXT : Hid (∀ (w4 : World) (r : GS × Int) (w6 : World) (v6 : Value) (c6 : Nat), cls g1 (xo, xn) (Q.drop L) = some r → KB (fun b => ((S b ∨ w.heap.size ≤ b) ∧ (Value.slice pa Q.length pc).ownBlock ≠ some b) ∧ b < wo.heap.size) W2.drew w4 → R w4 (fun b => (((S b ∨ w.heap.size ≤ b) ∧ (Value.slice pa Q.length pc).ownBlock ≠ some b) ∧ b < wo.heap.size) ∨ W2.drew.heap.size ≤ b) r.1 →
          w6.ownsRow 0 3 1 v6 (L + 1) (vals (Q.take L) ++ [.int .i64 r.2]) → (w4.alloc (.cells #[.int .i64 r.2] 3)).grownBy w6 (Value.slice pa Q.length pc).ownBlock → (v6.ownBlock = (Value.slice pa Q.length pc).ownBlock ∨ v6.ownBlock = some (w4.alloc (.cells #[.int .i64 r.2] 3)).heap.size) →
          runO cls (t.drop (k + 1)) (r.1, Q.take L ++ [r.2]) = runO cls (t.drop (k + 1)) (r.1, Q.take L ++ [r.2]) ∧ R w6 (fun b => (S b ∨ w.heap.size ≤ b) ∧ v6.ownBlock ≠ some b) r.1 ∧ GoodG r.1 ∧ r.1.1.length ≤ 120 ∧ (∀ c ∈ Q.take L ++ [r.2], IsCl r.1 c) ∧ ((Q.take L ++ [r.2]).length : Int) = cnt t (k + 1) ∧ w6.ownsRow 0 3 1 v6 (Q.take L ++ [r.2]).length (vals (Q.take L ++ [r.2])) ∧ (∀ x, v6.ownBlock = some x → w.heap.size ≤ x) ∧ KB S w w6) := fun w4 r w6 v6 c6 hr h4 hR4 k1 k2 k3 => by
        obtain ⟨e1, e2, e3, e4⟩ := HK.out.good g1 (xo, xn) (Q.drop L) r q3 q4 hnf hr
        have hw9 := q9.size
        have hs4 := h4.size
        have hs4' : W2.heap.size ≤ w4.heap.size := hs4
        have htk : (Q.take L ++ [r.2]).length = L + 1 := by rw [List.length_append, List.length_take]; simp; omega
        have hps : ∀ x, (Value.slice pa Q.length pc).ownBlock = some x → x < wo.heap.size := fun x hx => (q7.lt x hx).2
        refine ⟨rfl, HRS.out w4 w6 _ _ r.1 hR4 (by have := k2.size; simp at this; omega) (fun b hb hl => ?_) (fun b hb => (k2.block b (by have := HNW.out; simp; omega) (fun e => by have := HNW.out; have := q8 b e.symm; omega)).trans ((World.grownBy_alloc w4 _ none).block b (by have := HNW.out; omega) (by simp))) (fun b hl hb => ⟨?_, fun e => ?_⟩), e1, e4, fun c hc => ?_, by rw [htk, s2, ← q6]; omega, by rw [htk, vals_append]; exact k1, fun x hx => ?_, ?_⟩
        · refine (k2.block b (by simp; omega) (fun e => ?_)).trans ((World.grownBy_alloc w4 _ none).block b hl (by simp))
          rcases hb with h | h
          · exact h.1.2 e.symm
          · have := hps b e.symm
            have : W2.heap.size ≤ b := h
            omega
        · rcases hb with h | h
          · exact h.1.1
          · have : W2.heap.size ≤ b := h
            right; omega
        · rcases k3 with e' | e'
          · rw [e'] at e
            rcases hb with h | h
            · exact h.1.2 e
            · have := hps b e
              have : W2.heap.size ≤ b := h
              omega
          · rw [e'] at e; injection e; simp at *; omega
        · rcases List.mem_append.1 hc with h | h
          · exact e3 c (q5 c (List.mem_of_mem_take h))
          · rw [List.mem_singleton.1 h]; exact e2
        · rcases k3 with e' | e'
          · exact q8 x (by rw [← e']; exact hx)
          · rw [e'] at hx; injection hx with hx; simp at hx; omega
        · exact (((HFIN.out w4 h4).1).trans (T := fun _ => False) (KB.of ((Below.refl _ _).alloc (Nat.le_refl _) _)) (fun _ _ h => h.elim)).grown k2 (fun y hy hl => by have := q8 y hy; omega)
      have hst := @stepO_none cls g1 Q (xo, xn)
      have hst2 := @stepO_some cls g1 Q (xo, xn)
      rw [hdl] at hst hst2
      have HCL : Hid (∀ (pg : Nat), pa = some ⟨pg, 0, none⟩ → Calls Tryz.prog 82 #[.agg #[.int .i64 xo, .int .i64 xn, .slice (if pc = L then some ⟨pg, 0, none⟩ else some ⟨pg, L, none⟩) (Q.length - L) (pc - L)], .pointer (some ⟨qb, 0, none⟩), .pointer (some ⟨qc, 0, none⟩)] W2.drew fun e w' => e = .returned (.tuple #[.int .i64 (((cls g1 (xo, xn) (Q.drop L)).map (fun r => r.2)).getD (dfl (xo, xn))), .bool (cls g1 (xo, xn) (Q.drop L)).isSome]) ∧ KB (fun b => ((S b ∨ w.heap.size ≤ b) ∧ (Value.slice pa Q.length pc).ownBlock ≠ some b) ∧ b < wo.heap.size) W2.drew w' ∧ ∀ r, cls g1 (xo, xn) (Q.drop L) = some r → R w' (fun b => (((S b ∨ w.heap.size ≤ b) ∧ (Value.slice pa Q.length pc).ownBlock ≠ some b) ∧ b < wo.heap.size) ∨ W2.drew.heap.size ≤ b) r.1) := fun pg hpg => by
        subst hpg
        rw [show Q.length - L = m from by omega]
        refine HC.out W2.drew _ g1 (xo, xn) _ m (pc - L) (Q.drop L) HRD.out q3 q4 (sl_last hrowD hL) (fun x hx h => ?_) hnf
        have : x = pg := by
          by_cases e : pc = L
          · rw [if_pos e] at hx; injection hx with hx; exact hx.symm
          · rw [if_neg e] at hx; injection hx with hx; exact hx.symm
        subst this
        exact h.1.2 rfl
      have HCN : Hid (pa = none → Q = [] ∧ L = 0 ∧ m = 0 ∧ Calls Tryz.prog 82 #[.agg #[.int .i64 xo, .int .i64 xn, .slice none 0 0], .pointer (some ⟨qb, 0, none⟩), .pointer (some ⟨qc, 0, none⟩)] W2.drew fun e w' => e = .returned (.tuple #[.int .i64 (((cls g1 (xo, xn) (Q.drop L)).map (fun r => r.2)).getD (dfl (xo, xn))), .bool (cls g1 (xo, xn) (Q.drop L)).isSome]) ∧ KB (fun b => ((S b ∨ w.heap.size ≤ b) ∧ (Value.slice pa Q.length pc).ownBlock ≠ some b) ∧ b < wo.heap.size) W2.drew w' ∧ ∀ r, cls g1 (xo, xn) (Q.drop L) = some r → R w' (fun b => (((S b ∨ w.heap.size ≤ b) ∧ (Value.slice pa Q.length pc).ownBlock ≠ some b) ∧ b < wo.heap.size) ∨ W2.drew.heap.size ≤ b) r.1) := fun hpa => by
        subst hpa
        have hq0 : Q.length = 0 := by
          rcases q7.2 with ⟨_, h0⟩ | ⟨_, _, _, e, _⟩
          · exact h0
          · cases e
        have hQ : Q = [] := List.eq_nil_of_length_eq_zero hq0
        refine ⟨hQ, by omega, by omega, HC.out W2.drew _ g1 (xo, xn) none 0 0 (Q.drop L) HRD.out q3 q4 ⟨by rw [hkids]; omega, .inl rfl⟩ (fun x hx => by cases hx) hnf⟩
      have HZ : Hid (runO cls t (g, []) = (stepO cls (g1, Q) (xo, xn)).bind (runO cls (t.drop (k + 1)))) := by show _ = _; rw [q1, hdr]
      have hL40 : L ≤ 40 := by omega
      rcases hrowD.2 with ⟨e, h00⟩ | ⟨pg, cp, cur, e, _, _, hnc, _⟩
      · injection e with e1 e2 e3
        subst e1
        subst e3
        obtain ⟨hQ, hL0, hm0, hcl⟩ := HCN.out rfl
        subst hQ
        subst hL0
        subst hm0
        have HCC := (show Hid _ from hcl)
        clear hcl
        cases ho : cls g1 (xo, xn) (([] : List Int).drop 0) with
        | none =>
          rw [ho] at HCC
          have hz := HZ.out
          rw [hst ho] at hz
          have HZ2 : Hid (runO cls t (g, []) = none) := hz
          simp only [Option.map_none, Option.getD_none, Option.isSome_none] at HCC
          clear hz
          clear HN HK HRS HC HT HA q1 q2 q3 q4 q5 q6 q7 q8 q9 hN hSt hll hp hI s1 a1 a2 a3 hno hIk hc hdr hx hm hL hmn hnf hkids hb2 hs2 hkbD hrowD hbx HRD HCL HCN hst hst2 hdl HZ hH H0
          go_wp2_with fail
          (try rw [hW2])
          refine Calls.mono HA2.out ?_
          rintro e w1 ⟨rfl, rfl⟩
          have zD := HBX.out w1.drew (KB.refl _ _)
          clear HA2 hW2 o0 o1
          go_wp2_with fail
          (try rw [hsub])
          go_region_held3 (fun w' => w'.cell? ⟨wo.heap.size, 0, none⟩ = some (.int .i64 xo) ∧ w'.cell? ⟨wo.heap.size, 1, none⟩ = some (.int .i64 xn))
            (assumption)
            (first
            | (go_at_call 82; refine Calls.mono HCC.out ?_; rintro r w4 ⟨rfl, hk4, hR4⟩; have z4 := HBX.out w4 hk4))
          all_goals
            have HE : Hid (KB S w w4) := (HFIN.out w4 hk4).1
            clear HCC hk4 hR4 z4 zD HBX HFIN HNEXT
            go_wp2
            go_ret2
            exact ⟨by rw [HZ2.out] <;> rfl, HE.out, by rw [HZ2.out]; exact fun r hr => by cases hr⟩
        | some rr =>
          rw [ho] at HCC
          have hz := HZ.out
          rw [hst2 ho] at hz
          have HZ2 : Hid (runO cls t (g, []) = runO cls (t.drop (k + 1)) (rr.1, ([] : List Int).take 0 ++ [rr.2])) := hz
          simp only [Option.map_some, Option.getD_some, Option.isSome_some] at HCC
          clear hz
          clear HN HK HRS HC HT HA q1 q2 q3 q4 q5 q6 q7 q8 q9 hN hSt hll hp hI s1 a1 a2 a3 hno hIk hc hdr hx hm hL hmn hnf hkids hb2 hs2 hkbD hrowD hbx HRD HCL HCN hst hst2 hdl HZ hH H0
          go_wp2_with fail
          (try rw [hW2])
          refine Calls.mono HA2.out ?_
          rintro e w1 ⟨rfl, rfl⟩
          have zD := HBX.out w1.drew (KB.refl _ _)
          clear HA2 hW2 o0 o1
          go_wp2_with fail
          (try rw [hsub])
          go_region_held3 (fun w' => w'.cell? ⟨wo.heap.size, 0, none⟩ = some (.int .i64 xo) ∧ w'.cell? ⟨wo.heap.size, 1, none⟩ = some (.int .i64 xn))
            (assumption)
            (first
            | (go_at_call 82; refine Calls.mono HCC.out ?_; rintro r w4 ⟨rfl, hk4, hR4⟩; have z4 := HBX.out w4 hk4))
          all_goals
            have hrow4 := (HFIN.out w4 hk4).2
            have HNX := (show Hid _ from fun w6 v6 => HNEXT.out w4 rr w6 v6 0 ho hk4 (hR4 rr rfl))
            clear HCC hk4 hR4 z4 zD HBX HFIN HNEXT
            go_wp2_with (at_builtin; refine wpList_append_own_at _ rfl _ _ 23 rfl 0 3 i0 (.int .i64 0) 1 8 Tryz.underlying23 hi hz0 hz1 hz2 rfl (by decide) _ _ _ rfl (hrow4.alloc _) ⟨w4.heap.size, 0, none⟩ 1 1 [_] rfl rfl (cell_new1 _ _ _ _) (one_cell1 _ _) (by unfold maxLen; omega) (by omega) (Nat.zero_le _) ?_; intro v6 w6 k1 k2 _ k3; obtain ⟨a6, c6, rfl, _⟩ := row_slice k1; have HN6 := (show Hid _ from HNX.out w6 _ k1 k2 k3); clear HNX hrow4 k1 k2 k3)
            have htk : ([] : List Int).length + 1 = (([] : List Int).take 0 ++ [rr.2]).length := rfl
            go_roundw
            case rel =>
              obtain ⟨-, y2, y3, y4, y5, y6, y7, y8, y9⟩ := HN6.out
              rw [htk] at y2 y7 y8
              exact ⟨k + 1, rr.1, ([] : List Int).take 0 ++ [rr.2], a6, c6, by omega, by go_num, by first | rfl | rw [← htk], HZ2.out, y2, y3, y4, y5, y6, y7, y8, y9⟩
            case measure => simp [intOf]; omega
      · injection e with e1 e2 e3
        subst e1
        subst e3
        have hcl := HCL.out pg rfl
        obtain ⟨ka, hka⟩ : ∃ ka, (if pc = L then some (⟨pg, 0, none⟩ : Addr) else some ⟨pg, L, none⟩) = ka := ⟨_, rfl⟩
        rw [hka] at hcl
        have HCC := (show Hid _ from hcl)
        clear hcl
        have j0 : (L : Int) ≤ pc := by omega
        have j1 : (L : Int) ≤ Q.length := by omega
        have hLm : L ≤ Q.length := by omega
        cases ho : cls g1 (xo, xn) (Q.drop L) with
        | none =>
          rw [ho] at HCC
          have hz := HZ.out
          rw [hst ho] at hz
          have HZ2 : Hid (runO cls t (g, []) = none) := hz
          simp only [Option.map_none, Option.getD_none, Option.isSome_none] at HCC
          clear hz
          clear HN HK HRS HC HT HA q1 q2 q3 q4 q5 q6 q7 q8 q9 hN hSt hll hp hI s1 a1 a2 a3 hno hIk hc hdr hx hm hL hmn hnf hkids hb2 hs2 hkbD hrowD hbx HRD HCL HCN hst hst2 hdl HZ hH H0
          go_wp2_with fail
          (try rw [hW2])
          refine Calls.mono HA2.out ?_
          rintro e w1 ⟨rfl, rfl⟩
          have zD := HBX.out w1.drew (KB.refl _ _)
          clear HA2 hW2 o0 o1
          go_wp2_with fail
          (try rw [hsub])
          go_region_held3 (fun w' => w'.cell? ⟨wo.heap.size, 0, none⟩ = some (.int .i64 xo) ∧ w'.cell? ⟨wo.heap.size, 1, none⟩ = some (.int .i64 xn))
            (assumption)
            (first
            | (go_at_call 82; refine Calls.mono HCC.out ?_; rintro r w4 ⟨rfl, hk4, hR4⟩; have z4 := HBX.out w4 hk4))
          all_goals
            have HE : Hid (KB S w w4) := (HFIN.out w4 hk4).1
            clear HCC hk4 hR4 z4 zD HBX HFIN HNEXT
            go_wp2
            go_ret2
            exact ⟨by rw [HZ2.out] <;> rfl, HE.out, by rw [HZ2.out]; exact fun r hr => by cases hr⟩
        | some rr =>
          rw [ho] at HCC
          have hz := HZ.out
          rw [hst2 ho] at hz
          have HZ2 : Hid (runO cls t (g, []) = runO cls (t.drop (k + 1)) (rr.1, Q.take L ++ [rr.2])) := hz
          simp only [Option.map_some, Option.getD_some, Option.isSome_some] at HCC
          clear hz
          clear HN HK HRS HC HT HA q1 q2 q3 q4 q5 q6 q7 q8 q9 hN hSt hll hp hI s1 a1 a2 a3 hno hIk hc hdr hx hm hL hmn hnf hkids hb2 hs2 hkbD hrowD hbx HRD HCL HCN hst hst2 hdl HZ hH H0
          go_wp2_with fail
          (try rw [hW2])
          refine Calls.mono HA2.out ?_
          rintro e w1 ⟨rfl, rfl⟩
          have zD := HBX.out w1.drew (KB.refl _ _)
          clear HA2 hW2 o0 o1
          go_wp2_with fail
          (try rw [hsub])
          go_region_held3 (fun w' => w'.cell? ⟨wo.heap.size, 0, none⟩ = some (.int .i64 xo) ∧ w'.cell? ⟨wo.heap.size, 1, none⟩ = some (.int .i64 xn))
            (assumption)
            (first
            | (go_at_call 82; refine Calls.mono HCC.out ?_; rintro r w4 ⟨rfl, hk4, hR4⟩; have z4 := HBX.out w4 hk4))
          all_goals
            have hrow4 := own_cut (HFIN.out w4 hk4).2 hLm
            have HNX := (show Hid _ from fun w6 v6 => HNEXT.out w4 rr w6 v6 0 ho hk4 (hR4 rr rfl))
            clear HCC hk4 hR4 z4 zD HBX HFIN HNEXT
            go_wp2_with (at_builtin; refine wpList_append_own_at _ rfl _ _ 23 rfl 0 3 i0 (.int .i64 0) 1 8 Tryz.underlying23 hi hz0 hz1 hz2 rfl (by decide) _ _ _ rfl (hrow4.alloc _) ⟨w4.heap.size, 0, none⟩ 1 1 [_] rfl rfl (cell_new1 _ _ _ _) (one_cell1 _ _) (by unfold maxLen; omega) (by omega) (Nat.zero_le _) ?_; intro v6 w6 k1 k2 _ k3; obtain ⟨a6, c6, rfl, _⟩ := row_slice k1; have HN6 := (show Hid _ from HNX.out w6 _ (by rw [vals_take]; exact k1) k2 k3); clear HNX hrow4 k1 k2 k3)
            have htk : L + 1 = (Q.take L ++ [rr.2]).length := by rw [List.length_append, List.length_take]; simp; omega
            go_roundw
            case rel =>
              obtain ⟨-, y2, y3, y4, y5, y6, y7, y8, y9⟩ := HN6.out
              rw [htk] at y2 y7 y8
              exact ⟨k + 1, rr.1, Q.take L ++ [rr.2], a6, c6, by omega, by go_num, by first | rfl | rw [← htk], HZ2.out, y2, y3, y4, y5, y6, y7, y8, y9⟩
            case measure => simp [intOf]; omega
    · obtain rfl : k = tl := by omega
      obtain ⟨q1, q2, q3, q4, q5, q6, q7, q8, q9⟩ := hH.out
      obtain ⟨hN, hSt, hll, hp, hI⟩ := HN.out
      have hc1 : cnt t k = 1 := by unfold cnt; rw [List.take_of_length_le (by omega), hp]; rfl
      have hQ1 : Q.length = 1 := by omega
      rw [List.drop_of_length_le (by omega)] at q1
      have HZ2 : Hid (runO cls t (g, []) = some (g1, Q)) := q1
      have hrow := q7
      rw [hQ1] at hrow
      obtain ⟨pg, cp, e, hgl, hcp⟩ : ∃ pg cp, (Value.slice pa 1 pc) = .slice (some ⟨pg, 0, none⟩) 1 cp ∧ pg < wo.heap.size ∧ wo.cell? ⟨pg, 0, none⟩ = some (.int .i64 (Q.getD 0 0)) := by
        rcases hrow.2 with ⟨_, h0⟩ | ⟨pg, cp, cur, e, _, hg, _⟩
        · omega
        · refine ⟨pg, cp, e, (Array.getElem?_eq_some_iff.1 hg).1, ?_⟩
          injection e with e1 e2 e3
          subst e1
          rw [hrow.cellAt 0 (by omega)]
          simp [vals, List.getD_eq_getElem?_getD, show 0 < Q.length by omega]
      injection e with e1 e2 e3
      subst e1
      subst e3
      have HE : Hid (KB S w wo ∧ R wo (fun b => S b ∨ w.heap.size ≤ b) g1) := ⟨q9, HRS.out wo wo _ _ g1 q2 (Nat.le_refl _) (fun _ _ _ => rfl) (fun _ _ => rfl) (fun b _ h => h.1)⟩
      obtain ⟨z, hz⟩ : ∃ z, Q.getD 0 0 = z := ⟨_, rfl⟩
      rw [hz] at hcp
      have HZz := (show Hid _ from hz)
      rw [hQ1]
      clear q1 q2 q3 q4 q5 q6 q7 q8 q9 hN hSt hll hp hI hrow hz hH H0 HN HK HRS HC HT
      go_wp2
      go_ret2
      refine ⟨?_, HE.out.1, ?_⟩
      · rw [HZ2.out]
        show _ = Ending.returned (.tuple #[.int .i64 (Q.getD 0 0), .bool true])
        rw [HZz.out] <;> rfl
      · rw [HZ2.out]
        exact fun r hr => by cases hr; exact HE.out.2
end Go.Proofs.YtobgkfpjokfbaaaGreatDoor
