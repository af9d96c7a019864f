/-
  PROVED HERE: what the model's and the program's RuleText answer, at every two lists of nodes, and the law FnExactRuleText's own run. The tables are laid. No other condition.
-/
import Derived.Test.YtbchehpggoampaaDoorR8Good
import Derived.Test.YtbchehpggoampaaDoorR8Copy
import Derived.Test.YtbchehpggoampaaDoorIText
namespace Go.Proofs.YtbchehpggoampaaDoor
open Go.ChangeShapes Go.WideShapes Go.ChangeAt Go.RowKit
set_option linter.unusedVariables false

/-- What is told of a rule: its text, or none. -/
def ruleT (p q : List (Int × Int)) : List UInt8 := if ruleB p q = true then textT p ++ ([61, 62] ++ textT q) else []
theorem patB_goodT {p : List (Int × Int)} (h : patB p = true) : goodB p = true ∧ p.length ≤ 7 := by
  unfold patB at h
  simp only [Bool.and_eq_true, decide_eq_true_eq] at h
  exact h
theorem ruleB_two {p q : List (Int × Int)} (h : ruleB p q = true) : (goodB p = true ∧ p.length ≤ 7) ∧ goodB q = true ∧ q.length ≤ 7 := by
  unfold ruleB at h
  simp only [Bool.and_eq_true] at h
  exact ⟨patB_goodT h.1, patB_goodT h.2⟩
theorem textT_few {p : List (Int × Int)} (hg : goodB p = true) (hn : InN p) : (textT p).length ≤ 40000000 := by
  obtain ⟨hp, g1, g2⟩ := good_pile hg
  have := textG_len hp (fun j hj => itoa_len _ (hn j)) p.length (p.length - 1) (by omega) (by omega) p.length (by omega)
  unfold textT
  omega
theorem held_bR {A B : Prop} {w2 wp : World} (h : A ∧ B ∧ Below w2.heap.size w2 wp) : Below w2.heap.size w2 wp := h.2.2
theorem held_stepR {A B : Prop} {w2 wp w4 : World} (h : A ∧ B ∧ Below w2.heap.size w2 wp) (hb : Below wp.heap.size wp w4) : Below w2.heap.size w2 w4 := h.2.2.trans (hb.mono h.2.2.size)
set_option maxHeartbeats 1600000 in
set_option maxRecDepth 20000 in
theorem specRuleText_any (a b : Option Addr) (len cap lb cb : Nat) (p q : List (Int × Int)) (w : World) (h : NSl w a len p) (hl : NSl w b lb q) (hm : len ≤ 9223372036854775807) (hm2 : lb ≤ 9223372036854775807) (hn : InN p) (hn2 : InN q) :
    Calls Tryd.prog 18 #[.agg #[.slice a len cap, .slice b lb cb]] w fun e w' => e = .returned (.tuple #[.string ⟨(ruleT p q).toArray⟩, .bool (ruleB p q)]) ∧ Below w.heap.size w w' := by
  have hll := h.1
  have hl1 := hl.1
  obtain ⟨W1, hW1⟩ : ∃ W1, w.alloc (.cells #[.slice a len cap, .slice b lb cb] 29) = W1 := ⟨_, rfl⟩
  have hb1 : Below w.heap.size w W1 := by rw [← hW1]; exact (Below.refl _ _).alloc (Nat.le_refl _) _
  have n0 : W1.cell? ⟨w.heap.size, 0, none⟩ = some (.slice a len cap) := by rw [← hW1]; simp [go_sem]
  have n1 : W1.cell? ⟨w.heap.size, 1, none⟩ = some (.slice b lb cb) := by rw [← hW1]; simp [go_sem]
  have hs1 : w.heap.size < W1.heap.size := by rw [← hW1]; simp
  have HB : Hid (∀ W, Below W1.heap.size W1 W → Below w.heap.size w W) := fun W hW => hb1.trans (hW.mono hb1.size)
  have HG := (show Hid _ from specRule_any a b len cap lb cb p q W1 (h.keep hb1) (hl.keep hb1) hm hm2)
  unfold ruleT
  cases hr : ruleB p q with
  | false =>
    rw [hr] at HG
    rw [if_neg (by decide)]
    clear h hl hb1 hr hn hn2
    go_enter Tryd.func18, Tryd.ntmps18
    go_wp2_with fail
    (try rw [hW1])
    refine Calls.mono HG.out ?_
    rintro e w2 ⟨rfl, hb2⟩
    have HB2 := (show Hid _ from HB.out _ hb2)
    clear HG hW1
    go_wp2
    go_ret2
    exact ⟨rfl, HB2.out⟩
  | true =>
    rw [hr] at HG
    rw [if_pos rfl]
    obtain ⟨⟨gp, gp7⟩, gq, gq7⟩ := ruleB_two hr
    have B0 := textT_few gp hn
    have B1 := textT_few gq hn2
    have hEv : ∀ (g : Option Addr) (n c : Nat) (r : List (Int × Int)), goodB r = true → NSl w g n r → r.length ≤ 7 → n = r.length → InN r → Hid (∀ W, Below W1.heap.size W1 W → Calls Tryd.prog 42 #[.slice g n c, .int .i64 ((n : Int) - 1)] W fun e w' => e = .returned (.string ⟨(textT r).toArray⟩) ∧ Below W.heap.size W w') := fun g n c r gr hr h7 hn hI W hW => by
      obtain ⟨hp, g1, g2⟩ := good_pile gr
      have E := text_any hp hI g n c (by omega) hn.symm n (n - 1) (by omega) (by omega)
      unfold TextAt at E
      rw [show ((n - 1 : Nat) : Int) = (n : Int) - 1 from by omega] at E
      rw [show textT r = textG r n (n - 1) from by unfold textT; rw [← hn]]
      exact E W ((hr.keep hb1).keep hW)
    have HE1 := hEv a len cap p gp h gp7 hll.symm hn
    have HE2 := hEv b lb cb q gq hl gq7 hl1.symm hn2
    clear hEv
    have i0 := good_pile gp
    have i1 := good_pile gq
    have j1 : (1 : Int) ≤ len := by omega
    have j2 : (len : Int) ≤ 40 := by omega
    have j3 : (1 : Int) ≤ lb := by omega
    have j4 : (lb : Int) ≤ 40 := by omega
    generalize textT p = L at HE1 B0 ⊢
    generalize textT q = M at HE2 B1 ⊢
    have g1 : ¬ 9223372036854775807 < L.length + 2 := by omega
    have g2 : ¬ 9223372036854775807 < L.length + 2 + M.length := by omega
    have k1 : IntKind.i64.wrap ((len : Int) - 1) = (len : Int) - 1 := by rw [IntKind.wrap_i64]; omega
    have k2 : IntKind.i64.wrap ((lb : Int) - 1) = (lb : Int) - 1 := by rw [IntKind.wrap_i64]; omega
    have KS : Hid (∀ w', Below W1.heap.size W1 w' → w'.cell? ⟨w.heap.size, 0, none⟩ = some (.slice a len cap) ∧ w'.cell? ⟨w.heap.size, 1, none⟩ = some (.slice b lb cb) ∧ Below W1.heap.size W1 w') := fun w' h' =>
      ⟨(h'.cell (p := ⟨w.heap.size, 0, none⟩) hs1).trans n0, (h'.cell (p := ⟨w.heap.size, 1, none⟩) hs1).trans n1, h'⟩
    clear h hl hb1 hr hn hn2 gp gq gp7 gq7 i0 i1 hll hl1
    go_enter Tryd.func18, Tryd.ntmps18
    go_wp2_with fail
    (try rw [hW1])
    refine Calls.mono HG.out ?_
    rintro e w2 ⟨rfl, hb2⟩
    obtain ⟨q0, q1, qb⟩ := KS.out _ hb2.drew
    clear HG hW1 hb2
    go_wp2_with fail
    go_region_held3 (fun w' => w'.cell? ⟨w.heap.size, 0, none⟩ = some (.slice a len cap) ∧ w'.cell? ⟨w.heap.size, 1, none⟩ = some (.slice b lb cb) ∧ Below W1.heap.size W1 w')
      ((refine KS.out _ ?_; first | assumption | exact held_bR (by assumption) | exact qb))
      (first
        | (go_at_call_of 42 a; refine (HE1.out _ (held_bR (by assumption))).mono ?_; rintro e w4 ⟨rfl, hb4⟩; have hk4 := held_stepR (by assumption) hb4; clear hb4)
        | (go_at_call_of 42 b; refine (HE2.out _ (held_bR (by assumption))).mono ?_; rintro e w5 ⟨rfl, hb5⟩; have hk5 := held_stepR (by assumption) hb5; clear hb5))
    all_goals
      go_wp2
      go_ret2
      refine ⟨congrArg (fun b => Ending.returned (Value.tuple #[Value.string b, .bool true])) (by simp [ByteArray.mk_append_mk]), HB.out _ ?_⟩
      first | assumption | exact held_bR (by assumption)
set_option maxHeartbeats 1600000 in
theorem implRuleText_any (a b : Option Addr) (len cap lb cb : Nat) (p q : List (Int × Int)) (w : World) (hT : Tab w) (hP : Pow w) (hS : Sig w) (h : NSl w a len p) (hl : NSl w b lb q) (hm : len ≤ 9223372036854775807) (hm2 : lb ≤ 9223372036854775807) (hn : InN p) (hn2 : InN q) :
    Calls Tryd.prog 19 #[.agg #[.slice a len cap, .slice b lb cb]] w fun e w' => e = .returned (.tuple #[.string ⟨(ruleT p q).toArray⟩, .bool (ruleB p q)]) ∧ Below w.heap.size w w' := by
  have hll := h.1
  have hl1 := hl.1
  obtain ⟨W1, hW1⟩ : ∃ W1, w.alloc (.cells #[.slice a len cap, .slice b lb cb] 29) = W1 := ⟨_, rfl⟩
  have hb1 : Below w.heap.size w W1 := by rw [← hW1]; exact (Below.refl _ _).alloc (Nat.le_refl _) _
  have n0 : W1.cell? ⟨w.heap.size, 0, none⟩ = some (.slice a len cap) := by rw [← hW1]; simp [go_sem]
  have n1 : W1.cell? ⟨w.heap.size, 1, none⟩ = some (.slice b lb cb) := by rw [← hW1]; simp [go_sem]
  have hs1 : w.heap.size < W1.heap.size := by rw [← hW1]; simp
  have HB : Hid (∀ W, Below W1.heap.size W1 W → Below w.heap.size w W) := fun W hW => hb1.trans (hW.mono hb1.size)
  have HG := (show Hid _ from implRule_any a b len cap lb cb p q W1 (hT.keeps hb1) (h.keep hb1) (hl.keep hb1) hm hm2)
  unfold ruleT
  cases hr : ruleB p q with
  | false =>
    rw [hr] at HG
    rw [if_neg (by decide)]
    clear h hl hb1 hr hn hn2 hT hP hS
    go_enter Tryd.func19, Tryd.ntmps19
    go_wp2_with fail
    (try rw [hW1])
    refine Calls.mono HG.out ?_
    rintro e w2 ⟨rfl, hb2⟩
    have HB2 := (show Hid _ from HB.out _ hb2)
    clear HG hW1
    go_wp2
    go_ret2
    exact ⟨rfl, HB2.out⟩
  | true =>
    rw [hr] at HG
    rw [if_pos rfl]
    obtain ⟨⟨gp, gp7⟩, gq, gq7⟩ := ruleB_two hr
    have B0 := textT_few gp hn
    have B1 := textT_few gq hn2
    have hEv : ∀ (g : Option Addr) (n c : Nat) (r : List (Int × Int)), goodB r = true → NSl w g n r → n ≤ 9223372036854775807 → InN r → Hid (∀ W, Below W1.heap.size W1 W → Calls Tryd.prog 43 #[.slice g n c] W fun e w' => e = .returned (.tuple #[.string ⟨(textT r).toArray⟩, .bool true]) ∧ Below W.heap.size W w') := fun g n c r gr hr hn hI W hW => by
      have E := implText_any g n c r W ((hT.keeps hb1).keeps hW) ((hP.keep hb1).keep hW) ((hS.keep hb1).keep hW) ((hr.keep hb1).keep hW) hn hI
      unfold termT at E
      rw [gr, if_pos rfl] at E
      exact E
    have HE1 := hEv a len cap p gp h hm hn
    have HE2 := hEv b lb cb q gq hl hm2 hn2
    clear hEv
    generalize textT p = L at HE1 B0 ⊢
    generalize textT q = M at HE2 B1 ⊢
    have g1 : ¬ 9223372036854775807 < L.length + 2 := by omega
    have g2 : ¬ 9223372036854775807 < L.length + 2 + M.length := by omega
    clear h hl hb1 hr hn hn2 gp gq gp7 gq7 hll hl1 hT hP hS
    go_enter Tryd.func19, Tryd.ntmps19
    go_wp2_with fail
    (try rw [hW1])
    refine Calls.mono HG.out ?_
    rintro e w2 ⟨rfl, hb2⟩
    have q0 := (hb2.cell (p := ⟨w.heap.size, 0, none⟩) hs1).trans n0
    have HB2 := (show Hid _ from hb2)
    clear HG hW1 hb2
    go_wp2_with fail
    refine Calls.mono (HE1.out _ HB2.out) ?_
    rintro e w3 ⟨rfl, hb3⟩
    have hB3 := HB2.out.trans (hb3.mono HB2.out.size)
    have q1 := (hB3.cell (p := ⟨w.heap.size, 1, none⟩) hs1).trans n1
    have HB3 := (show Hid _ from hB3)
    clear hb3 hB3 q0
    go_wp2_with fail
    refine Calls.mono (HE2.out _ HB3.out) ?_
    rintro e w4 ⟨rfl, hb4⟩
    have HB4 := (show Hid _ from HB.out _ (HB3.out.trans (hb4.mono HB3.out.size)))
    clear hb4
    go_wp2
    go_ret2
    refine ⟨congrArg (fun b => Ending.returned (Value.tuple #[Value.string b, .bool true])) (by simp [ByteArray.mk_append_mk]), HB4.out⟩
set_option maxHeartbeats 3200000 in
theorem ruleTextLaw_any (a b : Option Addr) (len cap lb cb : Nat) (p q : List (Int × Int)) (w : World) (ht : Tab w) (hP : Pow w) (hS : Sig w) (hnp : InN p) (hnq : InN q) (h : NSl w a len p) (hl : NSl w b lb q) (hm : len ≤ 9223372036854775807) (hm2 : lb ≤ 9223372036854775807) :
    Calls Tryd.prog 5 #[.agg #[.slice a len cap, .slice b lb cb]] w fun e w' => e = .returned (.bool true) ∧ Below w.heap.size w w' := by
  obtain ⟨W1, hW1⟩ : ∃ W1, w.alloc (.cells #[.slice a len cap, .slice b lb cb] 24) = W1 := ⟨_, rfl⟩
  have hb1 : Below w.heap.size w W1 := by rw [← hW1]; exact (Below.refl _ _).alloc (Nat.le_refl _) _
  have n0 : W1.cell? ⟨w.heap.size, 0, none⟩ = some (.slice a len cap) := by rw [← hW1]; simp [go_sem]
  have n1 : W1.cell? ⟨w.heap.size, 1, none⟩ = some (.slice b lb cb) := by rw [← hW1]; simp [go_sem]
  have hs1 : w.heap.size < W1.heap.size := by rw [← hW1]; simp
  have HZ := (show Hid _ from szR_any a b len cap lb cb 1048576 W1 (Nat.le_refl _) hm hm2)
  have HF : Hid (∀ W, Below W1.heap.size W1 W → Below w.heap.size w W) := fun W hW => hb1.trans (hW.mono hb1.size)
  have HT : Hid (∀ W, Below W1.heap.size W1 W → (Tab W ∧ Pow W ∧ Sig W) ∧ NSl W a len p ∧ NSl W b lb q) := fun W hW => ⟨⟨(ht.keeps hb1).keeps hW, (hP.keep hb1).keep hW, (hS.keep hb1).keep hW⟩, (h.keep hb1).keep hW, (hl.keep hb1).keep hW⟩
  by_cases hfit : len + lb ≤ 1048576
  · have hz : ¬ szRV 1048576 len lb < 0 := by unfold szRV; rw [if_pos hfit]; omega
    have hn : len ≤ 1048576 := by omega
    have hn2 : lb ≤ 1048576 := by omega
    have HC : Hid (∀ W, Below W1.heap.size W1 W → Calls Tryd.prog 11 #[.agg #[.slice a len cap, .slice b lb cb]] W fun e w' => ∃ g gp, e = .returned (.agg #[.slice (some ⟨g, 0, none⟩) len len, .slice (some ⟨gp, 0, none⟩) lb lb]) ∧ Below W.heap.size W w' ∧ NSl w' (some ⟨g, 0, none⟩) len p ∧ NSl w' (some ⟨gp, 0, none⟩) lb q) := fun W hW => copyR_any a b len cap lb cb p q W (HT.out W hW).2.1 (HT.out W hW).2.2 hn hn2
    have HSp : Hid (∀ W (g gp : Nat), NSl W (some ⟨g, 0, none⟩) len p → NSl W (some ⟨gp, 0, none⟩) lb q → Calls Tryd.prog 18 #[.agg #[.slice (some ⟨g, 0, none⟩) len len, .slice (some ⟨gp, 0, none⟩) lb lb]] W fun e w' => e = .returned (.tuple #[.string ⟨(ruleT p q).toArray⟩, .bool (ruleB p q)]) ∧ Below W.heap.size W w') := fun W g gp h1 h2 => specRuleText_any _ _ len len lb lb p q W h1 h2 hm hm2 hnp hnq
    have HIm : Hid (∀ W (g gp : Nat), Tab W ∧ Pow W ∧ Sig W → NSl W (some ⟨g, 0, none⟩) len p → NSl W (some ⟨gp, 0, none⟩) lb q → Calls Tryd.prog 19 #[.agg #[.slice (some ⟨g, 0, none⟩) len len, .slice (some ⟨gp, 0, none⟩) lb lb]] W fun e w' => e = .returned (.tuple #[.string ⟨(ruleT p q).toArray⟩, .bool (ruleB p q)]) ∧ Below W.heap.size W w') := fun W g gp h0 h1 h2 => implRuleText_any _ _ len len lb lb p q W h0.1 h0.2.1 h0.2.2 h1 h2 hm hm2 hnp hnq
    have HQ : Hid (∀ W (g gp g' gp' : Nat), NSl W (some ⟨g, 0, none⟩) len p → NSl W (some ⟨gp, 0, none⟩) lb q → NSl W (some ⟨g', 0, none⟩) len p → NSl W (some ⟨gp', 0, none⟩) lb q → Calls Tryd.prog 13 #[.agg #[.slice (some ⟨g, 0, none⟩) len len, .slice (some ⟨gp, 0, none⟩) lb lb], .agg #[.slice (some ⟨g', 0, none⟩) len len, .slice (some ⟨gp', 0, none⟩) lb lb]] W fun e w' => e = .returned (.bool true) ∧ Below W.heap.size W w') := fun W g gp g' gp' h1 h2 h3 h4 => eqR_same _ _ _ _ len len len lb lb lb p q W h1 h3 h2 h4 hn hn2
    generalize ruleB p q = B at HSp HIm
    generalize ruleT p q = T at HSp HIm
    have hTT : (T == T) = true := by simp
    generalize szRV 1048576 len lb = s at HZ hz
    have hBB : (B != B) = false := by simp
    clear h hl hb1 ht hP hS hnp hnq hn hn2 hfit
    go_enter Tryd.func5, Tryd.ntmps5
    go_wp2_with fail
    (try rw [hW1])
    refine Calls.mono HZ.out ?_
    rintro e w2 ⟨rfl, hb2⟩
    have q0 := (hb2.cell (p := ⟨w.heap.size, 0, none⟩) hs1).trans n0
    have q1 := (hb2.cell (p := ⟨w.heap.size, 1, none⟩) hs1).trans n1
    clear HZ hW1
    go_wp2_with fail
    refine Calls.mono (HC.out _ hb2) ?_
    rintro e w3 ⟨g, gp, rfl, hb3, hE3, hS3⟩
    have hB3 : Below W1.heap.size W1 w3 := hb2.trans (hb3.mono hb2.size)
    clear hb3 q0 q1
    go_wp2_with fail
    refine Calls.mono (HSp.out _ _ _ hE3 hS3) ?_
    rintro e w4 ⟨rfl, hb4⟩
    have hB4 : Below W1.heap.size W1 w4 := hB3.trans (hb4.mono hB3.size)
    have q0 := (hB4.cell (p := ⟨w.heap.size, 0, none⟩) hs1).trans n0
    have q1 := (hB4.cell (p := ⟨w.heap.size, 1, none⟩) hs1).trans n1
    clear hb4 hE3 hS3 hB3
    go_wp2_with fail
    refine Calls.mono (HC.out _ hB4) ?_
    rintro e w5 ⟨g2, gp2, rfl, hb5, hE5, hS5⟩
    have hB5 : Below W1.heap.size W1 w5 := hB4.trans (hb5.mono hB4.size)
    clear hb5 hB4 q0 q1
    obtain ⟨W6, hW6⟩ : ∃ W6, w5.alloc (.cells #[.slice (some ⟨g2, 0, none⟩) len len, .slice (some ⟨gp2, 0, none⟩) lb lb] 29) = W6 := ⟨_, rfl⟩
    have hb6 : Below w5.heap.size w5 W6 := by rw [← hW6]; exact (Below.refl _ _).alloc (Nat.le_refl _) _
    have t0 : W6.cell? ⟨w5.heap.size, 0, none⟩ = some (.slice (some ⟨g2, 0, none⟩) len len) := by rw [← hW6]; simp [go_sem]
    have t1 : W6.cell? ⟨w5.heap.size, 1, none⟩ = some (.slice (some ⟨gp2, 0, none⟩) lb lb) := by rw [← hW6]; simp [go_sem]
    have hs6 : w5.heap.size < W6.heap.size := by rw [← hW6]; simp
    have hB6 : Below W1.heap.size W1 W6 := hB5.trans (hb6.mono hB5.size)
    have hE6 := hE5.keep hb6
    have hS6 := hS5.keep hb6
    have hT6 := (HT.out _ hB6).1
    clear hb6 hB5 hE5 hS5
    go_wp2_with fail
    (try rw [hW6])
    refine Calls.mono (HIm.out _ _ _ hT6 hE6 hS6) ?_
    rintro e w7 ⟨rfl, hb7⟩
    have hb7d : Below W6.heap.size W6 w7.drew := hb7.drew
    have hB7 : Below W1.heap.size W1 w7.drew := hB6.trans (hb7d.mono hB6.size)
    have hE7 := hE6.keep hb7d
    have hS7 := hS6.keep hb7d
    have v0 : w7.drew.cell? ⟨w5.heap.size, 0, none⟩ = some (.slice (some ⟨g2, 0, none⟩) len len) := (hb7d.cell (p := ⟨w5.heap.size, 0, none⟩) hs6).trans t0
    have v1 : w7.drew.cell? ⟨w5.heap.size, 1, none⟩ = some (.slice (some ⟨gp2, 0, none⟩) lb lb) := (hb7d.cell (p := ⟨w5.heap.size, 1, none⟩) hs6).trans t1
    have q0 : w7.drew.cell? ⟨w.heap.size, 0, none⟩ = some (.slice a len cap) := (hB7.cell (p := ⟨w.heap.size, 0, none⟩) hs1).trans n0
    have q1 : w7.drew.cell? ⟨w.heap.size, 1, none⟩ = some (.slice b lb cb) := (hB7.cell (p := ⟨w.heap.size, 1, none⟩) hs1).trans n1
    have hs7 : w5.heap.size < w7.drew.heap.size := Nat.lt_of_lt_of_le hs6 hb7d.size
    have HB7 : Hid (Below W1.heap.size W1 w7.drew) := hB7
    have HE7 : Hid (NSl w7.drew (some ⟨g2, 0, none⟩) len p ∧ NSl w7.drew (some ⟨gp2, 0, none⟩) lb q) := ⟨hE7, hS7⟩
    clear hb7 hb7d hB6 hE6 hS6 hT6 t0 t1 hW6 hs6 hB7 hE7 hS7 HSp HIm
    go_wp2_with fail
    go_region_with (first
      | (go_at_call 11; refine Calls.mono (HC.out _ HB7.out) ?_; rintro e w8 ⟨g3, gp3, rfl, hb8, hE8, hS8⟩; have hB8 := HB7.out.trans (hb8.mono HB7.out.size); have hE9 := HE7.out.1.keep hb8; have hS9 := HE7.out.2.keep hb8; have x0 := (hb8.cell (p := ⟨w5.heap.size, 0, none⟩) hs7).trans v0; have x1 := (hb8.cell (p := ⟨w5.heap.size, 1, none⟩) hs7).trans v1; clear hb8)
      | (go_at_call 13; refine Calls.mono (HQ.out _ _ _ _ _ hE9 hS9 hE8 hS8) ?_; rintro e w9 ⟨rfl, hb9⟩; have hB9 := hB8.trans (hb9.mono hB8.size); clear hb9))
    all_goals
      have HB9 := (show Hid _ from HF.out _ hB9)
      clear hB9 hB8 hE8 hS8 hE9 hS9
      go_wp2
      go_ret
      exact ⟨rfl, HB9.out⟩
  · have hz : szRV 1048576 len lb = -1 := by unfold szRV; rw [if_neg hfit]
    rw [hz] at HZ
    clear h hl hb1 ht hP hS hnp hnq HT hz hfit
    go_enter Tryd.func5, Tryd.ntmps5
    go_wp2_with fail
    (try rw [hW1])
    refine Calls.mono HZ.out ?_
    rintro e w2 ⟨rfl, hb2⟩
    clear HZ hW1
    go_wp2
    go_ret
    exact ⟨rfl, HF.out _ hb2⟩
end Go.Proofs.YtbchehpggoampaaDoor
