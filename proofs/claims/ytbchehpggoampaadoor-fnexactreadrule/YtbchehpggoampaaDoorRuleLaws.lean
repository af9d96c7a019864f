/-
  PROVED HERE: what the laws' marking of a rule that owns its memory leaves, and that the marks are held. No other condition. the law FnExactReadRule's own run. The tables are laid, and the library's bound on short searches holds some number. No other condition.
-/
import Derived.Test.YtbchehpggoampaaDoorR8Copy
import Derived.Test.YtbchehpggoampaaDoorRuleReads
import Derived.Test.YtbchehpggoampaaDoorNodeMarks
namespace Go.Proofs.YtbchehpggoampaaDoor
open Go.ChangeShapes Go.WideShapes Go.ChangeAt Go.RowKit
set_option linter.unusedVariables false

theorem markK_row (base e k : Nat) (v : Value) (n : Nat) (L : List (Int × Int)) (w : World) (h : w.ownsRow base e 2 v n (flat L)) (hn : n ≤ 1048576) (hk : k ≤ 16777216) :
    Calls Tryd.prog 40 #[v, .int .i64 k] w fun e w' => e = .returned (.int .i64 (k + 2 * n : Nat)) ∧ w.grownBy w' v.ownBlock ∧ ∃ a cap, v = .slice a n cap ∧ NSl w' a n (marks k n) := by
  rcases h.2 with ⟨rfl, rfl⟩ | ⟨g, cap, cur, rfl, hb, hg, _⟩
  · go_enter Tryd.func40, Tryd.ntmps40
    go_wp2
    go_loopw [1, 5] (fun x i wr => i = .int .i64 0 ∧ x = .int .i64 k ∧ wr = w) (fun _ _ _ => 0)
    case atStart => exact ⟨rfl, rfl, rfl⟩
    case round =>
      obtain ⟨rfl, rfl, rfl⟩ := hrel
      go_wp2
      go_ret
      exact ⟨rfl, World.grownBy.refl _ _, _, _, rfl, rfl, .inl rfl⟩
  · refine (mark_any g 0 n cap k w (Mine.of h) hn hk).mono ?_
    rintro e w' ⟨rfl, hgr, hs⟩
    exact ⟨rfl, hgr, _, _, rfl, hs⟩
/-- A rule's two lists hold marks from k on. -/
def HeldR (w : World) (k : Nat) (v u : Value) (m n : Nat) : Prop := ∃ a c b d, v = .slice a m c ∧ u = .slice b n d ∧ NSl w a m (marks k m) ∧ NSl w b n (marks (k + 2 * m) n)
theorem HeldR.keep {w w' : World} {k : Nat} {v u : Value} {m n : Nat} (h : HeldR w k v u m n) (hb : Below w.heap.size w w') : HeldR w' k v u m n := by
  obtain ⟨a, c, b, d, h1, h2, h3, h4⟩ := h
  exact ⟨a, c, b, d, h1, h2, h3.keep hb, h4.keep hb⟩
theorem nsl_grown {w w' : World} {a : Option Addr} {n cap : Nat} {l : List (Int × Int)} {r : Option Nat} (h : NSl w a n l) (hg : w.grownBy w' r) (hne : ∀ x, (Value.slice a n cap).ownBlock = some x → r ≠ some x) : NSl w' a n l := by
  refine ⟨h.1, ?_⟩
  rcases h.2 with h0 | ⟨b, off, rfl, h1, h2⟩
  · exact .inl h0
  · have hb := hg.block b h1 (Ne.symm (hne b rfl))
    refine .inr ⟨b, off, rfl, Nat.lt_of_lt_of_le h1 hg.size, fun i hi => ?_⟩
    obtain ⟨h3, h4⟩ := h2 i hi
    exact ⟨(World.cell?_of_block (a := ⟨b, off + i * 2, none⟩) hb).trans h3, (World.cell?_of_block (a := ⟨b, off + i * 2 + 1, none⟩) hb).trans h4⟩
set_option maxHeartbeats 1600000 in
theorem markR_any (lo k : Nat) (v u : Value) (p q : List (Int × Int)) (w : World) (h : TwoR w lo v u p q) (hlo : lo ≤ w.heap.size) (hp : p.length ≤ 1000) (hq : q.length ≤ 1000) (hk : k ≤ 10000000) :
    Calls Tryd.prog 16 #[.agg #[v, u], .int .i64 k] w fun e w' => e = .returned (.int .i64 (k + 2 * p.length + 2 * q.length : Nat)) ∧ Below lo w w' ∧ HeldR w' k v u p.length q.length ∧ ∀ b, b < w.heap.size → v.ownBlock ≠ some b → u.ownBlock ≠ some b → w'.heap[b]? = w.heap[b]? := by
  obtain ⟨W1, hW1⟩ : ∃ W1, w.alloc (.cells #[v, u] 29) = W1 := ⟨_, rfl⟩
  have hb1 : Below w.heap.size w W1 := by rw [← hW1]; exact (Below.refl _ _).alloc (Nat.le_refl _) _
  have hs1 : W1.heap.size = w.heap.size + 1 := by rw [← hW1]; simp
  obtain ⟨av, cv, rfl⟩ := own_shape h.1
  obtain ⟨au, cu, rfl⟩ := own_shape h.2.1
  have n0 : W1.cell? ⟨w.heap.size, 0, none⟩ = some (.slice av p.length cv) := by rw [← hW1]; simp [go_sem]
  have n1 : W1.cell? ⟨w.heap.size, 1, none⟩ = some (.slice au q.length cu) := by rw [← hW1]; simp [go_sem]
  have h1 := h.keep hb1
  have hbv : ∀ x, (Value.slice av p.length cv).ownBlock = some x → x < w.heap.size ∧ lo ≤ x := fun x hx => ⟨own_in h.1 x hx, own_ge h.1 x hx⟩
  have hbu : ∀ x, (Value.slice au q.length cu).ownBlock = some x → x < w.heap.size ∧ lo ≤ x := fun x hx => ⟨own_in h.2.1 x hx, own_ge h.2.1 x hx⟩
  have HV := (show Hid _ from markK_row lo _ k _ _ _ W1 h1.1 (by omega) (by omega))
  have HU : Hid (∀ w2, W1.grownBy w2 (Value.slice av p.length cv).ownBlock → Calls Tryd.prog 40 #[.slice au q.length cu, .int .i64 ((k + 2 * p.length : Nat) : Int)] w2 fun e w' => e = .returned (.int .i64 (k + 2 * p.length + 2 * q.length : Nat)) ∧ w2.grownBy w' (Value.slice au q.length cu).ownBlock ∧ ∃ a cap, Value.slice au q.length cu = .slice a q.length cap ∧ NSl w' a q.length (marks (k + 2 * p.length) q.length)) := fun w2 hg => markK_row lo _ _ _ _ _ w2 (own_grown h1.2.1 hg (fun x hx e => h1.2.2 x e.symm hx)) (by omega) (by omega)
  have HA : Hid (∀ w2, W1.grownBy w2 (Value.slice av p.length cv).ownBlock → w2.cell? ⟨w.heap.size, 1, none⟩ = some (.slice au q.length cu)) := fun w2 hg => (World.cell?_of_block (a := ⟨w.heap.size, 1, none⟩) (hg.block _ (by rw [hs1]; exact Nat.lt_succ_self _) (fun e => Nat.lt_irrefl _ (hbv _ e.symm).1))).trans n1
  have HE : Hid (∀ w2 w3, W1.grownBy w2 (Value.slice av p.length cv).ownBlock → w2.grownBy w3 (Value.slice au q.length cu).ownBlock → Below lo w w3 ∧ ∀ b, b < w.heap.size → (Value.slice av p.length cv).ownBlock ≠ some b → (Value.slice au q.length cu).ownBlock ≠ some b → w3.heap[b]? = w.heap[b]?) := fun w2 w3 g2 g3 => by
    have b2 : Below lo w w2 := (hb1.mono hlo).grown g2 (by omega) (fun r hr => (hbv r hr).2)
    refine ⟨b2.grown g3 (Nat.le_trans (by omega : lo ≤ W1.heap.size) g2.size) (fun r hr => (hbu r hr).2), fun b hb hv hu => ?_⟩
    rw [g3.block b (by have := g2.size; omega) (Ne.symm hu), g2.block b (by omega) (Ne.symm hv), hb1.block b hb]
  have HD : Hid (∀ x, (Value.slice av p.length cv).ownBlock = some x → (Value.slice au q.length cu).ownBlock ≠ some x) := h.2.2
  clear h h1 hb1 hbv hbu
  go_enter Tryd.func16, Tryd.ntmps16
  go_wp2_with fail
  (try rw [hW1])
  refine Calls.mono HV.out ?_
  rintro e w2 ⟨rfl, hg2, a2, c2, e2, hs2⟩
  have q1 := HA.out w2 hg2
  have HU2 := (show Hid _ from HU.out w2 hg2)
  have HG2 := (show Hid _ from hg2)
  have HS2 := (show Hid _ from hs2)
  have HE2 := (show Hid _ from e2)
  clear HV HU HA hg2 hs2 hW1 n0 n1 hs1 e2
  go_wp2_with fail
  refine Calls.mono HU2.out ?_
  rintro e w3 ⟨rfl, hg3, a3, c3, e3, hs3⟩
  obtain ⟨hB, hK⟩ := HE.out w2 w3 HG2.out hg3
  have HB := (show Hid _ from hB)
  have HK := (show Hid _ from hK)
  have HH : Hid (HeldR w3 k (.slice av p.length cv) (.slice au q.length cu) p.length q.length) := by
    have e2 := HE2.out
    cases e2
    cases e3
    exact ⟨_, _, _, _, rfl, rfl, nsl_grown HS2.out hg3 (fun x hx e => HD.out x hx e), hs3⟩
  clear HU2 hg3 hs3 hB hK HE HD HG2 HS2 HE2 e3 q1
  go_wp2
  go_ret
  exact ⟨rfl, HB.out, HH.out, HK.out⟩
theorem heldR_any (k : Nat) (v u : Value) (m n : Nat) (w : World) (h : HeldR w k v u m n) (hm : m ≤ 1000) (hn : n ≤ 1000) (hk : k ≤ 10000000) :
    Calls Tryd.prog 17 #[.agg #[v, u], .int .i64 k] w fun e w' => e = .returned (.int .i64 (k + 2 * m + 2 * n : Nat)) ∧ Below w.heap.size w w' := by
  obtain ⟨av, cv, au, cu, rfl, rfl, h1, h2⟩ := h
  obtain ⟨W1, hW1⟩ : ∃ W1, w.alloc (.cells #[.slice av m cv, .slice au n cu] 29) = W1 := ⟨_, rfl⟩
  have hb1 : Below w.heap.size w W1 := by rw [← hW1]; exact (Below.refl _ _).alloc (Nat.le_refl _) _
  have n0 : W1.cell? ⟨w.heap.size, 0, none⟩ = some (.slice av m cv) := by rw [← hW1]; simp [go_sem]
  have n1 : W1.cell? ⟨w.heap.size, 1, none⟩ = some (.slice au n cu) := by rw [← hW1]; simp [go_sem]
  have HV := (show Hid _ from held_any av m cv k W1 (h1.keep hb1) (by omega) (by omega))
  have HU := (show Hid _ from held_any au n cu (k + 2 * m) W1 (h2.keep hb1) (by omega) (by omega))
  have HB := (show Hid _ from hb1)
  have z1 : ¬ ((k + 2 * m : Nat) : Int) < 0 := by omega
  have z2 : ¬ ((k + 2 * m + 2 * n : Nat) : Int) < 0 := by omega
  generalize ((k + 2 * m + 2 * n : Nat) : Int) = y at HU z2 ⊢
  generalize ((k + 2 * m : Nat) : Int) = x at HV HU z1
  clear h1 h2 hb1
  go_enter Tryd.func17, Tryd.ntmps17
  go_wp2_with fail
  (try rw [hW1])
  refine Calls.mono HV.out ?_
  rintro e w2 ⟨rfl, rfl⟩
  clear HV hW1
  go_wp2_with fail
  refine Calls.mono HU.out ?_
  rintro e w3 ⟨rfl, rfl⟩
  clear HU
  go_wp2
  go_ret
  exact ⟨rfl, HB.out⟩
theorem own_low {w w' : World} {base e size n lo : Nat} {v : Value} {xs : List Value} (h : w.ownsRow base e size v n xs) (hb : Below lo w w') (hv : ∀ x, v.ownBlock = some x → x < lo) : w'.ownsRow base e size v n xs := by
  refine ⟨h.1, ?_⟩
  rcases h.2 with h0 | ⟨g, cap, cur, rfl, h1, h2, h3⟩
  · exact .inl h0
  · exact .inr ⟨g, cap, cur, rfl, h1, (hb.block g (hv g rfl)).trans h2, h3⟩
theorem TwoR.under {w w' : World} {lo b : Nat} {v u : Value} {p q : List (Int × Int)} (h : TwoR w b v u p q) (hb : Below lo w w') (hv : ∀ x, v.ownBlock = some x → x < lo) (hu : ∀ x, u.ownBlock = some x → x < lo) : TwoR w' b v u p q := ⟨own_low h.1 hb hv, own_low h.2.1 hb hu, h.2.2⟩
theorem eqTwo_any (lo lo' : Nat) (v u v' u' : Value) (p q : List (Int × Int)) (w : World) (h : TwoR w lo v u p q) (h' : TwoR w lo' v' u' p q) (hp : p.length ≤ 1000) (hq : q.length ≤ 1000) :
    Calls Tryd.prog 13 #[.agg #[v, u], .agg #[v', u']] w fun e w' => e = .returned (.bool true) ∧ Below w.heap.size w w' := by
  obtain ⟨a1, c1, rfl, s1⟩ := NSl.row h.1
  obtain ⟨a2, c2, rfl, s2⟩ := NSl.row h.2.1
  obtain ⟨a3, c3, rfl, s3⟩ := NSl.row h'.1
  obtain ⟨a4, c4, rfl, s4⟩ := NSl.row h'.2.1
  exact eqR_same _ _ _ _ _ _ _ _ _ _ p q w s1 s3 s2 s4 (by omega) (by omega)
end Go.Proofs.YtbchehpggoampaaDoor
namespace Go.Proofs.YtbchehpggoampaaDoor
open Go.ChangeShapes Go.WideShapes Go.ChangeAt Go.RowKit
set_option linter.unusedVariables false

set_option maxHeartbeats 3200000 in
theorem readRuleLaw_any (s : ByteArray) (w : World) (hE : Env w) (hT : Tab w) (hM : MaxL w) :
    Calls Tryd.prog 6 #[.string s] w fun e w' => e = .returned (.bool true) ∧ Below w.heap.size w w' := by
  by_cases hbig : 1048576 < s.size
  · have i1 : (1048576 : Int) < s.size := by omega
    clear hE hT hM
    go_enter Tryd.func6, Tryd.ntmps6
    go_wp2
    go_ret
    exact ⟨rfl, Below.refl _ _⟩
  have i1 : ¬ (1048576 : Int) < s.size := by omega
  have HSp : Hid (∀ W, Calls Tryd.prog 20 #[.string s] W fun e w' => ReadR W w' s.data.toList e) := fun W => specReadRule_any s W (by omega)
  have HIm : Hid (∀ W, Below w.heap.size w W → Calls Tryd.prog 21 #[.string s] W fun e w' => ReadR W w' s.data.toList e) := fun W hW => implReadRule_any s W (hE.keep hW) (hT.keeps hW) (hM.keep hW) (by omega)
  unfold ReadR at HSp HIm
  have hP := ruleL_len s.data.toList
  have hQ := ruleR_len s.data.toList
  generalize ruleOk s.data.toList = G at HSp HIm
  generalize ((ruleAt s.data.toList : Nat) : Int) = AT at HSp HIm
  generalize ruleL s.data.toList = P at HSp HIm hP
  generalize ruleR s.data.toList = Q at HSp HIm hQ
  have HQ : Hid (∀ W (v u v' u' : Value) (b b' : Nat), TwoR W b v u P Q → TwoR W b' v' u' P Q → Calls Tryd.prog 13 #[.agg #[v, u], .agg #[v', u']] W fun e w' => e = .returned (.bool true) ∧ Below W.heap.size W w') := fun W v u v' u' b b' h1 h2 => eqTwo_any b b' v u v' u' P Q W h1 h2 (by omega) (by omega)
  have HMI : Hid (∀ W (v u : Value) lo, TwoR W lo v u P Q → lo ≤ W.heap.size → Calls Tryd.prog 16 #[.agg #[v, u], .int .i64 1] W fun e w' => e = .returned (.int .i64 (1 + 2 * P.length + 2 * Q.length : Nat)) ∧ Below lo W w' ∧ HeldR w' 1 v u P.length Q.length ∧ ∀ b, b < W.heap.size → v.ownBlock ≠ some b → u.ownBlock ≠ some b → w'.heap[b]? = W.heap[b]?) := fun W v u lo h hlo => markR_any lo 1 v u P Q W h hlo (by omega) (by omega) (by omega)
  have HH : Hid (∀ W (v u : Value), HeldR W 1 v u P.length Q.length → Calls Tryd.prog 17 #[.agg #[v, u], .int .i64 1] W fun e w' => e = .returned (.int .i64 (1 + 2 * P.length + 2 * Q.length : Nat)) ∧ Below W.heap.size W w') := fun W v u h => heldR_any 1 v u _ _ W h (by omega) (by omega) (by omega)
  have hGG : (G != G) = false := by simp
  have hAA : (AT != AT) = false := by simp
  have hq1 : ¬ ((1 + 2 * P.length + 2 * Q.length : Nat) : Int) < 0 := by omega
  generalize ((1 + 2 * P.length + 2 * Q.length : Nat) : Int) = zq at HMI HH hq1
  have hqq : (zq != zq) = false := by simp
  clear hE hT hM
  go_enter Tryd.func6, Tryd.ntmps6
  go_wp2_with fail
  refine (HSp.out _).mono ?_
  rintro e w3 ⟨vW, uW, rfl, rW3, hb3⟩
  obtain ⟨av, cv, rfl⟩ := own_shape rW3.1
  obtain ⟨au, cu, rfl⟩ := own_shape rW3.2.1
  obtain ⟨X3, hX3⟩ : ∃ X, w3.alloc (.cells #[.slice av P.length cv, .slice au Q.length cu] 29) = X := ⟨_, rfl⟩
  have hbX3 : Below w3.heap.size w3 X3 := by rw [← hX3]; exact (Below.refl _ _).alloc (Nat.le_refl _) _
  have hsX3 : X3.heap.size = w3.heap.size + 1 := by rw [← hX3]; simp
  have c0 : X3.cell? ⟨w3.heap.size, 0, none⟩ = some (.slice av P.length cv) := by rw [← hX3]; simp [go_sem]
  have c1 : X3.cell? ⟨w3.heap.size, 1, none⟩ = some (.slice au Q.length cu) := by rw [← hX3]; simp [go_sem]
  have hWin : Hid ((∀ x, (Value.slice av P.length cv).ownBlock = some x → x < X3.heap.size) ∧ ∀ x, (Value.slice au Q.length cu).ownBlock = some x → x < X3.heap.size) := ⟨fun x hx => by have := own_in rW3.1 x hx; omega, fun x hx => by have := own_in rW3.2.1 x hx; omega⟩
  have HC3 : Hid (∀ W, Below X3.heap.size X3 W → W.cell? ⟨w3.heap.size, 0, none⟩ = some (.slice av P.length cv) ∧ W.cell? ⟨w3.heap.size, 1, none⟩ = some (.slice au Q.length cu)) := fun W hW => ⟨(hW.cell (p := ⟨w3.heap.size, 0, none⟩) (by show w3.heap.size < _; omega)).trans c0, (hW.cell (p := ⟨w3.heap.size, 1, none⟩) (by show w3.heap.size < _; omega)).trans c1⟩
  have hB3 : Below w.heap.size w X3 := hb3.trans (hbX3.mono hb3.size)
  have HF : Hid (∀ W, Below X3.heap.size X3 W → Below w.heap.size w W) := fun W hW => hB3.trans (hW.mono hB3.size)
  have rX3 := rW3.keep hbX3
  have HI5 := (show Hid _ from HIm.out X3 hB3)
  clear hb3 HSp rW3 hbX3 hsX3 hB3
  go_wp2_with fail
  (try rw [hX3])
  refine Calls.mono HI5.out ?_
  rintro e w5 ⟨vG, uG, rfl, rG5, hb5⟩
  obtain ⟨bv, dv, rfl⟩ := own_shape rG5.1
  obtain ⟨bu, du, rfl⟩ := own_shape rG5.2.1
  obtain ⟨X5, hX5⟩ : ∃ X, w5.alloc (.cells #[.slice bv P.length dv, .slice bu Q.length du] 29) = X := ⟨_, rfl⟩
  have hbX5 : Below w5.heap.size w5 X5 := by rw [← hX5]; exact (Below.refl _ _).alloc (Nat.le_refl _) _
  have hsX5 : X5.heap.size = w5.heap.size + 1 := by rw [← hX5]; simp
  have d0 : X5.cell? ⟨w5.heap.size, 0, none⟩ = some (.slice bv P.length dv) := by rw [← hX5]; simp [go_sem]
  have d1 : X5.cell? ⟨w5.heap.size, 1, none⟩ = some (.slice bu Q.length du) := by rw [← hX5]; simp [go_sem]
  have hGin : Hid ((Value.slice bv P.length dv).ownBlock ≠ some w5.heap.size ∧ (Value.slice bu Q.length du).ownBlock ≠ some w5.heap.size ∧ w5.heap.size < X5.heap.size) := ⟨fun e => Nat.lt_irrefl _ (own_in rG5.1 _ e), fun e => Nat.lt_irrefl _ (own_in rG5.2.1 _ e), by omega⟩
  have hB5 : Below X3.heap.size X3 X5 := hb5.trans (hbX5.mono hb5.size)
  have rW5 := rX3.keep hB5
  have rG6 := rG5.keep hbX5
  obtain ⟨x0, x1⟩ := HC3.out X5 hB5
  have HQ5 := (show Hid _ from HQ.out X5 _ _ _ _ _ _ rG6 rW5)
  have HR5 : Hid (TwoR X5 X3.heap.size _ _ P Q ∧ TwoR X5 w.heap.size _ _ P Q ∧ Below X3.heap.size X3 X5) := ⟨rG6, rW5, hB5⟩
  clear hb5 rX3 rG5 hbX5 hsX5 HI5 hX3 c0 c1 hB5 rW5 rG6
  go_wp2_with fail
  (try rw [hX5])
  refine Calls.mono HQ5.out ?_
  rintro e w6 ⟨rfl, hb6⟩
  have hB6 := HR5.out.2.2.trans (hb6.mono HR5.out.2.2.size)
  have rG10 := HR5.out.1.keep hb6
  have HW10 : Hid (TwoR w6 w.heap.size _ _ P Q) := HR5.out.2.1.keep hb6
  have y0 := (hb6.cell (p := ⟨w5.heap.size, 0, none⟩) hGin.out.2.2).trans d0
  have y1 := (hb6.cell (p := ⟨w5.heap.size, 1, none⟩) hGin.out.2.2).trans d1
  have hs56 : w5.heap.size < w6.heap.size := Nat.lt_of_lt_of_le hGin.out.2.2 hb6.size
  have HM6 := (show Hid _ from HMI.out w6 _ _ _ rG10 hB6.size)
  have HB6 := (show Hid _ from hB6)
  clear hb6 HQ5 HR5 hX5 d0 d1 x0 x1 hB6 rG10 HMI
  go_wp2_with fail
  refine Calls.mono HM6.out ?_
  rintro e w11 ⟨rfl, hg11, hsG11, hk11⟩
  have hB11 : Below X3.heap.size X3 w11 := HB6.out.trans hg11
  have hblk := hk11 w5.heap.size hs56 hGin.out.1 hGin.out.2.1
  have z0 := (World.cell?_of_block (a := ⟨w5.heap.size, 0, none⟩) hblk).trans y0
  have z1 := (World.cell?_of_block (a := ⟨w5.heap.size, 1, none⟩) hblk).trans y1
  have hs511 : w5.heap.size < w11.heap.size := Nat.lt_of_lt_of_le hs56 hg11.size
  have HW11 : Hid (TwoR w11 w.heap.size _ _ P Q) := HW10.out.under hg11 hWin.out.1 hWin.out.2
  have HH11 := (show Hid _ from HH.out _ _ _ hsG11)
  have HS11 : Hid (HeldR w11 1 _ _ _ _) := hsG11
  have HB11 := (show Hid _ from hB11)
  clear hg11 HM6 HB6 hB11 hblk hk11 y0 y1 hs56 HW10 hsG11
  go_wp2_with fail
  refine Calls.mono HH11.out ?_
  rintro e w12 ⟨rfl, hb12⟩
  have hB12 := HB11.out.trans (hb12.mono HB11.out.size)
  have HW12 : Hid (TwoR w12 w.heap.size _ _ P Q) := HW11.out.keep hb12
  have HS12 : Hid (HeldR w12 1 _ _ _ _) := HS11.out.keep hb12
  have u0 := (hb12.cell (p := ⟨w5.heap.size, 0, none⟩) hs511).trans z0
  have u1 := (hb12.cell (p := ⟨w5.heap.size, 1, none⟩) hs511).trans z1
  have hs512 : w5.heap.size < w12.heap.size := Nat.lt_of_lt_of_le hs511 hb12.size
  have HI12 := (show Hid _ from HIm.out w12 (HF.out _ hB12))
  have HB12 := (show Hid _ from hB12)
  clear hb12 HW11 HS11 HB11 hB12 z0 z1 hs511 HH11
  go_wp2_with fail
  refine Calls.mono HI12.out ?_
  rintro e w14 ⟨vH, uH, rfl, rH14, hb14⟩
  obtain ⟨ev, fv, rfl⟩ := own_shape rH14.1
  obtain ⟨eu, fu, rfl⟩ := own_shape rH14.2.1
  obtain ⟨X14, hX14⟩ : ∃ X, w14.alloc (.cells #[.slice ev P.length fv, .slice eu Q.length fu] 29) = X := ⟨_, rfl⟩
  have hbX14 : Below w14.heap.size w14 X14 := by rw [← hX14]; exact (Below.refl _ _).alloc (Nat.le_refl _) _
  have hb14' : Below w12.heap.size w12 X14 := hb14.trans (hbX14.mono hb14.size)
  have g0 : X14.cell? ⟨w14.heap.size, 0, none⟩ = some (.slice ev P.length fv) := by rw [← hX14]; simp [go_sem]
  have g1 : X14.cell? ⟨w14.heap.size, 1, none⟩ = some (.slice eu Q.length fu) := by rw [← hX14]; simp [go_sem]
  have hB14 := HB12.out.trans (hb14'.mono HB12.out.size)
  obtain ⟨x0, x1⟩ := HC3.out X14 hB14
  have v0 := (hb14'.cell (p := ⟨w5.heap.size, 0, none⟩) hs512).trans u0
  have v1 := (hb14'.cell (p := ⟨w5.heap.size, 1, none⟩) hs512).trans u1
  have hs514 : w5.heap.size < X14.heap.size := Nat.lt_of_lt_of_le hs512 hb14'.size
  have HQ14 := (show Hid _ from HQ.out X14 _ _ _ _ _ _ (rH14.keep hbX14) (HW12.out.keep hb14'))
  have HS14 : Hid (HeldR X14 1 _ _ _ _) := HS12.out.keep hb14'
  have HB14 := (show Hid _ from hB14)
  clear hb14 hb14' hbX14 HW12 HS12 HB12 hB14 rH14 HI12 u0 u1 hs512
  go_wp2_with fail
  (try rw [hX14])
  refine Calls.mono HQ14.out ?_
  rintro e w15 ⟨rfl, hb15⟩
  have hB15 := HB14.out.trans (hb15.mono HB14.out.size)
  have hsG15 : HeldR w15 1 _ _ _ _ := HS14.out.keep hb15
  have m0 := (hb15.cell (p := ⟨w5.heap.size, 0, none⟩) hs514).trans v0
  have m1 := (hb15.cell (p := ⟨w5.heap.size, 1, none⟩) hs514).trans v1
  have HH15 := (show Hid _ from HH.out _ _ _ hsG15)
  have HB15 := (show Hid _ from hB15)
  clear hb15 HQ14 HS14 HB14 hB15 hsG15 hX14 v0 v1 g0 g1 x0 x1
  go_wp2_with fail
  refine Calls.mono HH15.out ?_
  rintro e w16 ⟨rfl, hb16⟩
  have HB16 := (show Hid _ from HF.out _ (HB15.out.trans (hb16.mono HB15.out.size)))
  clear hb16
  go_wp2
  go_ret
  exact ⟨rfl, HB16.out⟩
end Go.Proofs.YtbchehpggoampaaDoor
