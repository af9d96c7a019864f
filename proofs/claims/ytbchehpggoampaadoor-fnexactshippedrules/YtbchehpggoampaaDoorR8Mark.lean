/-
  PROVED HERE: what the laws' marking of a rule that owns its memory leaves, and that the marks are held. No other condition.
-/
import Derived.Test.YtbchehpggoampaaDoorR8Copy
import Derived.Test.YtbchehpggoampaaDoorRuleReads
import Derived.Test.YtbchehpggoampaaDoorNodeMarks
namespace Go.Proofs.YtbchehpggoampaaDoor
open Go.ChangeShapes Go.WideShapes Go.ChangeAt Go.RowKit
set_option linter.unusedVariables false

theorem markK_row (base e k : Nat) (v : Value) (n : Nat) (L : List (Int × Int)) (w : World) (h : w.ownsRow base e 2 v n (flat L)) (hn : n ≤ 1048576) (hk : k ≤ 16777216) :
    Calls Tryd.prog 40 #[v, .int .i64 k] w fun e w' => e = .returned (.int .i64 (k + 2 * n : Nat)) ∧ w.grownBy w' v.ownBlock ∧ ∃ a cap, v = .slice a n cap ∧ NSl w' a n (marks k n) := by
  rcases h.2 with ⟨rfl, rfl⟩ | ⟨g, cap, cur, rfl, hb, hg, _⟩
  · go_enter Tryd.func40, Tryd.ntmps40
    go_wp2
    go_loopw [1, 5] (fun x i wr => i = .int .i64 0 ∧ x = .int .i64 k ∧ wr = w) (fun _ _ _ => 0)
    case atStart => exact ⟨rfl, rfl, rfl⟩
    case round =>
      obtain ⟨rfl, rfl, rfl⟩ := hrel
      go_wp2
      go_ret
      exact ⟨rfl, World.grownBy.refl _ _, _, _, rfl, rfl, .inl rfl⟩
  · refine (mark_any g 0 n cap k w (Mine.of h) hn hk).mono ?_
    rintro e w' ⟨rfl, hgr, hs⟩
    exact ⟨rfl, hgr, _, _, rfl, hs⟩
/-- A rule's two lists hold marks from k on. -/
def HeldR (w : World) (k : Nat) (v u : Value) (m n : Nat) : Prop := ∃ a c b d, v = .slice a m c ∧ u = .slice b n d ∧ NSl w a m (marks k m) ∧ NSl w b n (marks (k + 2 * m) n)
theorem HeldR.keep {w w' : World} {k : Nat} {v u : Value} {m n : Nat} (h : HeldR w k v u m n) (hb : Below w.heap.size w w') : HeldR w' k v u m n := by
  obtain ⟨a, c, b, d, h1, h2, h3, h4⟩ := h
  exact ⟨a, c, b, d, h1, h2, h3.keep hb, h4.keep hb⟩
theorem nsl_grown {w w' : World} {a : Option Addr} {n cap : Nat} {l : List (Int × Int)} {r : Option Nat} (h : NSl w a n l) (hg : w.grownBy w' r) (hne : ∀ x, (Value.slice a n cap).ownBlock = some x → r ≠ some x) : NSl w' a n l := by
  refine ⟨h.1, ?_⟩
  rcases h.2 with h0 | ⟨b, off, rfl, h1, h2⟩
  · exact .inl h0
  · have hb := hg.block b h1 (Ne.symm (hne b rfl))
    refine .inr ⟨b, off, rfl, Nat.lt_of_lt_of_le h1 hg.size, fun i hi => ?_⟩
    obtain ⟨h3, h4⟩ := h2 i hi
    exact ⟨(World.cell?_of_block (a := ⟨b, off + i * 2, none⟩) hb).trans h3, (World.cell?_of_block (a := ⟨b, off + i * 2 + 1, none⟩) hb).trans h4⟩
set_option maxHeartbeats 1600000 in
theorem markR_any (lo k : Nat) (v u : Value) (p q : List (Int × Int)) (w : World) (h : TwoR w lo v u p q) (hlo : lo ≤ w.heap.size) (hp : p.length ≤ 1000) (hq : q.length ≤ 1000) (hk : k ≤ 10000000) :
    Calls Tryd.prog 16 #[.agg #[v, u], .int .i64 k] w fun e w' => e = .returned (.int .i64 (k + 2 * p.length + 2 * q.length : Nat)) ∧ Below lo w w' ∧ HeldR w' k v u p.length q.length ∧ ∀ b, b < w.heap.size → v.ownBlock ≠ some b → u.ownBlock ≠ some b → w'.heap[b]? = w.heap[b]? := by
  obtain ⟨W1, hW1⟩ : ∃ W1, w.alloc (.cells #[v, u] 29) = W1 := ⟨_, rfl⟩
  have hb1 : Below w.heap.size w W1 := by rw [← hW1]; exact (Below.refl _ _).alloc (Nat.le_refl _) _
  have hs1 : W1.heap.size = w.heap.size + 1 := by rw [← hW1]; simp
  obtain ⟨av, cv, rfl⟩ := own_shape h.1
  obtain ⟨au, cu, rfl⟩ := own_shape h.2.1
  have n0 : W1.cell? ⟨w.heap.size, 0, none⟩ = some (.slice av p.length cv) := by rw [← hW1]; simp [go_sem]
  have n1 : W1.cell? ⟨w.heap.size, 1, none⟩ = some (.slice au q.length cu) := by rw [← hW1]; simp [go_sem]
  have h1 := h.keep hb1
  have hbv : ∀ x, (Value.slice av p.length cv).ownBlock = some x → x < w.heap.size ∧ lo ≤ x := fun x hx => ⟨own_in h.1 x hx, own_ge h.1 x hx⟩
  have hbu : ∀ x, (Value.slice au q.length cu).ownBlock = some x → x < w.heap.size ∧ lo ≤ x := fun x hx => ⟨own_in h.2.1 x hx, own_ge h.2.1 x hx⟩
  have HV := (show Hid _ from markK_row lo _ k _ _ _ W1 h1.1 (by omega) (by omega))
  have HU : Hid (∀ w2, W1.grownBy w2 (Value.slice av p.length cv).ownBlock → Calls Tryd.prog 40 #[.slice au q.length cu, .int .i64 ((k + 2 * p.length : Nat) : Int)] w2 fun e w' => e = .returned (.int .i64 (k + 2 * p.length + 2 * q.length : Nat)) ∧ w2.grownBy w' (Value.slice au q.length cu).ownBlock ∧ ∃ a cap, Value.slice au q.length cu = .slice a q.length cap ∧ NSl w' a q.length (marks (k + 2 * p.length) q.length)) := fun w2 hg => markK_row lo _ _ _ _ _ w2 (own_grown h1.2.1 hg (fun x hx e => h1.2.2 x e.symm hx)) (by omega) (by omega)
  have HA : Hid (∀ w2, W1.grownBy w2 (Value.slice av p.length cv).ownBlock → w2.cell? ⟨w.heap.size, 1, none⟩ = some (.slice au q.length cu)) := fun w2 hg => (World.cell?_of_block (a := ⟨w.heap.size, 1, none⟩) (hg.block _ (by rw [hs1]; exact Nat.lt_succ_self _) (fun e => Nat.lt_irrefl _ (hbv _ e.symm).1))).trans n1
  have HE : Hid (∀ w2 w3, W1.grownBy w2 (Value.slice av p.length cv).ownBlock → w2.grownBy w3 (Value.slice au q.length cu).ownBlock → Below lo w w3 ∧ ∀ b, b < w.heap.size → (Value.slice av p.length cv).ownBlock ≠ some b → (Value.slice au q.length cu).ownBlock ≠ some b → w3.heap[b]? = w.heap[b]?) := fun w2 w3 g2 g3 => by
    have b2 : Below lo w w2 := (hb1.mono hlo).grown g2 (by omega) (fun r hr => (hbv r hr).2)
    refine ⟨b2.grown g3 (Nat.le_trans (by omega : lo ≤ W1.heap.size) g2.size) (fun r hr => (hbu r hr).2), fun b hb hv hu => ?_⟩
    rw [g3.block b (by have := g2.size; omega) (Ne.symm hu), g2.block b (by omega) (Ne.symm hv), hb1.block b hb]
  have HD : Hid (∀ x, (Value.slice av p.length cv).ownBlock = some x → (Value.slice au q.length cu).ownBlock ≠ some x) := h.2.2
  clear h h1 hb1 hbv hbu
  go_enter Tryd.func16, Tryd.ntmps16
  go_wp2_with fail
  (try rw [hW1])
  refine Calls.mono HV.out ?_
  rintro e w2 ⟨rfl, hg2, a2, c2, e2, hs2⟩
  have q1 := HA.out w2 hg2
  have HU2 := (show Hid _ from HU.out w2 hg2)
  have HG2 := (show Hid _ from hg2)
  have HS2 := (show Hid _ from hs2)
  have HE2 := (show Hid _ from e2)
  clear HV HU HA hg2 hs2 hW1 n0 n1 hs1 e2
  go_wp2_with fail
  refine Calls.mono HU2.out ?_
  rintro e w3 ⟨rfl, hg3, a3, c3, e3, hs3⟩
  obtain ⟨hB, hK⟩ := HE.out w2 w3 HG2.out hg3
  have HB := (show Hid _ from hB)
  have HK := (show Hid _ from hK)
  have HH : Hid (HeldR w3 k (.slice av p.length cv) (.slice au q.length cu) p.length q.length) := by
    have e2 := HE2.out
    cases e2
    cases e3
    exact ⟨_, _, _, _, rfl, rfl, nsl_grown HS2.out hg3 (fun x hx e => HD.out x hx e), hs3⟩
  clear HU2 hg3 hs3 hB hK HE HD HG2 HS2 HE2 e3 q1
  go_wp2
  go_ret
  exact ⟨rfl, HB.out, HH.out, HK.out⟩
theorem heldR_any (k : Nat) (v u : Value) (m n : Nat) (w : World) (h : HeldR w k v u m n) (hm : m ≤ 1000) (hn : n ≤ 1000) (hk : k ≤ 10000000) :
    Calls Tryd.prog 17 #[.agg #[v, u], .int .i64 k] w fun e w' => e = .returned (.int .i64 (k + 2 * m + 2 * n : Nat)) ∧ Below w.heap.size w w' := by
  obtain ⟨av, cv, au, cu, rfl, rfl, h1, h2⟩ := h
  obtain ⟨W1, hW1⟩ : ∃ W1, w.alloc (.cells #[.slice av m cv, .slice au n cu] 29) = W1 := ⟨_, rfl⟩
  have hb1 : Below w.heap.size w W1 := by rw [← hW1]; exact (Below.refl _ _).alloc (Nat.le_refl _) _
  have n0 : W1.cell? ⟨w.heap.size, 0, none⟩ = some (.slice av m cv) := by rw [← hW1]; simp [go_sem]
  have n1 : W1.cell? ⟨w.heap.size, 1, none⟩ = some (.slice au n cu) := by rw [← hW1]; simp [go_sem]
  have HV := (show Hid _ from held_any av m cv k W1 (h1.keep hb1) (by omega) (by omega))
  have HU := (show Hid _ from held_any au n cu (k + 2 * m) W1 (h2.keep hb1) (by omega) (by omega))
  have HB := (show Hid _ from hb1)
  have z1 : ¬ ((k + 2 * m : Nat) : Int) < 0 := by omega
  have z2 : ¬ ((k + 2 * m + 2 * n : Nat) : Int) < 0 := by omega
  generalize ((k + 2 * m + 2 * n : Nat) : Int) = y at HU z2 ⊢
  generalize ((k + 2 * m : Nat) : Int) = x at HV HU z1
  clear h1 h2 hb1
  go_enter Tryd.func17, Tryd.ntmps17
  go_wp2_with fail
  (try rw [hW1])
  refine Calls.mono HV.out ?_
  rintro e w2 ⟨rfl, rfl⟩
  clear HV hW1
  go_wp2_with fail
  refine Calls.mono HU.out ?_
  rintro e w3 ⟨rfl, rfl⟩
  clear HU
  go_wp2
  go_ret
  exact ⟨rfl, HB.out⟩
theorem own_low {w w' : World} {base e size n lo : Nat} {v : Value} {xs : List Value} (h : w.ownsRow base e size v n xs) (hb : Below lo w w') (hv : ∀ x, v.ownBlock = some x → x < lo) : w'.ownsRow base e size v n xs := by
  refine ⟨h.1, ?_⟩
  rcases h.2 with h0 | ⟨g, cap, cur, rfl, h1, h2, h3⟩
  · exact .inl h0
  · exact .inr ⟨g, cap, cur, rfl, h1, (hb.block g (hv g rfl)).trans h2, h3⟩
theorem TwoR.under {w w' : World} {lo b : Nat} {v u : Value} {p q : List (Int × Int)} (h : TwoR w b v u p q) (hb : Below lo w w') (hv : ∀ x, v.ownBlock = some x → x < lo) (hu : ∀ x, u.ownBlock = some x → x < lo) : TwoR w' b v u p q := ⟨own_low h.1 hb hv, own_low h.2.1 hb hu, h.2.2⟩
theorem eqTwo_any (lo lo' : Nat) (v u v' u' : Value) (p q : List (Int × Int)) (w : World) (h : TwoR w lo v u p q) (h' : TwoR w lo' v' u' p q) (hp : p.length ≤ 1000) (hq : q.length ≤ 1000) :
    Calls Tryd.prog 13 #[.agg #[v, u], .agg #[v', u']] w fun e w' => e = .returned (.bool true) ∧ Below w.heap.size w w' := by
  obtain ⟨a1, c1, rfl, s1⟩ := NSl.row h.1
  obtain ⟨a2, c2, rfl, s2⟩ := NSl.row h.2.1
  obtain ⟨a3, c3, rfl, s3⟩ := NSl.row h'.1
  obtain ⟨a4, c4, rfl, s4⟩ := NSl.row h'.2.1
  exact eqR_same _ _ _ _ _ _ _ _ _ _ p q w s1 s3 s2 s4 (by omega) (by omega)
end Go.Proofs.YtbchehpggoampaaDoor
