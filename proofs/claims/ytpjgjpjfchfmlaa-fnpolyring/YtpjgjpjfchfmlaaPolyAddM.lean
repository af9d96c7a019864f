/-
  PROVED HERE: what the model's adding of two sums of products, term by term, leaves. No other condition.
-/
import Derived.Test.YtpjgjpjfchfmlaaPolyAddPlain
import Derived.Test.YtpjgjpjfchfmlaaPolyGood
namespace Go.Proofs.Ytpjgjpjfchfmlaa
open Go.ChangeShapes Go.WideShapes Go.ChangeAt Go.RowKit
set_option linter.unusedVariables false

/-- An answer of the model's that is a list of products. -/
def SpecV (w : World) (v : Value) (q : List Mon) : Prop := ∃ a cap, v = .slice a q.length cap ∧ PSl w a q.length q
theorem SpecV.nil (w : World) : SpecV w (.slice none 0 0) [] := ⟨none, 0, rfl, rfl, .inl rfl⟩
theorem SpecV.keep {w w' : World} {v : Value} {q : List Mon} (h : SpecV w v q) (hb : Below w.heap.size w w') : SpecV w' v q := by
  obtain ⟨a, cap, h1, h2⟩ := h
  exact ⟨a, cap, h1, h2.keep hb⟩
theorem put_spec (w : World) (v : Value) (o : List Mon) (h : SpecV w v o) (hlen : o.length ≤ 100000) (ho : Sum4 o) (ai : Option Addr) (ci : Nat) (e : List Int) (he : e.length = 4) (hc : 4 ≤ ci) (hS : Sl w ai 4 e) (n : Int) :
    Calls Try.prog 34 #[v, .slice ai 4 ci, .int .i64 n] w fun r w' => ∃ v', r = .returned v' ∧ SpecV w' v' (putP o e n) ∧ Below w.heap.size w w' := by
  obtain ⟨a, cap, rfl, hP⟩ := h
  refine (put_any4 w a o.length cap o hP hlen (fun x hx => (ho.2 x hx).1) e he (.slice ai 4 ci) (PSl.powV hS (by omega) hc (by omega) _ (fun _ _ => trivial)) n).mono ?_
  rintro r w' ⟨v, vs, rfl, h1, h2⟩
  obtain ⟨a', c', rfl, h3⟩ := h1.psl
  exact ⟨_, rfl, ⟨a', c', rfl, h3⟩, h2⟩
/-- The same, the row being one's own, from a block on. -/
def SpecB (B : Nat) (w : World) (v : Value) (q : List Mon) : Prop := SpecV w v q ∧ ∃ vs, PRow w B (fun b => B ≤ b) v vs q ∧ FZs w vs
theorem SpecB.nil (B : Nat) (w : World) : SpecB B w (.slice none 0 0) [] := ⟨SpecV.nil w, [], PRow.nil _ _ _, fun x hx => by cases hx⟩
theorem SpecB.keep {B : Nat} {w w' : World} {v : Value} {q : List Mon} (h : SpecB B w v q) (hb : Below w.heap.size w w') : SpecB B w' v q := by
  obtain ⟨h1, vs, h2, h3⟩ := h
  exact ⟨h1.keep hb, vs, h2.keep hb, h3.map h2 (fun b _ hs => hb.block b hs)⟩
theorem SpecB.base {B B' : Nat} {w : World} {v : Value} {q : List Mon} (h : SpecB B w v q) (hb : B' ≤ B) : SpecB B' w v q := by
  obtain ⟨h1, vs, h2, h3⟩ := h
  exact ⟨h1, vs, h2.base hb (fun b hb' => Nat.le_trans hb hb'), h3⟩
theorem put_specB (B : Nat) (w : World) (hB : B ≤ w.heap.size) (v : Value) (o : List Mon) (h : SpecV w v o) (hlen : o.length ≤ 100000) (ho : Sum4 o) (ai : Option Addr) (ci : Nat) (e : List Int) (he : e.length = 4) (hc : 4 ≤ ci) (hS : Sl w ai 4 e) (n : Int) :
    Calls Try.prog 34 #[v, .slice ai 4 ci, .int .i64 n] w fun r w' => ∃ v', r = .returned v' ∧ SpecB B w' v' (putP o e n) ∧ Below w.heap.size w w' := by
  obtain ⟨a, cap, rfl, hP⟩ := h
  refine (put_fz w a o.length cap o hP hlen (fun x hx => (ho.2 x hx).1) e he (.slice ai 4 ci) (PSl.powV hS (by omega) hc (by omega) _ (fun _ _ => trivial)) n).mono ?_
  rintro r w' ⟨v, vs, rfl, h1, h2, h4⟩
  obtain ⟨a', c', rfl, h3⟩ := h1.psl
  exact ⟨_, rfl, ⟨⟨a', c', rfl, h3⟩, _, h1.base hB (fun b hb' => Nat.le_trans hB hb'), h4⟩, h2⟩
/-- What has been added so far. -/
def AddR (w wr : World) (v : Value) (o rest all : List Mon) : Prop := SpecB w.heap.size wr v o ∧ Sum4 o ∧ addF o rest = all ∧ Below w.heap.size w wr
theorem addF_drop (o p : List Mon) (k : Nat) (h : k < p.length) : addF o (p.drop k) = addF (putP o (p.getD k ([], 0)).1 (p.getD k ([], 0)).2) (p.drop (k + 1)) := by
  rw [drop_mon p k h]; rfl
set_option maxHeartbeats 3200000 in
set_option maxRecDepth 20000 in
theorem l4Add_own (a : Option Addr) (la ca : Nat) (p : List Mon) (b : Option Addr) (lb cb : Nat) (q : List Mon) (w : World) (ha : PSl w a la p) (hb : PSl w b lb q) (hla : la ≤ 10000) (hlb : lb ≤ 10000) (hp : ∀ m ∈ p, m.1.length = 4 ∧ InI m.2) (hq : ∀ m ∈ q, m.1.length = 4 ∧ InI m.2) :
    Calls Try.prog 19 #[.slice a la ca, .slice b lb cb] w fun r w' => ∃ v, r = .returned v ∧ SpecB w.heap.size w' v (addP p q) ∧ Below w.heap.size w w' := by
  have hpl := ha.1
  have hql := hb.1
  have HP := (show Hid _ from hp)
  have HQ := (show Hid _ from hq)
  have HMem : Hid (∀ (l : List Mon) k, k < l.length → l.getD k ([], 0) ∈ l) := fun l k hk => by
    rw [List.getD_eq_getElem?_getD, List.getElem?_eq_getElem hk]; exact List.getElem_mem _
  clear hp hq
  go_enter Try.func19, Try.ntmps19
  go_wp2_with fail
  go_loopw [5, 12] (fun v i wr => ∃ (k : Nat) (o : List Mon), k ≤ la ∧ i = .int .i64 (k : Int) ∧ o.length ≤ k ∧ Hid (AddR w wr v o (p.drop k) (addF [] p))) (fun _ i _ => la - (intOf i).toNat)
  case atStart => exact ⟨0, [], by omega, rfl, by simp, SpecB.nil _ _, sum4_nil, rfl, Below.refl _ _⟩
  case round =>
    obtain ⟨k, o, hk, rfl, hol, HR⟩ := hrel
    obtain ⟨hv, hs, he, hbr⟩ := HR.out
    by_cases hlt : k < la
    · obtain ⟨bp, off, rfl, hbl, hc⟩ := (ha.keep hbr).at (by omega)
      obtain ⟨ai, li, ci, c1, hli, hci, hS, c2⟩ := hc k hlt
      have hmm := HP.out _ (HMem.out p k (by omega))
      have hst := addF_drop o p k (by omega)
      rw [he] at hst
      obtain ⟨m, hm⟩ : ∃ m, p.getD k ([], 0) = m := ⟨_, rfl⟩
      rw [hm] at c2 hS hmm hst
      obtain ⟨e, y⟩ := m
      simp only at c2 hS hmm hst
      obtain rfl : li = 4 := by have := hS.1; omega
      obtain ⟨W1, hW1⟩ : ∃ W1, wr.alloc (.cells #[.slice ai 4 ci, .int .i64 y] 43) = W1 := ⟨_, rfl⟩
      have hb1 : Below wr.heap.size wr W1 := by rw [← hW1]; exact (Below.refl _ _).alloc (Nat.le_refl _) _
      have n0 : W1.cell? ⟨wr.heap.size, 0, none⟩ = some (.slice ai 4 ci) := by rw [← hW1]; simp [go_sem]
      have n1 : W1.cell? ⟨wr.heap.size, 1, none⟩ = some (.int .i64 y) := by rw [← hW1]; simp [go_sem]
      have HC := (show Hid _ from put_specB w.heap.size W1 (Nat.le_trans hbr.size hb1.size) u5 o (hv.1.keep hb1) (by omega) hs ai ci e hmm.1 hci (hS.keep hb1) y)
      obtain ⟨f1, f2, -⟩ := putP_ok (n := y) hmm.1 hmm.2 hs.1 (fun x hx => ⟨(hs.2 x hx).1, (hs.2 x hx).2.1⟩)
      have hl2 := putP_le o e y
      have HF : Hid (∀ w2 v2, SpecB w.heap.size w2 v2 (putP o e y) → Below W1.heap.size W1 w2 → AddR w w2 v2 (putP o e y) (p.drop (k + 1)) (addF [] p)) := fun w2 v2 s2 b2 => ⟨s2, ⟨f1, f2⟩, hst.symm, hbr.trans ((hb1.trans (b2.mono hb1.size)).mono hbr.size)⟩
      generalize putP o e y = o2 at HC HF hl2
      have hik : (k : Int) < la := by omega
      have hbne : ¬ bp = wr.heap.size := by omega
      clear hv hs he hbr HR hc hS hmm hst hm hb1 f1 f2
      go_wp2_with fail
      (try rw [hW1])
      refine Calls.mono HC.out ?_
      rintro r w2 ⟨v2, rfl, s2, b2⟩
      have HR2 := (show Hid _ from HF.out w2 v2 s2 b2)
      clear s2 b2 HF HC n0 n1 hW1
      go_wp2
      go_roundw
      case rel => exact ⟨k + 1, o2, by omega, by go_num, by omega, HR2⟩
      case measure => simp [intOf]; omega
    · obtain rfl : k = la := by omega
      rw [List.drop_of_length_le (by omega)] at he
      have he' : o = addF [] p := he
      have hol2 : o.length ≤ 10000 := by omega
      have HR2 : Hid (AddR w wr u5 o q (addP p q)) := ⟨hv, hs, by rw [he']; rfl, hbr⟩
      clear HR hv hs he he' hbr
      go_wp2_with fail
      go_loopw [5, 25] (fun v i wr => ∃ (k : Nat) (o : List Mon), k ≤ lb ∧ i = .int .i64 (k : Int) ∧ o.length ≤ 10000 + k ∧ Hid (AddR w wr v o (q.drop k) (addP p q))) (fun _ i _ => lb - (intOf i).toNat)
      case atStart => exact ⟨0, o, by omega, rfl, by omega, HR2⟩
      case round =>
        obtain ⟨k, o, hk, rfl, hol, HR⟩ := hrel
        clear HR2
        obtain ⟨hv, hs, he, hbr⟩ := HR.out
        by_cases hlt : k < lb
        · obtain ⟨bp, off, rfl, hbl, hc⟩ := (hb.keep hbr).at (by omega)
          obtain ⟨ai, li, ci, c1, hli, hci, hS, c2⟩ := hc k hlt
          have hmm := HQ.out _ (HMem.out q k (by omega))
          have hst := addF_drop o q k (by omega)
          rw [he] at hst
          obtain ⟨m, hm⟩ : ∃ m, q.getD k ([], 0) = m := ⟨_, rfl⟩
          rw [hm] at c2 hS hmm hst
          obtain ⟨e, y⟩ := m
          simp only at c2 hS hmm hst
          obtain rfl : li = 4 := by have := hS.1; omega
          obtain ⟨W1, hW1⟩ : ∃ W1, wr.alloc (.cells #[.slice ai 4 ci, .int .i64 y] 43) = W1 := ⟨_, rfl⟩
          have hb1 : Below wr.heap.size wr W1 := by rw [← hW1]; exact (Below.refl _ _).alloc (Nat.le_refl _) _
          have n0 : W1.cell? ⟨wr.heap.size, 0, none⟩ = some (.slice ai 4 ci) := by rw [← hW1]; simp [go_sem]
          have n1 : W1.cell? ⟨wr.heap.size, 1, none⟩ = some (.int .i64 y) := by rw [← hW1]; simp [go_sem]
          have HC := (show Hid _ from put_specB w.heap.size W1 (Nat.le_trans hbr.size hb1.size) u5 o (hv.1.keep hb1) (by omega) hs ai ci e hmm.1 hci (hS.keep hb1) y)
          obtain ⟨f1, f2, -⟩ := putP_ok (n := y) hmm.1 hmm.2 hs.1 (fun x hx => ⟨(hs.2 x hx).1, (hs.2 x hx).2.1⟩)
          have hl2 := putP_le o e y
          have HF : Hid (∀ w2 v2, SpecB w.heap.size w2 v2 (putP o e y) → Below W1.heap.size W1 w2 → AddR w w2 v2 (putP o e y) (q.drop (k + 1)) (addP p q)) := fun w2 v2 s2 b2 => ⟨s2, ⟨f1, f2⟩, hst.symm, hbr.trans ((hb1.trans (b2.mono hb1.size)).mono hbr.size)⟩
          generalize putP o e y = o2 at HC HF hl2
          have hik : (k : Int) < lb := by omega
          have hbne : ¬ bp = wr.heap.size := by omega
          clear hv hs he hbr HR hc hS hmm hst hm hb1 f1 f2
          go_wp2_with fail
          (try rw [hW1])
          refine Calls.mono HC.out ?_
          rintro r w2 ⟨v2, rfl, s2, b2⟩
          have HR2 := (show Hid _ from HF.out w2 v2 s2 b2)
          clear s2 b2 HF HC n0 n1 hW1
          go_wp2
          go_roundw
          case rel => exact ⟨k + 1, o2, by omega, by go_num, by omega, HR2⟩
          case measure => simp [intOf]; omega
        · obtain rfl : k = lb := by omega
          rw [List.drop_of_length_le (by omega)] at he
          have HE : Hid (SpecB w.heap.size wr u5 (addP p q) ∧ Below w.heap.size w wr) := by
            have he' : o = addP p q := he
            rw [← he']; exact ⟨hv, hbr⟩
          clear HR hv hs he hbr
          go_wp2
          go_ret
          exact ⟨_, rfl, HE.out⟩
theorem l4Add_any (a : Option Addr) (la ca : Nat) (p : List Mon) (b : Option Addr) (lb cb : Nat) (q : List Mon) (w : World) (ha : PSl w a la p) (hb : PSl w b lb q) (hla : la ≤ 10000) (hlb : lb ≤ 10000) (hp : ∀ m ∈ p, m.1.length = 4 ∧ InI m.2) (hq : ∀ m ∈ q, m.1.length = 4 ∧ InI m.2) :
    Calls Try.prog 19 #[.slice a la ca, .slice b lb cb] w fun r w' => ∃ v, r = .returned v ∧ SpecV w' v (addP p q) ∧ Below w.heap.size w w' :=
  (l4Add_own a la ca p b lb cb q w ha hb hla hlb hp hq).mono fun r w' ⟨v, h1, h2, h3⟩ => ⟨v, h1, h2.1, h3⟩
def addOk (p q : List Mon) : Bool := polyB p && polyB q && polyB (addP p q)
def addR (p q : List Mon) : List Mon := if addOk p q = true then addP p q else []
theorem fine_of {p : List Mon} (h : polyB p = true) (hi : ∀ x ∈ p, InI x.2) : ∀ m ∈ p, m.1.length = 4 ∧ InI m.2 := fun m hm => by
  have : ∀ (prev : Option (List Int)) (q : List Mon), gpF prev q = true → ∀ x ∈ q, powB x.1 = true := by
    intro prev q
    induction q generalizing prev with
    | nil => intro _ x hx; cases hx
    | cons m r ih =>
      intro hq x hx
      rw [gpF, Bool.and_eq_true] at hq
      rcases List.mem_cons.1 hx with rfl | hx
      · have h1 := hq.1; unfold fitM at h1; rw [Bool.and_eq_true, Bool.and_eq_true] at h1; exact h1.1.1
      · exact ih _ hq.2 x hx
  unfold polyB at h
  rw [Bool.and_eq_true] at h
  exact ⟨pow_len (this _ p h.1 m hm), hi m hm⟩
theorem poly_len {p : List Mon} (h : polyB p = true) : p.length ≤ 40 := by
  unfold polyB at h
  rw [Bool.and_eq_true] at h
  exact of_decide_eq_true h.2
end Go.Proofs.Ytpjgjpjfchfmlaa
