/-
  PROVED HERE: what the model's adding of two sums of products, term by term, leaves. No other condition. what the model's multiplying of two sums of products, term by term, leaves. No other condition.
-/
import Derived.Test.YtpjgjpjfchfmlaaGreatDoorPolyRows
import Derived.Test.YtpjgjpjfchfmlaaGreatDoorPolyGoods
import Derived.Deep.RegionHeld3
namespace Go.Proofs.YtpjgjpjfchfmlaaGreatDoor
open Go.ChangeShapes Go.WideShapes Go.ChangeAt Go.RowKit
set_option linter.unusedVariables false

/-- An answer of the model's that is a list of products. -/
def SpecV (w : World) (v : Value) (q : List Mon) : Prop := ∃ a cap, v = .slice a q.length cap ∧ PSl w a q.length q
theorem SpecV.nil (w : World) : SpecV w (.slice none 0 0) [] := ⟨none, 0, rfl, rfl, .inl rfl⟩
theorem SpecV.keep {w w' : World} {v : Value} {q : List Mon} (h : SpecV w v q) (hb : Below w.heap.size w w') : SpecV w' v q := by
  obtain ⟨a, cap, h1, h2⟩ := h
  exact ⟨a, cap, h1, h2.keep hb⟩
theorem put_spec (w : World) (v : Value) (o : List Mon) (h : SpecV w v o) (hlen : o.length ≤ 100000) (ho : Sum4 o) (ai : Option Addr) (ci : Nat) (e : List Int) (he : e.length = 4) (hc : 4 ≤ ci) (hS : Sl w ai 4 e) (n : Int) :
    Calls Tryz.prog 62 #[v, .slice ai 4 ci, .int .i64 n] w fun r w' => ∃ v', r = .returned v' ∧ SpecV w' v' (putP o e n) ∧ Below w.heap.size w w' := by
  obtain ⟨a, cap, rfl, hP⟩ := h
  refine (put_any4 w a o.length cap o hP hlen (fun x hx => (ho.2 x hx).1) e he (.slice ai 4 ci) (PSl.powV hS (by omega) hc (by omega) _ (fun _ _ => trivial)) n).mono ?_
  rintro r w' ⟨v, vs, rfl, h1, h2⟩
  obtain ⟨a', c', rfl, h3⟩ := h1.psl
  exact ⟨_, rfl, ⟨a', c', rfl, h3⟩, h2⟩
/-- The same, the row being one's own, from a block on. -/
def SpecB (B : Nat) (w : World) (v : Value) (q : List Mon) : Prop := SpecV w v q ∧ ∃ vs, PRow w B (fun b => B ≤ b) v vs q ∧ FZs w vs
theorem SpecB.nil (B : Nat) (w : World) : SpecB B w (.slice none 0 0) [] := ⟨SpecV.nil w, [], PRow.nil _ _ _, fun x hx => by cases hx⟩
theorem SpecB.keep {B : Nat} {w w' : World} {v : Value} {q : List Mon} (h : SpecB B w v q) (hb : Below w.heap.size w w') : SpecB B w' v q := by
  obtain ⟨h1, vs, h2, h3⟩ := h
  exact ⟨h1.keep hb, vs, h2.keep hb, h3.map h2 (fun b _ hs => hb.block b hs)⟩
theorem SpecB.base {B B' : Nat} {w : World} {v : Value} {q : List Mon} (h : SpecB B w v q) (hb : B' ≤ B) : SpecB B' w v q := by
  obtain ⟨h1, vs, h2, h3⟩ := h
  exact ⟨h1, vs, h2.base hb (fun b hb' => Nat.le_trans hb hb'), h3⟩
theorem put_specB (B : Nat) (w : World) (hB : B ≤ w.heap.size) (v : Value) (o : List Mon) (h : SpecV w v o) (hlen : o.length ≤ 100000) (ho : Sum4 o) (ai : Option Addr) (ci : Nat) (e : List Int) (he : e.length = 4) (hc : 4 ≤ ci) (hS : Sl w ai 4 e) (n : Int) :
    Calls Tryz.prog 62 #[v, .slice ai 4 ci, .int .i64 n] w fun r w' => ∃ v', r = .returned v' ∧ SpecB B w' v' (putP o e n) ∧ Below w.heap.size w w' := by
  obtain ⟨a, cap, rfl, hP⟩ := h
  refine (put_fz w a o.length cap o hP hlen (fun x hx => (ho.2 x hx).1) e he (.slice ai 4 ci) (PSl.powV hS (by omega) hc (by omega) _ (fun _ _ => trivial)) n).mono ?_
  rintro r w' ⟨v, vs, rfl, h1, h2, h4⟩
  obtain ⟨a', c', rfl, h3⟩ := h1.psl
  exact ⟨_, rfl, ⟨⟨a', c', rfl, h3⟩, _, h1.base hB (fun b hb' => Nat.le_trans hB hb'), h4⟩, h2⟩
/-- What has been added so far. -/
def AddR (w wr : World) (v : Value) (o rest all : List Mon) : Prop := SpecB w.heap.size wr v o ∧ Sum4 o ∧ addF o rest = all ∧ Below w.heap.size w wr
theorem addF_drop (o p : List Mon) (k : Nat) (h : k < p.length) : addF o (p.drop k) = addF (putP o (p.getD k ([], 0)).1 (p.getD k ([], 0)).2) (p.drop (k + 1)) := by
  rw [drop_mon p k h]; rfl
set_option maxHeartbeats 3200000 in
set_option maxRecDepth 20000 in
theorem l4Add_own (a : Option Addr) (la ca : Nat) (p : List Mon) (b : Option Addr) (lb cb : Nat) (q : List Mon) (w : World) (ha : PSl w a la p) (hb : PSl w b lb q) (hla : la ≤ 10000) (hlb : lb ≤ 10000) (hp : ∀ m ∈ p, m.1.length = 4 ∧ InI m.2) (hq : ∀ m ∈ q, m.1.length = 4 ∧ InI m.2) :
    Calls Tryz.prog 65 #[.slice a la ca, .slice b lb cb] w fun r w' => ∃ v, r = .returned v ∧ SpecB w.heap.size w' v (addP p q) ∧ Below w.heap.size w w' := by
  have hpl := ha.1
  have hql := hb.1
  have HP := (show Hid _ from hp)
  have HQ := (show Hid _ from hq)
  have HMem : Hid (∀ (l : List Mon) k, k < l.length → l.getD k ([], 0) ∈ l) := fun l k hk => by
    rw [List.getD_eq_getElem?_getD, List.getElem?_eq_getElem hk]; exact List.getElem_mem _
  clear hp hq
  go_enter Tryz.func65, Tryz.ntmps65
  go_wp2_with fail
  go_loopw [5, 12] (fun v i wr => ∃ (k : Nat) (o : List Mon), k ≤ la ∧ i = .int .i64 (k : Int) ∧ o.length ≤ k ∧ Hid (AddR w wr v o (p.drop k) (addF [] p))) (fun _ i _ => la - (intOf i).toNat)
  case atStart => exact ⟨0, [], by omega, rfl, by simp, SpecB.nil _ _, sum4_nil, rfl, Below.refl _ _⟩
  case round =>
    obtain ⟨k, o, hk, rfl, hol, HR⟩ := hrel
    obtain ⟨hv, hs, he, hbr⟩ := HR.out
    by_cases hlt : k < la
    · obtain ⟨bp, off, rfl, hbl, hc⟩ := (ha.keep hbr).at (by omega)
      obtain ⟨ai, li, ci, c1, hli, hci, hS, c2⟩ := hc k hlt
      have hmm := HP.out _ (HMem.out p k (by omega))
      have hst := addF_drop o p k (by omega)
      rw [he] at hst
      obtain ⟨m, hm⟩ : ∃ m, p.getD k ([], 0) = m := ⟨_, rfl⟩
      rw [hm] at c2 hS hmm hst
      obtain ⟨e, y⟩ := m
      simp only at c2 hS hmm hst
      obtain rfl : li = 4 := by have := hS.1; omega
      obtain ⟨W1, hW1⟩ : ∃ W1, wr.alloc (.cells #[.slice ai 4 ci, .int .i64 y] 57) = W1 := ⟨_, rfl⟩
      have hb1 : Below wr.heap.size wr W1 := by rw [← hW1]; exact (Below.refl _ _).alloc (Nat.le_refl _) _
      have n0 : W1.cell? ⟨wr.heap.size, 0, none⟩ = some (.slice ai 4 ci) := by rw [← hW1]; simp [go_sem]
      have n1 : W1.cell? ⟨wr.heap.size, 1, none⟩ = some (.int .i64 y) := by rw [← hW1]; simp [go_sem]
      have HC := (show Hid _ from put_specB w.heap.size W1 (Nat.le_trans hbr.size hb1.size) u5 o (hv.1.keep hb1) (by omega) hs ai ci e hmm.1 hci (hS.keep hb1) y)
      obtain ⟨f1, f2, -⟩ := putP_ok (n := y) hmm.1 hmm.2 hs.1 (fun x hx => ⟨(hs.2 x hx).1, (hs.2 x hx).2.1⟩)
      have hl2 := putP_le o e y
      have HF : Hid (∀ w2 v2, SpecB w.heap.size w2 v2 (putP o e y) → Below W1.heap.size W1 w2 → AddR w w2 v2 (putP o e y) (p.drop (k + 1)) (addF [] p)) := fun w2 v2 s2 b2 => ⟨s2, ⟨f1, f2⟩, hst.symm, hbr.trans ((hb1.trans (b2.mono hb1.size)).mono hbr.size)⟩
      generalize putP o e y = o2 at HC HF hl2
      have hik : (k : Int) < la := by omega
      have hbne : ¬ bp = wr.heap.size := by omega
      clear hv hs he hbr HR hc hS hmm hst hm hb1 f1 f2
      go_wp2_with fail
      (try rw [hW1])
      refine Calls.mono HC.out ?_
      rintro r w2 ⟨v2, rfl, s2, b2⟩
      have HR2 := (show Hid _ from HF.out w2 v2 s2 b2)
      clear s2 b2 HF HC n0 n1 hW1
      go_wp2
      go_roundw
      case rel => exact ⟨k + 1, o2, by omega, by go_num, by omega, HR2⟩
      case measure => simp [intOf]; omega
    · obtain rfl : k = la := by omega
      rw [List.drop_of_length_le (by omega)] at he
      have he' : o = addF [] p := he
      have hol2 : o.length ≤ 10000 := by omega
      have HR2 : Hid (AddR w wr u5 o q (addP p q)) := ⟨hv, hs, by rw [he']; rfl, hbr⟩
      clear HR hv hs he he' hbr
      go_wp2_with fail
      go_loopw [5, 25] (fun v i wr => ∃ (k : Nat) (o : List Mon), k ≤ lb ∧ i = .int .i64 (k : Int) ∧ o.length ≤ 10000 + k ∧ Hid (AddR w wr v o (q.drop k) (addP p q))) (fun _ i _ => lb - (intOf i).toNat)
      case atStart => exact ⟨0, o, by omega, rfl, by omega, HR2⟩
      case round =>
        obtain ⟨k, o, hk, rfl, hol, HR⟩ := hrel
        clear HR2
        obtain ⟨hv, hs, he, hbr⟩ := HR.out
        by_cases hlt : k < lb
        · obtain ⟨bp, off, rfl, hbl, hc⟩ := (hb.keep hbr).at (by omega)
          obtain ⟨ai, li, ci, c1, hli, hci, hS, c2⟩ := hc k hlt
          have hmm := HQ.out _ (HMem.out q k (by omega))
          have hst := addF_drop o q k (by omega)
          rw [he] at hst
          obtain ⟨m, hm⟩ : ∃ m, q.getD k ([], 0) = m := ⟨_, rfl⟩
          rw [hm] at c2 hS hmm hst
          obtain ⟨e, y⟩ := m
          simp only at c2 hS hmm hst
          obtain rfl : li = 4 := by have := hS.1; omega
          obtain ⟨W1, hW1⟩ : ∃ W1, wr.alloc (.cells #[.slice ai 4 ci, .int .i64 y] 57) = W1 := ⟨_, rfl⟩
          have hb1 : Below wr.heap.size wr W1 := by rw [← hW1]; exact (Below.refl _ _).alloc (Nat.le_refl _) _
          have n0 : W1.cell? ⟨wr.heap.size, 0, none⟩ = some (.slice ai 4 ci) := by rw [← hW1]; simp [go_sem]
          have n1 : W1.cell? ⟨wr.heap.size, 1, none⟩ = some (.int .i64 y) := by rw [← hW1]; simp [go_sem]
          have HC := (show Hid _ from put_specB w.heap.size W1 (Nat.le_trans hbr.size hb1.size) u5 o (hv.1.keep hb1) (by omega) hs ai ci e hmm.1 hci (hS.keep hb1) y)
          obtain ⟨f1, f2, -⟩ := putP_ok (n := y) hmm.1 hmm.2 hs.1 (fun x hx => ⟨(hs.2 x hx).1, (hs.2 x hx).2.1⟩)
          have hl2 := putP_le o e y
          have HF : Hid (∀ w2 v2, SpecB w.heap.size w2 v2 (putP o e y) → Below W1.heap.size W1 w2 → AddR w w2 v2 (putP o e y) (q.drop (k + 1)) (addP p q)) := fun w2 v2 s2 b2 => ⟨s2, ⟨f1, f2⟩, hst.symm, hbr.trans ((hb1.trans (b2.mono hb1.size)).mono hbr.size)⟩
          generalize putP o e y = o2 at HC HF hl2
          have hik : (k : Int) < lb := by omega
          have hbne : ¬ bp = wr.heap.size := by omega
          clear hv hs he hbr HR hc hS hmm hst hm hb1 f1 f2
          go_wp2_with fail
          (try rw [hW1])
          refine Calls.mono HC.out ?_
          rintro r w2 ⟨v2, rfl, s2, b2⟩
          have HR2 := (show Hid _ from HF.out w2 v2 s2 b2)
          clear s2 b2 HF HC n0 n1 hW1
          go_wp2
          go_roundw
          case rel => exact ⟨k + 1, o2, by omega, by go_num, by omega, HR2⟩
          case measure => simp [intOf]; omega
        · obtain rfl : k = lb := by omega
          rw [List.drop_of_length_le (by omega)] at he
          have HE : Hid (SpecB w.heap.size wr u5 (addP p q) ∧ Below w.heap.size w wr) := by
            have he' : o = addP p q := he
            rw [← he']; exact ⟨hv, hbr⟩
          clear HR hv hs he hbr
          go_wp2
          go_ret
          exact ⟨_, rfl, HE.out⟩
theorem l4Add_any (a : Option Addr) (la ca : Nat) (p : List Mon) (b : Option Addr) (lb cb : Nat) (q : List Mon) (w : World) (ha : PSl w a la p) (hb : PSl w b lb q) (hla : la ≤ 10000) (hlb : lb ≤ 10000) (hp : ∀ m ∈ p, m.1.length = 4 ∧ InI m.2) (hq : ∀ m ∈ q, m.1.length = 4 ∧ InI m.2) :
    Calls Tryz.prog 65 #[.slice a la ca, .slice b lb cb] w fun r w' => ∃ v, r = .returned v ∧ SpecV w' v (addP p q) ∧ Below w.heap.size w w' :=
  (l4Add_own a la ca p b lb cb q w ha hb hla hlb hp hq).mono fun r w' ⟨v, h1, h2, h3⟩ => ⟨v, h1, h2.1, h3⟩
def addOk (p q : List Mon) : Bool := polyB p && polyB q && polyB (addP p q)
def addR (p q : List Mon) : List Mon := if addOk p q = true then addP p q else []
theorem fine_of {p : List Mon} (h : polyB p = true) (hi : ∀ x ∈ p, InI x.2) : ∀ m ∈ p, m.1.length = 4 ∧ InI m.2 := fun m hm => by
  have : ∀ (prev : Option (List Int)) (q : List Mon), gpF prev q = true → ∀ x ∈ q, powB x.1 = true := by
    intro prev q
    induction q generalizing prev with
    | nil => intro _ x hx; cases hx
    | cons m r ih =>
      intro hq x hx
      rw [gpF, Bool.and_eq_true] at hq
      rcases List.mem_cons.1 hx with rfl | hx
      · have h1 := hq.1; unfold fitM at h1; rw [Bool.and_eq_true, Bool.and_eq_true] at h1; exact h1.1.1
      · exact ih _ hq.2 x hx
  unfold polyB at h
  rw [Bool.and_eq_true] at h
  exact ⟨pow_len (this _ p h.1 m hm), hi m hm⟩
theorem poly_len {p : List Mon} (h : polyB p = true) : p.length ≤ 40 := by
  unfold polyB at h
  rw [Bool.and_eq_true] at h
  exact of_decide_eq_true h.2
end Go.Proofs.YtpjgjpjfchfmlaaGreatDoor
namespace Go.Proofs.YtpjgjpjfchfmlaaGreatDoor
open Go.ChangeShapes Go.WideShapes Go.ChangeAt Go.RowKit
set_option linter.unusedVariables false

theorem addE_get : ∀ (a b : List Int) (j : Nat), j < a.length → j < b.length → (addE a b).getD j 0 = a.getD j 0 + b.getD j 0
  | [], _, _, h, _ => absurd h (Nat.not_lt_zero _)
  | _ :: _, [], _, _, h => absurd h (Nat.not_lt_zero _)
  | a :: r, b :: s, 0, _, _ => rfl
  | a :: r, b :: s, j + 1, h1, h2 => by
    have := addE_get r s j (by simpa using h1) (by simpa using h2)
    simpa [addE] using this
theorem addE_take (a b : List Int) (j : Nat) (h1 : j < a.length) (h2 : a.length = b.length) : (addE a b).take (j + 1) = (addE a b).take j ++ [a.getD j 0 + b.getD j 0] := by
  have hl : j < (addE a b).length := by rw [addE_len h2]; exact h1
  rw [List.take_succ_eq_append_getElem hl]
  have := addE_get a b j h1 (by omega)
  rw [List.getD_eq_getElem?_getD, List.getElem?_eq_getElem hl] at this
  simp only [Option.getD_some] at this
  rw [this]
theorem ownQ_keep {w w' : World} {base e size n : Nat} {v : Value} {xs : List Value} (h : w.ownsRow base e size v n xs) (hb : Below w.heap.size w w') : w'.ownsRow base e size v n xs :=
  h.kept (grown_of hb) (by cases hv : v.ownBlock <;> simp)
/-- What the powers that are being added hold so far. -/
def PowR (w wr : World) (v : Value) (L : List Int) : Prop := wr.ownsRow w.heap.size 3 1 v L.length (vals L) ∧ Below w.heap.size w wr
theorem mulF_drop (o p q : List Mon) (k : Nat) (h : k < p.length) : mulF o (p.drop k) q = mulF (addF o (mulL (p.getD k ([], 0)) q)) (p.drop (k + 1)) q := by
  rw [drop_mon p k h]; rfl
theorem mulL_get (a : Mon) (q : List Mon) (j : Nat) (h : j < q.length) : (mulL a q).getD j ([], 0) = (addE a.1 (q.getD j ([], 0)).1, wrap64 (a.2 * (q.getD j ([], 0)).2)) := by
  simp [mulL, List.getD_eq_getElem?_getD, List.getElem?_eq_getElem h]
theorem one_newI (w : World) (x : Int) (t : TypeId) : ∀ j u, [Value.int .i64 x][j]? = some u → (w.alloc (.cells #[.int .i64 x] t)).cell? ((⟨w.heap.size, 0, none⟩ : Addr).add j) = some u := cell_new1 w .i64 x t
/-- What has been multiplied so far. -/
def MulR (w wr : World) (v : Value) (o rest q all : List Mon) : Prop := SpecB w.heap.size wr v o ∧ Sum4 o ∧ mulF o rest q = all ∧ Below w.heap.size w wr
def MulM (w W1 wr : World) (v : Value) (o left rest q all : List Mon) : Prop := SpecB w.heap.size wr v o ∧ Sum4 o ∧ mulF (addF o left) rest q = all ∧ Below w.heap.size w wr ∧ Below W1.heap.size W1 wr
theorem wrap_small {x : Int} (h0 : 0 ≤ x) (h1 : x ≤ 1000) : IntKind.i64.wrap x = x := by
  simp [IntKind.wrap, IntKind.bits, IntKind.signed] <;> omega
theorem held_4 {A B C D : Prop} {W w : World} (h : A ∧ B ∧ C ∧ D ∧ Below W.heap.size W w) : Below W.heap.size W w := h.2.2.2.2
set_option maxHeartbeats 6400000 in
set_option maxRecDepth 20000 in
theorem l4Mul_own (a : Option Addr) (la ca : Nat) (p : List Mon) (b : Option Addr) (lb cb : Nat) (q : List Mon) (w : World) (ha : PSl w a la p) (hb : PSl w b lb q) (hla : la ≤ 40) (hlb : lb ≤ 40) (hp : ∀ m ∈ p, m.1.length = 4 ∧ InI m.2) (hq : ∀ m ∈ q, m.1.length = 4 ∧ InI m.2) (hr : ∀ x ∈ p, ∀ y ∈ q, ∀ j, 0 ≤ x.1.getD j 0 + y.1.getD j 0 ∧ x.1.getD j 0 + y.1.getD j 0 ≤ 1000) :
    Calls Tryz.prog 64 #[.slice a la ca, .slice b lb cb] w fun r w' => ∃ v, r = .returned v ∧ SpecB w.heap.size w' v (mulP p q) ∧ Below w.heap.size w w' := by
  obtain ⟨i0, hi, hz0, hz1, hz2⟩ := info_parts infoInt
  have hpl := ha.1
  have hql := hb.1
  have HP := (show Hid _ from hp)
  have HQ := (show Hid _ from hq)
  have HRg := (show Hid _ from hr)
  have HMem : Hid (∀ (l : List Mon) k, k < l.length → l.getD k ([], 0) ∈ l) := fun l k hk => by
    rw [List.getD_eq_getElem?_getD, List.getElem?_eq_getElem hk]; exact List.getElem_mem _
  clear hp hq hr
  go_enter Tryz.func64, Tryz.ntmps64
  go_wp2_with fail
  go_loopw [5, 14] (fun v i wr => ∃ (k : Nat) (o : List Mon), k ≤ la ∧ i = .int .i64 (k : Int) ∧ o.length ≤ k * 40 ∧ Hid (MulR w wr v o (p.drop k) q (mulP p q))) (fun _ i _ => la - (intOf i).toNat)
  case atStart => exact ⟨0, [], by omega, rfl, by simp, SpecB.nil _ _, sum4_nil, rfl, Below.refl _ _⟩
  case round =>
    obtain ⟨k, o, hk, rfl, hol, HR⟩ := hrel
    obtain ⟨hv, hs, he, hbr⟩ := HR.out
    by_cases hlt : k < la
    · obtain ⟨bp, off, rfl, hbl, hc⟩ := (ha.keep hbr).at (by omega)
      obtain ⟨ai, li, ci, c1, hli, hci, hS, c2⟩ := hc k hlt
      have hmm := HP.out _ (HMem.out p k (by omega))
      have hst := mulF_drop o p q k (by omega)
      rw [he] at hst
      have hmp := HMem.out p k (by omega)
      obtain ⟨m, hm⟩ : ∃ m, p.getD k ([], 0) = m := ⟨_, rfl⟩
      rw [hm] at c2 hS hmm hst hmp
      obtain ⟨e, y⟩ := m
      simp only at c2 hS hmm
      obtain rfl : li = 4 := by have := hS.1; omega
      obtain ⟨be, oe, rfl, hce⟩ := cells_of hS (by omega)
      have hbel : be < wr.heap.size := World.block_lt_of_cell? wr _ (hce 0 (by omega))
      obtain ⟨W1, hW1⟩ : ∃ W1, wr.alloc (.cells #[.slice (some ⟨be, oe, none⟩) 4 ci, .int .i64 y] 57) = W1 := ⟨_, rfl⟩
      have hb1 : Below wr.heap.size wr W1 := by rw [← hW1]; exact (Below.refl _ _).alloc (Nat.le_refl _) _
      have hs1 : W1.heap.size = wr.heap.size + 1 := by rw [← hW1]; simp
      have n0 : W1.cell? ⟨wr.heap.size, 0, none⟩ = some (.slice (some ⟨be, oe, none⟩) 4 ci) := by rw [← hW1]; simp [go_sem]
      have n1 : W1.cell? ⟨wr.heap.size, 1, none⟩ = some (.int .i64 y) := by rw [← hW1]; simp [go_sem]
      have HCE : Hid (∀ W i, Below W1.heap.size W1 W → i < 4 → W.cell? ⟨be, oe + i, none⟩ = some (.int .i64 (e.getD i 0))) := fun W i hW hi' => ((hb1.trans (hW.mono hb1.size)).cell (p := ⟨be, oe + i, none⟩) hbel).trans (hce i hi')
      have HN : Hid (∀ W, Below W1.heap.size W1 W → W.cell? ⟨wr.heap.size, 0, none⟩ = some (.slice (some ⟨be, oe, none⟩) 4 ci) ∧ W.cell? ⟨wr.heap.size, 1, none⟩ = some (.int .i64 y)) := fun W hW => ⟨(hW.cell (p := ⟨wr.heap.size, 0, none⟩) (by show wr.heap.size < _; omega)).trans n0, (hW.cell (p := ⟨wr.heap.size, 1, none⟩) (by show wr.heap.size < _; omega)).trans n1⟩
      have HM0 : Hid (MulM w W1 W1 u5 o ((mulL (e, y) q).drop 0) (p.drop (k + 1)) q (mulP p q)) := ⟨hv.keep hb1, hs, hst.symm, hbr.trans (hb1.mono hbr.size), Below.refl _ _⟩
      have hik : (k : Int) < la := by omega
      have hbne : ¬ bp = wr.heap.size := by omega
      have HE4 := (show Hid _ from hmm)
      have HMp := (show Hid _ from hmp)
      obtain ⟨B7, hB7⟩ : ∃ B7, wr.heap.size = B7 := ⟨_, rfl⟩
      clear hv hs he hbr HR hc hS hmm hst hm hb1 hce n0 n1 hmp hbel
      go_wp2_with fail
      (try rw [hW1])
      (try rw [hB7])
      rw [hB7] at HN
      clear hW1 c1 c2
      go_loopw [5, 20] (fun v i wm => ∃ (j : Nat) (o2 : List Mon), j ≤ lb ∧ i = .int .i64 (j : Int) ∧ o2.length ≤ k * 40 + j ∧ Hid (MulM w W1 wm v o2 ((mulL (e, y) q).drop j) (p.drop (k + 1)) q (mulP p q))) (fun _ i _ => lb - (intOf i).toNat)
      case atStart => exact ⟨0, o, by omega, rfl, by omega, HM0⟩
      case round =>
        obtain ⟨j, o2, hj, rfl, hol2, HRm⟩ := hrel
        clear HM0
        obtain ⟨hv, hs, he, hbr, hbw⟩ := HRm.out
        by_cases hlt2 : j < lb
        · obtain ⟨bq, offq, rfl, hblq, hcq⟩ := (hb.keep hbr).at (by omega)
          obtain ⟨aj, lj, cj, d1, hlj, hcj, hSj, d2⟩ := hcq j hlt2
          have hmq := HQ.out _ (HMem.out q j (by omega))
          have hml := mulL_get (e, y) q j (by omega)
          have hrg := HRg.out _ HMp.out _ (HMem.out q j (by omega))
          have hst := addF_drop o2 (mulL (e, y) q) j (by simp [mulL]; omega)
          rw [hml] at hst
          obtain ⟨m2, hm2⟩ : ∃ m, q.getD j ([], 0) = m := ⟨_, rfl⟩
          rw [hm2] at d2 hSj hmq hst hrg
          obtain ⟨f, x⟩ := m2
          simp only at d2 hSj hmq hst hrg
          obtain rfl : lj = 4 := by have := hSj.1; omega
          obtain ⟨bf, of, rfl, hcf⟩ := cells_of hSj (by omega)
          have hbfl : bf < wr.heap.size := World.block_lt_of_cell? wr _ (hcf 0 (by omega))
          obtain ⟨W2, hW2⟩ : ∃ W2, wr.alloc (.cells #[.slice (some ⟨bf, of, none⟩) 4 cj, .int .i64 x] 57) = W2 := ⟨_, rfl⟩
          have hb2 : Below wr.heap.size wr W2 := by rw [← hW2]; exact (Below.refl _ _).alloc (Nat.le_refl _) _
          have hs2 : W2.heap.size = wr.heap.size + 1 := by rw [← hW2]; simp
          have m0 : W2.cell? ⟨wr.heap.size, 0, none⟩ = some (.slice (some ⟨bf, of, none⟩) 4 cj) := by rw [← hW2]; simp [go_sem]
          have m1 : W2.cell? ⟨wr.heap.size, 1, none⟩ = some (.int .i64 x) := by rw [← hW2]; simp [go_sem]
          have hB12 : Below W1.heap.size W1 W2 := hbw.trans (hb2.mono hbw.size)
          obtain ⟨k0, k1⟩ := HN.out W2 hB12
          obtain ⟨B9, hB9⟩ : ∃ B9, wr.heap.size = B9 := ⟨_, rfl⟩
          rw [hB9] at m0 m1 hs2
          have hB9n : ¬ bq = B9 := by omega
          have he4 := HE4.out.1
          have HSub : Hid (∀ W, Below W2.heap.size W2 W → (∀ i, i < 4 → W.cell? ⟨be, oe + i, none⟩ = some (.int .i64 (e.getD i 0)) ∧ W.cell? ⟨bf, of + i, none⟩ = some (.int .i64 (f.getD i 0))) ∧ W.cell? ⟨B7, 0, none⟩ = some (.slice (some ⟨be, oe, none⟩) 4 ci) ∧ W.cell? ⟨B7, 1, none⟩ = some (.int .i64 y) ∧ W.cell? ⟨B9, 0, none⟩ = some (.slice (some ⟨bf, of, none⟩) 4 cj) ∧ W.cell? ⟨B9, 1, none⟩ = some (.int .i64 x)) := fun W hW => by
            have hBW := hB12.trans (hW.mono hB12.size)
            obtain ⟨t0, t1⟩ := HN.out W hBW
            refine ⟨fun i hi' => ⟨HCE.out W i hBW hi', ?_⟩, t0, t1, (hW.cell (p := ⟨B9, 0, none⟩) (by show B9 < _; omega)).trans m0, (hW.cell (p := ⟨B9, 1, none⟩) (by show B9 < _; omega)).trans m1⟩
            exact ((hb2.trans (hW.mono hb2.size)).cell (p := ⟨bf, of + i, none⟩) hbfl).trans (hcf i hi')
          have HPut : Hid (∀ W vp, Below W2.heap.size W2 W → W.ownsRow W2.heap.size 3 1 vp 4 (vals (addE e f)) → Calls Tryz.prog 62 #[u5, vp, .int .i64 (wrap64 (y * x))] W fun r w' => ∃ v', r = .returned v' ∧ SpecB w.heap.size w' v' (putP o2 (addE e f) (wrap64 (y * x))) ∧ Below W.heap.size W w') := fun W vp hW hown => by
            obtain ⟨av, cv, rfl, hsv⟩ := Sl.vals hown
            have hcap : 4 ≤ cv := by
              rcases hown.2 with ⟨_, h'⟩ | ⟨g, cap, cur, h', _, _, h5, _⟩
              · omega
              · simp only [Value.slice.injEq, true_and] at h'; omega
            exact put_specB w.heap.size W (Nat.le_trans hbr.size (Nat.le_trans hb2.size hW.size)) u5 o2 ((hv.1.keep hb2).keep hW) (by omega) hs av cv (addE e f) (by rw [addE_len (by omega)]; exact he4) hcap hsv _
          obtain ⟨f1, f2, -⟩ := putP_ok (k := 4) (e := addE e f) (n := wrap64 (y * x)) (by rw [addE_len (by omega)]; exact he4) (wrap_in _) hs.1 (fun x hx => ⟨(hs.2 x hx).1, (hs.2 x hx).2.1⟩)
          have hl2 := putP_le o2 (addE e f) (wrap64 (y * x))
          have HF : Hid (∀ W w2 v2, Below W2.heap.size W2 W → SpecB w.heap.size w2 v2 (putP o2 (addE e f) (wrap64 (y * x))) → Below W.heap.size W w2 → MulM w W1 w2 v2 (putP o2 (addE e f) (wrap64 (y * x))) ((mulL (e, y) q).drop (j + 1)) (p.drop (k + 1)) q (mulP p q)) := fun W w2 v2 hW s2 b2 => by
            have hWw := hW.trans (b2.mono hW.size)
            have h2w := hb2.trans (hWw.mono hb2.size)
            exact ⟨s2, ⟨f1, f2⟩, by rw [← hst]; exact he, hbr.trans (h2w.mono hbr.size), hbw.trans (h2w.mono hbw.size)⟩
          generalize putP o2 (addE e f) (wrap64 (y * x)) = o3 at HPut HF hl2
          have HTk : Hid (∀ t, t < 4 → (addE e f).take (t + 1) = (addE e f).take t ++ [e.getD t 0 + f.getD t 0]) := fun t ht => addE_take e f t (by omega) (by omega)
          have HTl : Hid ((addE e f).length = 4 ∧ (addE e f).take 4 = addE e f) := by
            have : (addE e f).length = 4 := by rw [addE_len (by omega)]; exact he4
            exact ⟨this, List.take_of_length_le (by omega)⟩
          have HGr := (show Hid _ from hrg)
          have hij : (j : Int) < lb := by omega
          clear hv hs he hbr hbw HRm hcq hSj hmq hml hst hm2 hb2 hcf hbfl f1 f2 hB12 hrg
          go_wp2_with fail
          (try rw [hW2])
          (try rw [hB9])
          clear hW2 d1 d2
          go_loopw [10, 27] (fun v i wi => ∃ (t : Nat), t ≤ 4 ∧ i = .int .i64 (t : Int) ∧ Hid (PowR W2 wi v ((addE e f).take t))) (fun _ i _ => 4 - (intOf i).toNat)
          case atStart => exact ⟨0, by omega, rfl, World.ownsRow_nil _ _ _ _, Below.refl _ _⟩
          case round =>
            obtain ⟨t, ht, rfl, HRi⟩ := hrel
            clear k0 k1 m0 m1
            obtain ⟨hown, hbi⟩ := HRi.out
            obtain ⟨hcs, q0, q1, q2, q3⟩ := HSub.out wr hbi
            by_cases hlt3 : t < 4
            · obtain ⟨r0, r1⟩ := hcs t hlt3
              obtain ⟨g0, g9⟩ := HGr.out t
              have htk := HTk.out t hlt3
              have htl : ((addE e f).take t).length = t := by rw [List.length_take, HTl.out.1]; omega
              rw [htl] at hown
              have it : (t : Int) < 4 := by omega
              obtain ⟨L, hL⟩ : ∃ L, (addE e f).take t = L := ⟨_, rfl⟩
              rw [hL] at htk hown
              obtain ⟨X, hX⟩ : ∃ X, e.getD t 0 + f.getD t 0 = X := ⟨_, rfl⟩
              generalize e.getD t 0 = x1 at r0 hX htk g0 g9
              generalize f.getD t 0 = x2 at r1 hX htk g0 g9
              rw [hX] at htk g0 g9
              have hD : Below wr.heap.size wr wr.drew := below_drewN (Below.refl _ _) 1
              have hsi := hbi.size
              have hwX : IntKind.i64.wrap X = X := wrap_small (by omega) (by omega)
              have HFin : Hid (∀ C v6 w6, w6.ownsRow W2.heap.size 3 1 v6 (t + 1) (vals L ++ [.int .i64 X]) → (wr.drew.alloc C).grownBy w6 u10.ownBlock → PowR W2 w6 v6 ((addE e f).take (t + 1))) := fun C v6 w6 h1 h2 => by
                rw [htk]
                have hLl : L.length = t := by rw [← hL]; exact htl
                refine ⟨?_, ?_⟩
                · rw [List.length_append, hLl]
                  have e2 : vals (L ++ [X]) = vals L ++ [.int .i64 X] := by simp [vals]
                  rw [e2]; exact h1
                · exact (hbi.trans ((hD.alloc hD.size C).mono hbi.size)).grown h2 (Nat.le_trans hsi (hD.alloc hD.size C).size) (own_ge hown)
              clear HSub HPut HF HN HCE HTk HGr HRi hcs q1 q3 htk hL htl
              go_wp2_with fail
              go_region_law (first
                | (refine step_append rfl _ _ 55 rfl W2.heap.size 3 i0 (.int .i64 0) 1 8 Tryz.underlying55 hi hz0 hz1 hz2 rfl (by decide) u10 _ _ rfl ((ownQ_keep hown hD).alloc _) ⟨wr.heap.size, 0, none⟩ 1 1 [.int .i64 X] rfl (by simp) (one_newI _ _ _) (fun u hu => by rw [List.mem_singleton.1 hu]; rfl) (by unfold maxLen; omega) (by omega) (by simp [World.drew]; omega) ?_; intro v6 w6 hown6 hg6 hat6))
              all_goals
                have H6 := (show Hid _ from HFin.out _ v6 w6 hown6 hg6)
                clear hown6 hg6 hat6 HFin r0 r1 q0 q2 hD hX hwX
                go_wp2
                go_roundw
                case rel => exact ⟨t + 1, by omega, by go_num, H6⟩
                case measure => simp [intOf]; omega
            · obtain rfl : t = 4 := by omega
              obtain ⟨l4', t4⟩ := HTl.out
              rw [t4, l4'] at hown
              have HPt : Hid (∀ W, Below wr.heap.size wr W → Calls Tryz.prog 62 #[u5, u10, .int .i64 (wrap64 (y * x))] W fun r w' => ∃ v', r = .returned v' ∧ SpecB w.heap.size w' v' o3 ∧ Below W.heap.size W w') := fun W hW => HPut.out W u10 (hbi.trans (hW.mono hbi.size)) (ownQ_keep hown hW)
              have HF2 : Hid (∀ W w2 v2, Below wr.heap.size wr W → SpecB w.heap.size w2 v2 o3 → Below W.heap.size W w2 → MulM w W1 w2 v2 o3 ((mulL (e, y) q).drop (j + 1)) (p.drop (k + 1)) q (mulP p q)) := fun W w2 v2 hW s2 b2 => HF.out W w2 v2 (hbi.trans (hW.mono hbi.size)) s2 b2
              have hD : Below wr.heap.size wr wr.drew := below_drewN (Below.refl _ _) 1
              clear HPut HF HRi HSub HTk HTl HGr hcs hown hbi t4 l4'
              go_wp2_with fail
              refine Calls.mono (HPt.out _ (Below.refl _ _)) ?_
              rintro r w2 ⟨v2, rfl, s2, b2⟩
              have HR2 := (show Hid _ from HF2.out _ w2 v2 (Below.refl _ _) s2 b2)
              clear s2 b2 HF2 HPt q0 q1 q2 q3
              go_wp2
              go_roundw
              case rel => exact ⟨j + 1, o3, by omega, by go_num, by omega, HR2⟩
              case measure => simp [intOf]; omega
        · obtain rfl : j = lb := by omega
          have he' : (mulL (e, y) q).drop j = [] := List.drop_of_length_le (by simp [mulL]; omega)
          rw [he'] at he
          have HE : Hid (MulR w wr u5 o2 (p.drop (k + 1)) q (mulP p q)) := ⟨hv, hs, he, hbr⟩
          have hk2 : o2.length ≤ (k + 1) * 40 := by omega
          clear HRm hv hs he he' hbr hbw
          go_wp2_with fail
          go_roundw
          case rel => exact ⟨k + 1, o2, by omega, by go_num, hk2, HE⟩
          case measure => simp [intOf]; omega
    · obtain rfl : k = la := by omega
      rw [List.drop_of_length_le (by omega)] at he
      have HE : Hid (SpecB w.heap.size wr u5 (mulP p q) ∧ Below w.heap.size w wr) := by
        have he' : o = mulP p q := he
        rw [← he']; exact ⟨hv, hbr⟩
      clear HR hv hs he hbr
      go_wp2
      go_ret
      exact ⟨_, rfl, HE.out⟩
theorem l4Mul_any (a : Option Addr) (la ca : Nat) (p : List Mon) (b : Option Addr) (lb cb : Nat) (q : List Mon) (w : World) (ha : PSl w a la p) (hb : PSl w b lb q) (hla : la ≤ 40) (hlb : lb ≤ 40) (hp : ∀ m ∈ p, m.1.length = 4 ∧ InI m.2) (hq : ∀ m ∈ q, m.1.length = 4 ∧ InI m.2) (hr : ∀ x ∈ p, ∀ y ∈ q, ∀ j, 0 ≤ x.1.getD j 0 + y.1.getD j 0 ∧ x.1.getD j 0 + y.1.getD j 0 ≤ 1000) :
    Calls Tryz.prog 64 #[.slice a la ca, .slice b lb cb] w fun r w' => ∃ v, r = .returned v ∧ SpecV w' v (mulP p q) ∧ Below w.heap.size w w' :=
  (l4Mul_own a la ca p b lb cb q w ha hb hla hlb hp hq hr).mono fun r w' ⟨v, h1, h2, h3⟩ => ⟨v, h1, h2.1, h3⟩
theorem pow_of {p : List Mon} (h : polyB p = true) : ∀ m ∈ p, powB m.1 = true := fun m hm => by
  have : ∀ (prev : Option (List Int)) (q : List Mon), gpF prev q = true → ∀ x ∈ q, powB x.1 = true := by
    intro prev q
    induction q generalizing prev with
    | nil => intro _ x hx; cases hx
    | cons m r ih =>
      intro hq x hx
      rw [gpF, Bool.and_eq_true] at hq
      rcases List.mem_cons.1 hx with rfl | hx
      · have h1 := hq.1; unfold fitM at h1; rw [Bool.and_eq_true, Bool.and_eq_true] at h1; exact h1.1.1
      · exact ih _ hq.2 x hx
  unfold polyB at h
  rw [Bool.and_eq_true] at h
  exact this _ p h.1 m hm
theorem pow_nine {e : List Int} (h : powB e = true) (j : Nat) : 0 ≤ e.getD j 0 ∧ e.getD j 0 ≤ 9 := by
  unfold powB allB at h
  rw [Bool.and_eq_true, List.all_eq_true] at h
  rw [List.getD_eq_getElem?_getD]
  cases hj : e[j]? with
  | none => simp
  | some x =>
    have := h.2 x (List.mem_of_getElem? hj)
    rw [Bool.and_eq_true] at this
    have t1 := of_decide_eq_true this.1
    have t2 := of_decide_eq_true this.2
    simp only [Option.getD_some]
    omega
theorem nine_of {p q : List Mon} (h1 : polyB p = true) (h2 : polyB q = true) : ∀ x ∈ p, ∀ y ∈ q, ∀ j, 0 ≤ x.1.getD j 0 + y.1.getD j 0 ∧ x.1.getD j 0 + y.1.getD j 0 ≤ 1000 := fun x hx y hy j => by
  have a1 := pow_nine (pow_of h1 x hx) j
  have a2 := pow_nine (pow_of h2 y hy) j
  omega
def mulOk (p q : List Mon) : Bool := polyB p && polyB q && polyB (mulP p q)
def mulR (p q : List Mon) : List Mon := if mulOk p q = true then mulP p q else []
end Go.Proofs.YtpjgjpjfchfmlaaGreatDoor
