/-
  PROVED HERE: plain facts on how a term is read from a text: up to where, and that it is the text of what is read. No condition. plain facts: a term's text is read back as the term; what is read has that text; what ReadTerm tells, as a plain function. No condition. the pieces of the plain reading. No condition. plain facts: what ReadTerm tells, case by case. No condition.
-/
import Derived.Test.YtbchehpggoampaaDoorReadDefs
import Derived.Test.YtbchehpggoampaaDoorSegs
import Derived.Test.YtbchehpggoampaaDoorDigits
namespace Go.Proofs.YtbchehpggoampaaDoor
set_option linter.unusedVariables false

/-- A list of nodes is a term with that text, of at most such a height. -/
def TmH : Nat → List (Int × Int) → List UInt8 → Prop
  | 0, _, _ => False
  | h + 1, p, t =>
    (∃ n, InI n ∧ p = [(1, n)] ∧ t = Lib.itoa n) ∨ (∃ v : Nat, v < 4 ∧ p = [(2, (v : Int))] ∧ t = [UInt8.ofNat (97 + v)]) ∨
    (∃ p1 t1, TmH h p1 t1 ∧ p = p1 ++ [(3, 0)] ∧ t = 126 :: t1) ∨
    (∃ (op : Int) (p1 : List (Int × Int)) (t1 : List UInt8) (p2 : List (Int × Int)) (t2 : List UInt8), 4 ≤ op ∧ op ≤ 10 ∧ TmH h p1 t1 ∧ TmH h p2 t2 ∧ p = p1 ++ p2 ++ [(op, 0)] ∧ t = 40 :: t1 ++ signB op ++ t2 ++ [41]) ∨
    (∃ p1 t1 p2 t2 p3 t3, TmH h p1 t1 ∧ TmH h p2 t2 ∧ TmH h p3 t3 ∧ p = p1 ++ p2 ++ p3 ++ [(11, 0)] ∧ t = 40 :: t1 ++ (63 :: t2) ++ (58 :: t3) ++ [41])
theorem TmH.mono : ∀ {h k : Nat} {p : List (Int × Int)} {t : List UInt8}, h ≤ k → TmH h p t → TmH k p t
  | 0, _, _, _, _, h => h.elim
  | h + 1, k, p, t, hk, hh => by
    obtain ⟨k, rfl⟩ : ∃ x, k = x + 1 := ⟨k - 1, by omega⟩
    have up : ∀ {p t}, TmH h p t → TmH k p t := fun x => TmH.mono (by omega) x
    rcases hh with a | a | ⟨p1, t1, a, b⟩ | ⟨op, p1, t1, p2, t2, a1, a2, a, b, c⟩ | ⟨p1, t1, p2, t2, p3, t3, a, b, c, d⟩
    · exact .inl a
    · exact .inr (.inl a)
    · exact .inr (.inr (.inl ⟨p1, t1, up a, b⟩))
    · exact .inr (.inr (.inr (.inl ⟨op, p1, t1, p2, t2, a1, a2, up a, up b, c⟩)))
    · exact .inr (.inr (.inr (.inr ⟨p1, t1, p2, t2, p3, t3, up a, up b, up c, d⟩)))
/-- A list of nodes is a term with that text. -/
def Tm (p : List (Int × Int)) (t : List UInt8) : Prop := ∃ h, TmH h p t
theorem Tm.num (n : Int) (h : InI n) : Tm [(1, n)] (Lib.itoa n) := ⟨1, .inl ⟨n, h, rfl, rfl⟩⟩
theorem Tm.var (v : Nat) (h : v < 4) : Tm [(2, (v : Int))] [UInt8.ofNat (97 + v)] := ⟨1, .inr (.inl ⟨v, h, rfl, rfl⟩)⟩
theorem Tm.neg {p : List (Int × Int)} {t : List UInt8} (h : Tm p t) : Tm (p ++ [(3, 0)]) (126 :: t) := by
  obtain ⟨a, h⟩ := h
  exact ⟨a + 1, .inr (.inr (.inl ⟨p, t, h, rfl, rfl⟩))⟩
theorem Tm.two {p : List (Int × Int)} {t : List UInt8} {q : List (Int × Int)} {u : List UInt8} (op : Int) (h1 : 4 ≤ op) (h2 : op ≤ 10) (hp : Tm p t) (hq : Tm q u) : Tm (p ++ q ++ [(op, 0)]) (40 :: t ++ signB op ++ u ++ [41]) := by
  obtain ⟨a, hp⟩ := hp
  obtain ⟨b, hq⟩ := hq
  exact ⟨a + b + 1, .inr (.inr (.inr (.inl ⟨op, p, t, q, u, h1, h2, hp.mono (by omega), hq.mono (by omega), rfl, rfl⟩)))⟩
theorem Tm.ifs {p : List (Int × Int)} {t : List UInt8} {q : List (Int × Int)} {u : List UInt8} {r : List (Int × Int)} {v : List UInt8} (hp : Tm p t) (hq : Tm q u) (hr : Tm r v) : Tm (p ++ q ++ r ++ [(11, 0)]) (40 :: t ++ (63 :: u) ++ (58 :: v) ++ [41]) := by
  obtain ⟨a, hp⟩ := hp
  obtain ⟨b, hq⟩ := hq
  obtain ⟨c, hr⟩ := hr
  exact ⟨a + b + c + 1, .inr (.inr (.inr (.inr ⟨p, t, q, u, r, v, hp.mono (by omega), hq.mono (by omega), hr.mono (by omega), rfl, rfl⟩)))⟩
theorem Tm.ind {motive : List (Int × Int) → List UInt8 → Prop} {p : List (Int × Int)} {t : List UInt8} (h : Tm p t)
    (num : ∀ n, InI n → motive [(1, n)] (Lib.itoa n)) (var : ∀ v : Nat, v < 4 → motive [(2, (v : Int))] [UInt8.ofNat (97 + v)])
    (neg : ∀ p t, Tm p t → motive p t → motive (p ++ [(3, 0)]) (126 :: t))
    (two : ∀ p t q u (op : Int), 4 ≤ op → op ≤ 10 → Tm p t → Tm q u → motive p t → motive q u → motive (p ++ q ++ [(op, 0)]) (40 :: t ++ signB op ++ u ++ [41]))
    (ifs : ∀ p t q u r v, Tm p t → Tm q u → Tm r v → motive p t → motive q u → motive r v → motive (p ++ q ++ r ++ [(11, 0)]) (40 :: t ++ (63 :: u) ++ (58 :: v) ++ [41])) : motive p t := by
  obtain ⟨h, hh⟩ := h
  induction h generalizing p t with
  | zero => exact hh.elim
  | succ h ih =>
    rcases hh with ⟨n, a, rfl, rfl⟩ | ⟨v, a, rfl, rfl⟩ | ⟨p1, t1, a, rfl, rfl⟩ | ⟨op, p1, t1, p2, t2, a1, a2, a, b, rfl, rfl⟩ | ⟨p1, t1, p2, t2, p3, t3, a, b, c, rfl, rfl⟩
    · exact num n a
    · exact var v a
    · exact neg p1 t1 ⟨h, a⟩ (ih a)
    · exact two p1 t1 p2 t2 op a1 a2 ⟨h, a⟩ ⟨h, b⟩ (ih a) (ih b)
    · exact ifs p1 t1 p2 t2 p3 t3 ⟨h, a⟩ ⟨h, b⟩ ⟨h, c⟩ (ih a) (ih b) (ih c)

def seg8 (s : List UInt8) (a b : Nat) : List UInt8 := (s.drop a).take (b - a)
theorem seg8_append (s : List UInt8) (a b c : Nat) (h1 : a ≤ b) (h2 : b ≤ c) : seg8 s a c = seg8 s a b ++ seg8 s b c := by
  unfold seg8
  have e : c - a = (b - a) + (c - b) := by omega
  rw [e, List.take_add, List.drop_drop, show a + (b - a) = b from by omega]
theorem getD_at (s : List UInt8) (a : Nat) (h : a < s.length) : s.getD a 0 = s[a] := by
  rw [List.getD_eq_getElem?_getD, List.getElem?_eq_getElem h]; rfl
theorem seg8_one (s : List UInt8) (a : Nat) (h : a < s.length) : seg8 s a (a + 1) = [s.getD a 0] := by
  unfold seg8
  rw [show a + 1 - a = 1 from by omega, List.drop_eq_getElem_cons h, getD_at s a h]
  rfl
theorem dig_ge (s : List UInt8) (e : Nat) : e ≤ digEnd s e := by unfold digEnd; omega
theorem tw_len : ∀ l : List UInt8, (l.takeWhile isD).length ≤ l.length
  | [] => by simp
  | x :: l => by
    rw [List.takeWhile_cons]
    split
    · have := tw_len l; simp only [List.length_cons]; omega
    · simp
theorem dig_le (s : List UInt8) (e : Nat) (h : e ≤ s.length) : digEnd s e ≤ s.length := by
  unfold digEnd
  have := tw_len (s.drop e)
  rw [List.length_drop] at this; omega
theorem dig_yes (s : List UInt8) (e : Nat) (hd : isD (s.getD e 0) = true) : digEnd s e = digEnd s (e + 1) := by
  have h : e < s.length := by
    rcases Nat.lt_or_ge e s.length with h | h
    · exact h
    · rw [List.getD_eq_getElem?_getD, List.getElem?_eq_none h] at hd; exact absurd (show isD 0 = true from hd) (by decide)
  unfold digEnd
  rw [List.drop_eq_getElem_cons h, List.takeWhile_cons, if_pos (by rw [← getD_at s e h]; exact hd)]
  simp only [List.length_cons]; omega
theorem dig_no (s : List UInt8) (e : Nat) (hd : isD (s.getD e 0) = false) : digEnd s e = e := by
  unfold digEnd
  rcases Nat.lt_or_ge e s.length with h | h
  · rw [List.drop_eq_getElem_cons h, List.takeWhile_cons, if_neg (by rw [← getD_at s e h, hd]; decide)]; rfl
  · rw [List.drop_of_length_le h]; rfl
theorem byteIs_iff {s : List UInt8} {a : Nat} {b : UInt8} (h : byteIs s a b = true) : a < s.length ∧ s.getD a 0 = b := by
  unfold byteIs at h
  simp only [Bool.and_eq_true, decide_eq_true_eq, beq_iff_eq] at h
  exact h
theorem byteIs_seg {s : List UInt8} {a : Nat} {b : UInt8} (h : byteIs s a b = true) : seg8 s a (a + 1) = [b] := by
  obtain ⟨h1, h2⟩ := byteIs_iff h
  rw [seg8_one s a h1, h2]
theorem numEnd_gt (s : List UInt8) (a : Nat) (ha : a < s.length) (h : (isD (s.getD a 0) || s.getD a 0 == 45) = true) : a < numEnd s a ∧ numEnd s a ≤ s.length := by
  unfold numEnd
  by_cases h45 : s.getD a 0 = 45
  · rw [if_pos h45]
    have := dig_ge s (a + 1)
    have := dig_le s (a + 1) (by omega)
    omega
  · rw [if_neg h45]
    have hd : isD (s.getD a 0) = true := by
      rw [beq_eq_false_iff_ne.2 h45, Bool.or_false] at h; exact h
    rw [dig_yes s a hd]
    have := dig_ge s (a + 1)
    have := dig_le s (a + 1) (by omega)
    omega
theorem two_cases (s : List UInt8) (a : Nat) (ha : a ≤ s.length) : ((twoR s a).1 = 0 ∧ a ≤ (twoR s a).2 ∧ (twoR s a).2 ≤ s.length) ∨ (4 ≤ (twoR s a).1 ∧ (twoR s a).1 ≤ 10 ∧ a < (twoR s a).2 ∧ (twoR s a).2 ≤ s.length ∧ seg8 s a (twoR s a).2 = signB (twoR s a).1) := by
  have one : ∀ (b : UInt8), byteIs s a b = true → a < a + 1 ∧ a + 1 ≤ s.length ∧ seg8 s a (a + 1) = [b] := fun b h => by
    have := (byteIs_iff h).1
    exact ⟨by omega, by omega, byteIs_seg h⟩
  have pair : ∀ (b c : UInt8), (byteIs s a b && byteIs s (a + 1) c) = true → a < a + 2 ∧ a + 2 ≤ s.length ∧ seg8 s a (a + 2) = [b, c] := fun b c h => by
    rw [Bool.and_eq_true] at h
    have := (byteIs_iff h.2).1
    refine ⟨by omega, by omega, ?_⟩
    rw [seg8_append s a (a + 1) (a + 2) (by omega) (by omega), byteIs_seg h.1, byteIs_seg h.2]
    rfl
  unfold twoR
  split
  · next h => exact .inr ⟨by omega, by omega, one _ h⟩
  split
  · next h => exact .inr ⟨by omega, by omega, one _ h⟩
  split
  · next h => exact .inr ⟨by omega, by omega, one _ h⟩
  split
  · next h => exact .inr ⟨by omega, by omega, pair _ _ h⟩
  split
  · next h => exact .inr ⟨by omega, by omega, one _ h⟩
  split
  · next h => exact .inr ⟨by omega, by omega, pair _ _ h⟩
  split
  · next h => exact .inr ⟨by omega, by omega, one _ h⟩
  split
  · next h => have := (byteIs_iff h).1; exact .inl ⟨rfl, by show a ≤ a + 1; omega, this⟩
  · exact .inl ⟨rfl, Nat.le_refl _, ha⟩

/-- What a reading from a on tells. -/
def RdOk (s : List UInt8) (a : Nat) (out : List (Int × Int)) (R : Rd) : Prop :=
  a ≤ R.2.1 ∧ R.2.1 ≤ s.length ∧ R.2.2.length + a ≤ out.length + R.2.1 ∧ (R.1 = true → a < R.2.1 ∧ ∃ p, R.2.2 = out ++ p ∧ Tm p (seg8 s a R.2.1))
theorem rd_no {s : List UInt8} {a b : Nat} {out out' : List (Int × Int)} (h1 : a ≤ b) (h2 : b ≤ s.length) (h3 : out'.length + a ≤ out.length + b) : RdOk s a out (false, b, out') := ⟨h1, h2, h3, fun h => by cases h⟩
theorem num_ok (s : List UInt8) (a : Nat) (out : List (Int × Int)) (ha : a < s.length) (h : (isD (s.getD a 0) || s.getD a 0 == 45) = true) : RdOk s a out (numR s a out) := by
  obtain ⟨h1, h2⟩ := numEnd_gt s a ha h
  unfold numR
  split
  · next n hn =>
    obtain ⟨n1, n2⟩ := numOf_some hn
    refine ⟨by show a ≤ numEnd s a; omega, h2, by show (out ++ [(1, n)]).length + a ≤ out.length + numEnd s a; rw [List.length_append, List.length_singleton]; omega, fun _ => ⟨h1, [(1, n)], rfl, ?_⟩⟩
    have := Tm.num n n1
    rw [n2] at this
    exact this
  · split
    · exact rd_no (by omega) (by omega) (by omega)
    · exact rd_no (by omega) (by omega) (by omega)
theorem var_chr (b : UInt8) (h : 97 ≤ b.toNat) : UInt8.ofNat (97 + (b.toNat - 97)) = b := by
  rw [show 97 + (b.toNat - 97) = b.toNat from by omega]
  exact UInt8.ofNat_toNat
/-- Behind a part that has been read. -/
theorem thenB_ok {s : List UInt8} {c a : Nat} {b : UInt8} {out : List (Int × Int)} {R : Rd} (h : RdOk s a out R) :
    a ≤ (thenB s b R).2.1 ∧ (thenB s b R).2.1 ≤ s.length ∧ (thenB s b R).2.2.length + a ≤ out.length + (thenB s b R).2.1 ∧
    ((thenB s b R).1 = true → a < (thenB s b R).2.1 ∧ ∃ p t, (thenB s b R).2.2 = out ++ p ∧ Tm p t ∧ seg8 s a (thenB s b R).2.1 = t ++ [b]) := by
  obtain ⟨h1, h2, h3, h4⟩ := h
  unfold thenB
  by_cases hr : R.1 = true
  · rw [if_pos hr]
    by_cases hb : byteIs s R.2.1 b = true
    · rw [if_pos hb]
      have hlt := (byteIs_iff hb).1
      obtain ⟨h5, p, h6, h7⟩ := h4 hr
      refine ⟨by show a ≤ R.2.1 + 1; omega, hlt, by show R.2.2.length + a ≤ out.length + (R.2.1 + 1); omega, fun _ => ⟨by show a < R.2.1 + 1; omega, p, _, h6, h7, ?_⟩⟩
      show seg8 s a (R.2.1 + 1) = _
      rw [seg8_append s a R.2.1 (R.2.1 + 1) h1 (by omega), byteIs_seg hb]
    · rw [if_neg hb]
      exact ⟨h1, h2, h3, fun h => by cases h⟩
  · rw [if_neg hr]
    exact ⟨h1, h2, h3, fun h => absurd h hr⟩

theorem readT_ok (s : List UInt8) : ∀ (f a : Nat) (out : List (Int × Int)), a ≤ s.length → RdOk s a out (readT s f a out)
  | 0, a, out, ha => rd_no (Nat.le_refl _) ha (by omega)
  | f + 1, a, out, ha => by
    have ih := readT_ok s f
    rw [readT]
    split
    · exact rd_no (Nat.le_refl _) ha (by omega)
    next hne =>
    have hlt : a < s.length := by omega
    split
    · next h => exact num_ok s a out hlt h
    split
    · next h =>
      simp only [Bool.and_eq_true, decide_eq_true_eq] at h
      refine ⟨by show a ≤ a + 1; omega, hlt, by show (out ++ [_]).length + a ≤ out.length + (a + 1); rw [List.length_append, List.length_singleton]; omega, fun _ => ⟨by show a < a + 1; omega, [_], rfl, ?_⟩⟩
      have := Tm.var ((s.getD a 0).toNat - 97) (by omega)
      rw [var_chr _ h.1] at this
      show Tm _ (seg8 s a (a + 1))
      rw [seg8_one s a hlt]
      exact this
    split
    · next h =>
      have h126 : s.getD a 0 = 126 := by simpa using h
      obtain ⟨i1, i2, i3, i4⟩ := ih (a + 1) out hlt
      refine ⟨by show a ≤ (readT s f (a + 1) out).2.1; omega, i2, by show (_ ++ [_]).length + a ≤ out.length + (readT s f (a + 1) out).2.1; rw [List.length_append, List.length_singleton]; omega, fun hr => ?_⟩
      obtain ⟨j1, p, j2, j3⟩ := i4 hr
      refine ⟨by show a < (readT s f (a + 1) out).2.1; omega, p ++ [(3, 0)], ?_, ?_⟩
      · show (readT s f (a + 1) out).2.2 ++ [(3, 0)] = _
        rw [j2, List.append_assoc]
      · show Tm _ (seg8 s a (readT s f (a + 1) out).2.1)
        rw [seg8_append s a (a + 1) _ (by omega) i1, seg8_one s a hlt, h126]
        exact Tm.neg j3
    split
    · exact rd_no (Nat.le_refl _) ha (by omega)
    next h40' =>
    have h40 : s.getD a 0 = 40 := by simpa using h40'
    obtain ⟨i1, i2, i3, i4⟩ := ih (a + 1) out hlt
    simp only []
    generalize readT s f (a + 1) out = R1 at i1 i2 i3 i4 ⊢
    split
    · next hr => exact ⟨by omega, i2, by omega, fun h => by rw [h] at hr; cases hr⟩
    next hr =>
    have hr1 : R1.1 = true := by simpa using hr
    obtain ⟨j1, p, j2, j3⟩ := i4 hr1
    split
    · next hq =>
      have hql := (byteIs_iff hq).1
      have T2 := thenB_ok (c := 0) (b := 58) (ih (R1.2.1 + 1) R1.2.2 hql)
      generalize thenB s 58 (readT s f (R1.2.1 + 1) R1.2.2) = R2 at T2 ⊢
      obtain ⟨k1, k2, k3, k4⟩ := T2
      split
      · next hr => exact ⟨by omega, k2, by omega, fun h => by rw [h] at hr; cases hr⟩
      next hr2 =>
      obtain ⟨l1, q, u, l2, l3, l4⟩ := k4 (by simpa using hr2)
      have T3 := thenB_ok (c := 0) (b := 41) (ih R2.2.1 R2.2.2 k2)
      generalize thenB s 41 (readT s f R2.2.1 R2.2.2) = R3 at T3 ⊢
      obtain ⟨m1, m2, m3, m4⟩ := T3
      split
      · next hr => exact ⟨by omega, m2, by omega, fun h => by rw [h] at hr; cases hr⟩
      next hr3 =>
      obtain ⟨n1, r, v, n2, n3, n4⟩ := m4 (by simpa using hr3)
      refine ⟨by show a ≤ R3.2.1; omega, m2, by show (R3.2.2 ++ [_]).length + a ≤ out.length + R3.2.1; rw [List.length_append, List.length_singleton]; omega, fun _ => ⟨by show a < R3.2.1; omega, p ++ q ++ r ++ [(11, 0)], ?_, ?_⟩⟩
      · show R3.2.2 ++ [(11, 0)] = _
        rw [n2, l2, j2]; simp only [List.append_assoc]
      · have := Tm.ifs j3 l3 n3
        show Tm _ (seg8 s a R3.2.1)
        rw [seg8_append s a (a + 1) _ (by omega) (by omega), seg8_one s a hlt, h40, seg8_append s (a + 1) R1.2.1 _ i1 (by omega), seg8_append s R1.2.1 (R1.2.1 + 1) _ (by omega) (by omega), byteIs_seg hq, seg8_append s (R1.2.1 + 1) R2.2.1 _ k1 m1, l4, n4]
        simpa only [List.append_assoc, List.cons_append, List.nil_append, List.singleton_append] using this
    · have T := two_cases s R1.2.1 i2
      generalize twoR s R1.2.1 = T2 at T ⊢
      split
      · next h0 =>
        rcases T with ⟨_, t1, t2⟩ | ⟨t0, _⟩
        · exact rd_no (by omega) t2 (by omega)
        · omega
      · next h0 =>
        rcases T with ⟨t0, _⟩ | ⟨t0, t1, t2, t3, t4⟩
        · exact absurd t0 h0
        have T3 := thenB_ok (c := 0) (b := 41) (ih T2.2 R1.2.2 t3)
        generalize thenB s 41 (readT s f T2.2 R1.2.2) = R3 at T3 ⊢
        obtain ⟨m1, m2, m3, m4⟩ := T3
        split
        · next hr => exact ⟨by omega, m2, by omega, fun h => by rw [h] at hr; cases hr⟩
        next hr3 =>
        obtain ⟨n1, r, v, n2, n3, n4⟩ := m4 (by simpa using hr3)
        refine ⟨by show a ≤ R3.2.1; omega, m2, by show (R3.2.2 ++ [_]).length + a ≤ out.length + R3.2.1; rw [List.length_append, List.length_singleton]; omega, fun _ => ⟨by show a < R3.2.1; omega, p ++ r ++ [(T2.1, 0)], ?_, ?_⟩⟩
        · show R3.2.2 ++ [(T2.1, 0)] = _
          rw [n2, j2]; simp only [List.append_assoc]
        · have := Tm.two T2.1 t0 t1 j3 n3
          show Tm _ (seg8 s a R3.2.1)
          rw [seg8_append s a (a + 1) _ (by omega) (by omega), seg8_one s a hlt, h40, seg8_append s (a + 1) R1.2.1 _ i1 (by omega), seg8_append s R1.2.1 T2.2 _ (by omega) (by omega), t4, n4]
          simpa only [List.append_assoc, List.cons_append, List.nil_append, List.singleton_append] using this

/-- One node on a pile of texts. -/
def pushT (st : List (List UInt8)) (x : Int × Int) : List (List UInt8) := nodeT x ((st.take (ar x.1).toNat).reverse) :: st.drop (ar x.1).toNat
theorem Tm.run {p : List (Int × Int)} {t : List UInt8} (h : Tm p t) : ∀ st, p.foldl pushT st = t :: st := by
  refine h.ind (motive := fun p t => ∀ st, p.foldl pushT st = t :: st) ?_ ?_ ?_ ?_ ?_
  · intro n hn
    intro st; rfl
  · intro v hv
    intro st
    show nodeT (2, (v : Int)) _ :: _ = _
    unfold nodeT
    rw [if_neg (show ¬ (2 : Int) = 1 by decide), if_pos rfl, Int.toNat_natCast]
    rfl
  · intro p t h ih
    intro st; rw [List.foldl_append, ih]; rfl
  · intro p t q u op h1 h2 hp hq ih1 ih2
    intro st
    rw [List.foldl_append, List.foldl_append, ih1, ih2]
    show nodeT (op, 0) _ :: _ = _
    have har : (ar op).toNat = 2 := by
      rcases (show op = 4 ∨ op = 5 ∨ op = 6 ∨ op = 7 ∨ op = 8 ∨ op = 9 ∨ op = 10 by omega) with rfl | rfl | rfl | rfl | rfl | rfl | rfl <;> rfl
    unfold nodeT
    rw [if_neg (by show ¬ op = 1; omega), if_neg (by show ¬ op = 2; omega), if_neg (by show ¬ op = 3; omega), if_neg (by show ¬ op = 11; omega)]
    simp only [har]
    rfl
  · intro p t q u r v hp hq hr ih1 ih2 ih3
    intro st; rw [List.foldl_append, List.foldl_append, List.foldl_append, ih1, ih2, ih3]; rfl
theorem Tm.unique {p : List (Int × Int)} {t t' : List UInt8} (h : Tm p t) (h' : Tm p t') : t = t' := by
  have := h.run []
  rw [h'.run []] at this
  exact (List.cons.inj this).1.symm
theorem Tm.pile {p : List (Int × Int)} {t : List UInt8} (h : Tm p t) : ∀ q : Int, 0 ≤ q → pile p q = some (q + 1) := by
  refine h.ind (motive := fun p t => ∀ q : Int, 0 ≤ q → Go.Proofs.YtbchehpggoampaaDoor.pile p q = some (q + 1)) ?_ ?_ ?_ ?_ ?_
  · intro n hn
    intro q hq; simp [Go.Proofs.YtbchehpggoampaaDoor.pile, fits, show ar 1 = 0 from rfl]; omega
  · intro v hv
    intro q hq; simp [Go.Proofs.YtbchehpggoampaaDoor.pile, fits, show ar 2 = 0 from rfl]; omega
  · intro p t h ih
    intro q hq; rw [pile_append, ih q hq]; simp [Go.Proofs.YtbchehpggoampaaDoor.pile, fits, show ar 3 = 1 from rfl]; omega
  · intro p t r u op h1 h2 hp hq ih1 ih2
    intro q hq
    have har : ar op = 2 := by
      rcases (show op = 4 ∨ op = 5 ∨ op = 6 ∨ op = 7 ∨ op = 8 ∨ op = 9 ∨ op = 10 by omega) with rfl | rfl | rfl | rfl | rfl | rfl | rfl <;> rfl
    have h2' : (op == 2) = false := by simp; omega
    rw [pile_append, pile_append, ih1 q hq]
    simp only [Option.bind_some]
    rw [ih2 (q + 1) (by omega)]
    simp only [Option.bind_some, Go.Proofs.YtbchehpggoampaaDoor.pile, fits, har, h2']
    have : ¬ (q + 1 + 1 < 2) := by omega
    simp [this]; omega
  · intro p t q u r v hp hq hr ih1 ih2 ih3
    intro q hq
    rw [pile_append, pile_append, pile_append, ih1 q hq]
    simp only [Option.bind_some]
    rw [ih2 (q + 1) (by omega)]
    simp only [Option.bind_some]
    rw [ih3 (q + 1 + 1) (by omega)]
    simp only [Option.bind_some, Go.Proofs.YtbchehpggoampaaDoor.pile, fits, show ar 11 = 3 from rfl]
    have : ¬ (q + 1 + 1 + 1 < 3) := by omega
    simp [this]; omega
theorem Tm.ne {p : List (Int × Int)} {t : List UInt8} (h : Tm p t) : 1 ≤ p.length := by
  refine h.ind (motive := fun p t => 1 ≤ p.length) ?_ ?_ ?_ ?_ ?_ <;> intros <;> simp <;> omega
theorem Tm.nums {p : List (Int × Int)} {t : List UInt8} (h : Tm p t) : ∀ x ∈ p, InI x.2 := by
  have i0 : InI 0 := by unfold InI; omega
  refine h.ind (motive := fun p t => ∀ x ∈ p, InI x.2) ?_ ?_ ?_ ?_ ?_
  · intro n hn
    intro x hx; rw [List.mem_singleton.1 hx]; exact hn
  · intro v hv
    intro x hx; rw [List.mem_singleton.1 hx]; unfold InI; omega
  · intro p t h ih
    intro x hx
    rcases List.mem_append.1 hx with hx | hx
    · exact ih x hx
    · rw [List.mem_singleton.1 hx]; exact i0
  · intro p t q u op h1 h2 hp hq ih1 ih2
    intro x hx
    rcases List.mem_append.1 hx with hx | hx
    · rcases List.mem_append.1 hx with hx | hx
      · exact ih1 x hx
      · exact ih2 x hx
    · rw [List.mem_singleton.1 hx]; exact i0
  · intro p t q u r v hp hq hr ih1 ih2 ih3
    intro x hx
    rcases List.mem_append.1 hx with hx | hx
    · rcases List.mem_append.1 hx with hx | hx
      · rcases List.mem_append.1 hx with hx | hx
        · exact ih1 x hx
        · exact ih2 x hx
      · exact ih3 x hx
    · rw [List.mem_singleton.1 hx]; exact i0
theorem Tm.good {p : List (Int × Int)} {t : List UInt8} (h : Tm p t) : goodB p = decide (p.length ≤ 40) := by
  unfold goodB
  rw [h.pile 0 (Int.le_refl _), show ((some ((0 : Int) + 1) == some 1) = true) from rfl, Bool.and_true]
  have := h.ne
  simp; omega
end Go.Proofs.YtbchehpggoampaaDoor
namespace Go.Proofs.YtbchehpggoampaaDoor
set_option linter.unusedVariables false

theorem tw_all : ∀ (D rest : List UInt8), (∀ c ∈ D, isD c = true) → isD (rest.getD 0 0) = false → (D ++ rest).takeWhile isD = D
  | [], [], _, _ => rfl
  | [], x :: r, _, h => by
    rw [List.nil_append, List.takeWhile_cons, if_neg (by rw [show isD x = false from h]; decide)]
  | d :: D, rest, hD, h => by
    rw [List.cons_append, List.takeWhile_cons, if_pos (hD d (List.mem_cons_self ..)), tw_all D rest (fun c hc => hD c (List.mem_cons_of_mem _ hc)) h]
theorem isD_of {c : UInt8} (h : IsDig c) : isD c = true := by unfold isD; exact decide_eq_true h
theorem dec_isD (u : Nat) : ∀ c ∈ Lib.decDigits u, isD c = true := fun c hc => isD_of (dec_dig u c hc)
theorem drop_at {s t : List UInt8} {a : Nat} (h : s.drop a = t) (i : Nat) : s.getD (a + i) 0 = t.getD i 0 := by
  rw [← h, List.getD_eq_getElem?_getD, List.getD_eq_getElem?_getD, List.getElem?_drop]
theorem drop_next {s t u : List UInt8} {a n : Nat} (h : s.drop a = t ++ u) (hn : t.length = n) : s.drop (a + n) = u := by
  rw [← List.drop_drop, h, ← hn, List.drop_left]
theorem drop_lt {s t : List UInt8} {c : UInt8} {a : Nat} (h : s.drop a = c :: t) : a < s.length := by
  rcases Nat.lt_or_ge a s.length with h' | h'
  · exact h'
  · rw [List.drop_of_length_le h'] at h; cases h
theorem byteIs_yes {s t : List UInt8} {c : UInt8} {a : Nat} (h : s.drop a = c :: t) : byteIs s a c = true := by
  unfold byteIs
  rw [decide_eq_true (drop_lt h), show s.getD a 0 = c from drop_at h 0]
  simp
theorem byteIs_no {s t : List UInt8} {c b : UInt8} {a : Nat} (h : s.drop a = c :: t) (hb : c ≠ b) : byteIs s a b = false := by
  unfold byteIs
  rw [decide_eq_true (drop_lt h), show s.getD a 0 = c from drop_at h 0, beq_eq_false_iff_ne.2 hb]
  rfl
theorem itoa_inj {n m : Int} (hn : InI n) (hm : InI m) (h : Lib.itoa n = Lib.itoa m) : n = m := by
  have h1 := parse_itoa n hn.1 hn.2
  rw [h, parse_itoa m hm.1 hm.2] at h1
  cases h1; rfl
theorem numOf_itoa {n : Int} (hn : InI n) : numOf (Lib.itoa n) = some n := by
  cases h : numOf (Lib.itoa n) with
  | none => exact absurd rfl (numOf_none h n hn)
  | some m =>
    obtain ⟨h1, h2⟩ := numOf_some h
    rw [itoa_inj h1 hn h2]
theorem itoa_shape (n : Int) : (∃ u, Lib.itoa n = 45 :: Lib.decDigits u) ∨ (∃ u, Lib.itoa n = Lib.decDigits u) := by
  unfold Lib.itoa
  split
  · exact .inl ⟨_, rfl⟩
  · exact .inr ⟨_, rfl⟩
theorem dec_cons (u : Nat) : ∃ c r, Lib.decDigits u = c :: r := by
  cases h : Lib.decDigits u with
  | nil => exact absurd h (dec_ne u)
  | cons c r => exact ⟨c, r, rfl⟩
/-- How a text of a term begins. -/
theorem Tm.head {p : List (Int × Int)} {t : List UInt8} (h : Tm p t) : ∃ c r, t = c :: r ∧ c ≠ 60 ∧ c ≠ 61 ∧ c ≠ 63 := by
  have hdig : ∀ c : UInt8, IsDig c → c ≠ 60 ∧ c ≠ 61 ∧ c ≠ 63 := fun c hc => by
    unfold IsDig at hc
    refine ⟨fun e => ?_, fun e => ?_, fun e => ?_⟩ <;> (subst e; exact absurd hc (by decide))
  refine h.ind (motive := fun p t => ∃ c r, t = c :: r ∧ c ≠ 60 ∧ c ≠ 61 ∧ c ≠ 63) ?_ ?_ ?_ ?_ ?_
  · intro n hn
    rcases itoa_shape n with ⟨u, e⟩ | ⟨u, e⟩
    · exact ⟨45, _, e, by decide, by decide, by decide⟩
    · obtain ⟨c, r, e2⟩ := dec_cons u
      have := dec_dig u c (by rw [e2]; exact List.mem_cons_self ..)
      exact ⟨c, r, e.trans e2, hdig c this⟩
  · intro v hv
    refine ⟨_, [], rfl, ?_⟩
    have : v = 0 ∨ v = 1 ∨ v = 2 ∨ v = 3 := by omega
    rcases this with rfl | rfl | rfl | rfl <;> decide
  · intro p t h _
    exact ⟨126, _, rfl, by decide, by decide, by decide⟩
  · intro p t q u op h1 h2 hp hq _ _
    exact ⟨40, _, rfl, by decide, by decide, by decide⟩
  · intro p t q u r v hp hq hr _ _ _
    exact ⟨40, _, rfl, by decide, by decide, by decide⟩
theorem num_back (n : Int) (hn : InI n) (s rest : List UInt8) (a : Nat) (out : List (Int × Int)) (h : s.drop a = Lib.itoa n ++ rest) (hr : isD (rest.getD 0 0) = false) (f : Nat) :
    readT s (f + 1) a out = (true, a + (Lib.itoa n).length, out ++ [(1, n)]) := by
  have key : numEnd s a = a + (Lib.itoa n).length ∧ (isD (s.getD a 0) || s.getD a 0 == 45) = true ∧ a < s.length := by
    rcases itoa_shape n with ⟨u, e⟩ | ⟨u, e⟩
    · rw [e] at h ⊢
      have h0 : s.getD a 0 = 45 := drop_at h 0
      have h1 : s.drop (a + 1) = Lib.decDigits u ++ rest := drop_next (t := [45]) h rfl
      refine ⟨?_, by rw [h0]; rfl, drop_lt h⟩
      unfold numEnd digEnd
      rw [if_pos h0, h1, tw_all _ _ (dec_isD u) hr, List.length_cons]; omega
    · rw [e] at h ⊢
      obtain ⟨c, r, e2⟩ := dec_cons u
      have hc : isD c = true := dec_isD u c (by rw [e2]; exact List.mem_cons_self ..)
      have h0 : s.getD a 0 = c := by rw [e2] at h; exact drop_at h 0
      refine ⟨?_, by rw [h0, hc]; rfl, by rw [e2] at h; exact drop_lt h⟩
      unfold numEnd digEnd
      rw [if_neg (by rw [h0]; intro e; subst e; exact absurd hc (by decide)), h, tw_all _ _ (dec_isD u) hr]
  obtain ⟨k1, k2, k3⟩ := key
  rw [readT, if_neg (by omega), if_pos k2]
  unfold numR
  rw [k1, show a + (Lib.itoa n).length - a = (Lib.itoa n).length from by omega, h, List.take_left, numOf_itoa hn]
theorem sign_back (op : Int) (h1 : 4 ≤ op) (h2 : op ≤ 10) (s u : List UInt8) (a : Nat) (h : s.drop a = signB op ++ u) (hu : ∃ c r, u = c :: r ∧ c ≠ 60) : twoR s a = (op, a + (signB op).length) ∧ byteIs s a 63 = false ∧ a < s.length := by
  obtain ⟨c, r, rfl, hc⟩ := hu
  rcases (show op = 4 ∨ op = 5 ∨ op = 6 ∨ op = 7 ∨ op = 8 ∨ op = 9 ∨ op = 10 by omega) with rfl | rfl | rfl | rfl | rfl | rfl | rfl
  · have h : s.drop a = 43 :: (c :: r) := h
    refine ⟨?_, byteIs_no h (by decide), drop_lt h⟩
    unfold twoR; rw [if_pos (byteIs_yes h)]; rfl
  · have h : s.drop a = 45 :: (c :: r) := h
    refine ⟨?_, byteIs_no h (by decide), drop_lt h⟩
    unfold twoR; rw [byteIs_no h (by decide), byteIs_yes h]; rfl
  · have h : s.drop a = 42 :: (c :: r) := h
    refine ⟨?_, byteIs_no h (by decide), drop_lt h⟩
    unfold twoR; rw [byteIs_no h (b := 43) (by decide), byteIs_no h (b := 45) (by decide), byteIs_yes h]; rfl
  · have h : s.drop a = 60 :: 60 :: (c :: r) := h
    have h' : s.drop (a + 1) = 60 :: (c :: r) := drop_next (t := [60]) h rfl
    refine ⟨?_, byteIs_no h (by decide), drop_lt h⟩
    unfold twoR; rw [byteIs_no h (b := 43) (by decide), byteIs_no h (b := 45) (by decide), byteIs_no h (b := 42) (by decide), byteIs_yes h, byteIs_yes h']; rfl
  · have h : s.drop a = 47 :: (c :: r) := h
    refine ⟨?_, byteIs_no h (by decide), drop_lt h⟩
    unfold twoR; rw [byteIs_no h (b := 43) (by decide), byteIs_no h (b := 45) (by decide), byteIs_no h (b := 42) (by decide), byteIs_no h (b := 60) (by decide), byteIs_yes h]; rfl
  · have h : s.drop a = 61 :: 61 :: (c :: r) := h
    have h' : s.drop (a + 1) = 61 :: (c :: r) := drop_next (t := [61]) h rfl
    refine ⟨?_, byteIs_no h (by decide), drop_lt h⟩
    unfold twoR; rw [byteIs_no h (b := 43) (by decide), byteIs_no h (b := 45) (by decide), byteIs_no h (b := 42) (by decide), byteIs_no h (b := 60) (by decide), byteIs_no h (b := 47) (by decide), byteIs_yes h, byteIs_yes h']; rfl
  · have h : s.drop a = 60 :: (c :: r) := h
    have h' : s.drop (a + 1) = c :: r := drop_next (t := [60]) h rfl
    refine ⟨?_, byteIs_no h (by decide), drop_lt h⟩
    unfold twoR; rw [byteIs_no h (b := 43) (by decide), byteIs_no h (b := 45) (by decide), byteIs_no h (b := 42) (by decide), byteIs_yes h, byteIs_no h' hc, byteIs_no h (b := 47) (by decide), byteIs_no h (b := 61) (by decide)]; rfl
theorem thenB_yes {s t : List UInt8} {a : Nat} {b : UInt8} {out : List (Int × Int)} (h : s.drop a = b :: t) : thenB s b (true, a, out) = (true, a + 1, out) := by
  unfold thenB
  rw [if_pos rfl, if_pos (byteIs_yes h)]
theorem sign_head (op : Int) (h1 : 4 ≤ op) (h2 : op ≤ 10) (u : List UInt8) : isD ((signB op ++ u).getD 0 0) = false := by
  rcases (show op = 4 ∨ op = 5 ∨ op = 6 ∨ op = 7 ∨ op = 8 ∨ op = 9 ∨ op = 10 by omega) with rfl | rfl | rfl | rfl | rfl | rfl | rfl <;> rfl
/-- A term is read back from its text. -/
theorem Tm.back {p : List (Int × Int)} {t : List UInt8} (h : Tm p t) : ∀ (s rest : List UInt8) (a : Nat) (out : List (Int × Int)) (f : Nat), s.drop a = t ++ rest → isD (rest.getD 0 0) = false → t.length ≤ f →
    readT s (f + 1) a out = (true, a + t.length, out ++ p) := by
  refine h.ind (motive := fun p t => ∀ (s rest : List UInt8) (a : Nat) (out : List (Int × Int)) (f : Nat), s.drop a = t ++ rest → isD (rest.getD 0 0) = false → t.length ≤ f → readT s (f + 1) a out = (true, a + t.length, out ++ p)) ?_ ?_ ?_ ?_ ?_
  · intro n hn
    intro s rest a out f hs hr _; exact num_back n hn s rest a out hs hr f
  · intro v hv
    intro s rest a out f hs hr _
    have h0 := drop_at hs 0
    have hlt := drop_lt hs
    have hc : s.getD a 0 = UInt8.ofNat (97 + v) := h0
    have hb : (UInt8.ofNat (97 + v)).toNat = 97 + v := by rw [UInt8.toNat_ofNat']; omega
    rw [readT, if_neg (by omega), hc, if_neg, if_pos, hb]
    · rw [show 97 + v - 97 = v from by omega]; rfl
    · rw [hb]; simp; omega
    · have : v = 0 ∨ v = 1 ∨ v = 2 ∨ v = 3 := by omega
      rcases this with rfl | rfl | rfl | rfl <;> decide
  · intro p t h ih
    intro s rest a out f hs hr hf
    rw [List.length_cons] at hf
    have hlt := drop_lt hs
    have h0 : s.getD a 0 = 126 := drop_at hs 0
    have h1 : s.drop (a + 1) = t ++ rest := drop_next (t := [126]) hs rfl
    obtain ⟨f, rfl⟩ : ∃ x, f = x + 1 := ⟨f - 1, by omega⟩
    have := ih s rest (a + 1) out f h1 hr (by omega)
    rw [readT, if_neg (by omega), h0, if_neg (by decide), if_neg (by decide), if_pos (by decide), this, List.length_cons, List.append_assoc]
    show (true, a + 1 + t.length, _) = _
    rw [show a + 1 + t.length = a + (t.length + 1) from by omega]
  · intro p t q u op o1 o2 hp hq ih1 ih2
    intro s rest a out f hs hr hf
    have e : 40 :: t ++ signB op ++ u ++ [41] ++ rest = 40 :: (t ++ (signB op ++ (u ++ (41 :: rest)))) := by simp
    rw [e] at hs
    have hlt := drop_lt hs
    have h0 : s.getD a 0 = 40 := drop_at hs 0
    have h1 : s.drop (a + 1) = t ++ (signB op ++ (u ++ (41 :: rest))) := drop_next (t := [40]) hs rfl
    have h2 := drop_next h1 rfl
    have h3 := drop_next h2 rfl
    have h4 := drop_next h3 rfl
    simp only [List.length_append, List.length_cons, List.length_nil] at hf
    obtain ⟨f, rfl⟩ : ∃ x, f = x + 1 := ⟨f - 1, by omega⟩
    have r1 := ih1 s _ (a + 1) out f h1 (sign_head op o1 o2 _) (by omega)
    obtain ⟨c, r, rfl, hc, _⟩ := hq.head
    obtain ⟨s1, s2, s3⟩ := sign_back op o1 o2 s _ _ h2 ⟨c, _, rfl, hc⟩
    have r2 := ih2 s (41 :: rest) (a + 1 + t.length + (signB op).length) (out ++ p) f h3 rfl (by omega)
    rw [readT, if_neg (by omega), h0, if_neg (by decide), if_neg (by decide), if_neg (by decide), if_neg (by decide), r1]
    simp only []
    rw [if_neg (by decide), s2, if_neg (by decide), s1]
    simp only []
    rw [if_neg (by omega), r2, thenB_yes h4]
    simp only []
    rw [if_neg (by decide)]
    simp only [List.length_append, List.length_cons, List.length_nil, List.append_assoc, Prod.mk.injEq, true_and]
    exact ⟨by omega, trivial⟩
  · intro p t q u r v hp hq hr' ih1 ih2 ih3
    intro s rest a out f hs hr hf
    have e : 40 :: t ++ (63 :: u) ++ (58 :: v) ++ [41] ++ rest = 40 :: (t ++ (63 :: (u ++ (58 :: (v ++ (41 :: rest)))))) := by simp
    rw [e] at hs
    have hlt := drop_lt hs
    have h0 : s.getD a 0 = 40 := drop_at hs 0
    have h1 : s.drop (a + 1) = t ++ (63 :: (u ++ (58 :: (v ++ (41 :: rest))))) := drop_next (t := [40]) hs rfl
    have h2 := drop_next h1 rfl
    have h3 : s.drop (a + 1 + t.length + 1) = u ++ (58 :: (v ++ (41 :: rest))) := drop_next (t := [63]) h2 rfl
    have h4 := drop_next h3 rfl
    have h5 : s.drop (a + 1 + t.length + 1 + u.length + 1) = v ++ (41 :: rest) := drop_next (t := [58]) h4 rfl
    have h6 := drop_next h5 rfl
    simp only [List.length_append, List.length_cons, List.length_nil] at hf
    obtain ⟨f, rfl⟩ : ∃ x, f = x + 1 := ⟨f - 1, by omega⟩
    have r1 := ih1 s _ (a + 1) out f h1 rfl (by omega)
    have r2 := ih2 s _ (a + 1 + t.length + 1) (out ++ p) f h3 rfl (by omega)
    have r3 := ih3 s _ (a + 1 + t.length + 1 + u.length + 1) (out ++ p ++ q) f h5 rfl (by omega)
    rw [readT, if_neg (by omega), h0, if_neg (by decide), if_neg (by decide), if_neg (by decide), if_neg (by decide), r1]
    simp only []
    rw [if_neg (by decide), byteIs_yes h2, if_pos rfl, r2, thenB_yes h4]
    simp only []
    rw [if_neg (by decide), r3, thenB_yes h6]
    simp only []
    rw [if_neg (by decide)]
    simp only [List.length_append, List.length_cons, List.length_nil, List.append_assoc, Prod.mk.injEq, true_and]
    exact ⟨by omega, trivial⟩
/-- Terms one behind the other, with their texts, the last one first. -/
def TmR : List (List UInt8) → List (Int × Int) → Prop
  | [], ps => ps = []
  | t :: r, ps => ∃ ps0 p, ps = ps0 ++ p ∧ TmR r ps0 ∧ Tm p t
/-- Terms one behind the other, with their texts. -/
def TmL (ps : List (Int × Int)) (ts : List (List UInt8)) : Prop := TmR ts.reverse ps
theorem TmL.nil : TmL [] [] := rfl
theorem TmL.snoc {ps : List (Int × Int)} {ts : List (List UInt8)} {p : List (Int × Int)} {t : List UInt8} (h : TmL ps ts) (hp : Tm p t) : TmL (ps ++ p) (ts ++ [t]) := by
  unfold TmL at *
  rw [List.reverse_append]
  exact ⟨ps, p, rfl, h, hp⟩
theorem TmL.zero {ps : List (Int × Int)} (h : TmL ps []) : ps = [] := h
theorem TmL.last {ps : List (Int × Int)} {ts : List (List UInt8)} (h : TmL ps ts) {ts0 : List (List UInt8)} {t : List UInt8} (e : ts = ts0 ++ [t]) : ∃ ps0 p, ps = ps0 ++ p ∧ TmL ps0 ts0 ∧ Tm p t := by
  unfold TmL at h
  rw [e, List.reverse_append] at h
  exact h
/-- The text of a good list of nodes is its text as a term. -/
theorem tm_of {l : List (Int × Int)} {q : Int} (h : pile l 0 = some q) (hn : InN l) : ∀ K k, k < K → k < l.length → ∀ f, k < f → Tm (seg l (start l k) (k + 1)) (textG l f k) := by
  intro K
  induction K with
  | zero => intro k hk; omega
  | succ K ih =>
    have forest : ∀ (m x : Nat), x ≤ K → x ≤ l.length → (m : Int) ≤ cnt l x → ∀ f, x ≤ f → TmL (seg l (back l m x) x) ((roots l m x).map (textG l f)) := by
      intro m
      induction m with
      | zero =>
        intro x _ _ _ f _
        show TmL (seg l x x) []
        rw [seg_self]
        exact .nil
      | succ m ihm =>
        intro x hx hxl hm f hf
        have hx0 : 0 < x := by
          rcases Nat.eq_zero_or_pos x with h0 | h0
          · subst h0; rw [cnt_zero] at hm; omega
          · exact h0
        have b1 := start_le h (x - 1) (by omega)
        have b2 := start_cnt h (x - 1) (by omega)
        rw [show x - 1 + 1 = x from by omega] at b2
        have b3 := back_le h m (start l (x - 1)) (by omega) (by omega)
        rw [back_succ, seg_append l _ (start l (x - 1)) x b3.1 (by omega)]
        have f1 := ihm (start l (x - 1)) (by omega) (by omega) (by omega) f (by omega)
        have t1 := ih (x - 1) (by omega) (by omega) f (by omega)
        rw [show x - 1 + 1 = x from by omega] at t1
        show TmL _ ((roots l m (start l (x - 1)) ++ [x - 1]).map (textG l f))
        rw [List.map_append]
        exact .snoc f1 t1
    intro k hk hl f hf
    by_cases hkK : k < K
    · exact ih k hkK hl f hf
    obtain rfl : k = K := by omega
    obtain ⟨f, rfl⟩ : ∃ x, f = x + 1 := ⟨f - 1, by omega⟩
    obtain ⟨h1, h2⟩ := cnt_step h k hl
    obtain ⟨a1, a2, a3, a4⟩ := fits_iff _ _ _ _ h1
    obtain ⟨m, hm⟩ : ∃ m : Nat, ar (l.getD k (0, 0)).1 = m := ⟨(ar (l.getD k (0, 0)).1).toNat, by omega⟩
    have hst := start_eq h k hl
    rw [hm, Int.toNat_natCast] at hst
    have b3 := back_le h m k (by omega) (by omega)
    have f1 := forest m k (Nat.le_refl _) (by omega) (by omega) f (by omega)
    rw [hst, seg_append l _ k (k + 1) b3.1 (by omega), seg_one l k hl]
    show Tm _ (nodeT (l.getD k (0, 0)) ((roots l (ar (l.getD k (0, 0)).1).toNat k).map (textG l f)))
    rw [hm, Int.toNat_natCast]
    have hN := hn k
    generalize seg l (back l m k) k = ps at f1 ⊢
    have hRl : (roots l m k).length = m := roots_len _ _ _
    generalize roots l m k = R at f1 hRl ⊢
    obtain ⟨⟨op, n⟩, hx⟩ : ∃ p, l.getD k (0, 0) = p := ⟨_, rfl⟩
    rw [hx] at hm a1 a3 a4 hN ⊢
    simp only at hm a1 a3 a4 hN
    clear h1 h2 a2 hx
    unfold nodeT
    rcases ops op with h0 | h0 | h0 | h0 | h0
    · exfalso; have := ar_out op h0; omega
    · subst h0
      obtain rfl : m = 0 := by have : ar 1 = 0 := rfl; omega
      cases R with
      | cons _ _ => cases hRl
      | nil =>
        rw [TmL.zero f1, if_pos rfl]
        exact Tm.num n hN
    · subst h0
      obtain rfl : m = 0 := by have : ar 2 = 0 := rfl; omega
      cases R with
      | cons _ _ => cases hRl
      | nil =>
        rw [TmL.zero f1, if_neg (show ¬ (2 : Int) = 1 by decide), if_pos rfl]
        obtain ⟨n0, n4⟩ := a3 rfl
        obtain ⟨v, rfl⟩ := Int.eq_ofNat_of_zero_le n0
        rw [show ((2, (v : Int)) : Int × Int).2.toNat = v from rfl]
        exact Tm.var v (by omega)
    · subst h0
      obtain rfl : m = 1 := by have : ar 3 = 1 := rfl; omega
      match R, hRl with
      | [r0], _ =>
        obtain ⟨ps0, p, rfl, g1, g2⟩ := f1.last (ts0 := []) (t := textG l f r0) rfl
        rw [TmL.zero g1, if_neg (show ¬ (3 : Int) = 1 by decide), if_neg (show ¬ (3 : Int) = 2 by decide), if_pos rfl, a4 (by omega)]
        exact Tm.neg g2
    · by_cases h11 : op = 11
      · subst h11
        obtain rfl : m = 3 := by have : ar 11 = 3 := rfl; omega
        match R, hRl with
        | [r0, r1, r2], _ =>
          obtain ⟨ps0, p, rfl, g1, g2⟩ := f1.last (ts0 := [textG l f r0, textG l f r1]) (t := textG l f r2) rfl
          obtain ⟨ps1, p1, rfl, g3, g4⟩ := g1.last (ts0 := [textG l f r0]) (t := textG l f r1) rfl
          obtain ⟨ps2, p2, rfl, g5, g6⟩ := g3.last (ts0 := []) (t := textG l f r0) rfl
          rw [TmL.zero g5, if_neg (show ¬ (11 : Int) = 1 by decide), if_neg (show ¬ (11 : Int) = 2 by decide), if_neg (show ¬ (11 : Int) = 3 by decide), if_pos rfl, a4 (by omega)]
          exact Tm.ifs g6 g4 g2
      · have o1 : 4 ≤ op ∧ op ≤ 10 := by omega
        have har : ar op = 2 := by
          rcases (show op = 4 ∨ op = 5 ∨ op = 6 ∨ op = 7 ∨ op = 8 ∨ op = 9 ∨ op = 10 by omega) with rfl | rfl | rfl | rfl | rfl | rfl | rfl <;> rfl
        obtain rfl : m = 2 := by omega
        match R, hRl with
        | [r0, r1], _ =>
          obtain ⟨ps1, p1, rfl, g3, g4⟩ := f1.last (ts0 := [textG l f r0]) (t := textG l f r1) rfl
          obtain ⟨ps2, p2, rfl, g5, g6⟩ := g3.last (ts0 := []) (t := textG l f r0) rfl
          rw [TmL.zero g5, if_neg (show ¬ op = 1 by omega), if_neg (show ¬ op = 2 by omega), if_neg (show ¬ op = 3 by omega), if_neg h11, a4 (by omega)]
          exact Tm.two op o1.1 o1.2 g6 g4
theorem good_tm {l : List (Int × Int)} (hg : goodB l = true) (hn : InN l) : Tm l (textT l) := by
  obtain ⟨h, h1, _⟩ := good_pile hg
  have := tm_of h hn l.length (l.length - 1) (by omega) (by omega) l.length (by omega)
  rwa [start_root h h1, show l.length - 1 + 1 = l.length from by omega, seg_all] at this

/-- What ReadTerm tells of a text. -/
def rdR (s : List UInt8) : Rd := readT s (s.length + 1) 0 []
def readOk (s : List UInt8) : Bool := decide (s.length ≤ 1200 ∧ (rdR s).1 = true ∧ (rdR s).2.1 = s.length ∧ (rdR s).2.2.length ≤ 40)
def readAt (s : List UInt8) : Nat := if s.length ≤ 1200 then (if (rdR s).1 = true ∧ (rdR s).2.1 = s.length then (if (rdR s).2.2.length ≤ 40 then s.length else 0) else (rdR s).2.1) else 0
def readL (s : List UInt8) : List (Int × Int) := if readOk s = true then (rdR s).2.2 else []
theorem rdR_ok (s : List UInt8) : RdOk s 0 [] (rdR s) := readT_ok s _ 0 [] (Nat.zero_le _)
theorem rdR_tm {s : List UInt8} (h : (rdR s).1 = true) (he : (rdR s).2.1 = s.length) : Tm (rdR s).2.2 s := by
  obtain ⟨_, _, _, h4⟩ := rdR_ok s
  obtain ⟨_, p, h5, h6⟩ := h4 h
  rw [h5, List.nil_append]
  rw [he] at h6
  have : seg8 s 0 s.length = s := by unfold seg8; rw [List.drop_zero, Nat.sub_zero, List.take_of_length_le (Nat.le_refl _)]
  rwa [this] at h6
theorem readL_len (s : List UInt8) : (readL s).length ≤ 40 := by
  unfold readL
  split
  · next h => unfold readOk at h; exact (of_decide_eq_true h).2.2.2
  · simp
theorem inN_of {l : List (Int × Int)} (h : ∀ x ∈ l, InI x.2) : InN l := by
  intro k
  rw [List.getD_eq_getElem?_getD]
  rcases Nat.lt_or_ge k l.length with hk | hk
  · rw [List.getElem?_eq_getElem hk]; exact h _ (List.getElem_mem hk)
  · rw [List.getElem?_eq_none hk]; exact ⟨by decide, by decide⟩
/-- A text that is read is the text of its term. -/
theorem read_text {s : List UInt8} (h : readOk s = true) : goodB (readL s) = true ∧ InN (readL s) ∧ textT (readL s) = s ∧ readAt s = s.length := by
  have h' := h
  unfold readOk at h'
  obtain ⟨h1, h2, h3, h4⟩ := of_decide_eq_true h'
  have hT := rdR_tm h2 h3
  have e : readL s = (rdR s).2.2 := by unfold readL; rw [if_pos h]
  rw [e]
  have hg : goodB (rdR s).2.2 = true := by rw [hT.good]; exact decide_eq_true h4
  have hN := inN_of hT.nums
  refine ⟨hg, hN, (good_tm hg hN).unique hT, ?_⟩
  unfold readAt
  rw [if_pos h1, if_pos ⟨h2, h3⟩, if_pos h4]
theorem text_len {l : List (Int × Int)} (hg : goodB l = true) (hi : ∀ k, k < l.length → (Lib.itoa (l.getD k (0, 0)).2).length ≤ 20) : (textT l).length ≤ 1000 := by
  obtain ⟨h, h1, h2⟩ := good_pile hg
  have := textG_len h hi l.length (l.length - 1) (by omega) (by omega) l.length (by omega)
  unfold textT
  omega
/-- A term is read back from its text. -/
theorem text_read {l : List (Int × Int)} (hg : goodB l = true) (hn : InN l) (hl : (textT l).length ≤ 1000) : readOk (textT l) = true ∧ readL (textT l) = l ∧ readAt (textT l) = (textT l).length := by
  have hT := good_tm hg hn
  have hr : rdR (textT l) = (true, (textT l).length, l) := by
    have := hT.back (textT l) [] 0 [] (textT l).length (by simp) rfl (Nat.le_refl _)
    rw [Nat.zero_add, List.nil_append] at this
    exact this
  have hok : readOk (textT l) = true := by
    unfold readOk
    rw [hr]
    exact decide_eq_true ⟨by omega, rfl, rfl, (good_pile hg).2.2⟩
  refine ⟨hok, ?_, (read_text hok).2.2.2⟩
  unfold readL
  rw [if_pos hok, hr]
end Go.Proofs.YtbchehpggoampaaDoor
namespace Go.Proofs.YtbchehpggoampaaDoor
set_option linter.unusedVariables false

/-- The last part in brackets, and what closes them. -/
def lastR (s : List UInt8) (f : Nat) (op : Int) (a : Nat) (out : List (Int × Int)) : Rd :=
  let r := thenB s 41 (readT s f a out)
  if r.1 = false then r else (true, r.2.1, r.2.2 ++ [(op, 0)])
def sidesR (s : List UInt8) (f : Nat) (a : Nat) (out : List (Int × Int)) : Rd :=
  let r := thenB s 58 (readT s f a out)
  if r.1 = false then r else lastR s f 11 r.2.1 r.2.2
def insideR (s : List UInt8) (f : Nat) (a : Nat) (out : List (Int × Int)) : Rd :=
  let r := readT s f a out
  if r.1 = false then r
  else if byteIs s r.2.1 63 = true then sidesR s f (r.2.1 + 1) r.2.2
  else
    let t := twoR s r.2.1
    if t.1 = 0 then (false, t.2, r.2.2) else lastR s f t.1 t.2 r.2.2
theorem read_end {s : List UInt8} {f a : Nat} {out : List (Int × Int)} (h : a = s.length) : readT s (f + 1) a out = (false, a, out) := by rw [readT, if_pos h]
theorem read_num {s : List UInt8} {f a : Nat} {out : List (Int × Int)} (h : a < s.length) (h1 : (isD (s.getD a 0) || s.getD a 0 == 45) = true) : readT s (f + 1) a out = numR s a out := by rw [readT, if_neg (by omega), if_pos h1]
theorem read_var {s : List UInt8} {f a : Nat} {out : List (Int × Int)} (h : a < s.length) (h1 : 97 ≤ (s.getD a 0).toNat ∧ (s.getD a 0).toNat < 101) : readT s (f + 1) a out = (true, a + 1, out ++ [(2, (((s.getD a 0).toNat - 97 : Nat) : Int))]) := by
  rw [readT, if_neg (by omega), if_neg, if_pos]
  · rw [decide_eq_true h1.1, decide_eq_true h1.2]; rfl
  · have e1 : isD (s.getD a 0) = false := by unfold isD; exact decide_eq_false (by omega)
    have e2 : (s.getD a 0 == 45) = false := by rw [beq_eq_false_iff_ne]; intro e; rw [e] at h1; exact absurd h1.1 (by decide)
    rw [e1, e2]; decide
theorem read_neg {s : List UInt8} {f a : Nat} {out : List (Int × Int)} (h : a < s.length) (h1 : s.getD a 0 = 126) : readT s (f + 1) a out = ((readT s f (a + 1) out).1, (readT s f (a + 1) out).2.1, (readT s f (a + 1) out).2.2 ++ [(3, 0)]) := by
  rw [readT, if_neg (by omega), h1, if_neg (by decide), if_neg (by decide), if_pos (by decide)]
theorem read_open {s : List UInt8} {f a : Nat} {out : List (Int × Int)} (h : a < s.length) (h1 : s.getD a 0 = 40) : readT s (f + 1) a out = insideR s f (a + 1) out := by
  rw [readT, if_neg (by omega), h1, if_neg (by decide), if_neg (by decide), if_neg (by decide), if_neg (by decide)]
  rfl
theorem read_bad {s : List UInt8} {f a : Nat} {out : List (Int × Int)} (h : a < s.length) (h1 : (isD (s.getD a 0) || s.getD a 0 == 45) = false) (h2 : ¬ (97 ≤ (s.getD a 0).toNat ∧ (s.getD a 0).toNat < 101)) (h3 : s.getD a 0 ≠ 126) (h4 : s.getD a 0 ≠ 40) : readT s (f + 1) a out = (false, a, out) := by
  rw [readT, if_neg (by omega), if_neg (by rw [h1]; decide), if_neg, if_neg (by simpa using h3), if_pos (by simpa using h4)]
  simp only [Bool.and_eq_true, decide_eq_true_eq]
  exact h2
theorem then_ok (s : List UInt8) (f a : Nat) (b : UInt8) (out : List (Int × Int)) (ha : a ≤ s.length) (ho : out.length ≤ a) : a ≤ (thenB s b (readT s f a out)).2.1 ∧ (thenB s b (readT s f a out)).2.1 ≤ s.length ∧ (thenB s b (readT s f a out)).2.2.length ≤ (thenB s b (readT s f a out)).2.1 := by
  obtain ⟨h1, h2, h3, _⟩ := thenB_ok (c := 0) (b := b) (readT_ok s f a out ha)
  exact ⟨h1, h2, by omega⟩
theorem part_ok (s : List UInt8) (f a : Nat) (out : List (Int × Int)) (ha : a ≤ s.length) (ho : out.length ≤ a) : a ≤ (readT s f a out).2.1 ∧ (readT s f a out).2.1 ≤ s.length ∧ (readT s f a out).2.2.length ≤ (readT s f a out).2.1 := by
  obtain ⟨h1, h2, h3, _⟩ := readT_ok s f a out ha
  exact ⟨h1, h2, by omega⟩
end Go.Proofs.YtbchehpggoampaaDoor
namespace Go.Proofs.YtbchehpggoampaaDoor
set_option linter.unusedVariables false
theorem read_big {s : List UInt8} (h : 1200 < s.length) : readOk s = false ∧ readAt s = 0 ∧ readL s = [] := by
  have h1 : readOk s = false := by unfold readOk; exact decide_eq_false (by omega)
  refine ⟨h1, ?_, ?_⟩
  · unfold readAt; rw [if_neg (by omega)]
  · unfold readL; rw [h1]; rfl
theorem read_fail {s : List UInt8} (h : s.length ≤ 1200) (hf : ¬ ((rdR s).1 = true ∧ (rdR s).2.1 = s.length)) : readOk s = false ∧ readAt s = (rdR s).2.1 ∧ readL s = [] := by
  have h1 : readOk s = false := by unfold readOk; exact decide_eq_false (fun x => hf ⟨x.2.1, x.2.2.1⟩)
  refine ⟨h1, ?_, ?_⟩
  · unfold readAt; rw [if_pos h, if_neg hf]
  · unfold readL; rw [h1]; rfl
theorem read_many {s : List UInt8} (h : s.length ≤ 1200) (hf : (rdR s).1 = true ∧ (rdR s).2.1 = s.length) (hm : 40 < (rdR s).2.2.length) : readOk s = false ∧ readAt s = 0 ∧ readL s = [] := by
  have h1 : readOk s = false := by unfold readOk; exact decide_eq_false (fun x => by have := x.2.2.2; omega)
  refine ⟨h1, ?_, ?_⟩
  · unfold readAt; rw [if_pos h, if_pos hf, if_neg (by omega)]
  · unfold readL; rw [h1]; rfl
theorem read_good {s : List UInt8} (h : s.length ≤ 1200) (hf : (rdR s).1 = true ∧ (rdR s).2.1 = s.length) (hm : (rdR s).2.2.length ≤ 40) : readOk s = true ∧ readAt s = s.length ∧ readL s = (rdR s).2.2 := by
  have h1 : readOk s = true := by unfold readOk; exact decide_eq_true ⟨h, hf.1, hf.2, hm⟩
  refine ⟨h1, ?_, ?_⟩
  · unfold readAt; rw [if_pos h, if_pos hf, if_pos hm]
  · unfold readL; rw [if_pos h1]
end Go.Proofs.YtbchehpggoampaaDoor
