/-
  PROVED HERE: plain facts on how a term is read from a text: up to where, and that it is the text of what is read. No condition. the model's reading of a number. No other condition. the model's reading of a number. No other condition. the model's reading of a number. No other condition.
-/
import Derived.Test.YtkadanagmahhgaaGreatDoorRun5
import Derived.Test.YtkadanagmahhgaaGreatDoorRun8
namespace Go.Proofs.YtkadanagmahhgaaGreatDoor
set_option linter.unusedVariables false

/-- A list of nodes is a term with that text, of at most such a height. -/
def TmH : Nat → List (Int × Int) → List UInt8 → Prop
  | 0, _, _ => False
  | h + 1, p, t =>
    (∃ n, InI n ∧ p = [(1, n)] ∧ t = Lib.itoa n) ∨ (∃ v : Nat, v < 4 ∧ p = [(2, (v : Int))] ∧ t = [UInt8.ofNat (97 + v)]) ∨
    (∃ p1 t1, TmH h p1 t1 ∧ p = p1 ++ [(3, 0)] ∧ t = 126 :: t1) ∨
    (∃ (op : Int) (p1 : List (Int × Int)) (t1 : List UInt8) (p2 : List (Int × Int)) (t2 : List UInt8), 4 ≤ op ∧ op ≤ 10 ∧ TmH h p1 t1 ∧ TmH h p2 t2 ∧ p = p1 ++ p2 ++ [(op, 0)] ∧ t = 40 :: t1 ++ signB op ++ t2 ++ [41]) ∨
    (∃ p1 t1 p2 t2 p3 t3, TmH h p1 t1 ∧ TmH h p2 t2 ∧ TmH h p3 t3 ∧ p = p1 ++ p2 ++ p3 ++ [(11, 0)] ∧ t = 40 :: t1 ++ (63 :: t2) ++ (58 :: t3) ++ [41])
theorem TmH.mono : ∀ {h k : Nat} {p : List (Int × Int)} {t : List UInt8}, h ≤ k → TmH h p t → TmH k p t
  | 0, _, _, _, _, h => h.elim
  | h + 1, k, p, t, hk, hh => by
    obtain ⟨k, rfl⟩ : ∃ x, k = x + 1 := ⟨k - 1, by omega⟩
    have up : ∀ {p t}, TmH h p t → TmH k p t := fun x => TmH.mono (by omega) x
    rcases hh with a | a | ⟨p1, t1, a, b⟩ | ⟨op, p1, t1, p2, t2, a1, a2, a, b, c⟩ | ⟨p1, t1, p2, t2, p3, t3, a, b, c, d⟩
    · exact .inl a
    · exact .inr (.inl a)
    · exact .inr (.inr (.inl ⟨p1, t1, up a, b⟩))
    · exact .inr (.inr (.inr (.inl ⟨op, p1, t1, p2, t2, a1, a2, up a, up b, c⟩)))
    · exact .inr (.inr (.inr (.inr ⟨p1, t1, p2, t2, p3, t3, up a, up b, up c, d⟩)))
/-- A list of nodes is a term with that text. -/
def Tm (p : List (Int × Int)) (t : List UInt8) : Prop := ∃ h, TmH h p t
theorem Tm.num (n : Int) (h : InI n) : Tm [(1, n)] (Lib.itoa n) := ⟨1, .inl ⟨n, h, rfl, rfl⟩⟩
theorem Tm.var (v : Nat) (h : v < 4) : Tm [(2, (v : Int))] [UInt8.ofNat (97 + v)] := ⟨1, .inr (.inl ⟨v, h, rfl, rfl⟩)⟩
theorem Tm.neg {p : List (Int × Int)} {t : List UInt8} (h : Tm p t) : Tm (p ++ [(3, 0)]) (126 :: t) := by
  obtain ⟨a, h⟩ := h
  exact ⟨a + 1, .inr (.inr (.inl ⟨p, t, h, rfl, rfl⟩))⟩
theorem Tm.two {p : List (Int × Int)} {t : List UInt8} {q : List (Int × Int)} {u : List UInt8} (op : Int) (h1 : 4 ≤ op) (h2 : op ≤ 10) (hp : Tm p t) (hq : Tm q u) : Tm (p ++ q ++ [(op, 0)]) (40 :: t ++ signB op ++ u ++ [41]) := by
  obtain ⟨a, hp⟩ := hp
  obtain ⟨b, hq⟩ := hq
  exact ⟨a + b + 1, .inr (.inr (.inr (.inl ⟨op, p, t, q, u, h1, h2, hp.mono (by omega), hq.mono (by omega), rfl, rfl⟩)))⟩
theorem Tm.ifs {p : List (Int × Int)} {t : List UInt8} {q : List (Int × Int)} {u : List UInt8} {r : List (Int × Int)} {v : List UInt8} (hp : Tm p t) (hq : Tm q u) (hr : Tm r v) : Tm (p ++ q ++ r ++ [(11, 0)]) (40 :: t ++ (63 :: u) ++ (58 :: v) ++ [41]) := by
  obtain ⟨a, hp⟩ := hp
  obtain ⟨b, hq⟩ := hq
  obtain ⟨c, hr⟩ := hr
  exact ⟨a + b + c + 1, .inr (.inr (.inr (.inr ⟨p, t, q, u, r, v, hp.mono (by omega), hq.mono (by omega), hr.mono (by omega), rfl, rfl⟩)))⟩
theorem Tm.ind {motive : List (Int × Int) → List UInt8 → Prop} {p : List (Int × Int)} {t : List UInt8} (h : Tm p t)
    (num : ∀ n, InI n → motive [(1, n)] (Lib.itoa n)) (var : ∀ v : Nat, v < 4 → motive [(2, (v : Int))] [UInt8.ofNat (97 + v)])
    (neg : ∀ p t, Tm p t → motive p t → motive (p ++ [(3, 0)]) (126 :: t))
    (two : ∀ p t q u (op : Int), 4 ≤ op → op ≤ 10 → Tm p t → Tm q u → motive p t → motive q u → motive (p ++ q ++ [(op, 0)]) (40 :: t ++ signB op ++ u ++ [41]))
    (ifs : ∀ p t q u r v, Tm p t → Tm q u → Tm r v → motive p t → motive q u → motive r v → motive (p ++ q ++ r ++ [(11, 0)]) (40 :: t ++ (63 :: u) ++ (58 :: v) ++ [41])) : motive p t := by
  obtain ⟨h, hh⟩ := h
  induction h generalizing p t with
  | zero => exact hh.elim
  | succ h ih =>
    rcases hh with ⟨n, a, rfl, rfl⟩ | ⟨v, a, rfl, rfl⟩ | ⟨p1, t1, a, rfl, rfl⟩ | ⟨op, p1, t1, p2, t2, a1, a2, a, b, rfl, rfl⟩ | ⟨p1, t1, p2, t2, p3, t3, a, b, c, rfl, rfl⟩
    · exact num n a
    · exact var v a
    · exact neg p1 t1 ⟨h, a⟩ (ih a)
    · exact two p1 t1 p2 t2 op a1 a2 ⟨h, a⟩ ⟨h, b⟩ (ih a) (ih b)
    · exact ifs p1 t1 p2 t2 p3 t3 ⟨h, a⟩ ⟨h, b⟩ ⟨h, c⟩ (ih a) (ih b) (ih c)

def seg8 (s : List UInt8) (a b : Nat) : List UInt8 := (s.drop a).take (b - a)
theorem seg8_append (s : List UInt8) (a b c : Nat) (h1 : a ≤ b) (h2 : b ≤ c) : seg8 s a c = seg8 s a b ++ seg8 s b c := by
  unfold seg8
  have e : c - a = (b - a) + (c - b) := by omega
  rw [e, List.take_add, List.drop_drop, show a + (b - a) = b from by omega]
theorem getD_at (s : List UInt8) (a : Nat) (h : a < s.length) : s.getD a 0 = s[a] := by
  rw [List.getD_eq_getElem?_getD, List.getElem?_eq_getElem h]; rfl
theorem seg8_one (s : List UInt8) (a : Nat) (h : a < s.length) : seg8 s a (a + 1) = [s.getD a 0] := by
  unfold seg8
  rw [show a + 1 - a = 1 from by omega, List.drop_eq_getElem_cons h, getD_at s a h]
  rfl
theorem dig_ge (s : List UInt8) (e : Nat) : e ≤ digEnd s e := by unfold digEnd; omega
theorem tw_len : ∀ l : List UInt8, (l.takeWhile isD).length ≤ l.length
  | [] => by simp
  | x :: l => by
    rw [List.takeWhile_cons]
    split
    · have := tw_len l; simp only [List.length_cons]; omega
    · simp
theorem dig_le (s : List UInt8) (e : Nat) (h : e ≤ s.length) : digEnd s e ≤ s.length := by
  unfold digEnd
  have := tw_len (s.drop e)
  rw [List.length_drop] at this; omega
theorem dig_yes (s : List UInt8) (e : Nat) (hd : isD (s.getD e 0) = true) : digEnd s e = digEnd s (e + 1) := by
  have h : e < s.length := by
    rcases Nat.lt_or_ge e s.length with h | h
    · exact h
    · rw [List.getD_eq_getElem?_getD, List.getElem?_eq_none h] at hd; exact absurd (show isD 0 = true from hd) (by decide)
  unfold digEnd
  rw [List.drop_eq_getElem_cons h, List.takeWhile_cons, if_pos (by rw [← getD_at s e h]; exact hd)]
  simp only [List.length_cons]; omega
theorem dig_no (s : List UInt8) (e : Nat) (hd : isD (s.getD e 0) = false) : digEnd s e = e := by
  unfold digEnd
  rcases Nat.lt_or_ge e s.length with h | h
  · rw [List.drop_eq_getElem_cons h, List.takeWhile_cons, if_neg (by rw [← getD_at s e h, hd]; decide)]; rfl
  · rw [List.drop_of_length_le h]; rfl
theorem byteIs_iff {s : List UInt8} {a : Nat} {b : UInt8} (h : byteIs s a b = true) : a < s.length ∧ s.getD a 0 = b := by
  unfold byteIs at h
  simp only [Bool.and_eq_true, decide_eq_true_eq, beq_iff_eq] at h
  exact h
theorem byteIs_seg {s : List UInt8} {a : Nat} {b : UInt8} (h : byteIs s a b = true) : seg8 s a (a + 1) = [b] := by
  obtain ⟨h1, h2⟩ := byteIs_iff h
  rw [seg8_one s a h1, h2]
theorem numEnd_gt (s : List UInt8) (a : Nat) (ha : a < s.length) (h : (isD (s.getD a 0) || s.getD a 0 == 45) = true) : a < numEnd s a ∧ numEnd s a ≤ s.length := by
  unfold numEnd
  by_cases h45 : s.getD a 0 = 45
  · rw [if_pos h45]
    have := dig_ge s (a + 1)
    have := dig_le s (a + 1) (by omega)
    omega
  · rw [if_neg h45]
    have hd : isD (s.getD a 0) = true := by
      rw [beq_eq_false_iff_ne.2 h45, Bool.or_false] at h; exact h
    rw [dig_yes s a hd]
    have := dig_ge s (a + 1)
    have := dig_le s (a + 1) (by omega)
    omega
theorem two_cases (s : List UInt8) (a : Nat) (ha : a ≤ s.length) : ((twoR s a).1 = 0 ∧ a ≤ (twoR s a).2 ∧ (twoR s a).2 ≤ s.length) ∨ (4 ≤ (twoR s a).1 ∧ (twoR s a).1 ≤ 10 ∧ a < (twoR s a).2 ∧ (twoR s a).2 ≤ s.length ∧ seg8 s a (twoR s a).2 = signB (twoR s a).1) := by
  have one : ∀ (b : UInt8), byteIs s a b = true → a < a + 1 ∧ a + 1 ≤ s.length ∧ seg8 s a (a + 1) = [b] := fun b h => by
    have := (byteIs_iff h).1
    exact ⟨by omega, by omega, byteIs_seg h⟩
  have pair : ∀ (b c : UInt8), (byteIs s a b && byteIs s (a + 1) c) = true → a < a + 2 ∧ a + 2 ≤ s.length ∧ seg8 s a (a + 2) = [b, c] := fun b c h => by
    rw [Bool.and_eq_true] at h
    have := (byteIs_iff h.2).1
    refine ⟨by omega, by omega, ?_⟩
    rw [seg8_append s a (a + 1) (a + 2) (by omega) (by omega), byteIs_seg h.1, byteIs_seg h.2]
    rfl
  unfold twoR
  split
  · next h => exact .inr ⟨by omega, by omega, one _ h⟩
  split
  · next h => exact .inr ⟨by omega, by omega, one _ h⟩
  split
  · next h => exact .inr ⟨by omega, by omega, one _ h⟩
  split
  · next h => exact .inr ⟨by omega, by omega, pair _ _ h⟩
  split
  · next h => exact .inr ⟨by omega, by omega, one _ h⟩
  split
  · next h => exact .inr ⟨by omega, by omega, pair _ _ h⟩
  split
  · next h => exact .inr ⟨by omega, by omega, one _ h⟩
  split
  · next h => have := (byteIs_iff h).1; exact .inl ⟨rfl, by show a ≤ a + 1; omega, this⟩
  · exact .inl ⟨rfl, Nat.le_refl _, ha⟩

/-- What a reading from a on tells. -/
def RdOk (s : List UInt8) (a : Nat) (out : List (Int × Int)) (R : Rd) : Prop :=
  a ≤ R.2.1 ∧ R.2.1 ≤ s.length ∧ R.2.2.length + a ≤ out.length + R.2.1 ∧ (R.1 = true → a < R.2.1 ∧ ∃ p, R.2.2 = out ++ p ∧ Tm p (seg8 s a R.2.1))
theorem rd_no {s : List UInt8} {a b : Nat} {out out' : List (Int × Int)} (h1 : a ≤ b) (h2 : b ≤ s.length) (h3 : out'.length + a ≤ out.length + b) : RdOk s a out (false, b, out') := ⟨h1, h2, h3, fun h => by cases h⟩
theorem num_ok (s : List UInt8) (a : Nat) (out : List (Int × Int)) (ha : a < s.length) (h : (isD (s.getD a 0) || s.getD a 0 == 45) = true) : RdOk s a out (numR s a out) := by
  obtain ⟨h1, h2⟩ := numEnd_gt s a ha h
  unfold numR
  split
  · next n hn =>
    obtain ⟨n1, n2⟩ := numOf_some hn
    refine ⟨by show a ≤ numEnd s a; omega, h2, by show (out ++ [(1, n)]).length + a ≤ out.length + numEnd s a; rw [List.length_append, List.length_singleton]; omega, fun _ => ⟨h1, [(1, n)], rfl, ?_⟩⟩
    have := Tm.num n n1
    rw [n2] at this
    exact this
  · split
    · exact rd_no (by omega) (by omega) (by omega)
    · exact rd_no (by omega) (by omega) (by omega)
theorem var_chr (b : UInt8) (h : 97 ≤ b.toNat) : UInt8.ofNat (97 + (b.toNat - 97)) = b := by
  rw [show 97 + (b.toNat - 97) = b.toNat from by omega]
  exact UInt8.ofNat_toNat
/-- Behind a part that has been read. -/
theorem thenB_ok {s : List UInt8} {c a : Nat} {b : UInt8} {out : List (Int × Int)} {R : Rd} (h : RdOk s a out R) :
    a ≤ (thenB s b R).2.1 ∧ (thenB s b R).2.1 ≤ s.length ∧ (thenB s b R).2.2.length + a ≤ out.length + (thenB s b R).2.1 ∧
    ((thenB s b R).1 = true → a < (thenB s b R).2.1 ∧ ∃ p t, (thenB s b R).2.2 = out ++ p ∧ Tm p t ∧ seg8 s a (thenB s b R).2.1 = t ++ [b]) := by
  obtain ⟨h1, h2, h3, h4⟩ := h
  unfold thenB
  by_cases hr : R.1 = true
  · rw [if_pos hr]
    by_cases hb : byteIs s R.2.1 b = true
    · rw [if_pos hb]
      have hlt := (byteIs_iff hb).1
      obtain ⟨h5, p, h6, h7⟩ := h4 hr
      refine ⟨by show a ≤ R.2.1 + 1; omega, hlt, by show R.2.2.length + a ≤ out.length + (R.2.1 + 1); omega, fun _ => ⟨by show a < R.2.1 + 1; omega, p, _, h6, h7, ?_⟩⟩
      show seg8 s a (R.2.1 + 1) = _
      rw [seg8_append s a R.2.1 (R.2.1 + 1) h1 (by omega), byteIs_seg hb]
    · rw [if_neg hb]
      exact ⟨h1, h2, h3, fun h => by cases h⟩
  · rw [if_neg hr]
    exact ⟨h1, h2, h3, fun h => absurd h hr⟩

theorem readT_ok (s : List UInt8) : ∀ (f a : Nat) (out : List (Int × Int)), a ≤ s.length → RdOk s a out (readT s f a out)
  | 0, a, out, ha => rd_no (Nat.le_refl _) ha (by omega)
  | f + 1, a, out, ha => by
    have ih := readT_ok s f
    rw [readT]
    split
    · exact rd_no (Nat.le_refl _) ha (by omega)
    next hne =>
    have hlt : a < s.length := by omega
    split
    · next h => exact num_ok s a out hlt h
    split
    · next h =>
      simp only [Bool.and_eq_true, decide_eq_true_eq] at h
      refine ⟨by show a ≤ a + 1; omega, hlt, by show (out ++ [_]).length + a ≤ out.length + (a + 1); rw [List.length_append, List.length_singleton]; omega, fun _ => ⟨by show a < a + 1; omega, [_], rfl, ?_⟩⟩
      have := Tm.var ((s.getD a 0).toNat - 97) (by omega)
      rw [var_chr _ h.1] at this
      show Tm _ (seg8 s a (a + 1))
      rw [seg8_one s a hlt]
      exact this
    split
    · next h =>
      have h126 : s.getD a 0 = 126 := by simpa using h
      obtain ⟨i1, i2, i3, i4⟩ := ih (a + 1) out hlt
      refine ⟨by show a ≤ (readT s f (a + 1) out).2.1; omega, i2, by show (_ ++ [_]).length + a ≤ out.length + (readT s f (a + 1) out).2.1; rw [List.length_append, List.length_singleton]; omega, fun hr => ?_⟩
      obtain ⟨j1, p, j2, j3⟩ := i4 hr
      refine ⟨by show a < (readT s f (a + 1) out).2.1; omega, p ++ [(3, 0)], ?_, ?_⟩
      · show (readT s f (a + 1) out).2.2 ++ [(3, 0)] = _
        rw [j2, List.append_assoc]
      · show Tm _ (seg8 s a (readT s f (a + 1) out).2.1)
        rw [seg8_append s a (a + 1) _ (by omega) i1, seg8_one s a hlt, h126]
        exact Tm.neg j3
    split
    · exact rd_no (Nat.le_refl _) ha (by omega)
    next h40' =>
    have h40 : s.getD a 0 = 40 := by simpa using h40'
    obtain ⟨i1, i2, i3, i4⟩ := ih (a + 1) out hlt
    simp only []
    generalize readT s f (a + 1) out = R1 at i1 i2 i3 i4 ⊢
    split
    · next hr => exact ⟨by omega, i2, by omega, fun h => by rw [h] at hr; cases hr⟩
    next hr =>
    have hr1 : R1.1 = true := by simpa using hr
    obtain ⟨j1, p, j2, j3⟩ := i4 hr1
    split
    · next hq =>
      have hql := (byteIs_iff hq).1
      have T2 := thenB_ok (c := 0) (b := 58) (ih (R1.2.1 + 1) R1.2.2 hql)
      generalize thenB s 58 (readT s f (R1.2.1 + 1) R1.2.2) = R2 at T2 ⊢
      obtain ⟨k1, k2, k3, k4⟩ := T2
      split
      · next hr => exact ⟨by omega, k2, by omega, fun h => by rw [h] at hr; cases hr⟩
      next hr2 =>
      obtain ⟨l1, q, u, l2, l3, l4⟩ := k4 (by simpa using hr2)
      have T3 := thenB_ok (c := 0) (b := 41) (ih R2.2.1 R2.2.2 k2)
      generalize thenB s 41 (readT s f R2.2.1 R2.2.2) = R3 at T3 ⊢
      obtain ⟨m1, m2, m3, m4⟩ := T3
      split
      · next hr => exact ⟨by omega, m2, by omega, fun h => by rw [h] at hr; cases hr⟩
      next hr3 =>
      obtain ⟨n1, r, v, n2, n3, n4⟩ := m4 (by simpa using hr3)
      refine ⟨by show a ≤ R3.2.1; omega, m2, by show (R3.2.2 ++ [_]).length + a ≤ out.length + R3.2.1; rw [List.length_append, List.length_singleton]; omega, fun _ => ⟨by show a < R3.2.1; omega, p ++ q ++ r ++ [(11, 0)], ?_, ?_⟩⟩
      · show R3.2.2 ++ [(11, 0)] = _
        rw [n2, l2, j2]; simp only [List.append_assoc]
      · have := Tm.ifs j3 l3 n3
        show Tm _ (seg8 s a R3.2.1)
        rw [seg8_append s a (a + 1) _ (by omega) (by omega), seg8_one s a hlt, h40, seg8_append s (a + 1) R1.2.1 _ i1 (by omega), seg8_append s R1.2.1 (R1.2.1 + 1) _ (by omega) (by omega), byteIs_seg hq, seg8_append s (R1.2.1 + 1) R2.2.1 _ k1 m1, l4, n4]
        simpa only [List.append_assoc, List.cons_append, List.nil_append, List.singleton_append] using this
    · have T := two_cases s R1.2.1 i2
      generalize twoR s R1.2.1 = T2 at T ⊢
      split
      · next h0 =>
        rcases T with ⟨_, t1, t2⟩ | ⟨t0, _⟩
        · exact rd_no (by omega) t2 (by omega)
        · omega
      · next h0 =>
        rcases T with ⟨t0, _⟩ | ⟨t0, t1, t2, t3, t4⟩
        · exact absurd t0 h0
        have T3 := thenB_ok (c := 0) (b := 41) (ih T2.2 R1.2.2 t3)
        generalize thenB s 41 (readT s f T2.2 R1.2.2) = R3 at T3 ⊢
        obtain ⟨m1, m2, m3, m4⟩ := T3
        split
        · next hr => exact ⟨by omega, m2, by omega, fun h => by rw [h] at hr; cases hr⟩
        next hr3 =>
        obtain ⟨n1, r, v, n2, n3, n4⟩ := m4 (by simpa using hr3)
        refine ⟨by show a ≤ R3.2.1; omega, m2, by show (R3.2.2 ++ [_]).length + a ≤ out.length + R3.2.1; rw [List.length_append, List.length_singleton]; omega, fun _ => ⟨by show a < R3.2.1; omega, p ++ r ++ [(T2.1, 0)], ?_, ?_⟩⟩
        · show R3.2.2 ++ [(T2.1, 0)] = _
          rw [n2, j2]; simp only [List.append_assoc]
        · have := Tm.two T2.1 t0 t1 j3 n3
          show Tm _ (seg8 s a R3.2.1)
          rw [seg8_append s a (a + 1) _ (by omega) (by omega), seg8_one s a hlt, h40, seg8_append s (a + 1) R1.2.1 _ i1 (by omega), seg8_append s R1.2.1 T2.2 _ (by omega) (by omega), t4, n4]
          simpa only [List.append_assoc, List.cons_append, List.nil_append, List.singleton_append] using this

/-- One node on a pile of texts. -/
def pushT (st : List (List UInt8)) (x : Int × Int) : List (List UInt8) := nodeT x ((st.take (ar x.1).toNat).reverse) :: st.drop (ar x.1).toNat
theorem Tm.run {p : List (Int × Int)} {t : List UInt8} (h : Tm p t) : ∀ st, p.foldl pushT st = t :: st := by
  refine h.ind (motive := fun p t => ∀ st, p.foldl pushT st = t :: st) ?_ ?_ ?_ ?_ ?_
  · intro n hn
    intro st; rfl
  · intro v hv
    intro st
    show nodeT (2, (v : Int)) _ :: _ = _
    unfold nodeT
    rw [if_neg (show ¬ (2 : Int) = 1 by decide), if_pos rfl, Int.toNat_natCast]
    rfl
  · intro p t h ih
    intro st; rw [List.foldl_append, ih]; rfl
  · intro p t q u op h1 h2 hp hq ih1 ih2
    intro st
    rw [List.foldl_append, List.foldl_append, ih1, ih2]
    show nodeT (op, 0) _ :: _ = _
    have har : (ar op).toNat = 2 := by
      rcases (show op = 4 ∨ op = 5 ∨ op = 6 ∨ op = 7 ∨ op = 8 ∨ op = 9 ∨ op = 10 by omega) with rfl | rfl | rfl | rfl | rfl | rfl | rfl <;> rfl
    unfold nodeT
    rw [if_neg (by show ¬ op = 1; omega), if_neg (by show ¬ op = 2; omega), if_neg (by show ¬ op = 3; omega), if_neg (by show ¬ op = 11; omega)]
    simp only [har]
    rfl
  · intro p t q u r v hp hq hr ih1 ih2 ih3
    intro st; rw [List.foldl_append, List.foldl_append, List.foldl_append, ih1, ih2, ih3]; rfl
theorem Tm.unique {p : List (Int × Int)} {t t' : List UInt8} (h : Tm p t) (h' : Tm p t') : t = t' := by
  have := h.run []
  rw [h'.run []] at this
  exact (List.cons.inj this).1.symm
theorem Tm.pile {p : List (Int × Int)} {t : List UInt8} (h : Tm p t) : ∀ q : Int, 0 ≤ q → pile p q = some (q + 1) := by
  refine h.ind (motive := fun p t => ∀ q : Int, 0 ≤ q → Go.Proofs.YtkadanagmahhgaaGreatDoor.pile p q = some (q + 1)) ?_ ?_ ?_ ?_ ?_
  · intro n hn
    intro q hq; simp [Go.Proofs.YtkadanagmahhgaaGreatDoor.pile, fits, show ar 1 = 0 from rfl]; omega
  · intro v hv
    intro q hq; simp [Go.Proofs.YtkadanagmahhgaaGreatDoor.pile, fits, show ar 2 = 0 from rfl]; omega
  · intro p t h ih
    intro q hq; rw [pile_append, ih q hq]; simp [Go.Proofs.YtkadanagmahhgaaGreatDoor.pile, fits, show ar 3 = 1 from rfl]; omega
  · intro p t r u op h1 h2 hp hq ih1 ih2
    intro q hq
    have har : ar op = 2 := by
      rcases (show op = 4 ∨ op = 5 ∨ op = 6 ∨ op = 7 ∨ op = 8 ∨ op = 9 ∨ op = 10 by omega) with rfl | rfl | rfl | rfl | rfl | rfl | rfl <;> rfl
    have h2' : (op == 2) = false := by simp; omega
    rw [pile_append, pile_append, ih1 q hq]
    simp only [Option.bind_some]
    rw [ih2 (q + 1) (by omega)]
    simp only [Option.bind_some, Go.Proofs.YtkadanagmahhgaaGreatDoor.pile, fits, har, h2']
    have : ¬ (q + 1 + 1 < 2) := by omega
    simp [this]; omega
  · intro p t q u r v hp hq hr ih1 ih2 ih3
    intro q hq
    rw [pile_append, pile_append, pile_append, ih1 q hq]
    simp only [Option.bind_some]
    rw [ih2 (q + 1) (by omega)]
    simp only [Option.bind_some]
    rw [ih3 (q + 1 + 1) (by omega)]
    simp only [Option.bind_some, Go.Proofs.YtkadanagmahhgaaGreatDoor.pile, fits, show ar 11 = 3 from rfl]
    have : ¬ (q + 1 + 1 + 1 < 3) := by omega
    simp [this]; omega
theorem Tm.ne {p : List (Int × Int)} {t : List UInt8} (h : Tm p t) : 1 ≤ p.length := by
  refine h.ind (motive := fun p t => 1 ≤ p.length) ?_ ?_ ?_ ?_ ?_ <;> intros <;> simp <;> omega
theorem Tm.nums {p : List (Int × Int)} {t : List UInt8} (h : Tm p t) : ∀ x ∈ p, InI x.2 := by
  have i0 : InI 0 := by unfold InI; omega
  refine h.ind (motive := fun p t => ∀ x ∈ p, InI x.2) ?_ ?_ ?_ ?_ ?_
  · intro n hn
    intro x hx; rw [List.mem_singleton.1 hx]; exact hn
  · intro v hv
    intro x hx; rw [List.mem_singleton.1 hx]; unfold InI; omega
  · intro p t h ih
    intro x hx
    rcases List.mem_append.1 hx with hx | hx
    · exact ih x hx
    · rw [List.mem_singleton.1 hx]; exact i0
  · intro p t q u op h1 h2 hp hq ih1 ih2
    intro x hx
    rcases List.mem_append.1 hx with hx | hx
    · rcases List.mem_append.1 hx with hx | hx
      · exact ih1 x hx
      · exact ih2 x hx
    · rw [List.mem_singleton.1 hx]; exact i0
  · intro p t q u r v hp hq hr ih1 ih2 ih3
    intro x hx
    rcases List.mem_append.1 hx with hx | hx
    · rcases List.mem_append.1 hx with hx | hx
      · rcases List.mem_append.1 hx with hx | hx
        · exact ih1 x hx
        · exact ih2 x hx
      · exact ih3 x hx
    · rw [List.mem_singleton.1 hx]; exact i0
theorem Tm.good {p : List (Int × Int)} {t : List UInt8} (h : Tm p t) : goodB p = decide (p.length ≤ 40) := by
  unfold goodB
  rw [h.pile 0 (Int.le_refl _), show ((some ((0 : Int) + 1) == some 1) = true) from rfl, Bool.and_true]
  have := h.ne
  simp; omega
end Go.Proofs.YtkadanagmahhgaaGreatDoor
namespace Go.Proofs.YtkadanagmahhgaaGreatDoor
open Go.ChangeShapes Go.WideShapes Go.ChangeAt Go.RowKit
set_option linter.unusedVariables false
theorem Rdr.keep {w w' : World} {g : Nat} {s : ByteArray} {a : Nat} {out : List (Int × Int)} (h : Rdr w g s a out) (hb : Below w.heap.size w w') : Rdr w' g s a out := by
  obtain ⟨lt, c0, c1, ⟨v, c2, hown⟩, f1, f2⟩ := h
  exact ⟨Nat.lt_of_lt_of_le lt hb.size, (hb.cell (p := ⟨g, 0, none⟩) lt).trans c0, (hb.cell (p := ⟨g, 1, none⟩) lt).trans c1, ⟨v, (hb.cell (p := ⟨g, 2, none⟩) lt).trans c2, own_keep hown hb⟩, (hb.frozen (p := ⟨g, 1, none⟩) lt).trans f1, (hb.frozen (p := ⟨g, 2, none⟩) lt).trans f2⟩
theorem isD_at (s : ByteArray) (n : Nat) (h : n < s.size) : isD (s.data.toList.getD n 0) = decide (48 ≤ (s[n]).toNat ∧ (s[n]).toNat ≤ 57) := by rw [at_list s n h]; rfl
theorem isD_out (s : ByteArray) (n : Nat) (h : ¬ n < s.size) : isD (s.data.toList.getD n 0) = false := by
  rw [List.getD_eq_getElem?_getD, List.getElem?_eq_none (by rw [size_list]; omega)]; decide
theorem ext_seg (s : ByteArray) (a n : Nat) : (s.extract a n).data.toList = (s.data.toList.drop a).take (n - a) := by
  rw [ByteArray.data_extract, Array.toList_extract]
end Go.Proofs.YtkadanagmahhgaaGreatDoor
namespace Go.Proofs.YtkadanagmahhgaaGreatDoor
open Go.ChangeShapes Go.WideShapes Go.ChangeAt Go.RowKit
set_option linter.unusedVariables false
set_option maxHeartbeats 1600000 in
set_option maxRecDepth 20000 in
theorem number_neg_bare (w : World) (g : Nat) (s : ByteArray) (a : Nat) (out : List (Int × Int)) (h : Rdr w g s a out) (hs : s.size ≤ 1048576) (ho : out.length ≤ 1048576) (ha : a < s.size) (h45 : (s[a]).toNat = 45) (E : Nat) (hE : digEnd s.data.toList (a + 1) = E) (hEs : E ≤ s.size) (haE : a ≤ E) (hno : ∀ n, InI n → Lib.itoa n ≠ (s.data.toList.drop a).take (E - a)) (hx : E = a + 1) :
    Calls Tryz.prog 132 #[.pointer (some ⟨g, 0, none⟩)] w fun e w' => e = .returned (.bool false) ∧ Rdr w' g s (a + 1) out ∧ Below g w w' := by
  have HR : Hid (Rdr w g s a out) := h
  have c0 := h.c0
  have c1 := h.c1
  have hlt := h.lt
  have i2 : (s.size : Int) ≤ 1048576 := by omega
  have i1 : (a : Int) < s.size := by omega
  have hix : ∀ n : Nat, (hn : n < s.size) → ∀ W, (Instr.index 9 (.string s) (.int .i64 (n : Int))).run Tryz.prog W = .ok (.int .u8 ((s[n]).toNat : Int)) W := by
    intro n hn W
    rw [run_index_string W 9 s .i64 _ Tryz.underlying9, dif_pos (show (0 : Int) ≤ (n : Int) ∧ (n : Int) < s.size from ⟨by omega, by omega⟩)]
    rfl
  have hixa := hix a ha
  have hsl : ∀ W, (Instr.slice 9 (.string s) (some (.int .i64 (a : Int))) (some (.int .i64 (E : Int))) none).run Tryz.prog W = .ok (.string (s.extract a E)) W := by
    intro W
    rw [run_slice_string W 9 s .i64 .i64 _ _ Tryz.underlying9 (by omega) (by omega) (by omega)]; rfl
  have hseg := ext_seg s a E
  have hxs : (s.extract a E).size ≤ 1048576 := by rw [ByteArray.size_extract]; omega
  obtain ⟨X, hX⟩ : ∃ X, s.extract a E = X := ⟨_, rfl⟩
  rw [hX] at hsl hseg hxs
  rw [← hseg] at hno
  have HC : Hid (∀ W, Calls Tryz.prog 153 #[.string X] W fun e w' => e = .returned (.tuple #[.int .i64 0, .bool false]) ∧ Below W.heap.size W w') := fun W => specRead_none X W (by omega) hno
  clear hno
  have b1 : (((s[a]).toNat : Int) == 45) = true := by rw [h45]; rfl
  have HE : Hid (digEnd s.data.toList (a + 1) = E) := hE
  clear hE hseg h
  have HX : Hid (((E : Int) == (a : Int) + 1) = true) := show _ = _ from by simp; omega
  clear hx
  go_enter Tryz.func132, Tryz.ntmps132
  go_wp2_with fail
  go_loopw [3] (fun x wr => ∃ k : Nat, x = .int .i64 (k : Int) ∧ a + 1 ≤ k ∧ k ≤ s.size ∧ Hid (digEnd s.data.toList k = E) ∧ wr = w) (fun x _ => s.size - (intOf x).toNat)
  case atStart => exact ⟨a + 1, by go_num, Nat.le_refl _, by omega, HE, rfl⟩
  case round =>
    obtain ⟨k, rfl, k1, k2, hk, rfl⟩ := hrel
    by_cases hlk : k < s.size
    · have j1 : (k : Int) < s.size := by omega
      have hixk := hix k hlk
      have hdk := isD_at s k hlk
      by_cases d1 : 48 ≤ (s[k]).toNat
      · have e1 : (48 : Int) ≤ (s[k]).toNat := by omega
        by_cases d2 : (s[k]).toNat ≤ 57
        · have e2 : ((s[k]).toNat : Int) ≤ 57 := by omega
          have hN : Hid (digEnd s.data.toList (k + 1) = E) := by
            show _ = _
            rw [← hk.out, dig_yes s.data.toList k (by rw [hdk]; exact decide_eq_true ⟨d1, d2⟩)]
          clear hdk hix
          go_wp2
          exact ⟨⟨k + 1, by go_num, by omega, by omega, hN, by first | trivial | rfl⟩, by simp [intOf]; omega⟩
        · have e2 : ¬ ((s[k]).toNat : Int) ≤ 57 := by omega
          obtain rfl : k = E := by rw [← hk.out, dig_no s.data.toList k (by rw [hdk]; exact decide_eq_false (by omega))]
          clear hdk hix
          go_wp2
          go_region_with (go_at_call 153; refine (HC.out _).mono ?_; rintro e w1 ⟨rfl, hb1⟩)
          all_goals
            (try clear hixk)
            (try clear e2)
            (try clear e1)
            (try clear d2)
            (try clear d1)
            have hbB : Below wr.heap.size wr w1 := ((Below.refl _ _).drew).trans hb1
            have hR1 := HR.out.keep hbB
            have d0 := hR1.c0
            have d1 := hR1.c1
            have f1 := hR1.f1
            have hlt1 := hR1.lt
            have hx := HX.out
            go_wp2
            go_simp
            go_big_quiet (fail)
            go_wp2
            go_returns
            obtain rfl : k = a + 1 := by simp at hx; omega
            exact ⟨rfl, (hR1.drewN _).move (a + 1), ((hbB.mono (Nat.le_of_lt hlt)).trans (below_drewN g _)).trans (below_set _)⟩
      · have e1 : ¬ (48 : Int) ≤ (s[k]).toNat := by omega
        obtain rfl : k = E := by rw [← hk.out, dig_no s.data.toList k (by rw [hdk]; exact decide_eq_false (by omega))]
        clear hdk hix
        go_wp2
        go_region_with (go_at_call 153; refine (HC.out _).mono ?_; rintro e w1 ⟨rfl, hb1⟩)
        all_goals
          (try clear hixk)
          (try clear e2)
          (try clear e1)
          (try clear d2)
          (try clear d1)
          have hbB : Below wr.heap.size wr w1 := ((Below.refl _ _).drew).trans hb1
          have hR1 := HR.out.keep hbB
          have d0 := hR1.c0
          have d1 := hR1.c1
          have f1 := hR1.f1
          have hlt1 := hR1.lt
          have hx := HX.out
          go_wp2
          go_simp
          go_big_quiet (fail)
          go_wp2
          go_returns
          obtain rfl : k = a + 1 := by simp at hx; omega
          exact ⟨rfl, (hR1.drewN _).move (a + 1), ((hbB.mono (Nat.le_of_lt hlt)).trans (below_drewN g _)).trans (below_set _)⟩
    · have j1 : ¬ (k : Int) < s.size := by omega
      obtain rfl : k = E := by rw [← hk.out, dig_no s.data.toList k (isD_out s k hlk)]
      clear hix
      go_wp2
      go_region_with (go_at_call 153; refine (HC.out _).mono ?_; rintro e w1 ⟨rfl, hb1⟩)
      all_goals
        (try clear hixk)
        (try clear e2)
        (try clear e1)
        (try clear d2)
        (try clear d1)
        have hbB : Below wr.heap.size wr w1 := ((Below.refl _ _).drew).trans hb1
        have hR1 := HR.out.keep hbB
        have d0 := hR1.c0
        have d1 := hR1.c1
        have f1 := hR1.f1
        have hlt1 := hR1.lt
        have hx := HX.out
        go_wp2
        go_simp
        go_big_quiet (fail)
        go_wp2
        go_returns
        obtain rfl : k = a + 1 := by simp at hx; omega
        exact ⟨rfl, (hR1.drewN _).move (a + 1), ((hbB.mono (Nat.le_of_lt hlt)).trans (below_drewN g _)).trans (below_set _)⟩
end Go.Proofs.YtkadanagmahhgaaGreatDoor
namespace Go.Proofs.YtkadanagmahhgaaGreatDoor
open Go.ChangeShapes Go.WideShapes Go.ChangeAt Go.RowKit
set_option linter.unusedVariables false
set_option maxHeartbeats 1600000 in
set_option maxRecDepth 20000 in
theorem number_neg_none (w : World) (g : Nat) (s : ByteArray) (a : Nat) (out : List (Int × Int)) (h : Rdr w g s a out) (hs : s.size ≤ 1048576) (ho : out.length ≤ 1048576) (ha : a < s.size) (h45 : (s[a]).toNat = 45) (E : Nat) (hE : digEnd s.data.toList (a + 1) = E) (hEs : E ≤ s.size) (haE : a ≤ E) (hno : ∀ n, InI n → Lib.itoa n ≠ (s.data.toList.drop a).take (E - a)) (hx : ¬ E = a + 1) :
    Calls Tryz.prog 132 #[.pointer (some ⟨g, 0, none⟩)] w fun e w' => e = .returned (.bool false) ∧ Rdr w' g s (a) out ∧ Below g w w' := by
  have HR : Hid (Rdr w g s a out) := h
  have c0 := h.c0
  have c1 := h.c1
  have hlt := h.lt
  have i2 : (s.size : Int) ≤ 1048576 := by omega
  have i1 : (a : Int) < s.size := by omega
  have hix : ∀ n : Nat, (hn : n < s.size) → ∀ W, (Instr.index 9 (.string s) (.int .i64 (n : Int))).run Tryz.prog W = .ok (.int .u8 ((s[n]).toNat : Int)) W := by
    intro n hn W
    rw [run_index_string W 9 s .i64 _ Tryz.underlying9, dif_pos (show (0 : Int) ≤ (n : Int) ∧ (n : Int) < s.size from ⟨by omega, by omega⟩)]
    rfl
  have hixa := hix a ha
  have hsl : ∀ W, (Instr.slice 9 (.string s) (some (.int .i64 (a : Int))) (some (.int .i64 (E : Int))) none).run Tryz.prog W = .ok (.string (s.extract a E)) W := by
    intro W
    rw [run_slice_string W 9 s .i64 .i64 _ _ Tryz.underlying9 (by omega) (by omega) (by omega)]; rfl
  have hseg := ext_seg s a E
  have hxs : (s.extract a E).size ≤ 1048576 := by rw [ByteArray.size_extract]; omega
  obtain ⟨X, hX⟩ : ∃ X, s.extract a E = X := ⟨_, rfl⟩
  rw [hX] at hsl hseg hxs
  rw [← hseg] at hno
  have HC : Hid (∀ W, Calls Tryz.prog 153 #[.string X] W fun e w' => e = .returned (.tuple #[.int .i64 0, .bool false]) ∧ Below W.heap.size W w') := fun W => specRead_none X W (by omega) hno
  clear hno
  have b1 : (((s[a]).toNat : Int) == 45) = true := by rw [h45]; rfl
  have HE : Hid (digEnd s.data.toList (a + 1) = E) := hE
  clear hE hseg h
  have HX : Hid (((E : Int) == (a : Int) + 1) = false) := show _ = _ from by simp; omega
  clear hx
  go_enter Tryz.func132, Tryz.ntmps132
  go_wp2_with fail
  go_loopw [3] (fun x wr => ∃ k : Nat, x = .int .i64 (k : Int) ∧ a + 1 ≤ k ∧ k ≤ s.size ∧ Hid (digEnd s.data.toList k = E) ∧ wr = w) (fun x _ => s.size - (intOf x).toNat)
  case atStart => exact ⟨a + 1, by go_num, Nat.le_refl _, by omega, HE, rfl⟩
  case round =>
    obtain ⟨k, rfl, k1, k2, hk, rfl⟩ := hrel
    by_cases hlk : k < s.size
    · have j1 : (k : Int) < s.size := by omega
      have hixk := hix k hlk
      have hdk := isD_at s k hlk
      by_cases d1 : 48 ≤ (s[k]).toNat
      · have e1 : (48 : Int) ≤ (s[k]).toNat := by omega
        by_cases d2 : (s[k]).toNat ≤ 57
        · have e2 : ((s[k]).toNat : Int) ≤ 57 := by omega
          have hN : Hid (digEnd s.data.toList (k + 1) = E) := by
            show _ = _
            rw [← hk.out, dig_yes s.data.toList k (by rw [hdk]; exact decide_eq_true ⟨d1, d2⟩)]
          clear hdk hix
          go_wp2
          exact ⟨⟨k + 1, by go_num, by omega, by omega, hN, by first | trivial | rfl⟩, by simp [intOf]; omega⟩
        · have e2 : ¬ ((s[k]).toNat : Int) ≤ 57 := by omega
          obtain rfl : k = E := by rw [← hk.out, dig_no s.data.toList k (by rw [hdk]; exact decide_eq_false (by omega))]
          clear hdk hix
          go_wp2
          go_region_with (go_at_call 153; refine (HC.out _).mono ?_; rintro e w1 ⟨rfl, hb1⟩)
          all_goals
            (try clear hixk)
            (try clear e2)
            (try clear e1)
            (try clear d2)
            (try clear d1)
            have hbB : Below wr.heap.size wr w1 := ((Below.refl _ _).drew).trans hb1
            have hR1 := HR.out.keep hbB
            have d0 := hR1.c0
            have d1 := hR1.c1
            have f1 := hR1.f1
            have hlt1 := hR1.lt
            have hx := HX.out
            go_wp2
            go_simp
            go_big_quiet (fail)
            go_wp2
            go_returns
            exact ⟨rfl, hR1.drewN _, ((hbB.mono (Nat.le_of_lt hlt)).trans (below_drewN g _))⟩
      · have e1 : ¬ (48 : Int) ≤ (s[k]).toNat := by omega
        obtain rfl : k = E := by rw [← hk.out, dig_no s.data.toList k (by rw [hdk]; exact decide_eq_false (by omega))]
        clear hdk hix
        go_wp2
        go_region_with (go_at_call 153; refine (HC.out _).mono ?_; rintro e w1 ⟨rfl, hb1⟩)
        all_goals
          (try clear hixk)
          (try clear e2)
          (try clear e1)
          (try clear d2)
          (try clear d1)
          have hbB : Below wr.heap.size wr w1 := ((Below.refl _ _).drew).trans hb1
          have hR1 := HR.out.keep hbB
          have d0 := hR1.c0
          have d1 := hR1.c1
          have f1 := hR1.f1
          have hlt1 := hR1.lt
          have hx := HX.out
          go_wp2
          go_simp
          go_big_quiet (fail)
          go_wp2
          go_returns
          exact ⟨rfl, hR1.drewN _, ((hbB.mono (Nat.le_of_lt hlt)).trans (below_drewN g _))⟩
    · have j1 : ¬ (k : Int) < s.size := by omega
      obtain rfl : k = E := by rw [← hk.out, dig_no s.data.toList k (isD_out s k hlk)]
      clear hix
      go_wp2
      go_region_with (go_at_call 153; refine (HC.out _).mono ?_; rintro e w1 ⟨rfl, hb1⟩)
      all_goals
        (try clear hixk)
        (try clear e2)
        (try clear e1)
        (try clear d2)
        (try clear d1)
        have hbB : Below wr.heap.size wr w1 := ((Below.refl _ _).drew).trans hb1
        have hR1 := HR.out.keep hbB
        have d0 := hR1.c0
        have d1 := hR1.c1
        have f1 := hR1.f1
        have hlt1 := hR1.lt
        have hx := HX.out
        go_wp2
        go_simp
        go_big_quiet (fail)
        go_wp2
        go_returns
        exact ⟨rfl, hR1.drewN _, ((hbB.mono (Nat.le_of_lt hlt)).trans (below_drewN g _))⟩
end Go.Proofs.YtkadanagmahhgaaGreatDoor
