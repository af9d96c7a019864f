/-
  PROVED HERE: that the program's reading of a term is the plain reading. The tables are laid. No other condition.
-/
import Derived.Test.YtfadclakedfjkaaDoorIRead
namespace Go.Proofs.YtfadclakedfjkaaDoor
open Go.ChangeShapes Go.WideShapes Go.ChangeAt Go.RowKit
set_option linter.unusedVariables false

variable {B g mb mc : Nat} {s : ByteArray} {M : List (Int × Int)}
/-- What reading a part does, with so much fuel. -/
def IPart (B g mb mc : Nat) (s : ByteArray) (M : List (Int × Int)) (f : Nat) : Prop := ∀ (a : Nat) (out : List (Int × Int)), s.size < a + f → a ≤ s.size → out.length ≤ a → IReads 29 #[.pointer (some ⟨g, 0, none⟩)] B g mb mc s M a out (readT s.data.toList f a out)
/-- A call that reads, as a hypothesis that the walk does not look into. -/
theorem IReads.call {f : FuncId} {args : Array Value} {a : Nat} {out : List (Int × Int)} {R : Rd} (h : IReads f args B g mb mc s M a out R) : Hid (∀ W k, Env W → IRdr W B g mb mc s M k out → MkAt s.data.toList (M.drop k) a → Calls Tryd.prog f args W fun e w' => e = .returned (.bool R.1) ∧ ILeft w' B g mb mc s M R ∧ Below g W w') := h
theorem iput {W : World} {k : Nat} {out : List (Int × Int)} (op n : Int) (h : IRdr W B g mb mc s M k out) (ho : out.length ≤ 1048576) : Hid (Calls Tryd.prog 66 #[.pointer (some ⟨g, 0, none⟩), .int .i64 op, .int .i64 n] W fun e w' => (∃ u, e = .returned u) ∧ IRdr w' B g mb mc s M k (out ++ [(op, n)]) ∧ Below g W w') := put_any W B g mb mc s M k out op n h ho

theorem ineg (hG : Gl g) (hs : s.size ≤ 1048000) (f : Nat) (IH : IPart B g mb mc s M f) (a : Nat) (out : List (Int × Int)) (hf : s.size < a + f) (ha : a ≤ s.size) (ho : out.length ≤ a) :
    IReads 51 #[.pointer (some ⟨g, 0, none⟩)] B g mb mc s M a out ((readT s.data.toList f a out).1, (readT s.data.toList f a out).2.1, (readT s.data.toList f a out).2.2 ++ [(3, 0)]) := by
  intro W k hE hR hA
  have HC := (IH a out hf ha ho).call
  have hp := part_ok s.data.toList f a out (by rw [size_list]; exact ha) ho
  rw [size_list] at hp
  generalize readT s.data.toList f a out = R at HC hp ⊢
  obtain ⟨b, p, nn⟩ := R
  simp only at hp
  have HC' := (show Hid _ from HC.out W k hE hR hA)
  clear HC hR
  cases b with
  | false =>
    go_enter Tryd.func51, Tryd.ntmps51
    go_wp2_with fail
    refine Calls.mono HC'.out ?_
    rintro e w1 ⟨rfl, hL, hb1⟩
    clear HC'
    go_wp2
    go_ret
    obtain ⟨k1, o1, r1, r2, _⟩ := hL
    exact ⟨rfl, ⟨k1, o1, r1, r2, fun h => by cases h⟩, hb1⟩
  | true =>
    go_enter Tryd.func51, Tryd.ntmps51
    go_wp2_with fail
    refine Calls.mono HC'.out ?_
    rintro e w1 ⟨rfl, ⟨k1, o1, r1, r2, r3⟩, hb1⟩
    obtain rfl := r3 rfl
    have HP := iput 3 0 r1 (by omega)
    clear HC'
    go_wp2_with fail
    refine Calls.mono HP.out ?_
    rintro e w2 ⟨⟨u, rfl⟩, hR2, hb2⟩
    go_wp2
    go_ret
    exact ⟨rfl, ⟨k1, _, hR2, r2, fun _ => rfl⟩, hb1.trans hb2⟩

/-- A part, and a byte behind it. -/
theorem ithen (hG : Gl g) (hM : M.length ≤ 1048576) (f : Nat) (IH : IPart B g mb mc s M f) (a : Nat) (out : List (Int × Int)) (hf : s.size < a + f) (ha : a ≤ s.size) (ho : out.length ≤ a) (c : UInt8) (hc : c.toNat < 128) (hd : isD c = false) (W : World) (k : Nat) (hE : Env W) (hR : IRdr W B g mb mc s M k out) (hA : MkAt s.data.toList (M.drop k) a) :
    Hid (Calls Tryd.prog 29 #[.pointer (some ⟨g, 0, none⟩)] W fun e w' => Below g W w' ∧ ((e = .returned (.bool false) ∧ (thenB s.data.toList c (readT s.data.toList f a out)).1 = false ∧ ILeft w' B g mb mc s M (thenB s.data.toList c (readT s.data.toList f a out))) ∨
      (e = .returned (.bool true) ∧ Hid (Calls Tryd.prog 50 #[.pointer (some ⟨g, 0, none⟩), .int .i32 (c.toNat : Int)] w' fun e w'' => e = .returned (.bool (thenB s.data.toList c (readT s.data.toList f a out)).1) ∧ ILeft w'' B g mb mc s M (thenB s.data.toList c (readT s.data.toList f a out)) ∧ Below g w' w'')))) := by
  refine ((IH a out hf ha ho) W k hE hR hA).mono ?_
  rintro e w' ⟨rfl, ⟨k1, o1, r1, r2, r3⟩, hb⟩
  refine ⟨hb, ?_⟩
  unfold thenB
  cases hb1 : (readT s.data.toList f a out).1 with
  | false =>
    rw [if_neg (by decide)]
    exact .inl ⟨rfl, hb1, k1, o1, r1, r2, fun h => by rw [hb1] at h; cases h⟩
  | true =>
    rw [if_pos rfl]
    obtain rfl := r3 hb1
    refine .inr ⟨rfl, (ipass c hc hd r1 r2 hM).mono ?_⟩
    rintro e w'' ⟨rfl, ⟨k2, q1, q2⟩, hb2⟩
    cases hy : byteIs s.data.toList (readT s.data.toList f a out).2.1 c with
    | true =>
      rw [hy, if_pos rfl] at q2
      rw [if_pos rfl]
      exact ⟨rfl, ⟨k2, _, q1, q2, fun _ => rfl⟩, hb2⟩
    | false =>
      rw [hy, if_neg (by decide)] at q2
      rw [if_neg (by decide)]
      exact ⟨rfl, ⟨k2, _, q1, q2, fun _ => rfl⟩, hb2⟩

theorem ilast (hG : Gl g) (hM : M.length ≤ 1048576) (hs : s.size ≤ 1048000) (f : Nat) (IH : IPart B g mb mc s M f) (op : Int) (a : Nat) (out : List (Int × Int)) (hf : s.size < a + f) (ha : a ≤ s.size) (ho : out.length ≤ a) :
    IReads 69 #[.pointer (some ⟨g, 0, none⟩), .int .i64 op] B g mb mc s M a out (lastR s.data.toList f op a out) := by
  intro W k hE hR hA
  have HC := ithen hG hM f IH a out hf ha ho 41 (by decide) (by decide) W k hE hR hA
  have hp := then_ok s.data.toList f a 41 out (by rw [size_list]; exact ha) ho
  rw [size_list] at hp
  unfold lastR
  simp only []
  generalize thenB s.data.toList 41 (readT s.data.toList f a out) = R at HC hp ⊢
  obtain ⟨b, p, nn⟩ := R
  simp only at hp HC ⊢
  clear hR
  go_enter Tryd.func69, Tryd.ntmps69
  go_wp2_with fail
  refine Calls.mono HC.out ?_
  rintro e w1 ⟨hb1, ⟨rfl, rfl, hL⟩ | ⟨rfl, HP⟩⟩
  · clear HC
    go_wp2
    go_ret
    exact ⟨rfl, hL, hb1⟩
  · clear HC
    go_wp2_with fail
    refine Calls.mono HP.out ?_
    rintro e w2 ⟨rfl, hL, hb2⟩
    have hB2 := hb1.trans hb2
    clear HP hb1 hb2
    cases b with
    | false =>
      go_wp2
      go_ret
      exact ⟨rfl, hL, hB2⟩
    | true =>
      obtain ⟨k1, o1, r1, r2, r3⟩ := hL
      obtain rfl := r3 rfl
      have HQ := iput op 0 r1 (by have := hp.2.2; omega)
      go_wp2_with fail
      refine Calls.mono HQ.out ?_
      rintro e w3 ⟨⟨u, rfl⟩, hR3, hb3⟩
      go_wp2
      go_ret
      exact ⟨rfl, ⟨k1, _, hR3, r2, fun _ => rfl⟩, hB2.trans hb3⟩

theorem isides (hG : Gl g) (hM : M.length ≤ 1048576) (hs : s.size ≤ 1048000) (f : Nat) (IH : IPart B g mb mc s M f) (a : Nat) (out : List (Int × Int)) (hf : s.size < a + f) (ha : a ≤ s.size) (ho : out.length ≤ a) :
    IReads 67 #[.pointer (some ⟨g, 0, none⟩)] B g mb mc s M a out (sidesR s.data.toList f a out) := by
  intro W k hE hR hA
  have HC := ithen hG hM f IH a out hf ha ho 58 (by decide) (by decide) W k hE hR hA
  have hp := then_ok s.data.toList f a 58 out (by rw [size_list]; exact ha) ho
  rw [size_list] at hp
  unfold sidesR
  simp only []
  generalize thenB s.data.toList 58 (readT s.data.toList f a out) = R at HC hp ⊢
  obtain ⟨b, p, nn⟩ := R
  simp only at hp HC ⊢
  have HL := (ilast hG hM hs f IH 11 p nn (by omega) (by omega) hp.2.2).call
  have HE : Hid (Env W) := hE
  clear hR
  generalize lastR s.data.toList f 11 p nn = RL at HL ⊢
  go_enter Tryd.func67, Tryd.ntmps67
  go_wp2_with fail
  refine Calls.mono HC.out ?_
  rintro e w1 ⟨hb1, ⟨rfl, rfl, hL⟩ | ⟨rfl, HP⟩⟩
  · clear HC
    go_wp2
    go_ret
    exact ⟨rfl, hL, hb1⟩
  · clear HC
    go_wp2_with fail
    refine Calls.mono HP.out ?_
    rintro e w2 ⟨rfl, hL, hb2⟩
    have hB2 := hb1.trans hb2
    clear HP hb1 hb2
    cases b with
    | false =>
      go_wp2
      go_ret
      exact ⟨rfl, hL, hB2⟩
    | true =>
      obtain ⟨k1, o1, r1, r2, r3⟩ := hL
      obtain rfl := r3 rfl
      have HQ := (show Hid _ from HL.out w2 k1 (HE.out.keepG hG hB2) r1 r2)
      clear HL
      go_wp2_with fail
      refine Calls.mono HQ.out ?_
      rintro e w3 ⟨rfl, hL3, hb3⟩
      go_wp2
      go_ret
      exact ⟨rfl, hL3, hB2.trans hb3⟩
theorem iinside (hG : Gl g) (hM : M.length ≤ 1048576) (hs : s.size ≤ 1048000) (f : Nat) (IH : IPart B g mb mc s M f) (a : Nat) (out : List (Int × Int)) (hf : s.size < a + f) (ha : a ≤ s.size) (ho : out.length ≤ a) :
    IReads 52 #[.pointer (some ⟨g, 0, none⟩)] B g mb mc s M a out (insideR s.data.toList f a out) := by
  intro W k hE hR hA
  have HC := (show Hid _ from IH a out hf ha ho W k hE hR hA)
  have hp := part_ok s.data.toList f a out (by rw [size_list]; exact ha) ho
  rw [size_list] at hp
  unfold insideR
  simp only []
  generalize readT s.data.toList f a out = R at HC hp ⊢
  obtain ⟨b, p, nn⟩ := R
  simp only at hp HC ⊢
  have HE : Hid (Env W) := hE
  clear hR
  cases b with
  | false =>
    go_enter Tryd.func52, Tryd.ntmps52
    go_wp2_with fail
    refine Calls.mono HC.out ?_
    rintro e w1 ⟨rfl, hL, hb1⟩
    clear HC
    go_wp2
    go_ret
    exact ⟨rfl, hL, hb1⟩
  | true =>
    rw [if_neg (by decide)]
    have HP : Hid (∀ w1 k1, IRdr w1 B g mb mc s M k1 nn → MkAt s.data.toList (M.drop k1) p → Calls Tryd.prog 50 #[.pointer (some ⟨g, 0, none⟩), .int .i32 63] w1 fun e w' => e = .returned (.bool (byteIs s.data.toList p 63)) ∧ (∃ k', IRdr w' B g mb mc s M k' nn ∧ MkAt s.data.toList (M.drop k') (if byteIs s.data.toList p 63 = true then p + 1 else p)) ∧ Below g w1 w') := fun w1 k1 r1 r2 => ipass 63 (by decide) (by decide) r1 r2 hM
    cases hq : byteIs s.data.toList p 63 with
    | true =>
      rw [hq] at HP
      rw [if_pos rfl] at HP ⊢
      have HL := (isides hG hM hs f IH (p + 1) nn (by omega) (by have := (byteIs_iff hq).1; rw [size_list] at this; omega) (by omega)).call
      clear hq
      generalize sidesR s.data.toList f (p + 1) nn = RL at HL ⊢
      go_enter Tryd.func52, Tryd.ntmps52
      go_wp2_with fail
      refine Calls.mono HC.out ?_
      rintro e w1 ⟨rfl, ⟨k1, o1, r1, r2, r3⟩, hb1⟩
      obtain rfl := r3 rfl
      have HP2 := (show Hid _ from HP.out w1 k1 r1 r2)
      clear HC HP r2 r1 r3
      go_wp2_with fail
      refine Calls.mono HP2.out ?_
      rintro e w2 ⟨rfl, ⟨k2, q1, q2⟩, hb2⟩
      have hB2 := hb1.trans hb2
      have HQ := (show Hid _ from HL.out w2 k2 (HE.out.keepG hG hB2) q1 q2)
      clear HL HP2
      go_wp2_with fail
      refine Calls.mono HQ.out ?_
      rintro e w3 ⟨rfl, hL3, hb3⟩
      go_wp2
      go_ret
      exact ⟨rfl, hL3, hB2.trans hb3⟩
    | false =>
      rw [hq] at HP
      rw [if_neg (by decide)] at HP ⊢
      clear hq
      have HS : Hid (∀ w2 k2, Env w2 → IRdr w2 B g mb mc s M k2 nn → MkAt s.data.toList (M.drop k2) p → Calls Tryd.prog 68 #[.pointer (some ⟨g, 0, none⟩)] w2 fun e w' => e = .returned (.tuple #[.int .i64 (twoR s.data.toList p).1, .bool (decide ((twoR s.data.toList p).1 ≠ 0))]) ∧ (∃ k', IRdr w' B g mb mc s M k' nn ∧ MkAt s.data.toList (M.drop k') (twoR s.data.toList p).2) ∧ Below g w2 w') := fun w2 k2 e2 q1 q2 => isign_any w2 B g mb mc s M k2 p nn q1 e2 hG hM q2
      have hT := two_cases s.data.toList p (by rw [size_list]; omega)
      rw [size_list] at hT
      generalize twoR s.data.toList p = T at HS hT ⊢
      obtain ⟨op, at2⟩ := T
      simp only at HS hT ⊢
      by_cases h0 : op = 0
      · subst h0
        rw [if_pos rfl]
        rw [show decide ((0 : Int) ≠ 0) = false from rfl] at HS
        clear hT
        go_enter Tryd.func52, Tryd.ntmps52
        go_wp2_with fail
        refine Calls.mono HC.out ?_
        rintro e w1 ⟨rfl, ⟨k1, o1, r1, r2, r3⟩, hb1⟩
        obtain rfl := r3 rfl
        have HP2 := (show Hid _ from HP.out w1 k1 r1 r2)
        clear HC HP r2 r1 r3
        go_wp2_with fail
        refine Calls.mono HP2.out ?_
        rintro e w2 ⟨rfl, ⟨k2, q1, q2⟩, hb2⟩
        have hB2 := hb1.trans hb2
        have HS2 := (show Hid _ from HS.out w2 k2 (HE.out.keepG hG hB2) q1 q2)
        clear HP2 HS
        go_wp2_with fail
        refine Calls.mono HS2.out ?_
        rintro e w3 ⟨rfl, ⟨k3, t1, t2⟩, hb3⟩
        clear HS2
        go_wp2
        go_ret
        exact ⟨rfl, ⟨k3, _, t1, t2, fun h => by cases h⟩, hB2.trans hb3⟩
      · rw [if_neg h0]
        rcases hT with ⟨e0, _⟩ | ⟨_, _, t3, t4, _⟩
        · exact absurd e0 h0
        have hdec : decide (op ≠ 0) = true := decide_eq_true h0
        rw [hdec] at HS
        have HL := (ilast hG hM hs f IH op at2 nn (by omega) (by omega) (by omega)).call
        clear h0 hdec
        generalize lastR s.data.toList f op at2 nn = RL at HL ⊢
        go_enter Tryd.func52, Tryd.ntmps52
        go_wp2_with fail
        refine Calls.mono HC.out ?_
        rintro e w1 ⟨rfl, ⟨k1, o1, r1, r2, r3⟩, hb1⟩
        obtain rfl := r3 rfl
        have HP2 := (show Hid _ from HP.out w1 k1 r1 r2)
        clear HC HP r2 r1 r3
        go_wp2_with fail
        refine Calls.mono HP2.out ?_
        rintro e w2 ⟨rfl, ⟨k2, q1, q2⟩, hb2⟩
        have hB2 := hb1.trans hb2
        have HS2 := (show Hid _ from HS.out w2 k2 (HE.out.keepG hG hB2) q1 q2)
        clear HP2 HS
        go_wp2_with fail
        refine Calls.mono HS2.out ?_
        rintro e w3 ⟨rfl, ⟨k3, t1, t2⟩, hb3⟩
        have hB3 := hB2.trans hb3
        have HQ := (show Hid _ from HL.out w3 k3 (HE.out.keepG hG hB3) t1 t2)
        clear HS2 HL
        go_wp2_with fail
        refine Calls.mono HQ.out ?_
        rintro e w4 ⟨rfl, hL4, hb4⟩
        go_wp2
        go_ret
        exact ⟨rfl, hL4, hB3.trans hb4⟩
end Go.Proofs.YtfadclakedfjkaaDoor
