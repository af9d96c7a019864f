/-
  PROVED HERE: how the program reads a term, part by part. The tables are laid. No other condition.
-/
import Derived.Test.YtfadclakedfjkaaDoorSigns
import Derived.Test.YtfadclakedfjkaaDoorINums
namespace Go.Proofs.YtfadclakedfjkaaDoor
open Go.ChangeShapes Go.WideShapes Go.ChangeAt Go.RowKit
set_option linter.unusedVariables false

/-- What a reading leaves of the program's reader. -/
def ILeft (w' : World) (B g mb mc : Nat) (s : ByteArray) (M : List (Int × Int)) (R : Rd) : Prop := ∃ k out, IRdr w' B g mb mc s M k out ∧ MkAt s.data.toList (M.drop k) R.2.1 ∧ (R.1 = true → out = R.2.2)
/-- That a reader's method reads as a plain reading from a place on. -/
def IReads (f : FuncId) (args : Array Value) (B g mb mc : Nat) (s : ByteArray) (M : List (Int × Int)) (a : Nat) (out : List (Int × Int)) (R : Rd) : Prop :=
  ∀ W k, Env W → IRdr W B g mb mc s M k out → MkAt s.data.toList (M.drop k) a → Calls Tryd.prog f args W fun e w' => e = .returned (.bool R.1) ∧ ILeft w' B g mb mc s M R ∧ Below g W w'
theorem drop_getD (M : List (Int × Int)) (k : Nat) : (M.drop k).getD 0 (0, 0) = M.getD k (0, 0) := by
  rw [List.getD_eq_getElem?_getD, List.getElem?_drop, List.getD_eq_getElem?_getD]; simp
theorem drop_lt' {s : List UInt8} {M : List (Int × Int)} {k a : Nat} (h : MkAt s (M.drop k) a) : k < M.length := by
  have := h.at.2; rw [List.length_drop] at this; omega
/-- Taking a byte. -/
theorem ipass (b : UInt8) (hb : b.toNat < 128) (hd : isD b = false) {w : World} {B g mb mc : Nat} {s : ByteArray} {M : List (Int × Int)} {k a : Nat} {out : List (Int × Int)} (h : IRdr w B g mb mc s M k out) (hA : MkAt s.data.toList (M.drop k) a) (hM : M.length ≤ 1048576) :
    Calls Tryd.prog 50 #[.pointer (some ⟨g, 0, none⟩), .int .i32 (b.toNat : Int)] w fun e w' => e = .returned (.bool (byteIs s.data.toList a b)) ∧ (∃ k', IRdr w' B g mb mc s M k' out ∧ MkAt s.data.toList (M.drop k') (if byteIs s.data.toList a b = true then a + 1 else a)) ∧ Below g w w' := by
  have hi := hA.is b hb
  rw [drop_getD] at hi
  refine (passes_any w B g mb mc s M k out _ h (drop_lt' hA) hM).mono ?_
  rintro e w' ⟨rfl, hR, hB⟩
  rw [hi] at hR ⊢
  refine ⟨rfl, ?_, hB⟩
  cases hy : byteIs s.data.toList a b with
  | true =>
    rw [hy, if_pos rfl] at hR
    rw [if_pos rfl]
    have := hA.next b hb hd hy
    rw [List.drop_drop] at this
    exact ⟨k + 1, hR, this⟩
  | false =>
    rw [hy, if_neg (by decide)] at hR
    rw [if_neg (by decide)]
    exact ⟨k, hR, hA⟩
/-- Reading a number. -/
theorem inum_any (B g mb mc : Nat) (s : ByteArray) (M : List (Int × Int)) (a : Nat) (out : List (Int × Int)) (hG : Gl g) (hs : s.size ≤ 1048576) (hM : M.length ≤ 1048576) (ho : out.length ≤ 1048576) (ha : a < s.size) (h1 : (isD (s.data.toList.getD a 0) || s.data.toList.getD a 0 == 45) = true) :
    IReads 53 #[.pointer (some ⟨g, 0, none⟩)] B g mb mc s M a out (numR s.data.toList a out) := by
  intro W k hE hR hA
  have hkM := drop_lt' hA
  have hat := hA.at.1
  have h45 := hA.is 45 (by decide)
  rw [drop_getD] at hat h45
  have hsl : s.data.toList.length = s.size := size_list s
  unfold numR numEnd
  by_cases hm : s.data.toList.getD a 0 = 45
  · rw [if_pos hm]
    have hy : byteIs s.data.toList a 45 = true := by unfold byteIs; rw [decide_eq_true (by omega), hm]; rfl
    rw [hy] at h45
    have hA1 := hA.next 45 (by decide) (by decide) hy
    rw [List.drop_drop] at hA1
    have hk1 := drop_lt' hA1
    have hd := hA1.dig
    rw [drop_getD] at hd
    cases hD : isD (s.data.toList.getD (a + 1) 0) with
    | false =>
      rw [hD] at hd
      rw [dig_no _ _ hD, show a + 1 - a = 1 from by omega]
      have hno : numOf ((s.data.toList.drop a).take 1) = none := by
        cases hq : numOf ((s.data.toList.drop a).take 1) with
        | none => rfl
        | some n =>
          obtain ⟨_, q2⟩ := numOf_some hq
          have q3 : (s.data.toList.drop a).take 1 = [45] := by
            have := seg8_one s.data.toList a (by omega)
            unfold seg8 at this
            rw [show a + 1 - a = 1 from by omega, hm] at this
            exact this
          rw [q3] at q2
          exfalso
          rcases itoa_shape n with ⟨u, e⟩ | ⟨u, e⟩
          · rw [e] at q2
            exact dec_ne u (List.cons.inj q2).2
          · rw [e] at q2
            have := dec_dig u 45 (by rw [q2]; exact List.mem_singleton.2 rfl)
            unfold IsDig at this
            exact absurd this.1 (by decide)
      rw [hno]
      simp only []
      rw [if_pos (by rw [hm]; simp)]
      refine (inum_neg_bare W B g mb mc s M k out hR hE hG hs hM ho (k + 1) rfl h45 hk1 hd).mono ?_
      rintro e w' ⟨rfl, hR', hb⟩
      exact ⟨rfl, ⟨k + 1, out, hR', hA1, fun h => by cases h⟩, hb⟩
    | true =>
      rw [hD] at hd
      have hA2 := hA1.nextDig hD
      rw [List.drop_drop] at hA2
      have hk2 := drop_lt' hA2
      have hE2 := hA2.at.1
      rw [drop_getD] at hE2
      have hE3 := hA2.le
      have hge := dig_ge s.data.toList (a + 1)
      have hgt : a + 1 < digEnd s.data.toList (a + 1) := by rw [dig_yes _ _ hD]; have := dig_ge s.data.toList (a + 1 + 1); omega
      generalize digEnd s.data.toList (a + 1) = E at hA2 hE2 hE3 hge hgt ⊢
      cases hq : numOf ((s.data.toList.drop a).take (E - a)) with
      | none =>
        simp only []
        rw [if_neg (by simp; omega)]
        refine (inum_neg_none W B g mb mc s M k out hR hE hG hs hM ho (k + 1) rfl (k + 1 + 1) rfl h45 hk2 hd a E hat hE2 (by omega) (by omega) (numOf_none hq)).mono ?_
        rintro e w' ⟨rfl, hR', hb⟩
        exact ⟨rfl, ⟨k, out, hR', hA, fun h => by cases h⟩, hb⟩
      | some n =>
        obtain ⟨q1, q2⟩ := numOf_some hq
        refine (inum_neg_some W B g mb mc s M k out hR hE hG hs hM ho (k + 1) rfl (k + 1 + 1) rfl h45 hk2 hd a E hat hE2 (by omega) (by omega) n q1 q2).mono ?_
        rintro e w' ⟨rfl, hR', hb⟩
        exact ⟨rfl, ⟨k + 1 + 1, _, hR', hA2, fun _ => rfl⟩, hb⟩
  · rw [if_neg hm]
    have hD : isD (s.data.toList.getD a 0) = true := by rw [beq_eq_false_iff_ne.2 hm, Bool.or_false] at h1; exact h1
    have hy : byteIs s.data.toList a 45 = false := by unfold byteIs; rw [beq_eq_false_iff_ne.2 hm, Bool.and_false]
    rw [hy] at h45
    have hd := hA.dig
    rw [drop_getD, hD] at hd
    have hA2 := hA.nextDig hD
    rw [List.drop_drop] at hA2
    have hk2 := drop_lt' hA2
    have hE2 := hA2.at.1
    rw [drop_getD] at hE2
    have hE3 := hA2.le
    have hge := dig_ge s.data.toList a
    generalize digEnd s.data.toList a = E at hA2 hE2 hE3 hge ⊢
    cases hq : numOf ((s.data.toList.drop a).take (E - a)) with
    | none =>
      simp only []
      rw [if_neg (by rw [beq_eq_false_iff_ne.2 hm]; simp)]
      refine (inum_pos_none W B g mb mc s M k out hR hE hG hs hM ho (k + 1) rfl h45 hk2 hd a E hat hE2 (by omega) (by omega) (numOf_none hq)).mono ?_
      rintro e w' ⟨rfl, hR', hb⟩
      exact ⟨rfl, ⟨k, out, hR', hA, fun h => by cases h⟩, hb⟩
    | some n =>
      obtain ⟨q1, q2⟩ := numOf_some hq
      refine (inum_pos_some W B g mb mc s M k out hR hE hG hs hM ho (k + 1) rfl h45 hk2 hd a E hat hE2 (by omega) (by omega) n q1 q2).mono ?_
      rintro e w' ⟨rfl, hR', hb⟩
      exact ⟨rfl, ⟨k + 1, _, hR', hA2, fun _ => rfl⟩, hb⟩
/-- Reading a variable. -/
theorem ivar_yes (B g mb mc : Nat) (s : ByteArray) (M : List (Int × Int)) (a : Nat) (out : List (Int × Int)) (hM : M.length ≤ 1048576) (ho : out.length ≤ 1048576) (ha : a < s.size) (h1 : 97 ≤ (s.data.toList.getD a 0).toNat ∧ (s.data.toList.getD a 0).toNat < 101) :
    IReads 54 #[.pointer (some ⟨g, 0, none⟩)] B g mb mc s M a out (true, a + 1, out ++ [(2, (((s.data.toList.getD a 0).toNat - 97 : Nat) : Int))]) := by
  intro W k hE hR hA
  have hkM := drop_lt' hA
  have hsl : s.data.toList.length = s.size := size_list s
  obtain ⟨b, hb⟩ : ∃ b, s.data.toList.getD a 0 = b := ⟨_, rfl⟩
  have hb7 : b.toNat < 128 := by rw [hb] at h1; omega
  have hy : byteIs s.data.toList a b = true := by unfold byteIs; rw [decide_eq_true (by omega), hb]; simp
  have hx := hA.is b hb7
  rw [drop_getD, hy, beq_iff_eq] at hx
  rw [hb] at h1 ⊢
  have hd : isD b = false := by unfold isD; exact decide_eq_false (by omega)
  have hA1 := hA.next b hb7 hd hy
  rw [List.drop_drop] at hA1
  obtain ⟨v, hv⟩ : ∃ v, b.toNat = 97 + v := ⟨b.toNat - 97, by omega⟩
  rw [hv, show 97 + v - 97 = v from by omega]
  rw [hv] at hx
  have fin : ∀ e w', (e = Ending.returned (.bool true) ∧ IRdr w' B g mb mc s M (k + 1) (out ++ [(2, (v : Int))]) ∧ Below g W w') → e = .returned (.bool true) ∧ ILeft w' B g mb mc s M (true, a + 1, out ++ [(2, (v : Int))]) ∧ Below g W w' := fun e w' ⟨h1, h2, h3⟩ => ⟨h1, ⟨k + 1, _, h2, hA1, fun _ => rfl⟩, h3⟩
  rcases (show v = 0 ∨ v = 1 ∨ v = 2 ∨ v = 3 by omega) with rfl | rfl | rfl | rfl
  · exact (ivar_0 W B g mb mc s M k out hR hkM hM ho hx).mono fin
  · exact (ivar_1 W B g mb mc s M k out hR hkM hM ho hx).mono fin
  · exact (ivar_2 W B g mb mc s M k out hR hkM hM ho hx).mono fin
  · exact (ivar_3 W B g mb mc s M k out hR hkM hM ho hx).mono fin
theorem ivar_none (B g mb mc : Nat) (s : ByteArray) (M : List (Int × Int)) (a : Nat) (out : List (Int × Int)) (hM : M.length ≤ 1048576) (ho : out.length ≤ 1048576) (h1 : a < s.size → ¬ (97 ≤ (s.data.toList.getD a 0).toNat ∧ (s.data.toList.getD a 0).toNat < 101)) :
    IReads 54 #[.pointer (some ⟨g, 0, none⟩)] B g mb mc s M a out (false, a, out) := by
  intro W k hE hR hA
  have hsl : s.data.toList.length = s.size := size_list s
  refine (ivar_no W B g mb mc s M k out hR (drop_lt' hA) hM ho ?_).mono fun e w' ⟨h1, h2, h3⟩ => ⟨h1, ⟨k, out, h2, hA, fun h => by cases h⟩, h3⟩
  intro i hi e
  have hx := hA.is (UInt8.ofNat (97 + i)) (by rw [UInt8.toNat_ofNat']; omega)
  rw [drop_getD, e, UInt8.toNat_ofNat', show (97 + i) % 2 ^ 8 = 97 + i from by omega, show (((97 : Int) + i) == ((97 + i : Nat) : Int)) = true from by simp] at hx
  obtain ⟨x1, x2⟩ := byteIs_iff hx.symm
  refine h1 (by omega) ?_
  rw [x2, UInt8.toNat_ofNat', show (97 + i) % 2 ^ 8 = 97 + i from by omega]
  omega
end Go.Proofs.YtfadclakedfjkaaDoor
