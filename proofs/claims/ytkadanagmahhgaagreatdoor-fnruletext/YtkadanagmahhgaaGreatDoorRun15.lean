/-
  PROVED HERE: the program's reading of a number. The tables are laid. No other condition. how the program reads a term, part by part. The tables are laid. No other condition. that the program's reading of a term is the plain reading. The tables are laid. No other condition. that the program's reading of a part is the plain reading, whatever the text. The tables are laid. No other condition.
-/
import Derived.Test.YtkadanagmahhgaaGreatDoorRun14
import Derived.Test.YtkadanagmahhgaaGreatDoorRun13
namespace Go.Proofs.YtkadanagmahhgaaGreatDoor
open Go.ChangeShapes Go.WideShapes Go.ChangeAt Go.RowKit
set_option linter.unusedVariables false
set_option maxHeartbeats 1600000 in
set_option maxRecDepth 20000 in
theorem inum_pos_some (w : World) (B g mb mc : Nat) (s : ByteArray) (M : List (Int × Int)) (k : Nat) (out : List (Int × Int)) (h : IRdr w B g mb mc s M k out) (hEnv : Env w) (hG : Gl g) (hs : s.size ≤ 1048576) (hM : M.length ≤ 1048576) (ho : out.length ≤ 1048576) (e1 : Nat) (he1 : e1 = k + 1) (h45 : ((M.getD k (0, 0)).2 == 45) = false) (hkl : e1 < M.length) (hd : digB (M.getD (k) (0, 0)).2 = true) (a E : Nat) (ha : (M.getD k (0, 0)).1 = a) (hE : (M.getD (e1) (0, 0)).1 = E) (haE : a ≤ E) (hEs : E ≤ s.size) (n : Int) (hn : InI n) (hi : Lib.itoa n = (s.data.toList.drop a).take (E - a)) :
    Calls Tryz.prog 125 #[.pointer (some ⟨g, 0, none⟩)] w fun e w' => e = .returned (.bool true) ∧ IRdr w' B g mb mc s M (e1) (out ++ [(1, n)]) ∧ Below g w w' := by
  have HP := (show Hid _ from passes_any w B g mb mc s M k out 45 h (by omega) hM)
  rw [h45] at HP
  rw [if_neg (by decide)] at HP
  have HD : Hid (∀ W, Calls Tryz.prog 121 #[.int .i32 (M.getD (k) (0, 0)).2] W fun e w' => e = .returned (.bool (digB (M.getD (k) (0, 0)).2)) ∧ w' = W) := fun W => isDigit_any _ W
  rw [hd] at HD
  obtain ⟨x, hx⟩ : ∃ x, (M.getD (k) (0, 0)).2 = x := ⟨_, rfl⟩
  rw [hx] at HD
  have HX : Hid ((M.getD (k) (0, 0)).2 = x) := hx
  clear hx
  have c2 := h.c2
  have i1 : (k : Int) < M.length := by omega
  have i0 : (M.length : Int) ≤ 1048576 := by omega
  have i2 : (e1 : Int) < M.length := by omega
  have i3 : (k : Int) < M.length := by omega
  have hsl : ∀ W, (Instr.slice 9 (.string s) (some (.int .i64 (a : Int))) (some (.int .i64 (E : Int))) none).run Tryz.prog W = .ok (.string (s.extract a E)) W := by
    intro W
    rw [run_slice_string W 9 s .i64 .i64 _ _ Tryz.underlying9 (by omega) (by omega) (by omega)]; rfl
  have hseg := ext_seg2 s a E
  have hxs : (s.extract a E).size ≤ 1048576 := by rw [ByteArray.size_extract]; omega
  obtain ⟨X, hX⟩ : ∃ X, s.extract a E = X := ⟨_, rfl⟩
  rw [hX] at hsl hseg hxs
  rw [← hseg] at hi
  have HC : Hid (∀ W, Env W → Calls Tryz.prog 150 #[.string X] W fun e w' => e = .returned (.tuple #[.int .i64 n, .bool true]) ∧ Below W.heap.size W w') := fun W hW => implRead_some n X W hn hi hW.1
  have HPut : Hid (∀ W, IRdr W B g mb mc s M (e1) out → Calls Tryz.prog 146 #[.pointer (some ⟨g, 0, none⟩), .int .i64 1, .int .i64 n] W fun e w' => (∃ u, e = .returned u) ∧ IRdr w' B g mb mc s M (e1) (out ++ [(1, n)]) ∧ Below g W w') := fun W hW => put_any W B g mb mc s M (e1) out 1 n hW ho
  clear hi hn hX hseg
  have HEnv : Hid (Env w) := hEnv
  have HE1 : Hid (k + 1 = e1) := he1.symm
  have hkk : k < M.length := by omega
  clear h hd h45 hEnv he1
  go_enter Tryz.func125, Tryz.ntmps125
  go_wp2_with fail
  refine Calls.mono HP.out ?_
  rintro e w1 ⟨rfl, hR1, hb1⟩
  have d1 := hR1.c1
  have d2 := hR1.c2
  have m2 := (hR1.mks (k) hkk).2
  rw [HX.out] at m2
  clear HP c2 HX
  go_wp2_with fail
  go_quiet (exact Calls.quiet_of_same (HD.out _))
  have f2 := hR1.f2
  clear HD m2
  go_wp2
  obtain ⟨W, hW⟩ : ∃ W, (w1.drewN nq).setCell ⟨g, 2, none⟩ (.int .i64 ((k : Int) + 1)) = W := ⟨_, rfl⟩
  have hR2 : IRdr W B g mb mc s M (e1) out := by rw [← hW, ← HE1.out]; exact (hR1.drewN nq).move (k + 1)
  have hB2 : Below g w W := by rw [← hW]; exact (hb1.trans (below_drewN g _)).trans (below_set _)
  rw [hW]
  clear hW d1 d2 f2 hR1 hb1
  have hEW := HEnv.out.keepG hG hB2
  have c0 := hR2.c0
  have c1 := hR2.c1
  have c2 := hR2.c2
  have n1 := (hR2.mks k hkk).1
  have n2 := (hR2.mks (e1) (by omega)).1
  rw [ha] at n1
  rw [hE] at n2
  have hgW : g ≤ W.heap.size := by have := hR2.lt; have := hR2.ltB; omega
  have HR2 : Hid (IRdr W B g mb mc s M (e1) out) := hR2
  have HEW : Hid (Env W) := hEW
  clear hR2 hEW ha hE
  have hgW' : g < W.heap.size := by have := HR2.out.lt; have := HR2.out.ltB; omega
  have hmW : mb < W.heap.size := by have := HR2.out.mlt; have := HR2.out.ltB; omega
  have KS : Hid (∀ w', Below W.heap.size W w' → w'.cell? ⟨g, 0, none⟩ = some (.string s) ∧ w'.cell? ⟨g, 1, none⟩ = some (.slice (some ⟨mb, 0, none⟩) M.length mc) ∧ w'.cell? ⟨g, 2, none⟩ = some (.int .i64 (e1 : Int)) ∧ w'.cell? ⟨mb, k * 2, none⟩ = some (.int .i64 (a : Int)) ∧ w'.cell? ⟨mb, e1 * 2, none⟩ = some (.int .i64 (E : Int)) ∧ Below W.heap.size W w') := fun w' h' => ⟨(h'.cell (p := ⟨g, 0, none⟩) hgW').trans c0, (h'.cell (p := ⟨g, 1, none⟩) hgW').trans c1, (h'.cell (p := ⟨g, 2, none⟩) hgW').trans c2, (h'.cell (p := ⟨mb, k * 2, none⟩) hmW).trans n1, (h'.cell (p := ⟨mb, e1 * 2, none⟩) hmW).trans n2, h'⟩
  go_region_held3 (fun w' => w'.cell? ⟨g, 0, none⟩ = some (.string s) ∧ w'.cell? ⟨g, 1, none⟩ = some (.slice (some ⟨mb, 0, none⟩) M.length mc) ∧ w'.cell? ⟨g, 2, none⟩ = some (.int .i64 (e1 : Int)) ∧ w'.cell? ⟨mb, k * 2, none⟩ = some (.int .i64 (a : Int)) ∧ w'.cell? ⟨mb, e1 * 2, none⟩ = some (.int .i64 (E : Int)) ∧ Below W.heap.size W w')
    ((refine KS.out _ ?_; first | assumption | exact held5_b (by assumption) | exact (Below.refl _ _).drew))
    (first
      | (go_at_call 150; refine (HC.out _ (HEW.out.keep (held5_b (by assumption)))).mono ?_; rintro e w2 ⟨rfl, hb2⟩; have hbB := held5_step (by assumption) hb2; clear hb2))
  all_goals
    have hR3 := HR2.out.keep hbB
    have hB3 : Below g w w2 := hB2.trans (hbB.mono hgW)
    clear c0 c1 c2 n1 n2
    go_wp2_with fail
    refine (HPut.out _ hR3).mono ?_
    rintro e w4 ⟨⟨u, rfl⟩, hR4, hb4⟩
    go_wp2
    go_ret
    exact ⟨rfl, hR4, hB3.trans hb4⟩
end Go.Proofs.YtkadanagmahhgaaGreatDoor
namespace Go.Proofs.YtkadanagmahhgaaGreatDoor
open Go.ChangeShapes Go.WideShapes Go.ChangeAt Go.RowKit
set_option linter.unusedVariables false

/-- What a reading leaves of the program's reader. -/
def ILeft (w' : World) (B g mb mc : Nat) (s : ByteArray) (M : List (Int × Int)) (R : Rd) : Prop := ∃ k out, IRdr w' B g mb mc s M k out ∧ MkAt s.data.toList (M.drop k) R.2.1 ∧ (R.1 = true → out = R.2.2)
/-- That a reader's method reads as a plain reading from a place on. -/
def IReads (f : FuncId) (args : Array Value) (B g mb mc : Nat) (s : ByteArray) (M : List (Int × Int)) (a : Nat) (out : List (Int × Int)) (R : Rd) : Prop :=
  ∀ W k, Env W → IRdr W B g mb mc s M k out → MkAt s.data.toList (M.drop k) a → Calls Tryz.prog f args W fun e w' => e = .returned (.bool R.1) ∧ ILeft w' B g mb mc s M R ∧ Below g W w'
theorem drop_getD (M : List (Int × Int)) (k : Nat) : (M.drop k).getD 0 (0, 0) = M.getD k (0, 0) := by
  rw [List.getD_eq_getElem?_getD, List.getElem?_drop, List.getD_eq_getElem?_getD]; simp
theorem drop_lt' {s : List UInt8} {M : List (Int × Int)} {k a : Nat} (h : MkAt s (M.drop k) a) : k < M.length := by
  have := h.at.2; rw [List.length_drop] at this; omega
/-- Taking a byte. -/
theorem ipass (b : UInt8) (hb : b.toNat < 128) (hd : isD b = false) {w : World} {B g mb mc : Nat} {s : ByteArray} {M : List (Int × Int)} {k a : Nat} {out : List (Int × Int)} (h : IRdr w B g mb mc s M k out) (hA : MkAt s.data.toList (M.drop k) a) (hM : M.length ≤ 1048576) :
    Calls Tryz.prog 122 #[.pointer (some ⟨g, 0, none⟩), .int .i32 (b.toNat : Int)] w fun e w' => e = .returned (.bool (byteIs s.data.toList a b)) ∧ (∃ k', IRdr w' B g mb mc s M k' out ∧ MkAt s.data.toList (M.drop k') (if byteIs s.data.toList a b = true then a + 1 else a)) ∧ Below g w w' := by
  have hi := hA.is b hb
  rw [drop_getD] at hi
  refine (passes_any w B g mb mc s M k out _ h (drop_lt' hA) hM).mono ?_
  rintro e w' ⟨rfl, hR, hB⟩
  rw [hi] at hR ⊢
  refine ⟨rfl, ?_, hB⟩
  cases hy : byteIs s.data.toList a b with
  | true =>
    rw [hy, if_pos rfl] at hR
    rw [if_pos rfl]
    have := hA.next b hb hd hy
    rw [List.drop_drop] at this
    exact ⟨k + 1, hR, this⟩
  | false =>
    rw [hy, if_neg (by decide)] at hR
    rw [if_neg (by decide)]
    exact ⟨k, hR, hA⟩
/-- Reading a number. -/
theorem inum_any (B g mb mc : Nat) (s : ByteArray) (M : List (Int × Int)) (a : Nat) (out : List (Int × Int)) (hG : Gl g) (hs : s.size ≤ 1048576) (hM : M.length ≤ 1048576) (ho : out.length ≤ 1048576) (ha : a < s.size) (h1 : (isD (s.data.toList.getD a 0) || s.data.toList.getD a 0 == 45) = true) :
    IReads 125 #[.pointer (some ⟨g, 0, none⟩)] B g mb mc s M a out (numR s.data.toList a out) := by
  intro W k hE hR hA
  have hkM := drop_lt' hA
  have hat := hA.at.1
  have h45 := hA.is 45 (by decide)
  rw [drop_getD] at hat h45
  have hsl : s.data.toList.length = s.size := size_list s
  unfold numR numEnd
  by_cases hm : s.data.toList.getD a 0 = 45
  · rw [if_pos hm]
    have hy : byteIs s.data.toList a 45 = true := by unfold byteIs; rw [decide_eq_true (by omega), hm]; rfl
    rw [hy] at h45
    have hA1 := hA.next 45 (by decide) (by decide) hy
    rw [List.drop_drop] at hA1
    have hk1 := drop_lt' hA1
    have hd := hA1.dig
    rw [drop_getD] at hd
    cases hD : isD (s.data.toList.getD (a + 1) 0) with
    | false =>
      rw [hD] at hd
      rw [dig_no _ _ hD, show a + 1 - a = 1 from by omega]
      have hno : numOf ((s.data.toList.drop a).take 1) = none := by
        cases hq : numOf ((s.data.toList.drop a).take 1) with
        | none => rfl
        | some n =>
          obtain ⟨_, q2⟩ := numOf_some hq
          have q3 : (s.data.toList.drop a).take 1 = [45] := by
            have := seg8_one s.data.toList a (by omega)
            unfold seg8 at this
            rw [show a + 1 - a = 1 from by omega, hm] at this
            exact this
          rw [q3] at q2
          exfalso
          rcases itoa_shape n with ⟨u, e⟩ | ⟨u, e⟩
          · rw [e] at q2
            exact dec_ne u (List.cons.inj q2).2
          · rw [e] at q2
            have := dec_dig u 45 (by rw [q2]; exact List.mem_singleton.2 rfl)
            unfold IsDig at this
            exact absurd this.1 (by decide)
      rw [hno]
      simp only []
      rw [if_pos (by rw [hm]; simp)]
      refine (inum_neg_bare W B g mb mc s M k out hR hE hG hs hM ho (k + 1) rfl h45 hk1 hd).mono ?_
      rintro e w' ⟨rfl, hR', hb⟩
      exact ⟨rfl, ⟨k + 1, out, hR', hA1, fun h => by cases h⟩, hb⟩
    | true =>
      rw [hD] at hd
      have hA2 := hA1.nextDig hD
      rw [List.drop_drop] at hA2
      have hk2 := drop_lt' hA2
      have hE2 := hA2.at.1
      rw [drop_getD] at hE2
      have hE3 := hA2.le
      have hge := dig_ge s.data.toList (a + 1)
      have hgt : a + 1 < digEnd s.data.toList (a + 1) := by rw [dig_yes _ _ hD]; have := dig_ge s.data.toList (a + 1 + 1); omega
      generalize digEnd s.data.toList (a + 1) = E at hA2 hE2 hE3 hge hgt ⊢
      cases hq : numOf ((s.data.toList.drop a).take (E - a)) with
      | none =>
        simp only []
        rw [if_neg (by simp; omega)]
        refine (inum_neg_none W B g mb mc s M k out hR hE hG hs hM ho (k + 1) rfl (k + 1 + 1) rfl h45 hk2 hd a E hat hE2 (by omega) (by omega) (numOf_none hq)).mono ?_
        rintro e w' ⟨rfl, hR', hb⟩
        exact ⟨rfl, ⟨k, out, hR', hA, fun h => by cases h⟩, hb⟩
      | some n =>
        obtain ⟨q1, q2⟩ := numOf_some hq
        refine (inum_neg_some W B g mb mc s M k out hR hE hG hs hM ho (k + 1) rfl (k + 1 + 1) rfl h45 hk2 hd a E hat hE2 (by omega) (by omega) n q1 q2).mono ?_
        rintro e w' ⟨rfl, hR', hb⟩
        exact ⟨rfl, ⟨k + 1 + 1, _, hR', hA2, fun _ => rfl⟩, hb⟩
  · rw [if_neg hm]
    have hD : isD (s.data.toList.getD a 0) = true := by rw [beq_eq_false_iff_ne.2 hm, Bool.or_false] at h1; exact h1
    have hy : byteIs s.data.toList a 45 = false := by unfold byteIs; rw [beq_eq_false_iff_ne.2 hm, Bool.and_false]
    rw [hy] at h45
    have hd := hA.dig
    rw [drop_getD, hD] at hd
    have hA2 := hA.nextDig hD
    rw [List.drop_drop] at hA2
    have hk2 := drop_lt' hA2
    have hE2 := hA2.at.1
    rw [drop_getD] at hE2
    have hE3 := hA2.le
    have hge := dig_ge s.data.toList a
    generalize digEnd s.data.toList a = E at hA2 hE2 hE3 hge ⊢
    cases hq : numOf ((s.data.toList.drop a).take (E - a)) with
    | none =>
      simp only []
      rw [if_neg (by rw [beq_eq_false_iff_ne.2 hm]; simp)]
      refine (inum_pos_none W B g mb mc s M k out hR hE hG hs hM ho (k + 1) rfl h45 hk2 hd a E hat hE2 (by omega) (by omega) (numOf_none hq)).mono ?_
      rintro e w' ⟨rfl, hR', hb⟩
      exact ⟨rfl, ⟨k, out, hR', hA, fun h => by cases h⟩, hb⟩
    | some n =>
      obtain ⟨q1, q2⟩ := numOf_some hq
      refine (inum_pos_some W B g mb mc s M k out hR hE hG hs hM ho (k + 1) rfl h45 hk2 hd a E hat hE2 (by omega) (by omega) n q1 q2).mono ?_
      rintro e w' ⟨rfl, hR', hb⟩
      exact ⟨rfl, ⟨k + 1, _, hR', hA2, fun _ => rfl⟩, hb⟩
/-- Reading a variable. -/
theorem ivar_yes (B g mb mc : Nat) (s : ByteArray) (M : List (Int × Int)) (a : Nat) (out : List (Int × Int)) (hM : M.length ≤ 1048576) (ho : out.length ≤ 1048576) (ha : a < s.size) (h1 : 97 ≤ (s.data.toList.getD a 0).toNat ∧ (s.data.toList.getD a 0).toNat < 101) :
    IReads 126 #[.pointer (some ⟨g, 0, none⟩)] B g mb mc s M a out (true, a + 1, out ++ [(2, (((s.data.toList.getD a 0).toNat - 97 : Nat) : Int))]) := by
  intro W k hE hR hA
  have hkM := drop_lt' hA
  have hsl : s.data.toList.length = s.size := size_list s
  obtain ⟨b, hb⟩ : ∃ b, s.data.toList.getD a 0 = b := ⟨_, rfl⟩
  have hb7 : b.toNat < 128 := by rw [hb] at h1; omega
  have hy : byteIs s.data.toList a b = true := by unfold byteIs; rw [decide_eq_true (by omega), hb]; simp
  have hx := hA.is b hb7
  rw [drop_getD, hy, beq_iff_eq] at hx
  rw [hb] at h1 ⊢
  have hd : isD b = false := by unfold isD; exact decide_eq_false (by omega)
  have hA1 := hA.next b hb7 hd hy
  rw [List.drop_drop] at hA1
  obtain ⟨v, hv⟩ : ∃ v, b.toNat = 97 + v := ⟨b.toNat - 97, by omega⟩
  rw [hv, show 97 + v - 97 = v from by omega]
  rw [hv] at hx
  have fin : ∀ e w', (e = Ending.returned (.bool true) ∧ IRdr w' B g mb mc s M (k + 1) (out ++ [(2, (v : Int))]) ∧ Below g W w') → e = .returned (.bool true) ∧ ILeft w' B g mb mc s M (true, a + 1, out ++ [(2, (v : Int))]) ∧ Below g W w' := fun e w' ⟨h1, h2, h3⟩ => ⟨h1, ⟨k + 1, _, h2, hA1, fun _ => rfl⟩, h3⟩
  rcases (show v = 0 ∨ v = 1 ∨ v = 2 ∨ v = 3 by omega) with rfl | rfl | rfl | rfl
  · exact (ivar_0 W B g mb mc s M k out hR hkM hM ho hx).mono fin
  · exact (ivar_1 W B g mb mc s M k out hR hkM hM ho hx).mono fin
  · exact (ivar_2 W B g mb mc s M k out hR hkM hM ho hx).mono fin
  · exact (ivar_3 W B g mb mc s M k out hR hkM hM ho hx).mono fin
theorem ivar_none (B g mb mc : Nat) (s : ByteArray) (M : List (Int × Int)) (a : Nat) (out : List (Int × Int)) (hM : M.length ≤ 1048576) (ho : out.length ≤ 1048576) (h1 : a < s.size → ¬ (97 ≤ (s.data.toList.getD a 0).toNat ∧ (s.data.toList.getD a 0).toNat < 101)) :
    IReads 126 #[.pointer (some ⟨g, 0, none⟩)] B g mb mc s M a out (false, a, out) := by
  intro W k hE hR hA
  have hsl : s.data.toList.length = s.size := size_list s
  refine (ivar_no W B g mb mc s M k out hR (drop_lt' hA) hM ho ?_).mono fun e w' ⟨h1, h2, h3⟩ => ⟨h1, ⟨k, out, h2, hA, fun h => by cases h⟩, h3⟩
  intro i hi e
  have hx := hA.is (UInt8.ofNat (97 + i)) (by rw [UInt8.toNat_ofNat']; omega)
  rw [drop_getD, e, UInt8.toNat_ofNat', show (97 + i) % 2 ^ 8 = 97 + i from by omega, show (((97 : Int) + i) == ((97 + i : Nat) : Int)) = true from by simp] at hx
  obtain ⟨x1, x2⟩ := byteIs_iff hx.symm
  refine h1 (by omega) ?_
  rw [x2, UInt8.toNat_ofNat', show (97 + i) % 2 ^ 8 = 97 + i from by omega]
  omega
end Go.Proofs.YtkadanagmahhgaaGreatDoor
namespace Go.Proofs.YtkadanagmahhgaaGreatDoor
open Go.ChangeShapes Go.WideShapes Go.ChangeAt Go.RowKit
set_option linter.unusedVariables false

variable {B g mb mc : Nat} {s : ByteArray} {M : List (Int × Int)}
/-- What reading a part does, with so much fuel. -/
def IPart (B g mb mc : Nat) (s : ByteArray) (M : List (Int × Int)) (f : Nat) : Prop := ∀ (a : Nat) (out : List (Int × Int)), s.size < a + f → a ≤ s.size → out.length ≤ a → IReads 93 #[.pointer (some ⟨g, 0, none⟩)] B g mb mc s M a out (readT s.data.toList f a out)
/-- A call that reads, as a hypothesis that the walk does not look into. -/
theorem IReads.call {f : FuncId} {args : Array Value} {a : Nat} {out : List (Int × Int)} {R : Rd} (h : IReads f args B g mb mc s M a out R) : Hid (∀ W k, Env W → IRdr W B g mb mc s M k out → MkAt s.data.toList (M.drop k) a → Calls Tryz.prog f args W fun e w' => e = .returned (.bool R.1) ∧ ILeft w' B g mb mc s M R ∧ Below g W w') := h
theorem iput {W : World} {k : Nat} {out : List (Int × Int)} (op n : Int) (h : IRdr W B g mb mc s M k out) (ho : out.length ≤ 1048576) : Hid (Calls Tryz.prog 146 #[.pointer (some ⟨g, 0, none⟩), .int .i64 op, .int .i64 n] W fun e w' => (∃ u, e = .returned u) ∧ IRdr w' B g mb mc s M k (out ++ [(op, n)]) ∧ Below g W w') := put_any W B g mb mc s M k out op n h ho

theorem ineg (hG : Gl g) (hs : s.size ≤ 1048000) (f : Nat) (IH : IPart B g mb mc s M f) (a : Nat) (out : List (Int × Int)) (hf : s.size < a + f) (ha : a ≤ s.size) (ho : out.length ≤ a) :
    IReads 123 #[.pointer (some ⟨g, 0, none⟩)] B g mb mc s M a out ((readT s.data.toList f a out).1, (readT s.data.toList f a out).2.1, (readT s.data.toList f a out).2.2 ++ [(3, 0)]) := by
  intro W k hE hR hA
  have HC := (IH a out hf ha ho).call
  have hp := part_ok s.data.toList f a out (by rw [size_list]; exact ha) ho
  rw [size_list] at hp
  generalize readT s.data.toList f a out = R at HC hp ⊢
  obtain ⟨b, p, nn⟩ := R
  simp only at hp
  have HC' := (show Hid _ from HC.out W k hE hR hA)
  clear HC hR
  cases b with
  | false =>
    go_enter Tryz.func123, Tryz.ntmps123
    go_wp2_with fail
    refine Calls.mono HC'.out ?_
    rintro e w1 ⟨rfl, hL, hb1⟩
    clear HC'
    go_wp2
    go_ret
    obtain ⟨k1, o1, r1, r2, _⟩ := hL
    exact ⟨rfl, ⟨k1, o1, r1, r2, fun h => by cases h⟩, hb1⟩
  | true =>
    go_enter Tryz.func123, Tryz.ntmps123
    go_wp2_with fail
    refine Calls.mono HC'.out ?_
    rintro e w1 ⟨rfl, ⟨k1, o1, r1, r2, r3⟩, hb1⟩
    obtain rfl := r3 rfl
    have HP := iput 3 0 r1 (by omega)
    clear HC'
    go_wp2_with fail
    refine Calls.mono HP.out ?_
    rintro e w2 ⟨⟨u, rfl⟩, hR2, hb2⟩
    go_wp2
    go_ret
    exact ⟨rfl, ⟨k1, _, hR2, r2, fun _ => rfl⟩, hb1.trans hb2⟩

/-- A part, and a byte behind it. -/
theorem ithen (hG : Gl g) (hM : M.length ≤ 1048576) (f : Nat) (IH : IPart B g mb mc s M f) (a : Nat) (out : List (Int × Int)) (hf : s.size < a + f) (ha : a ≤ s.size) (ho : out.length ≤ a) (c : UInt8) (hc : c.toNat < 128) (hd : isD c = false) (W : World) (k : Nat) (hE : Env W) (hR : IRdr W B g mb mc s M k out) (hA : MkAt s.data.toList (M.drop k) a) :
    Hid (Calls Tryz.prog 93 #[.pointer (some ⟨g, 0, none⟩)] W fun e w' => Below g W w' ∧ ((e = .returned (.bool false) ∧ (thenB s.data.toList c (readT s.data.toList f a out)).1 = false ∧ ILeft w' B g mb mc s M (thenB s.data.toList c (readT s.data.toList f a out))) ∨
      (e = .returned (.bool true) ∧ Hid (Calls Tryz.prog 122 #[.pointer (some ⟨g, 0, none⟩), .int .i32 (c.toNat : Int)] w' fun e w'' => e = .returned (.bool (thenB s.data.toList c (readT s.data.toList f a out)).1) ∧ ILeft w'' B g mb mc s M (thenB s.data.toList c (readT s.data.toList f a out)) ∧ Below g w' w'')))) := by
  refine ((IH a out hf ha ho) W k hE hR hA).mono ?_
  rintro e w' ⟨rfl, ⟨k1, o1, r1, r2, r3⟩, hb⟩
  refine ⟨hb, ?_⟩
  unfold thenB
  cases hb1 : (readT s.data.toList f a out).1 with
  | false =>
    rw [if_neg (by decide)]
    exact .inl ⟨rfl, hb1, k1, o1, r1, r2, fun h => by rw [hb1] at h; cases h⟩
  | true =>
    rw [if_pos rfl]
    obtain rfl := r3 hb1
    refine .inr ⟨rfl, (ipass c hc hd r1 r2 hM).mono ?_⟩
    rintro e w'' ⟨rfl, ⟨k2, q1, q2⟩, hb2⟩
    cases hy : byteIs s.data.toList (readT s.data.toList f a out).2.1 c with
    | true =>
      rw [hy, if_pos rfl] at q2
      rw [if_pos rfl]
      exact ⟨rfl, ⟨k2, _, q1, q2, fun _ => rfl⟩, hb2⟩
    | false =>
      rw [hy, if_neg (by decide)] at q2
      rw [if_neg (by decide)]
      exact ⟨rfl, ⟨k2, _, q1, q2, fun _ => rfl⟩, hb2⟩

theorem ilast (hG : Gl g) (hM : M.length ≤ 1048576) (hs : s.size ≤ 1048000) (f : Nat) (IH : IPart B g mb mc s M f) (op : Int) (a : Nat) (out : List (Int × Int)) (hf : s.size < a + f) (ha : a ≤ s.size) (ho : out.length ≤ a) :
    IReads 149 #[.pointer (some ⟨g, 0, none⟩), .int .i64 op] B g mb mc s M a out (lastR s.data.toList f op a out) := by
  intro W k hE hR hA
  have HC := ithen hG hM f IH a out hf ha ho 41 (by decide) (by decide) W k hE hR hA
  have hp := then_ok s.data.toList f a 41 out (by rw [size_list]; exact ha) ho
  rw [size_list] at hp
  unfold lastR
  simp only []
  generalize thenB s.data.toList 41 (readT s.data.toList f a out) = R at HC hp ⊢
  obtain ⟨b, p, nn⟩ := R
  simp only at hp HC ⊢
  clear hR
  go_enter Tryz.func149, Tryz.ntmps149
  go_wp2_with fail
  refine Calls.mono HC.out ?_
  rintro e w1 ⟨hb1, ⟨rfl, rfl, hL⟩ | ⟨rfl, HP⟩⟩
  · clear HC
    go_wp2
    go_ret
    exact ⟨rfl, hL, hb1⟩
  · clear HC
    go_wp2_with fail
    refine Calls.mono HP.out ?_
    rintro e w2 ⟨rfl, hL, hb2⟩
    have hB2 := hb1.trans hb2
    clear HP hb1 hb2
    cases b with
    | false =>
      go_wp2
      go_ret
      exact ⟨rfl, hL, hB2⟩
    | true =>
      obtain ⟨k1, o1, r1, r2, r3⟩ := hL
      obtain rfl := r3 rfl
      have HQ := iput op 0 r1 (by have := hp.2.2; omega)
      go_wp2_with fail
      refine Calls.mono HQ.out ?_
      rintro e w3 ⟨⟨u, rfl⟩, hR3, hb3⟩
      go_wp2
      go_ret
      exact ⟨rfl, ⟨k1, _, hR3, r2, fun _ => rfl⟩, hB2.trans hb3⟩

theorem isides (hG : Gl g) (hM : M.length ≤ 1048576) (hs : s.size ≤ 1048000) (f : Nat) (IH : IPart B g mb mc s M f) (a : Nat) (out : List (Int × Int)) (hf : s.size < a + f) (ha : a ≤ s.size) (ho : out.length ≤ a) :
    IReads 147 #[.pointer (some ⟨g, 0, none⟩)] B g mb mc s M a out (sidesR s.data.toList f a out) := by
  intro W k hE hR hA
  have HC := ithen hG hM f IH a out hf ha ho 58 (by decide) (by decide) W k hE hR hA
  have hp := then_ok s.data.toList f a 58 out (by rw [size_list]; exact ha) ho
  rw [size_list] at hp
  unfold sidesR
  simp only []
  generalize thenB s.data.toList 58 (readT s.data.toList f a out) = R at HC hp ⊢
  obtain ⟨b, p, nn⟩ := R
  simp only at hp HC ⊢
  have HL := (ilast hG hM hs f IH 11 p nn (by omega) (by omega) hp.2.2).call
  have HE : Hid (Env W) := hE
  clear hR
  generalize lastR s.data.toList f 11 p nn = RL at HL ⊢
  go_enter Tryz.func147, Tryz.ntmps147
  go_wp2_with fail
  refine Calls.mono HC.out ?_
  rintro e w1 ⟨hb1, ⟨rfl, rfl, hL⟩ | ⟨rfl, HP⟩⟩
  · clear HC
    go_wp2
    go_ret
    exact ⟨rfl, hL, hb1⟩
  · clear HC
    go_wp2_with fail
    refine Calls.mono HP.out ?_
    rintro e w2 ⟨rfl, hL, hb2⟩
    have hB2 := hb1.trans hb2
    clear HP hb1 hb2
    cases b with
    | false =>
      go_wp2
      go_ret
      exact ⟨rfl, hL, hB2⟩
    | true =>
      obtain ⟨k1, o1, r1, r2, r3⟩ := hL
      obtain rfl := r3 rfl
      have HQ := (show Hid _ from HL.out w2 k1 (HE.out.keepG hG hB2) r1 r2)
      clear HL
      go_wp2_with fail
      refine Calls.mono HQ.out ?_
      rintro e w3 ⟨rfl, hL3, hb3⟩
      go_wp2
      go_ret
      exact ⟨rfl, hL3, hB2.trans hb3⟩
theorem iinside (hG : Gl g) (hM : M.length ≤ 1048576) (hs : s.size ≤ 1048000) (f : Nat) (IH : IPart B g mb mc s M f) (a : Nat) (out : List (Int × Int)) (hf : s.size < a + f) (ha : a ≤ s.size) (ho : out.length ≤ a) :
    IReads 124 #[.pointer (some ⟨g, 0, none⟩)] B g mb mc s M a out (insideR s.data.toList f a out) := by
  intro W k hE hR hA
  have HC := (show Hid _ from IH a out hf ha ho W k hE hR hA)
  have hp := part_ok s.data.toList f a out (by rw [size_list]; exact ha) ho
  rw [size_list] at hp
  unfold insideR
  simp only []
  generalize readT s.data.toList f a out = R at HC hp ⊢
  obtain ⟨b, p, nn⟩ := R
  simp only at hp HC ⊢
  have HE : Hid (Env W) := hE
  clear hR
  cases b with
  | false =>
    go_enter Tryz.func124, Tryz.ntmps124
    go_wp2_with fail
    refine Calls.mono HC.out ?_
    rintro e w1 ⟨rfl, hL, hb1⟩
    clear HC
    go_wp2
    go_ret
    exact ⟨rfl, hL, hb1⟩
  | true =>
    rw [if_neg (by decide)]
    have HP : Hid (∀ w1 k1, IRdr w1 B g mb mc s M k1 nn → MkAt s.data.toList (M.drop k1) p → Calls Tryz.prog 122 #[.pointer (some ⟨g, 0, none⟩), .int .i32 63] w1 fun e w' => e = .returned (.bool (byteIs s.data.toList p 63)) ∧ (∃ k', IRdr w' B g mb mc s M k' nn ∧ MkAt s.data.toList (M.drop k') (if byteIs s.data.toList p 63 = true then p + 1 else p)) ∧ Below g w1 w') := fun w1 k1 r1 r2 => ipass 63 (by decide) (by decide) r1 r2 hM
    cases hq : byteIs s.data.toList p 63 with
    | true =>
      rw [hq] at HP
      rw [if_pos rfl] at HP ⊢
      have HL := (isides hG hM hs f IH (p + 1) nn (by omega) (by have := (byteIs_iff hq).1; rw [size_list] at this; omega) (by omega)).call
      clear hq
      generalize sidesR s.data.toList f (p + 1) nn = RL at HL ⊢
      go_enter Tryz.func124, Tryz.ntmps124
      go_wp2_with fail
      refine Calls.mono HC.out ?_
      rintro e w1 ⟨rfl, ⟨k1, o1, r1, r2, r3⟩, hb1⟩
      obtain rfl := r3 rfl
      have HP2 := (show Hid _ from HP.out w1 k1 r1 r2)
      clear HC HP r2 r1 r3
      go_wp2_with fail
      refine Calls.mono HP2.out ?_
      rintro e w2 ⟨rfl, ⟨k2, q1, q2⟩, hb2⟩
      have hB2 := hb1.trans hb2
      have HQ := (show Hid _ from HL.out w2 k2 (HE.out.keepG hG hB2) q1 q2)
      clear HL HP2
      go_wp2_with fail
      refine Calls.mono HQ.out ?_
      rintro e w3 ⟨rfl, hL3, hb3⟩
      go_wp2
      go_ret
      exact ⟨rfl, hL3, hB2.trans hb3⟩
    | false =>
      rw [hq] at HP
      rw [if_neg (by decide)] at HP ⊢
      clear hq
      have HS : Hid (∀ w2 k2, Env w2 → IRdr w2 B g mb mc s M k2 nn → MkAt s.data.toList (M.drop k2) p → Calls Tryz.prog 148 #[.pointer (some ⟨g, 0, none⟩)] w2 fun e w' => e = .returned (.tuple #[.int .i64 (twoR s.data.toList p).1, .bool (decide ((twoR s.data.toList p).1 ≠ 0))]) ∧ (∃ k', IRdr w' B g mb mc s M k' nn ∧ MkAt s.data.toList (M.drop k') (twoR s.data.toList p).2) ∧ Below g w2 w') := fun w2 k2 e2 q1 q2 => isign_any w2 B g mb mc s M k2 p nn q1 e2 hG hM q2
      have hT := two_cases s.data.toList p (by rw [size_list]; omega)
      rw [size_list] at hT
      generalize twoR s.data.toList p = T at HS hT ⊢
      obtain ⟨op, at2⟩ := T
      simp only at HS hT ⊢
      by_cases h0 : op = 0
      · subst h0
        rw [if_pos rfl]
        rw [show decide ((0 : Int) ≠ 0) = false from rfl] at HS
        clear hT
        go_enter Tryz.func124, Tryz.ntmps124
        go_wp2_with fail
        refine Calls.mono HC.out ?_
        rintro e w1 ⟨rfl, ⟨k1, o1, r1, r2, r3⟩, hb1⟩
        obtain rfl := r3 rfl
        have HP2 := (show Hid _ from HP.out w1 k1 r1 r2)
        clear HC HP r2 r1 r3
        go_wp2_with fail
        refine Calls.mono HP2.out ?_
        rintro e w2 ⟨rfl, ⟨k2, q1, q2⟩, hb2⟩
        have hB2 := hb1.trans hb2
        have HS2 := (show Hid _ from HS.out w2 k2 (HE.out.keepG hG hB2) q1 q2)
        clear HP2 HS
        go_wp2_with fail
        refine Calls.mono HS2.out ?_
        rintro e w3 ⟨rfl, ⟨k3, t1, t2⟩, hb3⟩
        clear HS2
        go_wp2
        go_ret
        exact ⟨rfl, ⟨k3, _, t1, t2, fun h => by cases h⟩, hB2.trans hb3⟩
      · rw [if_neg h0]
        rcases hT with ⟨e0, _⟩ | ⟨_, _, t3, t4, _⟩
        · exact absurd e0 h0
        have hdec : decide (op ≠ 0) = true := decide_eq_true h0
        rw [hdec] at HS
        have HL := (ilast hG hM hs f IH op at2 nn (by omega) (by omega) (by omega)).call
        clear h0 hdec
        generalize lastR s.data.toList f op at2 nn = RL at HL ⊢
        go_enter Tryz.func124, Tryz.ntmps124
        go_wp2_with fail
        refine Calls.mono HC.out ?_
        rintro e w1 ⟨rfl, ⟨k1, o1, r1, r2, r3⟩, hb1⟩
        obtain rfl := r3 rfl
        have HP2 := (show Hid _ from HP.out w1 k1 r1 r2)
        clear HC HP r2 r1 r3
        go_wp2_with fail
        refine Calls.mono HP2.out ?_
        rintro e w2 ⟨rfl, ⟨k2, q1, q2⟩, hb2⟩
        have hB2 := hb1.trans hb2
        have HS2 := (show Hid _ from HS.out w2 k2 (HE.out.keepG hG hB2) q1 q2)
        clear HP2 HS
        go_wp2_with fail
        refine Calls.mono HS2.out ?_
        rintro e w3 ⟨rfl, ⟨k3, t1, t2⟩, hb3⟩
        have hB3 := hB2.trans hb3
        have HQ := (show Hid _ from HL.out w3 k3 (HE.out.keepG hG hB3) t1 t2)
        clear HS2 HL
        go_wp2_with fail
        refine Calls.mono HQ.out ?_
        rintro e w4 ⟨rfl, hL4, hb4⟩
        go_wp2
        go_ret
        exact ⟨rfl, hL4, hB3.trans hb4⟩
end Go.Proofs.YtkadanagmahhgaaGreatDoor
namespace Go.Proofs.YtkadanagmahhgaaGreatDoor
open Go.ChangeShapes Go.WideShapes Go.ChangeAt Go.RowKit
set_option linter.unusedVariables false
variable {B g mb mc : Nat} {s : ByteArray} {M : List (Int × Int)}

theorem ipart_neg (hG : Gl g) (hM : M.length ≤ 1048576) (a : Nat) (out : List (Int × Int)) (R : Rd) (hy : byteIs s.data.toList a 126 = true) (HS : IReads 123 #[.pointer (some ⟨g, 0, none⟩)] B g mb mc s M (a + 1) out R) :
    IReads 93 #[.pointer (some ⟨g, 0, none⟩)] B g mb mc s M a out R := by
  intro W k hE hR hA
  have HE : Hid (Env W) := hE
  have HL := HS.call
  have HP := (show Hid _ from ipass 126 (by decide) (by decide) hR hA hM)
  rw [hy, if_pos rfl] at HP
  clear hR hA hE HS hy
  go_enter Tryz.func93, Tryz.ntmps93
  go_wp2_with fail
  refine Calls.mono HP.out ?_
  rintro e w1 ⟨rfl, ⟨k1, q1, q2⟩, hb1⟩
  have hB := hb1
  clear HP
  have HQ := (show Hid _ from HL.out w1 k1 (HE.out.keepG hG hB) q1 q2)
  clear HL q1 q2
  go_wp2_with fail
  refine Calls.mono HQ.out ?_
  rintro e w3 ⟨rfl, hL3, hb3⟩
  go_wp2
  go_ret
  exact ⟨rfl, hL3, hB.trans hb3⟩
theorem ipart_open (hG : Gl g) (hM : M.length ≤ 1048576) (a : Nat) (out : List (Int × Int)) (R : Rd) (hn : byteIs s.data.toList a 126 = false) (hy : byteIs s.data.toList a 40 = true) (HS : IReads 124 #[.pointer (some ⟨g, 0, none⟩)] B g mb mc s M (a + 1) out R) :
    IReads 93 #[.pointer (some ⟨g, 0, none⟩)] B g mb mc s M a out R := by
  intro W k hE hR hA
  have HE : Hid (Env W) := hE
  have HL := HS.call
  have HP := (show Hid _ from ipass 126 (by decide) (by decide) hR hA hM)
  rw [hn, if_neg (by decide)] at HP
  have HP1 : Hid (∀ w1 k1, IRdr w1 B g mb mc s M k1 out → MkAt s.data.toList (M.drop k1) a → Calls Tryz.prog 122 #[.pointer (some ⟨g, 0, none⟩), .int .i32 40] w1 fun e w' => e = .returned (.bool (byteIs s.data.toList a 40)) ∧ (∃ k', IRdr w' B g mb mc s M k' out ∧ MkAt s.data.toList (M.drop k') (if byteIs s.data.toList a 40 = true then a + 1 else a)) ∧ Below g w1 w') := fun w1 k1 r1 r2 => ipass 40 (by decide) (by decide) r1 r2 hM
  rw [hy, if_pos rfl] at HP1
  clear hR hA hE HS hy hn
  go_enter Tryz.func93, Tryz.ntmps93
  go_wp2_with fail
  refine Calls.mono HP.out ?_
  rintro e w1 ⟨rfl, ⟨k1, q1, q2⟩, hb1⟩
  have HP2 := (show Hid _ from HP1.out w1 k1 q1 q2)
  clear HP HP1 q1 q2
  go_wp2_with fail
  refine Calls.mono HP2.out ?_
  rintro e w2 ⟨rfl, ⟨k1, q1, q2⟩, hb2⟩
  have hB := hb1.trans hb2
  clear HP2
  have HQ := (show Hid _ from HL.out w2 k1 (HE.out.keepG hG hB) q1 q2)
  clear HL q1 q2
  go_wp2_with fail
  refine Calls.mono HQ.out ?_
  rintro e w3 ⟨rfl, hL3, hb3⟩
  go_wp2
  go_ret
  exact ⟨rfl, hL3, hB.trans hb3⟩
set_option maxRecDepth 20000 in
theorem ipart_minus (hG : Gl g) (hM : M.length ≤ 1048576) (a : Nat) (out : List (Int × Int)) (R : Rd) (hn : byteIs s.data.toList a 126 = false) (hy : byteIs s.data.toList a 40 = false) (hm : byteIs s.data.toList a 45 = true) (HS : IReads 125 #[.pointer (some ⟨g, 0, none⟩)] B g mb mc s M a out R) :
    IReads 93 #[.pointer (some ⟨g, 0, none⟩)] B g mb mc s M a out R := by
  intro W k hE hR hA
  have HE : Hid (Env W) := hE
  have HL := HS.call
  have HP := (show Hid _ from ipass 126 (by decide) (by decide) hR hA hM)
  rw [hn, if_neg (by decide)] at HP
  have HP1 : Hid (∀ w1 k1, IRdr w1 B g mb mc s M k1 out → MkAt s.data.toList (M.drop k1) a → Calls Tryz.prog 122 #[.pointer (some ⟨g, 0, none⟩), .int .i32 40] w1 fun e w' => e = .returned (.bool (byteIs s.data.toList a 40)) ∧ (∃ k', IRdr w' B g mb mc s M k' out ∧ MkAt s.data.toList (M.drop k') (if byteIs s.data.toList a 40 = true then a + 1 else a)) ∧ Below g w1 w') := fun w1 k1 r1 r2 => ipass 40 (by decide) (by decide) r1 r2 hM
  rw [hy, if_neg (by decide)] at HP1
  have HX : Hid (∀ k1, MkAt s.data.toList (M.drop k1) a → ((M.getD k1 (0, 0)).2 == 45) = true) := fun k1 r => by have := r.is 45 (by decide); rw [drop_getD, hm] at this; exact this
  clear hR hA hE HS hy hn hm
  go_enter Tryz.func93, Tryz.ntmps93
  go_wp2_with fail
  refine Calls.mono HP.out ?_
  rintro e w1 ⟨rfl, ⟨k1, q1, q2⟩, hb1⟩
  have HP2 := (show Hid _ from HP1.out w1 k1 q1 q2)
  clear HP HP1 q1 q2
  go_wp2_with fail
  refine Calls.mono HP2.out ?_
  rintro e w2 ⟨rfl, ⟨k2, q1, q2⟩, hb2⟩
  have hB := hb1.trans hb2
  have hk2 := drop_lt' q2
  have c1 := q1.c1
  have c2 := q1.c2
  have m2 := (q1.mks k2 hk2).2
  have i1 : (k2 : Int) < M.length := by omega
  have hx := HX.out k2 q2
  have HC : Hid (∀ n, Calls Tryz.prog 94 #[.pointer (some ⟨g, 0, none⟩), .int .i32 45] (w2.drewN n) fun e w' => e = .returned (.bool ((M.getD k2 (0, 0)).2 == 45)) ∧ ∃ m, w' = (w2.drewN n).drewN m) := fun n => comes_any (w2.drewN n) B g mb mc s M k2 out 45 (q1.drewN n) hk2 hM
  have HD : Hid (∀ W, Calls Tryz.prog 121 #[.int .i32 (M.getD k2 (0, 0)).2] W fun e w' => e = .returned (.bool (decide (48 ≤ (M.getD k2 (0, 0)).2) && decide ((M.getD k2 (0, 0)).2 ≤ 57))) ∧ w' = W) := fun W => isDigit_any _ W
  rw [hx] at HC
  generalize (M.getD k2 (0, 0)).2 = x at m2 HD
  have HR2 : Hid (IRdr w2 B g mb mc s M k2 out) := q1
  have HA2 : Hid (MkAt s.data.toList (M.drop k2) a) := q2
  clear HP2 HX hx q1 q2 hk2 hb1 hb2
  go_wp2_with fail
  go_quiet (first | exact Calls.quiet_of (HC.out _) | exact Calls.quiet_of_same (HD.out _))
  have hR3 := HR2.out.drewN nq
  have hB3 := hB.trans (below_drewN g nq)
  have HQ := (show Hid _ from HL.out _ k2 (HE.out.keepG hG hB3) hR3 HA2.out)
  clear HL HC HD c1 c2 m2 hR3
  generalize w2.drewN nq = w3 at HQ hB3
  go_wp2_with fail
  refine Calls.mono HQ.out ?_
  rintro e w4 ⟨rfl, hL4, hb4⟩
  go_wp2
  go_ret
  exact ⟨rfl, hL4, hB3.trans hb4⟩
set_option maxRecDepth 20000 in
theorem ipart_digit (hG : Gl g) (hM : M.length ≤ 1048576) (a : Nat) (out : List (Int × Int)) (R : Rd) (hn : byteIs s.data.toList a 126 = false) (hy : byteIs s.data.toList a 40 = false) (hm : byteIs s.data.toList a 45 = false) (hd : isD (s.data.toList.getD a 0) = true) (HS : IReads 125 #[.pointer (some ⟨g, 0, none⟩)] B g mb mc s M a out R) :
    IReads 93 #[.pointer (some ⟨g, 0, none⟩)] B g mb mc s M a out R := by
  intro W k hE hR hA
  have HE : Hid (Env W) := hE
  have HL := HS.call
  have HP := (show Hid _ from ipass 126 (by decide) (by decide) hR hA hM)
  rw [hn, if_neg (by decide)] at HP
  have HP1 : Hid (∀ w1 k1, IRdr w1 B g mb mc s M k1 out → MkAt s.data.toList (M.drop k1) a → Calls Tryz.prog 122 #[.pointer (some ⟨g, 0, none⟩), .int .i32 40] w1 fun e w' => e = .returned (.bool (byteIs s.data.toList a 40)) ∧ (∃ k', IRdr w' B g mb mc s M k' out ∧ MkAt s.data.toList (M.drop k') (if byteIs s.data.toList a 40 = true then a + 1 else a)) ∧ Below g w1 w') := fun w1 k1 r1 r2 => ipass 40 (by decide) (by decide) r1 r2 hM
  rw [hy, if_neg (by decide)] at HP1
  have HX : Hid (∀ k1, MkAt s.data.toList (M.drop k1) a → ((M.getD k1 (0, 0)).2 == 45) = false ∧ (decide (48 ≤ (M.getD k1 (0, 0)).2) && decide ((M.getD k1 (0, 0)).2 ≤ 57)) = true) := fun k1 r => by have h1 := r.is 45 (by decide); have h2 := r.dig; rw [drop_getD] at h1 h2; rw [hm] at h1; rw [hd] at h2; exact ⟨h1, h2⟩
  clear hR hA hE HS hy hn hm hd
  go_enter Tryz.func93, Tryz.ntmps93
  go_wp2_with fail
  refine Calls.mono HP.out ?_
  rintro e w1 ⟨rfl, ⟨k1, q1, q2⟩, hb1⟩
  have HP2 := (show Hid _ from HP1.out w1 k1 q1 q2)
  clear HP HP1 q1 q2
  go_wp2_with fail
  refine Calls.mono HP2.out ?_
  rintro e w2 ⟨rfl, ⟨k2, q1, q2⟩, hb2⟩
  have hB := hb1.trans hb2
  have hk2 := drop_lt' q2
  have c1 := q1.c1
  have c2 := q1.c2
  have m2 := (q1.mks k2 hk2).2
  have i1 : (k2 : Int) < M.length := by omega
  have hx := HX.out k2 q2
  have HC : Hid (∀ n, Calls Tryz.prog 94 #[.pointer (some ⟨g, 0, none⟩), .int .i32 45] (w2.drewN n) fun e w' => e = .returned (.bool ((M.getD k2 (0, 0)).2 == 45)) ∧ ∃ m, w' = (w2.drewN n).drewN m) := fun n => comes_any (w2.drewN n) B g mb mc s M k2 out 45 (q1.drewN n) hk2 hM
  have HD : Hid (∀ W, Calls Tryz.prog 121 #[.int .i32 (M.getD k2 (0, 0)).2] W fun e w' => e = .returned (.bool (decide (48 ≤ (M.getD k2 (0, 0)).2) && decide ((M.getD k2 (0, 0)).2 ≤ 57))) ∧ w' = W) := fun W => isDigit_any _ W
  rw [hx.1] at HC
  rw [hx.2] at HD
  generalize (M.getD k2 (0, 0)).2 = x at m2 HD
  have HR2 : Hid (IRdr w2 B g mb mc s M k2 out) := q1
  have HA2 : Hid (MkAt s.data.toList (M.drop k2) a) := q2
  clear HP2 HX hx q1 q2 hk2 hb1 hb2
  go_wp2_with fail
  go_quiet (first | exact Calls.quiet_of (HC.out _) | exact Calls.quiet_of_same (HD.out _))
  have hR3 := HR2.out.drewN nq
  have hB3 := hB.trans (below_drewN g nq)
  have HQ := (show Hid _ from HL.out _ k2 (HE.out.keepG hG hB3) hR3 HA2.out)
  clear HL HC HD c1 c2 m2 hR3
  generalize w2.drewN nq = w3 at HQ hB3
  go_wp2_with fail
  refine Calls.mono HQ.out ?_
  rintro e w4 ⟨rfl, hL4, hb4⟩
  go_wp2
  go_ret
  exact ⟨rfl, hL4, hB3.trans hb4⟩
set_option maxRecDepth 20000 in
theorem ipart_else (hG : Gl g) (hM : M.length ≤ 1048576) (a : Nat) (out : List (Int × Int)) (R : Rd) (hn : byteIs s.data.toList a 126 = false) (hy : byteIs s.data.toList a 40 = false) (hm : byteIs s.data.toList a 45 = false) (hd : isD (s.data.toList.getD a 0) = false) (HS : IReads 126 #[.pointer (some ⟨g, 0, none⟩)] B g mb mc s M a out R) :
    IReads 93 #[.pointer (some ⟨g, 0, none⟩)] B g mb mc s M a out R := by
  intro W k hE hR hA
  have HE : Hid (Env W) := hE
  have HL := HS.call
  have HP := (show Hid _ from ipass 126 (by decide) (by decide) hR hA hM)
  rw [hn, if_neg (by decide)] at HP
  have HP1 : Hid (∀ w1 k1, IRdr w1 B g mb mc s M k1 out → MkAt s.data.toList (M.drop k1) a → Calls Tryz.prog 122 #[.pointer (some ⟨g, 0, none⟩), .int .i32 40] w1 fun e w' => e = .returned (.bool (byteIs s.data.toList a 40)) ∧ (∃ k', IRdr w' B g mb mc s M k' out ∧ MkAt s.data.toList (M.drop k') (if byteIs s.data.toList a 40 = true then a + 1 else a)) ∧ Below g w1 w') := fun w1 k1 r1 r2 => ipass 40 (by decide) (by decide) r1 r2 hM
  rw [hy, if_neg (by decide)] at HP1
  have HX : Hid (∀ k1, MkAt s.data.toList (M.drop k1) a → ((M.getD k1 (0, 0)).2 == 45) = false ∧ (decide (48 ≤ (M.getD k1 (0, 0)).2) && decide ((M.getD k1 (0, 0)).2 ≤ 57)) = false) := fun k1 r => by have h1 := r.is 45 (by decide); have h2 := r.dig; rw [drop_getD] at h1 h2; rw [hm] at h1; rw [hd] at h2; exact ⟨h1, h2⟩
  clear hR hA hE HS hy hn hm hd
  go_enter Tryz.func93, Tryz.ntmps93
  go_wp2_with fail
  refine Calls.mono HP.out ?_
  rintro e w1 ⟨rfl, ⟨k1, q1, q2⟩, hb1⟩
  have HP2 := (show Hid _ from HP1.out w1 k1 q1 q2)
  clear HP HP1 q1 q2
  go_wp2_with fail
  refine Calls.mono HP2.out ?_
  rintro e w2 ⟨rfl, ⟨k2, q1, q2⟩, hb2⟩
  have hB := hb1.trans hb2
  have hk2 := drop_lt' q2
  have c1 := q1.c1
  have c2 := q1.c2
  have m2 := (q1.mks k2 hk2).2
  have i1 : (k2 : Int) < M.length := by omega
  have hx := HX.out k2 q2
  have HC : Hid (∀ n, Calls Tryz.prog 94 #[.pointer (some ⟨g, 0, none⟩), .int .i32 45] (w2.drewN n) fun e w' => e = .returned (.bool ((M.getD k2 (0, 0)).2 == 45)) ∧ ∃ m, w' = (w2.drewN n).drewN m) := fun n => comes_any (w2.drewN n) B g mb mc s M k2 out 45 (q1.drewN n) hk2 hM
  have HD : Hid (∀ W, Calls Tryz.prog 121 #[.int .i32 (M.getD k2 (0, 0)).2] W fun e w' => e = .returned (.bool (decide (48 ≤ (M.getD k2 (0, 0)).2) && decide ((M.getD k2 (0, 0)).2 ≤ 57))) ∧ w' = W) := fun W => isDigit_any _ W
  rw [hx.1] at HC
  rw [hx.2] at HD
  generalize (M.getD k2 (0, 0)).2 = x at m2 HD
  have HR2 : Hid (IRdr w2 B g mb mc s M k2 out) := q1
  have HA2 : Hid (MkAt s.data.toList (M.drop k2) a) := q2
  clear HP2 HX hx q1 q2 hk2 hb1 hb2
  go_wp2_with fail
  go_quiet (first | exact Calls.quiet_of (HC.out _) | exact Calls.quiet_of_same (HD.out _))
  have hR3 := HR2.out.drewN nq
  have hB3 := hB.trans (below_drewN g nq)
  have HQ := (show Hid _ from HL.out _ k2 (HE.out.keepG hG hB3) hR3 HA2.out)
  clear HL HC HD c1 c2 m2 hR3
  generalize w2.drewN nq = w3 at HQ hB3
  go_wp2_with fail
  refine Calls.mono HQ.out ?_
  rintro e w4 ⟨rfl, hL4, hb4⟩
  go_wp2
  go_ret
  exact ⟨rfl, hL4, hB3.trans hb4⟩
theorem ipart_any (hG : Gl g) (hM : M.length ≤ 1048576) (hs : s.size ≤ 1048000) : ∀ f, IPart B g mb mc s M f := by
  intro f
  induction f with
  | zero => intro a out hf ha ho; omega
  | succ f ih =>
    intro a out hf ha ho
    have hsl : s.data.toList.length = s.size := size_list s
    by_cases hlt : a < s.size
    · obtain ⟨b, hb⟩ : ∃ b, s.data.toList.getD a 0 = b := ⟨_, rfl⟩
      have hby : ∀ c, byteIs s.data.toList a c = (b == c) := fun c => by unfold byteIs; rw [decide_eq_true (by omega), hb]; simp
      by_cases h126 : b = 126
      · rw [read_neg (by omega) (by rw [hb, h126])]
        exact ipart_neg hG hM a out _ (by rw [hby, h126]; rfl) (ineg hG hs f ih (a + 1) out (by omega) (by omega) (by omega))
      have n126 : byteIs s.data.toList a 126 = false := by rw [hby]; simpa using h126
      by_cases h40 : b = 40
      · rw [read_open (by omega) (by rw [hb, h40])]
        exact ipart_open hG hM a out _ n126 (by rw [hby, h40]; rfl) (iinside hG hM hs f ih (a + 1) out (by omega) (by omega) (by omega))
      have n40 : byteIs s.data.toList a 40 = false := by rw [hby]; simpa using h40
      by_cases h45 : b = 45
      · rw [read_num (by omega) (by rw [hb, h45]; rfl)]
        exact ipart_minus hG hM a out _ n126 n40 (by rw [hby, h45]; rfl) (inum_any B g mb mc s M a out hG (by omega) hM (by omega) hlt (by rw [hb, h45]; rfl))
      have n45 : byteIs s.data.toList a 45 = false := by rw [hby]; simpa using h45
      cases hD : isD b with
      | true =>
        rw [read_num (by omega) (by rw [hb, hD]; rfl)]
        exact ipart_digit hG hM a out _ n126 n40 n45 (by rw [hb]; exact hD) (inum_any B g mb mc s M a out hG (by omega) hM (by omega) hlt (by rw [hb, hD]; rfl))
      | false =>
        by_cases hv : 97 ≤ b.toNat ∧ b.toNat < 101
        · rw [read_var (by omega) (by rw [hb]; exact hv)]
          exact ipart_else hG hM a out _ n126 n40 n45 (by rw [hb]; exact hD) (ivar_yes B g mb mc s M a out hM (by omega) hlt (by rw [hb]; exact hv))
        · rw [read_bad (by omega) (by rw [hb, hD]; simpa using h45) (by rw [hb]; exact hv) (by rw [hb]; exact h126) (by rw [hb]; exact h40)]
          exact ipart_else hG hM a out _ n126 n40 n45 (by rw [hb]; exact hD) (ivar_none B g mb mc s M a out hM (by omega) (fun _ => by rw [hb]; exact hv))
    · obtain rfl : a = s.size := by omega
      rw [read_end hsl.symm]
      have hz : ∀ c, byteIs s.data.toList s.size c = false := fun c => by unfold byteIs; rw [decide_eq_false (by omega)]; rfl
      exact ipart_else hG hM _ out _ (hz 126) (hz 40) (hz 45) (by rw [List.getD_eq_getElem?_getD, List.getElem?_eq_none (by omega)]; decide) (ivar_none B g mb mc s M _ out hM (by omega) (fun h => by omega))
end Go.Proofs.YtkadanagmahhgaaGreatDoor
