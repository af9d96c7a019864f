/-
  PROVED HERE: that the program's reading of a part is the plain reading, whatever the text. The tables are laid. No other condition.
-/
import Derived.Test.YtfadclakedfjkaaDoorIReadAll
namespace Go.Proofs.YtfadclakedfjkaaDoor
open Go.ChangeShapes Go.WideShapes Go.ChangeAt Go.RowKit
set_option linter.unusedVariables false
variable {B g mb mc : Nat} {s : ByteArray} {M : List (Int × Int)}

theorem ipart_neg (hG : Gl g) (hM : M.length ≤ 1048576) (a : Nat) (out : List (Int × Int)) (R : Rd) (hy : byteIs s.data.toList a 126 = true) (HS : IReads 51 #[.pointer (some ⟨g, 0, none⟩)] B g mb mc s M (a + 1) out R) :
    IReads 29 #[.pointer (some ⟨g, 0, none⟩)] B g mb mc s M a out R := by
  intro W k hE hR hA
  have HE : Hid (Env W) := hE
  have HL := HS.call
  have HP := (show Hid _ from ipass 126 (by decide) (by decide) hR hA hM)
  rw [hy, if_pos rfl] at HP
  clear hR hA hE HS hy
  go_enter Tryd.func29, Tryd.ntmps29
  go_wp2_with fail
  refine Calls.mono HP.out ?_
  rintro e w1 ⟨rfl, ⟨k1, q1, q2⟩, hb1⟩
  have hB := hb1
  clear HP
  have HQ := (show Hid _ from HL.out w1 k1 (HE.out.keepG hG hB) q1 q2)
  clear HL q1 q2
  go_wp2_with fail
  refine Calls.mono HQ.out ?_
  rintro e w3 ⟨rfl, hL3, hb3⟩
  go_wp2
  go_ret
  exact ⟨rfl, hL3, hB.trans hb3⟩
theorem ipart_open (hG : Gl g) (hM : M.length ≤ 1048576) (a : Nat) (out : List (Int × Int)) (R : Rd) (hn : byteIs s.data.toList a 126 = false) (hy : byteIs s.data.toList a 40 = true) (HS : IReads 52 #[.pointer (some ⟨g, 0, none⟩)] B g mb mc s M (a + 1) out R) :
    IReads 29 #[.pointer (some ⟨g, 0, none⟩)] B g mb mc s M a out R := by
  intro W k hE hR hA
  have HE : Hid (Env W) := hE
  have HL := HS.call
  have HP := (show Hid _ from ipass 126 (by decide) (by decide) hR hA hM)
  rw [hn, if_neg (by decide)] at HP
  have HP1 : Hid (∀ w1 k1, IRdr w1 B g mb mc s M k1 out → MkAt s.data.toList (M.drop k1) a → Calls Tryd.prog 50 #[.pointer (some ⟨g, 0, none⟩), .int .i32 40] w1 fun e w' => e = .returned (.bool (byteIs s.data.toList a 40)) ∧ (∃ k', IRdr w' B g mb mc s M k' out ∧ MkAt s.data.toList (M.drop k') (if byteIs s.data.toList a 40 = true then a + 1 else a)) ∧ Below g w1 w') := fun w1 k1 r1 r2 => ipass 40 (by decide) (by decide) r1 r2 hM
  rw [hy, if_pos rfl] at HP1
  clear hR hA hE HS hy hn
  go_enter Tryd.func29, Tryd.ntmps29
  go_wp2_with fail
  refine Calls.mono HP.out ?_
  rintro e w1 ⟨rfl, ⟨k1, q1, q2⟩, hb1⟩
  have HP2 := (show Hid _ from HP1.out w1 k1 q1 q2)
  clear HP HP1 q1 q2
  go_wp2_with fail
  refine Calls.mono HP2.out ?_
  rintro e w2 ⟨rfl, ⟨k1, q1, q2⟩, hb2⟩
  have hB := hb1.trans hb2
  clear HP2
  have HQ := (show Hid _ from HL.out w2 k1 (HE.out.keepG hG hB) q1 q2)
  clear HL q1 q2
  go_wp2_with fail
  refine Calls.mono HQ.out ?_
  rintro e w3 ⟨rfl, hL3, hb3⟩
  go_wp2
  go_ret
  exact ⟨rfl, hL3, hB.trans hb3⟩
set_option maxRecDepth 20000 in
theorem ipart_minus (hG : Gl g) (hM : M.length ≤ 1048576) (a : Nat) (out : List (Int × Int)) (R : Rd) (hn : byteIs s.data.toList a 126 = false) (hy : byteIs s.data.toList a 40 = false) (hm : byteIs s.data.toList a 45 = true) (HS : IReads 53 #[.pointer (some ⟨g, 0, none⟩)] B g mb mc s M a out R) :
    IReads 29 #[.pointer (some ⟨g, 0, none⟩)] B g mb mc s M a out R := by
  intro W k hE hR hA
  have HE : Hid (Env W) := hE
  have HL := HS.call
  have HP := (show Hid _ from ipass 126 (by decide) (by decide) hR hA hM)
  rw [hn, if_neg (by decide)] at HP
  have HP1 : Hid (∀ w1 k1, IRdr w1 B g mb mc s M k1 out → MkAt s.data.toList (M.drop k1) a → Calls Tryd.prog 50 #[.pointer (some ⟨g, 0, none⟩), .int .i32 40] w1 fun e w' => e = .returned (.bool (byteIs s.data.toList a 40)) ∧ (∃ k', IRdr w' B g mb mc s M k' out ∧ MkAt s.data.toList (M.drop k') (if byteIs s.data.toList a 40 = true then a + 1 else a)) ∧ Below g w1 w') := fun w1 k1 r1 r2 => ipass 40 (by decide) (by decide) r1 r2 hM
  rw [hy, if_neg (by decide)] at HP1
  have HX : Hid (∀ k1, MkAt s.data.toList (M.drop k1) a → ((M.getD k1 (0, 0)).2 == 45) = true) := fun k1 r => by have := r.is 45 (by decide); rw [drop_getD, hm] at this; exact this
  clear hR hA hE HS hy hn hm
  go_enter Tryd.func29, Tryd.ntmps29
  go_wp2_with fail
  refine Calls.mono HP.out ?_
  rintro e w1 ⟨rfl, ⟨k1, q1, q2⟩, hb1⟩
  have HP2 := (show Hid _ from HP1.out w1 k1 q1 q2)
  clear HP HP1 q1 q2
  go_wp2_with fail
  refine Calls.mono HP2.out ?_
  rintro e w2 ⟨rfl, ⟨k2, q1, q2⟩, hb2⟩
  have hB := hb1.trans hb2
  have hk2 := drop_lt' q2
  have c1 := q1.c1
  have c2 := q1.c2
  have m2 := (q1.mks k2 hk2).2
  have i1 : (k2 : Int) < M.length := by omega
  have hx := HX.out k2 q2
  have HC : Hid (∀ n, Calls Tryd.prog 30 #[.pointer (some ⟨g, 0, none⟩), .int .i32 45] (w2.drewN n) fun e w' => e = .returned (.bool ((M.getD k2 (0, 0)).2 == 45)) ∧ ∃ m, w' = (w2.drewN n).drewN m) := fun n => comes_any (w2.drewN n) B g mb mc s M k2 out 45 (q1.drewN n) hk2 hM
  have HD : Hid (∀ W, Calls Tryd.prog 49 #[.int .i32 (M.getD k2 (0, 0)).2] W fun e w' => e = .returned (.bool (decide (48 ≤ (M.getD k2 (0, 0)).2) && decide ((M.getD k2 (0, 0)).2 ≤ 57))) ∧ w' = W) := fun W => isDigit_any _ W
  rw [hx] at HC
  generalize (M.getD k2 (0, 0)).2 = x at m2 HD
  have HR2 : Hid (IRdr w2 B g mb mc s M k2 out) := q1
  have HA2 : Hid (MkAt s.data.toList (M.drop k2) a) := q2
  clear HP2 HX hx q1 q2 hk2 hb1 hb2
  go_wp2_with fail
  go_quiet (first | exact Calls.quiet_of (HC.out _) | exact Calls.quiet_of_same (HD.out _))
  have hR3 := HR2.out.drewN nq
  have hB3 := hB.trans (below_drewN g nq)
  have HQ := (show Hid _ from HL.out _ k2 (HE.out.keepG hG hB3) hR3 HA2.out)
  clear HL HC HD c1 c2 m2 hR3
  generalize w2.drewN nq = w3 at HQ hB3
  go_wp2_with fail
  refine Calls.mono HQ.out ?_
  rintro e w4 ⟨rfl, hL4, hb4⟩
  go_wp2
  go_ret
  exact ⟨rfl, hL4, hB3.trans hb4⟩
set_option maxRecDepth 20000 in
theorem ipart_digit (hG : Gl g) (hM : M.length ≤ 1048576) (a : Nat) (out : List (Int × Int)) (R : Rd) (hn : byteIs s.data.toList a 126 = false) (hy : byteIs s.data.toList a 40 = false) (hm : byteIs s.data.toList a 45 = false) (hd : isD (s.data.toList.getD a 0) = true) (HS : IReads 53 #[.pointer (some ⟨g, 0, none⟩)] B g mb mc s M a out R) :
    IReads 29 #[.pointer (some ⟨g, 0, none⟩)] B g mb mc s M a out R := by
  intro W k hE hR hA
  have HE : Hid (Env W) := hE
  have HL := HS.call
  have HP := (show Hid _ from ipass 126 (by decide) (by decide) hR hA hM)
  rw [hn, if_neg (by decide)] at HP
  have HP1 : Hid (∀ w1 k1, IRdr w1 B g mb mc s M k1 out → MkAt s.data.toList (M.drop k1) a → Calls Tryd.prog 50 #[.pointer (some ⟨g, 0, none⟩), .int .i32 40] w1 fun e w' => e = .returned (.bool (byteIs s.data.toList a 40)) ∧ (∃ k', IRdr w' B g mb mc s M k' out ∧ MkAt s.data.toList (M.drop k') (if byteIs s.data.toList a 40 = true then a + 1 else a)) ∧ Below g w1 w') := fun w1 k1 r1 r2 => ipass 40 (by decide) (by decide) r1 r2 hM
  rw [hy, if_neg (by decide)] at HP1
  have HX : Hid (∀ k1, MkAt s.data.toList (M.drop k1) a → ((M.getD k1 (0, 0)).2 == 45) = false ∧ (decide (48 ≤ (M.getD k1 (0, 0)).2) && decide ((M.getD k1 (0, 0)).2 ≤ 57)) = true) := fun k1 r => by have h1 := r.is 45 (by decide); have h2 := r.dig; rw [drop_getD] at h1 h2; rw [hm] at h1; rw [hd] at h2; exact ⟨h1, h2⟩
  clear hR hA hE HS hy hn hm hd
  go_enter Tryd.func29, Tryd.ntmps29
  go_wp2_with fail
  refine Calls.mono HP.out ?_
  rintro e w1 ⟨rfl, ⟨k1, q1, q2⟩, hb1⟩
  have HP2 := (show Hid _ from HP1.out w1 k1 q1 q2)
  clear HP HP1 q1 q2
  go_wp2_with fail
  refine Calls.mono HP2.out ?_
  rintro e w2 ⟨rfl, ⟨k2, q1, q2⟩, hb2⟩
  have hB := hb1.trans hb2
  have hk2 := drop_lt' q2
  have c1 := q1.c1
  have c2 := q1.c2
  have m2 := (q1.mks k2 hk2).2
  have i1 : (k2 : Int) < M.length := by omega
  have hx := HX.out k2 q2
  have HC : Hid (∀ n, Calls Tryd.prog 30 #[.pointer (some ⟨g, 0, none⟩), .int .i32 45] (w2.drewN n) fun e w' => e = .returned (.bool ((M.getD k2 (0, 0)).2 == 45)) ∧ ∃ m, w' = (w2.drewN n).drewN m) := fun n => comes_any (w2.drewN n) B g mb mc s M k2 out 45 (q1.drewN n) hk2 hM
  have HD : Hid (∀ W, Calls Tryd.prog 49 #[.int .i32 (M.getD k2 (0, 0)).2] W fun e w' => e = .returned (.bool (decide (48 ≤ (M.getD k2 (0, 0)).2) && decide ((M.getD k2 (0, 0)).2 ≤ 57))) ∧ w' = W) := fun W => isDigit_any _ W
  rw [hx.1] at HC
  rw [hx.2] at HD
  generalize (M.getD k2 (0, 0)).2 = x at m2 HD
  have HR2 : Hid (IRdr w2 B g mb mc s M k2 out) := q1
  have HA2 : Hid (MkAt s.data.toList (M.drop k2) a) := q2
  clear HP2 HX hx q1 q2 hk2 hb1 hb2
  go_wp2_with fail
  go_quiet (first | exact Calls.quiet_of (HC.out _) | exact Calls.quiet_of_same (HD.out _))
  have hR3 := HR2.out.drewN nq
  have hB3 := hB.trans (below_drewN g nq)
  have HQ := (show Hid _ from HL.out _ k2 (HE.out.keepG hG hB3) hR3 HA2.out)
  clear HL HC HD c1 c2 m2 hR3
  generalize w2.drewN nq = w3 at HQ hB3
  go_wp2_with fail
  refine Calls.mono HQ.out ?_
  rintro e w4 ⟨rfl, hL4, hb4⟩
  go_wp2
  go_ret
  exact ⟨rfl, hL4, hB3.trans hb4⟩
set_option maxRecDepth 20000 in
theorem ipart_else (hG : Gl g) (hM : M.length ≤ 1048576) (a : Nat) (out : List (Int × Int)) (R : Rd) (hn : byteIs s.data.toList a 126 = false) (hy : byteIs s.data.toList a 40 = false) (hm : byteIs s.data.toList a 45 = false) (hd : isD (s.data.toList.getD a 0) = false) (HS : IReads 54 #[.pointer (some ⟨g, 0, none⟩)] B g mb mc s M a out R) :
    IReads 29 #[.pointer (some ⟨g, 0, none⟩)] B g mb mc s M a out R := by
  intro W k hE hR hA
  have HE : Hid (Env W) := hE
  have HL := HS.call
  have HP := (show Hid _ from ipass 126 (by decide) (by decide) hR hA hM)
  rw [hn, if_neg (by decide)] at HP
  have HP1 : Hid (∀ w1 k1, IRdr w1 B g mb mc s M k1 out → MkAt s.data.toList (M.drop k1) a → Calls Tryd.prog 50 #[.pointer (some ⟨g, 0, none⟩), .int .i32 40] w1 fun e w' => e = .returned (.bool (byteIs s.data.toList a 40)) ∧ (∃ k', IRdr w' B g mb mc s M k' out ∧ MkAt s.data.toList (M.drop k') (if byteIs s.data.toList a 40 = true then a + 1 else a)) ∧ Below g w1 w') := fun w1 k1 r1 r2 => ipass 40 (by decide) (by decide) r1 r2 hM
  rw [hy, if_neg (by decide)] at HP1
  have HX : Hid (∀ k1, MkAt s.data.toList (M.drop k1) a → ((M.getD k1 (0, 0)).2 == 45) = false ∧ (decide (48 ≤ (M.getD k1 (0, 0)).2) && decide ((M.getD k1 (0, 0)).2 ≤ 57)) = false) := fun k1 r => by have h1 := r.is 45 (by decide); have h2 := r.dig; rw [drop_getD] at h1 h2; rw [hm] at h1; rw [hd] at h2; exact ⟨h1, h2⟩
  clear hR hA hE HS hy hn hm hd
  go_enter Tryd.func29, Tryd.ntmps29
  go_wp2_with fail
  refine Calls.mono HP.out ?_
  rintro e w1 ⟨rfl, ⟨k1, q1, q2⟩, hb1⟩
  have HP2 := (show Hid _ from HP1.out w1 k1 q1 q2)
  clear HP HP1 q1 q2
  go_wp2_with fail
  refine Calls.mono HP2.out ?_
  rintro e w2 ⟨rfl, ⟨k2, q1, q2⟩, hb2⟩
  have hB := hb1.trans hb2
  have hk2 := drop_lt' q2
  have c1 := q1.c1
  have c2 := q1.c2
  have m2 := (q1.mks k2 hk2).2
  have i1 : (k2 : Int) < M.length := by omega
  have hx := HX.out k2 q2
  have HC : Hid (∀ n, Calls Tryd.prog 30 #[.pointer (some ⟨g, 0, none⟩), .int .i32 45] (w2.drewN n) fun e w' => e = .returned (.bool ((M.getD k2 (0, 0)).2 == 45)) ∧ ∃ m, w' = (w2.drewN n).drewN m) := fun n => comes_any (w2.drewN n) B g mb mc s M k2 out 45 (q1.drewN n) hk2 hM
  have HD : Hid (∀ W, Calls Tryd.prog 49 #[.int .i32 (M.getD k2 (0, 0)).2] W fun e w' => e = .returned (.bool (decide (48 ≤ (M.getD k2 (0, 0)).2) && decide ((M.getD k2 (0, 0)).2 ≤ 57))) ∧ w' = W) := fun W => isDigit_any _ W
  rw [hx.1] at HC
  rw [hx.2] at HD
  generalize (M.getD k2 (0, 0)).2 = x at m2 HD
  have HR2 : Hid (IRdr w2 B g mb mc s M k2 out) := q1
  have HA2 : Hid (MkAt s.data.toList (M.drop k2) a) := q2
  clear HP2 HX hx q1 q2 hk2 hb1 hb2
  go_wp2_with fail
  go_quiet (first | exact Calls.quiet_of (HC.out _) | exact Calls.quiet_of_same (HD.out _))
  have hR3 := HR2.out.drewN nq
  have hB3 := hB.trans (below_drewN g nq)
  have HQ := (show Hid _ from HL.out _ k2 (HE.out.keepG hG hB3) hR3 HA2.out)
  clear HL HC HD c1 c2 m2 hR3
  generalize w2.drewN nq = w3 at HQ hB3
  go_wp2_with fail
  refine Calls.mono HQ.out ?_
  rintro e w4 ⟨rfl, hL4, hb4⟩
  go_wp2
  go_ret
  exact ⟨rfl, hL4, hB3.trans hb4⟩
theorem ipart_any (hG : Gl g) (hM : M.length ≤ 1048576) (hs : s.size ≤ 1048000) : ∀ f, IPart B g mb mc s M f := by
  intro f
  induction f with
  | zero => intro a out hf ha ho; omega
  | succ f ih =>
    intro a out hf ha ho
    have hsl : s.data.toList.length = s.size := size_list s
    by_cases hlt : a < s.size
    · obtain ⟨b, hb⟩ : ∃ b, s.data.toList.getD a 0 = b := ⟨_, rfl⟩
      have hby : ∀ c, byteIs s.data.toList a c = (b == c) := fun c => by unfold byteIs; rw [decide_eq_true (by omega), hb]; simp
      by_cases h126 : b = 126
      · rw [read_neg (by omega) (by rw [hb, h126])]
        exact ipart_neg hG hM a out _ (by rw [hby, h126]; rfl) (ineg hG hs f ih (a + 1) out (by omega) (by omega) (by omega))
      have n126 : byteIs s.data.toList a 126 = false := by rw [hby]; simpa using h126
      by_cases h40 : b = 40
      · rw [read_open (by omega) (by rw [hb, h40])]
        exact ipart_open hG hM a out _ n126 (by rw [hby, h40]; rfl) (iinside hG hM hs f ih (a + 1) out (by omega) (by omega) (by omega))
      have n40 : byteIs s.data.toList a 40 = false := by rw [hby]; simpa using h40
      by_cases h45 : b = 45
      · rw [read_num (by omega) (by rw [hb, h45]; rfl)]
        exact ipart_minus hG hM a out _ n126 n40 (by rw [hby, h45]; rfl) (inum_any B g mb mc s M a out hG (by omega) hM (by omega) hlt (by rw [hb, h45]; rfl))
      have n45 : byteIs s.data.toList a 45 = false := by rw [hby]; simpa using h45
      cases hD : isD b with
      | true =>
        rw [read_num (by omega) (by rw [hb, hD]; rfl)]
        exact ipart_digit hG hM a out _ n126 n40 n45 (by rw [hb]; exact hD) (inum_any B g mb mc s M a out hG (by omega) hM (by omega) hlt (by rw [hb, hD]; rfl))
      | false =>
        by_cases hv : 97 ≤ b.toNat ∧ b.toNat < 101
        · rw [read_var (by omega) (by rw [hb]; exact hv)]
          exact ipart_else hG hM a out _ n126 n40 n45 (by rw [hb]; exact hD) (ivar_yes B g mb mc s M a out hM (by omega) hlt (by rw [hb]; exact hv))
        · rw [read_bad (by omega) (by rw [hb, hD]; simpa using h45) (by rw [hb]; exact hv) (by rw [hb]; exact h126) (by rw [hb]; exact h40)]
          exact ipart_else hG hM a out _ n126 n40 n45 (by rw [hb]; exact hD) (ivar_none B g mb mc s M a out hM (by omega) (fun _ => by rw [hb]; exact hv))
    · obtain rfl : a = s.size := by omega
      rw [read_end hsl.symm]
      have hz : ∀ c, byteIs s.data.toList s.size c = false := fun c => by unfold byteIs; rw [decide_eq_false (by omega)]; rfl
      exact ipart_else hG hM _ out _ (hz 126) (hz 40) (hz 45) (by rw [List.getD_eq_getElem?_getD, List.getElem?_eq_none (by omega)]; decide) (ivar_none B g mb mc s M _ out hM (by omega) (fun h => by omega))
end Go.Proofs.YtfadclakedfjkaaDoor
