/-
  PROVED HERE: what the program's closing of parts answers: the least joining that is closed, in memory of its own. No other condition.
-/
import Derived.Test.YtobgkfpjokfbaaaGreatDoorRun31
import Derived.Test.YtobgkfpjokfbaaaGreatDoorRun33
import Derived.Test.YtobgkfpjokfbaaaGreatDoorC6Fun
namespace Go.Proofs.YtobgkfpjokfbaaaGreatDoor
open Go.ChangeShapes Go.WideShapes Go.ChangeAt Go.RowKit
open Go.MapKept Go.ChangeMaps
set_option linter.unusedVariables false

/-- A closing on its way, when all nodes are placed. -/
def Clo3 (w wr : World) (n C bu bf : Nat) (na vp : Value) (p : List EN) (l0 : List Int) : Prop := Below w.heap.size w wr ∧ ∃ T V vd l U F D, Clo wr w.heap.size T n C bu bf na vp vd V l U F D ∧ Inv p l0 l (F, D) (fun _ => True) ∧ Users p l U p.length ∧ leftN l U n D.length ≤ 50000
/-- An answer of its own memory. -/
def OwnI6 (w w' : World) (n : Nat) (L : List Int) (e : Ending) : Prop := ∃ v : Value, e = .returned v ∧ w'.ownsRow w.heap.size 3 1 v n (vals L) ∧ Below w.heap.size w w'
set_option maxHeartbeats 12800000 in
set_option maxRecDepth 20000 in
theorem implClose6_any {p : List EN} {l0 : List Int} (hN : nodesB p = true) (hP0 : PartsN p.length l0) (hI : InE p) (a b : Option Addr) (n cap cb : Nat) (w : World) (hE : ESl w a n p) (hS : Sl w b n l0) :
    Calls Tryz.prog 86 #[.slice a n cap, .slice b n cb] w fun e w' => OwnI6 w w' n (closeL p l0) e := by
  have hpl : p.length = n := hE.1
  have hn120 : n ≤ 120 := by have := ((nodesB_iff p).1 hN).1; omega
  have HP : Hid (nodesB p = true ∧ PartsN p.length l0 ∧ InE p ∧ p.length = n ∧ partB l0 = true ∧ l0.length = n) := ⟨hN, hP0, hI, hpl, parts_par hP0 (by omega), by rw [hP0.1]; exact hpl⟩
  have HE : Hid (ESl w a n p) := hE
  have HS : Hid (Sl w b n l0) := hS
  have HCl : Hid (∀ W, Below w.heap.size w W → Calls Tryz.prog 103 #[.slice b n cb] W fun e w' => ∃ v : Value, e = .returned v ∧ w'.ownsRow W.heap.size 3 1 v n (vals l0) ∧ Below W.heap.size W w') := fun W hW => cloneI_any b n cb l0 W (hS.keep hW) (by omega)
  have hms := make_users n hn120
  have hmm := @run_makeMap Tryz.prog
  clear hN hP0 hI hE hS hpl
  go_enter Tryz.func86, Tryz.ntmps86
  go_upto_region 1 with fail
  go_cut [5] from 13 to 20 (fun s wx => ∃ C : Nat, s = .pointer (some ⟨C, 0, none⟩) ∧ StartC w wx n C (.slice a n cap) l0)
  case first =>

    go_region_with (go_at_call 103; refine Calls.mono (HCl.out _ (by repeat (first | exact Below.refl _ _ | refine Below.drew ?_ | refine Below.alloc ?_ (by first | (simp; done) | (simp; omega)) _))) ?_; rintro e v3 ⟨vp, rfl, hrp, hb3⟩; obtain ⟨ap, cp, rfl, _⟩ := row_slice hrp; have hB3 : Below w.heap.size w v3 := Below.trans (by repeat (first | exact Below.refl _ _ | refine Below.drew ?_ | refine Below.alloc ?_ (by first | (simp; done) | (simp; omega)) _)) (hb3.mono (by first | (simp; done) | (simp; omega))); first
      | (have hq : Below w.drew.heap.size w.drew v3 := hb3)
      | (have hz := At.call (w := ((w.alloc boxZ)).drew) (At.new w boxZ) hb3; obtain ⟨⟨k0, k1, k2, k3, k4⟩, ⟨z0, z1, z2, z3, z4⟩, zz⟩ := box_z hz)
      | (have hu := At.call (w := ((w.alloc (rowU n))).drew) (At.new w (rowU n)) hb3)
      | (have hm := At.call (w := ((w.alloc (.map #[] 0))).drew) (At.new w (.map #[] 0)) hb3)
      | (have hz := At.call (w := (((w.alloc boxZ).alloc (rowU n))).drew) (At.alloc (At.new w boxZ) (rowU n)) hb3; have hu := At.call (w := (((w.alloc boxZ).alloc (rowU n))).drew) (At.new (w.alloc boxZ) (rowU n)) hb3; rw [show (w.alloc boxZ).heap.size = w.heap.size + 1 by simp] at hu; obtain ⟨⟨k0, k1, k2, k3, k4⟩, ⟨z0, z1, z2, z3, z4⟩, zz⟩ := box_z hz)
      | (have hz := At.call (w := (((w.alloc boxZ).alloc (.map #[] 0))).drew) (At.alloc (At.new w boxZ) (.map #[] 0)) hb3; have hm := At.call (w := (((w.alloc boxZ).alloc (.map #[] 0))).drew) (At.new (w.alloc boxZ) (.map #[] 0)) hb3; rw [show (w.alloc boxZ).heap.size = w.heap.size + 1 by simp] at hm; obtain ⟨⟨k0, k1, k2, k3, k4⟩, ⟨z0, z1, z2, z3, z4⟩, zz⟩ := box_z hz)
      | (have hu := At.call (w := (((w.alloc (rowU n)).alloc boxZ)).drew) (At.alloc (At.new w (rowU n)) boxZ) hb3; have hz := At.call (w := (((w.alloc (rowU n)).alloc boxZ)).drew) (At.new (w.alloc (rowU n)) boxZ) hb3; rw [show (w.alloc (rowU n)).heap.size = w.heap.size + 1 by simp] at hz; obtain ⟨⟨k0, k1, k2, k3, k4⟩, ⟨z0, z1, z2, z3, z4⟩, zz⟩ := box_z hz)
      | (have hu := At.call (w := (((w.alloc (rowU n)).alloc (.map #[] 0))).drew) (At.alloc (At.new w (rowU n)) (.map #[] 0)) hb3; have hm := At.call (w := (((w.alloc (rowU n)).alloc (.map #[] 0))).drew) (At.new (w.alloc (rowU n)) (.map #[] 0)) hb3; rw [show (w.alloc (rowU n)).heap.size = w.heap.size + 1 by simp] at hm)
      | (have hm := At.call (w := (((w.alloc (.map #[] 0)).alloc boxZ)).drew) (At.alloc (At.new w (.map #[] 0)) boxZ) hb3; have hz := At.call (w := (((w.alloc (.map #[] 0)).alloc boxZ)).drew) (At.new (w.alloc (.map #[] 0)) boxZ) hb3; rw [show (w.alloc (.map #[] 0)).heap.size = w.heap.size + 1 by simp] at hz; obtain ⟨⟨k0, k1, k2, k3, k4⟩, ⟨z0, z1, z2, z3, z4⟩, zz⟩ := box_z hz)
      | (have hm := At.call (w := (((w.alloc (.map #[] 0)).alloc (rowU n))).drew) (At.alloc (At.new w (.map #[] 0)) (rowU n)) hb3; have hu := At.call (w := (((w.alloc (.map #[] 0)).alloc (rowU n))).drew) (At.new (w.alloc (.map #[] 0)) (rowU n)) hb3; rw [show (w.alloc (.map #[] 0)).heap.size = w.heap.size + 1 by simp] at hu)
      | (have hz := At.call (w := ((((w.alloc boxZ).alloc (rowU n)).alloc (.map #[] 0))).drew) (At.alloc (At.alloc (At.new w boxZ) (rowU n)) (.map #[] 0)) hb3; have hu := At.call (w := ((((w.alloc boxZ).alloc (rowU n)).alloc (.map #[] 0))).drew) (At.alloc (At.new (w.alloc boxZ) (rowU n)) (.map #[] 0)) hb3; rw [show (w.alloc boxZ).heap.size = w.heap.size + 1 by simp] at hu; have hm := At.call (w := ((((w.alloc boxZ).alloc (rowU n)).alloc (.map #[] 0))).drew) (At.new ((w.alloc boxZ).alloc (rowU n)) (.map #[] 0)) hb3; rw [show ((w.alloc boxZ).alloc (rowU n)).heap.size = w.heap.size + 1 + 1 by simp] at hm; obtain ⟨⟨k0, k1, k2, k3, k4⟩, ⟨z0, z1, z2, z3, z4⟩, zz⟩ := box_z hz)
      | (have hz := At.call (w := ((((w.alloc boxZ).alloc (.map #[] 0)).alloc (rowU n))).drew) (At.alloc (At.alloc (At.new w boxZ) (.map #[] 0)) (rowU n)) hb3; have hm := At.call (w := ((((w.alloc boxZ).alloc (.map #[] 0)).alloc (rowU n))).drew) (At.alloc (At.new (w.alloc boxZ) (.map #[] 0)) (rowU n)) hb3; rw [show (w.alloc boxZ).heap.size = w.heap.size + 1 by simp] at hm; have hu := At.call (w := ((((w.alloc boxZ).alloc (.map #[] 0)).alloc (rowU n))).drew) (At.new ((w.alloc boxZ).alloc (.map #[] 0)) (rowU n)) hb3; rw [show ((w.alloc boxZ).alloc (.map #[] 0)).heap.size = w.heap.size + 1 + 1 by simp] at hu; obtain ⟨⟨k0, k1, k2, k3, k4⟩, ⟨z0, z1, z2, z3, z4⟩, zz⟩ := box_z hz)
      | (have hu := At.call (w := ((((w.alloc (rowU n)).alloc boxZ).alloc (.map #[] 0))).drew) (At.alloc (At.alloc (At.new w (rowU n)) boxZ) (.map #[] 0)) hb3; have hz := At.call (w := ((((w.alloc (rowU n)).alloc boxZ).alloc (.map #[] 0))).drew) (At.alloc (At.new (w.alloc (rowU n)) boxZ) (.map #[] 0)) hb3; rw [show (w.alloc (rowU n)).heap.size = w.heap.size + 1 by simp] at hz; have hm := At.call (w := ((((w.alloc (rowU n)).alloc boxZ).alloc (.map #[] 0))).drew) (At.new ((w.alloc (rowU n)).alloc boxZ) (.map #[] 0)) hb3; rw [show ((w.alloc (rowU n)).alloc boxZ).heap.size = w.heap.size + 1 + 1 by simp] at hm; obtain ⟨⟨k0, k1, k2, k3, k4⟩, ⟨z0, z1, z2, z3, z4⟩, zz⟩ := box_z hz)
      | (have hu := At.call (w := ((((w.alloc (rowU n)).alloc (.map #[] 0)).alloc boxZ)).drew) (At.alloc (At.alloc (At.new w (rowU n)) (.map #[] 0)) boxZ) hb3; have hm := At.call (w := ((((w.alloc (rowU n)).alloc (.map #[] 0)).alloc boxZ)).drew) (At.alloc (At.new (w.alloc (rowU n)) (.map #[] 0)) boxZ) hb3; rw [show (w.alloc (rowU n)).heap.size = w.heap.size + 1 by simp] at hm; have hz := At.call (w := ((((w.alloc (rowU n)).alloc (.map #[] 0)).alloc boxZ)).drew) (At.new ((w.alloc (rowU n)).alloc (.map #[] 0)) boxZ) hb3; rw [show ((w.alloc (rowU n)).alloc (.map #[] 0)).heap.size = w.heap.size + 1 + 1 by simp] at hz; obtain ⟨⟨k0, k1, k2, k3, k4⟩, ⟨z0, z1, z2, z3, z4⟩, zz⟩ := box_z hz)
      | (have hm := At.call (w := ((((w.alloc (.map #[] 0)).alloc boxZ).alloc (rowU n))).drew) (At.alloc (At.alloc (At.new w (.map #[] 0)) boxZ) (rowU n)) hb3; have hz := At.call (w := ((((w.alloc (.map #[] 0)).alloc boxZ).alloc (rowU n))).drew) (At.alloc (At.new (w.alloc (.map #[] 0)) boxZ) (rowU n)) hb3; rw [show (w.alloc (.map #[] 0)).heap.size = w.heap.size + 1 by simp] at hz; have hu := At.call (w := ((((w.alloc (.map #[] 0)).alloc boxZ).alloc (rowU n))).drew) (At.new ((w.alloc (.map #[] 0)).alloc boxZ) (rowU n)) hb3; rw [show ((w.alloc (.map #[] 0)).alloc boxZ).heap.size = w.heap.size + 1 + 1 by simp] at hu; obtain ⟨⟨k0, k1, k2, k3, k4⟩, ⟨z0, z1, z2, z3, z4⟩, zz⟩ := box_z hz)
      | (have hm := At.call (w := ((((w.alloc (.map #[] 0)).alloc (rowU n)).alloc boxZ)).drew) (At.alloc (At.alloc (At.new w (.map #[] 0)) (rowU n)) boxZ) hb3; have hu := At.call (w := ((((w.alloc (.map #[] 0)).alloc (rowU n)).alloc boxZ)).drew) (At.alloc (At.new (w.alloc (.map #[] 0)) (rowU n)) boxZ) hb3; rw [show (w.alloc (.map #[] 0)).heap.size = w.heap.size + 1 by simp] at hu; have hz := At.call (w := ((((w.alloc (.map #[] 0)).alloc (rowU n)).alloc boxZ)).drew) (At.new ((w.alloc (.map #[] 0)).alloc (rowU n)) boxZ) hb3; rw [show ((w.alloc (.map #[] 0)).alloc (rowU n)).heap.size = w.heap.size + 1 + 1 by simp] at hz; obtain ⟨⟨k0, k1, k2, k3, k4⟩, ⟨z0, z1, z2, z3, z4⟩, zz⟩ := box_z hz)
      )
    all_goals
      go_wp2_with fail
      go_meet
      refine ⟨_, rfl, ?_⟩
      first
        | with_reducible exact leaf06 hB3 hb3 hz hu hm hrp
        | with_reducible exact leaf16 hB3 hb3 hz hu hrp
        | with_reducible exact leaf26 hB3 hb3 hz hm hu hrp
        | with_reducible exact leaf36 hB3 hb3 hz hm hrp
        | with_reducible exact leaf46 hB3 hb3 hz hrp
        | with_reducible exact leaf56 hB3 hb3 hz hrp
        | with_reducible exact leaf66 hB3 hb3 hu hz hm hrp
        | with_reducible exact leaf76 hB3 hb3 hu hz hrp
        | with_reducible exact leaf86 hB3 hb3 hu hm hz hrp
        | with_reducible exact leaf96 hB3 hb3 hu hm hrp
        | with_reducible exact leaf106 hB3 hb3 hu hrp
        | with_reducible exact leaf116 hB3 hb3 hu hrp
        | with_reducible exact leaf126 hB3 hb3 hm hz hu hrp
        | with_reducible exact leaf136 hB3 hb3 hm hz hrp
        | with_reducible exact leaf146 hB3 hb3 hm hu hz hrp
        | with_reducible exact leaf156 hB3 hb3 hm hu hrp
        | with_reducible exact leaf166 hB3 hb3 hm hrp
        | with_reducible exact leaf176 hB3 hb3 hm hrp
        | with_reducible exact leaf186 hB3 hb3 hrp
        | with_reducible exact leaf196 hB3 hb3 hrp
        | with_reducible exact leaf206 hB3 hb3 hrp
        | with_reducible exact leaf216 hB3 hb3 hrp
        | with_reducible exact leaf226 hB3 hb3 hrp
        | with_reducible exact leaf236 hB3 hb3 hrp
  case rest =>
  clear hms hmm HCl
  obtain ⟨C, rfl, T0, bu, bf, vp, V0, hb0, hC0⟩ := hcut
  obtain ⟨W1, hW1⟩ : ∃ W1, W1 = wc := ⟨_, rfl⟩
  subst hW1
  have H0 : Hid (Below w.heap.size w W1 ∧ ∃ T V vd, Clo W1 w.heap.size T n C bu bf (.slice a n cap) vp vd V l0 (usersK p l0 0) (stateK p l0 0).1 (stateK p l0 0).2) := ⟨hb0, T0, V0, .slice none 0 0, hC0⟩
  clear hb0 hC0
  go_wp2_with fail
  go_loopw [23] (fun x wr => ∃ k : Nat, k ≤ n ∧ x = .int .i64 k ∧ Hid (Below w.heap.size w wr ∧ ∃ T V vd, Clo wr w.heap.size T n C bu bf (.slice a n cap) vp vd V l0 (usersK p l0 k) (stateK p l0 k).1 (stateK p l0 k).2)) (fun x wr => n - (intOf x).toNat)
  case atStart => exact ⟨0, Nat.zero_le _, rfl, H0.out⟩
  case round =>
    obtain ⟨k, hk, rfl, hR⟩ := hrel
    obtain ⟨wo, hwo⟩ : ∃ x, x = wr := ⟨_, rfl⟩
    subst hwo
    by_cases hkn : k < n
    · obtain ⟨bn, off, rfl, hbl, hc⟩ := HE.out.at (by omega)
      obtain ⟨ak, lk, ck, d1, d2, d3, hlk, hck, hSk⟩ := hc k hkn
      obtain ⟨hbo, T, V, vd, hCo⟩ := hR.out
      obtain ⟨x, hx⟩ : ∃ x, p.getD k e0 = x := ⟨_, rfl⟩
      rw [hx] at d1 d2 hSk
      obtain ⟨xo, xn, xk⟩ := x
      simp only at d1 d2 hSk
      have z1 := (hbo.cell (p := ⟨bn, off + k * 3, none⟩) hbl).trans d1
      have z2 := (hbo.cell (p := ⟨bn, off + k * 3 + 1, none⟩) hbl).trans d2
      have z3 := (hbo.cell (p := ⟨bn, off + k * 3 + 2, none⟩) hbl).trans d3
      obtain ⟨W2, hW2⟩ : ∃ W2, wo.alloc (.cells #[.int .i64 xo, .int .i64 xn, .slice ak lk ck] 80) = W2 := ⟨_, rfl⟩
      have hb2 : Below wo.heap.size wo W2 := by rw [← hW2]; exact (Below.refl _ _).alloc (Nat.le_refl _) _
      have m2 : W2.cell? ⟨wo.heap.size, 2, none⟩ = some (.slice ak lk ck) := by rw [← hW2]; simp [go_sem]
      have hkn' : (k : Int) < n := by omega
      have hkk := fun t ht => kid_natI (k := k) (j := t) HP.out.1 (by rw [HP.out.2.2.2.1]; exact hkn) ht
      rw [hx] at hkk
      simp only at hkk
      have hfew := fit_few (((nodesB_iff p).1 HP.out.1).2 k (by rw [HP.out.2.2.2.1]; exact hkn))
      rw [hx] at hfew
      simp only at hfew
      have HK : Hid ((∀ t, t < lk → ∃ y : Nat, xk.getD t 0 = y ∧ y < k) ∧ xk.length = lk ∧ Sl w ak lk xk ∧ p.getD k e0 = (xo, xn, xk)) := ⟨fun t ht => hkk t (by rw [hSk.1]; exact ht), hSk.1, hSk, hx⟩
      have hlk3 : lk ≤ 3 := by rw [← hSk.1]; exact hfew
      have H2 : Hid (Below w.heap.size w W2 ∧ ∃ T V vd, Clo W2 w.heap.size T n C bu bf (.slice (some ⟨bn, off, none⟩) n cap) vp vd V l0 ((xk.take 0).foldl (addU l0 (k : Int)) (usersK p l0 k)) (stateK p l0 k).1 (stateK p l0 k).2) := ⟨hbo.trans (hb2.mono hbo.size), T, V, vd, hCo.keep hb2⟩
      clear hc hR hCo d1 d2 d3 hSk hx hkk hfew hb2 hbo
      go_wp2_with fail
      (try rw [hW2])
      clear hW2 z1 z2 z3
      go_wp2_with fail
      clear m2
      go_loopw [31] (fun x wr => ∃ j : Nat, j ≤ lk ∧ x = .int .i64 j ∧ Hid (Below w.heap.size w wr ∧ ∃ T V vd, Clo wr w.heap.size T n C bu bf (.slice (some ⟨bn, off, none⟩) n cap) vp vd V l0 ((xk.take j).foldl (addU l0 (k : Int)) (usersK p l0 k)) (stateK p l0 k).1 (stateK p l0 k).2)) (fun x wr => lk - (intOf x).toNat)
      case atStart => exact ⟨0, Nat.zero_le _, rfl, H2.out⟩
      case round =>
        obtain ⟨j, hj, rfl, hR⟩ := hrel
        obtain ⟨wp, hwp⟩ : ∃ x, x = wr := ⟨_, rfl⟩
        subst hwp
        by_cases hjl : j < lk
        · obtain ⟨hbp, T, V, vd, hCp⟩ := hR.out
          obtain ⟨U, hU⟩ : ∃ U, (xk.take j).foldl (addU l0 (k : Int)) (usersK p l0 k) = U := ⟨_, rfl⟩
          rw [hU] at hCp
          obtain ⟨y, hy, hyk⟩ := HK.out.1 j hjl
          have hln := HP.out.2.2.2.2.2
          obtain ⟨y0, hy0, hy0l, _⟩ := part_nat (n := n) (by rw [← HP.out.2.2.2.1]; exact HP.out.2.1) (show y < n by omega)
          have hy0n : y0 < n := by omega
          obtain ⟨bk, ok, rfl, hbk, hck'⟩ : ∃ b' off, ak = some ⟨b', off, none⟩ ∧ b' < w.heap.size ∧ ∀ i, i < lk → w.cell? ⟨b', off + i, none⟩ = some (.int .i64 (xk.getD i 0)) := by
            rcases HK.out.2.2.1.2 with h0 | h0
            · omega
            · exact h0
          have e1 := (hbp.cell (p := ⟨bk, ok + j, none⟩) hbk).trans (hck' j hjl)
          rw [hy] at e1
          obtain ⟨bb, bo, rfl, hbb, hcb⟩ : ∃ b' off, b = some ⟨b', off, none⟩ ∧ b' < w.heap.size ∧ ∀ i, i < n → w.cell? ⟨b', off + i, none⟩ = some (.int .i64 (l0.getD i 0)) := by
            rcases HS.out.2 with h0 | h0
            · omega
            · exact h0
          have e2 := (hbp.cell (p := ⟨bb, bo + y, none⟩) hbb).trans (hcb y (by omega))
          rw [hy0] at e2
          have hjl' : (j : Int) < lk := by omega
          have hyn' : (y : Int) < n := by omega
          have hy0n' : (y0 : Int) < n := by omega
          have hbA : Below wp.heap.size wp ((wp.alloc (.cells #[.int .i64 k] 3)).drew) := ((Below.refl _ _).alloc (Nat.le_refl _) _).drew
          have hCA := hCp.keep hbA
          obtain ⟨as', cs', hVs, hcs⟩ := row_slice (hCp.ru y0 hy0n)
          have hULen : (U y0).length ≤ 360 := by
            have q1 := usersK_len p l0 n (fun i hi => fit_few (((nodesB_iff p).1 HP.out.1).2 i hi)) k (by rw [HP.out.2.2.2.1]; omega)
            have q2 := addU_len l0 (k : Int) n (xk.take j) (usersK p l0 k)
            rw [hU] at q2
            have q3 := sumN_ge (f := fun y => (U y).length) hy0n
            simp only [List.length_take] at q2
            have q4 : (U y0).length ≤ sumN (fun y => (U y).length) n := q3
            have := HK.out.2.1
            omega
          obtain ⟨i0, hi0, hz0, hz1, hz2⟩ := info_parts infoInt
          obtain ⟨v6, w6, r1, r2, r3, _, r4⟩ := run_append_own_at (w := (wp.alloc (.cells #[.int .i64 k] 3)).drew) w.heap.size 23 23 3 i0 (.int .i64 0) 1 8 Tryz.underlying23 hi0 hz0 hz1 hz2 rfl (by decide) (V y0) (U y0).length (vals (U y0)) (hCA.ru y0 hy0n) ⟨wp.heap.size, 0, none⟩ 1 1 [.int .i64 k] rfl (fun j u hu => cell_new1 wp _ _ _ j u hu) (one_cell1 _ _) (by unfold maxLen; omega) (by omega) (by have := hbp.size; have := hbA.size; omega)
          obtain ⟨a6, c6, rfl, _⟩ := row_slice r2
          obtain ⟨q1, q2, q3, q4⟩ := hCA.userRow hy0n (us := [(k : Int)]) r2 r3 r4
          have hUeq : (fun y => if y = y0 then U y0 ++ [(k : Int)] else U y) = (xk.take (j + 1)).foldl (addU l0 (k : Int)) (usersK p l0 k) := by
            rw [take_snocI (by rw [HK.out.2.1]; exact hjl), List.foldl_append, hU, hy]
            funext z
            show _ = (if (z : Int) = l0.getD (y : Int).toNat 0 then U z ++ [(k : Int)] else U z)
            rw [Int.toNat_natCast, hy0]
            by_cases e : z = y0
            · subst e; rw [if_pos rfl, if_pos rfl]
            · rw [if_neg e, if_neg (by omega)]
          rw [hUeq] at q4
          have HFin : Hid (Below w.heap.size w (w6.setCell ⟨bu, y0, none⟩ (.slice a6 ((U y0).length + 1) c6)) ∧ ∃ T V vd, Clo (w6.setCell ⟨bu, y0, none⟩ (.slice a6 ((U y0).length + 1) c6)) w.heap.size T n C bu bf (.slice (some ⟨bn, off, none⟩) n cap) vp vd V l0 ((xk.take (j + 1)).foldl (addU l0 (k : Int)) (usersK p l0 k)) (stateK p l0 k).1 (stateK p l0 k).2) := by
            refine ⟨?_, _, _, _, q4⟩
            have h0 : Below w.heap.size w w6 := (hbp.trans (hbA.mono hbp.size)).grown r3 (hbp.trans (hbA.mono hbp.size)).size (fun x hx => ((hCA.ru y0 hy0n).lt x hx).1)
            exact h0.setCell (p := ⟨bu, y0, none⟩) hCA.hu.1 _
          have c2 := hCp.c2
          have c2d : wp.drew.cell? ⟨C, 2, none⟩ = some (.slice (some ⟨bu, 0, none⟩) n n) := c2
          have c2a : (wp.alloc (.cells #[.int .i64 k] 3)).cell? ⟨C, 2, none⟩ = some (.slice (some ⟨bu, 0, none⟩) n n) := hCA.c2
          have bus := (hCp.cu y0 hy0n).1
          have busa : (wp.alloc (.cells #[.int .i64 k] 3)).cell? ⟨bu, y0, none⟩ = some (V y0) := (hCA.cu y0 hy0n).1
          rw [hVs] at bus busa q1 r1
          have busd : wp.drew.cell? ⟨bu, y0, none⟩ = some (.slice as' (U y0).length cs') := bus
          clear hR hbp hCp hCA r2 r3 r4 q4 hUeq hck' hcb hbA hVs hU hULen hln hy0 hy hy0l
          go_wp2_with fail
          go_region_law (refine step_append6 rfl _ _ 23 rfl (.slice as' (U y0).length cs') (.slice (some ⟨wp.heap.size, 0, none⟩) 1 1) rfl rfl r1 ?_)
          all_goals
            go_wp2_with fail
            go_roundw
            case rel => exact ⟨j + 1, by omega, by go_num, HFin.out⟩
            case measure => simp [intOf]; omega
        · obtain rfl : j = lk := by omega
          obtain ⟨hbp, T, V, vd, hCp⟩ := hR.out
          have hU : (xk.take j).foldl (addU l0 (k : Int)) (usersK p l0 k) = usersK p l0 (k + 1) := by
            rw [List.take_of_length_le (by rw [HK.out.2.1]; exact Nat.le_refl _)]
            show _ = (p.getD k e0).2.2.foldl (addU l0 (k : Int)) (usersK p l0 k)
            rw [HK.out.2.2.2]
          rw [hU] at hCp
          have hsl := stateK_len p l0 k
          have HPc := (show Hid _ from place_any (k := k) (p := p) HE.out hbp hCp HP.out.1 HP.out.2.2.1 HP.out.2.2.2.2.1 hkn (by omega))
          clear hR hbp hCp hU hsl
          go_wp2_with fail
          refine Calls.mono HPc.out ?_
          rintro e w7 ⟨rfl, hb7, T7, vd7, hC7⟩
          have HN : Hid (Below w.heap.size w w7 ∧ ∃ T V vd, Clo w7 w.heap.size T n C bu bf (.slice (some ⟨bn, off, none⟩) n cap) vp vd V l0 (usersK p l0 (k + 1)) (stateK p l0 (k + 1)).1 (stateK p l0 (k + 1)).2) := ⟨hb7, T7, V, vd7, hC7⟩
          clear HPc hb7 hC7
          go_wp2_with fail
          go_roundw
          case rel => exact ⟨k + 1, by omega, by go_num, HN.out⟩
          case measure => simp [intOf]; omega
    · obtain rfl : k = n := by omega
      obtain ⟨hbo, T, V, vd, hCo⟩ := hR.out
      have hpn := HP.out.2.2.2.1
      have hI0 := inv_first HP.out.2.1 p.length (Nat.le_refl _)
      have hU0 := users_first HP.out.1 HP.out.2.1 p.length (Nat.le_refl _)
      have hL0 := left_first HP.out.1 l0
      rw [hpn] at hI0 hL0
      have H3 : Hid (Clo3 w wo k C bu bf (.slice a k cap) vp p l0) := by
        refine ⟨hbo, T, V, vd, l0, usersK p l0 k, (stateK p l0 k).1, (stateK p l0 k).2, hCo, ⟨hI0.tw, hI0.fnd, fun x _ hx => hI0.con x (by omega) hx, hI0.due⟩, ?_, hL0⟩
        rw [hpn] at hU0
        rw [hpn]
        exact hU0
      clear hR hbo hCo hI0 hU0 hL0
      go_wp2_with fail
      go_loopw [11] (fun x wr => Hid (Clo3 w wr k C bu bf (.slice a k cap) vp p l0)) (fun x wr => leftM wr C k)
      case atStart => exact H3
      case round =>
        obtain ⟨wt, hwt⟩ : ∃ x, x = wr := ⟨_, rfl⟩
        subst hwt
        obtain ⟨hbt, T1, V1, vd1, l, U, F, D, hCt, hIt, hUt, hLt⟩ := hrel.out
        have hm0 := leftM_of hCt
        rcases snoc_cases D with rfl | ⟨D0, x, rfl⟩
        · have hcl := inv_end hIt
          have hcl2 := close_is HP.out.1 HP.out.2.1 hcl
          obtain ⟨ad, cd, rfl, hcd⟩ := row_slice hCt.rd
          have c4 := hCt.c4
          have c1 := hCt.c1
          have HF : Hid (wt.ownsRow w.heap.size 3 1 vp k (vals (closeL p l0)) ∧ Below w.heap.size w wt) := by
            refine ⟨?_, hbt⟩
            have := hCt.rp
            rw [hcl2] at this
            exact this
          have hz : ((0 : Nat) : Int) = 0 := rfl
          simp only [List.length_nil] at c4
          clear hrel hbt hCt hIt hUt hLt hm0 hcl hcl2 hcd
          go_wp2_with fail
          go_ret
          exact ⟨vp, rfl, HF.out⟩
        · obtain ⟨i, j, rfl, hi, hj, hsh⟩ := hIt.due x (List.mem_append_right _ (by simp))
          obtain ⟨bd, cd, rfl, hcd, e0, e1, hbC, hbd, hPop⟩ := hCt.popDue
          have c4 := hCt.c4
          have f4 := hCt.fz
          have hbC' : C < wt.heap.size := hCt.hC.2.1
          have hlo : w.heap.size ≤ C := hCt.hC.1
          have hik : (i : Int) < k := by omega
          have hjk : (j : Int) < k := by omega
          have hd0 : (D0 ++ [((i : Int), (j : Int))]).length = D0.length + 1 := by simp
          rw [hd0] at hLt hm0
          have hDl : D0.length + 1 ≤ 50000 := by unfold leftN at hLt; omega
          have hgt : (0 : Int) < (D0.length : Int) + 1 := by omega
          have hsub : wrap64 ((D0.length : Int) + 1 - 1) = (D0.length : Int) := by unfold wrap64; omega
          have hsub2 : (D0.length : Int) + 1 - 1 = (D0.length : Int) := by omega
          have hlt1 : (D0.length : Int) < (D0.length : Int) + 1 := by omega
          have hlec : D0.length ≤ cd := by omega
          obtain ⟨W6, hW6⟩ : ∃ W6, (wt.alloc (.cells #[.int .i64 i, .int .i64 j] 135)).setCell ⟨C, 4, none⟩ (.slice (some ⟨bd, 0, none⟩) D0.length cd) = W6 := ⟨_, rfl⟩
          have hbA : Below wt.heap.size wt (wt.alloc (.cells #[.int .i64 i, .int .i64 j] 135)) := (Below.refl _ _).alloc (Nat.le_refl _) _
          have hCA := hCt.keep hbA
          obtain ⟨bd2, cd2, hv2, -, -, -, -, -, hP6⟩ := hCA.popDue
          cases hv2
          rw [hW6] at hP6
          have c4a := hCA.c4
          have f4a := hCA.fz
          have hne4 : wt.heap.size ≠ C := by omega
          have p0 : W6.cell? ⟨wt.heap.size, 0, none⟩ = some (.int .i64 i) := by
            rw [← hW6]
            exact (World.cell?_of_block (a := ⟨wt.heap.size, 0, none⟩) (heap_setCell_other _ ⟨C, 4, none⟩ wt.heap.size _ hne4)).trans (by simp [go_sem])
          have p1 : W6.cell? ⟨wt.heap.size, 1, none⟩ = some (.int .i64 j) := by
            rw [← hW6]
            exact (World.cell?_of_block (a := ⟨wt.heap.size, 1, none⟩) (heap_setCell_other _ ⟨C, 4, none⟩ wt.heap.size _ hne4)).trans (by simp [go_sem])
          have hb6 : Below w.heap.size w W6 := by
            rw [← hW6]
            exact (hbt.trans (hbA.mono hbt.size)).setCell (p := ⟨C, 4, none⟩) hlo _
          have HJ : Hid (Calls Tryz.prog 105 #[.pointer (some ⟨C, 0, none⟩), .int .i64 i, .int .i64 j] W6 fun e w' => e = .returned (.tuple #[]) ∧ Clo3 w w' k C bu bf (.slice a k cap) vp p l0 ∧ leftM w' C k < leftM wt C k) := by
            show Calls _ _ _ _ _
            by_cases he : l.getD i 0 = l.getD j 0
            · refine (join_same hb6 hP6 (by omega) (by omega) he).mono ?_
              rintro e w' ⟨rfl, hb', T', V', vd', hC'⟩
              have hlow : leftN l U k D0.length < leftN l U k (D0.length + 1) := by unfold leftN; omega
              refine ⟨rfl, ⟨hb', T', V', vd', l, U, F, D0, hC', inv_skip he hi hj hIt, hUt, by omega⟩, ?_⟩
              rw [leftM_of hC', hm0]
              exact hlow
            · obtain ⟨g, s, hg, hs, hgs, hgn, hsn, hgr, hsr, _⟩ := join_facts hIt.tw.1 hi hj he
              have hfg := users_few hIt.tw.1 U hi hj he (D0.length + 1) g hgn hgr
              have hfs := users_few hIt.tw.1 U hi hj he (D0.length + 1) s hsn hsr
              rw [hpn] at hfg hfs
              refine (join_apart HE.out hb6 hP6 HP.out.1 HP.out.2.2.1 hIt.tw.1 hUt (by omega) (by omega) he hg hs (by omega) (by omega)).mono ?_
              rintro e w' ⟨rfl, hb', T', V', vd', hC'⟩
              have hI' := inv_join HP.out.1 HP.out.2.1.1 hi hj hsh he hIt hUt hg
              have hU' := users_join HP.out.1 hIt.tw.1 hi hj he hUt
              have hl' := left_join hIt.tw.1 U F D0 hi hj he hg
              rw [hg, hs] at hU' hl'
              rw [hpn] at hl'
              refine ⟨rfl, ⟨hb', T', V', vd', joinPL l i j, moveU U (s : Int) (g : Int), _, _, hC', hI', hU', by omega⟩, ?_⟩
              rw [leftM_of hC', hm0]
              exact hl'
          clear hrel hbt hCt hIt hUt hLt hm0 hPop hP6 hCA hbA hb6 hi hj hsh hd0
          go_wp2_with fail
          (try rw [hW6])
          refine Calls.mono HJ.out ?_
          rintro e w9 ⟨rfl, h9, h10⟩
          have H9 := (show Hid _ from h9)
          have H10 := (show Hid _ from h10)
          clear HJ h9 h10 p0 p1 hW6
          go_wp2_with fail
          go_roundw
          case rel => exact H9
          case measure => exact H10.out
end Go.Proofs.YtobgkfpjokfbaaaGreatDoor
