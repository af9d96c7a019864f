/-
  PROVED HERE: what EvalPoly answers, the program's and the model's, at every list of products and every list of values. No other condition. what EvalPoly answers, the program's and the model's, at every list of products and every list of values. No other condition.
-/
import Derived.Test.YtpjgjpjfchfmlaaGreatDoorConds
import Derived.Test.YtpjgjpjfchfmlaaGreatDoorPowers
namespace Go.Proofs.YtpjgjpjfchfmlaaGreatDoor
open Go.ChangeShapes Go.WideShapes Go.ChangeAt Go.RowKit
set_option linter.unusedVariables false

/-- A product's value, power by power. -/
def monF : Int → List Int → List Int → Int
  | x, n :: r, v :: env => monF (wrap64 (x * pw v n.toNat)) r env
  | x, _, _ => x
/-- A sum's value, product by product. -/
def sumF (env : List Int) : Int → List Mon → Int
  | s, [] => s
  | s, m :: r => sumF env (wrap64 (s + monF m.2 m.1 env)) r
def evalPok (p : List Mon) (env : List Int) : Bool := polyB p && decide (env.length = 4)
def evalPV (p : List Mon) (env : List Int) : Int := if evalPok p env = true then sumF env 0 p else 0
theorem gpF_all : ∀ (prev : Option (List Int)) (p : List Mon), gpF prev p = true → ∀ x ∈ p, powB x.1 = true ∧ x.2 ≠ 0
  | _, [], _, _, hx => by cases hx
  | prev, m :: r, h, x, hx => by
    rw [gpF, Bool.and_eq_true] at h
    rcases List.mem_cons.1 hx with rfl | hx
    · have h1 := h.1
      unfold fitM at h1
      rw [Bool.and_eq_true, Bool.and_eq_true] at h1
      exact ⟨h1.1.1, by simpa using h1.1.2⟩
    · exact gpF_all _ r h.2 x hx
theorem polyB_all {p : List Mon} (h : polyB p = true) : ∀ x ∈ p, powB x.1 = true ∧ x.2 ≠ 0 := by
  unfold polyB at h
  rw [Bool.and_eq_true] at h
  exact gpF_all _ p h.1
theorem polyB_len {p : List Mon} (h : polyB p = true) : p.length ≤ 40 := by
  unfold polyB at h
  rw [Bool.and_eq_true] at h
  exact of_decide_eq_true h.2
theorem powB_get {e : List Int} (h : powB e = true) (k : Nat) (hk : k < 4) : 0 ≤ e.getD k 0 ∧ e.getD k 0 ≤ 9 := by
  have h4 := pow_len h
  unfold powB allB at h
  rw [Bool.and_eq_true, List.all_eq_true] at h
  have e1 : e.getD k 0 = e[k] := by rw [List.getD_eq_getElem?_getD, List.getElem?_eq_getElem (by omega)]; rfl
  have := h.2 e[k] (List.getElem_mem _)
  rw [Bool.and_eq_true] at this
  rw [e1]
  exact ⟨of_decide_eq_true this.1, of_decide_eq_true this.2⟩
theorem getD_mem {α : Type} (p : List α) (d : α) (k : Nat) (h : k < p.length) : p.getD k d ∈ p := by
  have e1 : p.getD k d = p[k] := by rw [List.getD_eq_getElem?_getD, List.getElem?_eq_getElem h]; rfl
  rw [e1]; exact List.getElem_mem _
theorem drop_cons {α : Type} (p : List α) (d : α) (k : Nat) (h : k < p.length) : p.drop k = p.getD k d :: p.drop (k + 1) := by
  rw [List.drop_eq_getElem_cons h]
  have e1 : p.getD k d = p[k] := by rw [List.getD_eq_getElem?_getD, List.getElem?_eq_getElem h]; rfl
  rw [e1]
theorem monF_drop (x : Int) (e env : List Int) (k : Nat) (h1 : k < e.length) (h2 : k < env.length) : monF x (e.drop k) (env.drop k) = monF (wrap64 (x * pw (env.getD k 0) (e.getD k 0).toNat)) (e.drop (k + 1)) (env.drop (k + 1)) := by
  rw [drop_cons e 0 k h1, drop_cons env 0 k h2]; rfl
theorem monF_end (x : Int) (e env : List Int) (k : Nat) (h : e.length ≤ k) : monF x (e.drop k) env = x := by
  rw [List.drop_of_length_le h]; cases env <;> rfl
theorem sumF_drop (env : List Int) (s : Int) (p : List Mon) (k : Nat) (h : k < p.length) : sumF env s (p.drop k) = sumF env (wrap64 (s + monF (p.getD k ([], 0)).2 (p.getD k ([], 0)).1 env)) (p.drop (k + 1)) := by
  rw [drop_cons p ([], 0) k h]; rfl

set_option maxHeartbeats 1600000 in
theorem evalMono_any (a : Option Addr) (ca : Nat) (e : List Int) (n : Int) (b : Option Addr) (cb : Nat) (env : List Int) (w : World) (ha : Sl w a 4 e) (hb : Sl w b 4 env) (hp : powB e = true) :
    Calls Tryz.prog 36 #[.agg #[.slice a 4 ca, .int .i64 n], .slice b 4 cb] w fun r w' => r = .returned (.int .i64 (monF n e env)) ∧ Below w.heap.size w w' := by
  have hla := ha.1
  have hlb := hb.1
  obtain ⟨W1, hW1⟩ : ∃ W1, w.alloc (.cells #[.slice a 4 ca, .int .i64 n] 57) = W1 := ⟨_, rfl⟩
  have hb1 : Below w.heap.size w W1 := by rw [← hW1]; exact (Below.refl _ _).alloc (Nat.le_refl _) _
  have n0 : W1.cell? ⟨w.heap.size, 0, none⟩ = some (.slice a 4 ca) := by rw [← hW1]; simp [go_sem]
  have n1 : W1.cell? ⟨w.heap.size, 1, none⟩ = some (.int .i64 n) := by rw [← hW1]; simp [go_sem]
  obtain ⟨b1, o1, rfl, hc1⟩ := cells_of (ha.keep hb1) (by omega)
  obtain ⟨b2, o2, rfl, hc2⟩ := cells_of (hb.keep hb1) (by omega)
  have HG : Hid (∀ k, k < 4 → 0 ≤ e.getD k 0 ∧ e.getD k 0 ≤ 9) := powB_get hp
  clear ha hb hp
  go_enter Tryz.func36, Tryz.ntmps36
  go_wp2_with fail
  (try rw [hW1])
  go_loopw [5, 15] (fun x i wr => ∃ (k : Nat) (z : Int), k ≤ 4 ∧ i = .int .i64 (k : Int) ∧ x = .int .i64 z ∧ wr = W1 ∧ Hid (monF z (e.drop k) (env.drop k) = monF n e env)) (fun _ i _ => 4 - (intOf i).toNat)
  case atStart => exact ⟨0, n, by omega, rfl, rfl, rfl, rfl⟩
  case round =>
    obtain ⟨k, z, hk, rfl, rfl, rfl, HZ⟩ := hrel
    by_cases hlt : k < 4
    · have c1 := hc1 k hlt
      have c2 := hc2 k hlt
      obtain ⟨g0, g9⟩ := HG.out k hlt
      have hst := monF_drop z e env k (by omega) (by omega)
      rw [HZ.out] at hst
      obtain ⟨j, hj⟩ : ∃ j : Nat, e.getD k 0 = (j : Int) := ⟨(e.getD k 0).toNat, by omega⟩
      rw [hj] at c1 hst g9
      rw [Int.toNat_natCast] at hst
      generalize env.getD k 0 = v at c2 hst
      have HS : Hid (monF (wrap64 (z * pw v j)) (e.drop (k + 1)) (env.drop (k + 1)) = monF n e env) := hst.symm
      have HP : Hid (Calls Tryz.prog 69 #[.int .i64 v, .int .i64 j] wr fun e w' => e = .returned (.tuple #[.int .i64 (pw v j), .bool true]) ∧ w' = wr) := powI_in v j wr (by omega)
      have i1 : (k : Int) < 4 := by omega
      generalize pw v j = P at HS HP
      clear hc1 hc2 hst HZ hj g0
      go_wp2_with fail
      refine Calls.mono HP.out ?_
      rintro r w1 ⟨rfl, rfl⟩
      clear HP
      go_wp2
      go_roundw
      case rel => exact ⟨k + 1, _, by omega, by go_num, rfl, by first | trivial | rfl, HS⟩
      case measure => simp [intOf]; omega
    · obtain rfl : k = 4 := by omega
      have HE : Hid (monF n e env = z) := by show _ = _; rw [← HZ.out, monF_end z e _ 4 (by omega)]
      clear HZ
      go_wp2
      go_ret
      exact ⟨by rw [HE.out]; rfl, hb1⟩
set_option maxHeartbeats 1600000 in
theorem implEvalP_in (a : Option Addr) (len cap : Nat) (p : List Mon) (b : Option Addr) (cb : Nat) (env : List Int) (w : World) (ha : PSl w a len p) (hb : Sl w b 4 env) (hp : polyB p = true) :
    Calls Tryz.prog 14 #[.slice a len cap, .slice b 4 cb] w fun r w' => r = .returned (.tuple #[.int .i64 (sumF env 0 p), .bool true]) ∧ Below w.heap.size w w' := by
  have hla := ha.1
  have hlen := polyB_len hp
  have HG := (show Hid _ from implPoly_any a len cap p w ha (by omega))
  rw [hp] at HG
  have HA : Hid (∀ x ∈ p, powB x.1 = true ∧ x.2 ≠ 0) := polyB_all hp
  clear hp
  go_enter Tryz.func14, Tryz.ntmps14
  go_wp2_with fail
  refine Calls.mono HG.out ?_
  rintro r w1 ⟨rfl, hb1⟩
  clear HG
  have hm : len ≤ 9223372036854775807 := by omega
  go_wp2_with fail
  go_loopw [6, 19] (fun x i wr => ∃ (k : Nat) (z : Int), k ≤ len ∧ i = .int .i64 (k : Int) ∧ x = .int .i64 z ∧ Below w.heap.size w wr ∧ Hid (sumF env z (p.drop k) = sumF env 0 p)) (fun _ i _ => len - (intOf i).toNat)
  case atStart => exact ⟨0, 0, by omega, rfl, rfl, hb1, rfl⟩
  case round =>
    obtain ⟨k, z, hk, rfl, rfl, hbr, HZ⟩ := hrel
    clear hb1
    by_cases hlt : k < len
    · obtain ⟨b1, off, rfl, hbl, hc⟩ := (ha.keep hbr).at (by omega)
      obtain ⟨ai, li, ci, c1, hli, hci, hS, c2⟩ := hc k hlt
      have hst := sumF_drop env z p k (by omega)
      rw [HZ.out] at hst
      have hpw := (HA.out _ (getD_mem p ([], 0) k (by omega))).1
      have hl4 := pow_len hpw
      obtain rfl : li = 4 := by have := hS.1; omega
      generalize (p.getD k ([], 0)).1 = e at hS hst hpw
      generalize (p.getD k ([], 0)).2 = y at c2 hst
      have HS : Hid (sumF env (wrap64 (z + monF y e env)) (p.drop (k + 1)) = sumF env 0 p) := hst.symm
      obtain ⟨W1, hW1⟩ : ∃ W1, wr.alloc (.cells #[.slice ai 4 ci, .int .i64 y] 57) = W1 := ⟨_, rfl⟩
      have hb1 : Below wr.heap.size wr W1 := by rw [← hW1]; exact (Below.refl _ _).alloc (Nat.le_refl _) _
      have n0 : W1.cell? ⟨wr.heap.size, 0, none⟩ = some (.slice ai 4 ci) := by rw [← hW1]; simp [go_sem]
      have n1 : W1.cell? ⟨wr.heap.size, 1, none⟩ = some (.int .i64 y) := by rw [← hW1]; simp [go_sem]
      have HE := (show Hid _ from evalMono_any ai ci e y b cb env W1 (hS.keep hb1) ((hb.keep hbr).keep hb1) hpw)
      have hB1 := hbr.trans (hb1.mono hbr.size)
      generalize monF y e env = M at HS HE
      clear hc hst HZ hS hpw hbr hb1
      go_wp2_with fail
      (try rw [hW1])
      refine Calls.mono HE.out ?_
      rintro r w2 ⟨rfl, hb2⟩
      have hB2 := hB1.trans (hb2.mono hB1.size)
      clear HE hb2 hB1
      go_wp2
      go_roundw
      case rel => exact ⟨k + 1, _, by omega, by go_num, rfl, hB2, HS⟩
      case measure => simp [intOf]; omega
    · obtain rfl : k = len := by omega
      have HE : Hid (sumF env 0 p = z) := by show _ = _; rw [← HZ.out, List.drop_of_length_le (by omega)]; rfl
      clear HZ
      go_wp2
      go_ret2
      exact ⟨by rw [HE.out]; rfl, hbr⟩
theorem implEvalP_any (a : Option Addr) (len cap : Nat) (p : List Mon) (b : Option Addr) (lb cb : Nat) (env : List Int) (w : World) (ha : PSl w a len p) (hb : Sl w b lb env) (hm : len ≤ 9223372036854775807) (hmb : lb ≤ 9223372036854775807) :
    Calls Tryz.prog 14 #[.slice a len cap, .slice b lb cb] w fun r w' => r = .returned (.tuple #[.int .i64 (evalPV p env), .bool (evalPok p env)]) ∧ Below w.heap.size w w' := by
  have hlb := hb.1
  cases hp : polyB p with
  | true =>
    by_cases h4 : lb = 4
    · subst h4
      have e1 : evalPok p env = true := by unfold evalPok; rw [hp, hlb]; rfl
      have e2 : evalPV p env = sumF env 0 p := by unfold evalPV; rw [if_pos e1]
      rw [e1, e2]
      exact implEvalP_in a len cap p b cb env w ha hb hp
    · have e1 : evalPok p env = false := by unfold evalPok; rw [hp, hlb, decide_eq_false h4]; rfl
      have e2 : evalPV p env = 0 := by unfold evalPV; rw [e1]; rfl
      rw [e1, e2]
      have HG := (show Hid _ from implPoly_any a len cap p w ha hm)
      rw [hp] at HG
      have h4' : ((lb : Int) != 4) = true := by simp; omega
      clear e1 e2 hp
      go_enter Tryz.func14, Tryz.ntmps14
      go_wp2_with fail
      refine Calls.mono HG.out ?_
      rintro r w1 ⟨rfl, hb1⟩
      clear HG
      go_wp2
      go_ret2
      exact ⟨rfl, hb1⟩
  | false =>
    have e1 : evalPok p env = false := by unfold evalPok; rw [hp]; rfl
    have e2 : evalPV p env = 0 := by unfold evalPV; rw [e1]; rfl
    rw [e1, e2]
    have HG := (show Hid _ from implPoly_any a len cap p w ha hm)
    rw [hp] at HG
    clear e1 e2 hp
    go_enter Tryz.func14, Tryz.ntmps14
    go_wp2_with fail
    refine Calls.mono HG.out ?_
    rintro r w1 ⟨rfl, hb1⟩
    clear HG
    go_wp2
    go_ret2
    exact ⟨rfl, hb1⟩
end Go.Proofs.YtpjgjpjfchfmlaaGreatDoor
namespace Go.Proofs.YtpjgjpjfchfmlaaGreatDoor
open Go.ChangeShapes Go.WideShapes Go.ChangeAt Go.RowKit
set_option linter.unusedVariables false

set_option maxHeartbeats 2000000 in
theorem specEvalP_in (a : Option Addr) (len cap : Nat) (p : List Mon) (b : Option Addr) (cb : Nat) (env : List Int) (w : World) (ha : PSl w a len p) (hb : Sl w b 4 env) (hp : polyB p = true) :
    Calls Tryz.prog 17 #[.slice a len cap, .slice b 4 cb] w fun r w' => r = .returned (.tuple #[.int .i64 (sumF env 0 p), .bool true]) ∧ Below w.heap.size w w' := by
  have hla := ha.1
  have hlb := hb.1
  have hlen := polyB_len hp
  have HG := (show Hid _ from specPoly_any a len cap p w ha (by omega))
  rw [hp] at HG
  have HA : Hid (∀ x ∈ p, powB x.1 = true ∧ x.2 ≠ 0) := polyB_all hp
  clear hp
  go_enter Tryz.func17, Tryz.ntmps17
  go_wp2_with fail
  refine Calls.mono HG.out ?_
  rintro r w1 ⟨rfl, hb1⟩
  clear HG
  have hm : len ≤ 9223372036854775807 := by omega
  go_wp2_with fail
  go_loopw [6, 22] (fun x i wr => ∃ (k : Nat) (z : Int), k ≤ len ∧ i = .int .i64 (k : Int) ∧ x = .int .i64 z ∧ Below w.heap.size w wr ∧ Hid (sumF env z (p.drop k) = sumF env 0 p)) (fun _ i _ => len - (intOf i).toNat)
  case atStart => exact ⟨0, 0, by omega, rfl, rfl, hb1, rfl⟩
  case round =>
    obtain ⟨k, z, hk, rfl, rfl, hbr, HZ⟩ := hrel
    clear hb1
    by_cases hlt : k < len
    · obtain ⟨b1, off, rfl, hbl, hc⟩ := (ha.keep hbr).at (by omega)
      obtain ⟨ai, li, ci, c1, hli, hci, hS, c2⟩ := hc k hlt
      have hst := sumF_drop env z p k (by omega)
      rw [HZ.out] at hst
      have hpw := (HA.out _ (getD_mem p ([], 0) k (by omega))).1
      have hl4 := pow_len hpw
      obtain rfl : li = 4 := by have := hS.1; omega
      generalize (p.getD k ([], 0)).1 = e at hS hst hpw hl4
      generalize (p.getD k ([], 0)).2 = y at c2 hst
      have HS : Hid (sumF env (wrap64 (z + monF y e env)) (p.drop (k + 1)) = sumF env 0 p) := hst.symm
      obtain ⟨W1, hW1⟩ : ∃ W1, wr.alloc (.cells #[.slice ai 4 ci, .int .i64 y] 57) = W1 := ⟨_, rfl⟩
      have hb1 : Below wr.heap.size wr W1 := by rw [← hW1]; exact (Below.refl _ _).alloc (Nat.le_refl _) _
      have n0 : W1.cell? ⟨wr.heap.size, 0, none⟩ = some (.slice ai 4 ci) := by rw [← hW1]; simp [go_sem]
      have n1 : W1.cell? ⟨wr.heap.size, 1, none⟩ = some (.int .i64 y) := by rw [← hW1]; simp [go_sem]
      obtain ⟨be, oe, rfl, hce⟩ := cells_of (hS.keep hb1) (by omega)
      obtain ⟨bv, ov, rfl, hcv⟩ := cells_of ((hb.keep hbr).keep hb1) (by omega)
      have HGt : Hid (∀ k, k < 4 → 0 ≤ e.getD k 0 ∧ e.getD k 0 ≤ 9) := powB_get hpw
      have hB1 : Hid (Below w.heap.size w W1) := hbr.trans (hb1.mono hbr.size)
      have HCE := (show Hid _ from hce)
      have HCV := (show Hid _ from hcv)
      have hib : (k : Int) < len := by omega
      clear hc hst HZ hS hpw hbr hb1 hce hcv hb
      go_wp2_with fail
      (try rw [hW1])
      clear hW1
      go_loopw [9, 31] (fun x i w2 => ∃ (j : Nat) (u : Int), j ≤ 4 ∧ i = .int .i64 (j : Int) ∧ x = .int .i64 u ∧ w2 = W1 ∧ Hid (monF u (e.drop j) (env.drop j) = monF y e env)) (fun _ i _ => 4 - (intOf i).toNat)
      case atStart => exact ⟨0, y, by omega, rfl, rfl, rfl, rfl⟩
      case round =>
        obtain ⟨j, u, hj, rfl, rfl, rfl, HU⟩ := hrel
        by_cases hlt2 : j < 4
        · have c1 := HCE.out j hlt2
          have c2 := HCV.out j hlt2
          obtain ⟨g0, g9⟩ := HGt.out j hlt2
          have hst := monF_drop u e env j (by omega) (by omega)
          rw [HU.out] at hst
          obtain ⟨q, hq⟩ : ∃ q : Nat, e.getD j 0 = (q : Int) := ⟨(e.getD j 0).toNat, by omega⟩
          rw [hq] at c1 hst g9
          rw [Int.toNat_natCast] at hst
          generalize env.getD j 0 = v at c2 hst
          have HS2 : Hid (monF (wrap64 (u * pw v q)) (e.drop (j + 1)) (env.drop (j + 1)) = monF y e env) := hst.symm
          have HP := (show Hid _ from powS_in v q wr (by omega))
          have i1 : (j : Int) < 4 := by omega
          generalize pw v q = P at HS2 HP
          clear hst HU hq g0
          go_wp2_with fail
          refine Calls.mono HP.out ?_
          rintro r w1 ⟨rfl, rfl⟩
          clear HP
          go_wp2
          go_roundw
          case rel => exact ⟨j + 1, _, by omega, by go_num, rfl, by first | trivial | rfl, HS2⟩
          case measure => simp [intOf]; omega
        · obtain rfl : j = 4 := by omega
          have HE : Hid (monF y e env = u) := by show _ = _; rw [← HU.out, monF_end u e _ 4 (by omega)]
          have HS2 : Hid (sumF env (wrap64 (z + u)) (p.drop (k + 1)) = sumF env 0 p) := by have := HS.out; rw [HE.out] at this; exact this
          clear HU HS HE
          go_wp2
          go_roundw
          case rel => exact ⟨k + 1, _, by omega, by go_num, rfl, hB1.out, HS2⟩
          case measure => simp [intOf]; omega
    · obtain rfl : k = len := by omega
      have HE : Hid (sumF env 0 p = z) := by show _ = _; rw [← HZ.out, List.drop_of_length_le (by omega)]; rfl
      clear HZ
      go_wp2
      go_ret2
      exact ⟨by rw [HE.out]; rfl, hbr⟩
theorem specEvalP_any (a : Option Addr) (len cap : Nat) (p : List Mon) (b : Option Addr) (lb cb : Nat) (env : List Int) (w : World) (ha : PSl w a len p) (hb : Sl w b lb env) (hm : len ≤ 9223372036854775807) (hmb : lb ≤ 9223372036854775807) :
    Calls Tryz.prog 17 #[.slice a len cap, .slice b lb cb] w fun r w' => r = .returned (.tuple #[.int .i64 (evalPV p env), .bool (evalPok p env)]) ∧ Below w.heap.size w w' := by
  have hlb := hb.1
  cases hp : polyB p with
  | true =>
    by_cases h4 : lb = 4
    · subst h4
      have e1 : evalPok p env = true := by unfold evalPok; rw [hp, hlb]; rfl
      have e2 : evalPV p env = sumF env 0 p := by unfold evalPV; rw [if_pos e1]
      rw [e1, e2]
      exact specEvalP_in a len cap p b cb env w ha hb hp
    · have e1 : evalPok p env = false := by unfold evalPok; rw [hp, hlb, decide_eq_false h4]; rfl
      have e2 : evalPV p env = 0 := by unfold evalPV; rw [e1]; rfl
      rw [e1, e2]
      have HG := (show Hid _ from specPoly_any a len cap p w ha hm)
      rw [hp] at HG
      have h4' : ((lb : Int) != 4) = true := by simp; omega
      clear e1 e2 hp
      go_enter Tryz.func17, Tryz.ntmps17
      go_wp2_with fail
      refine Calls.mono HG.out ?_
      rintro r w1 ⟨rfl, hb1⟩
      clear HG
      go_wp2
      go_ret2
      exact ⟨rfl, hb1⟩
  | false =>
    have e1 : evalPok p env = false := by unfold evalPok; rw [hp]; rfl
    have e2 : evalPV p env = 0 := by unfold evalPV; rw [e1]; rfl
    rw [e1, e2]
    have HG := (show Hid _ from specPoly_any a len cap p w ha hm)
    rw [hp] at HG
    clear e1 e2 hp
    go_enter Tryz.func17, Tryz.ntmps17
    go_wp2_with fail
    refine Calls.mono HG.out ?_
    rintro r w1 ⟨rfl, hb1⟩
    clear HG
    go_wp2
    go_ret2
    exact ⟨rfl, hb1⟩
end Go.Proofs.YtpjgjpjfchfmlaaGreatDoor
