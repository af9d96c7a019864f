/-
  PROVED HERE: what the program's sum of a number, of a sum times a number and of two sums answer. No other condition.
-/
import Derived.Test.YtpjgjpjfchfmlaaGreatDoorIPolyAM
import Derived.Test.YtpjgjpjfchfmlaaGreatDoorPolyOfs
namespace Go.Proofs.YtpjgjpjfchfmlaaGreatDoor
open Go.ChangeShapes Go.WideShapes Go.ChangeAt Go.RowKit
open Go.MapKept Go.ChangeMaps
set_option linter.unusedVariables false

/-- How the program answers with a sum or none. -/
def IAns (W : World) (s : List Mon) (r : Ending) (w' : World) : Prop := ∃ v, r = .returned (.tuple #[v, .bool (polyB s)]) ∧ OwnV w' W.heap.size v (if polyB s = true then s else []) ∧ Below W.heap.size W w'
theorem order_ans {w W : World} {b : Nat} {M s : List Mon} (hW : Below w.heap.size w W) (h : PMap W b M) (hs : SumM M) (hl : M.length ≤ 100000) (hss : ∀ q, Sum4 q → (∀ e, coef q e = coef M e) → q = s) :
    Calls Tryz.prog 55 #[.map (some b)] W fun r w' => IAns w s r w' :=
  (order_any b M W h hs hl).mono fun r w' ⟨v, q, t1, t2, t3, t4, t5, t6⟩ => by
    have := hss q ⟨t3, t4⟩ t5
    subst this
    exact ⟨v, t1, t6.lower hW.size, hW.trans (t2.mono hW.size)⟩
set_option maxHeartbeats 1600000 in
theorem polyTimes_any (a : Option Addr) (la ca : Nat) (p : List Mon) (n : Int) (hn : InI n) (w : World) (ha : PSl w a la p) (hg : polyB p = true) :
    Calls Tryz.prog 87 #[.slice a la ca, .int .i64 n] w fun r w' => IAns w (mulP p (numP n)) r w' := by
  have kp := key4_of hg
  have hal := ha.1
  have lp := poly_len hg
  have hmm := @run_makeMap Tryz.prog
  have HT1 : Hid (∀ W, Below w.heap.size w W → Calls Tryz.prog 100 #[.map (some W.heap.size), .slice a la ca, .int .i64 n] (W.alloc (.map #[] 0)) fun r w' => r = .returned (.tuple #[]) ∧ Below w.heap.size w w' ∧ ∃ M', PMap w' W.heap.size M' ∧ SumM M' ∧ M'.length ≤ la ∧ ∀ e', Like (coef M' e') (0 + n * coef p e')) := fun W hW => (times_any W.heap.size [] (fun _ => 0) a la ca p n w (W.alloc (.map #[] 0)) ha (hW.alloc hW.size _) hW.size (by omega) kp (pmap_new W) (fun m hm => by cases hm) (fun e' => Like.refl _)).mono fun r w' ⟨t1, t2, M', t3, t4, t5, t6⟩ => ⟨t1, t2, M', t3, t4, by simp at t5; omega, t6⟩
  have HOr : Hid (∀ W B M1, Below w.heap.size w W → PMap W B M1 → SumM M1 → M1.length ≤ la → (∀ e', Like (coef M1 e') (0 + n * coef p e')) → Calls Tryz.prog 55 #[.map (some B)] W fun r w' => IAns w (mulP p (numP n)) r w') := fun W B M1 hW hP hS hL hd => order_ans hW hP hS (by omega) fun q hq hc => times_same hq (fun m hm => (kp m hm).1) hn fun e => by
    rw [hc e]; have := hd e; rwa [Int.zero_add] at this
  clear kp ha hg
  go_enter Tryz.func87, Tryz.ntmps87
  go_wp2_with fail
  refine Calls.mono (HT1.out _ (Below.refl _ _)) ?_
  rintro r w3 ⟨rfl, hB3, M3, p3, s3, l3, c3⟩
  clear HT1
  go_wp2_with fail
  refine Calls.mono (HOr.out _ _ _ hB3 p3 s3 l3 c3) ?_
  rintro r w5 ⟨v5, rfl, o5, hB5⟩
  clear HOr hB3 p3 s3 c3
  go_wp2
  go_ret2
  exact ⟨_, rfl, o5, hB5⟩
set_option maxHeartbeats 1600000 in
theorem polyNum_any (n : Int) (hn : InI n) (w : World) :
    Calls Tryz.prog 54 #[.int .i64 n] w fun r w' => IAns w (numP n) r w' := by
  have hmm := @run_makeMap Tryz.prog
  have HT1 : Hid (∀ W, Below w.heap.size w W → Calls Tryz.prog 83 #[.map (some W.heap.size), .agg #[.int .i64 0, .int .i64 0, .int .i64 0, .int .i64 0], .int .i64 n] (W.alloc (.map #[] 0)) fun r w' => r = .returned (.tuple #[]) ∧ Below w.heap.size w w' ∧ ∃ M', PMap w' W.heap.size M' ∧ SumM M' ∧ M'.length ≤ 1 ∧ ∀ e', Like (coef M' e') (0 + if zero4 = e' then n else 0)) := fun W hW => (put_acc W.heap.size [] (fun _ => 0) 0 0 0 0 n (W.alloc (.map #[] 0)) (pmap_new W) (fun m hm => by cases hm) ⟨rfl, fun x hx => by simp at hx; subst hx; unfold InI; omega⟩ (fun e' => Like.refl _)).mono fun r w' ⟨t1, t2, M', t3, t4, t5, t6⟩ => ⟨t1, (hW.alloc hW.size _).grown t2 (hW.alloc hW.size _).size (fun r hr => by cases hr; exact hW.size), M', t3, t4, by simpa using t5, t6⟩
  have HOr : Hid (∀ W B M1, Below w.heap.size w W → PMap W B M1 → SumM M1 → M1.length ≤ 1 → (∀ e', Like (coef M1 e') (0 + if zero4 = e' then n else 0)) → Calls Tryz.prog 55 #[.map (some B)] W fun r w' => IAns w (numP n) r w') := fun W B M1 hW hP hS hL hd => order_ans hW hP hS (by omega) fun q hq hc => by
    obtain ⟨g1, g2, g3⟩ := putP_ok (k := 4) (p := []) (e := zero4) (n := n) rfl hn List.Pairwise.nil (fun x hx => by cases hx)
    refine sum_unique hq ⟨g1, g2⟩ fun e => ?_
    rw [hc e]
    exact (hd e).trans (g3 e).symm
  go_enter Tryz.func54, Tryz.ntmps54
  go_wp2_with fail
  refine Calls.mono (HT1.out _ (Below.refl _ _)) ?_
  rintro r w3 ⟨rfl, hB3, M3, p3, s3, l3, c3⟩
  clear HT1
  go_wp2_with fail
  refine Calls.mono (HOr.out _ _ _ hB3 p3 s3 l3 c3) ?_
  rintro r w5 ⟨v5, rfl, o5, hB5⟩
  clear HOr hB3 p3 s3 c3
  go_wp2
  go_ret2
  exact ⟨_, rfl, o5, hB5⟩
set_option maxHeartbeats 1600000 in
theorem polyPair_any (op : Int) (a : Option Addr) (la ca : Nat) (p : List Mon) (b : Option Addr) (lb cb : Nat) (q : List Mon) (w : World) (ha : PSl w a la p) (hb : PSl w b lb q) (hgp : polyB p = true) (hgq : polyB q = true) (hp : ∀ x ∈ p, InI x.2) (hq : ∀ x ∈ q, InI x.2) (hop : op = 4 ∨ op = 5 ∨ op = 6) :
    Calls Tryz.prog 89 #[.int .i64 op, .slice a la ca, .slice b lb cb] w fun r w' => IAns w (twoP op p q) r w' := by
  have hal := ha.1
  have hbl := hb.1
  have lp := poly_len hgp
  have lq := poly_len hgq
  rcases hop with rfl | rfl | rfl
  · have HA : Hid (Calls Tryz.prog 101 #[.slice a la ca, .slice b lb cb] w fun r w' => IAns w (twoP 4 p q) r w') := (implAdd_any a la ca p b lb cb q w ha hb (by omega) (by omega) hp hq).mono fun r w' ⟨v, t1, t2, t3⟩ => by
      have e1 : addOk p q = polyB (addP p q) := by unfold addOk; rw [hgp, hgq]; rfl
      have e2 : addR p q = if polyB (addP p q) = true then addP p q else [] := by unfold addR; rw [e1]
      rw [e1] at t1; rw [e2] at t2
      exact ⟨v, t1, t2, t3⟩
    clear ha hb
    go_enter Tryz.func89, Tryz.ntmps89
    go_wp2_with fail
    refine Calls.mono HA.out ?_
    rintro r w5 ⟨v5, rfl, o5, hB5⟩
    clear HA
    go_wp2
    go_ret2
    exact ⟨_, rfl, o5, hB5⟩
  · have kp := key4_of hgp
    have kq := key4_of hgq
    have fp := fine_of hgp hp
    have hmm := @run_makeMap Tryz.prog
    have HT1 : Hid (∀ W, Below w.heap.size w W → Calls Tryz.prog 100 #[.map (some W.heap.size), .slice a la ca, .int .i64 1] (W.alloc (.map #[] 0)) fun r w' => r = .returned (.tuple #[]) ∧ Below w.heap.size w w' ∧ ∃ M', PMap w' W.heap.size M' ∧ SumM M' ∧ M'.length ≤ la ∧ ∀ e', Like (coef M' e') (0 + 1 * coef p e')) := fun W hW => (times_any W.heap.size [] (fun _ => 0) a la ca p 1 w (W.alloc (.map #[] 0)) ha (hW.alloc hW.size _) hW.size (by omega) kp (pmap_new W) (fun m hm => by cases hm) (fun e' => Like.refl _)).mono fun r w' ⟨t1, t2, M', t3, t4, t5, t6⟩ => ⟨t1, t2, M', t3, t4, by simp at t5; omega, t6⟩
    have HT2 : Hid (∀ W B M1, Below w.heap.size w W → w.heap.size ≤ B → PMap W B M1 → SumM M1 → M1.length ≤ la → (∀ e', Like (coef M1 e') (0 + 1 * coef p e')) → Calls Tryz.prog 100 #[.map (some B), .slice b lb cb, .int .i64 (-1)] W fun r w' => r = .returned (.tuple #[]) ∧ Below w.heap.size w w' ∧ ∃ M', PMap w' B M' ∧ SumM M' ∧ M'.length ≤ la + lb ∧ ∀ e', Like (coef M' e') (0 + 1 * coef p e' + -1 * coef q e')) := fun W B M1 hW hB hP hS hL hd => (times_any B M1 _ b lb cb q (-1) w W hb hW hB (by omega) kq hP hS hd).mono fun r w' ⟨t1, t2, M', t3, t4, t5, t6⟩ => ⟨t1, t2, M', t3, t4, by omega, t6⟩
    have HOr : Hid (∀ W B M1, Below w.heap.size w W → PMap W B M1 → SumM M1 → M1.length ≤ la + lb → (∀ e', Like (coef M1 e') (0 + 1 * coef p e' + -1 * coef q e')) → Calls Tryz.prog 55 #[.map (some B)] W fun r w' => IAns w (twoP 5 p q) r w') := fun W B M1 hW hP hS hL hd => order_ans hW hP hS (by omega) fun s hs hc => sub_same hs fp (fun m hm => (kq m hm).1) fun e => by
      rw [hc e]; have := hd e; rwa [Int.zero_add, Int.one_mul] at this
    clear kp kq ha hb fp
    go_enter Tryz.func89, Tryz.ntmps89
    go_wp2_with fail
    refine Calls.mono (HT1.out _ (Below.refl _ _)) ?_
    rintro r w3 ⟨rfl, hB3, M3, p3, s3, l3, c3⟩
    clear HT1
    go_wp2_with fail
    refine Calls.mono (HT2.out _ _ _ hB3 (Nat.le_refl _) p3 s3 l3 c3) ?_
    rintro r w4 ⟨rfl, hB4, M4, p4, s4, l4, c4⟩
    clear HT2 hB3 p3 s3 c3
    go_wp2_with fail
    refine Calls.mono (HOr.out _ _ _ hB4 p4 s4 l4 c4) ?_
    rintro r w5 ⟨v5, rfl, o5, hB5⟩
    clear HOr hB4 p4 s4 c4
    go_wp2
    go_ret2
    exact ⟨_, rfl, o5, hB5⟩
  · have HA : Hid (Calls Tryz.prog 102 #[.slice a la ca, .slice b lb cb] w fun r w' => IAns w (twoP 6 p q) r w') := (implMul_any a la ca p b lb cb q w ha hb (by omega) (by omega) hp hq).mono fun r w' ⟨v, t1, t2, t3⟩ => by
      have e1 : mulOk p q = polyB (mulP p q) := by unfold mulOk; rw [hgp, hgq]; rfl
      have e2 : mulR p q = if polyB (mulP p q) = true then mulP p q else [] := by unfold mulR; rw [e1]
      rw [e1] at t1; rw [e2] at t2
      exact ⟨v, t1, t2, t3⟩
    clear ha hb
    go_enter Tryz.func89, Tryz.ntmps89
    go_wp2_with fail
    refine Calls.mono HA.out ?_
    rintro r w5 ⟨v5, rfl, o5, hB5⟩
    clear HA
    go_wp2
    go_ret2
    exact ⟨_, rfl, o5, hB5⟩
end Go.Proofs.YtpjgjpjfchfmlaaGreatDoor
