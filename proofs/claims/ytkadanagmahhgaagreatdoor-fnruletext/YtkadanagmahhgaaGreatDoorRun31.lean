/-
  PROVED HERE: what the program's AddPoly answers. No other condition. what the program's adding of powers answers. No other condition. what the program's MulPoly answers. No other condition. what the program's sum of a number, of a sum times a number and of two sums answer. No other condition.
-/
import Derived.Test.YtkadanagmahhgaaGreatDoorRun25
import Derived.Test.YtkadanagmahhgaaGreatDoorRun28
import Derived.Test.YtkadanagmahhgaaGreatDoorRun30
import Derived.Carry
import Derived.Test.YtkadanagmahhgaaGreatDoorRun1
import Derived.Test.YtkadanagmahhgaaGreatDoorRun26
namespace Go.Proofs.YtkadanagmahhgaaGreatDoor
open Go.ChangeShapes Go.WideShapes Go.ChangeAt Go.RowKit
open Go.MapKept Go.ChangeMaps
set_option linter.unusedVariables false

theorem pmap_new (w : World) : PMap (w.alloc (.map #[] 0)) w.heap.size [] := ⟨#[], 0, heap_alloc_new _ _, stamped_empty _, rfl, fun m hm => by cases hm⟩
theorem key4_of {p : List Mon} (h : polyB p = true) : ∀ m ∈ p, Key4 m.1 := fun m hm => by
  have : ∀ (prev : Option (List Int)) (q : List Mon), gpF prev q = true → ∀ x ∈ q, powB x.1 = true := by
    intro prev q
    induction q generalizing prev with
    | nil => intro _ x hx; cases hx
    | cons m r ih =>
      intro hq x hx
      rw [gpF, Bool.and_eq_true] at hq
      rcases List.mem_cons.1 hx with rfl | hx
      · have h1 := hq.1; unfold fitM at h1; rw [Bool.and_eq_true, Bool.and_eq_true] at h1; exact h1.1.1
      · exact ih _ hq.2 x hx
  unfold polyB at h
  rw [Bool.and_eq_true] at h
  have hp := this _ p h.1 m hm
  refine ⟨pow_len hp, fun x hx => ?_⟩
  unfold powB allB at hp
  rw [Bool.and_eq_true, List.all_eq_true] at hp
  have := hp.2 x hx
  rw [Bool.and_eq_true] at this
  have t1 := of_decide_eq_true this.1
  have t2 := of_decide_eq_true this.2
  unfold InI
  omega
theorem OwnV.nil (w : World) (lo : Nat) : OwnV w lo (.slice none 0 0) [] := .inl ⟨rfl, _, _, rfl⟩
theorem OwnV.lower {w : World} {lo lo' : Nat} {v : Value} {q : List Mon} (h : OwnV w lo v q) (hl : lo' ≤ lo) : OwnV w lo' v q := by
  rcases h with h | ⟨g, cap, h1, h2, h3, h4⟩
  · exact .inl h
  · exact .inr ⟨g, cap, h1, h2, h3, h4.map hl (Nat.le_refl _) (Nat.le_refl _) (fun _ _ _ => rfl)⟩
set_option maxHeartbeats 1600000 in
theorem implAdd_any (a : Option Addr) (la ca : Nat) (p : List Mon) (b : Option Addr) (lb cb : Nat) (q : List Mon) (w : World) (ha : PSl w a la p) (hb : PSl w b lb q) (hla : la ≤ 9223372036854775807) (hlb : lb ≤ 9223372036854775807) (hp : ∀ x ∈ p, InI x.2) (hq : ∀ x ∈ q, InI x.2) :
    Calls Tryz.prog 175 #[.slice a la ca, .slice b lb cb] w fun r w' => ∃ v, r = .returned (.tuple #[v, .bool (addOk p q)]) ∧ OwnV w' w.heap.size v (addR p q) ∧ Below w.heap.size w w' := by
  have HG := (show Hid _ from implPoly_any a la ca p w ha hla)
  have HH : Hid (∀ W, Below w.heap.size w W → Calls Tryz.prog 160 #[.slice b lb cb] W fun e w' => e = .returned (.bool (polyB q)) ∧ Below W.heap.size W w') := fun W hW => implPoly_any b lb cb q W (hb.keep hW) hlb
  cases h1 : polyB p with
  | false =>
    have e1 : addOk p q = false := by unfold addOk; rw [h1]; rfl
    have e2 : addR p q = [] := by unfold addR; rw [e1]; rfl
    rw [e1, e2]
    rw [h1] at HG
    clear h1 e1 e2 ha hb
    go_enter Tryz.func175, Tryz.ntmps175
    go_wp2_with fail
    refine Calls.mono HG.out ?_
    rintro r w1 ⟨rfl, hb1⟩
    clear HG
    go_wp2
    go_ret2
    exact ⟨_, rfl, OwnV.nil _ _, hb1⟩
  | true =>
    rw [h1] at HG
    cases h2 : polyB q with
    | false =>
      have e1 : addOk p q = false := by unfold addOk; rw [h1, h2]; rfl
      have e2 : addR p q = [] := by unfold addR; rw [e1]; rfl
      rw [e1, e2]
      rw [h2] at HH
      clear h1 h2 e1 e2 ha hb
      go_enter Tryz.func175, Tryz.ntmps175
      go_wp2_with fail
      refine Calls.mono HG.out ?_
      rintro r w1 ⟨rfl, hb1⟩
      clear HG
      go_wp2_with fail
      refine Calls.mono (HH.out _ hb1) ?_
      rintro r w2 ⟨rfl, hb2⟩
      have hB := hb1.trans (hb2.mono hb1.size)
      clear HH hb1 hb2
      go_wp2
      go_ret2
      exact ⟨_, rfl, OwnV.nil _ _, hB⟩
    | true =>
      rw [h2] at HH
      have fp := fine_of h1 hp
      have fq := fine_of h2 hq
      have lp := poly_len h1
      have lq := poly_len h2
      have kp := key4_of h1
      have kq := key4_of h2
      have e1 : addOk p q = polyB (addP p q) := by unfold addOk; rw [h1, h2]; rfl
      have e2 : addR p q = if polyB (addP p q) = true then addP p q else [] := by unfold addR; rw [e1]
      rw [e1, e2]
      have hal := ha.1
      have hbl := hb.1
      have hmm := @run_makeMap Tryz.prog
      have HT1 : Hid (∀ W, Below w.heap.size w W → Calls Tryz.prog 173 #[.map (some W.heap.size), .slice a la ca, .int .i64 1] (W.alloc (.map #[] 0)) fun r w' => r = .returned (.tuple #[]) ∧ Below w.heap.size w w' ∧ ∃ M', PMap w' W.heap.size M' ∧ SumM M' ∧ M'.length ≤ la ∧ ∀ e', Like (coef M' e') (0 + 1 * coef p e')) := fun W hW => (times_any W.heap.size [] (fun _ => 0) a la ca p 1 w (W.alloc (.map #[] 0)) ha (hW.alloc hW.size _) hW.size (by omega) kp (pmap_new W) (fun m hm => by cases hm) (fun e' => Like.refl _)).mono fun r w' ⟨t1, t2, M', t3, t4, t5, t6⟩ => ⟨t1, t2, M', t3, t4, by simp at t5; omega, t6⟩
      have HT2 : Hid (∀ W B M1, Below w.heap.size w W → w.heap.size ≤ B → PMap W B M1 → SumM M1 → M1.length ≤ la → (∀ e', Like (coef M1 e') (0 + 1 * coef p e')) → Calls Tryz.prog 173 #[.map (some B), .slice b lb cb, .int .i64 1] W fun r w' => r = .returned (.tuple #[]) ∧ Below w.heap.size w w' ∧ ∃ M', PMap w' B M' ∧ SumM M' ∧ M'.length ≤ la + lb ∧ ∀ e', Like (coef M' e') (0 + 1 * coef p e' + 1 * coef q e')) := fun W B M1 hW hB hP hS hL hd => (times_any B M1 _ b lb cb q 1 w W hb hW hB (by omega) kq hP hS hd).mono fun r w' ⟨t1, t2, M', t3, t4, t5, t6⟩ => ⟨t1, t2, M', t3, t4, by omega, t6⟩
      have hadd := addP_ok fp fq
      have HOr : Hid (∀ W B M1, Below w.heap.size w W → PMap W B M1 → SumM M1 → M1.length ≤ la + lb → (∀ e', Like (coef M1 e') (0 + 1 * coef p e' + 1 * coef q e')) → Calls Tryz.prog 141 #[.map (some B)] W fun r w' => ∃ v, r = .returned (.tuple #[v, .bool (polyB (addP p q))]) ∧ OwnV w' w.heap.size v (if polyB (addP p q) = true then addP p q else []) ∧ Below w.heap.size w w') := fun W B M1 hW hP hS hL hd => (order_any B M1 W hP hS (by omega)).mono fun r w' ⟨v, s, t1, t2, t3, t4, t5, t6⟩ => by
        have : s = addP p q := sum_unique ⟨t3, t4⟩ hadd.1 (fun e => by
          rw [t5 e]
          refine (hd e).trans ?_
          have := (hadd.2.2 e).symm
          rwa [show (0 : Int) + 1 * coef p e + 1 * coef q e = coef p e + coef q e from by omega])
        subst this
        exact ⟨v, t1, t6.lower hW.size, hW.trans (t2.mono hW.size)⟩
      clear h1 h2 e1 e2 fp fq kp kq hadd hp hq ha hb
      generalize (if polyB (addP p q) = true then addP p q else []) = R at HOr ⊢
      generalize polyB (addP p q) = G at HOr ⊢
      go_enter Tryz.func175, Tryz.ntmps175
      go_wp2_with fail
      refine Calls.mono HG.out ?_
      rintro r w1 ⟨rfl, hb1⟩
      clear HG
      go_wp2_with fail
      refine Calls.mono (HH.out _ hb1) ?_
      rintro r w2 ⟨rfl, hb2⟩
      have hB2 := hb1.trans (hb2.mono hb1.size)
      clear HH hb1 hb2
      go_wp2_with fail
      refine Calls.mono (HT1.out _ hB2) ?_
      rintro r w3 ⟨rfl, hB3, M3, p3, s3, l3, c3⟩
      have hsB := hB2.size
      clear HT1 hB2
      go_wp2_with fail
      refine Calls.mono (HT2.out _ _ _ hB3 hsB p3 s3 l3 c3) ?_
      rintro r w4 ⟨rfl, hB4, M4, p4, s4, l4, c4⟩
      clear HT2 hB3 p3 s3 c3
      go_wp2_with fail
      refine Calls.mono (HOr.out _ _ _ hB4 p4 s4 l4 c4) ?_
      rintro r w5 ⟨v5, rfl, o5, hB5⟩
      clear HOr hB4 p4 s4 c4
      go_wp2
      go_ret2
      exact ⟨_, rfl, o5, hB5⟩
end Go.Proofs.YtkadanagmahhgaaGreatDoor
namespace Go.Proofs.YtkadanagmahhgaaGreatDoor
open Go.ChangeShapes Go.WideShapes Go.ChangeAt Go.RowKit
set_option linter.unusedVariables false

set_option maxHeartbeats 1600000 in
theorem added_any (a b : Option Addr) (ca cb : Nat) (x0 x1 x2 x3 y0 y1 y2 y3 : Int) (w : World) (ha : Sl w a 4 [x0, x1, x2, x3]) (hb : Sl w b 4 [y0, y1, y2, y3])
    (r0 : 0 ≤ x0 + y0 ∧ x0 + y0 ≤ 1000) (r1 : 0 ≤ x1 + y1 ∧ x1 + y1 ≤ 1000) (r2 : 0 ≤ x2 + y2 ∧ x2 + y2 ≤ 1000) (r3 : 0 ≤ x3 + y3 ∧ x3 + y3 ≤ 1000) :
    Calls Tryz.prog 199 #[.slice a 4 ca, .slice b 4 cb] w fun r w' => r = .returned (.agg #[.int .i64 (x0 + y0), .int .i64 (x1 + y1), .int .i64 (x2 + y2), .int .i64 (x3 + y3)]) ∧ Below w.heap.size w w' := by
  obtain ⟨b1, o1, rfl, hc1⟩ := cells_of ha (by omega)
  obtain ⟨b2, o2, rfl, hc2⟩ := cells_of hb (by omega)
  have hl1 : b1 < w.heap.size := World.block_lt_of_cell? w _ (hc1 0 (by omega))
  have hl2 : b2 < w.heap.size := World.block_lt_of_cell? w _ (hc2 0 (by omega))
  have c0 : w.cell? ⟨b1, o1, none⟩ = some (.int .i64 x0) := hc1 0 (by omega)
  have c1 : w.cell? ⟨b1, o1 + 1, none⟩ = some (.int .i64 x1) := hc1 1 (by omega)
  have c2 : w.cell? ⟨b1, o1 + 2, none⟩ = some (.int .i64 x2) := hc1 2 (by omega)
  have c3 : w.cell? ⟨b1, o1 + 3, none⟩ = some (.int .i64 x3) := hc1 3 (by omega)
  have d0 : w.cell? ⟨b2, o2, none⟩ = some (.int .i64 y0) := hc2 0 (by omega)
  have d1 : w.cell? ⟨b2, o2 + 1, none⟩ = some (.int .i64 y1) := hc2 1 (by omega)
  have d2 : w.cell? ⟨b2, o2 + 2, none⟩ = some (.int .i64 y2) := hc2 2 (by omega)
  have d3 : w.cell? ⟨b2, o2 + 3, none⟩ = some (.int .i64 y3) := hc2 3 (by omega)
  have n1 : ¬ b1 = w.heap.size := by omega
  have n2 : ¬ b1 = w.heap.size + 1 := by omega
  have n3 : ¬ b2 = w.heap.size := by omega
  have n4 : ¬ b2 = w.heap.size + 1 := by omega
  have n5 : ¬ w.heap.size + 1 = b1 := by omega
  have n6 : ¬ w.heap.size + 1 = b2 := by omega
  clear hc1 hc2 ha hb
  go_enter Tryz.func199, Tryz.ntmps199
  go_wp2_with fail
  refine wp_loop_rounds 5 ?_
  rw [rounds_succ]; go_wp2
  go_region
  all_goals (go_wp2; rw [rounds_succ]; go_wp2; go_region)
  all_goals (go_wp2; rw [rounds_succ]; go_wp2; go_region)
  all_goals (go_wp2; rw [rounds_succ]; go_wp2; go_region)
  all_goals (go_wp2; rw [rounds_succ]; go_wp2)
  all_goals exact bodyPost_ret (v := .agg #[.int .i64 (x0 + y0), .int .i64 (x1 + y1), .int .i64 (x2 + y2), .int .i64 (x3 + y3)]) (by simp [results, Tryz.results199, go_sem]) rfl ⟨rfl, by go_grown⟩
end Go.Proofs.YtkadanagmahhgaaGreatDoor
namespace Go.Proofs.YtkadanagmahhgaaGreatDoor
open Go.ChangeShapes Go.WideShapes Go.ChangeAt Go.RowKit
open Go.MapKept Go.ChangeMaps
set_option linter.unusedVariables false

/-- A later world, one block aside. -/
def GB (W w' : World) (b : Nat) : Prop := W.heap.size ≤ w'.heap.size ∧ ∀ x, x < W.heap.size → x ≠ b → w'.heap[x]? = W.heap[x]?
theorem GB.cell {W w' : World} {b : Nat} (h : GB W w' b) {p : Addr} (hp : p.block < W.heap.size) (hb : p.block ≠ b) : w'.cell? p = W.cell? p := by
  have e := h.2 p.block hp hb
  simp only [World.cell?, e]
theorem GB.refl (W : World) (b : Nat) : GB W W b := ⟨Nat.le_refl _, fun _ _ _ => rfl⟩
theorem GB.below {W a c : World} {b : Nat} (h : GB W a b) (hb : Below a.heap.size a c) : GB W c b := ⟨Nat.le_trans h.1 hb.size, fun x hx hne => (hb.block x (Nat.lt_of_lt_of_le hx h.1)).trans (h.2 x hx hne)⟩
theorem GB.grown {W a c : World} {b : Nat} (h : GB W a b) (hg : a.grownBy c (some b)) : GB W c b := ⟨Nat.le_trans h.1 hg.size, fun x hx hne => (hg.block x (Nat.lt_of_lt_of_le hx h.1) (by simpa using hne)).trans (h.2 x hx hne)⟩
theorem mulC_take (p q : List Mon) (k : Nat) (h : k < p.length) (e : List Int) : mulC (p.take (k + 1)) q e = mulC (p.take k) q e + coef (mulL (p.getD k ([], 0)) q) e := by
  have e1 : p.getD k ([], 0) = p[k] := by rw [List.getD_eq_getElem?_getD, List.getElem?_eq_getElem h]; rfl
  rw [List.take_succ_eq_append_getElem h, e1]
  show (List.map _ _).sum = (List.map _ _).sum + _
  rw [List.map_append, List.sum_append]
  simp
/-- What the map holds so far. -/
def AccR (w wr : World) (b L : Nat) (d : List Int → Int) : Prop := Below w.heap.size w wr ∧ ∃ M', PMap wr b M' ∧ SumM M' ∧ M'.length ≤ L ∧ ∀ e', Like (coef M' e') (d e')
theorem four_add (e f : List Int) (he : e.length = 4) (hf : f.length = 4) : addE e f = [e.getD 0 0 + f.getD 0 0, e.getD 1 0 + f.getD 1 0, e.getD 2 0 + f.getD 2 0, e.getD 3 0 + f.getD 3 0] := by
  match e, he, f, hf with
  | [a, b, c, d], _, [x, y, z, u], _ => rfl
theorem key_add {e f : List Int} (he : e.length = 4) (hf : f.length = 4) (hr : ∀ j, 0 ≤ e.getD j 0 + f.getD j 0 ∧ e.getD j 0 + f.getD j 0 ≤ 1000) : Key4 [e.getD 0 0 + f.getD 0 0, e.getD 1 0 + f.getD 1 0, e.getD 2 0 + f.getD 2 0, e.getD 3 0 + f.getD 3 0] := by
  refine ⟨rfl, fun x hx => ?_⟩
  have r0 := hr 0
  have r1 := hr 1
  have r2 := hr 2
  have r3 := hr 3
  simp only [List.mem_cons, List.not_mem_nil, or_false] at hx
  unfold InI
  rcases hx with rfl | rfl | rfl | rfl <;> omega
set_option maxHeartbeats 6400000 in
set_option maxRecDepth 20000 in
theorem implMul_any (a : Option Addr) (la ca : Nat) (p : List Mon) (b : Option Addr) (lb cb : Nat) (q : List Mon) (w : World) (ha : PSl w a la p) (hb : PSl w b lb q) (hla : la ≤ 9223372036854775807) (hlb : lb ≤ 9223372036854775807) (hp : ∀ x ∈ p, InI x.2) (hq : ∀ x ∈ q, InI x.2) :
    Calls Tryz.prog 176 #[.slice a la ca, .slice b lb cb] w fun r w' => ∃ v, r = .returned (.tuple #[v, .bool (mulOk p q)]) ∧ OwnV w' w.heap.size v (mulR p q) ∧ Below w.heap.size w w' := by
  have HG := (show Hid _ from implPoly_any a la ca p w ha hla)
  have HH : Hid (∀ W, Below w.heap.size w W → Calls Tryz.prog 160 #[.slice b lb cb] W fun e w' => e = .returned (.bool (polyB q)) ∧ Below W.heap.size W w') := fun W hW => implPoly_any b lb cb q W (hb.keep hW) hlb
  cases h1 : polyB p with
  | false =>
    have e1 : mulOk p q = false := by unfold mulOk; rw [h1]; rfl
    have e2 : mulR p q = [] := by unfold mulR; rw [e1]; rfl
    rw [e1, e2]
    rw [h1] at HG
    clear h1 e1 e2 ha hb
    go_enter Tryz.func176, Tryz.ntmps176
    go_wp2_with fail
    refine Calls.mono HG.out ?_
    rintro r w1 ⟨rfl, hb1⟩
    clear HG
    go_wp2
    go_ret2
    exact ⟨_, rfl, OwnV.nil _ _, hb1⟩
  | true =>
    rw [h1] at HG
    cases h2 : polyB q with
    | false =>
      have e1 : mulOk p q = false := by unfold mulOk; rw [h1, h2]; rfl
      have e2 : mulR p q = [] := by unfold mulR; rw [e1]; rfl
      rw [e1, e2]
      rw [h2] at HH
      clear h1 h2 e1 e2 ha hb
      go_enter Tryz.func176, Tryz.ntmps176
      go_wp2_with fail
      refine Calls.mono HG.out ?_
      rintro r w1 ⟨rfl, hb1⟩
      clear HG
      go_wp2_with fail
      refine Calls.mono (HH.out _ hb1) ?_
      rintro r w2 ⟨rfl, hb2⟩
      have hB := hb1.trans (hb2.mono hb1.size)
      clear HH hb1 hb2
      go_wp2
      go_ret2
      exact ⟨_, rfl, OwnV.nil _ _, hB⟩
    | true =>
      rw [h2] at HH
      have fp := fine_of h1 hp
      have fq := fine_of h2 hq
      have lp := poly_len h1
      have lq := poly_len h2
      have kp := key4_of h1
      have kq := key4_of h2
      have e1 : mulOk p q = polyB (mulP p q) := by unfold mulOk; rw [h1, h2]; rfl
      have e2 : mulR p q = if polyB (mulP p q) = true then mulP p q else [] := by unfold mulR; rw [e1]
      rw [e1, e2]
      have hal := ha.1
      have hbl := hb.1
      have hmm := @run_makeMap Tryz.prog
      have HRg := (show Hid _ from nine_of h1 h2)
      have HP := (show Hid _ from fp)
      have HQ := (show Hid _ from fq)
      have HMem : Hid (∀ (l : List Mon) k, k < l.length → l.getD k ([], 0) ∈ l) := fun l k hk => by
        rw [List.getD_eq_getElem?_getD, List.getElem?_eq_getElem hk]; exact List.getElem_mem _
      have hadd := mulP_ok (fun m hm => (fp m hm).1) (fun m hm => (fq m hm).1)
      have HOr : Hid (∀ W B, AccR w W B (40 * 40) (mulC p q) → Calls Tryz.prog 141 #[.map (some B)] W fun r w' => ∃ v, r = .returned (.tuple #[v, .bool (polyB (mulP p q))]) ∧ OwnV w' w.heap.size v (if polyB (mulP p q) = true then mulP p q else []) ∧ Below w.heap.size w w') := fun W B ⟨hW, M1, hP, hS, hL, hd⟩ => (order_any B M1 W hP hS (by omega)).mono fun r w' ⟨v, s, t1, t2, t3, t4, t5, t6⟩ => by
        have : s = mulP p q := sum_unique ⟨t3, t4⟩ hadd.1 (fun e => by
          rw [t5 e]
          exact (hd e).trans (hadd.2.2 e).symm)
        subst this
        exact ⟨v, t1, t6.lower hW.size, hW.trans (t2.mono hW.size)⟩
      clear h1 h2 e1 e2 fp fq kp kq hadd hp hq
      generalize (if polyB (mulP p q) = true then mulP p q else []) = R at HOr ⊢
      generalize polyB (mulP p q) = G at HOr ⊢
      go_enter Tryz.func176, Tryz.ntmps176
      go_wp2_with fail
      refine Calls.mono HG.out ?_
      rintro r w1 ⟨rfl, hb1⟩
      clear HG
      go_wp2_with fail
      refine Calls.mono (HH.out _ hb1) ?_
      rintro r w2 ⟨rfl, hb2⟩
      have hB2 := hb1.trans (hb2.mono hb1.size)
      have hA2 : Hid (AccR w (w2.alloc (.map #[] 0)) w2.heap.size 0 (fun _ => 0)) := ⟨hB2.alloc hB2.size _, [], pmap_new w2, fun m hm => by (cases hm), Nat.le_refl _, fun e' => Like.refl _⟩
      have hmb : w.heap.size ≤ w2.heap.size := hB2.size
      clear HH hb1 hb2 hB2
      obtain ⟨mb, hmbe⟩ : ∃ mb, w2.heap.size = mb := ⟨_, rfl⟩
      rw [hmbe] at hA2 hmb
      go_wp2_with fail
      (try rw [hmbe])
      obtain ⟨W0, hW0⟩ : ∃ W0, w2.alloc (.map #[] 0) = W0 := ⟨_, rfl⟩
      rw [hW0] at hA2
      (try rw [hW0])
      clear hW0 hmbe
      go_loopw [22] (fun i wr => ∃ k : Nat, k ≤ la ∧ i = .int .i64 (k : Int) ∧ Hid (AccR w wr mb (k * 40) (mulC (p.take k) q))) (fun i _ => la - (intOf i).toNat)
      case atStart => exact ⟨0, Nat.zero_le _, rfl, hA2⟩
      case round =>
        obtain ⟨k, hk, rfl, HR⟩ := hrel
        clear hA2
        by_cases hlt : k < la
        · obtain ⟨bp, off, rfl, hbl, hc⟩ := ha.at (by omega)
          obtain ⟨ai, li, ci, c1, hli, hci, hS, c2⟩ := hc k hlt
          have hmm := HP.out _ (HMem.out p k (by omega))
          have hmp := HMem.out p k (by omega)
          have hct := fun e' => mulC_take p q k (by omega) e'
          obtain ⟨m, hm⟩ : ∃ m, p.getD k ([], 0) = m := ⟨_, rfl⟩
          rw [hm] at c2 hS hmm hmp
          simp only [hm] at hct
          obtain ⟨e, y⟩ := m
          simp only at c2 hS hmm
          obtain rfl : li = 4 := by have := hS.1; omega
          obtain ⟨be, oe, rfl, hce⟩ := cells_of hS (by omega)
          obtain ⟨hbr, M0, hP0, hS0, hl0, hc0⟩ := HR.out
          have hmlt := hP0.lt
          have hszw := hbr.size
          have d1 := (hbr.cell (p := ⟨bp, off + k * 2, none⟩) hbl).trans c1
          have d2 := (hbr.cell (p := ⟨bp, off + k * 2 + 1, none⟩) hbl).trans c2
          obtain ⟨W1, hW1⟩ : ∃ W1, wr.alloc (.cells #[.slice (some ⟨be, oe, none⟩) 4 ci, .int .i64 y] 100) = W1 := ⟨_, rfl⟩
          have hb1 : Below wr.heap.size wr W1 := by rw [← hW1]; exact (Below.refl _ _).alloc (Nat.le_refl _) _
          have hs1 : W1.heap.size = wr.heap.size + 1 := by rw [← hW1]; simp
          have n0 : W1.cell? ⟨wr.heap.size, 0, none⟩ = some (.slice (some ⟨be, oe, none⟩) 4 ci) := by rw [← hW1]; simp [go_sem]
          have n1 : W1.cell? ⟨wr.heap.size, 1, none⟩ = some (.int .i64 y) := by rw [← hW1]; simp [go_sem]
          obtain ⟨B8, hB8⟩ : ∃ B8, wr.heap.size = B8 := ⟨_, rfl⟩
          have HN : Hid (∀ W, GB W1 W mb → W.cell? ⟨B8, 0, none⟩ = some (.slice (some ⟨be, oe, none⟩) 4 ci) ∧ W.cell? ⟨B8, 1, none⟩ = some (.int .i64 y)) := fun W hW => by
            rw [← hB8]
            exact ⟨(hW.cell (p := ⟨wr.heap.size, 0, none⟩) (by show wr.heap.size < _; omega) (by show wr.heap.size ≠ mb; omega)).trans n0, (hW.cell (p := ⟨wr.heap.size, 1, none⟩) (by show wr.heap.size < _; omega) (by show wr.heap.size ≠ mb; omega)).trans n1⟩
          have HM0 : Hid (AccR w W1 mb (k * 40 + 0) (fun e' => mulC (p.take k) q e' + coef ((mulL (e, y) q).take 0) e') ∧ GB W1 W1 mb) := ⟨⟨hbr.trans (hb1.mono hbr.size), M0, hP0.keep hb1, hS0, hl0, fun e' => by simp only [List.take_zero, coef_nil, Int.add_zero]; exact hc0 e'⟩, GB.refl _ _⟩
          have hik : (k : Int) < la := by omega
          have hbne : ¬ bp = wr.heap.size := by omega
          have HS : Hid (Sl w (some ⟨be, oe, none⟩) 4 e) := hS
          have HE4 := (show Hid _ from hmm)
          have HMp := (show Hid _ from hmp)
          have HCt := (show Hid _ from hct)
          clear hbr hP0 hS0 hc0 HR hc hS hmm hm hb1 hce n0 n1 hmp c1 c2 hct
          go_wp2_with fail
          (try rw [hW1])
          (try rw [hB8])
          clear hW1 d1 d2
          go_loopw [28] (fun i wm => ∃ (j : Nat), j ≤ lb ∧ i = .int .i64 (j : Int) ∧ Hid (AccR w wm mb (k * 40 + j) (fun e' => mulC (p.take k) q e' + coef ((mulL (e, y) q).take j) e') ∧ GB W1 wm mb)) (fun i _ => lb - (intOf i).toNat)
          case atStart => exact ⟨0, by omega, rfl, HM0⟩
          case round =>
            obtain ⟨j, hj, rfl, HRm⟩ := hrel
            clear HM0
            by_cases hlt2 : j < lb
            · obtain ⟨⟨hbr, M1, hP1, hS1, hl1, hc1⟩, hgb⟩ := HRm.out
              obtain ⟨bq, offq, rfl, hblq, hcq⟩ := hb.at (by omega)
              obtain ⟨aj, lj, cj, c1, hlj, hcj, hSj, c2⟩ := hcq j hlt2
              have hmq := HQ.out _ (HMem.out q j (by omega))
              have hml := mulL_get (e, y) q j (by omega)
              have hrg := HRg.out _ HMp.out _ (HMem.out q j (by omega))
              have hct := fun e' => coef_take (mulL (e, y) q) j (by simp [mulL]; omega) e'
              simp only [hml] at hct
              obtain ⟨m2, hm2⟩ : ∃ m, q.getD j ([], 0) = m := ⟨_, rfl⟩
              rw [hm2] at c2 hSj hmq hrg
              simp only [hm2] at hct
              obtain ⟨f, x⟩ := m2
              simp only at c2 hSj hmq hrg hct
              obtain rfl : lj = 4 := by have := hSj.1; omega
              obtain ⟨bf, of, rfl, hcf⟩ := cells_of hSj (by omega)
              have hszr := hbr.size
              have hmlt2 := hP1.lt
              have d1 := (hbr.cell (p := ⟨bq, offq + j * 2, none⟩) hblq).trans c1
              have d2 := (hbr.cell (p := ⟨bq, offq + j * 2 + 1, none⟩) hblq).trans c2
              obtain ⟨W2, hW2⟩ : ∃ W2, wr.alloc (.cells #[.slice (some ⟨bf, of, none⟩) 4 cj, .int .i64 x] 100) = W2 := ⟨_, rfl⟩
              have hb2 : Below wr.heap.size wr W2 := by rw [← hW2]; exact (Below.refl _ _).alloc (Nat.le_refl _) _
              have hs2 : W2.heap.size = wr.heap.size + 1 := by rw [← hW2]; simp
              have hg2 := hgb.below hb2
              have hB2 := hbr.trans (hb2.mono hbr.size)
              obtain ⟨k0, k1⟩ := HN.out W2 hg2
              have m0 : W2.cell? ⟨wr.heap.size, 0, none⟩ = some (.slice (some ⟨bf, of, none⟩) 4 cj) := by rw [← hW2]; simp [go_sem]
              have m1 : W2.cell? ⟨wr.heap.size, 1, none⟩ = some (.int .i64 x) := by rw [← hW2]; simp [go_sem]
              obtain ⟨B10, hB10⟩ : ∃ B10, wr.heap.size = B10 := ⟨_, rfl⟩
              rw [hB10] at m0 m1 hs2
              have he4 := HE4.out.1
              have HCl : Hid (∀ W, Below W2.heap.size W2 W → W.cell? ⟨B8, 0, none⟩ = some (.slice (some ⟨be, oe, none⟩) 4 ci) ∧ W.cell? ⟨B8, 1, none⟩ = some (.int .i64 y) ∧ W.cell? ⟨B10, 0, none⟩ = some (.slice (some ⟨bf, of, none⟩) 4 cj) ∧ W.cell? ⟨B10, 1, none⟩ = some (.int .i64 x)) := fun W hW => ⟨(HN.out W (hg2.below hW)).1, (HN.out W (hg2.below hW)).2, (hW.cell (p := ⟨B10, 0, none⟩) (by show B10 < _; omega)).trans m0, (hW.cell (p := ⟨B10, 1, none⟩) (by show B10 < _; omega)).trans m1⟩
              have HCg : Hid (∀ W w', Below W2.heap.size W2 W → W.grownBy w' (some mb) → w'.cell? ⟨B8, 0, none⟩ = some (.slice (some ⟨be, oe, none⟩) 4 ci) ∧ w'.cell? ⟨B8, 1, none⟩ = some (.int .i64 y) ∧ w'.cell? ⟨B10, 0, none⟩ = some (.slice (some ⟨bf, of, none⟩) 4 cj) ∧ w'.cell? ⟨B10, 1, none⟩ = some (.int .i64 x)) := fun W w' hW hg => by
                have hG2 : GB W2 w' mb := ((GB.refl W2 mb).below hW).grown hg
                have hG1 : GB W1 w' mb := (hg2.below hW).grown hg
                exact ⟨(HN.out w' hG1).1, (HN.out w' hG1).2, (hG2.cell (p := ⟨B10, 0, none⟩) (by show B10 < _; omega) (by show B10 ≠ mb; omega)).trans m0, (hG2.cell (p := ⟨B10, 1, none⟩) (by show B10 < _; omega) (by show B10 ≠ mb; omega)).trans m1⟩
              have HAd : Hid (Calls Tryz.prog 199 #[.slice (some ⟨be, oe, none⟩) 4 ci, .slice (some ⟨bf, of, none⟩) 4 cj] W2.drew fun r w' => r = .returned (.agg #[.int .i64 (e.getD 0 0 + f.getD 0 0), .int .i64 (e.getD 1 0 + f.getD 1 0), .int .i64 (e.getD 2 0 + f.getD 2 0), .int .i64 (e.getD 3 0 + f.getD 3 0)]) ∧ Below W2.heap.size W2 w') := by
                have hD : Below W2.heap.size W2 W2.drew := Go.below_drewN (Below.refl _ _) 1
                have hW := hB2.trans (hD.mono hB2.size)
                refine (added_any (some ⟨be, oe, none⟩) (some ⟨bf, of, none⟩) ci cj (e.getD 0 0) (e.getD 1 0) (e.getD 2 0) (e.getD 3 0) (f.getD 0 0) (f.getD 1 0) (f.getD 2 0) (f.getD 3 0) W2.drew (by rw [← four' e he4]; exact Sl.keep HS.out hW) (by rw [← four' f hmq.1]; exact Sl.keep hSj hW) (hrg 0) (hrg 1) (hrg 2) (hrg 3)).mono ?_
                rintro r w' ⟨t1, t2⟩
                exact ⟨t1, hD.trans (t2.mono hD.size)⟩
              have HPut : Hid (∀ W, Below W2.heap.size W2 W → Calls Tryz.prog 155 #[.map (some mb), .agg #[.int .i64 (e.getD 0 0 + f.getD 0 0), .int .i64 (e.getD 1 0 + f.getD 1 0), .int .i64 (e.getD 2 0 + f.getD 2 0), .int .i64 (e.getD 3 0 + f.getD 3 0)], .int .i64 (wrap64 (y * x))] W fun r w' => r = .returned (.tuple #[]) ∧ (w'.cell? ⟨B8, 0, none⟩ = some (.slice (some ⟨be, oe, none⟩) 4 ci) ∧ w'.cell? ⟨B8, 1, none⟩ = some (.int .i64 y) ∧ w'.cell? ⟨B10, 0, none⟩ = some (.slice (some ⟨bf, of, none⟩) 4 cj) ∧ w'.cell? ⟨B10, 1, none⟩ = some (.int .i64 x)) ∧ Hid (AccR w w' mb (k * 40 + (j + 1)) (fun e' => mulC (p.take k) q e' + coef ((mulL (e, y) q).take (j + 1)) e') ∧ GB W1 w' mb)) := fun W hW => by
                have hBW := hB2.trans (hW.mono hB2.size)
                refine (put_acc mb M1 _ _ _ _ _ (wrap64 (y * x)) W ((hP1.keep hb2).keep hW) hS1 (key_add he4 hmq.1 hrg) hc1).mono ?_
                rintro r w' ⟨t1, t2, M', t3, t4, t5, t6⟩
                refine ⟨t1, HCg.out W w' hW t2, ⟨hBW.grown t2 hBW.size (fun r hr => by cases hr; exact hmb), M', t3, t4, by omega, fun e' => ?_⟩, (hg2.below hW).grown t2⟩
                have := t6 e'
                rw [← four_add e f he4 hmq.1] at this
                refine this.trans ?_
                show Like _ (mulC (p.take k) q e' + coef ((mulL (e, y) q).take (j + 1)) e')
                rw [hct e', ← Int.add_assoc]
                exact Like.refl _
              have hij : (j : Int) < lb := by omega
              have hbne2 : ¬ bq = wr.heap.size := by omega
              generalize e.getD 0 0 + f.getD 0 0 = s0 at HAd HPut
              generalize e.getD 1 0 + f.getD 1 0 = s1 at HAd HPut
              generalize e.getD 2 0 + f.getD 2 0 = s2 at HAd HPut
              generalize e.getD 3 0 + f.getD 3 0 = s3 at HAd HPut
              obtain ⟨ny, hny⟩ : ∃ ny, wrap64 (y * x) = ny := ⟨_, rfl⟩
              rw [hny] at HPut
              have hny2 : IntKind.i64.wrap (y * x) = ny := by rw [← hny]; first | rfl | (rw [IntKind.wrap_i64]; rfl) | (rw [IntKind.wrap_i64]; unfold wrap64; rfl)
              clear hny
              clear hbr hP1 hS1 hc1 hgb hcq hSj hmq hml hrg hct hm2 hcf hb2 hg2 hB2 c1 c2 HRm
              go_wp2_with fail
              (try rw [hW2])
              (try rw [hB10])
              clear hW2 d1 d2
              have zD := HCl.out W2.drew (Go.below_drewN (Below.refl _ _) 1)
              clear k0 k1 m0 m1 HCg
              go_region_held3 (fun w' => w'.cell? ⟨B8, 0, none⟩ = some (.slice (some ⟨be, oe, none⟩) 4 ci) ∧ w'.cell? ⟨B8, 1, none⟩ = some (.int .i64 y) ∧ w'.cell? ⟨B10, 0, none⟩ = some (.slice (some ⟨bf, of, none⟩) 4 cj) ∧ w'.cell? ⟨B10, 1, none⟩ = some (.int .i64 x))
                (assumption)
                (first
                | (go_at_call 199; refine Calls.mono HAd.out ?_; rintro r w4 ⟨rfl, hb4⟩; have z4 := HCl.out w4 hb4)
                | (go_at_call 155; (try rw [hny2]); refine Calls.mono (HPut.out _ hb4) ?_; rintro r w5 ⟨rfl, z5, HR5⟩))
              all_goals
                clear HPut HAd HCl zD z4 z5 hb4
                go_wp2
                go_roundw
                case rel => exact ⟨j + 1, by omega, by go_num, HR5⟩
                case measure => simp [intOf]; omega
            · obtain rfl : j = lb := by omega
              have HE : Hid (AccR w wr mb ((k + 1) * 40) (mulC (p.take (k + 1)) q)) := by
                obtain ⟨⟨x1, M1, x2, x3, x4, x5⟩, -⟩ := HRm.out
                refine ⟨x1, M1, x2, x3, by omega, fun e' => ?_⟩
                have := x5 e'
                have e0 : (mulL (e, y) q).take j = mulL (e, y) q := List.take_of_length_le (by simp [mulL]; omega)
                simp only [e0] at this
                rw [HCt.out e']; exact this
              clear HRm
              go_wp2_with fail
              go_roundw
              case rel => exact ⟨k + 1, by omega, by go_num, HE⟩
              case measure => simp [intOf]; omega
        · obtain rfl : k = la := by omega
          have HE : Hid (AccR w wr mb (40 * 40) (mulC p q)) := by
            obtain ⟨x1, M1, x2, x3, x4, x5⟩ := HR.out
            refine ⟨x1, M1, x2, x3, by omega, fun e' => ?_⟩
            have := x5 e'
            rwa [List.take_of_length_le (by omega)] at this
          clear HR
          go_wp2_with fail
          refine Calls.mono (HOr.out _ _ HE.out) ?_
          rintro r w5 ⟨v5, rfl, o5, hB5⟩
          clear HOr HE
          go_wp2
          go_ret2
          exact ⟨_, rfl, o5, hB5⟩
end Go.Proofs.YtkadanagmahhgaaGreatDoor
namespace Go.Proofs.YtkadanagmahhgaaGreatDoor
open Go.ChangeShapes Go.WideShapes Go.ChangeAt Go.RowKit
open Go.MapKept Go.ChangeMaps
set_option linter.unusedVariables false

/-- How the program answers with a sum or none. -/
def IAns (W : World) (s : List Mon) (r : Ending) (w' : World) : Prop := ∃ v, r = .returned (.tuple #[v, .bool (polyB s)]) ∧ OwnV w' W.heap.size v (if polyB s = true then s else []) ∧ Below W.heap.size W w'
theorem order_ans {w W : World} {b : Nat} {M s : List Mon} (hW : Below w.heap.size w W) (h : PMap W b M) (hs : SumM M) (hl : M.length ≤ 100000) (hss : ∀ q, Sum4 q → (∀ e, coef q e = coef M e) → q = s) :
    Calls Tryz.prog 141 #[.map (some b)] W fun r w' => IAns w s r w' :=
  (order_any b M W h hs hl).mono fun r w' ⟨v, q, t1, t2, t3, t4, t5, t6⟩ => by
    have := hss q ⟨t3, t4⟩ t5
    subst this
    exact ⟨v, t1, t6.lower hW.size, hW.trans (t2.mono hW.size)⟩
set_option maxHeartbeats 1600000 in
theorem polyTimes_any (a : Option Addr) (la ca : Nat) (p : List Mon) (n : Int) (hn : InI n) (w : World) (ha : PSl w a la p) (hg : polyB p = true) :
    Calls Tryz.prog 161 #[.slice a la ca, .int .i64 n] w fun r w' => IAns w (mulP p (numP n)) r w' := by
  have kp := key4_of hg
  have hal := ha.1
  have lp := poly_len hg
  have hmm := @run_makeMap Tryz.prog
  have HT1 : Hid (∀ W, Below w.heap.size w W → Calls Tryz.prog 173 #[.map (some W.heap.size), .slice a la ca, .int .i64 n] (W.alloc (.map #[] 0)) fun r w' => r = .returned (.tuple #[]) ∧ Below w.heap.size w w' ∧ ∃ M', PMap w' W.heap.size M' ∧ SumM M' ∧ M'.length ≤ la ∧ ∀ e', Like (coef M' e') (0 + n * coef p e')) := fun W hW => (times_any W.heap.size [] (fun _ => 0) a la ca p n w (W.alloc (.map #[] 0)) ha (hW.alloc hW.size _) hW.size (by omega) kp (pmap_new W) (fun m hm => by cases hm) (fun e' => Like.refl _)).mono fun r w' ⟨t1, t2, M', t3, t4, t5, t6⟩ => ⟨t1, t2, M', t3, t4, by simp at t5; omega, t6⟩
  have HOr : Hid (∀ W B M1, Below w.heap.size w W → PMap W B M1 → SumM M1 → M1.length ≤ la → (∀ e', Like (coef M1 e') (0 + n * coef p e')) → Calls Tryz.prog 141 #[.map (some B)] W fun r w' => IAns w (mulP p (numP n)) r w') := fun W B M1 hW hP hS hL hd => order_ans hW hP hS (by omega) fun q hq hc => times_same hq (fun m hm => (kp m hm).1) hn fun e => by
    rw [hc e]; have := hd e; rwa [Int.zero_add] at this
  clear kp ha hg
  go_enter Tryz.func161, Tryz.ntmps161
  go_wp2_with fail
  refine Calls.mono (HT1.out _ (Below.refl _ _)) ?_
  rintro r w3 ⟨rfl, hB3, M3, p3, s3, l3, c3⟩
  clear HT1
  go_wp2_with fail
  refine Calls.mono (HOr.out _ _ _ hB3 p3 s3 l3 c3) ?_
  rintro r w5 ⟨v5, rfl, o5, hB5⟩
  clear HOr hB3 p3 s3 c3
  go_wp2
  go_ret2
  exact ⟨_, rfl, o5, hB5⟩
set_option maxHeartbeats 1600000 in
theorem polyNum_any (n : Int) (hn : InI n) (w : World) :
    Calls Tryz.prog 140 #[.int .i64 n] w fun r w' => IAns w (numP n) r w' := by
  have hmm := @run_makeMap Tryz.prog
  have HT1 : Hid (∀ W, Below w.heap.size w W → Calls Tryz.prog 155 #[.map (some W.heap.size), .agg #[.int .i64 0, .int .i64 0, .int .i64 0, .int .i64 0], .int .i64 n] (W.alloc (.map #[] 0)) fun r w' => r = .returned (.tuple #[]) ∧ Below w.heap.size w w' ∧ ∃ M', PMap w' W.heap.size M' ∧ SumM M' ∧ M'.length ≤ 1 ∧ ∀ e', Like (coef M' e') (0 + if zero4 = e' then n else 0)) := fun W hW => (put_acc W.heap.size [] (fun _ => 0) 0 0 0 0 n (W.alloc (.map #[] 0)) (pmap_new W) (fun m hm => by cases hm) ⟨rfl, fun x hx => by simp at hx; subst hx; unfold InI; omega⟩ (fun e' => Like.refl _)).mono fun r w' ⟨t1, t2, M', t3, t4, t5, t6⟩ => ⟨t1, (hW.alloc hW.size _).grown t2 (hW.alloc hW.size _).size (fun r hr => by cases hr; exact hW.size), M', t3, t4, by simpa using t5, t6⟩
  have HOr : Hid (∀ W B M1, Below w.heap.size w W → PMap W B M1 → SumM M1 → M1.length ≤ 1 → (∀ e', Like (coef M1 e') (0 + if zero4 = e' then n else 0)) → Calls Tryz.prog 141 #[.map (some B)] W fun r w' => IAns w (numP n) r w') := fun W B M1 hW hP hS hL hd => order_ans hW hP hS (by omega) fun q hq hc => by
    obtain ⟨g1, g2, g3⟩ := putP_ok (k := 4) (p := []) (e := zero4) (n := n) rfl hn List.Pairwise.nil (fun x hx => by cases hx)
    refine sum_unique hq ⟨g1, g2⟩ fun e => ?_
    rw [hc e]
    exact (hd e).trans (g3 e).symm
  go_enter Tryz.func140, Tryz.ntmps140
  go_wp2_with fail
  refine Calls.mono (HT1.out _ (Below.refl _ _)) ?_
  rintro r w3 ⟨rfl, hB3, M3, p3, s3, l3, c3⟩
  clear HT1
  go_wp2_with fail
  refine Calls.mono (HOr.out _ _ _ hB3 p3 s3 l3 c3) ?_
  rintro r w5 ⟨v5, rfl, o5, hB5⟩
  clear HOr hB3 p3 s3 c3
  go_wp2
  go_ret2
  exact ⟨_, rfl, o5, hB5⟩
set_option maxHeartbeats 1600000 in
theorem polyPair_any (op : Int) (a : Option Addr) (la ca : Nat) (p : List Mon) (b : Option Addr) (lb cb : Nat) (q : List Mon) (w : World) (ha : PSl w a la p) (hb : PSl w b lb q) (hgp : polyB p = true) (hgq : polyB q = true) (hp : ∀ x ∈ p, InI x.2) (hq : ∀ x ∈ q, InI x.2) (hop : op = 4 ∨ op = 5 ∨ op = 6) :
    Calls Tryz.prog 163 #[.int .i64 op, .slice a la ca, .slice b lb cb] w fun r w' => IAns w (twoP op p q) r w' := by
  have hal := ha.1
  have hbl := hb.1
  have lp := poly_len hgp
  have lq := poly_len hgq
  rcases hop with rfl | rfl | rfl
  · have HA : Hid (Calls Tryz.prog 175 #[.slice a la ca, .slice b lb cb] w fun r w' => IAns w (twoP 4 p q) r w') := (implAdd_any a la ca p b lb cb q w ha hb (by omega) (by omega) hp hq).mono fun r w' ⟨v, t1, t2, t3⟩ => by
      have e1 : addOk p q = polyB (addP p q) := by unfold addOk; rw [hgp, hgq]; rfl
      have e2 : addR p q = if polyB (addP p q) = true then addP p q else [] := by unfold addR; rw [e1]
      rw [e1] at t1; rw [e2] at t2
      exact ⟨v, t1, t2, t3⟩
    clear ha hb
    go_enter Tryz.func163, Tryz.ntmps163
    go_wp2_with fail
    refine Calls.mono HA.out ?_
    rintro r w5 ⟨v5, rfl, o5, hB5⟩
    clear HA
    go_wp2
    go_ret2
    exact ⟨_, rfl, o5, hB5⟩
  · have kp := key4_of hgp
    have kq := key4_of hgq
    have fp := fine_of hgp hp
    have hmm := @run_makeMap Tryz.prog
    have HT1 : Hid (∀ W, Below w.heap.size w W → Calls Tryz.prog 173 #[.map (some W.heap.size), .slice a la ca, .int .i64 1] (W.alloc (.map #[] 0)) fun r w' => r = .returned (.tuple #[]) ∧ Below w.heap.size w w' ∧ ∃ M', PMap w' W.heap.size M' ∧ SumM M' ∧ M'.length ≤ la ∧ ∀ e', Like (coef M' e') (0 + 1 * coef p e')) := fun W hW => (times_any W.heap.size [] (fun _ => 0) a la ca p 1 w (W.alloc (.map #[] 0)) ha (hW.alloc hW.size _) hW.size (by omega) kp (pmap_new W) (fun m hm => by cases hm) (fun e' => Like.refl _)).mono fun r w' ⟨t1, t2, M', t3, t4, t5, t6⟩ => ⟨t1, t2, M', t3, t4, by simp at t5; omega, t6⟩
    have HT2 : Hid (∀ W B M1, Below w.heap.size w W → w.heap.size ≤ B → PMap W B M1 → SumM M1 → M1.length ≤ la → (∀ e', Like (coef M1 e') (0 + 1 * coef p e')) → Calls Tryz.prog 173 #[.map (some B), .slice b lb cb, .int .i64 (-1)] W fun r w' => r = .returned (.tuple #[]) ∧ Below w.heap.size w w' ∧ ∃ M', PMap w' B M' ∧ SumM M' ∧ M'.length ≤ la + lb ∧ ∀ e', Like (coef M' e') (0 + 1 * coef p e' + -1 * coef q e')) := fun W B M1 hW hB hP hS hL hd => (times_any B M1 _ b lb cb q (-1) w W hb hW hB (by omega) kq hP hS hd).mono fun r w' ⟨t1, t2, M', t3, t4, t5, t6⟩ => ⟨t1, t2, M', t3, t4, by omega, t6⟩
    have HOr : Hid (∀ W B M1, Below w.heap.size w W → PMap W B M1 → SumM M1 → M1.length ≤ la + lb → (∀ e', Like (coef M1 e') (0 + 1 * coef p e' + -1 * coef q e')) → Calls Tryz.prog 141 #[.map (some B)] W fun r w' => IAns w (twoP 5 p q) r w') := fun W B M1 hW hP hS hL hd => order_ans hW hP hS (by omega) fun s hs hc => sub_same hs fp (fun m hm => (kq m hm).1) fun e => by
      rw [hc e]; have := hd e; rwa [Int.zero_add, Int.one_mul] at this
    clear kp kq ha hb fp
    go_enter Tryz.func163, Tryz.ntmps163
    go_wp2_with fail
    refine Calls.mono (HT1.out _ (Below.refl _ _)) ?_
    rintro r w3 ⟨rfl, hB3, M3, p3, s3, l3, c3⟩
    clear HT1
    go_wp2_with fail
    refine Calls.mono (HT2.out _ _ _ hB3 (Nat.le_refl _) p3 s3 l3 c3) ?_
    rintro r w4 ⟨rfl, hB4, M4, p4, s4, l4, c4⟩
    clear HT2 hB3 p3 s3 c3
    go_wp2_with fail
    refine Calls.mono (HOr.out _ _ _ hB4 p4 s4 l4 c4) ?_
    rintro r w5 ⟨v5, rfl, o5, hB5⟩
    clear HOr hB4 p4 s4 c4
    go_wp2
    go_ret2
    exact ⟨_, rfl, o5, hB5⟩
  · have HA : Hid (Calls Tryz.prog 176 #[.slice a la ca, .slice b lb cb] w fun r w' => IAns w (twoP 6 p q) r w') := (implMul_any a la ca p b lb cb q w ha hb (by omega) (by omega) hp hq).mono fun r w' ⟨v, t1, t2, t3⟩ => by
      have e1 : mulOk p q = polyB (mulP p q) := by unfold mulOk; rw [hgp, hgq]; rfl
      have e2 : mulR p q = if polyB (mulP p q) = true then mulP p q else [] := by unfold mulR; rw [e1]
      rw [e1] at t1; rw [e2] at t2
      exact ⟨v, t1, t2, t3⟩
    clear ha hb
    go_enter Tryz.func163, Tryz.ntmps163
    go_wp2_with fail
    refine Calls.mono HA.out ?_
    rintro r w5 ⟨v5, rfl, o5, hB5⟩
    clear HA
    go_wp2
    go_ret2
    exact ⟨_, rfl, o5, hB5⟩
end Go.Proofs.YtkadanagmahhgaaGreatDoor
