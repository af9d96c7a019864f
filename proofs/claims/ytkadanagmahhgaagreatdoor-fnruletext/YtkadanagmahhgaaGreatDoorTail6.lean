/-
  PROVED HERE: what the program's TermOf answers, at every list of products, in a world whose table of arities is laid. No other condition. two drawn terms, for SameRing, and a drawn sum, for TermOf: some lists in new memory, whatever the bytes. No other condition. what the model's and the program's ShippedRules answer. The tables are laid, and the library's bound on short searches holds some number. No other condition. the laws' own drawn text of a rule: some text, not too long, whatever the bytes. No condition.
-/
import Derived.Test.YtkadanagmahhgaaGreatDoorTail5
import Derived.Test.YtkadanagmahhgaaGreatDoorRun30
import Derived.Test.YtkadanagmahhgaaGreatDoorTail4
import Derived.Test.YtkadanagmahhgaaGreatDoorRun35
import Derived.Test.YtkadanagmahhgaaGreatDoorRun18
import Derived.Test.YtkadanagmahhgaaGreatDoorTail2
namespace Go.Proofs.YtkadanagmahhgaaGreatDoor
open Go.ChangeShapes Go.WideShapes Go.ChangeAt Go.RowKit
set_option linter.unusedVariables false

theorem pow_small {e : List Int} (hpw : powB e = true) (j : Nat) (hj : j < 4) : ∃ q : Nat, e.getD j 0 = (q : Int) ∧ q ≤ 9 := by
  have h4 := pow_len hpw
  unfold powB allB at hpw
  rw [Bool.and_eq_true, List.all_eq_true] at hpw
  have e1 : e.getD j 0 = e[j]'(by omega) := by rw [List.getD_eq_getElem?_getD, List.getElem?_eq_getElem (by omega)]; rfl
  have := hpw.2 (e[j]'(by omega)) (List.getElem_mem _)
  rw [Bool.and_eq_true] at this
  have t1 := of_decide_eq_true this.1
  have t2 := of_decide_eq_true this.2
  rw [e1]
  exact ⟨(e[j]'(by omega)).toNat, by omega, by omega⟩
theorem gp_pow : ∀ (prev : Option (List Int)) (q : List Mon), gpF prev q = true → ∀ x ∈ q, powB x.1 = true
  | _, [], _, _, hx => by cases hx
  | prev, m :: r, hq, x, hx => by
    rw [gpF, Bool.and_eq_true] at hq
    rcases List.mem_cons.1 hx with rfl | hx
    · have h1 := hq.1; unfold fitM at h1; rw [Bool.and_eq_true, Bool.and_eq_true] at h1; exact h1.1.1
    · exact gp_pow _ r hq.2 x hx
theorem mon_len {e : List Int} {y : Int} (hpw : powB e = true) : (monT (e, y)).length ≤ 73 := by
  have h4 := pow_len hpw
  have := fun j hj => pow_small hpw j hj
  match e, h4, this with
  | [a, b, c, d], _, this =>
    obtain ⟨q0, e0, l0⟩ := this 0 (by omega)
    obtain ⟨q1, e1, l1⟩ := this 1 (by omega)
    obtain ⟨q2, e2, l2⟩ := this 2 (by omega)
    obtain ⟨q3, e3, l3⟩ := this 3 (by omega)
    simp only [monT, powT, List.length_cons, List.length_append, rep_len, List.length_nil]
    have f0 : a = (q0 : Int) := e0
    have f1 : b = (q1 : Int) := e1
    have f2 : c = (q2 : Int) := e2
    have f3 : d = (q3 : Int) := e3
    omega
end Go.Proofs.YtkadanagmahhgaaGreatDoor
namespace Go.Proofs.YtkadanagmahhgaaGreatDoor
open Go.ChangeShapes Go.WideShapes Go.ChangeAt Go.RowKit
set_option linter.unusedVariables false

theorem inI_nat {n : Nat} (h : n ≤ 1000) : InI (n : Int) := by unfold InI; omega
theorem nums_nil : NumsIn [] := fun x hx => by cases hx
theorem nums_cons {x : Int × Int} {b : List (Int × Int)} (ha : InI x.2) (hb : NumsIn b) : NumsIn (x :: b) := fun y hy => by
  rcases List.mem_cons.1 hy with rfl | h
  · exact ha
  · exact hb y h
theorem nums_rep (v : Nat) (hv : v ≤ 1000) : ∀ i, NumsIn (rep i v)
  | 0 => nums_nil
  | i + 1 => nums_cons (inI_nat hv) (nums_cons (inI_nat (n := 0) (by omega)) (nums_rep v hv i))
theorem nums_pow : ∀ (e : List Int) (j : Nat), j + e.length ≤ 1000 → NumsIn (powT j e)
  | [], j, _ => nums_nil
  | n :: r, j, h => nums_app (nums_rep j (by omega) n.toNat) (nums_pow r (j + 1) (by simp only [List.length_cons] at h; omega))
theorem nums_term : ∀ (p : List Mon) (k : Nat), (∀ m ∈ p, m.1.length = 4 ∧ InI m.2) → NumsIn (termF k p)
  | [], k, _ => nums_nil
  | m :: r, k, h => nums_app (nums_cons (h m (List.mem_cons_self ..)).2 (nums_pow m.1 0 (by have := (h m (List.mem_cons_self ..)).1; omega))) (nums_app (by unfold tailT; split; exact nums_nil; exact nums_cons (inI_nat (n := 0) (by omega)) nums_nil) (nums_term r (k + 1) fun x hx => h x (List.mem_cons_of_mem _ hx)))
theorem termR_facts {p : List Mon} (hI : ∀ x ∈ p, InI x.2) : (termR p).length ≤ 100 ∧ NumsIn (termR p) := by
  unfold termR
  by_cases h : termOk p = true
  · rw [if_pos h]
    unfold termOk at h
    rw [Bool.and_eq_true] at h
    obtain ⟨_, _, g2⟩ := good_pile h.2
    refine ⟨by omega, ?_⟩
    unfold termP
    split
    · exact nums_cons (inI_nat (n := 0) (by omega)) nums_nil
    · exact nums_term p 0 (fine_of h.1 hI)
  · rw [if_neg h]; exact ⟨by simp, nums_nil⟩
theorem NewR.grown {w w' : World} {B c : Nat} {v : Value} {l : List (Int × Int)} (h : NewR w B v l) (hg : w.grownBy w' (some c)) (hc : c < B) : NewR w' B v l := by
  obtain ⟨a, len, cap, h1, h2, h3, h4, h5⟩ := h
  refine ⟨a, len, cap, h1, ⟨h2.1, ?_⟩, h3, h4, h5⟩
  rcases h2.2 with e | ⟨b, off, rfl, hb, hcs⟩
  · exact .inl e
  · have hbb := h5 _ rfl
    have hbl : w'.heap[b]? = w.heap[b]? := hg.block b hb (fun e => by cases e; simp only at hbb; omega)
    refine .inr ⟨b, off, rfl, Nat.lt_of_lt_of_le hb hg.size, fun i hi => ?_⟩
    have := hcs i hi
    have ec : ∀ j, w'.cell? ⟨b, j, none⟩ = w.cell? ⟨b, j, none⟩ := fun j => by unfold World.cell?; rw [hbl]
    rw [ec, ec]
    exact this
theorem specTermV {W : World} {v : Value} {p : List Mon} (hp : SpecV W v p) (hI : ∀ x ∈ p, InI x.2) (hl : p.length ≤ 1048576) : Calls Tryz.prog 57 #[v] W fun e w' => ∃ u : Value, e = .returned (.tuple #[u, .bool (termOk p)]) ∧ NewR w' W.heap.size u (termR p) ∧ Below W.heap.size W w' := by
  obtain ⟨a, c, rfl, h1⟩ := hp
  obtain ⟨f1, f2⟩ := termR_facts hI
  exact (specTerm_any a _ c p W h1 (by omega)).mono fun e w' ⟨u, t1, t2, t3⟩ => ⟨u, t1, NewR.of t2 f1 f2, t3⟩
end Go.Proofs.YtkadanagmahhgaaGreatDoor
namespace Go.Proofs.YtkadanagmahhgaaGreatDoor
open Go.ChangeShapes Go.WideShapes Go.ChangeAt Go.RowKit
set_option linter.unusedVariables false

def axThree : List (List UInt8) := [axTs.getD 0 [], axTs.getD 1 [], axTs.getD 4 []]
def shipT : List (List UInt8) := shTs ++ axThree
theorem sh_strs (w : World) : Strs (w.alloc (.cells #[.string ⟨#[40, 97, 43, 98, 41, 61, 62, 40, 98, 43, 97, 41]⟩, .string ⟨#[40, 40, 97, 43, 98, 41, 43, 99, 41, 61, 62, 40, 97, 43, 40, 98, 43, 99, 41, 41]⟩, .string ⟨#[40, 97, 42, 98, 41, 61, 62, 40, 98, 42, 97, 41]⟩, .string ⟨#[40, 40, 97, 42, 98, 41, 42, 99, 41, 61, 62, 40, 97, 42, 40, 98, 42, 99, 41, 41]⟩, .string ⟨#[40, 97, 43, 48, 41, 61, 62, 97]⟩, .string ⟨#[40, 97, 42, 49, 41, 61, 62, 97]⟩, .string ⟨#[40, 97, 45, 98, 41, 61, 62, 40, 97, 43, 126, 98, 41]⟩, .string ⟨#[126, 126, 97, 61, 62, 97]⟩, .string ⟨#[40, 97, 42, 50, 41, 61, 62, 40, 97, 60, 60, 49, 41]⟩, .string ⟨#[40, 97, 43, 97, 41, 61, 62, 40, 97, 42, 50, 41]⟩, .string ⟨#[40, 40, 97, 42, 99, 41, 43, 40, 98, 42, 99, 41, 41, 61, 62, 40, 40, 97, 43, 98, 41, 42, 99, 41]⟩, .string ⟨#[40, 97, 42, 45, 49, 41, 61, 62, 126, 97]⟩, .string ⟨#[40, 97, 45, 48, 41, 61, 62, 97]⟩] 9)) w.heap.size 13 shTs := by
  refine ⟨rfl, by simp, fun i hi => ?_⟩
  rcases (show i = 0 ∨ i = 1 ∨ i = 2 ∨ i = 3 ∨ i = 4 ∨ i = 5 ∨ i = 6 ∨ i = 7 ∨ i = 8 ∨ i = 9 ∨ i = 10 ∨ i = 11 ∨ i = 12 by omega) with rfl | rfl | rfl | rfl | rfl | rfl | rfl | rfl | rfl | rfl | rfl | rfl | rfl <;> exact ⟨by simp [go_sem, shTs], by decide⟩
theorem ship_strs (w : World) (s0 s1 s4 : ByteArray) (h0 : s0 = ⟨(axTs.getD 0 []).toArray⟩) (h1 : s1 = ⟨(axTs.getD 1 []).toArray⟩) (h4 : s4 = ⟨(axTs.getD 4 []).toArray⟩) : Strs (w.alloc (.cells #[.string ⟨#[40, 97, 43, 98, 41, 61, 62, 40, 98, 43, 97, 41]⟩, .string ⟨#[40, 40, 97, 43, 98, 41, 43, 99, 41, 61, 62, 40, 97, 43, 40, 98, 43, 99, 41, 41]⟩, .string ⟨#[40, 97, 42, 98, 41, 61, 62, 40, 98, 42, 97, 41]⟩, .string ⟨#[40, 40, 97, 42, 98, 41, 42, 99, 41, 61, 62, 40, 97, 42, 40, 98, 42, 99, 41, 41]⟩, .string ⟨#[40, 97, 43, 48, 41, 61, 62, 97]⟩, .string ⟨#[40, 97, 42, 49, 41, 61, 62, 97]⟩, .string ⟨#[40, 97, 45, 98, 41, 61, 62, 40, 97, 43, 126, 98, 41]⟩, .string ⟨#[126, 126, 97, 61, 62, 97]⟩, .string ⟨#[40, 97, 42, 50, 41, 61, 62, 40, 97, 60, 60, 49, 41]⟩, .string ⟨#[40, 97, 43, 97, 41, 61, 62, 40, 97, 42, 50, 41]⟩, .string ⟨#[40, 40, 97, 42, 99, 41, 43, 40, 98, 42, 99, 41, 41, 61, 62, 40, 40, 97, 43, 98, 41, 42, 99, 41]⟩, .string ⟨#[40, 97, 42, 45, 49, 41, 61, 62, 126, 97]⟩, .string ⟨#[40, 97, 45, 48, 41, 61, 62, 97]⟩, .string s0, .string s1, .string s4] 9)) w.heap.size 16 shipT := by
  refine ⟨rfl, by simp, fun i hi => ?_⟩
  rcases (show i = 0 ∨ i = 1 ∨ i = 2 ∨ i = 3 ∨ i = 4 ∨ i = 5 ∨ i = 6 ∨ i = 7 ∨ i = 8 ∨ i = 9 ∨ i = 10 ∨ i = 11 ∨ i = 12 ∨ i = 13 ∨ i = 14 ∨ i = 15 by omega) with rfl | rfl | rfl | rfl | rfl | rfl | rfl | rfl | rfl | rfl | rfl | rfl | rfl | rfl | rfl | rfl <;> exact ⟨by first | (simp [go_sem, shipT, shTs, axThree]; done) | (simp [go_sem, shipT, shTs, axThree, h0, h1, h4]; done) | (rw [h0] at *; simp [go_sem, shipT, shTs, axThree]), by decide⟩
/-- A row of rules that were read of texts. -/
def RowsR (w w' : World) (n : Nat) (ts : List (List UInt8)) (e : Ending) : Prop := ∃ (a : Option Addr) (d : Nat) (xs : List Value), e = .returned (.slice a n d) ∧ w'.ownsRow w.heap.size 26 2 (.slice a n d) n xs ∧ Read w' w.heap.size (Value.slice a n d).ownBlock xs ts ∧ Below w.heap.size w w'
set_option maxHeartbeats 800000 in
set_option maxRecDepth 20000 in
theorem l8Shipped_any (w : World) : Calls Tryz.prog 52 #[] w fun e w' => e = .returned (.slice (some ⟨w.heap.size, 0, none⟩) 16 16) ∧ Strs w' w.heap.size 16 shipT ∧ Below w.heap.size w w' := by
  obtain ⟨s0, h0⟩ : ∃ s : ByteArray, s = ⟨(axTs.getD 0 []).toArray⟩ := ⟨_, rfl⟩
  obtain ⟨s1, h1⟩ : ∃ s : ByteArray, s = ⟨(axTs.getD 1 []).toArray⟩ := ⟨_, rfl⟩
  obtain ⟨s4, h4⟩ : ∃ s : ByteArray, s = ⟨(axTs.getD 4 []).toArray⟩ := ⟨_, rfl⟩
  have H0 : Hid (∀ W, Calls Tryz.prog 53 #[.int .i64 0] W fun e w' => e = .returned (.string s0) ∧ w' = W) := fun W => by rw [h0]; exact l8Axiom_any 0 W (by decide)
  have H1 : Hid (∀ W, Calls Tryz.prog 53 #[.int .i64 1] W fun e w' => e = .returned (.string s1) ∧ w' = W) := fun W => by rw [h1]; exact l8Axiom_any 1 W (by decide)
  have H4 : Hid (∀ W, Calls Tryz.prog 53 #[.int .i64 4] W fun e w' => e = .returned (.string s4) ∧ w' = W) := fun W => by rw [h4]; exact l8Axiom_any 4 W (by decide)
  have HS : Hid (Strs (w.alloc (.cells #[.string ⟨#[40, 97, 43, 98, 41, 61, 62, 40, 98, 43, 97, 41]⟩, .string ⟨#[40, 40, 97, 43, 98, 41, 43, 99, 41, 61, 62, 40, 97, 43, 40, 98, 43, 99, 41, 41]⟩, .string ⟨#[40, 97, 42, 98, 41, 61, 62, 40, 98, 42, 97, 41]⟩, .string ⟨#[40, 40, 97, 42, 98, 41, 42, 99, 41, 61, 62, 40, 97, 42, 40, 98, 42, 99, 41, 41]⟩, .string ⟨#[40, 97, 43, 48, 41, 61, 62, 97]⟩, .string ⟨#[40, 97, 42, 49, 41, 61, 62, 97]⟩, .string ⟨#[40, 97, 45, 98, 41, 61, 62, 40, 97, 43, 126, 98, 41]⟩, .string ⟨#[126, 126, 97, 61, 62, 97]⟩, .string ⟨#[40, 97, 42, 50, 41, 61, 62, 40, 97, 60, 60, 49, 41]⟩, .string ⟨#[40, 97, 43, 97, 41, 61, 62, 40, 97, 42, 50, 41]⟩, .string ⟨#[40, 40, 97, 42, 99, 41, 43, 40, 98, 42, 99, 41, 41, 61, 62, 40, 40, 97, 43, 98, 41, 42, 99, 41]⟩, .string ⟨#[40, 97, 42, 45, 49, 41, 61, 62, 126, 97]⟩, .string ⟨#[40, 97, 45, 48, 41, 61, 62, 97]⟩, .string s0, .string s1, .string s4] 9)) w.heap.size 16 shipT) := ship_strs w s0 s1 s4 h0 h1 h4
  clear h0 h1 h4
  go_enter Tryz.func52, Tryz.ntmps52
  go_wp2_with fail
  refine Calls.mono (H0.out _) ?_
  rintro e w2 ⟨rfl, rfl⟩
  go_wp2_with fail
  refine Calls.mono (H1.out _) ?_
  rintro e w3 ⟨rfl, rfl⟩
  go_wp2_with fail
  refine Calls.mono (H4.out _) ?_
  rintro e w4 ⟨rfl, rfl⟩
  go_wp2
  go_ret
  exact ⟨rfl, HS.out, (Below.refl _ _).alloc (Nat.le_refl _) _⟩
end Go.Proofs.YtkadanagmahhgaaGreatDoor
namespace Go.Proofs.YtkadanagmahhgaaGreatDoor
open Go.ChangeShapes Go.WideShapes Go.ChangeAt Go.RowKit
set_option linter.unusedVariables false

theorem of8_any (w : World) (c n b L cap : Nat) (h : Cur w c n) (hn : n + 1 < 1048576) (hl : 1 ≤ L) (hl' : L ≤ 200) (hbc : c < b)
    (hcell : ∀ i, i < L → ∃ s : ByteArray, w.cell? ⟨b, i, none⟩ = some (.string s) ∧ s.size ≤ 1000) :
    Calls Tryz.prog 29 #[.pointer (some ⟨c, 0, none⟩), .slice (some ⟨b, 0, none⟩) L cap] w fun e w' => ∃ s : ByteArray, e = .returned (.string s) ∧ s.size ≤ 1000 ∧ Drew w w' c n 2 := by
  go_enter Tryz.func29, Tryz.ntmps29
  go_wp2_with fail
  refine (pick_gen w c n _ h hn (by omega) (by omega)).mono ?_
  rintro e w1 ⟨v, rfl, v0, v1, hd⟩
  obtain ⟨i, rfl⟩ := Int.eq_ofNat_of_zero_le v0
  have hi : i < L := by omega
  obtain ⟨s, hs, hsz⟩ := hcell i hi
  have hci : w1.cell? ⟨b, i, none⟩ = some (.string s) := hd.2.cell hs (by intro e; simp at e; omega)
  clear hcell h hs
  go_wp2
  go_ret
  exact ⟨s, rfl, hsz, hd⟩
theorem texts8_cells (w : World) (cs : Array Value) (t : TypeId) (n : Nat) (h : ∀ i, i < n → ∃ s : ByteArray, cs[i]? = some (.string s) ∧ s.size ≤ 1000) : ∀ i, i < n → ∃ s : ByteArray, (w.alloc (.cells cs t)).cell? ⟨w.heap.size, i, none⟩ = some (.string s) ∧ s.size ≤ 1000 := by
  intro i hi
  obtain ⟨s, h1, h2⟩ := h i hi
  exact ⟨s, by simp [go_sem, h1], h2⟩
theorem goodS_len8 {p : List Mon} (h : GoodS p) : p.length ≤ 1048576 := by
  have := h.1
  unfold polyB at this
  simp only [Bool.and_eq_true, decide_eq_true_eq] at this
  omega
theorem size_of (L : List UInt8) : (⟨L.toArray⟩ : ByteArray).size = L.length := by simp [ByteArray.size]
set_option maxHeartbeats 6400000 in
set_option maxRecDepth 20000 in
theorem ruleText8_any (w : World) (c n : Nat) (h : Cur w c n) (hn : n ≤ 100000) :
    Calls Tryz.prog 26 #[.pointer (some ⟨c, 0, none⟩)] w fun e w' => ∃ s : ByteArray, e = .returned (.string s) ∧ s.size ≤ 3000 ∧ Drew w w' c n 700 := by
  have hcl := h.lt
  have HP := (show Hid _ from pick_any w c n 4 h (by omega) (by decide) (by decide))
  clear h
  go_enter Tryz.func26, Tryz.ntmps26
  go_wp2_with fail
  refine Calls.mono HP.out ?_
  rintro e w1 ⟨v, rfl, v0, v1, hc1, hg1⟩
  have hc1l := hc1.lt
  clear HP
  rcases (show v = 0 ∨ v = 1 ∨ v = 2 ∨ v = 3 by omega) with rfl | rfl | rfl | rfl
  · have HSh := (show Hid _ from l8Shipped_any w1)
    go_wp2_with fail
    refine Calls.mono HSh.out ?_
    rintro e w2 ⟨rfl, hS2, hb2⟩
    have hG2 : w.grownBy w2 (some c) := gtrans hg1 (grown_of8 hb2)
    have HO := (show Hid _ from of8_any w2 c (n + 1) w1.heap.size 16 16 (hc1.kept (grown_of hb2) (fun r hr => by cases hr)) (by omega) (by decide) (by decide) hc1l (fun i hi => ⟨_, (hS2.2.2 i hi).1, by rw [size_of]; exact (hS2.2.2 i hi).2⟩))
    clear HSh hS2 hb2
    go_wp2_with fail
    refine Calls.mono HO.out ?_
    rintro e w3 ⟨s, rfl, hs, ⟨n3, hn3, hc3⟩, hg3⟩
    have HE : Hid (Drew w w3 c n 700) := ⟨⟨n3, by omega, hc3⟩, gtrans hG2 hg3⟩
    clear HO hc3 hg3 hc1 hg1
    go_wp2
    go_ret
    exact ⟨s, rfl, by omega, HE.out⟩
  · have HO := (show Hid _ from pick_any w1 c (n + 1) 12 hc1 (by omega) (by decide) (by decide))
    clear hc1
    go_wp2_with fail
    refine Calls.mono HO.out ?_
    rintro e w2 ⟨x, rfl, x0, x1, hc2, hg2⟩
    obtain ⟨k, rfl⟩ := Int.eq_ofNat_of_zero_le x0
    have hk : k < 12 := by omega
    have HA := (show Hid _ from l8Axiom_any k w2 hk)
    have hlen : (axTs.getD k []).length ≤ 100 := by
      rcases (show k = 0 ∨ k = 1 ∨ k = 2 ∨ k = 3 ∨ k = 4 ∨ k = 5 ∨ k = 6 ∨ k = 7 ∨ k = 8 ∨ k = 9 ∨ k = 10 ∨ k = 11 by omega) with rfl | rfl | rfl | rfl | rfl | rfl | rfl | rfl | rfl | rfl | rfl | rfl <;> decide
    have hsz : (⟨(axTs.getD k []).toArray⟩ : ByteArray).size ≤ 3000 := by rw [size_of]; omega
    have HE : Hid (Drew w w2 c n 700) := ⟨⟨n + 1 + 1, by omega, hc2⟩, gtrans hg1 hg2⟩
    clear HO hc2 hg2 hg1 hlen
    generalize (⟨(axTs.getD k []).toArray⟩ : ByteArray) = S at HA hsz
    go_wp2_with fail
    refine Calls.mono HA.out ?_
    rintro e w3 ⟨rfl, rfl⟩
    clear HA
    go_wp2
    go_ret
    exact ⟨S, rfl, hsz, HE.out⟩
  · have hc4 : ∀ o, Cur (w1.alloc o) c (n + 1) := fun o => hc1.kept (World.grownBy_alloc w1 o none) (fun r hr => by cases hr)
    go_wp2_with fail
    refine (of8_any _ _ _ w1.heap.size 12 12 (hc4 _) (by omega) (by decide) (by decide) hc1l (texts8_cells w1 _ _ 12 ?hC)).mono ?_
    case hC =>
      intro i hi
      rcases (show i = 0 ∨ i = 1 ∨ i = 2 ∨ i = 3 ∨ i = 4 ∨ i = 5 ∨ i = 6 ∨ i = 7 ∨ i = 8 ∨ i = 9 ∨ i = 10 ∨ i = 11 by omega) with rfl | rfl | rfl | rfl | rfl | rfl | rfl | rfl | rfl | rfl | rfl | rfl
      all_goals exact ⟨_, rfl, by decide⟩
    rintro e w6 ⟨s, rfl, hs, ⟨n6, hn6, hc7⟩, hg6⟩
    have HE : Hid (Drew w w6 c n 700) := ⟨⟨n6, by omega, hc7⟩, gtrans (gtrans hg1 (World.grownBy_alloc w1 _ (some c))) hg6⟩
    clear hc7 hg6 hc4 hc1 hg1
    go_wp2
    go_ret
    exact ⟨s, rfl, by omega, HE.out⟩
  · have CA := (show Hid _ from ringOps_any w1)
    go_wp2_with fail
    refine Calls.mono CA.out ?_
    rintro e w2 ⟨rfl, ho2, hb2⟩
    have hd2 : draws 2 = 190 := by decide
    have hm2 : most 2 = 13 := by decide
    have hG2 : w.grownBy w2 (some c) := gtrans hg1 (grown_of8 hb2)
    have CT := (show Hid _ from treeR_any 2 (by omega) w2 c (n + 1) w1.heap.size 6 (hc1.kept (grown_of hb2) (fun r hr => by cases hr)) (by omega) hc1l ho2)
    clear CA hc1 hg1 ho2 hb2
    go_wp2_with fail
    refine Calls.mono CT.out ?_
    rintro e w3 ⟨tv, l, rfl, hown, hl1, hl2, HNL, ⟨n3, hn3, hc3⟩, hg3⟩
    have hG3 : w.grownBy w3 (some c) := gtrans hG2 hg3
    obtain ⟨ta, tc, rfl, ht3⟩ := NSl.row hown
    have hIl : ∀ k, InI (l.getD k (0, 0)).2 := fun k => HNL.out.at k
    have hInl : InN l := fun k => hIl k
    have CPo := (show Hid _ from specPolyOf_any ta l.length tc l w3 ht3 (by omega) hIl)
    have HGood : Hid (∀ s, ofT l = some s → GoodS s) := ofT_good hIl
    clear CT hown hg3 hG2
    go_wp2_with fail
    refine Calls.mono CPo.out ?_
    rintro e w4 ⟨pv, rfl, hsp4, hb4⟩
    have hG4 : w.grownBy w4 (some c) := gtrans hG3 (grown_of8 hb4)
    have hc4 : Cur w4 c n3 := hc3.kept (grown_of hb4) (fun r hr => by cases hr)
    have ht4 := ht3.keep hb4
    clear CPo hb4 hc3 hG3 ht3
    cases ho : ofT l with
    | none =>
      have HE : Hid (Drew w w4 c n 700) := ⟨⟨n3, by omega, hc4⟩, hG4⟩
      rw [Option.isSome_none]
      go_wp2
      go_ret
      exact ⟨_, rfl, by decide, HE.out⟩
    | some s =>
      rw [ho] at hsp4
      simp only [Option.getD_some] at hsp4
      have hgs := HGood.out s ho
      have CTm := (show Hid _ from specTermV hsp4 hgs.2 (goodS_len8 hgs))
      generalize termOk s = TO at CTm
      have hNum : Hid (InN (termR s)) := inN_of (termR_facts hgs.2).2
      generalize termR s = u at CTm hNum
      rw [Option.isSome_some]
      clear hsp4 hgs HGood ho
      go_wp2_with fail
      refine Calls.mono CTm.out ?_
      rintro e w5 ⟨uv, rfl, hN5, hb5⟩
      have hG5 : w.grownBy w5 (some c) := gtrans hG4 (grown_of8 hb5)
      have hc5 : Cur w5 c n3 := hc4.kept (grown_of hb5) (fun r hr => by cases hr)
      have ht5 := ht4.keep hb5
      clear CTm hb5 hc4 hG4 ht4
      cases TO with
      | false =>
        have HE : Hid (Drew w w5 c n 700) := ⟨⟨n3, by omega, hc5⟩, hG5⟩
        go_wp2
        go_ret
        exact ⟨_, rfl, by decide, HE.out⟩
      | true =>
        have HT1 := (show Hid _ from specText_any ta l.length tc l w5 ht5 (by omega) hInl)
        have hl1' := termT_len hInl
        generalize termT l = T1 at HT1 hl1'
        generalize goodB l = G1 at HT1
        obtain ⟨ua, ul, uc, rfl, hu5, hul, -, -⟩ := hN5
        clear ht5
        go_wp2_with fail
        refine Calls.mono HT1.out ?_
        rintro e w6 ⟨rfl, hb6⟩
        have HT2 := (show Hid _ from specText_any ua ul uc u w6 (hu5.keep hb6) (by omega) hNum.out)
        have hl2' := termT_len hNum.out
        generalize termT u = T2 at HT2 hl2'
        generalize goodB u = G2 at HT2
        have hG6 : w.grownBy w6 (some c) := gtrans hG5 (grown_of8 hb6)
        have hc6 : Cur w6 c n3 := hc5.kept (grown_of hb6) (fun r hr => by cases hr)
        clear HT1 hb6 hu5 hG5 hc5
        go_wp2_with fail
        refine Calls.mono HT2.out ?_
        rintro e w7 ⟨rfl, hb7⟩
        have HE : Hid (Drew w w7 c n 700) := ⟨⟨n3, by omega, hc6.kept (grown_of hb7) (fun r hr => by cases hr)⟩, gtrans hG6 (grown_of8 hb7)⟩
        have hs1 : (⟨T1.toArray⟩ : ByteArray).size ≤ 1000 := by rw [size_of]; exact hl1'
        have hs2 : (⟨T2.toArray⟩ : ByteArray).size ≤ 1000 := by rw [size_of]; exact hl2'
        generalize (⟨T1.toArray⟩ : ByteArray) = S1 at hs1 ⊢
        generalize (⟨T2.toArray⟩ : ByteArray) = S2 at hs2 ⊢
        clear HT2 hb7 hG6 hc6
        go_wp2
        go_ret
        refine ⟨_, rfl, ?_, HE.out⟩
        have h2 : (⟨#[61, 62]⟩ : ByteArray).size = 2 := rfl
        simp only [ByteArray.size_append, h2]
        omega
end Go.Proofs.YtkadanagmahhgaaGreatDoor
