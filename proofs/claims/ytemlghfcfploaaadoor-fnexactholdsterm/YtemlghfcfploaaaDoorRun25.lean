/-
  PROVED HERE: what the program's find and put answer at a shelf of a good graph. No other condition. a region that draws its order, whose operations only read and whose callees turn nothing that lay there ahead of them, may be walked in the order of the text. No condition.
-/
import Derived.Test.YtemlghfcfploaaaDoorRun24
import Derived.WalkKit
import Derived.BigQuiet
namespace Go.Proofs.YtemlghfcfploaaaDoor
open Go.ChangeShapes Go.WideShapes Go.ChangeAt Go.RowKit
open Go.MapKept Go.ChangeMaps
set_option linter.unusedVariables false

/-- A node whose kids are numbers of the graph. -/
structure Fits (g : GS) (op n : Int) (kids : List Int) : Prop where
  ok : nodeOk op n kids.length = true
  num : InI n
  rng : ∀ i, i < kids.length → ∃ y : Nat, kids.getD i 0 = y ∧ y < g.1.length
theorem nodeOk_ar {op n : Int} {m : Nat} (h : nodeOk op n m = true) : 0 ≤ ar op ∧ (m : Int) = ar op ∧ m ≤ 3 := by
  unfold nodeOk at h
  simp only [Bool.and_eq_true, decide_eq_true_eq] at h
  have := (ar_range op).2
  exact ⟨h.1.1, h.1.2, by omega⟩
theorem shO_kidsL {g : GS} (hg : GoodG g) {op n : Int} {kids : List Int} (h : Fits g op n kids) : shO g.2 (op, n, kidsL g.2 kids) = shO g.2 (op, n, kids) := by
  have one : ∀ t, partOf g.2 (kidsL g.2 kids) t = partOf g.2 kids t := fun t => by
    unfold partOf
    rw [kidsL_len]
    by_cases ht : t < kids.length
    · rw [if_pos ht, if_pos ht, kidsL_get g.2 kids ht]
      obtain ⟨y, h1, h2⟩ := h.rng t ht
      rw [h1, Int.toNat_natCast]
      exact hg.2.2.2.1 y (by rw [hg.2.1]; exact h2)
    · rw [if_neg ht, if_neg ht]
  simp only [shO, one]
theorem kidsL_cl {g : GS} (hg : GoodG g) {op n : Int} {kids : List Int} (h : Fits g op n kids) : ∀ c ∈ kidsL g.2 kids, IsCl g c := fun c hc => by
  obtain ⟨x, hx, rfl⟩ := List.mem_map.1 hc
  obtain ⟨i, hi, rfl⟩ := List.getElem_of_mem hx
  obtain ⟨y, h1, h2⟩ := h.rng i hi
  rw [getI_lt hi] at h1
  rw [h1, Int.toNat_natCast]
  have hp := hg.2.2.1 y (by rw [hg.2.1]; exact h2)
  exact ⟨hp.1, by omega, hg.2.2.2.1 y (by rw [hg.2.1]; exact h2)⟩
theorem fits_ok {g : GS} {op n : Int} {kids : List Int} (h : Fits g op n kids) : nodeOk (op, n, kidsL g.2 kids).1 (op, n, kidsL g.2 kids).2.1 (op, n, kidsL g.2 kids).2.2.length = true := by
  simp only [kidsL_len]; exact h.ok
theorem held_find {g : GS} (hg : GoodG g) {f : Sh → Option Int} (hh : Held g.1 g.2 g.1.length f) {op n : Int} {kids : List Int} (h : Fits g op n kids) : f (shO g.2 (op, n, kids)) = findL g.1 g.2 (op, n, kidsL g.2 kids) := by
  rw [← shO_kidsL hg h]
  have hcl := kidsL_cl hg h
  have hfit : fitE g.1.length (op, n, kidsL g.2 kids) = true := by
    unfold fitE
    rw [fits_ok h, Bool.true_and, kidsB_iff]
    intro c hc
    have := hcl c hc
    exact ⟨this.1, by have := this.2.1; omega⟩
  have hkc : KidsCl g.2 (kidsL g.2 kids) := fun c hc => (hcl c hc).2.2
  have same : ∀ i, i < g.1.length → shO g.2 (g.1.getD i e0) = shO g.2 (op, n, kidsL g.2 kids) → g.1.getD i e0 = (op, n, kidsL g.2 kids) := fun i hi e => sh_same (hg.1 i hi) hfit (hg.2.2.2.2 i hi).1 hkc e
  cases hfe : f (shO g.2 (op, n, kidsL g.2 kids)) with
  | none =>
    refine (findL_no fun j hj e => ?_).symm
    have := hh.1 j hj
    rw [e, hfe] at this
    cases this
  | some v =>
    obtain ⟨i, h1, h2, h3⟩ := hh.2 _ v hfe
    have e := same i h1 h2
    cases hfl : findL g.1 g.2 (op, n, kidsL g.2 kids) with
    | none => exact absurd e (findL_none hfl i h1)
    | some u =>
      obtain ⟨k, k1, k2, k3, k4⟩ := findL_some hfl
      have : g.2.getD k 0 = g.2.getD i 0 := by
        rcases Nat.lt_trichotomy i k with hlt | heq | hgt
        · exact absurd e (k4 i hlt)
        · rw [heq]
        · exact (hg.2.2.2.2 i h1).2 k hgt (by rw [e, k2])
      rw [← k3, this, h3]
theorem fits_sh {g : GS} (hg : GoodG g) (hl : g.1.length ≤ 1000) {op n : Int} {kids : List Int} (h : Fits g op n kids) : ShIn (shO g.2 (op, n, kids)) := sh_inG (by have := hg.2.1; omega) hg.2.2.1 (nodeOk_ar h.ok).1 h.num
set_option maxHeartbeats 1600000 in
set_option maxRecDepth 20000 in
theorem find_any (s m : Nat) (S : Nat → Prop) (g : GS) (op n : Int) (a : Option Addr) (len cap : Nat) (kids : List Int) (w : World) (hT : Shelf w S s m g) (hg : GoodG g) (h120 : g.1.length ≤ 1000) (hk : Sl w a len kids) (hf : Fits g op n kids) :
    Calls Tryd.prog 52 #[.pointer (some ⟨s, 0, none⟩), .agg #[.int .i64 op, .int .i64 n, .slice a len cap]] w fun e w' => e = .returned (.tuple #[.int .i64 ((findL g.1 g.2 (op, n, kidsL g.2 kids)).getD 0), .bool (findL g.1 g.2 (op, n, kidsL g.2 kids)).isSome]) ∧ Below w.heap.size w w' := by
  obtain ⟨p, l⟩ := g
  obtain ⟨va, vb, f, h1, h2, h3, h4, h5, h6, h7, h8, h9, h10, h11, h12, h13⟩ := hT
  obtain ⟨ga, ca, gb, cb, rfl, rfl, _, hL⟩ := h8.reads
  have hll := hk.1
  have har := nodeOk_ar hf.ok
  have hsi := fits_sh hg h120 hf
  have hff := held_find hg h7 hf
  simp only at hL hsi hff h7 h120
  have hln := hg.2.1
  simp only at hln
  obtain ⟨W1, hW1⟩ : ∃ W1, w.alloc (.cells #[.int .i64 op, .int .i64 n, .slice a len cap] 70) = W1 := ⟨_, rfl⟩
  have hb1 : Below w.heap.size w W1 := by rw [← hW1]; exact (Below.refl _ _).alloc (Nat.le_refl _) _
  have hs1 : w.heap.size < W1.heap.size := by rw [← hW1]; simp
  have n0 : W1.cell? ⟨w.heap.size, 0, none⟩ = some (.int .i64 op) := by rw [← hW1]; simp [go_sem]
  have n1 : W1.cell? ⟨w.heap.size, 1, none⟩ = some (.int .i64 n) := by rw [← hW1]; simp [go_sem]
  have n2 : W1.cell? ⟨w.heap.size, 2, none⟩ = some (.slice a len cap) := by rw [← hW1]; simp [go_sem]
  have HD : Hid (Below W1.heap.size W1 W1.drew) := Go.below_drewN (Below.refl _ _) 1
  have CELLS : Hid (∀ W, Below W1.heap.size W1 W → W.cell? ⟨s, 1, none⟩ = some (.slice gb l.length cb) ∧ W.cell? ⟨s, 2, none⟩ = some (.map (some m)) ∧ W.cell? ⟨w.heap.size, 0, none⟩ = some (.int .i64 op) ∧ W.cell? ⟨w.heap.size, 1, none⟩ = some (.int .i64 n) ∧ W.cell? ⟨w.heap.size, 2, none⟩ = some (.slice a len cap)) := fun W hW => by
    have hX := hb1.trans (hW.mono hb1.size)
    exact ⟨(hX.cell (p := ⟨s, 1, none⟩) h12).trans h2, (hX.cell (p := ⟨s, 2, none⟩) h12).trans h3, (hW.cell (p := ⟨w.heap.size, 0, none⟩) hs1).trans n0, (hW.cell (p := ⟨w.heap.size, 1, none⟩) hs1).trans n1, (hW.cell (p := ⟨w.heap.size, 2, none⟩) hs1).trans n2⟩
  have HSh : Hid (Calls Tryd.prog 61 #[.agg #[.int .i64 op, .int .i64 n, .slice a len cap], .slice gb l.length cb] W1.drew fun e w' => e = .returned (shV (shO l (op, n, kids))) ∧ Below W1.heap.size W1 w') := by
    have hX := hb1.trans (HD.out.mono hb1.size)
    refine (shape_any op n a gb len cap l.length cb kids l W1.drew (hk.keep hX) (hL.keep hX) (by omega) (fun j hj => by
      obtain ⟨y, e1, e2⟩ := hf.rng j (by omega)
      exact ⟨y, e1, by simp only at e2; omega⟩)).mono ?_
    rintro r w' ⟨t1, t2⟩
    exact ⟨t1, HD.out.trans t2⟩
  have HQ : Hid (∀ W, Below W1.heap.size W1 W → (Instr.lookup 87 (.map (some m)) (shV (shO l (op, n, kids))) true).run Tryd.prog W = .ok (told (findL p l (op, n, kidsL l kids))) W ∧ Hid (Below w.heap.size w W)) := fun W hW => by
    have hX := hb1.trans (hW.mono hb1.size)
    have := (h6.keep hX).lookup hsi
    rw [hff] at this
    exact ⟨this, hX⟩
  unfold shV at HSh HQ
  generalize shO l (op, n, kids) = e at HSh HQ
  obtain ⟨so, sn, sa, sb, sc⟩ := e
  simp only at HSh HQ ⊢
  have zD := CELLS.out W1.drew HD.out
  clear hk hf h1 h2 h3 h4 h5 h6 h7 h8 hg hL hsi hff hb1 n0 n1 n2 hs1 har hll hln
  generalize findL p l (op, n, kidsL l kids) = F at HQ ⊢
  cases F with
  | none =>
    unfold told at HQ
    simp only at HQ
    go_enter Tryd.func52, Tryd.ntmps52
    go_wp2_with fail
    (try rw [hW1])
    clear hW1
    go_region_held3 (fun w' => w'.cell? ⟨s, 1, none⟩ = some (.slice gb l.length cb) ∧ w'.cell? ⟨s, 2, none⟩ = some (.map (some m)) ∧ w'.cell? ⟨w.heap.size, 0, none⟩ = some (.int .i64 op) ∧ w'.cell? ⟨w.heap.size, 1, none⟩ = some (.int .i64 n) ∧ w'.cell? ⟨w.heap.size, 2, none⟩ = some (.slice a len cap))
      (assumption)
      (first
      | (go_at_call 61; refine Calls.mono HSh.out ?_; rintro r w4 ⟨rfl, hb4⟩; have z4 := CELLS.out w4 hb4; obtain ⟨hL4, HB4⟩ := HQ.out w4 hb4))
    all_goals
      clear HSh HQ CELLS zD z4
      go_wp2
      go_ret2
      exact ⟨rfl, HB4.out⟩
  | some v =>
    unfold told at HQ
    simp only at HQ
    go_enter Tryd.func52, Tryd.ntmps52
    go_wp2_with fail
    (try rw [hW1])
    clear hW1
    go_region_held3 (fun w' => w'.cell? ⟨s, 1, none⟩ = some (.slice gb l.length cb) ∧ w'.cell? ⟨s, 2, none⟩ = some (.map (some m)) ∧ w'.cell? ⟨w.heap.size, 0, none⟩ = some (.int .i64 op) ∧ w'.cell? ⟨w.heap.size, 1, none⟩ = some (.int .i64 n) ∧ w'.cell? ⟨w.heap.size, 2, none⟩ = some (.slice a len cap))
      (assumption)
      (first
      | (go_at_call 61; refine Calls.mono HSh.out ?_; rintro r w4 ⟨rfl, hb4⟩; have z4 := CELLS.out w4 hb4; obtain ⟨hL4, HB4⟩ := HQ.out w4 hb4))
    all_goals
      clear HSh HQ CELLS zD z4
      go_wp2
      go_ret2
      exact ⟨rfl, HB4.out⟩
end Go.Proofs.YtemlghfcfploaaaDoor
namespace Go.Proofs.YtemlghfcfploaaaDoor
open Go.RowKit
set_option linter.unusedVariables false

/-- The worlds in which all that lay in W lies unturned. -/
def Ahead (W : World) : Type := {w' : World // Below W.heap.size W w'}
def Ahead.w {W : World} (x : Ahead W) : World := x.1
theorem Ahead.h {W : World} (x : Ahead W) : Below W.heap.size W x.w := x.2
def Ahead.mk {W w' : World} (h : Below W.heap.size W w') : Ahead W := ⟨w', h⟩
theorem Ahead.mk_w {W w' : World} (h : Below W.heap.size W w') : (Ahead.mk h).w = w' := rfl
theorem ahead_some (W : World) : Nonempty (Ahead W) := ⟨Ahead.mk (Below.refl _ _)⟩
theorem wp_region_ahead {P : Program} {id : Nat} {Q : Exit → Act → World → Prop} {a : Act} {w : World} {l : List Oper} (hm : P.follows .mixedOrders = true) (hB : Region.lexB .any l.toArray = true)
    (h : wpQuiet P l.toArray (fun w' => ∃ x : Ahead w, w' = x.w) (fun a' => ∀ w', (∃ x : Ahead w, w' = x.w) → Q .normal a' w') l a) : (Code.region id l.toArray true).wp P Q a w :=
  wp_region_quiet (C := fun w' => ∃ x : Ahead w, w' = x.w) hm hB ⟨Ahead.mk (Below.refl _ _).drew, rfl⟩ h
theorem ahead_of {P : Program} {f : FuncId} {args : Array Value} {W : World} {x : Ahead W} {v : Value}
    (h : Calls P f args x.w fun e w' => e = .returned v ∧ Below x.w.heap.size x.w w') : Calls P f args x.w fun e w' => e = .returned v ∧ ∃ y : Ahead W, w' = y.w :=
  h.mono fun _ w' ⟨he, hb⟩ => ⟨he, Ahead.mk (x.h.trans (hb.mono x.h.size)), rfl⟩
theorem ahead_of_same {P : Program} {f : FuncId} {args : Array Value} {W : World} {x : Ahead W} {v : Value}
    (h : Calls P f args x.w fun e w' => e = .returned v ∧ w' = x.w) : Calls P f args x.w fun e w' => e = .returned v ∧ ∃ y : Ahead W, w' = y.w :=
  h.mono fun _ w' ⟨he, hb⟩ => ⟨he, x, hb⟩
end Go.Proofs.YtemlghfcfploaaaDoor
