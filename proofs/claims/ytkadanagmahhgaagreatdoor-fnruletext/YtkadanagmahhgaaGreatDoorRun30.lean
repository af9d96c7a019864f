/-
  PROVED HERE: a region that draws its order, whose operations only read and whose callees turn nothing that lay there ahead of them, may be walked in the order of the text. No condition. what the program's GoodPoly answers, at every list of products. No other condition. what it is for a list of products to lie in memory of its own. No condition. what the program's taking of a sum out of its map, in order, answers. No other condition.
-/
import Derived.WalkKit
import Derived.BigQuiet
import Derived.Test.YtkadanagmahhgaaGreatDoorRun29
import Derived.Test.YtkadanagmahhgaaGreatDoorRun24
import Derived.Maps.RangeWalk
namespace Go.Proofs.YtkadanagmahhgaaGreatDoor
open Go.RowKit
set_option linter.unusedVariables false

/-- The worlds in which all that lay in W lies unturned. -/
def Ahead (W : World) : Type := {w' : World // Below W.heap.size W w'}
def Ahead.w {W : World} (x : Ahead W) : World := x.1
theorem Ahead.h {W : World} (x : Ahead W) : Below W.heap.size W x.w := x.2
def Ahead.mk {W w' : World} (h : Below W.heap.size W w') : Ahead W := ⟨w', h⟩
theorem Ahead.mk_w {W w' : World} (h : Below W.heap.size W w') : (Ahead.mk h).w = w' := rfl
theorem ahead_some (W : World) : Nonempty (Ahead W) := ⟨Ahead.mk (Below.refl _ _)⟩
theorem wp_region_ahead {P : Program} {id : Nat} {Q : Exit → Act → World → Prop} {a : Act} {w : World} {l : List Oper} (hm : P.follows .mixedOrders = true) (hB : Region.lexB .any l.toArray = true)
    (h : wpQuiet P l.toArray (fun w' => ∃ x : Ahead w, w' = x.w) (fun a' => ∀ w', (∃ x : Ahead w, w' = x.w) → Q .normal a' w') l a) : (Code.region id l.toArray true).wp P Q a w :=
  wp_region_quiet (C := fun w' => ∃ x : Ahead w, w' = x.w) hm hB ⟨Ahead.mk (Below.refl _ _).drew, rfl⟩ h
theorem ahead_of {P : Program} {f : FuncId} {args : Array Value} {W : World} {x : Ahead W} {v : Value}
    (h : Calls P f args x.w fun e w' => e = .returned v ∧ Below x.w.heap.size x.w w') : Calls P f args x.w fun e w' => e = .returned v ∧ ∃ y : Ahead W, w' = y.w :=
  h.mono fun _ w' ⟨he, hb⟩ => ⟨he, Ahead.mk (x.h.trans (hb.mono x.h.size)), rfl⟩
theorem ahead_of_same {P : Program} {f : FuncId} {args : Array Value} {W : World} {x : Ahead W} {v : Value}
    (h : Calls P f args x.w fun e w' => e = .returned v ∧ w' = x.w) : Calls P f args x.w fun e w' => e = .returned v ∧ ∃ y : Ahead W, w' = y.w :=
  h.mono fun _ w' ⟨he, hb⟩ => ⟨he, x, hb⟩
end Go.Proofs.YtkadanagmahhgaaGreatDoor
namespace Go.Proofs.YtkadanagmahhgaaGreatDoor
open Go.ChangeShapes Go.WideShapes Go.ChangeAt Go.RowKit
set_option linter.unusedVariables false

set_option maxHeartbeats 2000000 in
set_option maxRecDepth 20000 in
theorem implPoly_in (a : Option Addr) (len cap : Nat) (p : List Mon) (w : World) (h : PSl w a len p) (hm : len ≤ 40) :
    Calls Tryz.prog 160 #[.slice a len cap] w fun e w' => e = .returned (.bool (gpF none p)) ∧ Below w.heap.size w w' := by
  have hll := h.1
  have h40 : ¬ (40 : Int) < len := by omega
  go_enter Tryz.func160, Tryz.ntmps160
  go_wp2_with fail
  go_loopw [10] (fun i wr => ∃ k : Nat, k ≤ len ∧ i = .int .i64 (k : Int) ∧ Below w.heap.size w wr ∧ Hid (gpF (prevAt p k) (p.drop k) = gpF none p ∧ (0 < k → powB (p.getD (k - 1) ([], 0)).1 = true))) (fun i _ => len - (intOf i).toNat)
  case atStart => exact ⟨0, Nat.zero_le _, rfl, Below.refl _ _, rfl, fun h => absurd h (by omega)⟩
  case round =>
    obtain ⟨k, hk, rfl, hbr, hT⟩ := hrel
    by_cases hlt : k < len
    · have hw := h.keep hbr
      obtain ⟨b, off, rfl, hbl, hc⟩ := hw.at (by omega)
      obtain ⟨ai, li, ci, c1, hli, hci, hS, c2⟩ := hc k hlt
      have hst := gpF_drop p k (by omega)
      rw [hT.out.1] at hst
      have i1 : (k : Int) < len := by omega
      have hsz : ¬ b = wr.heap.size := by omega
      obtain ⟨W1, hW1⟩ : ∃ W1, wr.alloc (.cells #[.slice ai li ci, .int .i64 (p.getD k ([], 0)).2] 100) = W1 := ⟨_, rfl⟩
      have n0 : W1.cell? ⟨wr.heap.size, 0, none⟩ = some (.slice ai li ci) := by rw [← hW1]; simp [go_sem]
      have n1 : W1.cell? ⟨wr.heap.size, 1, none⟩ = some (.int .i64 (p.getD k ([], 0)).2) := by rw [← hW1]; simp [go_sem]
      have hb1 : Below wr.heap.size wr W1 := by rw [← hW1]; exact (Below.refl _ _).alloc (Nat.le_refl _) _
      have hs1 : wr.heap.size < W1.heap.size := by rw [← hW1]; simp
      have hB1 : Below w.heap.size w W1 := hbr.trans (hb1.mono hbr.size)
      have HG : Hid (∀ W, Below W1.heap.size W1 W → Calls Tryz.prog 172 #[.agg #[.slice ai li ci, .int .i64 (p.getD k ([], 0)).2]] W fun e w' => e = .returned (.bool (goodM (p.getD k ([], 0)))) ∧ Below W.heap.size W w') := fun W hW => goodM_any ai li ci _ _ W (hS.keep (hb1.trans (hW.mono hb1.size))) hli
      have HSl : Hid (∀ W, Below W1.heap.size W1 W → Sl W ai li (p.getD k ([], 0)).1) := fun W hW => hS.keep (hb1.trans (hW.mono hb1.size))
      have HFin : Hid (∀ W, Below W1.heap.size W1 W → Below w.heap.size w W) := fun W hW => hB1.trans (hW.mono hB1.size)
      have hfp : ∀ b, fitM (prevAt p k) (p.getD k ([], 0)) = b → (b = false → gpF none p = false) ∧ (b = true → gpF (prevAt p (k + 1)) (p.drop (k + 1)) = gpF none p) := fun b hb => by
        rw [hb] at hst
        refine ⟨fun e => ?_, fun e => ?_⟩
        · subst e; rw [hst]; rfl
        · subst e; rw [hst]; rfl
      have HF := (show Hid _ from hfp)
      have hprev := hT.out.2
      have HC := (show Hid _ from hc)
      clear hfp hst hT hw
      cases hp : goodM (p.getD k ([], 0)) with
      | false =>
        rw [hp] at HG
        have HV : Hid (gpF none p = false) := (HF.out false (by rw [fit_goodM, hp]; rfl)).1 rfl
        generalize (p.getD k ([], 0)).2 = y at c2 n1 hW1 HG
        have k0 : ∀ x : Ahead W1, x.w.cell? ⟨wr.heap.size, 0, none⟩ = some (.slice ai li ci) := fun x => (x.h.cell (p := ⟨wr.heap.size, 0, none⟩) hs1).trans n0
        have k1 : ∀ x : Ahead W1, x.w.cell? ⟨wr.heap.size, 1, none⟩ = some (.int .i64 y) := fun x => (x.h.cell (p := ⟨wr.heap.size, 1, none⟩) hs1).trans n1
        clear HF hp HC hS hc HSl hprev
        go_wp2_with fail
        (try rw [hW1])
        have hne := ahead_some W1
        refine wp_region_ahead (by kernel_rfl) (by kernel_rfl) ?_
        repeat (first
          | go_big_quiet_skip
          | (go_big_quiet_want; go_big_quiet_op; first | go_big_quiet_on | (apply Exists.intro; refine ⟨fun x => ?_, ?_⟩; (focus (exact ahead_of (HG.out _ x.h))); go_big_quiet_on)))
        refine wpQuiet_nil ?_
        intro _ hw'
        obtain ⟨xq, rfl⟩ := hw'
        all_goals
          go_wp2
          go_ret
          exact ⟨by rw [HV.out]; rfl, HFin.out _ xq.h⟩
      | true =>
        rw [hp] at HG
        have hpow : powB (p.getD k ([], 0)).1 = true := by unfold goodM at hp; rw [Bool.and_eq_true] at hp; exact hp.1
        by_cases hk0 : k = 0
        · have HN : Hid (gpF (prevAt p (k + 1)) (p.drop (k + 1)) = gpF none p ∧ (0 < k + 1 → powB (p.getD (k + 1 - 1) ([], 0)).1 = true)) := ⟨(HF.out true (by rw [fit_goodM, hp]; unfold prevAt; rw [if_pos hk0]; rfl)).2 rfl, fun _ => by rw [show k + 1 - 1 = k from by omega]; exact hpow⟩
          generalize (p.getD k ([], 0)).2 = y at c2 n1 hW1 HG
          have k0 : ∀ x : Ahead W1, x.w.cell? ⟨wr.heap.size, 0, none⟩ = some (.slice ai li ci) := fun x => (x.h.cell (p := ⟨wr.heap.size, 0, none⟩) hs1).trans n0
          have k1 : ∀ x : Ahead W1, x.w.cell? ⟨wr.heap.size, 1, none⟩ = some (.int .i64 y) := fun x => (x.h.cell (p := ⟨wr.heap.size, 1, none⟩) hs1).trans n1
          clear HF hp HC hS hc HSl hprev hpow
          subst hk0
          rw [Nat.zero_mul, Nat.add_zero] at c1 c2
          go_wp2_with fail
          (try rw [hW1])
          have hne := ahead_some W1
          refine wp_region_ahead (by kernel_rfl) (by kernel_rfl) ?_
          repeat (first
            | go_big_quiet_skip
            | (go_big_quiet_want; go_big_quiet_op; first | go_big_quiet_on | (apply Exists.intro; refine ⟨fun x => ?_, ?_⟩; (focus (exact ahead_of (HG.out _ x.h))); go_big_quiet_on)))
          refine wpQuiet_nil ?_
          intro _ hw'
          obtain ⟨xq, rfl⟩ := hw'
          all_goals
            go_wp2
            exact ⟨⟨0 + 1, by omega, by go_num, HFin.out _ xq.h, HN⟩, by simp [intOf]; omega⟩
        · obtain ⟨j, rfl⟩ : ∃ j, k = j + 1 := ⟨k - 1, by omega⟩
          have hpj := hprev (by omega)
          rw [show j + 1 - 1 = j from by omega] at hpj
          obtain ⟨aj, lj, cj, d1, hlj, hcj, hSj, d2⟩ := HC.out j (by omega)
          have hl1 := pow_len hpj
          have hl2 := pow_len hpow
          have e1 := hSj.1
          have e2 := hS.1
          obtain rfl : lj = 4 := by omega
          obtain rfl : li = 4 := by omega
          have HCm : Hid (∀ W, Below W1.heap.size W1 W → Calls Tryz.prog 159 #[.slice aj 4 cj, .slice ai 4 ci] W fun e w' => e = .returned (.int .i64 (cmpL (p.getD j ([], 0)).1 (p.getD (j + 1) ([], 0)).1)) ∧ w' = W) := fun W hW => slcmp_any aj ai 4 cj ci _ _ _ (hSj.keep (hb1.trans (hW.mono hb1.size))) (HSl.out _ hW) (by omega)
          have d1' : W1.cell? ⟨b, off + j * 2, none⟩ = some (.slice aj 4 cj) := (hb1.cell (p := ⟨b, off + j * 2, none⟩) hbl).trans d1
          have hkk : decide ((0 : Int) < ((j + 1 : Nat) : Int)) = true := decide_eq_true (by omega)
          have hpv : prevAt p (j + 1) = some (p.getD j ([], 0)).1 := by unfold prevAt; rw [if_neg (by omega), show j + 1 - 1 = j from by omega]
          have HG' : Hid (∀ c, cmpL (p.getD j ([], 0)).1 (p.getD (j + 1) ([], 0)).1 = c → (c ≤ 0 → gpF none p = false) ∧ (¬ c ≤ 0 → gpF (prevAt p (j + 1 + 1)) (p.drop (j + 1 + 1)) = gpF none p)) := fun c hc' => by
            refine ⟨fun h0 => (HF.out false ?_).1 rfl, fun h0 => (HF.out true ?_).2 rfl⟩
            · rw [fit_goodM, hpv, hp]; simp only []; rw [hc', decide_eq_false (by omega)]; rfl
            · rw [fit_goodM, hpv, hp]; simp only []; rw [hc', decide_eq_true (by omega)]; rfl
          have HP2 : Hid (powB (p.getD (j + 1) ([], 0)).1 = true) := hpow
          have jj : (j : Int) < len := by omega
          have hb1w : b < W1.heap.size := Nat.lt_of_lt_of_le hbl hb1.size
          obtain ⟨c, hcv⟩ : ∃ c, cmpL (p.getD j ([], 0)).1 (p.getD (j + 1) ([], 0)).1 = c := ⟨_, rfl⟩
          have HG2 := (show Hid _ from HG'.out c hcv)
          rw [hcv] at HCm
          generalize (p.getD (j + 1) ([], 0)).2 = y at c2 n1 hW1 HG
          have k0 : ∀ x : Ahead W1, x.w.cell? ⟨wr.heap.size, 0, none⟩ = some (.slice ai 4 ci) := fun x => (x.h.cell (p := ⟨wr.heap.size, 0, none⟩) hs1).trans n0
          have k1 : ∀ x : Ahead W1, x.w.cell? ⟨wr.heap.size, 1, none⟩ = some (.int .i64 y) := fun x => (x.h.cell (p := ⟨wr.heap.size, 1, none⟩) hs1).trans n1
          have k2 : ∀ x : Ahead W1, x.w.cell? ⟨b, off + j * 2, none⟩ = some (.slice aj 4 cj) := fun x => (x.h.cell (p := ⟨b, off + j * 2, none⟩) hb1w).trans d1'
          clear HF HC hS hSj hc HSl hprev hk0 hp hpj d1 d2 hl1 hl2 e1 e2 hpv HG' hcv hpow
          by_cases h0 : c ≤ 0
          · have q0 : decide (c ≤ 0) = true := decide_eq_true h0
            have HV : Hid (gpF none p = false) := HG2.out.1 h0
            clear HG2
            go_wp2_with fail
            (try rw [hW1])
            have hne := ahead_some W1
            refine wp_region_ahead (by kernel_rfl) (by kernel_rfl) ?_
            repeat (first
              | go_big_quiet_skip
              | (go_big_quiet_want; go_big_quiet_op; first | go_big_quiet_on | (apply Exists.intro; refine ⟨fun x => ?_, ?_⟩; (focus (first | exact ahead_of (HG.out _ x.h) | exact ahead_of_same (HCm.out _ x.h))); go_big_quiet_on)))
            refine wpQuiet_nil ?_
            intro _ hw'
            obtain ⟨xq, rfl⟩ := hw'
            all_goals
              go_wp2
              go_ret
              exact ⟨by rw [HV.out]; rfl, HFin.out _ xq.h⟩
          · have q0 : decide (c ≤ 0) = false := decide_eq_false h0
            have HN : Hid (gpF (prevAt p (j + 1 + 1)) (p.drop (j + 1 + 1)) = gpF none p ∧ (0 < j + 1 + 1 → powB (p.getD (j + 1 + 1 - 1) ([], 0)).1 = true)) := ⟨HG2.out.2 h0, fun _ => by rw [show j + 1 + 1 - 1 = j + 1 from by omega]; exact HP2.out⟩
            clear HG2
            go_wp2_with fail
            (try rw [hW1])
            have hne := ahead_some W1
            refine wp_region_ahead (by kernel_rfl) (by kernel_rfl) ?_
            repeat (first
              | go_big_quiet_skip
              | (go_big_quiet_want; go_big_quiet_op; first | go_big_quiet_on | (apply Exists.intro; refine ⟨fun x => ?_, ?_⟩; (focus (first | exact ahead_of (HG.out _ x.h) | exact ahead_of_same (HCm.out _ x.h))); go_big_quiet_on)))
            refine wpQuiet_nil ?_
            intro _ hw'
            obtain ⟨xq, rfl⟩ := hw'
            all_goals
              go_wp2
              exact ⟨⟨j + 1 + 1, by omega, by go_num, HFin.out _ xq.h, HN⟩, by simp [intOf]; omega⟩
    · obtain rfl : k = len := by omega
      have HE : Hid (gpF none p = true) := by show _ = _; rw [← hT.out.1, ← hll, List.drop_of_length_le (Nat.le_refl _)]; rfl
      clear hT
      go_wp2
      go_ret
      exact ⟨by rw [HE.out]; rfl, hbr⟩
theorem implPoly_any (a : Option Addr) (len cap : Nat) (p : List Mon) (w : World) (h : PSl w a len p) (hm : len ≤ 9223372036854775807) :
    Calls Tryz.prog 160 #[.slice a len cap] w fun e w' => e = .returned (.bool (polyB p)) ∧ Below w.heap.size w w' := by
  by_cases h40 : len ≤ 40
  · have e : polyB p = gpF none p := by unfold polyB; rw [h.1, decide_eq_true h40]; simp
    rw [e]
    exact implPoly_in a len cap p w h h40
  · have e : polyB p = false := by unfold polyB; rw [h.1, decide_eq_false h40]; simp
    rw [e]
    have i1 : 40 < (len : Int) := by omega
    go_enter Tryz.func160, Tryz.ntmps160
    go_wp2
    go_ret
    exact ⟨rfl, Below.refl _ _⟩
end Go.Proofs.YtkadanagmahhgaaGreatDoor
namespace Go.Proofs.YtkadanagmahhgaaGreatDoor
open Go.ChangeShapes Go.WideShapes Go.ChangeAt Go.RowKit
set_option linter.unusedVariables false

/-- A list of products of one's own, in blocks from lo on: each part may be written, and no two lie in one block. -/
def PMine (w : World) (lo hi g len : Nat) (p : List Mon) : Prop :=
  p.length = len ∧ lo ≤ g ∧ g < hi ∧ hi ≤ w.heap.size ∧ ∃ bs : Nat → Nat, (∀ i, i < len → lo ≤ bs i ∧ bs i < hi ∧ bs i ≠ g ∧ ∀ j, j < i → bs j ≠ bs i) ∧
    ∀ i, i < len → (∃ c, (p.getD i ([], 0)).1.length ≤ c ∧ w.cell? ⟨g, i * 2, none⟩ = some (.slice (some ⟨bs i, 0, none⟩) (p.getD i ([], 0)).1.length c)) ∧ w.cell? ⟨g, i * 2 + 1, none⟩ = some (.int .i64 (p.getD i ([], 0)).2) ∧ w.frozen? ⟨g, i * 2 + 1, none⟩ = false ∧
      ∀ j, j < (p.getD i ([], 0)).1.length → w.cell? ⟨bs i, j, none⟩ = some (.int .i64 ((p.getD i ([], 0)).1.getD j 0)) ∧ w.frozen? ⟨bs i, j, none⟩ = false
theorem PMine.psl {w : World} {lo hi g len : Nat} {p : List Mon} (h : PMine w lo hi g len p) (hp : ∀ i, i < len → (p.getD i ([], 0)).1.length ≤ 9223372036854775807) : PSl w (some ⟨g, 0, none⟩) len p := by
  obtain ⟨h1, h2, h3, hw, bs, h4, h5⟩ := h
  refine ⟨h1, .inr ⟨g, 0, rfl, by omega, fun i hi => ?_⟩⟩
  obtain ⟨⟨c, hc, c1⟩, c2, c3, c4⟩ := h5 i hi
  have hb := (h4 i hi).2.1
  refine ⟨some ⟨bs i, 0, none⟩, _, c, by rw [Nat.zero_add]; exact c1, hp i hi, hc, ⟨rfl, .inr ⟨bs i, 0, rfl, by omega, fun j hj => by rw [Nat.zero_add]; exact (c4 j hj).1⟩⟩, by rw [Nat.zero_add]; exact c2⟩
/-- Where its blocks stay as they were. -/
theorem PMine.map {w w' : World} {lo hi lo' hi' g len : Nat} {p : List Mon} (h : PMine w lo hi g len p) (hl : lo' ≤ lo) (hh : hi ≤ hi') (hs : hi' ≤ w'.heap.size) (hk : ∀ b, lo ≤ b → b < hi → w'.heap[b]? = w.heap[b]?) : PMine w' lo' hi' g len p := by
  obtain ⟨h1, h2, h3, hw, bs, h4, h5⟩ := h
  refine ⟨h1, by omega, by omega, hs, bs, fun i hi => ?_, fun i hi => ?_⟩
  · obtain ⟨a, b, c, d⟩ := h4 i hi
    exact ⟨by omega, by omega, c, d⟩
  · obtain ⟨⟨c, hc, c1⟩, c2, c3, c4⟩ := h5 i hi
    have hg := hk g h2 h3
    have hbs := hk (bs i) (h4 i hi).1 (h4 i hi).2.1
    exact ⟨⟨c, hc, (World.cell?_of_block (a := ⟨g, i * 2, none⟩) hg).trans c1⟩, (World.cell?_of_block (a := ⟨g, i * 2 + 1, none⟩) hg).trans c2, (World.frozen?_of_block (a := ⟨g, i * 2 + 1, none⟩) hg).trans c3,
      fun j hj => ⟨(World.cell?_of_block (a := ⟨bs i, j, none⟩) hbs).trans (c4 j hj).1, (World.frozen?_of_block (a := ⟨bs i, j, none⟩) hbs).trans (c4 j hj).2⟩⟩
theorem PMine.keep {w w' : World} {lo hi g len : Nat} {p : List Mon} (h : PMine w lo hi g len p) (hb : Below w.heap.size w w') : PMine w' lo hi g len p :=
  h.map (Nat.le_refl _) (Nat.le_refl _) (Nat.le_trans h.2.2.2.1 hb.size) (fun b _ hlt => hb.block b (by have := h.2.2.2.1; omega))
end Go.Proofs.YtkadanagmahhgaaGreatDoor
namespace Go.Proofs.YtkadanagmahhgaaGreatDoor
open Go.ChangeShapes Go.WideShapes Go.ChangeAt Go.RowKit
open Go.MapKept Go.ChangeMaps
set_option linter.unusedVariables false

/-- An answer that is a list of products, in memory of its own from lo on. -/
def OwnV (w : World) (lo : Nat) (v : Value) (q : List Mon) : Prop := (q = [] ∧ ∃ a cap, v = .slice a 0 cap) ∨ ∃ g cap, v = .slice (some ⟨g, 0, none⟩) q.length cap ∧ q.length ≤ cap ∧ 0 < q.length ∧ PMine w lo w.heap.size g q.length q
/-- What the range has done so far. -/
def OrdR (w wr : World) (b : Nat) (es : Array MapEntry) (clock : Nat) (v : Value) (L : List MapEntry) (T : List Cel) (seen : Array Nat) (c : Nat) : Prop :=
  wr.heap[w.heap.size]? = some (.mapIter (some b) clock seen c) ∧ clock ≤ c ∧ Met es seen L ∧ CollR wr (w.heap.size + 1) v T ∧ T.map (fun t => (t.2.2 : Mon)) = L.map decode ∧ Below w.heap.size w wr
theorem infoMonoO : (Tryz.prog.info? 100).map (fun i => (i.zero, i.size, i.bytes)) = some (some (.agg #[.slice none 0 0, .int .i64 0]), 2, 32) := by kernel_rfl
theorem two_newO (w : World) (x y : Value) (t : TypeId) : ∀ j u, [x, y][j]? = some u → (w.alloc (.cells #[x, y] t)).cell? ((⟨w.heap.size, 0, none⟩ : Addr).add j) = some u := by
  intro j u hj
  match j, hj with
  | 0, hj => simp at hj; subst hj; simp [Addr.add]
  | 1, hj => simp at hj; subst hj; simp [Addr.add]
theorem coef_perm {p q : List Mon} (h : p.Perm q) (e : List Int) : coef p e = coef q e := by
  induction h with
  | nil => rfl
  | cons x _ ih => rw [coef_cons, coef_cons, ih]
  | swap x y l => rw [coef_cons, coef_cons, coef_cons, coef_cons]; omega
  | trans _ _ ih1 ih2 => rw [ih1, ih2]
theorem apart_perm {p q : List Mon} (h : p.Perm q) (ha : Apart q) : Apart p := (h.pairwise_iff (fun {x y} hxy => Ne.symm hxy)).2 ha
theorem sum_perm {p q : List Mon} (h : p.Perm q) (hs : SumM q) : SumM p := fun m hm => hs m (h.mem_iff.1 hm)
theorem falls_of {q : List Mon} (h4 : ∀ m ∈ q, m.1.length = 4) (ha : Apart q) (hp : q.Pairwise (fun x y => cmpL y.1 x.1 ≠ 1)) : Falls q := by
  refine List.pairwise_iff_getElem.2 fun i j hi hj hij => ?_
  have h1 := List.pairwise_iff_getElem.1 ha i j hi hj hij
  have h2 := List.pairwise_iff_getElem.1 hp i j hi hj hij
  have l1 := h4 _ (List.getElem_mem hi)
  have l2 := h4 _ (List.getElem_mem hj)
  rcases cmp_range (q[i]).1 (q[j]).1 with c | c | c
  · exact absurd (by rw [cmp_swap, c]; rfl) h2
  · exact absurd (cmp_eq (by rw [l1, l2]) c) h1
  · exact c
/-- What sorting leaves is one's own. -/
theorem mine_of {W w' : World} {lo lo' g : Nat} {T T' : List Cel} (hlo : lo' ≤ lo) (hg0 : lo ≤ g) (hg1 : g < W.heap.size) (hd : T.Pairwise (fun x y => x.1 ≠ y.1)) (hT : ∀ t ∈ T, ElP W g lo t) (hgr : W.grownBy w' (some g)) (hp : T'.Perm T) (hr : RowT w' g T') : PMine w' lo' w'.heap.size g (T'.map fun t => (t.2.2 : Mon)).length (T'.map fun t => (t.2.2 : Mon)) := by
  have hsz := hgr.size
  have hel : ∀ i, i < T'.length → ∃ t, T'[i]? = some t ∧ t ∈ T ∧ (T'.map fun t => (t.2.2 : Mon)).getD i ([], 0) = t.2.2 ∧ T'.getD i (0, 0, [], 0) = t := fun i hi => by
    refine ⟨T'[i], List.getElem?_eq_getElem hi, hp.mem_iff.1 (List.getElem_mem _), ?_, ?_⟩
    · rw [List.getD_eq_getElem?_getD, List.getElem?_map, List.getElem?_eq_getElem hi]; rfl
    · rw [List.getD_eq_getElem?_getD, List.getElem?_eq_getElem hi]; rfl
  have hd' : T'.Pairwise (fun x y => x.1 ≠ y.1) := (hp.pairwise_iff (fun {x y} hxy => Ne.symm hxy)).2 hd
  rw [List.length_map]
  refine ⟨by simp, by omega, by omega, Nat.le_refl _, fun i => (T'.getD i (0, 0, [], 0)).1, fun i hi => ?_, fun i hi => ?_⟩
  · obtain ⟨t, h1, h2, h3, h4⟩ := hel i hi
    obtain ⟨a, b, c, d, e⟩ := hT t h2
    simp only [h4]
    refine ⟨by omega, by omega, c, fun j hj => ?_⟩
    obtain ⟨u, k1, k2, k3, k4⟩ := hel j (by omega)
    rw [k4]
    have hj' : j < T'.length := by omega
    have := List.pairwise_iff_getElem.1 hd' j i hj' hi hj
    rw [List.getElem?_eq_getElem hi] at h1
    rw [List.getElem?_eq_getElem hj'] at k1
    rw [Option.some.inj h1, Option.some.inj k1] at this
    exact this
  · obtain ⟨t, h1, h2, h3, h4⟩ := hel i hi
    obtain ⟨a, b, c, d, e⟩ := hT t h2
    obtain ⟨r1, r2, r3, r4⟩ := hr i t h1
    have hP : Pow4 w' t.1 t.2.2.1 := e.block (hgr.block t.1 b (fun e' => c (Option.some.inj e')))
    rw [h3]
    simp only [h4]
    rw [hP.1]
    exact ⟨⟨t.2.1, d, r1⟩, r2, r4, fun j hj => hP.2 j hj⟩
theorem two_oneO (g cp : Nat) (n : Int) : ∀ u ∈ [Value.slice (some ⟨g, 0, none⟩) 4 cp, Value.int .i64 n], u.oneCell' = true := fun u hu => by
  simp at hu
  rcases hu with rfl | rfl <;> rfl
set_option maxHeartbeats 1000000 in
set_option maxRecDepth 20000 in
theorem order_any (b : Nat) (M : List Mon) (w : World) (h : PMap w b M) (hs : SumM M) (hl : M.length ≤ 100000) :
    Calls Tryz.prog 141 #[.map (some b)] w fun r w' => ∃ v q, r = .returned (.tuple #[v, .bool (polyB q)]) ∧ Below w.heap.size w w' ∧ Falls q ∧ Fine 4 q ∧ (∀ e, coef q e = coef M e) ∧ OwnV w' w.heap.size v (if polyB q = true then q else []) := by
  obtain ⟨i0, hi, hz0, hz1, hz2⟩ := info_parts infoMonoO
  have hap := h.apart
  have hblt := h.lt
  obtain ⟨es, clock, hb, hst, hent, hk4⟩ := h
  obtain ⟨s1, s2, s3⟩ := (stamped_iff es clock).1 hst
  have hrange := run_range_map (P := Tryz.prog) w 173 171 2 b es clock Tryz.underlying173 hb
  have hdec := decode_all hent
  have hlen : es.toList.length = M.length := entries_len hent
  have HEnt := (show Hid _ from hent)
  have HK4 := (show Hid _ from hk4)
  have HS1 := (show Hid _ from s1)
  have HS2 := (show Hid _ from s2)
  clear hst s3 hent hk4 s1 s2
  go_enter Tryz.func141, Tryz.ntmps141
  go_wp2_with fail
  go_loopw [4] (fun v wr => ∃ L T seen c, Hid (OrdR w wr b es clock v L T seen c)) (fun _ wr => stillIn b w.heap.size wr)
  case atStart => exact ⟨[], [], #[], clock, heap_alloc_new _ _, Nat.le_refl _, ⟨rfl, fun x hx => absurd hx (List.not_mem_nil), List.Pairwise.nil⟩, CollR.nil _ _, rfl, (Below.refl _ _).alloc (Nat.le_refl _) _⟩
  case round =>
    obtain ⟨L, T, seen, c, HR⟩ := hrel
    clear hrange
    have hbr := HR.out.2.2.2.2.2
    have hbw : wr.heap[b]? = some (.map es clock) := (hbr.block b hblt).trans hb
    have hit := HR.out.1
    have hsc := HR.out.2.1
    have hstill : stillIn b w.heap.size wr = (leftOf es seen).size := by unfold stillIn; rw [hbw, hit]
    have HST := (show Hid _ from hstill)
    have hTl : T.length = L.length := by have := congrArg List.length HR.out.2.2.2.2.1; simpa using this
    clear hstill
    go_wp2_with (at_next; refine wpList_next4 _ rfl _ rfl w.heap.size b clock c seen es clock rfl hit hbw HS1.out hsc ?_ ?_)
    · intro h0
      clear hTl
      have hperm := HR.out.2.2.1.fin HS2.out (by rw [h0]; rfl)
      have hTM : (T.map fun t => (t.2.2 : Mon)).Perm M := by
        rw [HR.out.2.2.2.2.1, ← hdec]
        exact hperm.map _
      have hC := HR.out.2.2.2.1
      have hTlen : T.length ≤ 100000 := by have := hTM.length_eq; rw [List.length_map] at this; omega
      have fin : ∀ q : List Mon, q.Perm M → q.Pairwise (fun x y => cmpL y.1 x.1 ≠ 1) → Falls q ∧ Fine 4 q ∧ ∀ e, coef q e = coef M e := fun q hq hpw => by
        have h4 : ∀ m ∈ q, m.1.length = 4 := fun m hm => (HK4.out m (hq.mem_iff.1 hm)).1
        exact ⟨falls_of h4 (apart_perm hq hap) hpw, fun m hm => ⟨h4 m hm, (sum_perm hq hs) m hm⟩, coef_perm hq⟩
      have FIN := (show Hid _ from fin)
      have HBr : Hid (Below w.heap.size w wr) := hbr
      by_cases hT0 : T.length = 0
      · obtain rfl : T = [] := List.eq_nil_of_length_eq_zero hT0
        obtain ⟨pa, pc, rfl⟩ : ∃ a c, u4 = .slice a 0 c := by
          rcases hC.1.2 with ⟨rfl, _⟩ | ⟨g, cp, cur, rfl, _⟩
          · exact ⟨_, _, rfl⟩
          · exact ⟨_, _, rfl⟩
        have HSo : Hid (∀ W, Calls Tryz.prog 157 #[.slice pa 0 pc, .func (.func 158) #[] #[]] W fun e w' => e = .returned (.tuple #[]) ∧ w' = W) := fun W => sort_none pa pc _ W
        have HGo : Hid (∀ W, Calls Tryz.prog 160 #[.slice pa 0 pc] W fun e w' => e = .returned (.bool true) ∧ Below W.heap.size W w') := fun W => implPoly_any pa 0 pc [] W ⟨rfl, .inl rfl⟩ (by omega)
        have HE : Hid (Falls [] ∧ Fine 4 [] ∧ ∀ e, coef [] e = coef M e) := FIN.out [] hTM List.Pairwise.nil
        clear hC hTM hperm HR hit hbw fin FIN
        go_wp2_with fail
        refine Calls.mono (HSo.out _) ?_
        rintro r w2 ⟨rfl, rfl⟩
        go_wp2_with fail
        refine Calls.mono (HGo.out _) ?_
        rintro r w3 ⟨rfl, hb3⟩
        have hB3 := HBr.out.trans (hb3.mono HBr.out.size)
        clear HSo HGo hb3
        go_wp2
        go_ret2
        exact ⟨_, [], rfl, hB3, HE.out.1, HE.out.2.1, HE.out.2.2, .inl ⟨rfl, _, _, rfl⟩⟩
      · obtain ⟨g, cp, rfl, hg0, hg1, hcp⟩ : ∃ g cp, u4 = .slice (some ⟨g, 0, none⟩) T.length cp ∧ w.heap.size + 1 ≤ g ∧ g < wr.heap.size ∧ T.length ≤ cp := by
          rcases hC.1.2 with ⟨_, h'⟩ | ⟨g, cp, cur, rfl, h1, h2, h3, _⟩
          · exact absurd h' hT0
          · exact ⟨g, cp, rfl, h1, (Array.getElem?_eq_some_iff.1 h2).1, h3⟩
        have hEl : ∀ t ∈ T, ElP wr g (w.heap.size + 1) t := fun t ht => by
          obtain ⟨a, b', c', d, e'⟩ := hC.2.2 t ht
          exact ⟨a, b', fun e'' => c' (by rw [e'']; rfl), d, e'⟩
        have hRow : RowT wr g T := fun i t ht => by
          obtain ⟨f1, f2⟩ := flatT_get T i t ht
          have hi' : i < T.length := (List.getElem?_eq_some_iff.1 ht).1
          exact ⟨by rw [hC.1.cellAt (i * 2) (by omega)]; exact f1, by rw [hC.1.cellAt (i * 2 + 1) (by omega)]; exact f2, hC.1.frozenAt (i * 2), hC.1.frozenAt (i * 2 + 1)⟩
        have HSo := (show Hid _ from sort_any g (w.heap.size + 1) cp T wr hg1 (by omega) (by omega) hEl hRow)
        have HMi : Hid (∀ w2 T', wr.grownBy w2 (some g) → T'.Perm T → RowT w2 g T' → T'.Pairwise (fun x y => cmpL y.2.2.1 x.2.2.1 ≠ 1) → ∃ q, q = (T'.map fun t => (t.2.2 : Mon)) ∧ q.length = T.length ∧ PMine w2 w.heap.size w2.heap.size g T.length q ∧ (Falls q ∧ Fine 4 q ∧ ∀ e, coef q e = coef M e) ∧ PSl w2 (some ⟨g, 0, none⟩) T.length q ∧ Below w.heap.size w w2) := fun w2 T' g2 p2 r2 s2 => by
          have hm := mine_of (lo' := w.heap.size) (by omega) hg0 hg1 hC.2.1 hEl g2 p2 r2
          have hln : (T'.map fun t => (t.2.2 : Mon)).length = T.length := by rw [List.length_map, p2.length_eq]
          rw [hln] at hm
          have hfine := FIN.out (T'.map fun t => (t.2.2 : Mon)) ((p2.map _).trans hTM) (List.pairwise_map.2 s2)
          refine ⟨_, rfl, hln, hm, hfine, hm.psl (fun i hi => ?_), HBr.out.grown g2 HBr.out.size (fun r hr => by cases hr; omega)⟩
          have := (hfine.2.1 _ (show (T'.map fun t => (t.2.2 : Mon)).getD i ([], 0) ∈ _ from by
            rw [List.getD_eq_getElem?_getD, List.getElem?_eq_getElem (by omega)]; exact List.getElem_mem _)).1
          omega
        have hTi : (0 : Int) < T.length := by omega
        clear hC hTM hperm HR hit hbw fin FIN hEl hRow
        go_wp2_with fail
        refine Calls.mono HSo.out ?_
        rintro r w2 ⟨rfl, g2, T', p2, r2, s2⟩
        obtain ⟨q, -, hql, hm2, hfi, hps, hB2⟩ := HMi.out w2 T' g2 p2 r2 s2
        have HGo := (show Hid _ from implPoly_any (some ⟨g, 0, none⟩) T.length cp q w2 hps (by omega))
        have HFi := (show Hid _ from hfi)
        have HM2 := (show Hid _ from hm2)
        clear HSo HMi g2 p2 r2 s2 hps hfi hm2
        cases hq : polyB q with
        | true =>
          rw [hq] at HGo
          go_wp2_with fail
          refine Calls.mono HGo.out ?_
          rintro r w3 ⟨rfl, hb3⟩
          have hB3 := hB2.trans (hb3.mono hB2.size)
          have HM3 := (show Hid _ from PMine.map (lo' := w.heap.size) (hi' := w3.heap.size) HM2.out (Nat.le_refl _) hb3.size (Nat.le_refl _) (fun x _ hx => hb3.block x hx))
          clear HGo hb3
          go_wp2
          go_ret2
          exact ⟨_, q, by rw [hq]; rfl, hB3, HFi.out.1, HFi.out.2.1, HFi.out.2.2, .inr ⟨g, cp, by rw [if_pos hq, hql]; rfl, by rw [if_pos hq]; omega, by rw [if_pos hq]; omega, by rw [if_pos hq, hql]; exact HM3.out⟩⟩
        | false =>
          rw [hq] at HGo
          go_wp2_with fail
          refine Calls.mono HGo.out ?_
          rintro r w3 ⟨rfl, hb3⟩
          have hB3 := hB2.trans (hb3.mono hB2.size)
          clear HGo hb3
          go_wp2
          go_ret2
          exact ⟨_, q, by rw [hq]; rfl, hB3, HFi.out.1, HFi.out.2.1, HFi.out.2.2, .inl ⟨by rw [if_neg (by rw [hq]; exact Bool.false_ne_true)], _, _, rfl⟩⟩
    · intro e he0 w1 HW1
      have he : e ∈ (leftOf es seen).toList := by simpa using he0
      clear he0
      have hw1 := HW1.out
      clear HW1
      have heE : e ∈ es.toList := by
        unfold leftOf at he
        simp only [Array.toList_filter, List.mem_filter] at he
        exact he.1
      obtain ⟨j, hj⟩ := List.getElem?_of_mem heE
      obtain ⟨m, hm, ek, ev⟩ := entries_at HEnt.out hj
      have hmk := HK4.out m (List.mem_of_getElem? hm)
      obtain ⟨es4, y⟩ := m
      obtain ⟨hm4, hmi⟩ := hmk
      simp only at ek ev hm4
      obtain ⟨a0, a1, a2, a3, rfl⟩ : ∃ a0 a1 a2 a3, es4 = [a0, a1, a2, a3] := by
        match es4, hm4 with
        | [a, b, c, d], _ => exact ⟨a, b, c, d, rfl⟩
      rw [keyV4] at ek
      obtain ⟨W1, hW1⟩ : ∃ W1, setBlock w1 w.heap.size (.mapIter (some b) clock (seen.push e.born) clock) = W1 := ⟨_, rfl⟩
      have hws := hbr.size
      have hwl : w.heap.size < wr.heap.size := (Array.getElem?_eq_some_iff.1 hit).1
      have hh1 : ∀ x : Nat, w1.heap[x]? = wr.heap[x]? := fun x => by rcases hw1 with rfl | rfl <;> rfl
      have hsz1 : w1.heap.size = wr.heap.size := by rcases hw1 with rfl | rfl <;> rfl
      have hszW : W1.heap.size = wr.heap.size := by rw [← hW1, setBlock_size, hsz1]
      have hblk : ∀ x, x ≠ w.heap.size → W1.heap[x]? = wr.heap[x]? := fun x hx => by rw [← hW1, setBlock_ne x hx]; exact hh1 x
      have hitW : W1.heap[w.heap.size]? = some (.mapIter (some b) clock (seen.push e.born) clock) := by rw [← hW1]; exact setBlock_get (by omega)
      have hBW : Below w.heap.size w W1 := by
        have o1 : w1.os = wr.os ∧ w1.tape = wr.tape ∧ w1.output = wr.output := by rcases hw1 with rfl | rfl <;> exact ⟨rfl, rfl, rfl⟩
        refine ⟨?_, ?_, ?_, by omega, fun x hx => (hblk x (by omega)).trans (hbr.block x hx)⟩
        · rw [← hW1]; exact o1.1.trans hbr.os
        · rw [← hW1]; exact o1.2.1.trans hbr.tape
        · rw [← hW1]; exact o1.2.2.trans hbr.output
      have hbW1 : W1.heap[b]? = some (.map es clock) := (hblk b (by omega)).trans hbw
      have hen := run_entry_at (P := Tryz.prog) W1 w.heap.size b clock seen es clock e hitW hbW1 heE HS2.out
      rw [ek, ev] at hen
      have HC1 : Hid (CollR W1 (w.heap.size + 1) u4 T) := HR.out.2.2.2.1.same (by omega) (fun x hx _ => hblk x (by omega))
      obtain ⟨W2, hW2⟩ : ∃ W2, W1.alloc (.cells #[.int .i64 a0, .int .i64 a1, .int .i64 a2, .int .i64 a3] 171) = W2 := ⟨_, rfl⟩
      have hb2 : Below W1.heap.size W1 W2 := by rw [← hW2]; exact (Below.refl _ _).alloc (Nat.le_refl _) _
      have hs2 : W2.heap.size = W1.heap.size + 1 := by rw [← hW2]; simp
      have hSl : Sl W2 (some ⟨W1.heap.size, 0, none⟩) 4 [a0, a1, a2, a3] := by
        refine ⟨rfl, .inr ⟨W1.heap.size, 0, rfl, by omega, fun i hi => ?_⟩⟩
        rw [← hW2]
        match i, hi with
        | 0, _ => simp [go_sem]
        | 1, _ => simp [go_sem]
        | 2, _ => simp [go_sem]
        | 3, _ => simp [go_sem]
      have HCl := (show Hid _ from clone4_any W1.heap.size 0 4 [a0, a1, a2, a3] W2 hSl)
      rw [hszW] at HCl
      have hMet := HR.out.2.2.1.more he
      have hTm := HR.out.2.2.2.2.1
      have hless := left_less he
      have hLl : (L ++ [e]).length ≤ es.toList.length := by
        have n1 : (L ++ [e]).Nodup := nodup_of_map _ _ hMet.2.2
        exact nodup_le _ _ n1 (fun x hx => hMet.2.1 x hx)
      have hTb : T.length < 100000 := by
        rw [List.length_append] at hLl
        simp only [List.length_singleton] at hLl
        omega
      have HD : Hid (decode e = ([a0, a1, a2, a3], y)) := decode_of (by rw [ek, keyV4]) ev
      have HFin : Hid (∀ (g cp : Nat) (w3 Wa w5 : World) (v5 : Value), 4 ≤ cp → W2.heap.size ≤ g → g < w3.heap.size → Pow4 w3 g [a0, a1, a2, a3] → Below W2.heap.size W2 w3 → w3.alloc (.cells #[.slice (some ⟨g, 0, none⟩) 4 cp, .int .i64 y] 100) = Wa → w5.ownsRow (w.heap.size + 1) 100 2 v5 (T.length + 1) (flatT T ++ [.slice (some ⟨g, 0, none⟩) 4 cp, .int .i64 y]) → Wa.grownBy w5 u4.ownBlock → (v5.ownBlock = u4.ownBlock ∨ v5.ownBlock = some Wa.heap.size) →
          OrdR w w5 b es clock v5 (L ++ [e]) (T ++ [(g, cp, [a0, a1, a2, a3], y)]) (seen.push e.born) clock ∧ stillIn b w.heap.size w5 = (leftOf es (seen.push e.born)).size) := fun g cp w3 Wa w5 v5 hcp hg1 hg2 hp4 hb3 hWa hown5 hg5 hat5 => by
        have hb3a : Below w3.heap.size w3 Wa := by rw [← hWa]; exact (Below.refl _ _).alloc (Nat.le_refl _) _
        have hb1a : Below W1.heap.size W1 Wa := hb2.trans ((hb3.trans (hb3a.mono hb3.size)).mono hb2.size)
        have hsa := hb3a.size
        have hC5 := CollR.push (t := (g, cp, [a0, a1, a2, a3], y)) HC1.out hb1a hg5 hown5 hat5 (by show w.heap.size + 1 ≤ g; omega) (by show W1.heap.size ≤ g; omega) (by show g < _; omega) hcp (hp4.block (hb3a.block g hg2))
        have hit5 : w5.heap[w.heap.size]? = some (.mapIter (some b) clock (seen.push e.born) clock) := by
          rw [hg5.block w.heap.size (by have := hb1a.size; omega) (fun e' => by have := own_ge HC1.out.1 w.heap.size e'.symm; omega), hb1a.block w.heap.size (by omega)]
          exact hitW
        have hBa : Below w.heap.size w Wa := hBW.trans (hb1a.mono (by omega))
        have hB5 : Below w.heap.size w w5 := hBa.grown hg5 hBa.size (fun r hr => by have := own_ge HC1.out.1 r hr; omega)
        refine ⟨⟨hit5, Nat.le_refl _, hMet, hC5, ?_, hB5⟩, ?_⟩
        · rw [List.map_append, List.map_append, hTm]
          simp only [List.map_cons, List.map_nil, HD.out]
        · unfold stillIn
          rw [hit5, (hB5.block b hblt).trans hb]
      have HA : Hid (∀ w3, Below W2.heap.size W2 w3 → ∀ Wa (g cp : Nat), w3.alloc (.cells #[.slice (some ⟨g, 0, none⟩) 4 cp, .int .i64 y] 100) = Wa → Wa.ownsRow (w.heap.size + 1) 100 2 u4 T.length (flatT T) ∧ w.heap.size + 1 ≤ Wa.heap.size ∧ ∀ j u, [Value.slice (some ⟨g, 0, none⟩) 4 cp, .int .i64 y][j]? = some u → Wa.cell? ((⟨w3.heap.size, 0, none⟩ : Addr).add j) = some u) := fun w3 hb3 Wa g cp hWa => by
        have hb3a : Below w3.heap.size w3 Wa := by rw [← hWa]; exact (Below.refl _ _).alloc (Nat.le_refl _) _
        have hb1a : Below W1.heap.size W1 Wa := hb2.trans ((hb3.trans (hb3a.mono hb3.size)).mono hb2.size)
        exact ⟨(HC1.out.keep hb1a).1, by have := hb1a.size; omega, by rw [← hWa]; exact two_newO w3 _ _ _⟩
      clear hMet hTm hLl hblk hBW hbW1 hb2 hSl hh1 hitW heE hj hm
      (try rw [hW1])
      clear hW1
      rw [ek, ev]
      have HLe : Hid ((leftOf es (seen.push e.born)).size < (leftOf es seen).size) := hless
      clear ek ev hless
      go_wp2_with fail
      (try rw [hW2])
      refine Calls.mono HCl.out ?_
      rintro r w3 ⟨g, cp, rfl, hcp, hg1, hg2, hp4, hb3⟩
      obtain ⟨Wa, hWa⟩ : ∃ Wa, w3.alloc (.cells #[.slice (some ⟨g, 0, none⟩) 4 cp, .int .i64 y] 100) = Wa := ⟨_, rfl⟩
      obtain ⟨hrow, hsa, hnew⟩ := HA.out w3 hb3 Wa g cp hWa
      have HF5 : Hid (∀ w5 v5, w5.ownsRow (w.heap.size + 1) 100 2 v5 (T.length + 1) (flatT T ++ [.slice (some ⟨g, 0, none⟩) 4 cp, .int .i64 y]) → Wa.grownBy w5 u4.ownBlock → (v5.ownBlock = u4.ownBlock ∨ v5.ownBlock = some Wa.heap.size) → OrdR w w5 b es clock v5 (L ++ [e]) (T ++ [(g, cp, [a0, a1, a2, a3], y)]) (seen.push e.born) clock ∧ stillIn b w.heap.size w5 = (leftOf es (seen.push e.born)).size) := fun w5 v5 => HFin.out g cp w3 Wa w5 v5 hcp hg1 hg2 hp4 hb3 hWa
      clear HFin HCl HA hcp hg1 hg2 hp4 hb3
      go_wp2_with ((try rw [hWa]); at_builtin; refine wpList_append_own_at _ rfl _ _ 82 rfl (w.heap.size + 1) 100 i0 (.agg #[.slice none 0 0, .int .i64 0]) 2 32 Tryz.underlying82 hi hz0 hz1 hz2 rfl (by decide) u4 T.length (flatT T) rfl hrow ⟨w3.heap.size, 0, none⟩ 1 1 [.slice (some ⟨g, 0, none⟩) 4 cp, .int .i64 y] rfl (by simp) hnew (two_oneO _ _ _) (by unfold maxLen; omega) (by omega) hsa ?_; intro v5 w5 hown5 hg5 _ hat5)
      obtain ⟨hR5, hst5⟩ := HF5.out w5 v5 hown5 hg5 hat5
      have HR5 := (show Hid _ from hR5)
      have HM5 : Hid (stillIn b w.heap.size w5 < stillIn b w.heap.size wr) := by show _ < _; rw [hst5, HST.out]; exact HLe.out
      clear hown5 hg5 hat5 HF5 hR5 hst5 hrow hnew hWa
      go_roundw
      case rel => exact ⟨_, _, _, _, HR5⟩
      case measure => exact HM5.out
end Go.Proofs.YtkadanagmahhgaaGreatDoor
