/-
  PROVED HERE: whether two lists of numbers, or two sums of products, are the same, to the model and to the program. No other condition. what SameRing answers, the model's and the program's, at every two lists of nodes, in a world whose table of arities is laid. No other condition.
-/
import Derived.Test.YtpjgjpjfchfmlaaGreatDoorPolyMs
import Derived.Test.YtpjgjpjfchfmlaaGreatDoorAhead
import Derived.Test.YtpjgjpjfchfmlaaGreatDoorPolyOfs
import Derived.Test.YtpjgjpjfchfmlaaGreatDoorSPolyAll
import Derived.Test.YtpjgjpjfchfmlaaGreatDoorIPolyEnd
namespace Go.Proofs.YtpjgjpjfchfmlaaGreatDoor
open Go.ChangeShapes Go.WideShapes Go.ChangeAt Go.RowKit
set_option linter.unusedVariables false

theorem ints_ext {l m : List Int} (h : l.length = m.length) (he : ∀ k, k < l.length → l.getD k 0 = m.getD k 0) : l = m := by
  refine List.ext_getElem h fun k h1 h2 => ?_
  have := he k h1
  simpa [List.getD_eq_getElem?_getD, List.getElem?_eq_getElem h1, List.getElem?_eq_getElem h2] using this
theorem mons_ext {l m : List Mon} (h : l.length = m.length) (he : ∀ k, k < l.length → l.getD k ([], 0) = m.getD k ([], 0)) : l = m := by
  refine List.ext_getElem h fun k h1 h2 => ?_
  have := he k h1
  simpa [List.getD_eq_getElem?_getD, List.getElem?_eq_getElem h1, List.getElem?_eq_getElem h2] using this

theorem l1Same_any (a b : Option Addr) (la ca lb cb : Nat) (l m : List Int) (w : World) (h : Sl w a la l) (h' : Sl w b lb m) (hn : la ≤ 1048576) (hn' : lb ≤ 1048576) :
    Calls Tryz.prog 82 #[.slice a la ca, .slice b lb cb] w fun e w' => e = .returned (.bool (decide (l = m))) ∧ Below w.heap.size w w' := by
  have hll := h.1
  have hlm := h'.1
  obtain ⟨B, hB⟩ : ∃ B, decide (l = m) = B := ⟨_, rfl⟩
  rw [hB]
  have HB := (show Hid _ from hB)
  have HS := (show Hid _ from h)
  have HS' := (show Hid _ from h')
  clear hB h h'
  by_cases hl : la = lb
  · subst hl
    have hne : ((la : Int) != la) = false := by simp
    go_enter Tryz.func82, Tryz.ntmps82
    go_wp2_with fail
    go_loopw [13] (fun i wr => ∃ (k : Nat), k ≤ la ∧ i = .int .i64 k ∧ Hid (∀ j, j < k → l.getD j 0 = m.getD j 0) ∧ Below w.heap.size w wr) (fun i _ => la - (intOf i).toNat)
    case atStart => exact ⟨0, Nat.zero_le _, rfl, fun j hj => absurd hj (Nat.not_lt_zero _), Below.refl _ _⟩
    case round =>
      obtain ⟨k, hk, rfl, hd, hbr⟩ := hrel
      by_cases hlt : k < la
      · obtain ⟨b1, o1, rfl, hc⟩ := cells_of (Sl.keep HS.out hbr) (by omega)
        obtain ⟨b2, o2, rfl, hc'⟩ := cells_of (Sl.keep HS'.out hbr) (by omega)
        have c1 := hc k hlt
        have c2 := hc' k hlt
        have hkl : (k : Int) < la := by omega
        by_cases e : l.getD k 0 = m.getD k 0
        · have HD : Hid (∀ j, j < k + 1 → l.getD j 0 = m.getD j 0) := fun j hj => by
            by_cases e2 : j = k
            · subst e2; exact e
            · exact hd.out j (by omega)
          rw [e] at c1
          have e' : (m.getD k 0 != m.getD k 0) = false := by simp
          clear hc hc' hd e
          generalize m.getD k 0 = z at c1 c2 e'
          go_wp2
          go_quiet (fail)
          go_wp2
          go_roundw
          case rel => exact ⟨k + 1, by omega, by go_num, HD, below_drewN hbr _⟩
          case measure => simp [intOf]; omega
        · have eb : B = false := by
            rw [← HB.out]
            exact decide_eq_false fun hh => e (by rw [hh])
          subst eb
          have e' : (l.getD k 0 != m.getD k 0) = true := by simpa using e
          clear hc hc' hd e
          generalize m.getD k 0 = z at c2 e'
          generalize l.getD k 0 = y at c1 e'
          go_wp2
          go_quiet (fail)
          go_wp2
          go_ret
          exact ⟨rfl, below_drewN hbr _⟩
      · obtain rfl : k = la := by omega
        have eb : B = true := by
          rw [← HB.out]
          exact decide_eq_true (ints_ext (by omega) fun j hj => hd.out j (by omega))
        subst eb
        clear hd HB
        go_wp2
        go_ret
        exact ⟨rfl, hbr⟩
  · have hne : ((la : Int) != lb) = true := by simp; omega
    have eb : B = false := by
      rw [← HB.out]
      exact decide_eq_false fun hh => hl (by rw [← hll, ← hlm, hh])
    subst eb
    go_enter Tryz.func82, Tryz.ntmps82
    go_wp2
    go_ret
    exact ⟨rfl, Below.refl _ _⟩

theorem equalI_any (a b : Option Addr) (la ca lb cb : Nat) (l m : List Int) (w : World) (h : Sl w a la l) (h' : Sl w b lb m) (hn : la ≤ 1048576) (hn' : lb ≤ 1048576) :
    Calls Tryz.prog 81 #[.slice a la ca, .slice b lb cb] w fun e w' => e = .returned (.bool (decide (l = m))) ∧ Below w.heap.size w w' := by
  have hll := h.1
  have hlm := h'.1
  obtain ⟨B, hB⟩ : ∃ B, decide (l = m) = B := ⟨_, rfl⟩
  rw [hB]
  have HB := (show Hid _ from hB)
  have HS := (show Hid _ from h)
  have HS' := (show Hid _ from h')
  clear hB h h'
  by_cases hl : la = lb
  · subst hl
    have hne : ((la : Int) != la) = false := by simp
    go_enter Tryz.func81, Tryz.ntmps81
    go_wp2_with fail
    go_loopw [13] (fun i wr => ∃ (k : Nat), k ≤ la ∧ i = .int .i64 k ∧ Hid (∀ j, j < k → l.getD j 0 = m.getD j 0) ∧ Below w.heap.size w wr) (fun i _ => la - (intOf i).toNat)
    case atStart => exact ⟨0, Nat.zero_le _, rfl, fun j hj => absurd hj (Nat.not_lt_zero _), Below.refl _ _⟩
    case round =>
      obtain ⟨k, hk, rfl, hd, hbr⟩ := hrel
      by_cases hlt : k < la
      · obtain ⟨b1, o1, rfl, hc⟩ := cells_of (Sl.keep HS.out hbr) (by omega)
        obtain ⟨b2, o2, rfl, hc'⟩ := cells_of (Sl.keep HS'.out hbr) (by omega)
        have c1 := hc k hlt
        have c2 := hc' k hlt
        have hkl : (k : Int) < la := by omega
        by_cases e : l.getD k 0 = m.getD k 0
        · have HD : Hid (∀ j, j < k + 1 → l.getD j 0 = m.getD j 0) := fun j hj => by
            by_cases e2 : j = k
            · subst e2; exact e
            · exact hd.out j (by omega)
          rw [e] at c1
          have e' : (m.getD k 0 != m.getD k 0) = false := by simp
          clear hc hc' hd e
          generalize m.getD k 0 = z at c1 c2 e'
          go_wp2
          go_quiet (fail)
          go_wp2
          go_roundw
          case rel => exact ⟨k + 1, by omega, by go_num, HD, below_drewN hbr _⟩
          case measure => simp [intOf]; omega
        · have eb : B = false := by
            rw [← HB.out]
            exact decide_eq_false fun hh => e (by rw [hh])
          subst eb
          have e' : (l.getD k 0 != m.getD k 0) = true := by simpa using e
          clear hc hc' hd e
          generalize m.getD k 0 = z at c2 e'
          generalize l.getD k 0 = y at c1 e'
          go_wp2
          go_quiet (fail)
          go_wp2
          go_ret
          exact ⟨rfl, below_drewN hbr _⟩
      · obtain rfl : k = la := by omega
        have eb : B = true := by
          rw [← HB.out]
          exact decide_eq_true (ints_ext (by omega) fun j hj => hd.out j (by omega))
        subst eb
        clear hd HB
        go_wp2
        go_ret
        exact ⟨rfl, hbr⟩
  · have hne : ((la : Int) != lb) = true := by simp; omega
    have eb : B = false := by
      rw [← HB.out]
      exact decide_eq_false fun hh => hl (by rw [← hll, ← hlm, hh])
    subst eb
    go_enter Tryz.func81, Tryz.ntmps81
    go_wp2
    go_ret
    exact ⟨rfl, Below.refl _ _⟩

theorem sameMono_any (a b : Option Addr) (la ca lb cb : Nat) (l m : List Int) (x y : Int) (w : World) (h : Sl w a la l) (h' : Sl w b lb m) (hn : la ≤ 1048576) (hn' : lb ≤ 1048576) :
    Calls Tryz.prog 46 #[.agg #[.slice a la ca, .int .i64 x], .agg #[.slice b lb cb, .int .i64 y]] w fun e w' => e = .returned (.bool (decide ((l, x) = (m, y)))) ∧ Below w.heap.size w w' := by
  obtain ⟨W1, hW1⟩ : ∃ W1, (w.alloc (.cells #[.slice a la ca, .int .i64 x] 57)).alloc (.cells #[.slice b lb cb, .int .i64 y] 57) = W1 := ⟨_, rfl⟩
  have hb1 : Below w.heap.size w W1 := by rw [← hW1]; exact ((Below.refl _ _).alloc (Nat.le_refl _) _).alloc (by simp) _
  have n0 : W1.cell? ⟨w.heap.size, 0, none⟩ = some (.slice a la ca) := by rw [← hW1]; simp [go_sem]
  have n1 : W1.cell? ⟨w.heap.size, 1, none⟩ = some (.int .i64 x) := by rw [← hW1]; simp [go_sem]
  have m0 : W1.cell? ⟨w.heap.size + 1, 0, none⟩ = some (.slice b lb cb) := by rw [← hW1]; simp [go_sem]
  have m1 : W1.cell? ⟨w.heap.size + 1, 1, none⟩ = some (.int .i64 y) := by rw [← hW1]; simp [go_sem]
  have HE := (show Hid _ from equalI_any a b la ca lb cb l m W1 (h.keep hb1) (h'.keep hb1) hn hn')
  obtain ⟨B, hB⟩ : ∃ B, decide ((l, x) = (m, y)) = B := ⟨_, rfl⟩
  rw [hB]
  clear h h'
  by_cases e : x = y
  · subst e
    have eb : decide (l = m) = B := by
      rw [← hB]
      exact decide_eq_decide.2 ⟨fun h => by rw [h], fun h => (Prod.mk.inj h).1⟩
    rw [eb] at HE
    have exx : (x == x) = true := by simp
    clear hB eb
    go_enter Tryz.func46, Tryz.ntmps46
    go_wp2_with fail
    (try rw [hW1])
    refine Calls.mono HE.out ?_
    rintro e w2 ⟨rfl, hb2⟩
    have HB : Hid (Below w.heap.size w w2) := hb1.trans (hb2.mono hb1.size)
    clear hb2 HE n0 n1 m0 m1 hW1 hb1
    go_wp2
    go_ret
    exact ⟨rfl, HB.out⟩
  · have eb : B = false := by
      rw [← hB]
      exact decide_eq_false fun h => e (Prod.mk.inj h).2
    subst eb
    have exy : (x == y) = false := by simpa using e
    have HB := (show Hid _ from hb1)
    have HW := (show Hid _ from hW1)
    clear hB HE n0 n1 m0 m1 hW1 hb1
    go_enter Tryz.func46, Tryz.ntmps46
    go_wp2
    go_ret
    exact ⟨rfl, by rw [HW.out]; exact HB.out⟩

set_option maxHeartbeats 3200000 in
set_option maxRecDepth 20000 in
theorem l4Same_any (a b : Option Addr) (la ca lb cb : Nat) (p q : List Mon) (w : World) (h : PSl w a la p) (h' : PSl w b lb q) (hn : la ≤ 1048576) (hn' : lb ≤ 1048576) (hp : ∀ m ∈ p, m.1.length = 4) (hq : ∀ m ∈ q, m.1.length = 4) :
    Calls Tryz.prog 47 #[.slice a la ca, .slice b lb cb] w fun e w' => e = .returned (.bool (decide (p = q))) ∧ Below w.heap.size w w' := by
  have hll := h.1
  have hlm := h'.1
  have H4 : Hid (∀ k, k < la → (p.getD k ([], 0)).1.length = 4) := fun k hk => hp _ (by rw [List.getD_eq_getElem?_getD, List.getElem?_eq_getElem (by omega)]; exact List.getElem_mem _)
  have H4' : Hid (∀ k, k < lb → (q.getD k ([], 0)).1.length = 4) := fun k hk => hq _ (by rw [List.getD_eq_getElem?_getD, List.getElem?_eq_getElem (by omega)]; exact List.getElem_mem _)
  obtain ⟨B, hB⟩ : ∃ B, decide (p = q) = B := ⟨_, rfl⟩
  rw [hB]
  have HB := (show Hid _ from hB)
  have HS := (show Hid _ from h)
  have HS' := (show Hid _ from h')
  clear hB h h' hp hq
  by_cases hl : la = lb
  · subst hl
    have hne : ((la : Int) != la) = false := by simp
    go_enter Tryz.func47, Tryz.ntmps47
    go_wp2_with fail
    go_loopw [13] (fun i wr => ∃ (k : Nat), k ≤ la ∧ i = .int .i64 k ∧ Hid (∀ j, j < k → p.getD j ([], 0) = q.getD j ([], 0)) ∧ Below w.heap.size w wr) (fun i _ => la - (intOf i).toNat)
    case atStart => exact ⟨0, Nat.zero_le _, rfl, fun j hj => absurd hj (Nat.not_lt_zero _), Below.refl _ _⟩
    case round =>
      obtain ⟨k, hk, rfl, hd, hbr⟩ := hrel
      by_cases hlt : k < la
      · obtain ⟨b1, o1, rfl, hbl, hc⟩ := (PSl.keep HS.out hbr).at (by omega)
        obtain ⟨b2, o2, rfl, hbl', hc'⟩ := (PSl.keep HS'.out hbr).at (by omega)
        obtain ⟨ai, li, ci, c1, hli, hci, hS, c2⟩ := hc k hlt
        obtain ⟨aj, lj, cj, d1, hlj, hcj, hS', d2⟩ := hc' k hlt
        have e4 := H4.out k hlt
        have e4' := H4'.out k hlt
        have hlt' : (k : Int) < la := by omega
        have HD : Hid (p.getD k ([], 0) = q.getD k ([], 0) → ∀ j, j < k + 1 → p.getD j ([], 0) = q.getD j ([], 0)) := fun e j hj => by
          by_cases e2 : j = k
          · subst e2; exact e
          · exact hd.out j (by omega)
        have HN : Hid (p.getD k ([], 0) ≠ q.getD k ([], 0) → B = false) := fun e => by
          rw [← HB.out]
          exact decide_eq_false fun hh => e (by rw [hh])
        have ep : p.getD k ([], 0) = ((p.getD k ([], 0)).1, (p.getD k ([], 0)).2) := rfl
        have eq : q.getD k ([], 0) = ((q.getD k ([], 0)).1, (q.getD k ([], 0)).2) := rfl
        rw [ep, eq] at HD HN
        clear hc hc' hd ep eq
        generalize (p.getD k ([], 0)).1 = l at hS HD HN e4
        generalize (q.getD k ([], 0)).1 = m at hS' HD HN e4'
        generalize (p.getD k ([], 0)).2 = x at c2 HD HN
        generalize (q.getD k ([], 0)).2 = y at d2 HD HN
        have HE : Hid (∀ z : Ahead wr, Calls Tryz.prog 82 #[.slice ai li ci, .slice aj lj cj] z.w fun e w' => e = .returned (.bool (decide (l = m))) ∧ Below z.w.heap.size z.w w') := fun z => l1Same_any ai aj li ci lj cj l m z.w (hS.keep z.h) (hS'.keep z.h) (by have := hS.1; omega) (by have := hS'.1; omega)
        have k1 : ∀ z : Ahead wr, z.w.cell? ⟨b1, o1 + k * 2, none⟩ = some (.slice ai li ci) := fun z => (z.h.cell (p := ⟨b1, o1 + k * 2, none⟩) hbl).trans c1
        have k2 : ∀ z : Ahead wr, z.w.cell? ⟨b1, o1 + k * 2 + 1, none⟩ = some (.int .i64 x) := fun z => (z.h.cell (p := ⟨b1, o1 + k * 2 + 1, none⟩) hbl).trans c2
        have k3 : ∀ z : Ahead wr, z.w.cell? ⟨b2, o2 + k * 2, none⟩ = some (.slice aj lj cj) := fun z => (z.h.cell (p := ⟨b2, o2 + k * 2, none⟩) hbl').trans d1
        have k4 : ∀ z : Ahead wr, z.w.cell? ⟨b2, o2 + k * 2 + 1, none⟩ = some (.int .i64 y) := fun z => (z.h.cell (p := ⟨b2, o2 + k * 2 + 1, none⟩) hbl').trans d2
        clear hS hS' c1 c2 d1 d2 e4 e4'
        by_cases ex : x = y
        · subst ex
          have exx : (x != x) = false := by simp
          by_cases el : l = m
          · have HD' := (show Hid _ from HD.out (by rw [el]))
            rw [decide_eq_true el] at HE
            clear HD HN el
            go_wp2_with fail
            have hne := ahead_some wr
            refine wp_region_ahead (by kernel_rfl) (by kernel_rfl) ?_
            repeat (first
              | go_big_quiet_skip
              | (go_big_quiet_want; go_big_quiet_op; first | go_big_quiet_on | (apply Exists.intro; refine ⟨fun x => ?_, ?_⟩; (focus (exact ahead_of (HE.out x))); go_big_quiet_on)))
            refine wpQuiet_nil ?_
            intro _ hw'
            obtain ⟨xq, rfl⟩ := hw'
            have hB := hbr.trans (xq.h.mono hbr.size)
            go_wp2
            go_roundw
            case rel => exact ⟨k + 1, by omega, by go_num, HD', hB⟩
            case measure => simp [intOf]; omega
          · have eb := HN.out (fun h => el (Prod.mk.inj h).1)
            subst eb
            rw [decide_eq_false el] at HE
            clear HD HN el
            go_wp2_with fail
            have hne := ahead_some wr
            refine wp_region_ahead (by kernel_rfl) (by kernel_rfl) ?_
            repeat (first
              | go_big_quiet_skip
              | (go_big_quiet_want; go_big_quiet_op; first | go_big_quiet_on | (apply Exists.intro; refine ⟨fun x => ?_, ?_⟩; (focus (exact ahead_of (HE.out x))); go_big_quiet_on)))
            refine wpQuiet_nil ?_
            intro _ hw'
            obtain ⟨xq, rfl⟩ := hw'
            have hB := hbr.trans (xq.h.mono hbr.size)
            go_wp2
            go_ret
            exact ⟨rfl, hB⟩
        · have eb := HN.out (fun h => ex (Prod.mk.inj h).2)
          subst eb
          have exy : (x != y) = true := by simpa using ex
          clear HD HN HE
          go_wp2_with fail
          have hne := ahead_some wr
          refine wp_region_ahead (by kernel_rfl) (by kernel_rfl) ?_
          repeat (first
            | go_big_quiet_skip
            | (go_big_quiet_want; go_big_quiet_op; go_big_quiet_on))
          refine wpQuiet_nil ?_
          intro _ hw'
          obtain ⟨xq, rfl⟩ := hw'
          have hB := hbr.trans (xq.h.mono hbr.size)
          go_wp2
          go_ret
          exact ⟨rfl, hB⟩
      · obtain rfl : k = la := by omega
        have eb : B = true := by
          rw [← HB.out]
          exact decide_eq_true (mons_ext (by omega) fun j hj => hd.out j (by omega))
        subst eb
        clear hd HB
        go_wp2
        go_ret
        exact ⟨rfl, hbr⟩
  · have hne : ((la : Int) != lb) = true := by simp; omega
    have eb : B = false := by
      rw [← HB.out]
      exact decide_eq_false fun hh => hl (by rw [← hll, ← hlm, hh])
    subst eb
    go_enter Tryz.func47, Tryz.ntmps47
    go_wp2
    go_ret
    exact ⟨rfl, Below.refl _ _⟩

set_option maxHeartbeats 3200000 in
set_option maxRecDepth 20000 in
theorem equalF_any (a b : Option Addr) (la ca lb cb : Nat) (p q : List Mon) (w : World) (h : PSl w a la p) (h' : PSl w b lb q) (hn : la ≤ 1048576) (hn' : lb ≤ 1048576) (hp : ∀ m ∈ p, m.1.length = 4) (hq : ∀ m ∈ q, m.1.length = 4) :
    Calls Tryz.prog 45 #[.slice a la ca, .slice b lb cb, .func (.func 46) #[] #[]] w fun e w' => e = .returned (.bool (decide (p = q))) ∧ Below w.heap.size w w' := by
  have hll := h.1
  have hlm := h'.1
  have H4 : Hid (∀ k, k < la → (p.getD k ([], 0)).1.length = 4) := fun k hk => hp _ (by rw [List.getD_eq_getElem?_getD, List.getElem?_eq_getElem (by omega)]; exact List.getElem_mem _)
  have H4' : Hid (∀ k, k < lb → (q.getD k ([], 0)).1.length = 4) := fun k hk => hq _ (by rw [List.getD_eq_getElem?_getD, List.getElem?_eq_getElem (by omega)]; exact List.getElem_mem _)
  obtain ⟨B, hB⟩ : ∃ B, decide (p = q) = B := ⟨_, rfl⟩
  rw [hB]
  have HB := (show Hid _ from hB)
  have HS := (show Hid _ from h)
  have HS' := (show Hid _ from h')
  clear hB h h' hp hq
  by_cases hl : la = lb
  · subst hl
    have hne : ((la : Int) != la) = false := by simp
    go_enter Tryz.func45, Tryz.ntmps45
    go_wp2_with fail
    go_loopw [17] (fun i wr => ∃ (k : Nat), k ≤ la ∧ i = .int .i64 k ∧ Hid (∀ j, j < k → p.getD j ([], 0) = q.getD j ([], 0)) ∧ Below w.heap.size w wr) (fun i _ => la - (intOf i).toNat)
    case atStart => exact ⟨0, Nat.zero_le _, rfl, fun j hj => absurd hj (Nat.not_lt_zero _), Below.refl _ _⟩
    case round =>
      obtain ⟨k, hk, rfl, hd, hbr⟩ := hrel
      by_cases hlt : k < la
      · obtain ⟨b1, o1, rfl, hbl, hc⟩ := (PSl.keep HS.out hbr).at (by omega)
        obtain ⟨b2, o2, rfl, hbl', hc'⟩ := (PSl.keep HS'.out hbr).at (by omega)
        obtain ⟨ai, li, ci, c1, hli, hci, hS, c2⟩ := hc k hlt
        obtain ⟨aj, lj, cj, d1, hlj, hcj, hS', d2⟩ := hc' k hlt
        have e4 := H4.out k hlt
        have e4' := H4'.out k hlt
        have hlt' : (k : Int) < la := by omega
        have HD : Hid (p.getD k ([], 0) = q.getD k ([], 0) → ∀ j, j < k + 1 → p.getD j ([], 0) = q.getD j ([], 0)) := fun e j hj => by
          by_cases e2 : j = k
          · subst e2; exact e
          · exact hd.out j (by omega)
        have HN : Hid (p.getD k ([], 0) ≠ q.getD k ([], 0) → B = false) := fun e => by
          rw [← HB.out]
          exact decide_eq_false fun hh => e (by rw [hh])
        have ep : p.getD k ([], 0) = ((p.getD k ([], 0)).1, (p.getD k ([], 0)).2) := rfl
        have eq : q.getD k ([], 0) = ((q.getD k ([], 0)).1, (q.getD k ([], 0)).2) := rfl
        rw [ep, eq] at HD HN
        clear hc hc' hd ep eq
        generalize (p.getD k ([], 0)).1 = l at hS HD HN e4
        generalize (q.getD k ([], 0)).1 = m at hS' HD HN e4'
        generalize (p.getD k ([], 0)).2 = x at c2 HD HN
        generalize (q.getD k ([], 0)).2 = y at d2 HD HN
        have hbne : ¬ b2 = wr.heap.size := by omega
        have HE : Hid (∀ W, Below wr.heap.size wr W → Calls Tryz.prog 46 #[.agg #[.slice ai li ci, .int .i64 x], .agg #[.slice aj lj cj, .int .i64 y]] W fun e w' => e = .returned (.bool (decide ((l, x) = (m, y)))) ∧ Below W.heap.size W w') := fun W hW => sameMono_any ai aj li ci lj cj l m x y W (hS.keep hW) (hS'.keep hW) (by have := hS.1; omega) (by have := hS'.1; omega)
        have HA : Hid (Below wr.heap.size wr ((wr.alloc (.cells #[.slice ai li ci, .int .i64 x] 57)).alloc (.cells #[.slice aj lj cj, .int .i64 y] 57))) := ((Below.refl _ _).alloc (Nat.le_refl _) _).alloc (by simp) _
        clear hS hS' e4 e4'
        by_cases el : (l, x) = (m, y)
        · have HD' := (show Hid _ from HD.out el)
          rw [decide_eq_true el] at HE
          clear HD HN el
          go_wp2_with fail
          refine Calls.mono (HE.out _ HA.out) ?_
          rintro e w2 ⟨rfl, hb2⟩
          have hB := hbr.trans ((HA.out.trans (hb2.mono HA.out.size)).mono hbr.size)
          clear hb2 HE HA c1 c2 d1 d2 hbr
          go_wp2
          go_roundw
          case rel => exact ⟨k + 1, by omega, by go_num, HD', hB⟩
          case measure => simp [intOf]; omega
        · have eb := HN.out el
          subst eb
          rw [decide_eq_false el] at HE
          clear HD HN el
          go_wp2_with fail
          refine Calls.mono (HE.out _ HA.out) ?_
          rintro e w2 ⟨rfl, hb2⟩
          have hB := hbr.trans ((HA.out.trans (hb2.mono HA.out.size)).mono hbr.size)
          clear hb2 HE HA c1 c2 d1 d2 hbr
          go_wp2
          go_ret
          exact ⟨rfl, hB⟩
      · obtain rfl : k = la := by omega
        have eb : B = true := by
          rw [← HB.out]
          exact decide_eq_true (mons_ext (by omega) fun j hj => hd.out j (by omega))
        subst eb
        clear hd HB
        go_wp2
        go_ret
        exact ⟨rfl, hbr⟩
  · have hne : ((la : Int) != lb) = true := by simp; omega
    have eb : B = false := by
      rw [← HB.out]
      exact decide_eq_false fun hh => hl (by rw [← hll, ← hlm, hh])
    subst eb
    go_enter Tryz.func45, Tryz.ntmps45
    go_wp2
    go_ret
    exact ⟨rfl, Below.refl _ _⟩
end Go.Proofs.YtpjgjpjfchfmlaaGreatDoor
namespace Go.Proofs.YtpjgjpjfchfmlaaGreatDoor
open Go.ChangeShapes Go.WideShapes Go.ChangeAt Go.RowKit
set_option linter.unusedVariables false

/-- SameRing's answer. -/
def sameOk (l m : List (Int × Int)) : Bool := (ofT l).isSome && (ofT m).isSome
def sameR (l m : List (Int × Int)) : Bool := sameOk l m && decide ((ofT l).getD [] = (ofT m).getD [])
theorem ofT_good {l : List (Int × Int)} (hI : ∀ k, InI (l.getD k (0, 0)).2) : ∀ s, ofT l = some s → GoodS s := by
  unfold ofT
  by_cases h : isRingB l = true
  · rw [if_pos h]
    unfold isRingB at h
    rw [Bool.and_eq_true] at h
    exact fun s e => ofF_good (fun k _ => hI k) (vars4 (good_pile h.1).1) _ _ s e
  · rw [if_neg h]; intro s e; cases e

theorem specSame_any (a : Option Addr) (la ca : Nat) (l : List (Int × Int)) (b : Option Addr) (lb cb : Nat) (m : List (Int × Int)) (w : World) (h : NSl w a la l) (h' : NSl w b lb m) (hm : la ≤ 9223372036854775807) (hm' : lb ≤ 9223372036854775807) (hI : ∀ k, InI (l.getD k (0, 0)).2) (hI' : ∀ k, InI (m.getD k (0, 0)).2) :
    Calls Tryz.prog 20 #[.slice a la ca, .slice b lb cb] w fun r w' => r = .returned (.tuple #[.bool (sameR l m), .bool (sameOk l m)]) ∧ Below w.heap.size w w' := by
  have C1 := (show Hid _ from specPolyOf_any a la ca l w h hm hI)
  have C2 : Hid (∀ W, Below w.heap.size w W → Calls Tryz.prog 8 #[.slice b lb cb] W fun r w' => ∃ v, r = .returned (.tuple #[v, .bool (ofT m).isSome]) ∧ SpecV w' v ((ofT m).getD []) ∧ Below W.heap.size W w') := fun W hW => specPolyOf_any b lb cb m W (h'.keep hW) hm' hI'
  have G1 := (show Hid _ from ofT_good hI)
  have G2 := (show Hid _ from ofT_good hI')
  unfold sameR sameOk
  generalize ofT l = o at C1 G1
  generalize ofT m = o' at C2 G2
  clear h h' hI hI'
  cases o with
  | none =>
    go_enter Tryz.func20, Tryz.ntmps20
    go_wp2_with fail
    refine Calls.mono C1.out ?_
    rintro e w1 ⟨v, rfl, _, hb1⟩
    go_wp2_with fail
    refine Calls.mono (C2.out _ hb1) ?_
    rintro e w2 ⟨u, rfl, _, hb2⟩
    have hB := hb1.trans (hb2.mono hb1.size)
    clear C1 C2
    go_wp2
    go_ret2
    exact ⟨rfl, hB⟩
  | some s =>
    cases o' with
    | none =>
      go_enter Tryz.func20, Tryz.ntmps20
      go_wp2_with fail
      refine Calls.mono C1.out ?_
      rintro e w1 ⟨v, rfl, _, hb1⟩
      go_wp2_with fail
      refine Calls.mono (C2.out _ hb1) ?_
      rintro e w2 ⟨u, rfl, _, hb2⟩
      have hB := hb1.trans (hb2.mono hb1.size)
      clear C1 C2
      go_wp2
      go_ret2
      exact ⟨rfl, hB⟩
    | some t =>
      have g1 := G1.out s rfl
      have g2 := G2.out t rfl
      have HS : Hid (∀ W v u, SpecV W v s → SpecV W u t → Calls Tryz.prog 47 #[v, u] W fun e w' => e = .returned (.bool (decide (s = t))) ∧ Below W.heap.size W w') := fun W v u hv hu => by
        obtain ⟨a1, c1, rfl, p1⟩ := hv
        obtain ⟨a2, c2, rfl, p2⟩ := hu
        exact l4Same_any a1 a2 _ c1 _ c2 s t W p1 p2 (by have := poly_len g1.1; omega) (by have := poly_len g2.1; omega) g1.len g2.len
      have eT : ((some s).isSome && (some t).isSome) = true := rfl
      rw [eT, Bool.true_and]
      have eD : decide ((some s).getD [] = (some t).getD []) = decide (s = t) := rfl
      rw [eD]
      generalize decide (s = t) = D at HS
      clear G1 G2 g1 g2 eT eD
      go_enter Tryz.func20, Tryz.ntmps20
      go_wp2_with fail
      refine Calls.mono C1.out ?_
      rintro e w1 ⟨v, rfl, hv, hb1⟩
      go_wp2_with fail
      refine Calls.mono (C2.out _ hb1) ?_
      rintro e w2 ⟨u, rfl, hu, hb2⟩
      have hB := hb1.trans (hb2.mono hb1.size)
      have C3 := (show Hid _ from HS.out w2 v u (hv.keep hb2) hu)
      clear C1 C2 hb1 hb2 hv hu HS
      go_wp2_with fail
      refine Calls.mono C3.out ?_
      rintro e w3 ⟨rfl, hb3⟩
      have hB3 := hB.trans (hb3.mono hB.size)
      clear C3 hb3 hB
      go_wp2
      go_ret2
      exact ⟨rfl, hB3⟩

theorem implSame_any (a : Option Addr) (la ca : Nat) (l : List (Int × Int)) (b : Option Addr) (lb cb : Nat) (m : List (Int × Int)) (w : World) (hT : Tab w) (h : NSl w a la l) (h' : NSl w b lb m) (hm : la ≤ 9223372036854775807) (hm' : lb ≤ 9223372036854775807) (hI : ∀ k, InI (l.getD k (0, 0)).2) (hI' : ∀ k, InI (m.getD k (0, 0)).2) :
    Calls Tryz.prog 19 #[.slice a la ca, .slice b lb cb] w fun r w' => r = .returned (.tuple #[.bool (sameR l m), .bool (sameOk l m)]) ∧ Below w.heap.size w w' := by
  have C1 := (show Hid _ from implPolyOf_any a la ca l w hT h hm hI)
  have C2 : Hid (∀ W, Below w.heap.size w W → Calls Tryz.prog 7 #[.slice b lb cb] W fun r w' => IOf W (ofT m) r w') := fun W hW => implPolyOf_any b lb cb m W (hT.keeps hW) (h'.keep hW) hm' hI'
  have G1 := (show Hid _ from ofT_good hI)
  have G2 := (show Hid _ from ofT_good hI')
  unfold sameR sameOk
  generalize ofT l = o at C1 G1
  generalize ofT m = o' at C2 G2
  clear h h' hI hI' hT
  cases o with
  | none =>
    go_enter Tryz.func19, Tryz.ntmps19
    go_wp2_with fail
    refine Calls.mono C1.out ?_
    rintro e w1 ⟨v, rfl, _, hb1⟩
    go_wp2_with fail
    refine Calls.mono (C2.out _ hb1) ?_
    rintro e w2 ⟨u, rfl, _, hb2⟩
    have hB := hb1.trans (hb2.mono hb1.size)
    clear C1 C2
    go_wp2
    go_ret2
    exact ⟨rfl, hB⟩
  | some s =>
    cases o' with
    | none =>
      go_enter Tryz.func19, Tryz.ntmps19
      go_wp2_with fail
      refine Calls.mono C1.out ?_
      rintro e w1 ⟨v, rfl, _, hb1⟩
      go_wp2_with fail
      refine Calls.mono (C2.out _ hb1) ?_
      rintro e w2 ⟨u, rfl, _, hb2⟩
      have hB := hb1.trans (hb2.mono hb1.size)
      clear C1 C2
      go_wp2
      go_ret2
      exact ⟨rfl, hB⟩
    | some t =>
      have g1 := G1.out s rfl
      have g2 := G2.out t rfl
      have HS : Hid (∀ W v u, SpecV W v s → SpecV W u t → Calls Tryz.prog 45 #[v, u, .func (.func 46) #[] #[]] W fun e w' => e = .returned (.bool (decide (s = t))) ∧ Below W.heap.size W w') := fun W v u hv hu => by
        obtain ⟨a1, c1, rfl, p1⟩ := hv
        obtain ⟨a2, c2, rfl, p2⟩ := hu
        exact equalF_any a1 a2 _ c1 _ c2 s t W p1 p2 (by have := poly_len g1.1; omega) (by have := poly_len g2.1; omega) g1.len g2.len
      have HV : Hid (∀ W lo v, OwnV W lo v s → SpecV W v s) := fun W lo v hv => hv.psl g1.len
      have HU : Hid (∀ W lo v, OwnV W lo v t → SpecV W v t) := fun W lo v hv => hv.psl g2.len
      have eT : ((some s).isSome && (some t).isSome) = true := rfl
      rw [eT, Bool.true_and]
      have eD : decide ((some s).getD [] = (some t).getD []) = decide (s = t) := rfl
      rw [eD]
      generalize decide (s = t) = D at HS
      clear G1 G2 g1 g2 eT eD
      go_enter Tryz.func19, Tryz.ntmps19
      go_wp2_with fail
      refine Calls.mono C1.out ?_
      rintro e w1 ⟨v, rfl, hv, hb1⟩
      go_wp2_with fail
      refine Calls.mono (C2.out _ hb1) ?_
      rintro e w2 ⟨u, rfl, hu, hb2⟩
      have hB := hb1.trans (hb2.mono hb1.size)
      have C3 := (show Hid _ from HS.out w2 v u ((HV.out _ _ _ hv).keep hb2) (HU.out _ _ _ hu))
      clear C1 C2 hb1 hb2 hv hu HS HV HU
      go_wp2_with fail
      refine Calls.mono C3.out ?_
      rintro e w3 ⟨rfl, hb3⟩
      have hB3 := hB.trans (hb3.mono hB.size)
      clear C3 hb3 hB
      go_wp2
      go_ret2
      exact ⟨rfl, hB3⟩

end Go.Proofs.YtpjgjpjfchfmlaaGreatDoor
