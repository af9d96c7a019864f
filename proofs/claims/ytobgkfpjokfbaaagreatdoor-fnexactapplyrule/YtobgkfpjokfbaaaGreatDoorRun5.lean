/-
  PROVED HERE: a list of nodes that came in, opened by the form's own reading, holds its nodes; so does a list of such lists. No condition. plain facts on where the trees of a term's nodes begin. No condition. where the model says that the tree of a node begins, at every good list of nodes. No other condition.
-/
import Derived.Test.YtobgkfpjokfbaaaGreatDoorRun0
import Derived.Deep.SlicePairs
import Derived.Test.YtobgkfpjokfbaaaGreatDoorRun1
namespace Go.Proofs.YtobgkfpjokfbaaaGreatDoor
open Go.ChangeShapes Go.WideShapes Go.ChangeAt Go.RowKit
set_option linter.unusedVariables false

theorem cellsNode : Tryz.prog.cellsOf 85 = 2 := by kernel_rfl
theorem cellsInt : Tryz.prog.cellsOf 3 = 1 := by kernel_rfl
theorem cellsInt64 : Tryz.prog.cellsOf 2 = 1 := by kernel_rfl
theorem nodes_in {H : Type} {enc : TypeId × Value → H} {W : World} {base : Nat} {sp : Nat → Bool} {held : Bool} {fuel : Nat} {a : Option Addr} {len cap : Nat} {x : DataW H × List MemPlace}
    (h : DataW.trod enc Tryz.prog W base sp held fuel 26 [.slice a len cap] = some x) : ∃ l : List (Int × Int), NSl W a len l ∧ len ≤ cap ∧ cap ≤ maxLen := by
  rcases Go.Deep.open_slice_pairs Tryz.underlying26 Tryz.underlying85 cellsNode rfl rfl cellsInt cellsInt64 h with ⟨e, _⟩ | ⟨y, len', cap', m, n, V0, V1, D0, D1, P0, P1, e, _, hl, hm, hmm, _, hx⟩
  · simp only [List.cons.injEq, Value.slice.injEq, and_true] at e
    obtain ⟨rfl, rfl, rfl⟩ := e
    exact ⟨[], ⟨rfl, .inl rfl⟩, Nat.le_refl _, Nat.zero_le _⟩
  · simp only [List.cons.injEq, Value.slice.injEq, and_true] at e
    obtain ⟨rfl, rfl, rfl⟩ := e
    have hlm : len ≤ m := by rw [hmm]; split <;> omega
    have each : ∀ i, i < len → ∃ q : Int × Int, W.cell? (y.add (i * 2)) = some (.int .i64 q.1) ∧ W.cell? (y.add (i * 2 + 1)) = some (.int .i64 q.2) := by
      intro i hi
      obtain ⟨h1, h2, h3, h4⟩ := hx i (by omega)
      obtain ⟨n0, e0, _⟩ := DataW.trod_int Tryz.underlying3 h3
      obtain ⟨n1, e1, _⟩ := DataW.trod_int Tryz.underlying2 h4
      simp only [List.cons.injEq, and_true] at e0 e1
      rw [e0] at h1
      rw [e1] at h2
      exact ⟨(n0, n1), h1, h2⟩
    obtain ⟨q, hq⟩ := Go.Deep.choose_lt each
    refine ⟨(List.range len).map q, ⟨by simp, ?_⟩, hl, hm⟩
    by_cases h0 : len = 0
    · exact .inl h0
    obtain ⟨b, off, spot⟩ := y
    have hspot : spot = none := by simpa [Addr.add] using World.cell?_spot (hq 0 (by omega)).1
    subst hspot
    refine .inr ⟨b, off, rfl, ?_, fun i hi => ?_⟩
    · have := World.block_lt_of_cell? W _ (hq 0 (by omega)).1
      simpa [Addr.add] using this
    · have e : ((List.range len).map q).getD i (0, 0) = q i := by simp [List.getD_eq_getElem?_getD, hi]
      rw [e]
      have := hq i hi
      rw [add_at, add_at] at this
      exact ⟨this.1, by rw [Nat.add_assoc]; exact this.2⟩
end Go.Proofs.YtobgkfpjokfbaaaGreatDoor
namespace Go.Proofs.YtobgkfpjokfbaaaGreatDoor
set_option linter.unusedVariables false

/-- Iterate: m times from x. -/
def iter (f : Nat → Nat) : Nat → Nat → Nat
  | 0, x => x
  | m + 1, x => iter f m (f x)
/-- Where the tree of node k begins (with so much fuel). -/
def startF (l : List (Int × Int)) : Nat → Nat → Nat
  | 0, k => k
  | fuel + 1, k => iter (fun x => startF l fuel (x - 1)) (ar (l.getD k (0, 0)).1).toNat k
def start (l : List (Int × Int)) (k : Nat) : Nat := startF l (k + 1) k
/-- The pile behind the first k nodes. -/
def cnt (l : List (Int × Int)) (k : Nat) : Int := (pile (l.take k) 0).getD 0

theorem pile_snoc (l : List (Int × Int)) (x : Int × Int) : ∀ p, pile (l ++ [x]) p = (pile l p).bind fun q => if fits (ar x.1) q x.1 x.2 = true then some (q + (1 - ar x.1)) else none := by
  induction l with
  | nil => intro p; obtain ⟨a, b⟩ := x; simp [pile]
  | cons y r ih =>
    intro p
    obtain ⟨a, b⟩ := y
    simp only [List.cons_append, pile]
    split
    · exact ih _
    · rfl

theorem pile_take {l : List (Int × Int)} {q : Int} (h : pile l 0 = some q) : ∀ k, k ≤ l.length → ∃ p, pile (l.take k) 0 = some p := by
  have key : ∀ j k, k + j = l.length → ∃ p, pile (l.take k) 0 = some p := by
    intro j
    induction j with
    | zero => intro k hk; rw [List.take_of_length_le (by omega)]; exact ⟨q, h⟩
    | succ j ih =>
      intro k hk
      obtain ⟨p, hp⟩ := ih (k + 1) (by omega)
      rw [List.take_succ_eq_append_getElem (by omega), pile_snoc] at hp
      cases hq : pile (l.take k) 0 with
      | none => rw [hq] at hp; cases hp
      | some r => exact ⟨r, rfl⟩
  intro k hk
  exact key (l.length - k) k (by omega)

theorem fits_iff (m p op n : Int) (h : fits m p op n = true) : 0 ≤ m ∧ m ≤ p ∧ (op = 2 → 0 ≤ n ∧ n < 4) ∧ (0 < m → n = 0) := by
  simp [fits] at h
  omega

/-- What a step does to the pile. -/
theorem cnt_step {l : List (Int × Int)} {q : Int} (h : pile l 0 = some q) (k : Nat) (hk : k < l.length) :
    fits (ar (l.getD k (0, 0)).1) (cnt l k) (l.getD k (0, 0)).1 (l.getD k (0, 0)).2 = true ∧ cnt l (k + 1) = cnt l k + (1 - ar (l.getD k (0, 0)).1) := by
  obtain ⟨p, hp⟩ := pile_take h k (by omega)
  obtain ⟨p', hp'⟩ := pile_take h (k + 1) (by omega)
  have e : l.getD k (0, 0) = l[k] := by simp [List.getD_eq_getElem?_getD, List.getElem?_eq_getElem hk]
  have hq := hp'
  rw [List.take_succ_eq_append_getElem hk, pile_snoc, hp] at hq
  simp only [Option.bind_some] at hq
  rw [← e] at hq
  by_cases hf : fits (ar (l.getD k (0, 0)).1) p (l.getD k (0, 0)).1 (l.getD k (0, 0)).2 = true
  · rw [if_pos hf] at hq
    unfold cnt
    rw [hp, hp']
    simp only [Option.getD_some]
    exact ⟨hf, (Option.some.inj hq).symm⟩
  · rw [if_neg hf] at hq; cases hq
theorem cnt_zero (l : List (Int × Int)) : cnt l 0 = 0 := rfl

/-- The fuel does not matter. -/
theorem iter_congr {f g : Nat → Nat} (K : Nat) (hfg : ∀ x, x ≤ K → f x = g x) (hle : ∀ x, x ≤ K → f x ≤ K) : ∀ m x, x ≤ K → iter f m x = iter g m x
  | 0, _, _ => rfl
  | m + 1, x, hx => by
    show iter f m (f x) = iter g m (g x)
    rw [← hfg x hx]
    exact iter_congr K hfg hle m (f x) (hle x hx)

theorem main {l : List (Int × Int)} {q : Int} (h : pile l 0 = some q) : ∀ K k, k ≤ K → k < l.length → ∀ fuel, k < fuel →
    startF l fuel k ≤ k ∧ cnt l (k + 1) = cnt l (startF l fuel k) + 1 ∧ startF l fuel k = start l k := by
  intro K
  induction K with
  | zero =>
    intro k hk hl fuel hf
    obtain rfl : k = 0 := by omega
    obtain ⟨h1, h2⟩ := cnt_step h 0 hl
    obtain ⟨a1, a2, _⟩ := fits_iff _ _ _ _ h1
    rw [cnt_zero] at a2 h2
    have e0 : (ar (l.getD 0 (0, 0)).1).toNat = 0 := by omega
    have e1 : ∀ fuel, startF l (fuel + 1) 0 = 0 := fun fuel => by unfold startF; rw [e0]; rfl
    obtain ⟨f, rfl⟩ : ∃ f, fuel = f + 1 := ⟨fuel - 1, by omega⟩
    refine ⟨by rw [e1]; exact Nat.le_refl _, by rw [e1, cnt_zero]; omega, ?_⟩
    unfold start; rw [e1, e1]
  | succ K ih =>
    intro k hk hl fuel hf
    by_cases hkK : k ≤ K
    · exact ih k hkK hl fuel hf
    obtain rfl : k = K + 1 := by omega
    obtain ⟨h1, h2⟩ := cnt_step h (K + 1) hl
    obtain ⟨a1, a2, _⟩ := fits_iff _ _ _ _ h1
    obtain ⟨f, rfl⟩ : ∃ f, fuel = f + 1 := ⟨fuel - 1, by omega⟩
    -- each step of the walk back
    have step : ∀ g, K < g → ∀ (m x : Nat), x ≤ K + 1 → (m : Int) ≤ cnt l x →
        iter (fun x => startF l g (x - 1)) m x ≤ x ∧ cnt l (iter (fun x => startF l g (x - 1)) m x) = cnt l x - m := by
      intro g hg m
      induction m with
      | zero => intro x hx hm; exact ⟨Nat.le_refl _, by simp [iter]⟩
      | succ m ihm =>
        intro x hx hm
        have hx0 : 0 < x := by
          rcases Nat.eq_zero_or_pos x with h0 | h0
          · subst h0; rw [cnt_zero] at hm; omega
          · exact h0
        obtain ⟨b1, b2, _⟩ := ih (x - 1) (by omega) (by omega) g (by omega)
        rw [show x - 1 + 1 = x from by omega] at b2
        obtain ⟨c1, c2⟩ := ihm (startF l g (x - 1)) (by omega) (by omega)
        refine ⟨Nat.le_trans c1 (by omega), ?_⟩
        show cnt l (iter _ m (startF l g (x - 1))) = _
        rw [c2]; omega
    have hm : ((ar (l.getD (K + 1) (0, 0)).1).toNat : Int) = ar (l.getD (K + 1) (0, 0)).1 := by omega
    obtain ⟨s1, s2⟩ := step f (by omega) (ar (l.getD (K + 1) (0, 0)).1).toNat (K + 1) (Nat.le_refl _) (by omega)
    refine ⟨s1, ?_, ?_⟩
    · show cnt l (K + 1 + 1) = cnt l (iter _ _ (K + 1)) + 1
      rw [s2, h2]; omega
    · show iter (fun x => startF l f (x - 1)) _ (K + 1) = iter (fun x => startF l (K + 1) (x - 1)) _ (K + 1)
      -- both walk the same way
      have same : ∀ (m x : Nat), x ≤ K + 1 → (m : Int) ≤ cnt l x → iter (fun x => startF l f (x - 1)) m x = iter (fun x => startF l (K + 1) (x - 1)) m x := by
        intro m
        induction m with
        | zero => intro x _ _; rfl
        | succ m ihm =>
          intro x hx hm
          have hx0 : 0 < x := by
            rcases Nat.eq_zero_or_pos x with h0 | h0
            · subst h0; rw [cnt_zero] at hm; omega
            · exact h0
          obtain ⟨b1, b2, b3⟩ := ih (x - 1) (by omega) (by omega) f (by omega)
          obtain ⟨d1, d2, d3⟩ := ih (x - 1) (by omega) (by omega) (K + 1) (by omega)
          rw [show x - 1 + 1 = x from by omega] at b2
          show iter _ m (startF l f (x - 1)) = iter _ m (startF l (K + 1) (x - 1))
          rw [d3, ← b3]
          exact ihm _ (by omega) (by omega)
      exact same _ _ (Nat.le_refl _) (by omega)

theorem start_le {l : List (Int × Int)} {q : Int} (h : pile l 0 = some q) (k : Nat) (hk : k < l.length) : start l k ≤ k := (main h k k (Nat.le_refl _) hk (k + 1) (by omega)).1
theorem start_cnt {l : List (Int × Int)} {q : Int} (h : pile l 0 = some q) (k : Nat) (hk : k < l.length) : cnt l (k + 1) = cnt l (start l k) + 1 := (main h k k (Nat.le_refl _) hk (k + 1) (by omega)).2.1
/-- The walk back from x, m trees. -/
def back (l : List (Int × Int)) (m x : Nat) : Nat := iter (fun x => start l (x - 1)) m x
theorem back_succ (l : List (Int × Int)) (m x : Nat) : back l (m + 1) x = back l m (start l (x - 1)) := rfl
theorem back_le {l : List (Int × Int)} {q : Int} (h : pile l 0 = some q) : ∀ (m x : Nat), x ≤ l.length → (m : Int) ≤ cnt l x → back l m x ≤ x ∧ cnt l (back l m x) = cnt l x - m
  | 0, x, _, _ => ⟨Nat.le_refl _, by simp [back, iter]⟩
  | m + 1, x, hx, hm => by
    have hx0 : 0 < x := by
      rcases Nat.eq_zero_or_pos x with h0 | h0
      · subst h0; rw [cnt_zero] at hm; omega
      · exact h0
    have b1 := start_le h (x - 1) (by omega)
    have b2 := start_cnt h (x - 1) (by omega)
    rw [show x - 1 + 1 = x from by omega] at b2
    obtain ⟨c1, c2⟩ := back_le h m (start l (x - 1)) (by omega) (by omega)
    rw [back_succ]
    exact ⟨by omega, by rw [c2]; omega⟩
theorem start_eq {l : List (Int × Int)} {q : Int} (h : pile l 0 = some q) (k : Nat) (hk : k < l.length) : start l k = back l (ar (l.getD k (0, 0)).1).toNat k := by
  obtain ⟨h1, h2⟩ := cnt_step h k hk
  obtain ⟨a1, a2, _⟩ := fits_iff _ _ _ _ h1
  show iter (fun x => startF l k (x - 1)) _ k = iter (fun x => start l (x - 1)) _ k
  have same : ∀ (m x : Nat), x ≤ k → (m : Int) ≤ cnt l x → iter (fun x => startF l k (x - 1)) m x = iter (fun x => start l (x - 1)) m x := by
    intro m
    induction m with
    | zero => intro x _ _; rfl
    | succ m ihm =>
      intro x hx hm
      have hx0 : 0 < x := by
        rcases Nat.eq_zero_or_pos x with h0 | h0
        · subst h0; rw [cnt_zero] at hm; omega
        · exact h0
      obtain ⟨b1, b2, b3⟩ := main h (x - 1) (x - 1) (Nat.le_refl _) (by omega) k (by omega)
      rw [show x - 1 + 1 = x from by omega] at b2
      show iter _ m (startF l k (x - 1)) = iter _ m (start l (x - 1))
      rw [← b3]
      exact ihm _ (by omega) (by omega)
  exact same _ _ (Nat.le_refl _) (by omega)
end Go.Proofs.YtobgkfpjokfbaaaGreatDoor
namespace Go.Proofs.YtobgkfpjokfbaaaGreatDoor
open Go.ChangeShapes Go.WideShapes Go.ChangeAt Go.RowKit
set_option linter.unusedVariables false

theorem from_any {l : List (Int × Int)} {q : Int} (h : pile l 0 = some q) (a : Option Addr) (len cap : Nat) (w : World) (hs : NSl w a len l) (hl : len ≤ 1048576) : ∀ k, k < len →
    Calls Tryz.prog 94 #[.slice a len cap, .int .i64 k] w fun e w' => e = .returned (.int .i64 (start l k)) ∧ w' = w := by
  intro k
  induction k using Nat.strongRecOn with
  | _ k ih =>
    intro hk
    have hlen := hs.1
    obtain ⟨h1, h2⟩ := cnt_step h k (by omega)
    obtain ⟨a1, a2, _⟩ := fits_iff _ _ _ _ h1
    have hst := start_eq h k (by omega)
    have har := ar_range (l.getD k (0, 0)).1
    obtain ⟨b, off, rfl, hbl, hc⟩ := hs.at (by omega)
    have c1 := (hc k hk).1
    clear hc
    have HA : ∀ W, Calls Tryz.prog 90 #[.int .i64 (l.getD k (0, 0)).1] W fun e w' => e = .returned (.int .i64 (ar (l.getD k (0, 0)).1)) ∧ w' = W := fun W => l1Arity_any _ W
    obtain ⟨m, hm⟩ : ∃ m : Nat, ar (l.getD k (0, 0)).1 = m := ⟨(ar (l.getD k (0, 0)).1).toNat, by omega⟩
    rw [hm] at HA hst a2 har
    rw [Int.toNat_natCast] at hst
    generalize (l.getD k (0, 0)).1 = x at c1 HA
    have HI : Hid (∀ j, j < k → j < len → Calls Tryz.prog 94 #[.slice (some ⟨b, off, none⟩) len cap, .int .i64 j] w fun e w' => e = .returned (.int .i64 (start l j)) ∧ w' = w) := ih
    have HST : Hid (start l k = back l m k) := hst
    have HC : Hid ((m : Int) ≤ cnt l k) := a2
    clear ih hst h1 h2 a1 a2 hm hs
    have HB := @back_le l q h
    have HB' : Hid (∀ (m x : Nat), x ≤ l.length → (m : Int) ≤ cnt l x → back l m x ≤ x ∧ cnt l (back l m x) = cnt l x - m) := HB
    have HS' : Hid (∀ j, j < l.length → start l j ≤ j ∧ cnt l (j + 1) = cnt l (start l j) + 1) := fun j hj => ⟨start_le h j hj, start_cnt h j hj⟩
    clear HB
    go_enter Tryz.func94, Tryz.ntmps94
    go_wp2_with fail
    refine (HA _).mono ?_
    rintro e w1 ⟨rfl, rfl⟩
    clear HA
    go_wp2_with fail
    go_loopw [5, 6] (fun f i wr => ∃ (n x : Nat), n ≤ 3 ∧ i = .int .i64 n ∧ f = .int .i64 x ∧ x ≤ k ∧ Hid (start l k = back l n x ∧ (n : Int) ≤ cnt l x) ∧ wr = w1) (fun _ i _ => (intOf i).toNat)
    case atStart => exact ⟨m, k, by omega, rfl, rfl, Nat.le_refl _, ⟨HST.out, HC.out⟩, rfl⟩
    case round =>
      obtain ⟨n, x, hn, rfl, rfl, hx, hH, rfl⟩ := hrel
      by_cases hn0 : 0 < n
      · have i0 : (0 : Int) < n := by omega
        have hx0 : 0 < x := by
          rcases Nat.eq_zero_or_pos x with h0 | h0
          · subst h0; have := hH.out.2; rw [cnt_zero] at this; omega
          · exact h0
        obtain ⟨g1, g2⟩ := HS'.out (x - 1) (by omega)
        rw [show x - 1 + 1 = x from by omega] at g2
        have hnext : Hid (start l k = back l (n - 1) (start l (x - 1)) ∧ ((n - 1 : Nat) : Int) ≤ cnt l (start l (x - 1))) := by
          have hh := hH.out
          obtain ⟨n', rfl⟩ : ∃ n', n = n' + 1 := ⟨n - 1, by omega⟩
          rw [back_succ] at hh
          exact ⟨hh.1, by omega⟩
        have hle : start l (x - 1) ≤ k := by omega
        have C := HI.out (x - 1) (by omega) (by omega)
        rw [show ((x - 1 : Nat) : Int) = (x : Int) - 1 from by omega] at C
        generalize start l (x - 1) = y at C hnext hle
        clear g1 g2 hH
        go_wp2_with fail
        refine C.mono ?_
        rintro e w2 ⟨rfl, rfl⟩
        clear C
        go_wp2
        go_roundw
        case rel => exact ⟨n - 1, y, by omega, by congr 1; omega, rfl, hle, hnext, (by first | trivial | rfl)⟩
        case measure => simp [intOf]; omega
      · obtain rfl : n = 0 := by omega
        have e0 : start l k = x := hH.out.1
        go_wp2
        go_ret
        exact ⟨by rw [e0]; rfl, rfl⟩
end Go.Proofs.YtobgkfpjokfbaaaGreatDoor
