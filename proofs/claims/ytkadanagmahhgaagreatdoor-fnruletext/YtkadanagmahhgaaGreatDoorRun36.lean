/-
  PROVED HERE: plain facts on what is told of a rule. No condition. which variables the model tells as surely reckoned, at every list of nodes. No other condition. which numbers the program tells of four marks. No condition. which variables the program tells of a term, at every list of nodes, in a world whose table of arities is laid. No other condition.
-/
import Derived.Test.YtkadanagmahhgaaGreatDoorRun23
import Derived.Test.YtkadanagmahhgaaGreatDoorRun35
import Derived.Test.YtkadanagmahhgaaGreatDoorRun2
import Derived.Test.YtkadanagmahhgaaGreatDoorRun4
namespace Go.Proofs.YtkadanagmahhgaaGreatDoor
open Go.ChangeShapes Go.WideShapes Go.ChangeAt Go.RowKit
set_option linter.unusedVariables false

/-- Each of these is among those. -/
def subV (m l : List Int) : Bool := m.all fun v => decide (v ∈ l)
theorem subV_yes {m l : List Int} (h : ∀ k, k < m.length → m.getD k 0 ∈ l) : true = subV m l := by
  symm
  refine List.all_eq_true.2 fun v hv => ?_
  obtain ⟨k, hk, e⟩ := List.getElem_of_mem hv
  have := h k hk
  rw [List.getD_eq_getElem?_getD, List.getElem?_eq_getElem hk, Option.getD_some, e] at this
  exact decide_eq_true this
theorem subV_no {m l : List Int} {k : Nat} (hk : k < m.length) (h : m.getD k 0 ∉ l) : false = subV m l := by
  symm
  refine Bool.eq_false_iff.2 fun ht => h ?_
  have := List.all_eq_true.1 ht (m.getD k 0) (by rw [List.getD_eq_getElem?_getD, List.getElem?_eq_getElem hk]; exact List.getElem_mem _)
  exact of_decide_eq_true this
/-- What is told of a good rule. -/
def codeC (p r : List (Int × Int)) : Int :=
  if (p.getD (p.length - 1) (0, 0)).1 = 2 then 1
  else if subV (varsF r []) (varsF p []) = false then 2
  else if knownS p r = true then 0
  else if (ringB p && ringB r && decide (varsF p [] = varsF r [])) = false then 3
  else if sameR p r = false then 4 else 0
def codeR (p r : List (Int × Int)) : Int := if ruleB p r = true then codeC p r else 0
theorem varsF_few8 : ∀ (l : List (Int × Int)) (o : List Int), (varsF l o).length ≤ o.length + l.length := by
  intro l
  induction l with
  | nil => intro o; exact Nat.le_refl _
  | cons x l ih =>
    intro o
    unfold varsF
    have hin : (insL o x.2).length ≤ o.length + 1 := insL_len o x.2
    split
    · have := ih (insL o x.2); simp only [List.length_cons]; omega
    · have := ih o; simp only [List.length_cons]; omega
theorem pile_pos : ∀ (l : List (Int × Int)) (p q : Int), 0 ≤ p → pile l p = some q → 0 ≤ q ∧ (l ≠ [] → 1 ≤ q) := by
  intro l
  induction l with
  | nil => intro p q hp h; simp [pile] at h; exact ⟨by omega, fun h => absurd rfl h⟩
  | cons x l ih =>
    intro p q hp h
    obtain ⟨op, n⟩ := x
    unfold pile at h
    by_cases hf : fits (ar op) p op n = true
    · rw [if_pos hf] at h
      have hle : ar op ≤ p := by
        unfold fits at hf
        simp only [Bool.not_eq_true', Bool.or_eq_false_iff, decide_eq_false_iff_not] at hf
        omega
      have := ih (p + (1 - ar op)) q (by omega) h
      refine ⟨this.1, fun _ => ?_⟩
      by_cases hl : l = []
      · subst hl
        simp [pile] at h
        omega
      · exact this.2 hl
    · rw [if_neg hf] at h; cases h
theorem pile_app8 : ∀ (l m : List (Int × Int)) (p : Int), pile (l ++ m) p = (pile l p).bind (pile m) := by
  intro l
  induction l with
  | nil => intro m p; rfl
  | cons x l ih =>
    intro m p
    obtain ⟨op, n⟩ := x
    simp only [List.cons_append, pile]
    by_cases hf : fits (ar op) p op n = true
    · rw [if_pos hf, if_pos hf, ih]
    · rw [if_neg hf, if_neg hf]; rfl
theorem ar_two : ar 2 = 0 := by decide
/-- A term whose last node is a variable is that variable. -/
theorem last_var {l : List (Int × Int)} (h : goodB l = true) : (l.getD (l.length - 1) (0, 0)).1 = 2 ↔ ((l.getD 0 (0, 0)).1 = 2 ∧ l.length = 1) := by
  obtain ⟨hp, h1, -⟩ := good_pile h
  refine ⟨fun e => ?_, fun ⟨e, e1⟩ => by rw [e1]; exact e⟩
  obtain ⟨m, x, rfl⟩ : ∃ m x, l = m ++ [x] := ⟨l.dropLast, l.getLast (by intro e; rw [e] at h1; simp at h1), (List.dropLast_concat_getLast _).symm⟩
  have hx : (m ++ [x]).getD ((m ++ [x]).length - 1) (0, 0) = x := by
    simp [List.getD_eq_getElem?_getD]
  rw [hx] at e
  rw [pile_app8] at hp
  cases hq : pile m 0 with
  | none => rw [hq] at hp; cases hp
  | some q =>
    rw [hq] at hp
    obtain ⟨op, n⟩ := x
    simp only at e
    subst e
    simp only [Option.bind_some, pile, ar_two] at hp
    by_cases hf : fits 0 q 2 n = true
    · rw [if_pos hf] at hp
      have hq0 : q = 0 := by
        have := Option.some.inj hp
        omega
      have hm : m = [] := Classical.byContradiction fun hm => by
        have := (pile_pos m 0 q (by omega) hq).2 hm
        omega
      subst hm
      exact ⟨rfl, rfl⟩
    · rw [if_neg hf] at hp; cases hp
end Go.Proofs.YtkadanagmahhgaaGreatDoor
namespace Go.Proofs.YtkadanagmahhgaaGreatDoor
open Go.ChangeShapes Go.WideShapes Go.ChangeAt Go.RowKit
set_option linter.unusedVariables false

/-- A number put to its place, step by step. -/
def putS : List Int → Int → List Int
  | [], n => [n]
  | x :: l, n => if x < n then x :: putS l n else if x = n then x :: l else n :: x :: l
theorem insL_eq : ∀ l n, insL l n = putS l n
  | [], n => by simp [insL, putS, place]
  | x :: l, n => by
    have ih := insL_eq l n
    unfold insL at ih ⊢
    unfold putS place
    by_cases h : x < n
    · rw [if_pos h, if_pos h, ← ih]
      simp only [List.length_cons, Nat.add_lt_add_iff_right, List.getD_cons_succ, List.take_succ_cons, List.drop_succ_cons]
      split <;> simp
    · rw [if_neg h, if_neg h]
      by_cases h2 : x = n
      · rw [if_pos h2, if_pos (by simp [h2])]
      · rw [if_neg h2, if_neg (by simp [h2])]; simp
/-- In order, each once, and each the number of a variable. -/
def Few (l : List Int) : Prop := l.Pairwise (· < ·) ∧ ∀ x ∈ l, 0 ≤ x ∧ x < 4
theorem putS_mem : ∀ l n x, x ∈ putS l n → x ∈ l ∨ x = n
  | [], n, x, h => by simp only [putS, List.mem_singleton] at h; exact .inr h
  | y :: l, n, x, h => by
    unfold putS at h
    split at h
    · rcases List.mem_cons.1 h with h | h
      · exact .inl (by simp [h])
      · rcases putS_mem l n x h with h | h
        · exact .inl (by simp [h])
        · exact .inr h
    · split at h
      · exact .inl h
      · rcases List.mem_cons.1 h with h | h
        · exact .inr h
        · exact .inl h
theorem putS_sorted : ∀ l n, l.Pairwise (· < ·) → (putS l n).Pairwise (· < ·)
  | [], n, _ => by simp [putS]
  | y :: l, n, h => by
    obtain ⟨h1, h2⟩ := List.pairwise_cons.1 h
    unfold putS
    split
    · next hy =>
      refine List.pairwise_cons.2 ⟨fun x hx => ?_, putS_sorted l n h2⟩
      rcases putS_mem l n x hx with h0 | h0
      · exact h1 x h0
      · rw [h0]; exact hy
    · next hy =>
      split
      · exact h
      · next hne =>
        refine List.pairwise_cons.2 ⟨fun x hx => ?_, h⟩
        rcases List.mem_cons.1 hx with h0 | h0
        · omega
        · have := h1 x h0; omega
theorem Few.put {l : List Int} (h : Few l) {n : Int} (h0 : 0 ≤ n) (h4 : n < 4) : Few (insL l n) := by
  rw [insL_eq]
  refine ⟨putS_sorted l n h.1, fun x hx => ?_⟩
  rcases putS_mem l n x hx with h1 | h1
  · exact h.2 x h1
  · omega
theorem few_len : ∀ (l : List Int) (lo : Int), l.Pairwise (· < ·) → (∀ x ∈ l, lo ≤ x ∧ x < 4) → lo ≤ 4 → (l.length : Int) ≤ 4 - lo
  | [], lo, _, _, h => by simp; omega
  | x :: l, lo, h, hx, hlo => by
    obtain ⟨h1, h2⟩ := List.pairwise_cons.1 h
    have b := hx x (by simp)
    have := few_len l (x + 1) h2 (fun y hy => ⟨by have := h1 y hy; omega, (hx y (by simp [hy])).2⟩) (by omega)
    simp only [List.length_cons]
    omega
theorem Few.len {l : List Int} (h : Few l) : l.length ≤ 4 := by
  have := few_len l 0 h.1 h.2 (by omega)
  omega
theorem Few.fold {vs : List Int} (hv : Few vs) : ∀ (us : List Int), (∀ x ∈ us, x ∈ vs) → ∀ {o : List Int}, Few o → Few (us.foldl insL o)
  | [], _, _, ho => ho
  | u :: us, hs, o, ho => by
    have := hv.2 u (hs u (by simp))
    exact Few.fold hv us (fun x hx => hs x (by simp [hx])) (ho.put this.1 this.2)

/-- All of some parts, one behind the other. -/
def foldP (g : Nat → List Int) : List Nat → List Int → List Int
  | [], o => o
  | r :: rs, o => foldP g rs ((g r).foldl insL o)
/-- Which variables are surely reckoned in the tree of a node (with so much fuel). -/
def sureF (l : List (Int × Int)) : Nat → Nat → List Int
  | 0, _ => []
  | f + 1, k => if (l.getD k (0, 0)).1 = 2 then [(l.getD k (0, 0)).2]
    else foldP (sureF l f) ((roots l (ar (l.getD k (0, 0)).1).toNat k).take (if (l.getD k (0, 0)).1 = 11 then 1 else (ar (l.getD k (0, 0)).1).toNat)) []
theorem few_foldP (g : Nat → List Int) : ∀ (rs : List Nat), (∀ r ∈ rs, Few (g r)) → ∀ o, Few o → Few (foldP g rs o)
  | [], _, o, h => h
  | r :: rs, hr, o, h => few_foldP g rs (fun x hx => hr x (by simp [hx])) _ ((hr r (by simp)).fold _ (fun x hx => hx) h)
theorem few_sure {l : List (Int × Int)} {q : Int} (h : pile l 0 = some q) : ∀ f k, k < l.length → Few (sureF l f k)
  | 0, _, _ => ⟨List.Pairwise.nil, fun x hx => by cases hx⟩
  | f + 1, k, hk => by
    obtain ⟨h1, _⟩ := cnt_step h k hk
    obtain ⟨a1, a2, a3, _⟩ := fits_iff _ _ _ _ h1
    unfold sureF
    split
    · next h2 =>
      have := a3 h2
      exact ⟨by simp, fun x hx => by rw [List.mem_singleton.1 hx]; exact this⟩
    · refine few_foldP _ _ (fun r hr => few_sure h f r ?_) _ ⟨List.Pairwise.nil, fun x hx => by cases hx⟩
      have := roots_lt h _ k (by omega) (by omega) r (List.mem_of_mem_take hr)
      omega

theorem lit_val (w : World) (x : Int) : (w.alloc (.cells #[.int .i64 x] 3)).ownsRow w.heap.size 3 1 (.slice (some ⟨w.heap.size, 0, none⟩) 1 1) 1 (vals [x]) :=
  World.ownsRow_lit w #[.int .i64 x] 1 (Nat.le_refl _) (by unfold maxLen; omega) rfl

def sureL (l : List (Int × Int)) : List Int := if goodB l = true then sureF l l.length (l.length - 1) else []
end Go.Proofs.YtkadanagmahhgaaGreatDoor
namespace Go.Proofs.YtkadanagmahhgaaGreatDoor
open Go.ChangeShapes Go.WideShapes Go.ChangeAt Go.RowKit
set_option linter.unusedVariables false

/-- The numbers below k that are marked. -/
def ris (s : Nat → Bool) : Nat → List Int
  | 0 => []
  | k + 1 => ris s k ++ (if s k = true then [(k : Int)] else [])
theorem ris_len (s : Nat → Bool) : ∀ k, (ris s k).length ≤ k
  | 0 => Nat.le_refl _
  | k + 1 => by
    have := ris_len s k
    unfold ris
    split <;> simp <;> omega
/-- A list of numbers as marks. -/
def inL (o : List Int) (j : Nat) : Bool := decide ((j : Int) ∈ o)
theorem ris_lt (o : List Int) (h : o.Pairwise (· < ·)) : ∀ k, (∀ x ∈ o, 0 ≤ x) → ris (inL o) k = o.filter (fun x => decide (x < (k : Int)))
  | 0, h0 => by
    symm
    unfold ris
    rw [List.filter_eq_nil_iff]
    intro x hx
    have := h0 x hx
    simp; omega
  | k + 1, h0 => by
    have ih := ris_lt o h k h0
    unfold ris
    rw [ih]
    clear ih
    unfold inL
    induction o with
    | nil => simp
    | cons x o ih =>
      obtain ⟨h1, h2⟩ := List.pairwise_cons.1 h
      have ih' := ih h2 (fun y hy => h0 y (by simp [hy]))
      by_cases hx : x < k
      · have e1 : decide (x < (k : Int)) = true := decide_eq_true hx
        have e2 : decide (x < ((k + 1 : Nat) : Int)) = true := decide_eq_true (by omega)
        have e3 : ((k : Int) ∈ x :: o) = ((k : Int) ∈ o) := by
          rw [List.mem_cons]
          have : ¬ (k : Int) = x := by omega
          simp [this]
        simp only [List.filter_cons, e1, e2, if_true, e3, List.cons_append, ih']
      · have e1 : decide (x < (k : Int)) = false := decide_eq_false hx
        have hno : o.filter (fun x => decide (x < (k : Int))) = [] := by
          rw [List.filter_eq_nil_iff]
          intro y hy
          have := h1 y hy
          simp; omega
        have hno' : o.filter (fun x => decide (x < ((k + 1 : Nat) : Int))) = [] := by
          rw [List.filter_eq_nil_iff]
          intro y hy
          have := h1 y hy
          simp; omega
        simp only [List.filter_cons, e1, hno, hno']
        by_cases hk : x = k
        · subst hk
          rw [decide_eq_true (show (k : Int) < ((k + 1 : Nat) : Int) by omega)]
          simp
        · have e2 : ¬ x < ((k + 1 : Nat) : Int) := by omega
          have e3 : ¬ (k : Int) ∈ x :: o := by
            rw [List.mem_cons]
            rintro (h' | h')
            · exact hk h'.symm
            · have := h1 _ h'; omega
          rw [decide_eq_false e2, decide_eq_false e3]
          simp
theorem ris_few {o : List Int} (h : Few o) : ris (inL o) 4 = o := by
  rw [ris_lt o h.1 4 (fun x hx => (h.2 x hx).1), List.filter_eq_self]
  intro x hx
  have := (h.2 x hx).2
  simpa using this
theorem putS_has : ∀ l n x, x ∈ putS l n ↔ x ∈ l ∨ x = n
  | [], n, x => by simp [putS]
  | y :: l, n, x => by
    unfold putS
    split
    · rw [List.mem_cons, putS_has l n x, List.mem_cons, or_assoc]
    · split
      · next h =>
        constructor
        · exact .inl
        · rintro (h' | h')
          · exact h'
          · rw [h', ← h]; simp
      · simp only [List.mem_cons]
        constructor
        · rintro (h' | h')
          · exact .inr h'
          · exact .inl h'
        · rintro (h' | h')
          · exact .inr h'
          · exact .inl h'
theorem inL_put (o : List Int) (n j : Nat) : inL (insL o n) j = if j = n then true else inL o j := by
  unfold inL
  rw [insL_eq]
  by_cases h : j = n
  · rw [if_pos h, decide_eq_true ((putS_has _ _ _).2 (.inr (by omega)))]
  · rw [if_neg h]
    have : ((j : Int) ∈ putS o n) ↔ (j : Int) ∈ o := by
      rw [putS_has]
      constructor
      · rintro (h' | h')
        · exact h'
        · omega
      · exact .inl
    rw [decide_eq_decide]
    exact this

theorem idx4_0 (s : Nat → Bool) (W : World) : (Instr.index 92 (.agg #[.bool (s 0), .bool (s 1), .bool (s 2), .bool (s 3)]) (.int .i64 0)).run Tryz.prog W = .ok (.bool (s 0)) W := by kernel_rfl
theorem idx4_1 (s : Nat → Bool) (W : World) : (Instr.index 92 (.agg #[.bool (s 0), .bool (s 1), .bool (s 2), .bool (s 3)]) (.int .i64 1)).run Tryz.prog W = .ok (.bool (s 1)) W := by kernel_rfl
theorem idx4_2 (s : Nat → Bool) (W : World) : (Instr.index 92 (.agg #[.bool (s 0), .bool (s 1), .bool (s 2), .bool (s 3)]) (.int .i64 2)).run Tryz.prog W = .ok (.bool (s 2)) W := by kernel_rfl
theorem idx4_3 (s : Nat → Bool) (W : World) : (Instr.index 92 (.agg #[.bool (s 0), .bool (s 1), .bool (s 2), .bool (s 3)]) (.int .i64 3)).run Tryz.prog W = .ok (.bool (s 3)) W := by kernel_rfl
theorem idx4 (s : Nat → Bool) (k : Nat) (h : k < 4) (W : World) : (Instr.index 92 (.agg #[.bool (s 0), .bool (s 1), .bool (s 2), .bool (s 3)]) (.int .i64 (k : Int))).run Tryz.prog W = .ok (.bool (s k)) W := by
  have : k = 0 ∨ k = 1 ∨ k = 2 ∨ k = 3 := by omega
  rcases this with rfl | rfl | rfl | rfl
  · exact idx4_0 s W
  · exact idx4_1 s W
  · exact idx4_2 s W
  · exact idx4_3 s W
set_option maxHeartbeats 1600000 in
set_option maxRecDepth 20000 in
theorem rising_any (s : Nat → Bool) (w : World) :
    Calls Tryz.prog 68 #[.agg #[.bool (s 0), .bool (s 1), .bool (s 2), .bool (s 3)]] w fun e w' => ∃ v : Value, e = .returned v ∧ w'.ownsRow w.heap.size 3 1 v (ris s 4).length (vals (ris s 4)) ∧ Below w.heap.size w w' := by
  obtain ⟨i0, hi, hz0, hz1, hz2⟩ := info_parts infoInt
  go_enter Tryz.func68, Tryz.ntmps68
  go_wp2_with fail
  go_loopw [3, 7] (fun o i wr => ∃ (k : Nat), k ≤ 4 ∧ i = .int .i64 k ∧ wr.ownsRow w.heap.size 3 1 o (ris s k).length (vals (ris s k)) ∧ Below w.heap.size w wr) (fun _ i _ => 4 - (intOf i).toNat)
  case atStart => exact ⟨0, Nat.zero_le _, rfl, World.ownsRow_nil _ _ _ _, (Below.refl _ _).alloc (Nat.le_refl _) _⟩
  case round =>
    obtain ⟨k, hk, rfl, hown, hbr⟩ := hrel
    by_cases hlt : k < 4
    · have hlt' : (k : Int) < 4 := by omega
      have hix := fun W => idx4 s k hlt W
      have hro := ris_len s k
      by_cases hsk : s k = true
      · have e : ris s (k + 1) = ris s k ++ [(k : Int)] := by show ris s k ++ _ = _; rw [if_pos hsk]
        have hbn := hbr.alloc hbr.size (.cells #[.int .i64 (k : Int)] 3)
        rw [hsk] at hix
        go_wp2_with (at_builtin; refine wpList_append_own _ rfl _ _ 62 rfl w.heap.size 3 i0 (.int .i64 0) 1 8 Tryz.underlying62 hi hz0 hz1 hz2 rfl (by decide) _ _ _ rfl (hown.alloc _) ⟨wr.heap.size, 0, none⟩ 1 1 [.int .i64 (k : Int)] rfl (by simp) (cell_new1 wr .i64 k 3) (one_cell1 .i64 k) (by unfold maxLen; omega) (by omega) hbn.size ?_; intro v' w4 hown4 hg4 _)
        go_roundw
        case rel => exact ⟨k + 1, by omega, by go_num, by rw [e, List.length_append, vals_append]; exact hown4, hbn.grown hg4 hbn.size (own_ge hown)⟩
        case measure => simp [intOf]; omega
      · have hsk' : s k = false := by simpa using hsk
        have e : ris s (k + 1) = ris s k := by show ris s k ++ _ = _; rw [if_neg hsk, List.append_nil]
        rw [hsk'] at hix
        go_wp2
        go_roundw
        case rel => exact ⟨k + 1, by omega, by go_num, by rw [e]; exact hown, hbr⟩
        case measure => simp [intOf]; omega
    · obtain rfl : k = 4 := by omega
      go_wp2
      go_ret
      exact ⟨_, rfl, hown, hbr⟩

/-- Four marks in a block. -/
def Seen (w : World) (g : Nat) (s : Nat → Bool) : Prop := w.heap[g]? = some (.cells #[.bool (s 0), .bool (s 1), .bool (s 2), .bool (s 3)] 92 (0, 0))
theorem Seen.cell {w : World} {g : Nat} {s : Nat → Bool} (h : Seen w g s) (n : Nat) (hn : n < 4) : w.cell? ⟨g, n, none⟩ = some (.bool (s n)) ∧ w.frozen? ⟨g, n, none⟩ = false := by
  refine ⟨?_, frozen_of_row w g n _ _ h⟩
  rw [cell_of_row w g n _ _ _ h]
  have : n = 0 ∨ n = 1 ∨ n = 2 ∨ n = 3 := by omega
  rcases this with rfl | rfl | rfl | rfl <;> rfl
theorem Seen.lt {w : World} {g : Nat} {s : Nat → Bool} (h : Seen w g s) : g < w.heap.size := Array.getElem?_eq_some_iff.1 h |>.1
theorem Seen.keep {w w' : World} {g : Nat} {s : Nat → Bool} (h : Seen w g s) (hb : Below w.heap.size w w') : Seen w' g s := (hb.block g h.lt).trans h
theorem Seen.set {w : World} {g : Nat} {s s' : Nat → Bool} (h : Seen w g s) (n : Nat) (hn : n < 4) (hs : ∀ j, s' j = if j = n then true else s j) : Seen (w.setCell ⟨g, n, none⟩ (.bool true)) g s' := by
  unfold Seen
  rw [heap_setCell_same w g n _ _ _ h, hs 0, hs 1, hs 2, hs 3]
  have : n = 0 ∨ n = 1 ∨ n = 2 ∨ n = 3 := by omega
  rcases this with rfl | rfl | rfl | rfl <;> rfl
end Go.Proofs.YtkadanagmahhgaaGreatDoor
namespace Go.Proofs.YtkadanagmahhgaaGreatDoor
open Go.ChangeShapes Go.WideShapes Go.ChangeAt Go.RowKit
set_option linter.unusedVariables false

theorem varsF_few {l : List (Int × Int)} {q : Int} (h : pile l 0 = some q) (k : Nat) (hk : k < l.length) (hop : (l.getD k (0, 0)).1 = 2) : 0 ≤ (l.getD k (0, 0)).2 ∧ (l.getD k (0, 0)).2 < 4 := by
  obtain ⟨h1, _⟩ := cnt_step h k hk
  exact (fits_iff _ _ _ _ h1).2.2.1 hop

set_option maxHeartbeats 1600000 in
set_option maxRecDepth 20000 in
theorem implVars_any (a : Option Addr) (len cap : Nat) (l : List (Int × Int)) (w : World) (ht : Tab w) (h : NSl w a len l) (hm : len ≤ 9223372036854775807) :
    Calls Tryz.prog 34 #[.slice a len cap] w fun e w' => ∃ v : Value, e = .returned (.tuple #[v, .bool (goodB l)]) ∧ w'.ownsRow w.heap.size 3 1 v (varsL l).length (vals (varsL l)) ∧ Below w.heap.size w w' := by
  have hll := h.1
  have HG := (show Hid _ from implGood_any a len cap l w ht h hm)
  clear ht
  by_cases hg : goodB l = true
  · have hp := (good_pile hg).1
    have h40 := (good_pile hg).2.2
    rw [show varsL l = varsF l [] from by unfold varsL; rw [if_pos hg], hg]
    rw [hg] at HG
    clear hg
    have HV : Hid (∀ k, k < l.length → (l.getD k (0, 0)).1 = 2 → 0 ≤ (l.getD k (0, 0)).2 ∧ (l.getD k (0, 0)).2 < 4) := fun k hk ho => varsF_few hp k hk ho
    have HS : Hid (NSl w a len l) := h
    obtain ⟨O, hO⟩ : ∃ O, varsF l [] = O := ⟨_, rfl⟩
    rw [hO]
    have HO : Hid (varsF (l.drop 0) [] = O) := by rw [List.drop_zero]; exact hO
    clear hO h hp
    go_enter Tryz.func34, Tryz.ntmps34
    go_wp2_with fail
    refine Calls.mono HG.out ?_
    rintro e w1 ⟨rfl, hb1⟩
    clear HG
    go_wp2_with fail
    go_loopw [12] (fun i wr => ∃ (k : Nat) (o : List Int), k ≤ len ∧ i = .int .i64 k ∧ Hid (Few o) ∧ Hid (varsF (l.drop k) o = O) ∧ Hid (Seen wr w1.heap.size (inL o)) ∧ Below w.heap.size w wr) (fun i _ => len - (intOf i).toNat)
    case atStart => exact ⟨0, [], Nat.zero_le _, rfl, ⟨List.Pairwise.nil, fun x hx => by cases hx⟩, HO, by
      show (w1.alloc _).heap[w1.heap.size]? = _
      rw [heap_alloc_new]; rfl, hb1.alloc hb1.size _⟩
    case round =>
      obtain ⟨k, o, hk, rfl, hfew, hO, hseen, hbr⟩ := hrel
      by_cases hlt : k < len
      · obtain ⟨b, off, rfl, hbl, hc⟩ := HS.out.at (by omega)
        have c1 := (hbr.cell (p := ⟨b, off + k * 2, none⟩) hbl).trans (hc k hlt).1
        have c2 := (hbr.cell (p := ⟨b, off + k * 2 + 1, none⟩) hbl).trans (hc k hlt).2
        have hstep := varsF_drop l k o (by omega)
        have hv := HV.out k (by omega)
        rw [hO.out] at hstep
        clear hc
        generalize (l.getD k (0, 0)).1 = x at c1 hstep hv
        generalize (l.getD k (0, 0)).2 = y at c2 hstep hv
        have hbr' := hbr.alloc hbr.size (.cells #[.int .i64 x, .int .i64 y] 66)
        by_cases hx : x = 2
        · subst hx
          rw [if_pos rfl] at hstep
          obtain ⟨y1, y2⟩ := hv rfl
          obtain ⟨n, rfl⟩ := Int.eq_ofNat_of_zero_le y1
          have hn : n < 4 := by omega
          obtain ⟨d1, d2⟩ := hseen.out.cell n hn
          generalize inL o n = s0 at d1
          have hsn : Hid (Seen ((wr.setCell ⟨w1.heap.size, n, none⟩ (.bool true)).alloc (.cells #[.int .i64 2, .int .i64 (n : Int)] 66)) w1.heap.size (inL (insL o n))) :=
            (hseen.out.set n hn (fun j => inL_put o n j)).keep ((Below.refl _ _).alloc (Nat.le_refl _) _)
          have hfn : Hid (Few (insL o n)) := hfew.out.put y1 y2
          have hst : Hid (varsF (l.drop (k + 1)) (insL o n) = O) := hstep.symm
          have hg1 : w1.heap.size < wr.heap.size := hseen.out.lt
          have hbs : Below w.heap.size w ((wr.setCell ⟨w1.heap.size, n, none⟩ (.bool true)).alloc (.cells #[.int .i64 2, .int .i64 (n : Int)] 66)) := (hbr.setCell hb1.size _).alloc (by simpa [World.setCell] using hbr.size) _
          clear hstep hseen hfew hO hv
          go_wp2
          go_roundw
          case rel => exact ⟨k + 1, insL o n, by omega, by go_num, hfn, hst, hsn, hbs⟩
          case measure => simp [intOf]; omega
        · have hx' : (x == 2) = false := by simpa using hx
          rw [if_neg hx] at hstep
          have hst : Hid (varsF (l.drop (k + 1)) o = O) := hstep.symm
          have hsn : Hid (Seen (wr.alloc (.cells #[.int .i64 x, .int .i64 y] 66)) w1.heap.size (inL o)) := hseen.out.keep ((Below.refl _ _).alloc (Nat.le_refl _) _)
          clear hstep hseen hO hv
          go_wp2
          go_roundw
          case rel => exact ⟨k + 1, o, by omega, by go_num, hfew, hst, hsn, hbr'⟩
          case measure => simp [intOf]; omega
      · obtain rfl : k = len := by omega
        have hO' := hO.out
        rw [List.drop_of_length_le (by omega)] at hO'
        obtain rfl : o = O := hO'
        have d0 := (hseen.out.cell 0 (by omega)).1
        have d1 := (hseen.out.cell 1 (by omega)).1
        have d2 := (hseen.out.cell 2 (by omega)).1
        have d3 := (hseen.out.cell 3 (by omega)).1
        have HR : Hid (∀ W, Calls Tryz.prog 68 #[.agg #[.bool (inL o 0), .bool (inL o 1), .bool (inL o 2), .bool (inL o 3)]] W fun e w' => ∃ v : Value, e = .returned v ∧ w'.ownsRow W.heap.size 3 1 v o.length (vals o) ∧ Below W.heap.size W w') := fun W => by
          have := rising_any (inL o) W
          rw [ris_few hfew.out] at this
          exact this
        go_wp2_with fail
        refine Calls.mono (HR.out _) ?_
        rintro e w3 ⟨v, rfl, hown, hb3⟩
        go_wp2
        go_ret2
        exact ⟨_, rfl, own_base hown hbr.size, hbr.trans (hb3.mono hbr.size)⟩
  · have hg' : goodB l = false := by simpa using hg
    have hL : varsL l = [] := by unfold varsL; rw [if_neg hg]
    rw [hg', hL]
    rw [hg'] at HG
    clear hL hg hg' h
    go_enter Tryz.func34, Tryz.ntmps34
    go_wp2_with fail
    refine Calls.mono HG.out ?_
    rintro e w1 ⟨rfl, hb1⟩
    go_wp2
    go_ret2
    exact ⟨_, rfl, World.ownsRow_nil _ _ _ _, hb1⟩

end Go.Proofs.YtkadanagmahhgaaGreatDoor
