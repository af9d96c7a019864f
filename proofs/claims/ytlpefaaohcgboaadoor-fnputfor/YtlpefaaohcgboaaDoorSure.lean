/-
  PROVED HERE: which variables the model tells as surely reckoned, at every list of nodes. No other condition.
-/
import Derived.Test.YtlpefaaohcgboaaDoorPutAny
import Derived.Test.YtlpefaaohcgboaaDoorParts
namespace Go.Proofs.YtlpefaaohcgboaaDoor
open Go.ChangeShapes Go.WideShapes Go.ChangeAt Go.RowKit
set_option linter.unusedVariables false

/-- A number put to its place, step by step. -/
def putS : List Int → Int → List Int
  | [], n => [n]
  | x :: l, n => if x < n then x :: putS l n else if x = n then x :: l else n :: x :: l
theorem putL_eq : ∀ l n, putL l n = putS l n
  | [], n => by simp [putL, putS, place]
  | x :: l, n => by
    have ih := putL_eq l n
    unfold putL at ih ⊢
    unfold putS place
    by_cases h : x < n
    · rw [if_pos h, if_pos h, ← ih]
      simp only [List.length_cons, Nat.add_lt_add_iff_right, List.getD_cons_succ, List.take_succ_cons, List.drop_succ_cons]
      split <;> simp
    · rw [if_neg h, if_neg h]
      by_cases h2 : x = n
      · rw [if_pos h2, if_pos (by simp [h2])]
      · rw [if_neg h2, if_neg (by simp [h2])]; simp
/-- In order, each once, and each the number of a variable. -/
def Few (l : List Int) : Prop := l.Pairwise (· < ·) ∧ ∀ x ∈ l, 0 ≤ x ∧ x < 4
theorem putS_mem : ∀ l n x, x ∈ putS l n → x ∈ l ∨ x = n
  | [], n, x, h => by simp only [putS, List.mem_singleton] at h; exact .inr h
  | y :: l, n, x, h => by
    unfold putS at h
    split at h
    · rcases List.mem_cons.1 h with h | h
      · exact .inl (by simp [h])
      · rcases putS_mem l n x h with h | h
        · exact .inl (by simp [h])
        · exact .inr h
    · split at h
      · exact .inl h
      · rcases List.mem_cons.1 h with h | h
        · exact .inr h
        · exact .inl h
theorem putS_sorted : ∀ l n, l.Pairwise (· < ·) → (putS l n).Pairwise (· < ·)
  | [], n, _ => by simp [putS]
  | y :: l, n, h => by
    obtain ⟨h1, h2⟩ := List.pairwise_cons.1 h
    unfold putS
    split
    · next hy =>
      refine List.pairwise_cons.2 ⟨fun x hx => ?_, putS_sorted l n h2⟩
      rcases putS_mem l n x hx with h0 | h0
      · exact h1 x h0
      · rw [h0]; exact hy
    · next hy =>
      split
      · exact h
      · next hne =>
        refine List.pairwise_cons.2 ⟨fun x hx => ?_, h⟩
        rcases List.mem_cons.1 hx with h0 | h0
        · omega
        · have := h1 x h0; omega
theorem Few.put {l : List Int} (h : Few l) {n : Int} (h0 : 0 ≤ n) (h4 : n < 4) : Few (putL l n) := by
  rw [putL_eq]
  refine ⟨putS_sorted l n h.1, fun x hx => ?_⟩
  rcases putS_mem l n x hx with h1 | h1
  · exact h.2 x h1
  · omega
theorem few_len : ∀ (l : List Int) (lo : Int), l.Pairwise (· < ·) → (∀ x ∈ l, lo ≤ x ∧ x < 4) → lo ≤ 4 → (l.length : Int) ≤ 4 - lo
  | [], lo, _, _, h => by simp; omega
  | x :: l, lo, h, hx, hlo => by
    obtain ⟨h1, h2⟩ := List.pairwise_cons.1 h
    have b := hx x (by simp)
    have := few_len l (x + 1) h2 (fun y hy => ⟨by have := h1 y hy; omega, (hx y (by simp [hy])).2⟩) (by omega)
    simp only [List.length_cons]
    omega
theorem Few.len {l : List Int} (h : Few l) : l.length ≤ 4 := by
  have := few_len l 0 h.1 h.2 (by omega)
  omega
theorem Few.fold {vs : List Int} (hv : Few vs) : ∀ (us : List Int), (∀ x ∈ us, x ∈ vs) → ∀ {o : List Int}, Few o → Few (us.foldl putL o)
  | [], _, _, ho => ho
  | u :: us, hs, o, ho => by
    have := hv.2 u (hs u (by simp))
    exact Few.fold hv us (fun x hx => hs x (by simp [hx])) (ho.put this.1 this.2)

/-- All of some parts, one behind the other. -/
def foldP (g : Nat → List Int) : List Nat → List Int → List Int
  | [], o => o
  | r :: rs, o => foldP g rs ((g r).foldl putL o)
/-- Which variables are surely reckoned in the tree of a node (with so much fuel). -/
def sureF (l : List (Int × Int)) : Nat → Nat → List Int
  | 0, _ => []
  | f + 1, k => if (l.getD k (0, 0)).1 = 2 then [(l.getD k (0, 0)).2]
    else foldP (sureF l f) ((roots l (ar (l.getD k (0, 0)).1).toNat k).take (if (l.getD k (0, 0)).1 = 11 then 1 else (ar (l.getD k (0, 0)).1).toNat)) []
theorem few_foldP (g : Nat → List Int) : ∀ (rs : List Nat), (∀ r ∈ rs, Few (g r)) → ∀ o, Few o → Few (foldP g rs o)
  | [], _, o, h => h
  | r :: rs, hr, o, h => few_foldP g rs (fun x hx => hr x (by simp [hx])) _ ((hr r (by simp)).fold _ (fun x hx => hx) h)
theorem few_sure {l : List (Int × Int)} {q : Int} (h : pile l 0 = some q) : ∀ f k, k < l.length → Few (sureF l f k)
  | 0, _, _ => ⟨List.Pairwise.nil, fun x hx => by cases hx⟩
  | f + 1, k, hk => by
    obtain ⟨h1, _⟩ := cnt_step h k hk
    obtain ⟨a1, a2, a3, _⟩ := fits_iff _ _ _ _ h1
    unfold sureF
    split
    · next h2 =>
      have := a3 h2
      exact ⟨by simp, fun x hx => by rw [List.mem_singleton.1 hx]; exact this⟩
    · refine few_foldP _ _ (fun r hr => few_sure h f r ?_) _ ⟨List.Pairwise.nil, fun x hx => by cases hx⟩
      have := roots_lt h _ k (by omega) (by omega) r (List.mem_of_mem_take hr)
      omega

def SureAt (l : List (Int × Int)) (t : Option Addr) (len cap f k : Nat) : Prop :=
  ∀ W, NSl W t len l → Calls Tryd.prog 47 #[.slice t len cap, .int .i64 k] W fun e w' => ∃ v : Value, e = .returned v ∧ w'.ownsRow W.heap.size 3 1 v (sureF l f k).length (vals (sureF l f k)) ∧ Below W.heap.size W w'
theorem lit_val (w : World) (x : Int) : (w.alloc (.cells #[.int .i64 x] 3)).ownsRow w.heap.size 3 1 (.slice (some ⟨w.heap.size, 0, none⟩) 1 1) 1 (vals [x]) :=
  World.ownsRow_lit w #[.int .i64 x] 1 (Nat.le_refl _) (by unfold maxLen; omega) rfl

theorem sure_leaf {l : List (Int × Int)} (t : Option Addr) (len cap f k : Nat) (hk : k < len) (hop : (l.getD k (0, 0)).1 = 2) : SureAt l t len cap (f + 1) k := by
  intro w hs
  have hlen := hs.1
  obtain ⟨b, off, rfl, hbl, hc⟩ := hs.at (by omega)
  have c1 := (hc k hk).1
  have c2 := (hc k hk).2
  have hv : sureF l (f + 1) k = [(l.getD k (0, 0)).2] := by unfold sureF; rw [if_pos hop]
  rw [hv]
  rw [hop] at c1
  clear hc hv hop
  generalize (l.getD k (0, 0)).2 = y at c2 ⊢
  go_enter Tryd.func47, Tryd.ntmps47
  go_wp2
  go_ret
  exact ⟨_, rfl, lit_val w y, (Below.refl _ _).alloc (Nat.le_refl _) _⟩

set_option maxHeartbeats 3200000 in
theorem sure_do {l : List (Int × Int)} {q : Int} (h : pile l 0 = some q) (t : Option Addr) (len cap f k : Nat) (hl : len ≤ 1048576) (hk : k < len) (hop : (l.getD k (0, 0)).1 ≠ 2) (hop' : (l.getD k (0, 0)).1 ≠ 1)
    (IH : ∀ r, r < k → SureAt l t len cap f r) : SureAt l t len cap (f + 1) k := by
  intro w hs
  have hlen := hs.1
  obtain ⟨h1, h2⟩ := cnt_step h k (by omega)
  obtain ⟨_, a2, _, _⟩ := fits_iff _ _ _ _ h1
  have har := ar_range (l.getD k (0, 0)).1
  obtain ⟨m, hm⟩ : ∃ m : Nat, ar (l.getD k (0, 0)).1 = m := ⟨(ar (l.getD k (0, 0)).1).toNat, by omega⟩
  have hm3 : m ≤ 3 := by omega
  have hrl := roots_lt h m k (by omega) (by rw [← hm]; exact a2)
  have hRl : (roots l m k).length = m := roots_len _ _ _
  have HP : Hid (∀ W, NSl W t len l → Calls Tryd.prog 70 #[.slice t len cap, .int .i64 k] W fun e w' => ∃ v : Value, e = .returned v ∧ w'.ownsRow W.heap.size 3 1 v m (ints (roots l m k)) ∧ Below W.heap.size W w') := by
    intro W hW
    have := parts_any h t len cap W hW hl k hk
    rw [hm, Int.toNat_natCast] at this
    exact this
  have hm0 : 0 < m := by
    have : 1 ≤ ar (l.getD k (0, 0)).1 := by
      have e0 := fun h0 => ar_out (l.getD k (0, 0)).1 h0
      generalize (l.getD k (0, 0)).1 = x at *
      rcases ops x with h0 | rfl | rfl | rfl | rfl | rfl | rfl | rfl | rfl | rfl | rfl | rfl <;> first | (exfalso; have := e0 h0; omega) | (exfalso; omega) | decide
    omega
  have hm11 : (l.getD k (0, 0)).1 = 11 → m = 3 := fun h0 => by rw [h0] at hm; have : ar 11 = 3 := rfl; omega
  have hv : sureF l (f + 1) k = foldP (sureF l f) ((roots l m k).take (if (l.getD k (0, 0)).1 = 11 then 1 else m)) [] := by
    rw [sureF, if_neg hop, hm, Int.toNat_natCast]
  obtain ⟨C, hC⟩ : ∃ C, (if (l.getD k (0, 0)).1 = 11 then 1 else m) = C := ⟨_, rfl⟩
  rw [hC] at hv
  rw [hv]
  clear hv
  have hCm : C ≤ m := by rw [← hC]; split <;> omega
  obtain ⟨R, hR⟩ : ∃ R, roots l m k = R := ⟨_, rfl⟩
  rw [hR] at hrl hRl HP ⊢
  have SA : Hid (∀ r, r < k → ∀ W, NSl W t len l → Calls Tryd.prog 47 #[.slice t len cap, .int .i64 r] W fun e w' => ∃ v : Value, e = .returned v ∧ w'.ownsRow W.heap.size 3 1 v (sureF l f r).length (vals (sureF l f r)) ∧ Below W.heap.size W w') := IH
  have SF : Hid (∀ r, r < k → Few (sureF l f r)) := fun r hr => few_sure h f r (by omega)
  have HRK : Hid (∀ i, i < m → R.getD i 0 < k) := fun i hi => getD_lt R k i hrl (by omega)
  generalize sureF l f = gg at SA SF ⊢
  have HNext : Hid (∀ n o, n < C → foldP gg ((R.take C).drop n) o = foldP gg ((R.take C).drop (n + 1)) ((gg (R.getD n 0)).foldl putL o)) := fun n o hn => by
    have hlt : n < (R.take C).length := by rw [List.length_take]; omega
    rw [List.drop_eq_getElem_cons hlt]
    have : (R.take C)[n] = R.getD n 0 := by
      rw [List.getElem_take, List.getD_eq_getElem?_getD, List.getElem?_eq_getElem (by omega)]; rfl
    rw [this]; rfl
  have HEnd : Hid (∀ o, foldP gg ((R.take C).drop C) o = o) := fun o => by
    rw [List.drop_of_length_le (by rw [List.length_take]; omega)]; rfl
  obtain ⟨O, hO⟩ : ∃ O, foldP gg (R.take C) [] = O := ⟨_, rfl⟩
  rw [hO]
  have HO : Hid (foldP gg ((R.take C).drop 0) [] = O) := by rw [List.drop_zero]; exact hO
  obtain ⟨b, off, rfl, hbl, hc⟩ := hs.at (by omega)
  have c1 := (hc k hk).1
  have hop1 : ((l.getD k (0, 0)).1 == 2) = false := by simpa using hop
  have hC11 : (l.getD k (0, 0)).1 = 11 → C = 1 := fun h0 => by rw [if_pos h0] at hC; omega
  have hCn : (l.getD k (0, 0)).1 ≠ 11 → C = m := fun h0 => by rw [if_neg h0] at hC; omega
  have HS : Hid (NSl w (some ⟨b, off, none⟩) len l) := hs
  clear hc hC hO h1 h2 a2 har hm hop hop' IH hs hrl
  generalize (l.getD k (0, 0)).1 = x at *
  have hfew0 : Few [] := ⟨List.Pairwise.nil, fun x hx => by cases hx⟩
  go_enter Tryd.func47, Tryd.ntmps47
  go_wp2_with fail
  refine (HP.out _ HS.out).mono ?_
  rintro e w2 ⟨v2, rfl, hown, hb2⟩
  obtain ⟨g, cp, rfl, hg, hcell⟩ := own_row hown hm0
  have HC : Hid (∀ i, i < m → w2.cell? ⟨g, i, none⟩ = some (.int .i64 (R.getD i 0 : Nat))) := hcell
  have c1' := (hb2.cell (p := ⟨b, off + k * 2, none⟩) hbl).trans c1
  have hbl2 : b < w2.heap.size := Nat.lt_of_lt_of_le hbl hb2.size
  clear hown hcell HP c1
  go_wp2_with fail
  go_loopw [5, 26] (fun y i wr => ∃ (n : Nat) (o : List Int), n ≤ C ∧ i = .int .i64 n ∧ Few o ∧ wr.ownsRow w.heap.size 3 1 y o.length (vals o) ∧ Hid (foldP gg ((R.take C).drop n) o = O) ∧ Below w2.heap.size w2 wr) (fun _ i _ => m - (intOf i).toNat)
  case atStart => exact ⟨0, [], Nat.zero_le _, rfl, hfew0, World.ownsRow_nil _ _ _ _, HO, Below.refl _ _⟩
  case round =>
    obtain ⟨n, o, hn, rfl, hfew, hrow, hO, hbr⟩ := hrel
    have hBw := hb2.trans (hbr.mono hb2.size)
    have ck := (hbr.cell (p := ⟨b, off + k * 2, none⟩) hbl2).trans c1'
    by_cases hlt : n < C
    · have hnm : n < m := by omega
      have cg : wr.cell? ⟨g, n, none⟩ = some (.int .i64 (R.getD n 0 : Nat)) := (hbr.cell (p := ⟨g, n, none⟩) hg).trans (HC.out n hnm)
      have hrk := HRK.out n hnm
      have hnx := HNext.out n o hlt
      rw [hO.out] at hnx
      have G0 := SA.out (R.getD n 0) hrk
      have F0 := SF.out (R.getD n 0) hrk
      generalize R.getD n 0 = r at cg hnx G0 F0
      generalize gg r = vs at hnx G0 F0
      obtain ⟨O', hO'⟩ : ∃ O', vs.foldl putL o = O' := ⟨_, rfl⟩
      rw [hO'] at hnx
      have HO' : Hid ((vs.drop 0).foldl putL o = O') := by rw [List.drop_zero]; exact hO'
      have HNX := (show Hid _ from hnx.symm)
      have G := (show Hid _ from G0)
      have HFew : Hid (Few vs) := F0
      have hv4 := F0.len
      clear hnx G0 F0 hO' hrk hO
      by_cases hx : x = 11
      · have hnn : ¬ (0 : Int) < n := by have := hC11 hx; omega
        have hx' : (x == 11) = true := by simpa using hx
        clear hx
        go_wp2_with fail
        refine (G.out _ (HS.out.keep hBw)).mono ?_
        rintro e w3 ⟨v3, rfl, hown3, hb3⟩
        have hrow3 := hrow.kept (grown_of hb3) (by cases hv : u5.ownBlock <;> simp)
        have hBw3 := hBw.trans (hb3.mono hBw.size)
        have hbr3 := hbr.trans (hb3.mono hbr.size)
        obtain ⟨a3, cp3, rfl, hsl3⟩ := Sl.vals hown3
        have hb3s := hbr3.size
        clear hown3 hrow hb3 G hBw hbr
        go_wp2_with fail
        go_loopw [5, 45] (fun y j wr3 => ∃ (jn : Nat) (o' : List Int), jn ≤ vs.length ∧ j = .int .i64 jn ∧ Few o' ∧ wr3.ownsRow w.heap.size 3 1 y o'.length (vals o') ∧ Hid ((vs.drop jn).foldl putL o' = O') ∧ Below w3.heap.size w3 wr3) (fun _ j _ => vs.length - (intOf j).toNat)
        case atStart => exact ⟨0, o, Nat.zero_le _, rfl, hfew, hrow3, HO', Below.refl _ _⟩
        case round =>
          obtain ⟨jn, o', hjn, rfl, hfew', hrow', hO', hb'⟩ := hrel
          by_cases hj : jn < vs.length
          · obtain ⟨b3, off3, rfl, hc3⟩ := cells_of hsl3 (by omega)
            have hb3l : b3 < w3.heap.size := World.block_lt_of_cell? w3 _ (hc3 jn hj)
            have cc := (hb'.cell (p := ⟨b3, off3 + jn, none⟩) hb3l).trans (hc3 jn hj)
            have hz := (show Few vs from HFew.out).2 (vs.getD jn 0) (by rw [List.getD_eq_getElem?_getD, List.getElem?_eq_getElem hj]; exact List.getElem_mem hj)
            have hstep : Hid ((vs.drop (jn + 1)).foldl putL (putL o' (vs.getD jn 0)) = O') := by
              have := hO'.out
              rw [List.drop_eq_getElem_cons hj, List.foldl_cons] at this
              rw [List.getD_eq_getElem?_getD, List.getElem?_eq_getElem hj]
              exact this
            generalize vs.getD jn 0 = z at cc hz hstep
            have hfew2 := hfew'.put hz.1 hz.2
            have h4 := hfew'.len
            have HP2 := (show Hid _ from put_any w.heap.size u5 o'.length o' z _ hrow' (by have := hb'.size; have := hBw3.size; omega) (by omega))
            generalize putL o' z = o2 at HP2 hstep hfew2
            clear hc3 hO' hrow' hfew'
            go_wp2_with fail
            refine Calls.mono HP2.out ?_
            rintro e w4 ⟨v4, rfl, hown4, hb4⟩
            have hb5 := hb'.trans (hb4.mono hb'.size)
            clear hb4 hb' HP2 cc
            go_wp2
            go_roundw
            case rel => exact ⟨jn + 1, o2, by omega, by go_num, hfew2, hown4, hstep, hb5⟩
            case measure => simp [intOf]; omega
          · obtain rfl : jn = vs.length := by omega
            have e' : o' = O' := by
              have := hO'.out
              rwa [List.drop_of_length_le (by omega)] at this
            subst e'
            have hBw4 := hBw3.trans (hb'.mono hBw3.size)
            have hbr4 := hbr3.trans (hb'.mono hbr3.size)
            clear hO' HO' hb'
            go_wp2
            go_roundw
            case rel => exact ⟨n + 1, _, by omega, by go_num, hfew', hrow', HNX, hbr4⟩
            case measure => simp [intOf]; omega
      · have hx' : (x == 11) = false := by simpa using hx
        go_wp2_with fail
        refine (G.out _ (HS.out.keep hBw)).mono ?_
        rintro e w3 ⟨v3, rfl, hown3, hb3⟩
        have hrow3 := hrow.kept (grown_of hb3) (by cases hv : u5.ownBlock <;> simp)
        have hBw3 := hBw.trans (hb3.mono hBw.size)
        have hbr3 := hbr.trans (hb3.mono hbr.size)
        obtain ⟨a3, cp3, rfl, hsl3⟩ := Sl.vals hown3
        have hb3s := hbr3.size
        clear hown3 hrow hb3 G hBw hbr
        go_wp2_with fail
        go_loopw [5, 45] (fun y j wr3 => ∃ (jn : Nat) (o' : List Int), jn ≤ vs.length ∧ j = .int .i64 jn ∧ Few o' ∧ wr3.ownsRow w.heap.size 3 1 y o'.length (vals o') ∧ Hid ((vs.drop jn).foldl putL o' = O') ∧ Below w3.heap.size w3 wr3) (fun _ j _ => vs.length - (intOf j).toNat)
        case atStart => exact ⟨0, o, Nat.zero_le _, rfl, hfew, hrow3, HO', Below.refl _ _⟩
        case round =>
          obtain ⟨jn, o', hjn, rfl, hfew', hrow', hO', hb'⟩ := hrel
          by_cases hj : jn < vs.length
          · obtain ⟨b3, off3, rfl, hc3⟩ := cells_of hsl3 (by omega)
            have hb3l : b3 < w3.heap.size := World.block_lt_of_cell? w3 _ (hc3 jn hj)
            have cc := (hb'.cell (p := ⟨b3, off3 + jn, none⟩) hb3l).trans (hc3 jn hj)
            have hz := (show Few vs from HFew.out).2 (vs.getD jn 0) (by rw [List.getD_eq_getElem?_getD, List.getElem?_eq_getElem hj]; exact List.getElem_mem hj)
            have hstep : Hid ((vs.drop (jn + 1)).foldl putL (putL o' (vs.getD jn 0)) = O') := by
              have := hO'.out
              rw [List.drop_eq_getElem_cons hj, List.foldl_cons] at this
              rw [List.getD_eq_getElem?_getD, List.getElem?_eq_getElem hj]
              exact this
            generalize vs.getD jn 0 = z at cc hz hstep
            have hfew2 := hfew'.put hz.1 hz.2
            have h4 := hfew'.len
            have HP2 := (show Hid _ from put_any w.heap.size u5 o'.length o' z _ hrow' (by have := hb'.size; have := hBw3.size; omega) (by omega))
            generalize putL o' z = o2 at HP2 hstep hfew2
            clear hc3 hO' hrow' hfew'
            go_wp2_with fail
            refine Calls.mono HP2.out ?_
            rintro e w4 ⟨v4, rfl, hown4, hb4⟩
            have hb5 := hb'.trans (hb4.mono hb'.size)
            clear hb4 hb' HP2 cc
            go_wp2
            go_roundw
            case rel => exact ⟨jn + 1, o2, by omega, by go_num, hfew2, hown4, hstep, hb5⟩
            case measure => simp [intOf]; omega
          · obtain rfl : jn = vs.length := by omega
            have e' : o' = O' := by
              have := hO'.out
              rwa [List.drop_of_length_le (by omega)] at this
            subst e'
            have hBw4 := hBw3.trans (hb'.mono hBw3.size)
            have hbr4 := hbr3.trans (hb'.mono hbr3.size)
            clear hO' HO' hb'
            go_wp2
            go_roundw
            case rel => exact ⟨n + 1, _, by omega, by go_num, hfew', hrow', HNX, hbr4⟩
            case measure => simp [intOf]; omega
    · obtain rfl : n = C := by omega
      have e : o = O := by
        have := hO.out
        rwa [HEnd.out] at this
      subst e
      by_cases hx : x = 11
      · subst hx
        obtain rfl : n = 1 := hC11 rfl
        obtain rfl : m = 3 := hm11 rfl
        have cg : wr.cell? ⟨g, 1, none⟩ = some (.int .i64 (R.getD 1 0 : Nat)) := (hbr.cell (p := ⟨g, 1, none⟩) hg).trans (HC.out 1 (by omega))
        generalize R.getD 1 0 = r at cg
        go_wp2
        go_ret
        exact ⟨_, rfl, hrow, hBw⟩
      · obtain rfl : n = m := hCn hx
        go_wp2
        go_ret
        exact ⟨_, rfl, hrow, hBw⟩

theorem sure_num {l : List (Int × Int)} {q : Int} (h : pile l 0 = some q) (t : Option Addr) (len cap f k : Nat) (hl : len ≤ 1048576) (hk : k < len) (hop : (l.getD k (0, 0)).1 = 1) : SureAt l t len cap (f + 1) k := by
  intro w hs
  have hlen := hs.1
  have ha : ar (l.getD k (0, 0)).1 = 0 := by rw [hop]; rfl
  have hv : sureF l (f + 1) k = [] := by
    rw [sureF, if_neg (by rw [hop]; decide), ha, hop]; rfl
  rw [hv]
  have HP : Hid (Calls Tryd.prog 70 #[.slice t len cap, .int .i64 k] w fun e w' => ∃ v : Value, e = .returned v ∧ w'.ownsRow w.heap.size 3 1 v 0 [] ∧ Below w.heap.size w w') := by
    have := parts_any h t len cap w hs hl k hk
    rw [ha] at this
    exact this
  obtain ⟨b, off, rfl, hbl, hc⟩ := hs.at (by omega)
  have c1 := (hc k hk).1
  rw [hop] at c1
  clear hc hv ha hop
  go_enter Tryd.func47, Tryd.ntmps47
  go_wp2_with fail
  refine Calls.mono HP.out ?_
  rintro e w2 ⟨v2, rfl, hown, hb2⟩
  obtain ⟨a2, cp2, rfl, hsl2⟩ := Sl.vals (ys := []) hown
  clear hown hsl2
  go_wp2_with fail
  go_loopw [5, 26] (fun y i wr => y = .slice none 0 0 ∧ i = .int .i64 0 ∧ wr = w2) (fun _ _ _ => 0)
  case atStart => exact ⟨rfl, rfl, rfl⟩
  case round =>
    obtain ⟨rfl, rfl, rfl⟩ := hrel
    go_wp2
    go_ret
    exact ⟨_, rfl, World.ownsRow_nil _ _ _ _, hb2⟩

theorem sure_any {l : List (Int × Int)} {q : Int} (h : pile l 0 = some q) (t : Option Addr) (len cap : Nat) (hl : len ≤ 1048576) (hll : l.length = len) : ∀ (f k : Nat), k < f → k < len → SureAt l t len cap f k
  | 0, _, hf, _ => absurd hf (Nat.not_lt_zero _)
  | f + 1, k, hf, hk => by
    have IH : ∀ r, r < k → SureAt l t len cap f r := fun r hr => sure_any h t len cap hl hll f r (by omega) (by omega)
    by_cases o1 : (l.getD k (0, 0)).1 = 2
    · exact sure_leaf t len cap f k hk o1
    · by_cases o2 : (l.getD k (0, 0)).1 = 1
      · exact sure_num h t len cap f k hl hk o2
      · exact sure_do h t len cap f k hl hk o1 o2 IH

def sureL (l : List (Int × Int)) : List Int := if goodB l = true then sureF l l.length (l.length - 1) else []
theorem specSure_any (a : Option Addr) (len cap : Nat) (l : List (Int × Int)) (w : World) (h : NSl w a len l) (hm : len ≤ 9223372036854775807) :
    Calls Tryd.prog 12 #[.slice a len cap] w fun e w' => ∃ v : Value, e = .returned (.tuple #[v, .bool (goodB l)]) ∧ w'.ownsRow w.heap.size 3 1 v (sureL l).length (vals (sureL l)) ∧ Below w.heap.size w w' := by
  have HG := specGood_any _ len cap l w h hm
  have hll := h.1
  by_cases hg : goodB l = true
  · obtain ⟨hp, g1, g2⟩ := good_pile hg
    rw [show sureL l = sureF l len (len - 1) from by unfold sureL; rw [if_pos hg, hll], hg]
    rw [hg] at HG
    have HG' := (show Hid _ from HG)
    have HV : Hid (∀ W, NSl W a len l → Calls Tryd.prog 47 #[.slice a len cap, .int .i64 ((len : Int) - 1)] W fun e w' => ∃ v : Value, e = .returned v ∧ w'.ownsRow W.heap.size 3 1 v (sureF l len (len - 1)).length (vals (sureF l len (len - 1))) ∧ Below W.heap.size W w') := fun W hW => by
      have := sure_any hp a len cap (by omega) hll len (len - 1) (by omega) (by omega) W hW
      rw [show ((len - 1 : Nat) : Int) = (len : Int) - 1 from by omega] at this
      exact this
    generalize sureF l len (len - 1) = O at HV ⊢
    have i1 : (1 : Int) ≤ len := by omega
    have i2 : (len : Int) ≤ 40 := by omega
    clear HG hg hp
    go_enter Tryd.func12, Tryd.ntmps12
    go_wp2_with fail
    refine Calls.mono HG'.out ?_
    rintro e w1 ⟨rfl, hb1⟩
    go_wp2_with fail
    refine (HV.out _ (h.keep hb1)).mono ?_
    rintro e w2 ⟨v, rfl, hown, hb2⟩
    have hB := hb1.trans (hb2.mono hb1.size)
    have hown' := own_base hown hb1.size
    clear hown hb2
    go_wp2
    go_ret2
    exact ⟨_, rfl, hown', hB⟩
  · have hg' : goodB l = false := by simpa using hg
    rw [show sureL l = [] from by unfold sureL; rw [if_neg hg], hg']
    rw [hg'] at HG
    have HG' := (show Hid _ from HG)
    clear HG hg hg'
    go_enter Tryd.func12, Tryd.ntmps12
    go_wp2_with fail
    refine Calls.mono HG'.out ?_
    rintro e w1 ⟨rfl, hb1⟩
    go_wp2
    go_ret2
    exact ⟨_, rfl, World.ownsRow_nil _ _ _ _, hb1⟩
end Go.Proofs.YtlpefaaohcgboaaDoor
