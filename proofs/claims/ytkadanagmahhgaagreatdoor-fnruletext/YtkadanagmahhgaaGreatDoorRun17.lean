/-
  PROVED HERE: what the model's and the program's ReadRule answer, at every text of at most a million bytes. The tables are laid, and the library's bound on short searches holds some number. No other condition. what the laws' marking of an answer that is a list of nodes leaves, at every row of at most a million. No other condition. what the laws' marking of a rule that owns its memory leaves, and that the marks are held. No other condition. rows of rules, each made of a text; the axioms' texts. The tables are laid, and the library's bound on short searches holds some number. No other condition.
-/
import Derived.Test.YtkadanagmahhgaaGreatDoorRun16
import Derived.Test.YtkadanagmahhgaaGreatDoorRun8
import Derived.Test.YtkadanagmahhgaaGreatDoorRun3
import Derived.Maps.AppendAt
namespace Go.Proofs.YtkadanagmahhgaaGreatDoor
open Go.ChangeShapes Go.WideShapes Go.ChangeAt Go.RowKit
set_option linter.unusedVariables false

/-- Two lists of nodes in memory of their own, from lo on, in two blocks. -/
def TwoR (w : World) (lo : Nat) (v u : Value) (p q : List (Int × Int)) : Prop := w.ownsRow lo 66 2 v p.length (flat p) ∧ w.ownsRow lo 66 2 u q.length (flat q) ∧ ∀ x, v.ownBlock = some x → u.ownBlock ≠ some x
theorem TwoR.nil (w : World) (lo : Nat) : TwoR w lo (.slice none 0 0) (.slice none 0 0) [] [] := ⟨World.ownsRow_nil _ _ _ _, World.ownsRow_nil _ _ _ _, fun x h => by cases h⟩
theorem TwoR.keep {w w' : World} {lo : Nat} {v u : Value} {p q : List (Int × Int)} (h : TwoR w lo v u p q) (hb : Below w.heap.size w w') : TwoR w' lo v u p q := ⟨own_keep h.1 hb, own_keep h.2.1 hb, h.2.2⟩
theorem TwoR.low {w : World} {lo lo' : Nat} {v u : Value} {p q : List (Int × Int)} (h : TwoR w lo v u p q) (hb : lo' ≤ lo) : TwoR w lo' v u p q := ⟨own_base h.1 hb, own_base h.2.1 hb, h.2.2⟩
theorem grown_same (w : World) (b : Nat) : w.grownBy w (some b) := by
  have h := grown_of (Below.refl w.heap.size w)
  exact ⟨h.os, h.tape, h.output, h.size, fun k hk _ => rfl⟩
theorem TwoR.box {w : World} {lo b : Nat} {v u : Value} {p q : List (Int × Int)} (h : TwoR w lo v u p q) (hb : b < lo) (v0 v1 : Value) : TwoR ((w.setCell ⟨b, 0, none⟩ v0).setCell ⟨b, 1, none⟩ v1) lo v u p q := by
  have hg : w.grownBy ((w.setCell ⟨b, 0, none⟩ v0).setCell ⟨b, 1, none⟩ v1) (some b) := grown_set (grown_set (grown_same w b) 0 v0) 1 v1
  exact ⟨own_grown h.1 hg (fun x hx e => by have := own_ge h.1 x hx; injection e with e; omega), own_grown h.2.1 hg (fun x hx e => by have := own_ge h.2.1 x hx; injection e with e; omega), h.2.2⟩
/-- What reading a rule comes to. -/
def ReadR (w w' : World) (b : List UInt8) (e : Ending) : Prop := ∃ (v u : Value), e = .returned (.tuple #[.agg #[v, u], .int .i64 (ruleAt b : Nat), .bool (ruleOk b)]) ∧ TwoR w' w.heap.size v u (ruleL b) (ruleR b) ∧ Below w.heap.size w w'
theorem readAt_le (b : List UInt8) : readAt b ≤ b.length := by
  by_cases h : 1200 < b.length
  · rw [(read_big h).2.1]; exact Nat.zero_le _
  · by_cases hf : (rdR b).1 = true ∧ (rdR b).2.1 = b.length
    · by_cases hm : 40 < (rdR b).2.2.length
      · rw [(read_many (by omega) hf hm).2.1]; exact Nat.zero_le _
      · rw [(read_good (by omega) hf (by omega)).2.1]; exact Nat.le_refl _
    · rw [(read_fail (by omega) hf).2.1]; exact (rdR_ok b).2.1
theorem sideAt_le (b : List UInt8) : sideAt b ≤ b.length := by
  unfold sideAt
  split
  · exact Nat.zero_le _
  · exact readAt_le b
theorem drop_bytes (s : ByteArray) (i : Nat) (h : i ≤ s.size) : (s.extract i s.size).data.toList = s.data.toList.drop i := by
  rw [Lib.extract_eq]
  exact List.take_of_length_le (by rw [List.length_drop]; exact Nat.le_refl _)
theorem take_bytes (s : ByteArray) (i : Nat) : (s.extract 0 i).data.toList = s.data.toList.take i := by rw [Lib.extract_eq]; simp
set_option maxHeartbeats 3200000 in
set_option maxRecDepth 20000 in
theorem specReadRule_any (s : ByteArray) (w : World) (hs : s.size ≤ 1048576) :
    Calls Tryz.prog 12 #[.string s] w fun e w' => ReadR w w' s.data.toList e := by
  obtain ⟨W1, hW1⟩ : ∃ W1, w.alloc (.cells #[.slice none 0 0, .slice none 0 0] 26) = W1 := ⟨_, rfl⟩
  have hb1 : Below w.heap.size w W1 := by rw [← hW1]; exact (Below.refl _ _).alloc (Nat.le_refl _) _
  have hs1 : W1.heap.size = w.heap.size + 1 := by rw [← hW1]; simp
  have r0 : W1.cell? ⟨w.heap.size, 0, none⟩ = some (.slice none 0 0) := by rw [← hW1]; simp [go_sem]
  have r1 : W1.cell? ⟨w.heap.size, 1, none⟩ = some (.slice none 0 0) := by rw [← hW1]; simp [go_sem]
  have f0 : W1.frozen? ⟨w.heap.size, 0, none⟩ = false := by rw [← hW1]; simp [go_sem]
  have f1 : W1.frozen? ⟨w.heap.size, 1, none⟩ = false := by rw [← hW1]; simp [go_sem]
  have hsl : s.data.toList.length = s.size := rfl
  have HC : Hid (∀ W, Below W1.heap.size W1 W → (W.cell? ⟨w.heap.size, 0, none⟩ = some (.slice none 0 0) ∧ W.cell? ⟨w.heap.size, 1, none⟩ = some (.slice none 0 0) ∧ W.frozen? ⟨w.heap.size, 0, none⟩ = false ∧ W.frozen? ⟨w.heap.size, 1, none⟩ = false) ∧ ∀ v0 v1, Below w.heap.size w ((W.setCell ⟨w.heap.size, 0, none⟩ v0).setCell ⟨w.heap.size, 1, none⟩ v1)) := fun W hW => by
    have hX := hb1.trans (hW.mono hb1.size)
    exact ⟨⟨(hW.cell (p := ⟨w.heap.size, 0, none⟩) (by show w.heap.size < _; omega)).trans r0, (hW.cell (p := ⟨w.heap.size, 1, none⟩) (by show w.heap.size < _; omega)).trans r1, (hW.frozen (p := ⟨w.heap.size, 0, none⟩) (by show w.heap.size < _; omega)).trans f0, (hW.frozen (p := ⟨w.heap.size, 1, none⟩) (by show w.heap.size < _; omega)).trans f1⟩, fun v0 v1 => (hX.setCell (by show w.heap.size ≤ w.heap.size; omega) _).setCell (by show w.heap.size ≤ w.heap.size; omega) _⟩
  have HZ : Hid (w.heap.size + 1 = W1.heap.size) := hs1.symm
  have HSd : Hid (∀ (t : ByteArray) W, t.size ≤ 1048576 → Below W1.heap.size W1 W → Calls Tryz.prog 30 #[.string t] W fun e w' => SideR W w' t.data.toList e) := fun t W h1 hW => specSide_any t W (by omega)
  clear hb1 hs1 r0 r1 f0 f1
  unfold ReadR
  go_enter Tryz.func12, Tryz.ntmps12
  go_wp2_with fail
  (try rw [hW1])
  clear hW1
  go_loopw [5, 6] (fun y i wr => W1 = wr ∧ ∃ (k : Nat), i = .int .i64 k ∧ k ≤ s.size ∧ ((y = .int .i64 (-1) ∧ Hid (Lib.NoOcc s.data.toList arrow k)) ∨ ∃ c : Nat, y = .int .i64 c ∧ c + 2 ≤ s.size ∧ Hid (Lib.index s.data.toList arrow = c))) (fun _ i _ => s.size + 1 - (intOf i).toNat)
  case atStart => exact ⟨by first | trivial | rfl, 0, rfl, Nat.zero_le _, .inl ⟨rfl, Lib.NoOcc.zero _ _⟩⟩
  case round =>
    obtain ⟨rfl, k, rfl, hk, hcase⟩ := hrel
    rcases hcase with ⟨rfl, hno⟩ | ⟨i, rfl, hc2, hidx⟩
    · by_cases hlt : k + 1 < s.size
      · have hlt' : (k : Int) + 1 < s.size := by omega
        have hx := occ_ext s k (by omega)
        have j0 : (0 : Int) ≤ k := by omega
        have j1 : (k : Int) ≤ k + 2 := by omega
        have j2 : (k : Int) + 2 ≤ s.size := by omega
        have j3 : ((k : Int) + 2).toNat = k + 2 := by omega
        cases ho : Lib.occAt s.data.toList arrow k with
        | false =>
          rw [ho] at hx
          have hno2 : Hid (Lib.NoOcc s.data.toList arrow (k + 1)) := fun j hj => by
            by_cases e : j = k
            · rw [e]; exact ho
            · exact hno.out j (by omega)
          unfold arrow at hx
          clear hno ho
          go_wp2
          go_roundw
          case rel => exact ⟨by first | trivial | rfl, k + 1, by go_num, by omega, .inl ⟨rfl, hno2⟩⟩
          case measure => simp [intOf]; omega
        | true =>
          rw [ho] at hx
          have hidx : Hid (Lib.index s.data.toList arrow = k) := Lib.index_hit hno.out (by rw [hsl]; omega) ho
          unfold arrow at hx
          clear hno ho
          go_wp2
          go_roundw
          case rel => exact ⟨by first | trivial | rfl, k + 1, by go_num, by omega, .inr ⟨k, rfl, by omega, hidx⟩⟩
          case measure => simp [intOf]; omega
      · have hlt' : ¬ (k : Int) + 1 < s.size := by omega
        have hidx : Lib.index s.data.toList arrow = -1 := Lib.index_past (by decide) hno.out (by rw [hsl]; show s.size < k + 2; omega)
        have HE := (show Hid _ from rule_none hidx)
        obtain ⟨⟨y0, y1, y2, y3⟩, hfin⟩ := HC.out W1 (Below.refl _ _)
        have HF := (show Hid _ from hfin)
        clear hno hidx hfin HC
        go_wp2
        refine bodyPost_ret (v := .tuple #[.agg #[.slice none 0 0, .slice none 0 0], .int .i64 (s.size : Nat), .bool false]) ?_ ?_ ?_
        · simp [results, Tryz.results12, go_sem, *]
        · rfl
        · exact ⟨_, _, by rw [HE.out.1, HE.out.2.1] <;> rfl, by rw [HE.out.2.2.1, HE.out.2.2.2]; exact TwoR.nil _ _, HF.out _ _⟩
    · have hi0 : ¬ (i : Int) < 0 := by omega
      have j0 : (0 : Int) ≤ i := by omega
      have j1 : (i : Int) ≤ s.size := by omega
      have j2 : (0 : Int) ≤ (i : Int) + 2 := by omega
      have j3 : (i : Int) + 2 ≤ s.size := by omega
      have j4 : ((i : Int) + 2).toNat = i + 2 := by omega
      have tb : (s.extract 0 i).data.toList = s.data.toList.take i := take_bytes s i
      have db : (s.extract (i + 2) s.size).data.toList = s.data.toList.drop (i + 2) := drop_bytes s (i + 2) hc2
      have HS1 := (show Hid _ from HSd.out (s.extract 0 i) W1 (by simp [ByteArray.size_extract]; omega) (Below.refl _ _))
      have HS2 : Hid (∀ W, Below W1.heap.size W1 W → Calls Tryz.prog 30 #[.string (s.extract (i + 2) s.size)] W fun e w' => SideR W w' (s.data.toList.drop (i + 2)) e) := fun W hW => by
        have := HSd.out (s.extract (i + 2) s.size) W (by simp [ByteArray.size_extract]; omega) hW
        rw [db] at this
        exact this
      rw [tb] at HS1
      unfold SideR at HS1 HS2
      have hA : sideAt (s.data.toList.drop (i + 2)) ≤ 1048576 := by have := sideAt_le (s.data.toList.drop (i + 2)); rw [List.length_drop, hsl] at this; omega
      clear HSd tb db
      by_cases hk2 : (k : Int) + 1 < s.size
      all_goals
        cases ol : sideOk (s.data.toList.take i) with
        | false =>
          have HE := (show Hid _ from rule_left hidx.out ol)
          rw [ol] at HS1
          clear hidx ol HS2
          go_wp2_with fail
          refine Calls.mono HS1.out ?_
          rintro e w3 ⟨v, z, rfl, hz, hown, hb3⟩
          obtain rfl := hz (by first | trivial | rfl)
          obtain ⟨po, co, rfl⟩ := own_shape hown
          obtain ⟨⟨y0, y1, y2, y3⟩, hfin⟩ := HC.out w3 hb3
          have HF := (show Hid _ from hfin)
          clear hfin HC hb3 hown hz HS1
          go_wp2
          refine bodyPost_ret (v := .tuple #[.agg #[.slice none 0 0, .slice none 0 0], .int .i64 ((sideAt (s.data.toList.take i) : Nat)), .bool false]) ?_ ?_ ?_
          · simp [results, Tryz.results12, go_sem, *]
          · rfl
          · exact ⟨_, _, by rw [HE.out.1, HE.out.2.1] <;> rfl, by rw [HE.out.2.2.1, HE.out.2.2.2]; exact TwoR.nil _ _, HF.out _ _⟩
        | true =>
          rw [ol] at HS1
          cases or : sideOk (s.data.toList.drop (i + 2)) with
          | false =>
            have HE := (show Hid _ from rule_right hidx.out ol or)
            rw [or] at HS2
            clear hidx ol or
            go_wp2_with fail
            refine Calls.mono HS1.out ?_
            rintro e w3 ⟨v, z, rfl, -, hown, hb3⟩
            obtain ⟨po, co, rfl⟩ := own_shape hown
            have hB3 := hb3
            have HT2 := (show Hid _ from HS2.out w3 hB3)
            have HB3 := (show Hid _ from hB3)
            have HO3 := (show Hid _ from own_base hown (base' := w.heap.size + 1) (by have := HZ.out; omega))
            clear hown hb3 hB3 HS2 HS1
            go_wp2_with fail
            refine Calls.mono HT2.out ?_
            rintro e w4 ⟨u, z2, rfl, hz2, hown2, hb4⟩
            obtain rfl := hz2 (by first | trivial | rfl)
            obtain ⟨po2, co2, rfl⟩ := own_shape hown2
            obtain ⟨⟨y0, y1, y2, y3⟩, hfin⟩ := HC.out w4 (HB3.out.trans (hb4.mono HB3.out.size))
            have HF := (show Hid _ from hfin)
            clear hfin HC hb4 hown2 hz2 HT2 HO3
            go_wp2
            refine bodyPost_ret (v := .tuple #[.agg #[.slice none 0 0, .slice none 0 0], .int .i64 ((i + 2 + sideAt (s.data.toList.drop (i + 2)) : Nat)), .bool false]) ?_ ?_ ?_
            · simp [results, Tryz.results12, go_sem, *]
            · rfl
            · exact ⟨_, _, by rw [HE.out.1, HE.out.2.1] <;> rfl, by rw [HE.out.2.2.1, HE.out.2.2.2]; exact TwoR.nil _ _, HF.out _ _⟩
          | true =>
            have HE := (show Hid _ from rule_good hidx.out ol or)
            rw [or] at HS2
            clear hidx ol or
            go_wp2_with fail
            refine Calls.mono HS1.out ?_
            rintro e w3 ⟨v, z, rfl, -, hown, hb3⟩
            obtain ⟨po, co, rfl⟩ := own_shape hown
            have hB3 := hb3
            have HT2 := (show Hid _ from HS2.out w3 hB3)
            have HB3 := (show Hid _ from hB3)
            have HO3 := (show Hid _ from own_base hown (base' := w.heap.size + 1) (by have := HZ.out; omega))
            clear hown hb3 hB3 HS2 HS1
            go_wp2_with fail
            refine Calls.mono HT2.out ?_
            rintro e w4 ⟨u, z2, rfl, hz2, hown2, hb4⟩
            obtain ⟨po2, co2, rfl⟩ := own_shape hown2
            obtain ⟨⟨y0, y1, y2, y3⟩, hfin⟩ := HC.out w4 (HB3.out.trans (hb4.mono HB3.out.size))
            have HF := (show Hid _ from hfin)
            have HW : Hid (TwoR w4 (w.heap.size + 1) _ _ _ _) := ⟨own_keep HO3.out hb4, own_base hown2 (base' := w.heap.size + 1) (by have := HZ.out; have := HB3.out.size; omega), fun x hx e => by have := own_in HO3.out x hx; have := own_ge hown2 x e; omega⟩
            clear hfin HC hb4 hown2 hz2 HT2 HO3
            go_wp2
            refine bodyPost_ret (v := .tuple #[.agg #[.slice po (sideL (s.data.toList.take i)).length co, .slice po2 (sideL (s.data.toList.drop (i + 2))).length co2], .int .i64 ((s.size : Nat)), .bool true]) ?_ ?_ ?_
            · simp [results, Tryz.results12, go_sem, *]
            · rfl
            · exact ⟨_, _, by rw [HE.out.1, HE.out.2.1] <;> rfl, by rw [HE.out.2.2.1, HE.out.2.2.2]; exact (HW.out.box (Nat.lt_succ_self _) _ _).low (Nat.le_succ _), HF.out _ _⟩
set_option maxHeartbeats 3200000 in
set_option maxRecDepth 20000 in
theorem implReadRule_any (s : ByteArray) (w : World) (hE : Env w) (hT : Tab w) (hM : MaxL w) (hs : s.size ≤ 1048576) :
    Calls Tryz.prog 9 #[.string s] w fun e w' => ReadR w w' s.data.toList e := by
  obtain ⟨W1, hW1⟩ : ∃ W1, w.alloc (.cells #[.slice none 0 0, .slice none 0 0] 26) = W1 := ⟨_, rfl⟩
  have hb1 : Below w.heap.size w W1 := by rw [← hW1]; exact (Below.refl _ _).alloc (Nat.le_refl _) _
  have hs1 : W1.heap.size = w.heap.size + 1 := by rw [← hW1]; simp
  have r0 : W1.cell? ⟨w.heap.size, 0, none⟩ = some (.slice none 0 0) := by rw [← hW1]; simp [go_sem]
  have r1 : W1.cell? ⟨w.heap.size, 1, none⟩ = some (.slice none 0 0) := by rw [← hW1]; simp [go_sem]
  have f0 : W1.frozen? ⟨w.heap.size, 0, none⟩ = false := by rw [← hW1]; simp [go_sem]
  have f1 : W1.frozen? ⟨w.heap.size, 1, none⟩ = false := by rw [← hW1]; simp [go_sem]
  have hsl : s.data.toList.length = s.size := rfl
  have HC : Hid (∀ W, Below W1.heap.size W1 W → (W.cell? ⟨w.heap.size, 0, none⟩ = some (.slice none 0 0) ∧ W.cell? ⟨w.heap.size, 1, none⟩ = some (.slice none 0 0) ∧ W.frozen? ⟨w.heap.size, 0, none⟩ = false ∧ W.frozen? ⟨w.heap.size, 1, none⟩ = false) ∧ ∀ v0 v1, Below w.heap.size w ((W.setCell ⟨w.heap.size, 0, none⟩ v0).setCell ⟨w.heap.size, 1, none⟩ v1)) := fun W hW => by
    have hX := hb1.trans (hW.mono hb1.size)
    exact ⟨⟨(hW.cell (p := ⟨w.heap.size, 0, none⟩) (by show w.heap.size < _; omega)).trans r0, (hW.cell (p := ⟨w.heap.size, 1, none⟩) (by show w.heap.size < _; omega)).trans r1, (hW.frozen (p := ⟨w.heap.size, 0, none⟩) (by show w.heap.size < _; omega)).trans f0, (hW.frozen (p := ⟨w.heap.size, 1, none⟩) (by show w.heap.size < _; omega)).trans f1⟩, fun v0 v1 => (hX.setCell (by show w.heap.size ≤ w.heap.size; omega) _).setCell (by show w.heap.size ≤ w.heap.size; omega) _⟩
  have HZ : Hid (w.heap.size + 1 = W1.heap.size) := hs1.symm
  have HSd : Hid (∀ (t : ByteArray) W, t.size ≤ 1048576 → Below W1.heap.size W1 W → Calls Tryz.prog 24 #[.string t] W fun e w' => SideR W w' t.data.toList e) := fun t W h1 hW => implSide_any t W ((hE.keep hb1).keep hW) ((hT.keeps hb1).keeps hW) (by omega)
  have HCut := (show Hid _ from cut_any s W1 (hM.keep hb1) (by omega))
  have hix := Lib.index_spec s.data.toList arrow
  have hcutdef : Lib.cut s.data.toList arrow = if 0 ≤ Lib.index s.data.toList arrow then (s.data.toList.take (Lib.index s.data.toList arrow).toNat, s.data.toList.drop ((Lib.index s.data.toList arrow).toNat + 2), true) else (s.data.toList, [], false) := rfl
  rcases hix with ⟨hidx, -⟩ | ⟨i, hidx, hi1, hi2, -⟩
  · rw [hidx, if_neg (by decide)] at hcutdef
    rw [hcutdef] at HCut
    unfold ReadR
    obtain ⟨e1, e2, e3, e4⟩ := rule_none hidx
    rw [e1, e2, e3, e4, hsl]
    clear hcutdef hidx e1 e2 e3 e4 hb1 hs1 r0 r1 f0 f1 hE hT hM HSd
    go_enter Tryz.func9, Tryz.ntmps9
    go_wp2_with fail
    (try rw [hW1])
    refine Calls.mono HCut.out ?_
    rintro e w2 ⟨rfl, hb2⟩
    obtain ⟨⟨y0, y1, y2, y3⟩, hfin⟩ := HC.out w2 hb2
    have HF := (show Hid _ from hfin)
    clear hfin HC HCut hb2 hW1
    go_wp2
    refine bodyPost_ret (v := .tuple #[.agg #[.slice none 0 0, .slice none 0 0], .int .i64 (s.size : Nat), .bool false]) ?_ ?_ ?_
    · simp [results, Tryz.results9, go_sem, *]
    · rfl
    · exact ⟨_, _, rfl, TwoR.nil _ _, HF.out _ _⟩
  · have hroom := Lib.index_room s.data.toList arrow (by omega)
    have hal : arrow.length = 2 := rfl
    rw [hidx, hal, hsl] at hroom
    have hc2 : i + 2 ≤ s.size := by omega
    rw [hidx, if_pos (by omega), Int.toNat_natCast] at hcutdef
    rw [hcutdef] at HCut
    have hidx : Hid (Lib.index s.data.toList arrow = i) := hidx
    have HS1 := (show Hid _ from fun W hW => HSd.out (⟨(s.data.toList.take i).toArray⟩ : ByteArray) W (by show (s.data.toList.take i).toArray.size ≤ _; simp [hsl]; omega) hW)
    have HS2 := (show Hid _ from fun W hW => HSd.out (⟨(s.data.toList.drop (i + 2)).toArray⟩ : ByteArray) W (by show (s.data.toList.drop (i + 2)).toArray.size ≤ _; simp [hsl]; omega) hW)
    have hLs : (s.data.toList.take i).length = i := by rw [List.length_take, hsl]; omega
    simp only at HS1 HS2
    unfold SideR at HS1 HS2
    unfold ReadR
    have hA : sideAt (s.data.toList.drop (i + 2)) ≤ 1048576 := by have := sideAt_le (s.data.toList.drop (i + 2)); rw [List.length_drop, hsl] at this; omega
    clear HSd hcutdef hroom hal hb1 hs1 r0 r1 f0 f1 hE hT hM hi1 hi2
    cases ol : sideOk (s.data.toList.take i) with
    | false =>
      obtain ⟨e1, e2, e3, e4⟩ := rule_left hidx.out ol
      rw [e1, e2, e3, e4]
      rw [ol] at HS1
      clear e1 e2 e3 e4 hidx ol HS2
      go_enter Tryz.func9, Tryz.ntmps9
      go_wp2_with fail
      (try rw [hW1])
      refine Calls.mono HCut.out ?_
      rintro e w2 ⟨rfl, hb2⟩
      have HS3 := (show Hid _ from HS1.out w2 hb2)
      have HB2 := (show Hid _ from hb2)
      clear HCut hW1 hb2 HS1
      go_wp2_with fail
      refine Calls.mono HS3.out ?_
      rintro e w3 ⟨v, z, rfl, hz, hown, hb3⟩
      obtain rfl := hz (by first | trivial | rfl)
      obtain ⟨po, co, rfl⟩ := own_shape hown
      obtain ⟨⟨y0, y1, y2, y3⟩, hfin⟩ := HC.out w3 (HB2.out.trans (hb3.mono HB2.out.size))
      have HF := (show Hid _ from hfin)
      clear hfin HC hb3 hown hz HS3
      go_wp2
      refine bodyPost_ret (v := .tuple #[.agg #[.slice none 0 0, .slice none 0 0], .int .i64 ((sideAt (s.data.toList.take i) : Nat)), .bool false]) ?_ ?_ ?_
      · simp [results, Tryz.results9, go_sem, *]
      · rfl
      · exact ⟨_, _, rfl, TwoR.nil _ _, HF.out _ _⟩
    | true =>
      rw [ol] at HS1
      cases or : sideOk (s.data.toList.drop (i + 2)) with
      | false =>
        obtain ⟨e1, e2, e3, e4⟩ := rule_right hidx.out ol or
        rw [e1, e2, e3, e4]
        rw [or] at HS2
        clear e1 e2 e3 e4 hidx ol or
        go_enter Tryz.func9, Tryz.ntmps9
        go_wp2_with fail
        (try rw [hW1])
        refine Calls.mono HCut.out ?_
        rintro e w2 ⟨rfl, hb2⟩
        have HS3 := (show Hid _ from HS1.out w2 hb2)
        have HB2 := (show Hid _ from hb2)
        clear HCut hW1 hb2 HS1
        go_wp2_with fail
        refine Calls.mono HS3.out ?_
        rintro e w3 ⟨v, z, rfl, -, hown, hb3⟩
        obtain ⟨po, co, rfl⟩ := own_shape hown
        have hB3 := HB2.out.trans (hb3.mono HB2.out.size)
        have HT2 := (show Hid _ from HS2.out w3 hB3)
        have HB3 := (show Hid _ from hB3)
        have HO3 := (show Hid _ from own_base hown (base' := w.heap.size + 1) (by have := HZ.out; have := HB2.out.size; omega))
        clear hown hb3 hB3 HS2 HS3
        go_wp2_with fail
        refine Calls.mono HT2.out ?_
        rintro e w4 ⟨u, z2, rfl, hz2, hown2, hb4⟩
        obtain rfl := hz2 (by first | trivial | rfl)
        obtain ⟨po2, co2, rfl⟩ := own_shape hown2
        obtain ⟨⟨y0, y1, y2, y3⟩, hfin⟩ := HC.out w4 (HB3.out.trans (hb4.mono HB3.out.size))
        have HF := (show Hid _ from hfin)
        clear hfin HC hb4 hown2 hz2 HT2 HO3
        go_wp2
        refine bodyPost_ret (v := .tuple #[.agg #[.slice none 0 0, .slice none 0 0], .int .i64 ((i + 2 + sideAt (s.data.toList.drop (i + 2)) : Nat)), .bool false]) ?_ ?_ ?_
        · simp [results, Tryz.results9, go_sem, *]
        · rfl
        · exact ⟨_, _, rfl, TwoR.nil _ _, HF.out _ _⟩
      | true =>
        obtain ⟨e1, e2, e3, e4⟩ := rule_good hidx.out ol or
        rw [e1, e2, e3, e4]
        rw [hsl]
        rw [or] at HS2
        clear e1 e2 e3 e4 hidx ol or
        go_enter Tryz.func9, Tryz.ntmps9
        go_wp2_with fail
        (try rw [hW1])
        refine Calls.mono HCut.out ?_
        rintro e w2 ⟨rfl, hb2⟩
        have HS3 := (show Hid _ from HS1.out w2 hb2)
        have HB2 := (show Hid _ from hb2)
        clear HCut hW1 hb2 HS1
        go_wp2_with fail
        refine Calls.mono HS3.out ?_
        rintro e w3 ⟨v, z, rfl, -, hown, hb3⟩
        obtain ⟨po, co, rfl⟩ := own_shape hown
        have hB3 := HB2.out.trans (hb3.mono HB2.out.size)
        have HT2 := (show Hid _ from HS2.out w3 hB3)
        have HB3 := (show Hid _ from hB3)
        have HO3 := (show Hid _ from own_base hown (base' := w.heap.size + 1) (by have := HZ.out; have := HB2.out.size; omega))
        clear hown hb3 hB3 HS2 HS3
        go_wp2_with fail
        refine Calls.mono HT2.out ?_
        rintro e w4 ⟨u, z2, rfl, hz2, hown2, hb4⟩
        obtain ⟨po2, co2, rfl⟩ := own_shape hown2
        obtain ⟨⟨y0, y1, y2, y3⟩, hfin⟩ := HC.out w4 (HB3.out.trans (hb4.mono HB3.out.size))
        have HF := (show Hid _ from hfin)
        have HW : Hid (TwoR w4 (w.heap.size + 1) _ _ _ _) := ⟨own_keep HO3.out hb4, own_base hown2 (base' := w.heap.size + 1) (by have := HZ.out; have := HB3.out.size; omega), fun x hx e => by have := own_in HO3.out x hx; have := own_ge hown2 x e; omega⟩
        clear hfin HC hb4 hown2 hz2 HT2 HO3
        go_wp2
        refine bodyPost_ret (v := .tuple #[.agg #[.slice po (sideL (s.data.toList.take i)).length co, .slice po2 (sideL (s.data.toList.drop (i + 2))).length co2], .int .i64 ((s.size : Nat)), .bool true]) ?_ ?_ ?_
        · simp [results, Tryz.results9, go_sem, *]
        · rfl
        · exact ⟨_, _, rfl, (HW.out.box (Nat.lt_succ_self _) _ _).low (Nat.le_succ _), HF.out _ _⟩
end Go.Proofs.YtkadanagmahhgaaGreatDoor
namespace Go.Proofs.YtkadanagmahhgaaGreatDoor
open Go.ChangeShapes Go.WideShapes Go.ChangeAt Go.RowKit
set_option linter.unusedVariables false

theorem Mine.of {w : World} {base e n g cap : Nat} {l : List (Int × Int)} (h : w.ownsRow base e 2 (.slice (some ⟨g, 0, none⟩) n cap) n (flat l)) : Mine w g 0 n := by
  refine ⟨owns_lt h, fun i hi => ⟨?_, by rw [Nat.zero_add]; exact h.frozenAt i⟩⟩
  rw [Nat.zero_add, h.cellAt i hi]
  exact ⟨_, List.getElem?_eq_getElem (by have := h.1; omega)⟩
end Go.Proofs.YtkadanagmahhgaaGreatDoor
namespace Go.Proofs.YtkadanagmahhgaaGreatDoor
open Go.ChangeShapes Go.WideShapes Go.ChangeAt Go.RowKit
set_option linter.unusedVariables false

/-- A rule's two lists hold marks from k on. -/
def HeldR (w : World) (k : Nat) (v u : Value) (m n : Nat) : Prop := ∃ a c b d, v = .slice a m c ∧ u = .slice b n d ∧ NSl w a m (marks k m) ∧ NSl w b n (marks (k + 2 * m) n)
theorem HeldR.keep {w w' : World} {k : Nat} {v u : Value} {m n : Nat} (h : HeldR w k v u m n) (hb : Below w.heap.size w w') : HeldR w' k v u m n := by
  obtain ⟨a, c, b, d, h1, h2, h3, h4⟩ := h
  exact ⟨a, c, b, d, h1, h2, h3.keep hb, h4.keep hb⟩
theorem nsl_grown {w w' : World} {a : Option Addr} {n cap : Nat} {l : List (Int × Int)} {r : Option Nat} (h : NSl w a n l) (hg : w.grownBy w' r) (hne : ∀ x, (Value.slice a n cap).ownBlock = some x → r ≠ some x) : NSl w' a n l := by
  refine ⟨h.1, ?_⟩
  rcases h.2 with h0 | ⟨b, off, rfl, h1, h2⟩
  · exact .inl h0
  · have hb := hg.block b h1 (Ne.symm (hne b rfl))
    refine .inr ⟨b, off, rfl, Nat.lt_of_lt_of_le h1 hg.size, fun i hi => ?_⟩
    obtain ⟨h3, h4⟩ := h2 i hi
    exact ⟨(World.cell?_of_block (a := ⟨b, off + i * 2, none⟩) hb).trans h3, (World.cell?_of_block (a := ⟨b, off + i * 2 + 1, none⟩) hb).trans h4⟩
theorem own_low {w w' : World} {base e size n lo : Nat} {v : Value} {xs : List Value} (h : w.ownsRow base e size v n xs) (hb : Below lo w w') (hv : ∀ x, v.ownBlock = some x → x < lo) : w'.ownsRow base e size v n xs := by
  refine ⟨h.1, ?_⟩
  rcases h.2 with h0 | ⟨g, cap, cur, rfl, h1, h2, h3⟩
  · exact .inl h0
  · exact .inr ⟨g, cap, cur, rfl, h1, (hb.block g (hv g rfl)).trans h2, h3⟩
theorem TwoR.under {w w' : World} {lo b : Nat} {v u : Value} {p q : List (Int × Int)} (h : TwoR w b v u p q) (hb : Below lo w w') (hv : ∀ x, v.ownBlock = some x → x < lo) (hu : ∀ x, u.ownBlock = some x → x < lo) : TwoR w' b v u p q := ⟨own_low h.1 hb hv, own_low h.2.1 hb hu, h.2.2⟩
theorem eqTwo_any (lo lo' : Nat) (v u v' u' : Value) (p q : List (Int × Int)) (w : World) (h : TwoR w lo v u p q) (h' : TwoR w lo' v' u' p q) (hp : p.length ≤ 1000) (hq : q.length ≤ 1000) :
    Calls Tryz.prog 17 #[.agg #[v, u], .agg #[v', u']] w fun e w' => e = .returned (.bool true) ∧ Below w.heap.size w w' := by
  obtain ⟨a1, c1, rfl, s1⟩ := NSl.row h.1
  obtain ⟨a2, c2, rfl, s2⟩ := NSl.row h.2.1
  obtain ⟨a3, c3, rfl, s3⟩ := NSl.row h'.1
  obtain ⟨a4, c4, rfl, s4⟩ := NSl.row h'.2.1
  exact eqR_same _ _ _ _ _ _ _ _ _ _ p q w s1 s3 s2 s4 (by omega) (by omega)
end Go.Proofs.YtkadanagmahhgaaGreatDoor
namespace Go.Proofs.YtkadanagmahhgaaGreatDoor
open Go.ChangeShapes Go.WideShapes Go.ChangeAt Go.RowKit
set_option linter.unusedVariables false

/-- The axioms' texts. -/
def axTs : List (List UInt8) := [[40, 49, 63, 97, 58, 98, 41, 61, 62, 97],
  [40, 48, 63, 97, 58, 98, 41, 61, 62, 98],
  [40, 40, 97, 61, 61, 48, 41, 63, 98, 58, 99, 41, 61, 62, 40, 97, 63, 99, 58, 98, 41],
  [40, 97, 61, 61, 98, 41, 61, 62, 40, 98, 61, 61, 97, 41],
  [40, 97, 47, 49, 41, 61, 62, 97],
  [40, 97, 47, 45, 49, 41, 61, 62, 126, 97],
  [40, 40, 97, 45, 98, 41, 61, 61, 48, 41, 61, 62, 40, 97, 61, 61, 98, 41],
  [40, 97, 61, 61, 98, 41, 61, 62, 40, 40, 97, 45, 98, 41, 61, 61, 48, 41],
  [40, 40, 97, 63, 49, 58, 48, 41, 63, 98, 58, 99, 41, 61, 62, 40, 97, 63, 98, 58, 99, 41],
  [40, 40, 97, 60, 98, 41, 63, 49, 58, 48, 41, 61, 62, 40, 97, 60, 98, 41],
  [40, 40, 97, 61, 61, 98, 41, 63, 49, 58, 48, 41, 61, 62, 40, 97, 61, 61, 98, 41],
  [40, 97, 60, 60, 98, 41, 61, 62, 40, 97, 42, 40, 49, 60, 60, 98, 41, 41]]
/-- The texts of the rules that are shipped ahead of axioms. -/
def shTs : List (List UInt8) := [[40, 97, 43, 98, 41, 61, 62, 40, 98, 43, 97, 41],
  [40, 40, 97, 43, 98, 41, 43, 99, 41, 61, 62, 40, 97, 43, 40, 98, 43, 99, 41, 41],
  [40, 97, 42, 98, 41, 61, 62, 40, 98, 42, 97, 41],
  [40, 40, 97, 42, 98, 41, 42, 99, 41, 61, 62, 40, 97, 42, 40, 98, 42, 99, 41, 41],
  [40, 97, 43, 48, 41, 61, 62, 97],
  [40, 97, 42, 49, 41, 61, 62, 97],
  [40, 97, 45, 98, 41, 61, 62, 40, 97, 43, 126, 98, 41],
  [126, 126, 97, 61, 62, 97],
  [40, 97, 42, 50, 41, 61, 62, 40, 97, 60, 60, 49, 41],
  [40, 97, 43, 97, 41, 61, 62, 40, 97, 42, 50, 41],
  [40, 40, 97, 42, 99, 41, 43, 40, 98, 42, 99, 41, 41, 61, 62, 40, 40, 97, 43, 98, 41, 42, 99, 41],
  [40, 97, 42, 45, 49, 41, 61, 62, 126, 97],
  [40, 97, 45, 48, 41, 61, 62, 97]]
theorem infoRule : (Tryz.prog.info? 26).map (fun i => (i.zero, i.size, i.bytes)) = some (some (.agg #[.slice none 0 0, .slice none 0 0]), 2, 48) := by kernel_rfl
theorem cell_newR (w : World) (x y : Value) (t : TypeId) : ∀ j u, [x, y][j]? = some u → (w.alloc (.cells #[x, y] t)).cell? ((⟨w.heap.size, 0, none⟩ : Addr).add j) = some u := by
  intro j u hj
  match j, hj with
  | 0, hj => simp at hj; subst hj; simp [go_sem, Addr.add]
  | 1, hj => simp at hj; subst hj; simp [go_sem, Addr.add]
theorem one_cellR (a b : Option Addr) (m n c d : Nat) : ∀ u ∈ [Value.slice a m c, .slice b n d], u.oneCell' = true := by
  intro u hu
  simp at hu
  rcases hu with rfl | rfl <;> rfl
theorem row_slice2 {w : World} {base e size n : Nat} {v : Value} {xs : List Value} (h : w.ownsRow base e size v n xs) : ∃ a c, v = .slice a n c := by
  rcases h.2 with ⟨rfl, rfl⟩ | ⟨g, cap, cur, rfl, _⟩
  · exact ⟨_, _, rfl⟩
  · exact ⟨_, _, rfl⟩
abbrev nov : Value := .bool false
/-- The blocks of a rule's two lists. -/
def InB (v u : Value) (x : Nat) : Prop := v.ownBlock = some x ∨ u.ownBlock = some x
/-- Rules that were read of texts, one by one, in memory of their own from lo on: xs holds their lists, two a rule; g: the block of the row itself. -/
def Read (w : World) (lo : Nat) (g : Option Nat) (xs : List Value) (ts : List (List UInt8)) : Prop :=
  xs.length = ts.length * 2 ∧ (∀ i, i < ts.length → TwoR w lo (xs.getD (i * 2) nov) (xs.getD (i * 2 + 1) nov) (ruleL (ts.getD i [])) (ruleR (ts.getD i []))) ∧
  (∀ i x, i < ts.length → InB (xs.getD (i * 2) nov) (xs.getD (i * 2 + 1) nov) x → g ≠ some x) ∧
  ∀ i j x y, i < j → j < ts.length → InB (xs.getD (i * 2) nov) (xs.getD (i * 2 + 1) nov) x → InB (xs.getD (j * 2) nov) (xs.getD (j * 2 + 1) nov) y → x < y
theorem Read.nil (w : World) (lo : Nat) (g : Option Nat) : Read w lo g [] [] := ⟨rfl, fun i h => absurd h (Nat.not_lt_zero _), fun i x h => absurd h (Nat.not_lt_zero _), fun i j x y _ h => absurd h (Nat.not_lt_zero _)⟩
theorem Read.lt {w : World} {lo : Nat} {g : Option Nat} {xs : List Value} {ts : List (List UInt8)} (h : Read w lo g xs ts) {i x : Nat} (hi : i < ts.length) (hx : InB (xs.getD (i * 2) nov) (xs.getD (i * 2 + 1) nov) x) : x < w.heap.size ∧ lo ≤ x := by
  have h2 := h.2.1 i hi
  rcases hx with hx | hx
  · exact ⟨own_in h2.1 x hx, own_ge h2.1 x hx⟩
  · exact ⟨own_in h2.2.1 x hx, own_ge h2.2.1 x hx⟩
theorem TwoR.grownR {w w' : World} {lo : Nat} {v u : Value} {p q : List (Int × Int)} {r : Option Nat} (h : TwoR w lo v u p q) (hg : w.grownBy w' r) (hne : ∀ x, InB v u x → r ≠ some x) : TwoR w' lo v u p q :=
  ⟨own_grown h.1 hg (fun x hx e => hne x (.inl hx) e.symm), own_grown h.2.1 hg (fun x hx e => hne x (.inr hx) e.symm), h.2.2⟩
theorem getV_app {xs ys : List Value} {k : Nat} (h : k < xs.length) : (xs ++ ys).getD k nov = xs.getD k nov := by
  rw [List.getD_eq_getElem?_getD, List.getElem?_append_left h, ← List.getD_eq_getElem?_getD]
theorem getT_app {xs ys : List (List UInt8)} {k : Nat} (h : k < xs.length) : (xs ++ ys).getD k [] = xs.getD k [] := by
  rw [List.getD_eq_getElem?_getD, List.getElem?_append_left h, ← List.getD_eq_getElem?_getD]
/-- One rule more, whose lists are newer than all. -/
theorem Read.snoc {w w2 w6 : World} {lo b : Nat} {g g' r : Option Nat} {xs : List Value} {ts : List (List UInt8)} {t : List UInt8} {v u : Value} (h : Read w lo g xs ts) (hb2 : Below w.heap.size w w2) (hT : TwoR w2 b v u (ruleL t) (ruleR t)) (hb : w.heap.size ≤ b) (hlo : lo ≤ w.heap.size)
    (hg : w2.grownBy w6 r) (hr : r = g) (hgl : ∀ x, g = some x → x < w.heap.size) (hg' : g' = g ∨ ∃ n, g' = some n ∧ w2.heap.size ≤ n) : Read w6 lo g' (xs ++ [v, u]) (ts ++ [t]) := by
  subst hr
  have hsz := hb2.size
  obtain ⟨h1, h2, h3, h4⟩ := h
  have hnew : ∀ x, InB v u x → b ≤ x ∧ x < w2.heap.size := fun x hx => by
    rcases hx with hx | hx
    · exact ⟨own_ge hT.1 x hx, own_in hT.1 x hx⟩
    · exact ⟨own_ge hT.2.1 x hx, own_in hT.2.1 x hx⟩
  have hold : ∀ i x, i < ts.length → InB (xs.getD (i * 2) nov) (xs.getD (i * 2 + 1) nov) x → x < w.heap.size := fun i x hi hx => (Read.lt (g := r) ⟨h1, h2, h3, h4⟩ hi hx).1
  have e1 : ∀ i, i < ts.length → (xs ++ [v, u]).getD (i * 2) nov = xs.getD (i * 2) nov ∧ (xs ++ [v, u]).getD (i * 2 + 1) nov = xs.getD (i * 2 + 1) nov ∧ (ts ++ [t]).getD i [] = ts.getD i [] := fun i hi => ⟨getV_app (by omega), getV_app (by omega), getT_app hi⟩
  have e2 : (xs ++ [v, u]).getD (ts.length * 2) nov = v ∧ (xs ++ [v, u]).getD (ts.length * 2 + 1) nov = u ∧ (ts ++ [t]).getD ts.length [] = t := by
    rw [← h1]
    refine ⟨by simp [List.getD_eq_getElem?_getD], ?_, by simp [List.getD_eq_getElem?_getD]⟩
    rw [List.getD_eq_getElem?_getD, List.getElem?_append_right (by omega)]
    simp [show xs.length + 1 - xs.length = 1 by omega]
  refine ⟨by simp [h1]; omega, fun i hi => ?_, fun i x hi hx e => ?_, fun i j x y hij hj hx hy => ?_⟩
  · rw [List.length_append, List.length_singleton] at hi
    by_cases hlt : i < ts.length
    · obtain ⟨a1, a2, a3⟩ := e1 i hlt
      rw [a1, a2, a3]
      exact ((h2 i hlt).keep hb2).grownR hg (fun x hx e => h3 i x hlt hx e)
    · obtain rfl : i = ts.length := by omega
      obtain ⟨a1, a2, a3⟩ := e2
      rw [a1, a2, a3]
      exact (hT.grownR hg (fun x hx e => by have := hgl x e; have := (hnew x hx).1; omega)).low (by omega)
  · rw [List.length_append, List.length_singleton] at hi
    by_cases hlt : i < ts.length
    · obtain ⟨a1, a2, a3⟩ := e1 i hlt
      rw [a1, a2] at hx
      rcases hg' with e' | ⟨n, e', hn⟩
      · exact h3 i x hlt hx (e' ▸ e)
      · rw [e'] at e; injection e with e; have := hold i x hlt hx; omega
    · obtain rfl : i = ts.length := by omega
      obtain ⟨a1, a2, a3⟩ := e2
      rw [a1, a2] at hx
      rcases hg' with e' | ⟨n, e', hn⟩
      · have := hgl x (e' ▸ e); have := (hnew x hx).1; omega
      · rw [e'] at e; injection e with e; have := (hnew x hx).2; omega
  · rw [List.length_append, List.length_singleton] at hj
    obtain ⟨a1, a2, a3⟩ := e1 i (by omega)
    rw [a1, a2] at hx
    by_cases hlt : j < ts.length
    · obtain ⟨b1, b2, b3⟩ := e1 j hlt
      rw [b1, b2] at hy
      exact h4 i j x y hij hlt hx hy
    · obtain rfl : j = ts.length := by omega
      obtain ⟨b1, b2, b3⟩ := e2
      rw [b1, b2] at hy
      have := hold i x (by omega) hx
      have := (hnew y hy).1
      omega
theorem Read.keep {w w' : World} {lo : Nat} {g : Option Nat} {xs : List Value} {ts : List (List UInt8)} (h : Read w lo g xs ts) (hb : Below w.heap.size w w') : Read w' lo g xs ts := ⟨h.1, fun i hi => (h.2.1 i hi).keep hb, h.2.2⟩
/-- A row of strings lies in memory. -/
def Strs (w : World) (b n : Nat) (ts : List (List UInt8)) : Prop := ts.length = n ∧ b < w.heap.size ∧ ∀ i, i < n → w.cell? ⟨b, i, none⟩ = some (.string ⟨(ts.getD i []).toArray⟩) ∧ (ts.getD i []).length ≤ 1000
theorem Strs.keep {w w' : World} {b n : Nat} {ts : List (List UInt8)} (h : Strs w b n ts) (hb : Below w.heap.size w w') : Strs w' b n ts := ⟨h.1, Nat.lt_of_lt_of_le h.2.1 hb.size, fun i hi => ⟨(hb.cell (p := ⟨b, i, none⟩) h.2.1).trans (h.2.2 i hi).1, (h.2.2 i hi).2⟩⟩
theorem take_snoc {ts : List (List UInt8)} {k : Nat} (h : k < ts.length) : ts.take (k + 1) = ts.take k ++ [ts.getD k []] := by
  rw [List.take_add_one, List.getD_eq_getElem?_getD, List.getElem?_eq_getElem h]; rfl
set_option maxHeartbeats 3200000 in
set_option maxRecDepth 20000 in
theorem rulesOf_any (b n c : Nat) (ts : List (List UInt8)) (w : World) (hE : Env w) (hT : Tab w) (hM : MaxL w) (hS : Strs w b n ts) (hn : n ≤ 100) :
    Calls Tryz.prog 109 #[.slice (some ⟨b, 0, none⟩) n c] w fun e w' => ∃ (a : Option Addr) (d : Nat) (xs : List Value), e = .returned (.slice a n d) ∧ w'.ownsRow w.heap.size 26 2 (.slice a n d) n xs ∧ Read w' w.heap.size (Value.slice a n d).ownBlock xs ts ∧ Below w.heap.size w w' := by
  obtain ⟨i0, hi, hz0, hz1, hz2⟩ := info_parts infoRule
  have hlen := hS.1
  have HIm : Hid (∀ (t : ByteArray) W, t.size ≤ 1048576 → Below w.heap.size w W → Calls Tryz.prog 9 #[.string t] W fun e w' => ReadR W w' t.data.toList e) := fun t W h1 hW => implReadRule_any t W (hE.keep hW) (hT.keeps hW) (hM.keep hW) h1
  have HS : Hid (Strs w b n ts) := hS
  clear hE hT hM hS
  go_enter Tryz.func109, Tryz.ntmps109
  go_wp2_with fail
  go_loopw [3, 11] (fun y i wr => ∃ (k : Nat) (a : Option Addr) (d : Nat) (xs : List Value), k ≤ n ∧ i = .int .i64 k ∧ y = .slice a k d ∧ Hid (wr.ownsRow w.heap.size 26 2 (.slice a k d) k xs ∧ Read wr w.heap.size (Value.slice a k d).ownBlock xs (ts.take k) ∧ Below w.heap.size w wr)) (fun _ i _ => n - (intOf i).toNat)
  case atStart => exact ⟨0, none, 0, [], Nat.zero_le _, rfl, rfl, World.ownsRow_nil _ _ _ _, Read.nil _ _ _, Below.refl _ _⟩
  case round =>
    obtain ⟨k, a, d, xs, hk, rfl, rfl, hR⟩ := hrel
    by_cases hlt : k < n
    · obtain ⟨ho, hrd, hbr⟩ := hR.out
      obtain ⟨hc, hl⟩ := ((HS.out.keep hbr).2.2 k hlt)
      have hkl : (k : Int) < n := by omega
      have hak : Hid (ts.take (k + 1) = ts.take k ++ [ts.getD k []]) := take_snoc (by omega)
      obtain ⟨t, ht⟩ : ∃ t, ts.getD k [] = t := ⟨_, rfl⟩
      rw [ht] at hc hl hak
      have HC := (show Hid _ from HIm.out (⟨t.toArray⟩ : ByteArray) wr (by show t.toArray.size ≤ _; simp; omega) hbr)
      have e1 : (⟨t.toArray⟩ : ByteArray).data.toList = t := by simp
      rw [e1] at HC
      unfold ReadR at HC
      clear ho hrd hbr hl ht e1
      go_wp2_with fail
      refine Calls.mono HC.out ?_
      rintro e w2 ⟨v, u, rfl, hTwo, hb2⟩
      obtain ⟨av, cv, rfl⟩ := own_shape hTwo.1
      obtain ⟨au, cu, rfl⟩ := own_shape hTwo.2.1
      have HTwo : Hid (TwoR w2 wr.heap.size _ _ _ _ ∧ Below wr.heap.size wr w2) := ⟨hTwo, hb2⟩
      have hrow : w2.ownsRow w.heap.size 26 2 (.slice a k d) k xs := own_keep hR.out.1 hb2
      have hwlo : w.heap.size ≤ w2.heap.size := Nat.le_trans hR.out.2.2.size hb2.size
      obtain ⟨m1, hm1⟩ : ∃ m, (ruleL t).length = m := ⟨_, rfl⟩
      obtain ⟨m2, hm2⟩ : ∃ m, (ruleR t).length = m := ⟨_, rfl⟩
      rw [hm1, hm2] at HTwo
      rw [hm1, hm2]
      clear HC
      have HNX : Hid (∀ (X : World) (v6 : Value) (w6 : World), Below w2.heap.size w2 X → X.grownBy w6 (Value.slice a k d).ownBlock → (v6.ownBlock = (Value.slice a k d).ownBlock ∨ v6.ownBlock = some X.heap.size) → Read w6 w.heap.size v6.ownBlock (xs ++ [.slice av m1 cv, .slice au m2 cu]) (ts.take (k + 1)) ∧ Below w.heap.size w w6) := fun X v6 w6 hX hg h6 => by
        obtain ⟨ho, hrd, hbr⟩ := hR.out
        obtain ⟨hT2, hb2⟩ := HTwo.out
        have hbX : Below wr.heap.size wr X := hb2.trans (hX.mono hb2.size)
        rw [hak.out]
        refine ⟨hrd.snoc hbX (hT2.keep hX) (Nat.le_refl _) hbr.size hg rfl (fun x hx => own_in ho x hx) ?_, (hbr.trans (hbX.mono hbr.size)).grown hg (Nat.le_trans hbr.size hbX.size) (fun r hr => own_ge ho r hr)⟩
        rcases h6 with h | h
        · exact .inl h
        · exact .inr ⟨_, h, Nat.le_refl _⟩
      obtain ⟨X2, hX2⟩ : ∃ X, w2.alloc (.cells #[.slice av m1 cv, .slice au m2 cu] 26) = X := ⟨_, rfl⟩
      have hbX2 : Below w2.heap.size w2 X2 := by rw [← hX2]; exact (Below.refl _ _).alloc (Nat.le_refl _) _
      have e0 : X2.cell? ⟨w2.heap.size, 0, none⟩ = some (.slice av m1 cv) := by rw [← hX2]; simp [go_sem]
      have e1 : X2.cell? ⟨w2.heap.size, 1, none⟩ = some (.slice au m2 cu) := by rw [← hX2]; simp [go_sem]
      have HX2 : Hid (X2.ownsRow w.heap.size 26 2 (.slice a k d) k xs ∧ w.heap.size ≤ X2.heap.size ∧ Below w2.heap.size w2 (X2.alloc (.cells #[.slice av m1 cv, .slice au m2 cu] 26))) := ⟨own_keep hrow hbX2, Nat.le_trans hwlo hbX2.size, hbX2.alloc hbX2.size _⟩
      have hkn : k < 100 := by omega
      clear hTwo hb2 hrow hwlo hbX2 HTwo hak HIm hR hm1 hm2
      go_wp2_with (at_builtin; refine wpList_append_own_at _ rfl _ _ 95 rfl w.heap.size 26 i0 (.agg #[.slice none 0 0, .slice none 0 0]) 2 48 Tryz.underlying95 hi hz0 hz1 hz2 rfl (by decide) _ _ _ rfl (HX2.out.1.alloc _) ⟨X2.heap.size, 0, none⟩ 1 1 [_, _] rfl rfl (cell_newR _ _ _ _) (one_cellR _ _ _ _ _ _) (by unfold maxLen; omega) (by omega) (by have := HX2.out.2.1; simp; omega) ?_; intro v6 w6 k1 k2 _ k3; obtain ⟨a6, c6, rfl⟩ := row_slice2 k1; have HN6 := (show Hid _ from HNX.out _ _ _ HX2.out.2.2 k2 k3); have HK1 := (show Hid _ from k1); clear k1 k2 k3)
      go_roundw
      case rel => exact ⟨k + 1, a6, c6, _, by omega, by go_num, by first | trivial | rfl, HK1.out, HN6.out.1, HN6.out.2⟩
      case measure => simp [intOf]; omega
    · obtain rfl : k = n := by omega
      have hall : ts.take k = ts := List.take_of_length_le (by omega)
      rw [hall] at hR
      clear hall
      go_wp2
      go_ret
      exact ⟨_, _, _, rfl, hR.out.1, hR.out.2.1, hR.out.2.2⟩
end Go.Proofs.YtkadanagmahhgaaGreatDoor
