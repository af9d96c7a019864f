/-
  PROVED HERE: what the model's and the program's reading of one side of a rule answer, at every text. The tables are laid. No other condition. plain functions: a rule's text, its two sides, and what is read of it; what strings.Cut answers, laid from the library's own contract. No condition. what the model's and the program's ReadRule answer, at every text of at most a million bytes. The tables are laid, and the library's bound on short searches holds some number. No other condition.
-/
import Derived.Test.YtbchehpggoampaaDoorM7Pat
import Derived.Test.YtbchehpggoampaaDoorTermRead
import Derived.Test.YtbchehpggoampaaDoorIReadTerm
import Derived.Test.YtbchehpggoampaaDoorPlainRead
import Derived.Test.YtbchehpggoampaaDoorKeeps
import Derived.Shelf.Strings.Cut
import Derived.Shelf.Lay
import Derived.Ground.NamesProg
namespace Go.Proofs.YtbchehpggoampaaDoor
open Go.ChangeShapes Go.WideShapes Go.ChangeAt Go.RowKit
set_option linter.unusedVariables false

def sideOk (b : List UInt8) : Bool := readOk b && decide ((readL b).length ≤ 7)
def sideAt (b : List UInt8) : Nat := if readOk b = true then 0 else readAt b
def sideL (b : List UInt8) : List (Int × Int) := if sideOk b = true then readL b else []
theorem side_pat {b : List UInt8} (h : readOk b = true) : patB (readL b) = decide ((readL b).length ≤ 7) := by
  unfold patB
  rw [(read_text h).1, Bool.true_and]
theorem sideL_len (b : List UInt8) : (sideL b).length ≤ 7 := by
  unfold sideL
  split
  · next h =>
    unfold sideOk at h
    simp only [Bool.and_eq_true, decide_eq_true_eq] at h
    exact h.2
  · exact Nat.zero_le _
/-- What a side's reading comes to. -/
def SideR (w w' : World) (b : List UInt8) (e : Ending) : Prop := ∃ (v : Value) (z : Int), e = .returned (.tuple #[v, .int .i64 z, .bool (sideOk b)]) ∧ (sideOk b = false → z = sideAt b) ∧ w'.ownsRow w.heap.size 76 2 v (sideL b).length (flat (sideL b)) ∧ Below w.heap.size w w'
set_option maxHeartbeats 800000 in
theorem specSide_any (s : ByteArray) (w : World) (hs : s.size ≤ 9223372036854775807) :
    Calls Tryd.prog 44 #[.string s] w fun e w' => SideR w w' s.data.toList e := by
  have HR := (show Hid _ from specReadTerm_any s w hs)
  have hP := @side_pat s.data.toList
  have hL7 := readL_len s.data.toList
  unfold SideR sideL sideAt sideOk
  cases hok : readOk s.data.toList with
  | false =>
    rw [hok] at HR
    rw [Bool.false_and, if_neg (by decide), if_neg (by decide)]
    generalize readAt s.data.toList = AT at HR ⊢
    have hl0 : readL s.data.toList = [] := by unfold readL; rw [hok]; rfl
    rw [hl0] at HR
    clear hP hok hL7 hl0
    go_enter Tryd.func44, Tryd.ntmps44
    go_wp2_with fail
    refine Calls.mono HR.out ?_
    rintro e w1 ⟨v, rfl, hown, hb⟩
    obtain ⟨po, co, rfl⟩ := own_shape hown
    have HO := (show Hid _ from hown)
    clear HR hown
    go_wp2
    go_ret3
    exact ⟨_, _, rfl, fun _ => rfl, World.ownsRow_nil _ _ _ _, hb⟩
  | true =>
    rw [hok] at HR
    rw [Bool.true_and, show (if true = true then 0 else readAt s.data.toList) = 0 from if_pos rfl]
    have hp := hP hok
    have hNS : Hid (∀ W (a : Option Addr) (c : Nat), Below w.heap.size w W → NSl W a (readL s.data.toList).length (readL s.data.toList) → Calls Tryd.prog 32 #[.slice a (readL s.data.toList).length c] W fun e w' => e = .returned (.bool (patB (readL s.data.toList))) ∧ Below W.heap.size W w') := fun W a c hW h => specPat_any a _ c _ W h (by omega)
    rw [hp] at hNS
    generalize readAt s.data.toList = AT at HR ⊢
    generalize readL s.data.toList = L at HR hL7 hNS ⊢
    clear hP hp hok
    by_cases h7 : L.length ≤ 7
    · rw [decide_eq_true h7] at hNS ⊢
      rw [if_pos rfl]
      go_enter Tryd.func44, Tryd.ntmps44
      go_wp2_with fail
      refine Calls.mono HR.out ?_
      rintro e w1 ⟨v, rfl, hown, hb⟩
      obtain ⟨po, co, rfl, hns⟩ := NSl.row hown
      have HO := (show Hid _ from hown)
      have HP := (show Hid _ from hNS.out w1 po co hb hns)
      have HB := (show Hid _ from hb)
      clear HR hown hNS hns hb
      go_wp2_with fail
      refine Calls.mono HP.out ?_
      rintro e w2 ⟨rfl, hb2⟩
      have HO2 := (show Hid _ from own_keep HO.out hb2)
      have HB2 := (show Hid _ from HB.out.trans (hb2.mono HB.out.size))
      clear HP HO HB hb2
      go_wp2
      go_ret3
      exact ⟨_, _, rfl, fun h => (by cases h), HO2.out, HB2.out⟩
    · rw [decide_eq_false h7] at hNS ⊢
      rw [if_neg (by decide)]
      go_enter Tryd.func44, Tryd.ntmps44
      go_wp2_with fail
      refine Calls.mono HR.out ?_
      rintro e w1 ⟨v, rfl, hown, hb⟩
      obtain ⟨po, co, rfl, hns⟩ := NSl.row hown
      have HP := (show Hid _ from hNS.out w1 po co hb hns)
      have HB := (show Hid _ from hb)
      clear HR hown hNS hns hb
      go_wp2_with fail
      refine Calls.mono HP.out ?_
      rintro e w2 ⟨rfl, hb2⟩
      have HB2 := (show Hid _ from HB.out.trans (hb2.mono HB.out.size))
      clear HP HB hb2
      go_wp2
      go_ret3
      exact ⟨_, _, rfl, fun _ => rfl, World.ownsRow_nil _ _ _ _, HB2.out⟩
set_option maxHeartbeats 800000 in
theorem implSide_any (s : ByteArray) (w : World) (hE : Env w) (hT : Tab w) (hs : s.size ≤ 9223372036854775807) :
    Calls Tryd.prog 46 #[.string s] w fun e w' => SideR w w' s.data.toList e := by
  have HR := (show Hid _ from implReadTerm_any s w hE hs)
  have hP := @side_pat s.data.toList
  have hL7 := readL_len s.data.toList
  unfold SideR sideL sideAt sideOk
  cases hok : readOk s.data.toList with
  | false =>
    rw [hok] at HR
    rw [Bool.false_and, if_neg (by decide), if_neg (by decide)]
    generalize readAt s.data.toList = AT at HR ⊢
    have hl0 : readL s.data.toList = [] := by unfold readL; rw [hok]; rfl
    rw [hl0] at HR
    clear hP hok hL7 hl0 hE hT
    go_enter Tryd.func46, Tryd.ntmps46
    go_wp2_with fail
    refine Calls.mono HR.out ?_
    rintro e w1 ⟨v, rfl, hown, hb⟩
    obtain ⟨po, co, rfl⟩ := own_shape hown
    have HO := (show Hid _ from hown)
    clear HR hown
    go_wp2
    go_ret3
    exact ⟨_, _, rfl, fun _ => rfl, HO.out, hb⟩
  | true =>
    rw [hok] at HR
    rw [Bool.true_and, show (if true = true then 0 else readAt s.data.toList) = 0 from if_pos rfl]
    have hp := hP hok
    have hNS : Hid (∀ W (a : Option Addr) (c : Nat), Below w.heap.size w W → NSl W a (readL s.data.toList).length (readL s.data.toList) → Calls Tryd.prog 34 #[.slice a (readL s.data.toList).length c] W fun e w' => e = .returned (.bool (patB (readL s.data.toList))) ∧ Below W.heap.size W w') := fun W a c hW h => implPat_any a _ c _ W (hT.keeps hW) h (by omega)
    rw [hp] at hNS
    generalize readAt s.data.toList = AT at HR ⊢
    generalize readL s.data.toList = L at HR hL7 hNS ⊢
    clear hP hp hok hE hT
    by_cases h7 : L.length ≤ 7
    · rw [decide_eq_true h7] at hNS ⊢
      rw [if_pos rfl]
      go_enter Tryd.func46, Tryd.ntmps46
      go_wp2_with fail
      refine Calls.mono HR.out ?_
      rintro e w1 ⟨v, rfl, hown, hb⟩
      obtain ⟨po, co, rfl, hns⟩ := NSl.row hown
      have HO := (show Hid _ from hown)
      have HP := (show Hid _ from hNS.out w1 po co hb hns)
      have HB := (show Hid _ from hb)
      clear HR hown hNS hns hb
      go_wp2_with fail
      refine Calls.mono HP.out ?_
      rintro e w2 ⟨rfl, hb2⟩
      have HO2 := (show Hid _ from own_keep HO.out hb2)
      have HB2 := (show Hid _ from HB.out.trans (hb2.mono HB.out.size))
      clear HP HO HB hb2
      go_wp2
      go_ret3
      exact ⟨_, _, rfl, fun h => (by cases h), HO2.out, HB2.out⟩
    · rw [decide_eq_false h7] at hNS ⊢
      rw [if_neg (by decide)]
      go_enter Tryd.func46, Tryd.ntmps46
      go_wp2_with fail
      refine Calls.mono HR.out ?_
      rintro e w1 ⟨v, rfl, hown, hb⟩
      obtain ⟨po, co, rfl, hns⟩ := NSl.row hown
      have HP := (show Hid _ from hNS.out w1 po co hb hns)
      have HB := (show Hid _ from hb)
      clear HR hown hNS hns hb
      go_wp2_with fail
      refine Calls.mono HP.out ?_
      rintro e w2 ⟨rfl, hb2⟩
      have HB2 := (show Hid _ from HB.out.trans (hb2.mono HB.out.size))
      clear HP HB hb2
      go_wp2
      go_ret3
      exact ⟨_, _, rfl, fun _ => rfl, World.ownsRow_nil _ _ _ _, HB2.out⟩
end Go.Proofs.YtbchehpggoampaaDoor
namespace Go.Proofs.YtbchehpggoampaaDoor
open Go.ChangeShapes Go.WideShapes Go.ChangeAt Go.RowKit
open Go.Shelf
open Go.Proofs (Nm.prog)
set_option linter.unusedVariables false

/-- The arrow. -/
def arrow : List UInt8 := [61, 62]
def arrowS : ByteArray := ⟨#[61, 62]⟩
/-- What is read of a rule's text: whether, where, and the two sides. -/
def ruleOk (b : List UInt8) : Bool := decide (0 ≤ Lib.index b arrow) && (sideOk (b.take (Lib.index b arrow).toNat) && sideOk (b.drop ((Lib.index b arrow).toNat + 2)))
def ruleAt (b : List UInt8) : Nat := if 0 ≤ Lib.index b arrow then
    (if sideOk (b.take (Lib.index b arrow).toNat) = true then (if sideOk (b.drop ((Lib.index b arrow).toNat + 2)) = true then b.length else (Lib.index b arrow).toNat + 2 + sideAt (b.drop ((Lib.index b arrow).toNat + 2)))
     else sideAt (b.take (Lib.index b arrow).toNat)) else b.length
def ruleL (b : List UInt8) : List (Int × Int) := if ruleOk b = true then sideL (b.take (Lib.index b arrow).toNat) else []
def ruleR (b : List UInt8) : List (Int × Int) := if ruleOk b = true then sideL (b.drop ((Lib.index b arrow).toNat + 2)) else []
theorem rule_none {b : List UInt8} (h : Lib.index b arrow = -1) : ruleOk b = false ∧ ruleAt b = b.length ∧ ruleL b = [] ∧ ruleR b = [] := by
  have h0 : ¬ (0 : Int) ≤ -1 := by decide
  have e : ruleOk b = false := by unfold ruleOk; rw [h, decide_eq_false h0, Bool.false_and]
  exact ⟨e, by unfold ruleAt; rw [h, if_neg h0], by unfold ruleL; rw [e]; rfl, by unfold ruleR; rw [e]; rfl⟩
theorem rule_left {b : List UInt8} {i : Nat} (h : Lib.index b arrow = i) (hl : sideOk (b.take i) = false) : ruleOk b = false ∧ ruleAt b = sideAt (b.take i) ∧ ruleL b = [] ∧ ruleR b = [] := by
  have h0 : (0 : Int) ≤ i := by omega
  have e : ruleOk b = false := by unfold ruleOk; rw [h, Int.toNat_natCast, hl, Bool.false_and, Bool.and_false]
  exact ⟨e, by unfold ruleAt; rw [h, if_pos h0, Int.toNat_natCast, hl, if_neg (by decide)], by unfold ruleL; rw [e]; rfl, by unfold ruleR; rw [e]; rfl⟩
theorem rule_right {b : List UInt8} {i : Nat} (h : Lib.index b arrow = i) (hl : sideOk (b.take i) = true) (hr : sideOk (b.drop (i + 2)) = false) : ruleOk b = false ∧ ruleAt b = i + 2 + sideAt (b.drop (i + 2)) ∧ ruleL b = [] ∧ ruleR b = [] := by
  have h0 : (0 : Int) ≤ i := by omega
  have e : ruleOk b = false := by unfold ruleOk; rw [h, Int.toNat_natCast, hr, Bool.and_false, Bool.and_false]
  exact ⟨e, by unfold ruleAt; rw [h, if_pos h0, Int.toNat_natCast, hl, if_pos rfl, hr, if_neg (by decide)], by unfold ruleL; rw [e]; rfl, by unfold ruleR; rw [e]; rfl⟩
theorem rule_good {b : List UInt8} {i : Nat} (h : Lib.index b arrow = i) (hl : sideOk (b.take i) = true) (hr : sideOk (b.drop (i + 2)) = true) : ruleOk b = true ∧ ruleAt b = b.length ∧ ruleL b = sideL (b.take i) ∧ ruleR b = sideL (b.drop (i + 2)) := by
  have h0 : (0 : Int) ≤ i := by omega
  have e : ruleOk b = true := by unfold ruleOk; rw [h, Int.toNat_natCast, hr, hl, decide_eq_true h0]; rfl
  exact ⟨e, by unfold ruleAt; rw [h, if_pos h0, Int.toNat_natCast, hl, if_pos rfl, hr, if_pos rfl], by unfold ruleL; rw [e, if_pos rfl, h, Int.toNat_natCast], by unfold ruleR; rw [e, if_pos rfl, h, Int.toNat_natCast]⟩
theorem ruleL_len (b : List UInt8) : (ruleL b).length ≤ 7 := by unfold ruleL; split <;> first | exact sideL_len _ | exact Nat.zero_le _
theorem ruleR_len (b : List UInt8) : (ruleR b).length ≤ 7 := by unfold ruleR; split <;> first | exact sideL_len _ | exact Nat.zero_le _
theorem occ_ext (s : ByteArray) (k : Nat) (hk : k + 2 ≤ s.size) : ((s.extract k (k + 2)).toList == arrow) = Lib.occAt s.data.toList arrow k := by
  rw [Lib.toList_data, Lib.extract_eq]
  unfold Lib.occAt arrow
  have hsl : s.data.toList.length = s.size := rfl
  have hd : (s.data.toList.drop k).length = s.size - k := by rw [List.length_drop, hsl]
  obtain ⟨L, hL⟩ : ∃ L, s.data.toList.drop k = L := ⟨_, rfl⟩
  rw [hL] at hd ⊢
  rw [show k + 2 - k = 2 by omega]
  match L, hd with
  | [], h => simp at h; omega
  | [x], h => simp at h; omega
  | x :: y :: r, _ =>
    rw [Bool.eq_iff_iff]
    simp [List.isPrefixOf]
    constructor
    · rintro ⟨h1, h2⟩; exact ⟨h1.symm, h2.symm⟩
    · rintro ⟨h1, h2⟩; exact ⟨h1.symm, h2.symm⟩
shelf_lay Lays.n145 Nm 145 at Tryd as Tryd.lays145
/-- The library's bound on short searches is some number. -/
def MaxL (w : World) : Prop := ∃ m, w.cell? ⟨2, 0, none⟩ = some (.int .i64 m)
theorem MaxL.keep {w w' : World} (h : MaxL w) (hb : Below w.heap.size w w') : MaxL w' := by
  obtain ⟨m, hm⟩ := h
  exact ⟨m, (hb.cell (p := ⟨2, 0, none⟩) (World.block_lt_of_cell? _ _ hm)).trans hm⟩
theorem cut_any (s : ByteArray) (w : World) (hM : MaxL w) (hs : s.size < 4294967281) :
    Calls Tryd.prog 45 #[.string s, .string arrowS] w fun e w' => e = .returned (.tuple #[.string ⟨(Lib.cut s.data.toList arrow).1.toArray⟩, .string ⟨(Lib.cut s.data.toList arrow).2.1.toArray⟩, .bool (Lib.cut s.data.toList arrow).2.2]) ∧ Below w.heap.size w w' := by
  obtain ⟨m, hm⟩ := hM
  refine (Any.strings_Cut Tryd.lays145 s arrowS m w hs hm).mono ?_
  rintro e w' ⟨rfl, n, rfl⟩
  exact ⟨rfl, below_drewN _ _⟩
end Go.Proofs.YtbchehpggoampaaDoor
namespace Go.Proofs.YtbchehpggoampaaDoor
open Go.ChangeShapes Go.WideShapes Go.ChangeAt Go.RowKit
set_option linter.unusedVariables false

/-- Two lists of nodes in memory of their own, from lo on, in two blocks. -/
def TwoR (w : World) (lo : Nat) (v u : Value) (p q : List (Int × Int)) : Prop := w.ownsRow lo 76 2 v p.length (flat p) ∧ w.ownsRow lo 76 2 u q.length (flat q) ∧ ∀ x, v.ownBlock = some x → u.ownBlock ≠ some x
theorem TwoR.nil (w : World) (lo : Nat) : TwoR w lo (.slice none 0 0) (.slice none 0 0) [] [] := ⟨World.ownsRow_nil _ _ _ _, World.ownsRow_nil _ _ _ _, fun x h => by cases h⟩
theorem TwoR.keep {w w' : World} {lo : Nat} {v u : Value} {p q : List (Int × Int)} (h : TwoR w lo v u p q) (hb : Below w.heap.size w w') : TwoR w' lo v u p q := ⟨own_keep h.1 hb, own_keep h.2.1 hb, h.2.2⟩
theorem TwoR.low {w : World} {lo lo' : Nat} {v u : Value} {p q : List (Int × Int)} (h : TwoR w lo v u p q) (hb : lo' ≤ lo) : TwoR w lo' v u p q := ⟨own_base h.1 hb, own_base h.2.1 hb, h.2.2⟩
theorem grown_same (w : World) (b : Nat) : w.grownBy w (some b) := by
  have h := grown_of (Below.refl w.heap.size w)
  exact ⟨h.os, h.tape, h.output, h.size, fun k hk _ => rfl⟩
theorem TwoR.box {w : World} {lo b : Nat} {v u : Value} {p q : List (Int × Int)} (h : TwoR w lo v u p q) (hb : b < lo) (v0 v1 : Value) : TwoR ((w.setCell ⟨b, 0, none⟩ v0).setCell ⟨b, 1, none⟩ v1) lo v u p q := by
  have hg : w.grownBy ((w.setCell ⟨b, 0, none⟩ v0).setCell ⟨b, 1, none⟩ v1) (some b) := grown_set (grown_set (grown_same w b) 0 v0) 1 v1
  exact ⟨own_grown h.1 hg (fun x hx e => by have := own_ge h.1 x hx; injection e with e; omega), own_grown h.2.1 hg (fun x hx e => by have := own_ge h.2.1 x hx; injection e with e; omega), h.2.2⟩
/-- What reading a rule comes to. -/
def ReadR (w w' : World) (b : List UInt8) (e : Ending) : Prop := ∃ (v u : Value), e = .returned (.tuple #[.agg #[v, u], .int .i64 (ruleAt b : Nat), .bool (ruleOk b)]) ∧ TwoR w' w.heap.size v u (ruleL b) (ruleR b) ∧ Below w.heap.size w w'
theorem readAt_le (b : List UInt8) : readAt b ≤ b.length := by
  by_cases h : 1200 < b.length
  · rw [(read_big h).2.1]; exact Nat.zero_le _
  · by_cases hf : (rdR b).1 = true ∧ (rdR b).2.1 = b.length
    · by_cases hm : 40 < (rdR b).2.2.length
      · rw [(read_many (by omega) hf hm).2.1]; exact Nat.zero_le _
      · rw [(read_good (by omega) hf (by omega)).2.1]; exact Nat.le_refl _
    · rw [(read_fail (by omega) hf).2.1]; exact (rdR_ok b).2.1
theorem sideAt_le (b : List UInt8) : sideAt b ≤ b.length := by
  unfold sideAt
  split
  · exact Nat.zero_le _
  · exact readAt_le b
theorem drop_bytes (s : ByteArray) (i : Nat) (h : i ≤ s.size) : (s.extract i s.size).data.toList = s.data.toList.drop i := by
  rw [Lib.extract_eq]
  exact List.take_of_length_le (by rw [List.length_drop]; exact Nat.le_refl _)
theorem take_bytes (s : ByteArray) (i : Nat) : (s.extract 0 i).data.toList = s.data.toList.take i := by rw [Lib.extract_eq]; simp
set_option maxHeartbeats 3200000 in
set_option maxRecDepth 20000 in
theorem specReadRule_any (s : ByteArray) (w : World) (hs : s.size ≤ 1048576) :
    Calls Tryd.prog 20 #[.string s] w fun e w' => ReadR w w' s.data.toList e := by
  obtain ⟨W1, hW1⟩ : ∃ W1, w.alloc (.cells #[.slice none 0 0, .slice none 0 0] 29) = W1 := ⟨_, rfl⟩
  have hb1 : Below w.heap.size w W1 := by rw [← hW1]; exact (Below.refl _ _).alloc (Nat.le_refl _) _
  have hs1 : W1.heap.size = w.heap.size + 1 := by rw [← hW1]; simp
  have r0 : W1.cell? ⟨w.heap.size, 0, none⟩ = some (.slice none 0 0) := by rw [← hW1]; simp [go_sem]
  have r1 : W1.cell? ⟨w.heap.size, 1, none⟩ = some (.slice none 0 0) := by rw [← hW1]; simp [go_sem]
  have f0 : W1.frozen? ⟨w.heap.size, 0, none⟩ = false := by rw [← hW1]; simp [go_sem]
  have f1 : W1.frozen? ⟨w.heap.size, 1, none⟩ = false := by rw [← hW1]; simp [go_sem]
  have hsl : s.data.toList.length = s.size := rfl
  have HC : Hid (∀ W, Below W1.heap.size W1 W → (W.cell? ⟨w.heap.size, 0, none⟩ = some (.slice none 0 0) ∧ W.cell? ⟨w.heap.size, 1, none⟩ = some (.slice none 0 0) ∧ W.frozen? ⟨w.heap.size, 0, none⟩ = false ∧ W.frozen? ⟨w.heap.size, 1, none⟩ = false) ∧ ∀ v0 v1, Below w.heap.size w ((W.setCell ⟨w.heap.size, 0, none⟩ v0).setCell ⟨w.heap.size, 1, none⟩ v1)) := fun W hW => by
    have hX := hb1.trans (hW.mono hb1.size)
    exact ⟨⟨(hW.cell (p := ⟨w.heap.size, 0, none⟩) (by show w.heap.size < _; omega)).trans r0, (hW.cell (p := ⟨w.heap.size, 1, none⟩) (by show w.heap.size < _; omega)).trans r1, (hW.frozen (p := ⟨w.heap.size, 0, none⟩) (by show w.heap.size < _; omega)).trans f0, (hW.frozen (p := ⟨w.heap.size, 1, none⟩) (by show w.heap.size < _; omega)).trans f1⟩, fun v0 v1 => (hX.setCell (by show w.heap.size ≤ w.heap.size; omega) _).setCell (by show w.heap.size ≤ w.heap.size; omega) _⟩
  have HZ : Hid (w.heap.size + 1 = W1.heap.size) := hs1.symm
  have HSd : Hid (∀ (t : ByteArray) W, t.size ≤ 1048576 → Below W1.heap.size W1 W → Calls Tryd.prog 44 #[.string t] W fun e w' => SideR W w' t.data.toList e) := fun t W h1 hW => specSide_any t W (by omega)
  clear hb1 hs1 r0 r1 f0 f1
  unfold ReadR
  go_enter Tryd.func20, Tryd.ntmps20
  go_wp2_with fail
  (try rw [hW1])
  clear hW1
  go_loopw [5, 6] (fun y i wr => W1 = wr ∧ ∃ (k : Nat), i = .int .i64 k ∧ k ≤ s.size ∧ ((y = .int .i64 (-1) ∧ Hid (Lib.NoOcc s.data.toList arrow k)) ∨ ∃ c : Nat, y = .int .i64 c ∧ c + 2 ≤ s.size ∧ Hid (Lib.index s.data.toList arrow = c))) (fun _ i _ => s.size + 1 - (intOf i).toNat)
  case atStart => exact ⟨by first | trivial | rfl, 0, rfl, Nat.zero_le _, .inl ⟨rfl, Lib.NoOcc.zero _ _⟩⟩
  case round =>
    obtain ⟨rfl, k, rfl, hk, hcase⟩ := hrel
    rcases hcase with ⟨rfl, hno⟩ | ⟨i, rfl, hc2, hidx⟩
    · by_cases hlt : k + 1 < s.size
      · have hlt' : (k : Int) + 1 < s.size := by omega
        have hx := occ_ext s k (by omega)
        have j0 : (0 : Int) ≤ k := by omega
        have j1 : (k : Int) ≤ k + 2 := by omega
        have j2 : (k : Int) + 2 ≤ s.size := by omega
        have j3 : ((k : Int) + 2).toNat = k + 2 := by omega
        cases ho : Lib.occAt s.data.toList arrow k with
        | false =>
          rw [ho] at hx
          have hno2 : Hid (Lib.NoOcc s.data.toList arrow (k + 1)) := fun j hj => by
            by_cases e : j = k
            · rw [e]; exact ho
            · exact hno.out j (by omega)
          unfold arrow at hx
          clear hno ho
          go_wp2
          go_roundw
          case rel => exact ⟨by first | trivial | rfl, k + 1, by go_num, by omega, .inl ⟨rfl, hno2⟩⟩
          case measure => simp [intOf]; omega
        | true =>
          rw [ho] at hx
          have hidx : Hid (Lib.index s.data.toList arrow = k) := Lib.index_hit hno.out (by rw [hsl]; omega) ho
          unfold arrow at hx
          clear hno ho
          go_wp2
          go_roundw
          case rel => exact ⟨by first | trivial | rfl, k + 1, by go_num, by omega, .inr ⟨k, rfl, by omega, hidx⟩⟩
          case measure => simp [intOf]; omega
      · have hlt' : ¬ (k : Int) + 1 < s.size := by omega
        have hidx : Lib.index s.data.toList arrow = -1 := Lib.index_past (by decide) hno.out (by rw [hsl]; show s.size < k + 2; omega)
        have HE := (show Hid _ from rule_none hidx)
        obtain ⟨⟨y0, y1, y2, y3⟩, hfin⟩ := HC.out W1 (Below.refl _ _)
        have HF := (show Hid _ from hfin)
        clear hno hidx hfin HC
        go_wp2
        refine bodyPost_ret (v := .tuple #[.agg #[.slice none 0 0, .slice none 0 0], .int .i64 (s.size : Nat), .bool false]) ?_ ?_ ?_
        · simp [results, Tryd.results20, go_sem, *]
        · rfl
        · exact ⟨_, _, by rw [HE.out.1, HE.out.2.1] <;> rfl, by rw [HE.out.2.2.1, HE.out.2.2.2]; exact TwoR.nil _ _, HF.out _ _⟩
    · have hi0 : ¬ (i : Int) < 0 := by omega
      have j0 : (0 : Int) ≤ i := by omega
      have j1 : (i : Int) ≤ s.size := by omega
      have j2 : (0 : Int) ≤ (i : Int) + 2 := by omega
      have j3 : (i : Int) + 2 ≤ s.size := by omega
      have j4 : ((i : Int) + 2).toNat = i + 2 := by omega
      have tb : (s.extract 0 i).data.toList = s.data.toList.take i := take_bytes s i
      have db : (s.extract (i + 2) s.size).data.toList = s.data.toList.drop (i + 2) := drop_bytes s (i + 2) hc2
      have HS1 := (show Hid _ from HSd.out (s.extract 0 i) W1 (by simp [ByteArray.size_extract]; omega) (Below.refl _ _))
      have HS2 : Hid (∀ W, Below W1.heap.size W1 W → Calls Tryd.prog 44 #[.string (s.extract (i + 2) s.size)] W fun e w' => SideR W w' (s.data.toList.drop (i + 2)) e) := fun W hW => by
        have := HSd.out (s.extract (i + 2) s.size) W (by simp [ByteArray.size_extract]; omega) hW
        rw [db] at this
        exact this
      rw [tb] at HS1
      unfold SideR at HS1 HS2
      have hA : sideAt (s.data.toList.drop (i + 2)) ≤ 1048576 := by have := sideAt_le (s.data.toList.drop (i + 2)); rw [List.length_drop, hsl] at this; omega
      clear HSd tb db
      by_cases hk2 : (k : Int) + 1 < s.size
      all_goals
        cases ol : sideOk (s.data.toList.take i) with
        | false =>
          have HE := (show Hid _ from rule_left hidx.out ol)
          rw [ol] at HS1
          clear hidx ol HS2
          go_wp2_with fail
          refine Calls.mono HS1.out ?_
          rintro e w3 ⟨v, z, rfl, hz, hown, hb3⟩
          obtain rfl := hz (by first | trivial | rfl)
          obtain ⟨po, co, rfl⟩ := own_shape hown
          obtain ⟨⟨y0, y1, y2, y3⟩, hfin⟩ := HC.out w3 hb3
          have HF := (show Hid _ from hfin)
          clear hfin HC hb3 hown hz HS1
          go_wp2
          refine bodyPost_ret (v := .tuple #[.agg #[.slice none 0 0, .slice none 0 0], .int .i64 ((sideAt (s.data.toList.take i) : Nat)), .bool false]) ?_ ?_ ?_
          · simp [results, Tryd.results20, go_sem, *]
          · rfl
          · exact ⟨_, _, by rw [HE.out.1, HE.out.2.1] <;> rfl, by rw [HE.out.2.2.1, HE.out.2.2.2]; exact TwoR.nil _ _, HF.out _ _⟩
        | true =>
          rw [ol] at HS1
          cases or : sideOk (s.data.toList.drop (i + 2)) with
          | false =>
            have HE := (show Hid _ from rule_right hidx.out ol or)
            rw [or] at HS2
            clear hidx ol or
            go_wp2_with fail
            refine Calls.mono HS1.out ?_
            rintro e w3 ⟨v, z, rfl, -, hown, hb3⟩
            obtain ⟨po, co, rfl⟩ := own_shape hown
            have hB3 := hb3
            have HT2 := (show Hid _ from HS2.out w3 hB3)
            have HB3 := (show Hid _ from hB3)
            have HO3 := (show Hid _ from own_base hown (base' := w.heap.size + 1) (by have := HZ.out; omega))
            clear hown hb3 hB3 HS2 HS1
            go_wp2_with fail
            refine Calls.mono HT2.out ?_
            rintro e w4 ⟨u, z2, rfl, hz2, hown2, hb4⟩
            obtain rfl := hz2 (by first | trivial | rfl)
            obtain ⟨po2, co2, rfl⟩ := own_shape hown2
            obtain ⟨⟨y0, y1, y2, y3⟩, hfin⟩ := HC.out w4 (HB3.out.trans (hb4.mono HB3.out.size))
            have HF := (show Hid _ from hfin)
            clear hfin HC hb4 hown2 hz2 HT2 HO3
            go_wp2
            refine bodyPost_ret (v := .tuple #[.agg #[.slice none 0 0, .slice none 0 0], .int .i64 ((i + 2 + sideAt (s.data.toList.drop (i + 2)) : Nat)), .bool false]) ?_ ?_ ?_
            · simp [results, Tryd.results20, go_sem, *]
            · rfl
            · exact ⟨_, _, by rw [HE.out.1, HE.out.2.1] <;> rfl, by rw [HE.out.2.2.1, HE.out.2.2.2]; exact TwoR.nil _ _, HF.out _ _⟩
          | true =>
            have HE := (show Hid _ from rule_good hidx.out ol or)
            rw [or] at HS2
            clear hidx ol or
            go_wp2_with fail
            refine Calls.mono HS1.out ?_
            rintro e w3 ⟨v, z, rfl, -, hown, hb3⟩
            obtain ⟨po, co, rfl⟩ := own_shape hown
            have hB3 := hb3
            have HT2 := (show Hid _ from HS2.out w3 hB3)
            have HB3 := (show Hid _ from hB3)
            have HO3 := (show Hid _ from own_base hown (base' := w.heap.size + 1) (by have := HZ.out; omega))
            clear hown hb3 hB3 HS2 HS1
            go_wp2_with fail
            refine Calls.mono HT2.out ?_
            rintro e w4 ⟨u, z2, rfl, hz2, hown2, hb4⟩
            obtain ⟨po2, co2, rfl⟩ := own_shape hown2
            obtain ⟨⟨y0, y1, y2, y3⟩, hfin⟩ := HC.out w4 (HB3.out.trans (hb4.mono HB3.out.size))
            have HF := (show Hid _ from hfin)
            have HW : Hid (TwoR w4 (w.heap.size + 1) _ _ _ _) := ⟨own_keep HO3.out hb4, own_base hown2 (base' := w.heap.size + 1) (by have := HZ.out; have := HB3.out.size; omega), fun x hx e => by have := own_in HO3.out x hx; have := own_ge hown2 x e; omega⟩
            clear hfin HC hb4 hown2 hz2 HT2 HO3
            go_wp2
            refine bodyPost_ret (v := .tuple #[.agg #[.slice po (sideL (s.data.toList.take i)).length co, .slice po2 (sideL (s.data.toList.drop (i + 2))).length co2], .int .i64 ((s.size : Nat)), .bool true]) ?_ ?_ ?_
            · simp [results, Tryd.results20, go_sem, *]
            · rfl
            · exact ⟨_, _, by rw [HE.out.1, HE.out.2.1] <;> rfl, by rw [HE.out.2.2.1, HE.out.2.2.2]; exact (HW.out.box (Nat.lt_succ_self _) _ _).low (Nat.le_succ _), HF.out _ _⟩
set_option maxHeartbeats 3200000 in
set_option maxRecDepth 20000 in
theorem implReadRule_any (s : ByteArray) (w : World) (hE : Env w) (hT : Tab w) (hM : MaxL w) (hs : s.size ≤ 1048576) :
    Calls Tryd.prog 21 #[.string s] w fun e w' => ReadR w w' s.data.toList e := by
  obtain ⟨W1, hW1⟩ : ∃ W1, w.alloc (.cells #[.slice none 0 0, .slice none 0 0] 29) = W1 := ⟨_, rfl⟩
  have hb1 : Below w.heap.size w W1 := by rw [← hW1]; exact (Below.refl _ _).alloc (Nat.le_refl _) _
  have hs1 : W1.heap.size = w.heap.size + 1 := by rw [← hW1]; simp
  have r0 : W1.cell? ⟨w.heap.size, 0, none⟩ = some (.slice none 0 0) := by rw [← hW1]; simp [go_sem]
  have r1 : W1.cell? ⟨w.heap.size, 1, none⟩ = some (.slice none 0 0) := by rw [← hW1]; simp [go_sem]
  have f0 : W1.frozen? ⟨w.heap.size, 0, none⟩ = false := by rw [← hW1]; simp [go_sem]
  have f1 : W1.frozen? ⟨w.heap.size, 1, none⟩ = false := by rw [← hW1]; simp [go_sem]
  have hsl : s.data.toList.length = s.size := rfl
  have HC : Hid (∀ W, Below W1.heap.size W1 W → (W.cell? ⟨w.heap.size, 0, none⟩ = some (.slice none 0 0) ∧ W.cell? ⟨w.heap.size, 1, none⟩ = some (.slice none 0 0) ∧ W.frozen? ⟨w.heap.size, 0, none⟩ = false ∧ W.frozen? ⟨w.heap.size, 1, none⟩ = false) ∧ ∀ v0 v1, Below w.heap.size w ((W.setCell ⟨w.heap.size, 0, none⟩ v0).setCell ⟨w.heap.size, 1, none⟩ v1)) := fun W hW => by
    have hX := hb1.trans (hW.mono hb1.size)
    exact ⟨⟨(hW.cell (p := ⟨w.heap.size, 0, none⟩) (by show w.heap.size < _; omega)).trans r0, (hW.cell (p := ⟨w.heap.size, 1, none⟩) (by show w.heap.size < _; omega)).trans r1, (hW.frozen (p := ⟨w.heap.size, 0, none⟩) (by show w.heap.size < _; omega)).trans f0, (hW.frozen (p := ⟨w.heap.size, 1, none⟩) (by show w.heap.size < _; omega)).trans f1⟩, fun v0 v1 => (hX.setCell (by show w.heap.size ≤ w.heap.size; omega) _).setCell (by show w.heap.size ≤ w.heap.size; omega) _⟩
  have HZ : Hid (w.heap.size + 1 = W1.heap.size) := hs1.symm
  have HSd : Hid (∀ (t : ByteArray) W, t.size ≤ 1048576 → Below W1.heap.size W1 W → Calls Tryd.prog 46 #[.string t] W fun e w' => SideR W w' t.data.toList e) := fun t W h1 hW => implSide_any t W ((hE.keep hb1).keep hW) ((hT.keeps hb1).keeps hW) (by omega)
  have HCut := (show Hid _ from cut_any s W1 (hM.keep hb1) (by omega))
  have hix := Lib.index_spec s.data.toList arrow
  have hcutdef : Lib.cut s.data.toList arrow = if 0 ≤ Lib.index s.data.toList arrow then (s.data.toList.take (Lib.index s.data.toList arrow).toNat, s.data.toList.drop ((Lib.index s.data.toList arrow).toNat + 2), true) else (s.data.toList, [], false) := rfl
  rcases hix with ⟨hidx, -⟩ | ⟨i, hidx, hi1, hi2, -⟩
  · rw [hidx, if_neg (by decide)] at hcutdef
    rw [hcutdef] at HCut
    unfold ReadR
    obtain ⟨e1, e2, e3, e4⟩ := rule_none hidx
    rw [e1, e2, e3, e4, hsl]
    clear hcutdef hidx e1 e2 e3 e4 hb1 hs1 r0 r1 f0 f1 hE hT hM HSd
    go_enter Tryd.func21, Tryd.ntmps21
    go_wp2_with fail
    (try rw [hW1])
    refine Calls.mono HCut.out ?_
    rintro e w2 ⟨rfl, hb2⟩
    obtain ⟨⟨y0, y1, y2, y3⟩, hfin⟩ := HC.out w2 hb2
    have HF := (show Hid _ from hfin)
    clear hfin HC HCut hb2 hW1
    go_wp2
    refine bodyPost_ret (v := .tuple #[.agg #[.slice none 0 0, .slice none 0 0], .int .i64 (s.size : Nat), .bool false]) ?_ ?_ ?_
    · simp [results, Tryd.results21, go_sem, *]
    · rfl
    · exact ⟨_, _, rfl, TwoR.nil _ _, HF.out _ _⟩
  · have hroom := Lib.index_room s.data.toList arrow (by omega)
    have hal : arrow.length = 2 := rfl
    rw [hidx, hal, hsl] at hroom
    have hc2 : i + 2 ≤ s.size := by omega
    rw [hidx, if_pos (by omega), Int.toNat_natCast] at hcutdef
    rw [hcutdef] at HCut
    have hidx : Hid (Lib.index s.data.toList arrow = i) := hidx
    have HS1 := (show Hid _ from fun W hW => HSd.out (⟨(s.data.toList.take i).toArray⟩ : ByteArray) W (by show (s.data.toList.take i).toArray.size ≤ _; simp [hsl]; omega) hW)
    have HS2 := (show Hid _ from fun W hW => HSd.out (⟨(s.data.toList.drop (i + 2)).toArray⟩ : ByteArray) W (by show (s.data.toList.drop (i + 2)).toArray.size ≤ _; simp [hsl]; omega) hW)
    have hLs : (s.data.toList.take i).length = i := by rw [List.length_take, hsl]; omega
    simp only at HS1 HS2
    unfold SideR at HS1 HS2
    unfold ReadR
    have hA : sideAt (s.data.toList.drop (i + 2)) ≤ 1048576 := by have := sideAt_le (s.data.toList.drop (i + 2)); rw [List.length_drop, hsl] at this; omega
    clear HSd hcutdef hroom hal hb1 hs1 r0 r1 f0 f1 hE hT hM hi1 hi2
    cases ol : sideOk (s.data.toList.take i) with
    | false =>
      obtain ⟨e1, e2, e3, e4⟩ := rule_left hidx.out ol
      rw [e1, e2, e3, e4]
      rw [ol] at HS1
      clear e1 e2 e3 e4 hidx ol HS2
      go_enter Tryd.func21, Tryd.ntmps21
      go_wp2_with fail
      (try rw [hW1])
      refine Calls.mono HCut.out ?_
      rintro e w2 ⟨rfl, hb2⟩
      have HS3 := (show Hid _ from HS1.out w2 hb2)
      have HB2 := (show Hid _ from hb2)
      clear HCut hW1 hb2 HS1
      go_wp2_with fail
      refine Calls.mono HS3.out ?_
      rintro e w3 ⟨v, z, rfl, hz, hown, hb3⟩
      obtain rfl := hz (by first | trivial | rfl)
      obtain ⟨po, co, rfl⟩ := own_shape hown
      obtain ⟨⟨y0, y1, y2, y3⟩, hfin⟩ := HC.out w3 (HB2.out.trans (hb3.mono HB2.out.size))
      have HF := (show Hid _ from hfin)
      clear hfin HC hb3 hown hz HS3
      go_wp2
      refine bodyPost_ret (v := .tuple #[.agg #[.slice none 0 0, .slice none 0 0], .int .i64 ((sideAt (s.data.toList.take i) : Nat)), .bool false]) ?_ ?_ ?_
      · simp [results, Tryd.results21, go_sem, *]
      · rfl
      · exact ⟨_, _, rfl, TwoR.nil _ _, HF.out _ _⟩
    | true =>
      rw [ol] at HS1
      cases or : sideOk (s.data.toList.drop (i + 2)) with
      | false =>
        obtain ⟨e1, e2, e3, e4⟩ := rule_right hidx.out ol or
        rw [e1, e2, e3, e4]
        rw [or] at HS2
        clear e1 e2 e3 e4 hidx ol or
        go_enter Tryd.func21, Tryd.ntmps21
        go_wp2_with fail
        (try rw [hW1])
        refine Calls.mono HCut.out ?_
        rintro e w2 ⟨rfl, hb2⟩
        have HS3 := (show Hid _ from HS1.out w2 hb2)
        have HB2 := (show Hid _ from hb2)
        clear HCut hW1 hb2 HS1
        go_wp2_with fail
        refine Calls.mono HS3.out ?_
        rintro e w3 ⟨v, z, rfl, -, hown, hb3⟩
        obtain ⟨po, co, rfl⟩ := own_shape hown
        have hB3 := HB2.out.trans (hb3.mono HB2.out.size)
        have HT2 := (show Hid _ from HS2.out w3 hB3)
        have HB3 := (show Hid _ from hB3)
        have HO3 := (show Hid _ from own_base hown (base' := w.heap.size + 1) (by have := HZ.out; have := HB2.out.size; omega))
        clear hown hb3 hB3 HS2 HS3
        go_wp2_with fail
        refine Calls.mono HT2.out ?_
        rintro e w4 ⟨u, z2, rfl, hz2, hown2, hb4⟩
        obtain rfl := hz2 (by first | trivial | rfl)
        obtain ⟨po2, co2, rfl⟩ := own_shape hown2
        obtain ⟨⟨y0, y1, y2, y3⟩, hfin⟩ := HC.out w4 (HB3.out.trans (hb4.mono HB3.out.size))
        have HF := (show Hid _ from hfin)
        clear hfin HC hb4 hown2 hz2 HT2 HO3
        go_wp2
        refine bodyPost_ret (v := .tuple #[.agg #[.slice none 0 0, .slice none 0 0], .int .i64 ((i + 2 + sideAt (s.data.toList.drop (i + 2)) : Nat)), .bool false]) ?_ ?_ ?_
        · simp [results, Tryd.results21, go_sem, *]
        · rfl
        · exact ⟨_, _, rfl, TwoR.nil _ _, HF.out _ _⟩
      | true =>
        obtain ⟨e1, e2, e3, e4⟩ := rule_good hidx.out ol or
        rw [e1, e2, e3, e4]
        rw [hsl]
        rw [or] at HS2
        clear e1 e2 e3 e4 hidx ol or
        go_enter Tryd.func21, Tryd.ntmps21
        go_wp2_with fail
        (try rw [hW1])
        refine Calls.mono HCut.out ?_
        rintro e w2 ⟨rfl, hb2⟩
        have HS3 := (show Hid _ from HS1.out w2 hb2)
        have HB2 := (show Hid _ from hb2)
        clear HCut hW1 hb2 HS1
        go_wp2_with fail
        refine Calls.mono HS3.out ?_
        rintro e w3 ⟨v, z, rfl, -, hown, hb3⟩
        obtain ⟨po, co, rfl⟩ := own_shape hown
        have hB3 := HB2.out.trans (hb3.mono HB2.out.size)
        have HT2 := (show Hid _ from HS2.out w3 hB3)
        have HB3 := (show Hid _ from hB3)
        have HO3 := (show Hid _ from own_base hown (base' := w.heap.size + 1) (by have := HZ.out; have := HB2.out.size; omega))
        clear hown hb3 hB3 HS2 HS3
        go_wp2_with fail
        refine Calls.mono HT2.out ?_
        rintro e w4 ⟨u, z2, rfl, hz2, hown2, hb4⟩
        obtain ⟨po2, co2, rfl⟩ := own_shape hown2
        obtain ⟨⟨y0, y1, y2, y3⟩, hfin⟩ := HC.out w4 (HB3.out.trans (hb4.mono HB3.out.size))
        have HF := (show Hid _ from hfin)
        have HW : Hid (TwoR w4 (w.heap.size + 1) _ _ _ _) := ⟨own_keep HO3.out hb4, own_base hown2 (base' := w.heap.size + 1) (by have := HZ.out; have := HB3.out.size; omega), fun x hx e => by have := own_in HO3.out x hx; have := own_ge hown2 x e; omega⟩
        clear hfin HC hb4 hown2 hz2 HT2 HO3
        go_wp2
        refine bodyPost_ret (v := .tuple #[.agg #[.slice po (sideL (s.data.toList.take i)).length co, .slice po2 (sideL (s.data.toList.drop (i + 2))).length co2], .int .i64 ((s.size : Nat)), .bool true]) ?_ ?_ ?_
        · simp [results, Tryd.results21, go_sem, *]
        · rfl
        · exact ⟨_, _, rfl, (HW.out.box (Nat.lt_succ_self _) _ _).low (Nat.le_succ _), HF.out _ _⟩
end Go.Proofs.YtbchehpggoampaaDoor
