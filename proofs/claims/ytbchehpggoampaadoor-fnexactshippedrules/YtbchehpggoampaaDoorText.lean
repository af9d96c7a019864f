/-
  PROVED HERE: the text of a term that the model tells, at every list of nodes whose numbers lie within 64 bits. No other condition.
-/
import Derived.Test.YtbchehpggoampaaDoorTextDefs
import Derived.Test.YtbchehpggoampaaDoorNum
import Derived.Test.YtbchehpggoampaaDoorGood
import Derived.Deep.RegionHeld3
namespace Go.Proofs.YtbchehpggoampaaDoor
open Go.ChangeShapes Go.WideShapes Go.ChangeAt Go.RowKit
set_option linter.unusedVariables false
attribute [local go_sem] conv1 isByte_some byteIn_some

theorem specSign_any (op : Int) (w : World) : Calls Tryd.prog 58 #[.int .i64 op] w fun e w' => e = .returned (.string ⟨(signB op).toArray⟩) ∧ w' = w := by
  by_cases h4 : op = 4
  · subst h4; go_enter Tryd.func58, Tryd.ntmps58; go_wp2; go_ret; exact ⟨rfl, rfl⟩
  by_cases h5 : op = 5
  · subst h5; go_enter Tryd.func58, Tryd.ntmps58; go_wp2; go_ret; exact ⟨rfl, rfl⟩
  by_cases h6 : op = 6
  · subst h6; go_enter Tryd.func58, Tryd.ntmps58; go_wp2; go_ret; exact ⟨rfl, rfl⟩
  by_cases h7 : op = 7
  · subst h7; go_enter Tryd.func58, Tryd.ntmps58; go_wp2; go_ret; exact ⟨rfl, rfl⟩
  by_cases h8 : op = 8
  · subst h8; go_enter Tryd.func58, Tryd.ntmps58; go_wp2; go_ret; exact ⟨rfl, rfl⟩
  by_cases h9 : op = 9
  · subst h9; go_enter Tryd.func58, Tryd.ntmps58; go_wp2; go_ret; exact ⟨rfl, rfl⟩
  by_cases h10 : op = 10
  · subst h10; go_enter Tryd.func58, Tryd.ntmps58; go_wp2; go_ret; exact ⟨rfl, rfl⟩
  have hs : signB op = [] := by unfold signB; simp [h4, h5, h6, h7, h8, h9, h10]
  rw [hs]
  go_enter Tryd.func58, Tryd.ntmps58
  go_wp2
  go_ret
  exact ⟨rfl, rfl⟩

theorem below_step {w w1 w2 : World} (h : Below w.heap.size w w1) (o : Obj) (h2 : Below (w1.alloc o).heap.size (w1.alloc o) w2) : Below w.heap.size w w2 :=
  (h.alloc h.size o).trans (h2.mono (by have := h.size; simp; omega))
theorem held_b {A B C : Prop} {w2 wp : World} (h : A ∧ B ∧ C ∧ Below w2.heap.size w2 wp) : Below w2.heap.size w2 wp := h.2.2.2
theorem held_step {A B C : Prop} {w2 wp w4 : World} (h : A ∧ B ∧ C ∧ Below w2.heap.size w2 wp) (hb : Below wp.heap.size wp w4) : Below w2.heap.size w2 w4 := h.2.2.2.trans (hb.mono h.2.2.2.size)
def TextAt (l : List (Int × Int)) (t : Option Addr) (len cap f k : Nat) : Prop :=
  ∀ W, NSl W t len l → Calls Tryd.prog 42 #[.slice t len cap, .int .i64 k] W fun e w' => e = .returned (.string ⟨(textG l f k).toArray⟩) ∧ Below W.heap.size W w'

theorem text_num {l : List (Int × Int)} (t : Option Addr) (len cap f k : Nat) (hk : k < len) (hn : InN l) (hop : (l.getD k (0, 0)).1 = 1) : TextAt l t len cap (f + 1) k := by
  intro w hs
  have hlen := hs.1
  have H : Hid (∀ w, Calls Tryd.prog 56 #[.int .i64 (l.getD k (0, 0)).2] w fun e w' => e = .returned (.string ⟨(Lib.itoa (l.getD k (0, 0)).2).toArray⟩) ∧ Below w.heap.size w w') := fun w => spec_any _ w (hn k)
  obtain ⟨b, off, rfl, hbl, hc⟩ := hs.at (by omega)
  have c1 := (hc k hk).1
  have c2 := (hc k hk).2
  have hv : textG l (f + 1) k = Lib.itoa (l.getD k (0, 0)).2 := by show nodeT _ _ = _; unfold nodeT; rw [if_pos hop]
  rw [hv]
  rw [hop] at c1
  clear hc hv hop
  generalize (l.getD k (0, 0)).2 = y at c2 H ⊢
  generalize Lib.itoa y = L at H ⊢
  go_enter Tryd.func42, Tryd.ntmps42
  go_wp2_with fail
  refine (H.out _).mono ?_
  rintro e w1 ⟨rfl, hb1⟩
  have hb := below_step (Below.refl w.heap.size w) _ hb1
  clear hb1
  go_wp2
  go_ret
  exact ⟨rfl, hb⟩
set_option maxRecDepth 20000 in
theorem text_var {l : List (Int × Int)} (t : Option Addr) (len cap f k : Nat) (hk : k < len) (hop : (l.getD k (0, 0)).1 = 2) (hv4 : 0 ≤ (l.getD k (0, 0)).2 ∧ (l.getD k (0, 0)).2 < 4) : TextAt l t len cap (f + 1) k := by
  intro w hs
  have hlen := hs.1
  obtain ⟨b, off, rfl, hbl, hc⟩ := hs.at (by omega)
  have c1 := (hc k hk).1
  have c2 := (hc k hk).2
  have hv : textG l (f + 1) k = [UInt8.ofNat (97 + (l.getD k (0, 0)).2.toNat)] := by
    show nodeT _ _ = _; unfold nodeT; rw [if_neg (by omega), if_pos hop]
  rw [hv]
  rw [hop] at c1
  clear hc hv hop
  generalize (l.getD k (0, 0)).2 = y at c2 hv4 ⊢
  obtain ⟨v, rfl⟩ := Int.eq_ofNat_of_zero_le hv4.1
  have hv : v < 4 := by omega
  go_enter Tryd.func42, Tryd.ntmps42
  go_wp2
  go_ret
  exact ⟨congrArg (fun b => Ending.returned (Value.string ⟨#[UInt8.ofNat b]⟩)) (by omega), (((Below.refl _ _).alloc (Nat.le_refl _) _).alloc (by simp) _)⟩

theorem text_neg {l : List (Int × Int)} {q : Int} (h : pile l 0 = some q) (t : Option Addr) (len cap f k : Nat) (hl : len ≤ 1048576) (hk : k < len) (hop : (l.getD k (0, 0)).1 = 3) (HB : ∀ r, r < k → (textG l f r).length ≤ 40000000)
    (IH : ∀ r, r < k → TextAt l t len cap f r) : TextAt l t len cap (f + 1) k := by
  intro w hs
  have hlen := hs.1
  obtain ⟨h1, h2⟩ := cnt_step h k (by omega)
  obtain ⟨_, a2, _, _⟩ := fits_iff _ _ _ _ h1
  rw [hop, show ar 3 = ((1 : Nat) : Int) from rfl] at a2
  have hrl := roots_lt h 1 k (by omega) a2
  have hRl : (roots l 1 k).length = 1 := roots_len _ _ _
  have HP : Hid (∀ W, NSl W t len l → Calls Tryd.prog 57 #[.slice t len cap, .int .i64 k] W fun e w' => ∃ v : Value, e = .returned v ∧ w'.ownsRow W.heap.size 3 1 v 1 (ints (roots l 1 k)) ∧ Below W.heap.size W w') := by
    intro W hW
    have := parts_any h t len cap W hW hl k hk
    rw [hop] at this
    exact this
  have hv : textG l (f + 1) k = 126 :: textG l f ((roots l 1 k).getD 0 0) := by
    show nodeT _ _ = _
    unfold nodeT
    rw [hop, if_neg (by decide), if_neg (by decide), if_pos rfl, show (ar 3).toNat = 1 from rfl]
    match roots l 1 k, hRl with
    | [r], _ => rfl
  rw [hv]
  have hr0 : (roots l 1 k).getD 0 0 < k := getD_lt _ k 0 hrl (by omega)
  have T0 := IH _ hr0
  have B0 : ((textG l f ((roots l 1 k).getD 0 0)).length : Int) ≤ 40000000 := by have := HB _ hr0; omega
  obtain ⟨R, hR⟩ : ∃ R, roots l 1 k = R := ⟨_, rfl⟩
  rw [hR] at T0 B0 HP ⊢
  obtain ⟨b, off, rfl, hbl, hc⟩ := hs.at (by omega)
  have c1 := (hc k hk).1
  have c2 := (hc k hk).2
  rw [hop] at c1
  have HS : Hid (NSl w (some ⟨b, off, none⟩) len l) := hs
  have SA : Hid (∀ W, NSl W (some ⟨b, off, none⟩) len l → Calls Tryd.prog 42 #[.slice (some ⟨b, off, none⟩) len cap, .int .i64 ((R.getD 0 0 : Nat) : Int)] W fun e w' => e = .returned (.string ⟨(textG l f (R.getD 0 0)).toArray⟩) ∧ Below W.heap.size W w') := T0
  clear hc h1 h2 a2 hop IH hs hrl hv hR HB T0 hr0 hRl
  generalize (l.getD k (0, 0)).2 = y at c2
  generalize textG l f (R.getD 0 0) = L at SA B0 ⊢
  go_enter Tryd.func42, Tryd.ntmps42
  go_wp2_with fail
  have hb1 := (Below.refl w.heap.size w).alloc (Nat.le_refl _) (.cells #[.int .i64 3, .int .i64 y] 76)
  refine (HP.out _ (HS.out.keep hb1)).mono ?_
  rintro e w2 ⟨v2, rfl, hown, hb2⟩
  obtain ⟨g, cp, rfl, hg, hcell⟩ := own_row hown (by omega)
  have c0 := hcell 0 (by omega)
  have hbw := below_step (Below.refl w.heap.size w) _ hb2
  have n0 := (hb2.cell (p := ⟨w.heap.size, 0, none⟩) (by simp)).trans (show (w.alloc (.cells #[.int .i64 3, .int .i64 y] 76)).cell? ⟨w.heap.size, 0, none⟩ = some (.int .i64 3) by simp [go_sem])
  have hsz : w.heap.size < w2.heap.size := by have := hb2.size; simp at this; omega
  clear hown hcell HP hb2 hb1
  go_wp2_with fail
  refine (SA.out _ (HS.out.keep hbw)).mono ?_
  rintro e w3 ⟨rfl, hb3⟩
  have hb := hbw.trans (hb3.mono hbw.size)
  clear SA n0 c0
  go_wp2
  go_ret
  exact ⟨congrArg (fun b => Ending.returned (Value.string b)) (by simp [ByteArray.mk_append_mk]), hb⟩

set_option maxHeartbeats 1600000 in
set_option maxRecDepth 20000 in
theorem text_two {l : List (Int × Int)} {q : Int} (h : pile l 0 = some q) (t : Option Addr) (len cap f k : Nat) (hl : len ≤ 1048576) (hk : k < len) (hop : 4 ≤ (l.getD k (0, 0)).1 ∧ (l.getD k (0, 0)).1 ≤ 10) (HB : ∀ r, r < k → (textG l f r).length ≤ 40000000)
    (IH : ∀ r, r < k → TextAt l t len cap f r) : TextAt l t len cap (f + 1) k := by
  intro w hs
  have hlen := hs.1
  obtain ⟨h1, h2⟩ := cnt_step h k (by omega)
  obtain ⟨_, a2, _, _⟩ := fits_iff _ _ _ _ h1
  have har : ar (l.getD k (0, 0)).1 = ((2 : Nat) : Int) := by
    generalize (l.getD k (0, 0)).1 = x at hop
    rcases (show x = 4 ∨ x = 5 ∨ x = 6 ∨ x = 7 ∨ x = 8 ∨ x = 9 ∨ x = 10 by omega) with rfl | rfl | rfl | rfl | rfl | rfl | rfl <;> rfl
  rw [har] at a2
  have hrl := roots_lt h 2 k (by omega) a2
  have hRl : (roots l 2 k).length = 2 := roots_len _ _ _
  have HP : Hid (∀ W, NSl W t len l → Calls Tryd.prog 57 #[.slice t len cap, .int .i64 k] W fun e w' => ∃ v : Value, e = .returned v ∧ w'.ownsRow W.heap.size 3 1 v 2 (ints (roots l 2 k)) ∧ Below W.heap.size W w') := by
    intro W hW
    have := parts_any h t len cap W hW hl k hk
    rw [har] at this
    exact this
  have hv : textG l (f + 1) k = 40 :: textG l f ((roots l 2 k).getD 0 0) ++ signB (l.getD k (0, 0)).1 ++ textG l f ((roots l 2 k).getD 1 0) ++ [41] := by
    show nodeT _ _ = _
    unfold nodeT
    rw [if_neg (by omega), if_neg (by omega), if_neg (by omega), if_neg (by omega), har, Int.toNat_natCast]
    match roots l 2 k, hRl with
    | [r, s], _ => rfl
  rw [hv]
  have hr0 : (roots l 2 k).getD 0 0 < k := getD_lt _ k 0 hrl (by omega)
  have hr1 : (roots l 2 k).getD 1 0 < k := getD_lt _ k 1 hrl (by omega)
  have T0 := IH _ hr0
  have T1 := IH _ hr1
  have B0 : ((textG l f ((roots l 2 k).getD 0 0)).length : Int) ≤ 40000000 := by have := HB _ hr0; omega
  have B1 : ((textG l f ((roots l 2 k).getD 1 0)).length : Int) ≤ 40000000 := by have := HB _ hr1; omega
  have BS : ((signB (l.getD k (0, 0)).1).length : Int) ≤ 2 := by
    unfold signB
    repeat' split
    all_goals simp
  obtain ⟨R, hR⟩ : ∃ R, roots l 2 k = R := ⟨_, rfl⟩
  rw [hR] at T0 B0 T1 B1 HP ⊢
  obtain ⟨b, off, rfl, hbl, hc⟩ := hs.at (by omega)
  have c1 := (hc k hk).1
  have c2 := (hc k hk).2
  have HS : Hid (NSl w (some ⟨b, off, none⟩) len l) := hs
  have SA : Hid (∀ W, NSl W (some ⟨b, off, none⟩) len l → Calls Tryd.prog 42 #[.slice (some ⟨b, off, none⟩) len cap, .int .i64 ((R.getD 0 0 : Nat) : Int)] W fun e w' => e = .returned (.string ⟨(textG l f (R.getD 0 0)).toArray⟩) ∧ Below W.heap.size W w') := T0
  have SB : Hid (∀ W, NSl W (some ⟨b, off, none⟩) len l → Calls Tryd.prog 42 #[.slice (some ⟨b, off, none⟩) len cap, .int .i64 ((R.getD 1 0 : Nat) : Int)] W fun e w' => e = .returned (.string ⟨(textG l f (R.getD 1 0)).toArray⟩) ∧ Below W.heap.size W w') := T1
  have SS : Hid (∀ W, Calls Tryd.prog 58 #[.int .i64 (l.getD k (0, 0)).1] W fun e w' => e = .returned (.string ⟨(signB (l.getD k (0, 0)).1).toArray⟩) ∧ w' = W) := fun W => specSign_any _ W
  clear hc h1 h2 a2 IH hs hrl hv hR HB T0 T1 hr0 hr1 hRl har
  generalize signB (l.getD k (0, 0)).1 = S at SS BS ⊢
  generalize (l.getD k (0, 0)).1 = x at c1 SS hop
  generalize (l.getD k (0, 0)).2 = y at c2
  generalize textG l f (R.getD 0 0) = L at SA B0 ⊢
  generalize textG l f (R.getD 1 0) = M at SB B1 ⊢
  have x1 : (x == 1) = false := by simp; omega
  have x2 : (x == 2) = false := by simp; omega
  have x3 : (x == 3) = false := by simp; omega
  have x11 : (x == 11) = false := by simp; omega
  have g1 : ¬ 9223372036854775807 < 1 + L.length := by omega
  have g2 : ¬ 9223372036854775807 < 1 + L.length + S.length := by omega
  have g3 : ¬ 9223372036854775807 < 1 + L.length + S.length + M.length := by omega
  have g4 : ¬ 9223372036854775807 < 1 + L.length + S.length + M.length + 1 := by omega
  clear hop
  go_enter Tryd.func42, Tryd.ntmps42
  go_wp2_with fail
  have hb1 := (Below.refl w.heap.size w).alloc (Nat.le_refl _) (.cells #[.int .i64 x, .int .i64 y] 76)
  refine (HP.out _ (HS.out.keep hb1)).mono ?_
  rintro e w2 ⟨v2, rfl, hown, hb2⟩
  obtain ⟨g, cp, rfl, hg, hcell⟩ := own_row hown (by omega)
  have c0 := hcell 0 (by omega)
  have c3 := hcell 1 (by omega)
  have hbw := below_step (Below.refl w.heap.size w) _ hb2
  have n0 := (hb2.cell (p := ⟨w.heap.size, 0, none⟩) (by simp)).trans (show (w.alloc (.cells #[.int .i64 x, .int .i64 y] 76)).cell? ⟨w.heap.size, 0, none⟩ = some (.int .i64 x) by simp [go_sem])
  have hsz : w.heap.size < w2.heap.size := by have := hb2.size; simp at this; omega
  have hW2 := HS.out.keep hbw
  have HB2 : Hid (∀ w', Below w2.heap.size w2 w' → Below w.heap.size w w') := fun w' h' => hbw.trans (h'.mono hbw.size)
  have HW2 : Hid (∀ w', Below w2.heap.size w2 w' → NSl w' (some ⟨b, off, none⟩) len l) := fun w' h' => hW2.keep h'
  clear hown hcell HP hb2 hb1 hbw hW2 HS
  generalize R.getD 0 0 = r0 at SA c0
  generalize R.getD 1 0 = r1 at SB c3
  have KS : Hid (∀ w', Below w2.heap.size w2 w' → w'.cell? ⟨g, 0, none⟩ = some (.int .i64 (r0 : Int)) ∧ w'.cell? ⟨g, 1, none⟩ = some (.int .i64 (r1 : Int)) ∧ w'.cell? ⟨w.heap.size, 0, none⟩ = some (.int .i64 x) ∧ Below w2.heap.size w2 w') := fun w' h' =>
    ⟨(h'.cell (p := ⟨g, 0, none⟩) hg).trans c0, (h'.cell (p := ⟨g, 1, none⟩) hg).trans c3, (h'.cell (p := ⟨w.heap.size, 0, none⟩) hsz).trans n0, h'⟩
  go_wp2_with fail
  go_region_held3 (fun w' => w'.cell? ⟨g, 0, none⟩ = some (.int .i64 (r0 : Int)) ∧ w'.cell? ⟨g, 1, none⟩ = some (.int .i64 (r1 : Int)) ∧ w'.cell? ⟨w.heap.size, 0, none⟩ = some (.int .i64 x) ∧ Below w2.heap.size w2 w')
    ((refine KS.out _ ?_; first | assumption | exact held_b (by assumption) | exact (Below.refl _ _).drew))
    (first
      | (go_at_call_of 42 r0; refine (SA.out _ (HW2.out _ (held_b (by assumption)))).mono ?_; rintro e w4 ⟨rfl, hb4⟩; have hk4 := held_step (by assumption) hb4; clear hb4)
      | (go_at_call_of 42 r1; refine (SB.out _ (HW2.out _ (held_b (by assumption)))).mono ?_; rintro e w5 ⟨rfl, hb5⟩; have hk5 := held_step (by assumption) hb5; clear hb5)
      | (go_at_call 58; refine (SS.out _).mono ?_; rintro e w6 ⟨rfl, rfl⟩))
  all_goals
    go_wp2
    go_ret
    refine ⟨congrArg (fun b => Ending.returned (Value.string b)) (by simp [ByteArray.mk_append_mk]), HB2.out _ ?_⟩
    first | assumption | exact held_b (by assumption)
set_option maxHeartbeats 1600000 in
set_option maxRecDepth 20000 in
theorem text_if {l : List (Int × Int)} {q : Int} (h : pile l 0 = some q) (t : Option Addr) (len cap f k : Nat) (hl : len ≤ 1048576) (hk : k < len) (hop : (l.getD k (0, 0)).1 = 11) (HB : ∀ r, r < k → (textG l f r).length ≤ 40000000)
    (IH : ∀ r, r < k → TextAt l t len cap f r) : TextAt l t len cap (f + 1) k := by
  intro w hs
  have hlen := hs.1
  obtain ⟨h1, h2⟩ := cnt_step h k (by omega)
  obtain ⟨_, a2, _, _⟩ := fits_iff _ _ _ _ h1
  have har : ar (l.getD k (0, 0)).1 = ((3 : Nat) : Int) := by rw [hop]; rfl
  rw [har] at a2
  have hrl := roots_lt h 3 k (by omega) a2
  have hRl : (roots l 3 k).length = 3 := roots_len _ _ _
  have HP : Hid (∀ W, NSl W t len l → Calls Tryd.prog 57 #[.slice t len cap, .int .i64 k] W fun e w' => ∃ v : Value, e = .returned v ∧ w'.ownsRow W.heap.size 3 1 v 3 (ints (roots l 3 k)) ∧ Below W.heap.size W w') := by
    intro W hW
    have := parts_any h t len cap W hW hl k hk
    rw [har] at this
    exact this
  have hv : textG l (f + 1) k = 40 :: textG l f ((roots l 3 k).getD 0 0) ++ (63 :: textG l f ((roots l 3 k).getD 1 0)) ++ (58 :: textG l f ((roots l 3 k).getD 2 0)) ++ [41] := by
    show nodeT _ _ = _
    unfold nodeT
    rw [if_neg (by omega), if_neg (by omega), if_neg (by omega), if_pos hop, har, Int.toNat_natCast]
    match roots l 3 k, hRl with
    | [r, s, u], _ => rfl
  rw [hv]
  have hr0 : (roots l 3 k).getD 0 0 < k := getD_lt _ k 0 hrl (by omega)
  have hr1 : (roots l 3 k).getD 1 0 < k := getD_lt _ k 1 hrl (by omega)
  have hr2 : (roots l 3 k).getD 2 0 < k := getD_lt _ k 2 hrl (by omega)
  have T0 := IH _ hr0
  have T1 := IH _ hr1
  have T2 := IH _ hr2
  have B0 : ((textG l f ((roots l 3 k).getD 0 0)).length : Int) ≤ 40000000 := by have := HB _ hr0; omega
  have B1 : ((textG l f ((roots l 3 k).getD 1 0)).length : Int) ≤ 40000000 := by have := HB _ hr1; omega
  have B2 : ((textG l f ((roots l 3 k).getD 2 0)).length : Int) ≤ 40000000 := by have := HB _ hr2; omega
  obtain ⟨R, hR⟩ : ∃ R, roots l 3 k = R := ⟨_, rfl⟩
  rw [hR] at T0 B0 T1 B1 T2 B2 HP ⊢
  obtain ⟨b, off, rfl, hbl, hc⟩ := hs.at (by omega)
  have c1 := (hc k hk).1
  have c2 := (hc k hk).2
  have HS : Hid (NSl w (some ⟨b, off, none⟩) len l) := hs
  have SA : Hid (∀ W, NSl W (some ⟨b, off, none⟩) len l → Calls Tryd.prog 42 #[.slice (some ⟨b, off, none⟩) len cap, .int .i64 ((R.getD 0 0 : Nat) : Int)] W fun e w' => e = .returned (.string ⟨(textG l f (R.getD 0 0)).toArray⟩) ∧ Below W.heap.size W w') := T0
  have SB : Hid (∀ W, NSl W (some ⟨b, off, none⟩) len l → Calls Tryd.prog 42 #[.slice (some ⟨b, off, none⟩) len cap, .int .i64 ((R.getD 1 0 : Nat) : Int)] W fun e w' => e = .returned (.string ⟨(textG l f (R.getD 1 0)).toArray⟩) ∧ Below W.heap.size W w') := T1
  have SC : Hid (∀ W, NSl W (some ⟨b, off, none⟩) len l → Calls Tryd.prog 42 #[.slice (some ⟨b, off, none⟩) len cap, .int .i64 ((R.getD 2 0 : Nat) : Int)] W fun e w' => e = .returned (.string ⟨(textG l f (R.getD 2 0)).toArray⟩) ∧ Below W.heap.size W w') := T2
  clear hc h1 h2 a2 IH hs hrl hv hR HB T0 T1 T2 hr0 hr1 hr2 hRl har
  rw [hop] at c1
  generalize (l.getD k (0, 0)).2 = y at c2
  generalize textG l f (R.getD 0 0) = L at SA B0 ⊢
  generalize textG l f (R.getD 1 0) = M at SB B1 ⊢
  generalize textG l f (R.getD 2 0) = O at SC B2 ⊢
  have g1 : ¬ 9223372036854775807 < 1 + L.length := by omega
  have g2 : ¬ 9223372036854775807 < 1 + L.length + 1 := by omega
  have g3 : ¬ 9223372036854775807 < 1 + L.length + 1 + M.length := by omega
  have g4 : ¬ 9223372036854775807 < 1 + L.length + 1 + M.length + 1 := by omega
  have g5 : ¬ 9223372036854775807 < 1 + L.length + 1 + M.length + 1 + O.length := by omega
  have g6 : ¬ 9223372036854775807 < 1 + L.length + 1 + M.length + 1 + O.length + 1 := by omega
  clear hop
  go_enter Tryd.func42, Tryd.ntmps42
  go_wp2_with fail
  have hb1 := (Below.refl w.heap.size w).alloc (Nat.le_refl _) (.cells #[.int .i64 11, .int .i64 y] 76)
  refine (HP.out _ (HS.out.keep hb1)).mono ?_
  rintro e w2 ⟨v2, rfl, hown, hb2⟩
  obtain ⟨g, cp, rfl, hg, hcell⟩ := own_row hown (by omega)
  have c0 := hcell 0 (by omega)
  have c3 := hcell 1 (by omega)
  have c4 := hcell 2 (by omega)
  have hbw := below_step (Below.refl w.heap.size w) _ hb2
  have n0 := (hb2.cell (p := ⟨w.heap.size, 0, none⟩) (by simp)).trans (show (w.alloc (.cells #[.int .i64 11, .int .i64 y] 76)).cell? ⟨w.heap.size, 0, none⟩ = some (.int .i64 11) by simp [go_sem])
  have hsz : w.heap.size < w2.heap.size := by have := hb2.size; simp at this; omega
  have hW2 := HS.out.keep hbw
  have HB2 : Hid (∀ w', Below w2.heap.size w2 w' → Below w.heap.size w w') := fun w' h' => hbw.trans (h'.mono hbw.size)
  have HW2 : Hid (∀ w', Below w2.heap.size w2 w' → NSl w' (some ⟨b, off, none⟩) len l) := fun w' h' => hW2.keep h'
  clear hown hcell HP hb2 hb1 hbw hW2 HS
  generalize R.getD 0 0 = r0 at SA c0
  generalize R.getD 1 0 = r1 at SB c3
  generalize R.getD 2 0 = r2 at SC c4
  have KS : Hid (∀ w', Below w2.heap.size w2 w' → w'.cell? ⟨g, 0, none⟩ = some (.int .i64 (r0 : Int)) ∧ w'.cell? ⟨g, 1, none⟩ = some (.int .i64 (r1 : Int)) ∧ w'.cell? ⟨g, 2, none⟩ = some (.int .i64 (r2 : Int)) ∧ Below w2.heap.size w2 w') := fun w' h' =>
    ⟨(h'.cell (p := ⟨g, 0, none⟩) hg).trans c0, (h'.cell (p := ⟨g, 1, none⟩) hg).trans c3, (h'.cell (p := ⟨g, 2, none⟩) hg).trans c4, h'⟩
  go_wp2_with fail
  go_region_held3 (fun w' => w'.cell? ⟨g, 0, none⟩ = some (.int .i64 (r0 : Int)) ∧ w'.cell? ⟨g, 1, none⟩ = some (.int .i64 (r1 : Int)) ∧ w'.cell? ⟨g, 2, none⟩ = some (.int .i64 (r2 : Int)) ∧ Below w2.heap.size w2 w')
    ((refine KS.out _ ?_; first | assumption | exact held_b (by assumption) | exact (Below.refl _ _).drew))
    (first
      | (go_at_call_of 42 r0; refine (SA.out _ (HW2.out _ (held_b (by assumption)))).mono ?_; rintro e w4 ⟨rfl, hb4⟩; have hk4 := held_step (by assumption) hb4; clear hb4)
      | (go_at_call_of 42 r1; refine (SB.out _ (HW2.out _ (held_b (by assumption)))).mono ?_; rintro e w5 ⟨rfl, hb5⟩; have hk5 := held_step (by assumption) hb5; clear hb5)
      | (go_at_call_of 42 r2; refine (SC.out _ (HW2.out _ (held_b (by assumption)))).mono ?_; rintro e w6 ⟨rfl, hb6⟩; have hk6 := held_step (by assumption) hb6; clear hb6))
  all_goals
    go_wp2
    go_ret
    refine ⟨congrArg (fun b => Ending.returned (Value.string b)) (by simp [ByteArray.mk_append_mk]), HB2.out _ ?_⟩
    first | assumption | exact held_b (by assumption)

theorem itoa_len (n : Int) (h : InI n) : (Lib.itoa n).length ≤ 20 := by
  obtain ⟨h0, h1⟩ := h
  unfold Lib.itoa
  split
  · have := dec_len 19 n.natAbs (by decide) (by omega)
    simp only [List.length_cons]; omega
  · exact dec_len 20 n.toNat (by decide) (by omega)
theorem text_any {l : List (Int × Int)} {q : Int} (h : pile l 0 = some q) (hn : InN l) (t : Option Addr) (len cap : Nat) (hl : len ≤ 1048576) (hll : l.length = len) : ∀ (f k : Nat), k < f → k < len → TextAt l t len cap f k := by
  intro f
  induction f with
  | zero => intro k hk; omega
  | succ f ih =>
    intro k hk hkl
    obtain ⟨h1, _⟩ := cnt_step h k (by omega)
    obtain ⟨a1, a2, a3, _⟩ := fits_iff _ _ _ _ h1
    have IH : ∀ r, r < k → TextAt l t len cap f r := fun r hr => ih r (by omega) (by omega)
    have HB : ∀ r, r < k → (textG l f r).length ≤ 40000000 := fun r hr => by
      have := textG_len h (fun j hj => itoa_len _ (hn j)) (r + 1) r (by omega) (by omega) f (by omega)
      omega
    rcases ops (l.getD k (0, 0)).1 with h0 | h0 | h0 | h0 | h0 | h0 | h0 | h0 | h0 | h0 | h0 | h0
    · exfalso; have := ar_out (l.getD k (0, 0)).1 h0; omega
    · exact text_num t len cap f k hkl hn h0
    · exact text_var t len cap f k hkl h0 (a3 h0)
    · exact text_neg h t len cap f k hl hkl h0 HB IH
    · exact text_two h t len cap f k hl hkl (by omega) HB IH
    · exact text_two h t len cap f k hl hkl (by omega) HB IH
    · exact text_two h t len cap f k hl hkl (by omega) HB IH
    · exact text_two h t len cap f k hl hkl (by omega) HB IH
    · exact text_two h t len cap f k hl hkl (by omega) HB IH
    · exact text_two h t len cap f k hl hkl (by omega) HB IH
    · exact text_two h t len cap f k hl hkl (by omega) HB IH
    · exact text_if h t len cap f k hl hkl h0 HB IH
/-- What is told of a term: its text, or none. -/
def termT (l : List (Int × Int)) : List UInt8 := if goodB l = true then textT l else []
end Go.Proofs.YtbchehpggoampaaDoor
