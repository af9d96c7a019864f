/-
  PROVED HERE: what the model says that the tree of a node comes to, at every list of nodes whose pile never runs out, every node of it and every four values. No other condition.
-/
import Derived.Test.YtbchehpggoampaaDoorEval
namespace Go.Proofs.YtbchehpggoampaaDoor
open Go.ChangeShapes Go.WideShapes Go.ChangeAt Go.RowKit
set_option linter.unusedVariables false

set_option maxHeartbeats 3200000 in
theorem eval_do {l : List (Int × Int)} {q : Int} (h : pile l 0 = some q) (env : List Int) (t : Option Addr) (len cap : Nat) (v : Option Addr) (cap' f k : Nat) (hl : len ≤ 1048576) (hk : k < len) (hop : 3 ≤ (l.getD k (0, 0)).1 ∧ (l.getD k (0, 0)).1 ≤ 10)
    (IH : ∀ r, r < k → EvalAt l env t len cap v cap' f r) : EvalAt l env t len cap v cap' (f + 1) k := by
  intro w hs he
  have hlen := hs.1
  obtain ⟨i64, hi, hz0, hz1, hz2⟩ := info_parts info2
  obtain ⟨h1, h2⟩ := cnt_step h k (by omega)
  obtain ⟨_, a2, _, _⟩ := fits_iff _ _ _ _ h1
  have har := ar_range (l.getD k (0, 0)).1
  obtain ⟨m, hm⟩ : ∃ m : Nat, ar (l.getD k (0, 0)).1 = m := ⟨(ar (l.getD k (0, 0)).1).toNat, by omega⟩
  have hm3 : m ≤ 3 := by omega
  have hrl := roots_lt h m k (by omega) (by rw [← hm]; exact a2)
  have hRl : (roots l m k).length = m := roots_len _ _ _
  have HP : ∀ W, NSl W t len l → Calls Tryd.prog 57 #[.slice t len cap, .int .i64 k] W fun e w' => ∃ v : Value, e = .returned v ∧ w'.ownsRow W.heap.size 3 1 v m (ints (roots l m k)) ∧ Below W.heap.size W w' := by
    intro W hW
    have := parts_any h t len cap W hW hl k hk
    rw [hm, Int.toNat_natCast] at this
    exact this
  have hv : evalF l env (f + 1) k = allO (l.getD k (0, 0)).1 (seqO (evalF l env f) (roots l m k)) := by
    rw [evalF, if_neg (by omega), if_neg (by omega), if_neg (by omega), hm, Int.toNat_natCast]
  rw [hv]
  clear hv
  obtain ⟨R, hR⟩ : ∃ R, roots l m k = R := ⟨_, rfl⟩
  rw [hR] at hrl hRl HP ⊢
  have EV : ∀ i, i < m → ∀ W, NSl W t len l → Sl W v 4 env → Calls Tryd.prog 50 #[.slice t len cap, .int .i64 (R.getD i 0 : Nat), .slice v 4 cap'] W fun e w' => e = .returned (.tuple #[.int .i64 (valO (evalF l env f (R.getD i 0))), .bool (trapO (evalF l env f (R.getD i 0)))]) ∧ Below W.heap.size W w' :=
    fun i hi' => IH (R.getD i 0) (getD_lt R k i hrl (by omega))
  have HD : ∀ (xs : List Int) (W : World) (a : Option Addr) (c : Nat), Sl W a m xs → Calls Tryd.prog 64 #[.int .i64 (l.getD k (0, 0)).1, .slice a m c] W fun e w' => e = .returned (.tuple #[.int .i64 (valO (doO (l.getD k (0, 0)).1 xs)), .bool (trapO (doO (l.getD k (0, 0)).1 xs))]) ∧ Below W.heap.size W w' := by
    intro xs W a c hS
    rw [(do_val _ _).1, (do_val _ _).2]
    exact l1Do_good _ a m c xs W (by omega) hS hm
  have hop1 : ((l.getD k (0, 0)).1 == 1) = false := by rw [beq_eq_false_iff_ne]; omega
  have hop2 : ((l.getD k (0, 0)).1 == 2) = false := by rw [beq_eq_false_iff_ne]; omega
  have hop3 : ((l.getD k (0, 0)).1 == 11) = false := by rw [beq_eq_false_iff_ne]; omega
  have hm0 : 1 ≤ m := by
    have : 1 ≤ ar (l.getD k (0, 0)).1 := by
      generalize (l.getD k (0, 0)).1 = x at hop
      rcases ops x with h0 | rfl | rfl | rfl | rfl | rfl | rfl | rfl | rfl | rfl | rfl | rfl <;> first | omega | decide
    omega
  obtain ⟨b, off, rfl, hbl, hc⟩ := hs.at (by omega)
  have c1 := (hc k hk).1
  have c2 := (hc k hk).2
  clear hc hop IH h1 h2 a2 hrl hm har
  generalize evalF l env f = gg at EV ⊢
  generalize (l.getD k (0, 0)).1 = x at *
  generalize (l.getD k (0, 0)).2 = y at *
  obtain ⟨V, hV⟩ : ∃ V, valO (allO x (seqO gg R)) = V := ⟨_, rfl⟩
  obtain ⟨T, hT⟩ : ∃ T, trapO (allO x (seqO gg R)) = T := ⟨_, rfl⟩
  rw [hV, hT]
  have HP' := (show Hid _ from HP)
  have EV' := (show Hid _ from EV)
  have HD' := (show Hid _ from HD)
  have HV := (show Hid _ from hV)
  have HT := (show Hid _ from hT)
  clear HP EV HD hV hT
  have hb0 : Below w.heap.size w (w.alloc (.cells #[.int .i64 x, .int .i64 y] 76)) := (Below.refl _ _).alloc (Nat.le_refl _) _
  have hs0 := hs.keep hb0
  have he0 := he.keep hb0
  clear hs he
  go_enter Tryd.func50, Tryd.ntmps50
  go_wp2_with fail
  refine (HP'.out _ hs0).mono ?_
  rintro e w2 ⟨v2, rfl, hown, hb2⟩
  obtain ⟨g, cp, rfl, hg, hcell⟩ := own_row hown (by omega)
  clear hown HP'
  have cl : w2.cell? ⟨w.heap.size, 0, none⟩ = some (.int .i64 x) := (hb2.cell (p := ⟨w.heap.size, 0, none⟩) (by simp)).trans (by simp [go_sem])
  have hl2 : w.heap.size < w2.heap.size := by have := hb2.size; simp at this; omega
  have hs2 := hs0.keep hb2
  have he2 := he0.keep hb2
  have hB2 := hb0.trans (hb2.mono hb0.size)
  have HC : Hid (∀ i, i < m → w2.cell? ⟨g, i, none⟩ = some (.int .i64 (R.getD i 0 : Nat))) := hcell
  clear hs0 he0 hb0 hb2 hcell
  go_wp2_with fail
  go_loopw [12, 72] (fun o i wr => ∃ (n : Nat) (ys : List Int), n ≤ m ∧ i = .int .i64 n ∧ Hid (seqO gg (R.take n) = some ys) ∧ wr.ownsRow w2.heap.size 2 1 o n (vals ys) ∧ Below w2.heap.size w2 wr) (fun _ i _ => m - (intOf i).toNat)
  case atStart => exact ⟨0, [], Nat.zero_le _, rfl, rfl, World.ownsRow_nil _ _ _ _, Below.refl _ _⟩
  case round =>
    obtain ⟨n, ys, hn, rfl, hys, hrow, hbr⟩ := hrel
    by_cases hlt : n < m
    · have cg : wr.cell? ⟨g, n, none⟩ = some (.int .i64 (R.getD n 0 : Nat)) := (hbr.cell (p := ⟨g, n, none⟩) hg).trans (HC.out n hlt)
      have E := EV'.out n hlt
      have hnR : n < R.length := by omega
      cases hz : gg (R.getD n 0) with
      | none =>
        have HN := (show Hid _ from seqO_stop gg R n ys hnR hys.out hz)
        rw [hz, show valO none = 0 from rfl, show trapO none = true from rfl] at E
        clear hz hnR
        generalize R.getD n 0 = r at cg E
        have G := (show Hid _ from E)
        clear E
        go_wp2_with fail
        refine (G.out _ (hs2.keep hbr) (he2.keep hbr)).mono ?_
        rintro e w3 ⟨rfl, hb3⟩
        have hbr3 := hbr.trans (hb3.mono hbr.size)
        have hB3 := hB2.trans (hbr3.mono (by omega))
        clear hrow hb3 cg G
        go_wp2
        go_ret2
        refine ⟨?_, hB3⟩
        rw [← HV.out, ← HT.out, HN.out]
        rfl
      | some z =>
        have HN := (show Hid _ from seqO_next gg R n ys z hnR hys.out hz)
        rw [hz, show valO (some z) = z from rfl, show trapO (some z) = false from rfl] at E
        clear hz hnR
        generalize R.getD n 0 = r at cg E
        have G := (show Hid _ from E)
        clear E
        go_wp2_with fail
        refine (G.out _ (hs2.keep hbr) (he2.keep hbr)).mono ?_
        rintro e w3 ⟨rfl, hb3⟩
        have hrow3 := hrow.kept (grown_of hb3) (by cases hv : u12.ownBlock <;> simp)
        have hbr3 := hbr.trans (hb3.mono hbr.size)
        clear hrow hb3 cg G
        have hsz3 := hbr3.size
        go_wp2_with (at_builtin; refine wpList_append_own _ rfl _ _ 47 rfl w2.heap.size 2 i64 (.int .i64 0) 1 8 Tryd.underlying47 hi hz0 hz1 hz2 rfl (by decide) _ _ _ rfl (hrow3.alloc _) ⟨w3.heap.size, 0, none⟩ 1 1 [_] rfl rfl (cell_new1 _ _ _ _) (one_cell1 _ _) (by unfold maxLen; omega) (by omega) (by simp; omega) ?_; intro v' w4 hown4 hg4 _)
        go_roundw
        case rel =>
          refine ⟨n + 1, _, by omega, by go_num, HN, ?_, ?_⟩
          · simpa [vals] using hown4
          · exact (hbr3.alloc hbr3.size _).grown hg4 (by have := hbr3.size; simp; omega) (own_ge hrow3)
        case measure => simp [intOf]; omega
    · obtain rfl : n = m := by omega
      have HN : seqO gg R = some ys := by have := hys.out; rwa [List.take_of_length_le (by omega)] at this
      have HN' := (show Hid _ from HN)
      clear HN hys
      obtain ⟨av, cv, hve, hsv⟩ := Sl.vals hrow
      have cl' : wr.cell? ⟨w.heap.size, 0, none⟩ = some (.int .i64 x) := (hbr.cell (p := ⟨w.heap.size, 0, none⟩) hl2).trans cl
      have hBr := hB2.trans (hbr.mono (by omega))
      subst hve
      clear hrow cl hB2 hbr
      have D := HD'.out ys
      obtain ⟨V', hV'⟩ : ∃ V, valO (doO x ys) = V := ⟨_, rfl⟩
      obtain ⟨T', hT'⟩ : ∃ T, trapO (doO x ys) = T := ⟨_, rfl⟩
      rw [hV', hT'] at D
      have D' := (show Hid _ from D)
      have HV' := (show Hid _ from hV')
      have HT' := (show Hid _ from hT')
      clear D hV' hT' HD'
      go_wp2_with fail
      refine (D'.out _ _ _ hsv).mono ?_
      rintro e w5 ⟨rfl, hb5⟩
      have hB5 := hBr.trans (hb5.mono hBr.size)
      go_wp2
      go_ret2
      refine ⟨?_, hB5⟩
      rw [← HV.out, ← HT.out, ← HV'.out, ← HT'.out, HN'.out]
      rfl

/-- Every node, with fuel enough. -/
theorem eval_any {l : List (Int × Int)} {q : Int} (h : pile l 0 = some q) (env : List Int) (t : Option Addr) (len cap : Nat) (v : Option Addr) (cap' : Nat) (hl : len ≤ 1048576) (hll : l.length = len) : ∀ (f k : Nat), k < f → k < len → EvalAt l env t len cap v cap' f k
  | 0, _, hf, _ => absurd hf (Nat.not_lt_zero _)
  | f + 1, k, hf, hk => by
    have IH : ∀ r, r < k → EvalAt l env t len cap v cap' f r := fun r hr => eval_any h env t len cap v cap' hl hll f r (by omega) (by omega)
    obtain ⟨h1, h2⟩ := cnt_step h k (by omega)
    obtain ⟨a1, _, _, _⟩ := fits_iff _ _ _ _ h1
    have ho := ops (l.getD k (0, 0)).1
    by_cases o1 : (l.getD k (0, 0)).1 = 1 ∨ (l.getD k (0, 0)).1 = 2
    · exact eval_leaf h env t len cap v cap' f k hk o1
    · by_cases o2 : (l.getD k (0, 0)).1 = 11
      · exact eval_if h env t len cap v cap' f k hl hk o2 IH
      · refine eval_do h env t len cap v cap' f k hl hk ?_ IH
        rcases ho with h0 | h0
        · exfalso
          revert a1 h0
          generalize (l.getD k (0, 0)).1 = x
          intro a1 h0
          have : ar x = -1 := ar_out x h0
          omega
        · omega

end Go.Proofs.YtbchehpggoampaaDoor
