/-
  PROVED HERE: a new cursor, and one of some numbers. No condition.
-/
import Derived.Test.YtpjgjpjfchfmlaaCursA
namespace Go.Proofs.Ytpjgjpjfchfmlaa
open Go.ChangeShapes Go.WideShapes Go.ChangeAt Go.RowKit
open Odd
set_option linter.unusedVariables false
attribute [local go_sem] andu255

theorem Bytes.of {w : World} {a : Option Addr} {len cap : Nat} {zs : List Int} (h : IsRow .u8 w a len cap zs) : Bytes w w.heap.size a len := by
  by_cases h0 : len = 0
  · exact .inl h0
  · obtain ⟨b, off, ha, hb, hc⟩ := h.at (by omega)
    refine .inr ⟨b, off, ha, hb, fun i hi => ⟨_, hc i hi, ?_⟩⟩
    have hw : ∀ n ∈ zs, (Lit.int .u8 n).wf = true := by
      rcases h with ⟨_, rfl, _, rfl⟩ | ⟨x, rfl, _, _, _, _, hw⟩
      · omega
      · exact hw
    have hl := h.len
    have hm : (zs.take len).getD i 0 ∈ zs := by
      rw [List.getD_eq_getElem?_getD, List.getElem?_eq_getElem (by omega)]
      exact List.mem_of_mem_take (List.getElem_mem _)
    exact bounds_u8 (hw _ hm)

theorem Bytes.keep {w w' : World} {a : Option Addr} {len : Nat} (h : Bytes w w.heap.size a len) (hb : Below w.heap.size w w') : Bytes w' w'.heap.size a len := by
  rcases h with h0 | ⟨b, off, ha, hlt, hc⟩
  · exact .inl h0
  · refine .inr ⟨b, off, ha, Nat.lt_of_lt_of_le hlt hb.size, fun i hi => ?_⟩
    obtain ⟨z, hz, r⟩ := hc i hi
    exact ⟨z, (hb.cell (p := ⟨b, off + i, none⟩) hlt).trans hz, r⟩

theorem cur_new (w : World) (a : Option Addr) (len cap : Nat) (hb : Bytes w w.heap.size a len) (hl : len ≤ 1048576) :
    Cur (w.alloc (.cells #[.slice a len cap, .int .i64 0, .int .u64 0] 58)) w.heap.size 0 := by
  refine ⟨a, len, cap, 0, hl, by omega, ?_, ?_, ?_, ?_, ?_, ?_⟩
  · rcases hb with h0 | ⟨b, off, ha, hlt, hc⟩
    · exact .inl h0
    · refine .inr ⟨b, off, ha, hlt, fun i hi => ?_⟩
      obtain ⟨z, hz, r⟩ := hc i hi
      exact ⟨z, by rw [World.cell?_alloc_past _ _ _ hlt]; exact hz, r⟩
  all_goals simp [go_sem]

theorem drew_below {w w' : World} {o : Obj} (h : (w.alloc o).grownBy w' (some w.heap.size)) : Below w.heap.size w w' :=
  ((Below.refl _ _).alloc (Nat.le_refl _) o).grown h (by simp) (fun k hk => by cases hk; exact Nat.le_refl _)

theorem among_any (w : World) (c n b cap : Nat) (l : List Int) (h : Cur w c n) (hn : n < 1048576) (hl : 2 ≤ l.length) (hl' : l.length ≤ 200) (hbc : c < b)
    (hcell : ∀ i, i < l.length → w.cell? ⟨b, i, none⟩ = some (.int .i64 (l.getD i 0))) :
    Calls Try.prog 43 #[.pointer (some ⟨c, 0, none⟩), .slice (some ⟨b, 0, none⟩) l.length cap] w fun e w' => ∃ i : Nat, i < l.length ∧ e = .returned (.int .i64 (l.getD i 0)) ∧ Cur w' c (n + 1) ∧ w.grownBy w' (some c) := by
  go_enter Try.func43, Try.ntmps43
  go_wp2_with fail
  refine (pick_any w c n _ h hn (by omega) (by omega)).mono ?_
  rintro e w1 ⟨v, rfl, v0, v1, hc1, hg⟩
  obtain ⟨i, rfl⟩ := Int.eq_ofNat_of_zero_le v0
  have hi : i < l.length := by omega
  have hci : w1.cell? ⟨b, i, none⟩ = some (.int .i64 (l.getD i 0)) := hg.cell (hcell i hi) (by intro e; simp at e; omega)
  clear hcell h
  obtain ⟨z, hz⟩ : ∃ z, l.getD i 0 = z := ⟨_, rfl⟩
  rw [hz] at hci
  have HZ : Hid (l.getD i 0 = z) := hz
  clear hz
  go_wp2
  go_ret
  exact ⟨i, hi, by rw [HZ.out]; rfl, hc1, hg⟩

end Go.Proofs.Ytpjgjpjfchfmlaa
