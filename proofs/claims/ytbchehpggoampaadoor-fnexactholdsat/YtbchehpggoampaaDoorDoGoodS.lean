/-
  PROVED HERE: what the model's l1Do answers at every op and list that fits. No other condition.
-/
import Derived.Test.YtbchehpggoampaaDoorDoSpec
namespace Go.Proofs.YtbchehpggoampaaDoor
open Go.ChangeShapes Go.WideShapes Go.ChangeAt Go.RowKit
open Odd
set_option linter.unusedVariables false

theorem l1Do_good (op : Int) (a : Option Addr) (len cap : Nat) (l : List Int) (w : World) (h : 3 ≤ op ∧ op ≤ 11) (hs : Sl w a len l) (hl : ar op = len) :
    Calls Tryd.prog 64 #[.int .i64 op, .slice a len cap] w fun e w' => e = .returned (.tuple #[.int .i64 (dv op (l.getD 0 0) (l.getD 1 0) (l.getD 2 0)), .bool (dt op (l.getD 1 0))]) ∧ Below w.heap.size w w' := by
  rcases ops op with h1 | rfl | rfl | rfl | rfl | rfl | rfl | rfl | rfl | rfl | rfl | rfl
  · omega
  · omega
  · omega
  · obtain rfl : len = 1 := by have e0 : ar 3 = 1 := rfl; omega
    obtain ⟨b, off, rfl, hc⟩ := cells_of hs (by decide)
    exact specDo3 b off cap _ w (hc 0 (by decide))
  · obtain rfl : len = 2 := by have e0 : ar 4 = 2 := rfl; omega
    obtain ⟨b, off, rfl, hc⟩ := cells_of hs (by decide)
    exact specDo4 b off cap _ _ w (hc 0 (by decide)) (hc 1 (by decide))
  · obtain rfl : len = 2 := by have e0 : ar 5 = 2 := rfl; omega
    obtain ⟨b, off, rfl, hc⟩ := cells_of hs (by decide)
    exact specDo5 b off cap _ _ w (hc 0 (by decide)) (hc 1 (by decide))
  · obtain rfl : len = 2 := by have e0 : ar 6 = 2 := rfl; omega
    obtain ⟨b, off, rfl, hc⟩ := cells_of hs (by decide)
    exact specDo6 b off cap _ _ w (hc 0 (by decide)) (hc 1 (by decide))
  · obtain rfl : len = 2 := by have e0 : ar 7 = 2 := rfl; omega
    obtain ⟨b, off, rfl, hc⟩ := cells_of hs (by decide)
    exact specDo7 b off cap _ _ w (hc 0 (by decide)) (hc 1 (by decide))
  · obtain rfl : len = 2 := by have e0 : ar 8 = 2 := rfl; omega
    obtain ⟨b, off, rfl, hc⟩ := cells_of hs (by decide)
    by_cases hy : l.getD 1 0 = 0
    · have c1 := hc 1 (by decide)
      rw [hy] at c1 ⊢
      exact specDo8zero b off cap _ w (hc 0 (by decide)) c1
    · have e1 : dv 8 (l.getD 0 0) (l.getD 1 0) (l.getD 2 0) = wrap64 ((l.getD 0 0).tdiv (l.getD 1 0)) := by
        show (if l.getD 1 0 = 0 then 0 else _) = _
        rw [if_neg hy]
      have e2 : dt 8 (l.getD 1 0) = false := by
        show ((l.getD 1 0) == 0) = false
        simpa using hy
      rw [e1, e2]
      exact specDo8any b off cap _ _ w hy (hc 0 (by decide)) (hc 1 (by decide))
  · obtain rfl : len = 2 := by have e0 : ar 9 = 2 := rfl; omega
    obtain ⟨b, off, rfl, hc⟩ := cells_of hs (by decide)
    exact specDo9 b off cap _ _ w (hc 0 (by decide)) (hc 1 (by decide))
  · obtain rfl : len = 2 := by have e0 : ar 10 = 2 := rfl; omega
    obtain ⟨b, off, rfl, hc⟩ := cells_of hs (by decide)
    exact specDo10 b off cap _ _ w (hc 0 (by decide)) (hc 1 (by decide))
  · obtain rfl : len = 3 := by have e0 : ar 11 = 3 := rfl; omega
    obtain ⟨b, off, rfl, hc⟩ := cells_of hs (by decide)
    exact specDo11 b off cap _ _ _ w (hc 0 (by decide)) (hc 1 (by decide)) (hc 2 (by decide))
end Go.Proofs.YtbchehpggoampaaDoor
