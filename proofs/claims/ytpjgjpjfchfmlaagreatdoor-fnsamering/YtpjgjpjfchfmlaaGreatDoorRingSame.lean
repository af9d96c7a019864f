/-
  PROVED HERE: what the model's IsRing answers, at every list of nodes, in a world whose table of arities is laid. No other condition. the laws' own comparing of sums of products finds the same ones to be the same; and a program's answer is one. No other condition.
-/
import Derived.Test.YtpjgjpjfchfmlaaGreatDoorIPolyEnd
import Derived.Test.YtpjgjpjfchfmlaaGreatDoorPolyMs
import Derived.Test.YtpjgjpjfchfmlaaGreatDoorAhead
import Derived.Test.YtpjgjpjfchfmlaaGreatDoorOrder
namespace Go.Proofs.YtpjgjpjfchfmlaaGreatDoor
open Go.ChangeShapes Go.WideShapes Go.ChangeAt Go.RowKit
set_option linter.unusedVariables false

theorem specIsRing_any (a : Option Addr) (len cap : Nat) (l : List (Int × Int)) (w : World) (h : NSl w a len l) (hm : len ≤ 9223372036854775807) :
    Calls Tryz.prog 10 #[.slice a len cap] w fun e w' => e = .returned (.tuple #[.bool (isRingB l), .bool (goodB l)]) ∧ Below w.heap.size w w' := by
  have hll := h.1
  have HG := (show Hid _ from specGood_any a len cap l w h hm)
  unfold isRingB
  cases hg : goodB l with
  | false =>
    rw [hg] at HG
    go_enter Tryz.func10, Tryz.ntmps10
    go_wp2_with fail
    refine Calls.mono HG.out ?_
    rintro e w1 ⟨rfl, hb1⟩
    clear HG
    go_wp2
    go_ret2
    exact ⟨rfl, hb1⟩
  | true =>
    rw [hg] at HG
    obtain ⟨hp, h1, h40⟩ := good_pile hg
    have HR : Hid (∀ W, Below w.heap.size w W → Calls Tryz.prog 29 #[.slice a len cap] W fun e w' => e = .returned (.bool (ringB l)) ∧ Below W.heap.size W w') := fun W hW => l4Ring_any (fun k hk => good_ops hp k hk) a len cap W (h.keep hW) (by omega)
    generalize ringB l = R at HR
    clear hp
    go_enter Tryz.func10, Tryz.ntmps10
    go_wp2_with fail
    refine Calls.mono HG.out ?_
    rintro e w1 ⟨rfl, hb1⟩
    clear HG
    go_wp2_with fail
    refine Calls.mono (HR.out _ hb1) ?_
    rintro e w2 ⟨rfl, hb2⟩
    have hB := hb1.trans (hb2.mono hb1.size)
    clear HR
    go_wp2
    go_ret2
    exact ⟨by simp, hB⟩
end Go.Proofs.YtpjgjpjfchfmlaaGreatDoor
namespace Go.Proofs.YtpjgjpjfchfmlaaGreatDoor
open Go.ChangeShapes Go.WideShapes Go.ChangeAt Go.RowKit
set_option linter.unusedVariables false

theorem ownV_spec {w : World} {lo : Nat} {v : Value} {q : List Mon} (h : OwnV w lo v q) (hf : ∀ m ∈ q, m.1.length = 4) : SpecV w v q := by
  rcases h with ⟨rfl, a, cap, rfl⟩ | ⟨g, cap, rfl, h2, h3, h4⟩
  · exact ⟨a, cap, rfl, rfl, .inl rfl⟩
  · exact ⟨_, cap, rfl, h4.psl fun i hi => by
      have : q.getD i ([], 0) ∈ q := by rw [List.getD_eq_getElem?_getD, List.getElem?_eq_getElem hi]; exact List.getElem_mem _
      rw [hf _ this]; omega⟩
theorem sameInts_same (a b : Option Addr) (len cap cap' : Nat) (l : List Int) (w : World) (h : Sl w a len l) (h' : Sl w b len l) (hn : len ≤ 1048576) :
    Calls Tryz.prog 33 #[.slice a len cap, .slice b len cap'] w fun e w' => e = .returned (.bool true) ∧ Below w.heap.size w w' := by
  obtain ⟨hlen, hsl⟩ := h
  obtain ⟨_, hsl'⟩ := h'
  have hne : ((len : Int) != len) = false := by simp
  go_enter Tryz.func33, Tryz.ntmps33
  go_wp2
  go_loopw [13] (fun i wr => ∃ (k : Nat), k ≤ len ∧ i = .int .i64 k ∧ Below w.heap.size w wr) (fun i _ => len - (intOf i).toNat)
  case atStart => exact ⟨0, Nat.zero_le _, rfl, Below.refl _ _⟩
  case round =>
    obtain ⟨k, hk, rfl, hbr⟩ := hrel
    by_cases hlt : k < len
    · obtain ⟨b1, off, rfl, hbl, hc⟩ : ∃ b off, a = some ⟨b, off, none⟩ ∧ b < w.heap.size ∧ ∀ i, i < len → w.cell? ⟨b, off + i, none⟩ = some (.int .i64 (l.getD i 0)) := by
        rcases hsl with h0 | h0
        · omega
        · exact h0
      obtain ⟨b2, off', rfl, hbl', hc'⟩ : ∃ b' off, b = some ⟨b', off, none⟩ ∧ b' < w.heap.size ∧ ∀ i, i < len → w.cell? ⟨b', off + i, none⟩ = some (.int .i64 (l.getD i 0)) := by
        rcases hsl' with h0 | h0
        · omega
        · exact h0
      have hck : wr.cell? ⟨b1, off + k, none⟩ = some (.int .i64 (l.getD k 0)) := (hbr.cell (p := ⟨b1, off + k, none⟩) hbl).trans (hc k hlt)
      have hck' : wr.cell? ⟨b2, off' + k, none⟩ = some (.int .i64 (l.getD k 0)) := (hbr.cell (p := ⟨b2, off' + k, none⟩) hbl').trans (hc' k hlt)
      clear hc hc' hsl hsl'
      generalize l.getD k 0 = z at hck hck'
      have hlt' : (k : Int) < len := by omega
      go_wp2
      go_quiet (fail)
      go_wp2
      go_roundw
      case rel => exact ⟨k + 1, by omega, by go_num, below_drewN hbr _⟩
      case measure => simp [intOf]; omega
    · go_wp2
      go_ret
      exact ⟨rfl, hbr⟩

set_option maxHeartbeats 3200000 in
set_option maxRecDepth 20000 in
theorem samePoly_same (u v : Value) (p : List Mon) (w : World) (h : SpecV w u p) (h' : SpecV w v p) (hn : p.length ≤ 1048576) (hp : ∀ m ∈ p, m.1.length = 4) :
    Calls Tryz.prog 11 #[u, v] w fun e w' => e = .returned (.bool true) ∧ Below w.heap.size w w' := by
  obtain ⟨a, ca, rfl, h⟩ := h
  obtain ⟨b, cb, rfl, h'⟩ := h'
  obtain ⟨len, hlen⟩ : ∃ len, p.length = len := ⟨_, rfl⟩
  rw [hlen] at h h' hn ⊢
  have H4 : Hid (∀ k, k < len → (p.getD k ([], 0)).1.length = 4) := fun k hk => hp _ (by rw [List.getD_eq_getElem?_getD, List.getElem?_eq_getElem (by omega)]; exact List.getElem_mem _)
  have HS := (show Hid _ from h)
  have HS' := (show Hid _ from h')
  have hne : ((len : Int) != len) = false := by simp
  clear h h' hp hlen
  go_enter Tryz.func11, Tryz.ntmps11
  go_wp2_with fail
  go_loopw [13] (fun i wr => ∃ (k : Nat), k ≤ len ∧ i = .int .i64 k ∧ Below w.heap.size w wr) (fun i _ => len - (intOf i).toNat)
  case atStart => exact ⟨0, Nat.zero_le _, rfl, Below.refl _ _⟩
  case round =>
    obtain ⟨k, hk, rfl, hbr⟩ := hrel
    by_cases hlt : k < len
    · obtain ⟨b1, o1, rfl, hbl, hc⟩ := (PSl.keep HS.out hbr).at (by omega)
      obtain ⟨b2, o2, rfl, hbl', hc'⟩ := (PSl.keep HS'.out hbr).at (by omega)
      obtain ⟨ai, li, ci, c1, hli, hci, hS, c2⟩ := hc k hlt
      obtain ⟨aj, lj, cj, d1, hlj, hcj, hS', d2⟩ := hc' k hlt
      have e4 := H4.out k hlt
      have hlt' : (k : Int) < len := by omega
      clear hc hc'
      generalize (p.getD k ([], 0)).1 = l at hS hS' e4
      generalize (p.getD k ([], 0)).2 = x at c2 d2
      obtain rfl : li = lj := by have := hS.1; have := hS'.1; omega
      have HE : Hid (∀ z : Ahead wr, Calls Tryz.prog 33 #[.slice ai li ci, .slice aj li cj] z.w fun e w' => e = .returned (.bool true) ∧ Below z.w.heap.size z.w w') := fun z => sameInts_same ai aj li ci cj l z.w (hS.keep z.h) (hS'.keep z.h) (by have := hS.1; omega)
      have k1 : ∀ z : Ahead wr, z.w.cell? ⟨b1, o1 + k * 2, none⟩ = some (.slice ai li ci) := fun z => (z.h.cell (p := ⟨b1, o1 + k * 2, none⟩) hbl).trans c1
      have k2 : ∀ z : Ahead wr, z.w.cell? ⟨b1, o1 + k * 2 + 1, none⟩ = some (.int .i64 x) := fun z => (z.h.cell (p := ⟨b1, o1 + k * 2 + 1, none⟩) hbl).trans c2
      have k3 : ∀ z : Ahead wr, z.w.cell? ⟨b2, o2 + k * 2, none⟩ = some (.slice aj li cj) := fun z => (z.h.cell (p := ⟨b2, o2 + k * 2, none⟩) hbl').trans d1
      have k4 : ∀ z : Ahead wr, z.w.cell? ⟨b2, o2 + k * 2 + 1, none⟩ = some (.int .i64 x) := fun z => (z.h.cell (p := ⟨b2, o2 + k * 2 + 1, none⟩) hbl').trans d2
      have exx : (x != x) = false := by simp
      clear hS hS' c1 c2 d1 d2 e4
      go_wp2_with fail
      have hne := ahead_some wr
      refine wp_region_ahead (by kernel_rfl) (by kernel_rfl) ?_
      repeat (first
        | go_big_quiet_skip
        | (go_big_quiet_want; go_big_quiet_op; first | go_big_quiet_on | (apply Exists.intro; refine ⟨fun x => ?_, ?_⟩; (focus (exact ahead_of (HE.out x))); go_big_quiet_on)))
      refine wpQuiet_nil ?_
      intro _ hw'
      obtain ⟨xq, rfl⟩ := hw'
      have hB := hbr.trans (xq.h.mono hbr.size)
      go_wp2
      go_roundw
      case rel => exact ⟨k + 1, by omega, by go_num, hB⟩
      case measure => simp [intOf]; omega
    · go_wp2
      go_ret
      exact ⟨rfl, hbr⟩
end Go.Proofs.YtpjgjpjfchfmlaaGreatDoor
