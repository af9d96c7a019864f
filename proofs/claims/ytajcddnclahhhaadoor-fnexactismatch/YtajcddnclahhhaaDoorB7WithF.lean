/-
  PROVED HERE: what the program's function over a bind answers, at every node, where the function that it asks for all else is a shelf's find. No other condition.
-/
import Derived.Test.YtajcddnclahhhaaDoorBindAll
import Derived.Test.YtajcddnclahhhaaDoorA6FindI
import Derived.Test.YtajcddnclahhhaaDoorShelfAll
namespace Go.Proofs.YtajcddnclahhhaaDoor
open Go.ChangeShapes Go.WideShapes Go.ChangeAt Go.RowKit
set_option linter.unusedVariables false

/-- Variables come to what the bind has, where that is a class; all else to what is found. -/
def clsBf (bs : List Int) : Cls := fun g n kids => if n.1 = 2 then (if clB g.2 (bs.getD n.2.toNat 0) = true then some (g, bs.getD n.2.toNat 0) else none) else clsFi g n kids
theorem clsBf_keeps (bs : List Int) : Keeps (clsBf bs) := ⟨fun g n kids r hg h120 hf hr => by
  unfold clsBf at hr
  by_cases h2 : n.1 = 2
  · rw [if_pos h2] at hr
    by_cases hc : clB g.2 (bs.getD n.2.toNat 0) = true
    · rw [if_pos hc] at hr
      cases hr
      exact ⟨hg, (isCl_iff hg _).1 hc, fun c h => h, h120⟩
    · rw [if_neg hc] at hr
      cases hr
  · rw [if_neg h2] at hr
    exact clsFi_keeps.good g n kids r hg h120 hf hr⟩
set_option maxHeartbeats 1600000 in
set_option maxRecDepth 20000 in
theorem withFind_any (N s m pb pc vb vo cv : Nat) (bs : List Int) (hbl : bs.length = 4) (W : World) (S : Nat → Prop) (g : GS) (n : Int × Int) (a : Option Addr) (ml cap : Nat) (kids : List Int) (hR : ShelfB N s m pb pc vb vo cv (.func (.func 57) #[.pointer (some ⟨s, 0, none⟩)] #[]) bs W S g) (hg : GoodG g) (h120 : g.1.length ≤ 120) (hk : Sl W a ml kids) (ha : ∀ x, (Value.slice a ml ml).ownBlock = some x → ¬ S x) (hf : NFits g n kids) :
    Calls Tryd.prog 82 #[.agg #[.int .i64 n.1, .int .i64 n.2, .slice a ml cap], .pointer (some ⟨pb, 0, none⟩), .pointer (some ⟨pc, 0, none⟩)] W fun e w' => e = .returned (.tuple #[.int .i64 (((clsBf bs g n kids).map (fun r => r.2)).getD (dflB n)), .bool (clsBf bs g n kids).isSome]) ∧ KB S W w' ∧ ∀ r, clsBf bs g n kids = some r → ShelfB N s m pb pc vb vo cv (.func (.func 57) #[.pointer (some ⟨s, 0, none⟩)] #[]) bs w' (fun b => S b ∨ W.heap.size ≤ b) r.1 := by
  obtain ⟨op, nn⟩ := n
  obtain ⟨W1, hW1⟩ : ∃ W1, W.alloc (.cells #[.int .i64 op, .int .i64 nn, .slice a ml cap] 98) = W1 := ⟨_, rfl⟩
  have hb1 : Below W.heap.size W W1 := by rw [← hW1]; exact (Below.refl _ _).alloc (Nat.le_refl _) _
  have hs1 : W1.heap.size = W.heap.size + 1 := by rw [← hW1]; simp
  have n0 : W1.cell? ⟨W.heap.size, 0, none⟩ = some (.int .i64 op) := by rw [← hW1]; simp [go_sem]
  have n1 : W1.cell? ⟨W.heap.size, 1, none⟩ = some (.int .i64 nn) := by rw [← hW1]; simp [go_sem]
  have n2 : W1.cell? ⟨W.heap.size, 2, none⟩ = some (.slice a ml cap) := by rw [← hW1]; simp [go_sem]
  obtain ⟨S0, hSh, hS0, hBx, hCl⟩ := id hR
  obtain ⟨b1, b2, b3, ⟨l1', l2', l3'⟩, l4⟩ := id hBx
  have l1 : pb < W.heap.size := by omega
  have l2 : pc < W.heap.size := by omega
  have l3 : vb < W.heap.size := by omega
  have q1 : W1.cell? ⟨pb, 0, none⟩ = some (.slice (some ⟨vb, vo, none⟩) 4 cv) := (hb1.cell (p := ⟨pb, 0, none⟩) l1).trans b1
  have q2 := (hb1.cell (p := ⟨pc, 0, none⟩) l2).trans b2
  have hne1 : pb ≠ W.heap.size := by omega
  have hne2 : pc ≠ W.heap.size := by omega
  by_cases h2 : op = 2
  · subst h2
    have hfit : 0 ≤ nn ∧ nn < 4 := by
      have := hf.ok
      unfold nodeOk numFits at this
      simp at this
      omega
    obtain ⟨k, rfl⟩ : ∃ k : Nat, nn = k := ⟨nn.toNat, by omega⟩
    have hk4 : k < 4 := by omega
    have q3 := (hb1.cell (p := ⟨vb, vo + k, none⟩) l3).trans (b3 k hk4)
    have hmem : bs.getD k 0 ∈ bs := by
      rw [List.getD_eq_getElem?_getD, List.getElem?_eq_getElem (by omega)]
      exact List.getElem_mem _
    have hc := hCl _ hmem
    have ecl : clsBf bs g (2, (k : Int)) kids = if clB g.2 (bs.getD k 0) = true then some (g, bs.getD k 0) else none := by
      show (if (2 : Int) = 2 then (if clB g.2 (bs.getD ((k : Int)).toNat 0) = true then some (g, bs.getD ((k : Int)).toNat 0) else none) else clsFi g (2, (k : Int)) kids) = _
      rw [if_pos rfl, Int.toNat_natCast]
    have edf : dflB (2, (k : Int)) = -1 := rfl
    rw [ecl, edf]
    have HFin : Hid (∀ w', Below W1.heap.size W1 w' → KB S W w' ∧ ShelfB N s m pb pc vb vo cv (.func (.func 57) #[.pointer (some ⟨s, 0, none⟩)] #[]) bs w' (fun b => S b ∨ W.heap.size ≤ b) g) := fun w' hw => by
      have hB := hb1.trans (hw.mono hb1.size)
      exact ⟨KB.of hB, hR.map hB.size (fun b _ hl => hB.block b hl) (fun b hb => hB.block b (by omega)) (fun b _ h => .inl h)⟩
    generalize bs.getD k 0 = x at q3 hc ⊢
    have i0 : (0 : Int) ≤ k := by omega
    have i4 : (k : Int) < 4 := by omega
    have q0 := (show Hid _ from hg)
    rcases hc with rfl | hc
    · have e1 : clB g.2 (-1) = false := by unfold clB hasB; rfl
      rw [e1, if_neg (by decide)]
      clear hR hSh hS0 hBx hCl hk ha hf hb1 b1 b2 b3 hmem ecl edf hfit
      go_enter Tryd.func82, Tryd.ntmps82
      go_wp2_with fail
      (try rw [hW1])
      go_quiet (fail)
      go_wp2
      go_ret2
      exact ⟨rfl, (HFin.out _ (below_drawn (Below.refl _ _) _)).1, fun r hr => by cases hr⟩
    · have e1 := (isCl_iff hg x).2 hc
      have e2 : x ≠ -1 := fun e => by rw [e] at hc; exact absurd hc.1 (by decide)
      rw [e1, if_pos rfl]
      have i9 : (x != -1) = true := by simpa using e2
      have i8 : ¬ x = -1 := e2
      clear hR hSh hS0 hBx hCl hk ha hf hb1 b1 b2 b3 hmem ecl edf hfit
      go_enter Tryd.func82, Tryd.ntmps82
      go_wp2_with fail
      (try rw [hW1])
      go_quiet (fail)
      go_wp2
      go_ret2
      exact ⟨rfl, (HFin.out _ (below_drawn (Below.refl _ _) _)).1, fun r hr => by cases hr; exact (HFin.out _ (below_drawn (Below.refl _ _) _)).2⟩
  · have ecl : clsBf bs g (op, nn) kids = clsFi g (op, nn) kids := by unfold clsBf; rw [if_neg h2]
    have edf : dflB (op, nn) = 0 := by unfold dflB; rw [if_neg h2]
    rw [ecl, edf]
    obtain ⟨hfi, hks⟩ := nfits_fits hf
    have HP := find_any s m S0 g op nn a ml cap kids W1 (hSh.keep hb1) hg (by omega) (hk.keep hb1) hfi
    rw [hks] at HP
    have eR : (clsFi g (op, nn) kids).map (fun r => r.2) = findL g.1 g.2 (op, nn, kids) := by
      unfold clsFi
      cases findL g.1 g.2 (op, nn, kids) <;> rfl
    have eS : (clsFi g (op, nn) kids).isSome = (findL g.1 g.2 (op, nn, kids)).isSome := by
      unfold clsFi
      cases findL g.1 g.2 (op, nn, kids) <;> rfl
    have eG : ∀ r, clsFi g (op, nn) kids = some r → r.1 = g := fun r hr => by
      unfold clsFi at hr
      cases hfl : findL g.1 g.2 (op, nn, kids) with
      | none => rw [hfl] at hr; cases hr
      | some v => rw [hfl] at hr; cases hr; rfl
    rw [eR, eS]
    have HP := (show Hid _ from HP)
    have i2 : (op == 2) = false := by simpa using h2
    have HFin : Hid (∀ w', Below W1.heap.size W1 w' → KB S W w' ∧ ∀ r, clsFi g (op, nn) kids = some r → ShelfB N s m pb pc vb vo cv (.func (.func 57) #[.pointer (some ⟨s, 0, none⟩)] #[]) bs w' (fun b => S b ∨ W.heap.size ≤ b) r.1) := fun w' hw => by
      have hB := hb1.trans (hw.mono hb1.size)
      exact ⟨KB.of hB, fun r hr => by rw [eG r hr]; exact hR.map hB.size (fun b _ hl => hB.block b hl) (fun b hb => hB.block b (by omega)) (fun b _ h => .inl h)⟩
    clear hR hSh hS0 hBx hCl hk ha hf hb1 b1 b2 b3 ecl edf hfi hks h2 eR eS eG
    go_enter Tryd.func82, Tryd.ntmps82
    go_wp2_with fail
    (try rw [hW1])
    refine Calls.mono HP.out ?_
    rintro e w2 ⟨rfl, hb2⟩
    obtain ⟨hK, hF⟩ := HFin.out w2 hb2
    have HE := (show Hid _ from hK)
    have HS := (show Hid _ from hF)
    clear HP HFin hb2 hK hF hW1
    go_wp2
    go_ret2
    exact ⟨rfl, HE.out, HS.out⟩
end Go.Proofs.YtajcddnclahhhaaDoor
