/-
  PROVED HERE: what the program's function over a bind answers, at every node, where the function that it asks for all else is a shelf's put. No other condition. what the program's function over a bind answers, at every node, where the function that it asks for all else is a shelf's find. No other condition. what the program's function that puts a bind ahead of another answers, at every bind and function. No other condition.
-/
import Derived.Test.YtobgkfpjokfbaaaGreatDoorRun23
import Derived.Test.YtobgkfpjokfbaaaGreatDoorRun24
import Derived.Test.YtobgkfpjokfbaaaGreatDoorRun21
import Derived.Test.YtobgkfpjokfbaaaGreatDoorRun20
import Derived.Test.YtobgkfpjokfbaaaGreatDoorRun19
namespace Go.Proofs.YtobgkfpjokfbaaaGreatDoor
open Go.ChangeShapes Go.WideShapes Go.ChangeAt Go.RowKit
set_option linter.unusedVariables false

/-- Variables come to what the bind has, where that is a class; all else to what it is put to. -/
def clsBp (bs : List Int) : Cls := fun g n kids => if n.1 = 2 then (if clB g.2 (bs.getD n.2.toNat 0) = true then some (g, bs.getD n.2.toNat 0) else none) else clsPu g n kids
def dflB (n : Int × Int) : Int := if n.1 = 2 then -1 else 0
theorem isCl_iff {g : GS} (hg : GoodG g) (c : Int) : clB g.2 c = true ↔ IsCl g c := by
  unfold clB hasB IsCl
  rw [hg.2.1]
  simp only [Bool.and_eq_true, decide_eq_true_eq, beq_iff_eq]
  exact ⟨fun h => ⟨h.1.1, h.1.2, h.2⟩, fun h => ⟨⟨h.1, h.2.1⟩, h.2.2⟩⟩
theorem clsBp_keeps (bs : List Int) : Keeps (clsBp bs) := ⟨fun g n kids r hg h120 hf hr => by
  unfold clsBp at hr
  by_cases h2 : n.1 = 2
  · rw [if_pos h2] at hr
    by_cases hc : clB g.2 (bs.getD n.2.toNat 0) = true
    · rw [if_pos hc] at hr
      cases hr
      exact ⟨hg, (isCl_iff hg _).1 hc, fun c h => h, h120⟩
    · rw [if_neg hc] at hr
      cases hr
  · rw [if_neg h2] at hr
    exact clsPu_keeps.good g n kids r hg h120 hf hr⟩
/-- The boxes of what is handed over to the function, and the bind's row: all of them older than N. -/
def Boxes (w : World) (N pb pc vb vo cv : Nat) (fn : Value) (bs : List Int) : Prop :=
  w.cell? ⟨pb, 0, none⟩ = some (.slice (some ⟨vb, vo, none⟩) 4 cv) ∧ w.cell? ⟨pc, 0, none⟩ = some fn ∧ (∀ i, i < 4 → w.cell? ⟨vb, vo + i, none⟩ = some (.int .i64 (bs.getD i 0))) ∧ (pb < N ∧ pc < N ∧ vb < N) ∧ N ≤ w.heap.size
theorem Boxes.map {w w' : World} {N pb pc vb vo cv : Nat} {fn : Value} {bs : List Int} (h : Boxes w N pb pc vb vo cv fn bs) (hs : w.heap.size ≤ w'.heap.size) (hk : ∀ b, b = pb ∨ b = pc ∨ b = vb → w'.heap[b]? = w.heap[b]?) : Boxes w' N pb pc vb vo cv fn bs := by
  obtain ⟨h1, h2, h3, h4, h5⟩ := h
  exact ⟨(World.cell?_of_block (a := ⟨pb, 0, none⟩) (hk pb (.inl rfl))).trans h1, (World.cell?_of_block (a := ⟨pc, 0, none⟩) (hk pc (.inr (.inl rfl)))).trans h2, fun i hi => (World.cell?_of_block (a := ⟨vb, vo + i, none⟩) (hk vb (.inr (.inr rfl)))).trans (h3 i hi), h4, by omega⟩
/-- A shelf, apart from the boxes, whose graph has the bind's classes. -/
def ShelfB (N s m pb pc vb vo cv : Nat) (fn : Value) (bs : List Int) (w : World) (S : Nat → Prop) (g : GS) : Prop :=
  ∃ S0 : Nat → Prop, Shelf w S0 s m g ∧ (∀ b, S0 b → b < w.heap.size ∧ S b ∧ b ≠ pb ∧ b ≠ pc ∧ b ≠ vb) ∧ Boxes w N pb pc vb vo cv fn bs ∧ ∀ c ∈ bs, c = -1 ∨ IsCl g c
theorem ShelfB.map {N s m pb pc vb vo cv : Nat} {fn : Value} {bs : List Int} {w w' : World} {S S' : Nat → Prop} {g : GS} (h : ShelfB N s m pb pc vb vo cv fn bs w S g) (hs : w.heap.size ≤ w'.heap.size) (hk : ∀ b, S b → b < w.heap.size → w'.heap[b]? = w.heap[b]?) (hN : ∀ b, b < N → w'.heap[b]? = w.heap[b]?) (hS : ∀ b, b < w.heap.size → S b → S' b) : ShelfB N s m pb pc vb vo cv fn bs w' S' g := by
  obtain ⟨S0, h1, h2, h3, h4⟩ := h
  refine ⟨S0, h1.map hs (fun b hb hl => hk b (h2 b hb).2.1 hl) (fun b _ h => h), fun b hb => ?_, h3.map hs (fun b hb => ?_), h4⟩
  · obtain ⟨a1, a2, a3⟩ := h2 b hb
    exact ⟨by omega, hS b a1 a2, a3⟩
  · obtain ⟨-, -, -, ⟨l1, l2, l3⟩, -⟩ := h3
    rcases hb with rfl | rfl | rfl
    · exact hN _ l1
    · exact hN _ l2
    · exact hN _ l3
set_option maxHeartbeats 1600000 in
set_option maxRecDepth 20000 in
theorem withPut_any (N s m pb pc vb vo cv : Nat) (bs : List Int) (hbl : bs.length = 4) (W : World) (S : Nat → Prop) (g : GS) (n : Int × Int) (a : Option Addr) (ml cap : Nat) (kids : List Int) (hR : ShelfB N s m pb pc vb vo cv (.func (.func 59) #[.pointer (some ⟨s, 0, none⟩)] #[]) bs W S g) (hg : GoodG g) (h120 : g.1.length ≤ 120) (hk : Sl W a ml kids) (ha : ∀ x, (Value.slice a ml ml).ownBlock = some x → ¬ S x) (hf : NFits g n kids) :
    Calls Tryz.prog 82 #[.agg #[.int .i64 n.1, .int .i64 n.2, .slice a ml cap], .pointer (some ⟨pb, 0, none⟩), .pointer (some ⟨pc, 0, none⟩)] W fun e w' => e = .returned (.tuple #[.int .i64 (((clsBp bs g n kids).map (fun r => r.2)).getD (dflB n)), .bool (clsBp bs g n kids).isSome]) ∧ KB S W w' ∧ ∀ r, clsBp bs g n kids = some r → ShelfB N s m pb pc vb vo cv (.func (.func 59) #[.pointer (some ⟨s, 0, none⟩)] #[]) bs w' (fun b => S b ∨ W.heap.size ≤ b) r.1 := by
  obtain ⟨op, nn⟩ := n
  obtain ⟨W1, hW1⟩ : ∃ W1, W.alloc (.cells #[.int .i64 op, .int .i64 nn, .slice a ml cap] 80) = W1 := ⟨_, rfl⟩
  have hb1 : Below W.heap.size W W1 := by rw [← hW1]; exact (Below.refl _ _).alloc (Nat.le_refl _) _
  have hs1 : W1.heap.size = W.heap.size + 1 := by rw [← hW1]; simp
  have n0 : W1.cell? ⟨W.heap.size, 0, none⟩ = some (.int .i64 op) := by rw [← hW1]; simp [go_sem]
  have n1 : W1.cell? ⟨W.heap.size, 1, none⟩ = some (.int .i64 nn) := by rw [← hW1]; simp [go_sem]
  have n2 : W1.cell? ⟨W.heap.size, 2, none⟩ = some (.slice a ml cap) := by rw [← hW1]; simp [go_sem]
  obtain ⟨S0, hSh, hS0, hBx, hCl⟩ := id hR
  obtain ⟨b1, b2, b3, ⟨l1', l2', l3'⟩, l4⟩ := id hBx
  have l1 : pb < W.heap.size := by omega
  have l2 : pc < W.heap.size := by omega
  have l3 : vb < W.heap.size := by omega
  have q1 : W1.cell? ⟨pb, 0, none⟩ = some (.slice (some ⟨vb, vo, none⟩) 4 cv) := (hb1.cell (p := ⟨pb, 0, none⟩) l1).trans b1
  have q2 := (hb1.cell (p := ⟨pc, 0, none⟩) l2).trans b2
  have hne1 : pb ≠ W.heap.size := by omega
  have hne2 : pc ≠ W.heap.size := by omega
  by_cases h2 : op = 2
  · subst h2
    have hfit : 0 ≤ nn ∧ nn < 4 := by
      have := hf.ok
      unfold nodeOk numFits at this
      simp at this
      omega
    obtain ⟨k, rfl⟩ : ∃ k : Nat, nn = k := ⟨nn.toNat, by omega⟩
    have hk4 : k < 4 := by omega
    have q3 := (hb1.cell (p := ⟨vb, vo + k, none⟩) l3).trans (b3 k hk4)
    have hmem : bs.getD k 0 ∈ bs := by
      rw [List.getD_eq_getElem?_getD, List.getElem?_eq_getElem (by omega)]
      exact List.getElem_mem _
    have hc := hCl _ hmem
    have ecl : clsBp bs g (2, (k : Int)) kids = if clB g.2 (bs.getD k 0) = true then some (g, bs.getD k 0) else none := by
      show (if (2 : Int) = 2 then (if clB g.2 (bs.getD ((k : Int)).toNat 0) = true then some (g, bs.getD ((k : Int)).toNat 0) else none) else clsPu g (2, (k : Int)) kids) = _
      rw [if_pos rfl, Int.toNat_natCast]
    have edf : dflB (2, (k : Int)) = -1 := rfl
    rw [ecl, edf]
    have HFin : Hid (∀ w', Below W1.heap.size W1 w' → KB S W w' ∧ ShelfB N s m pb pc vb vo cv (.func (.func 59) #[.pointer (some ⟨s, 0, none⟩)] #[]) bs w' (fun b => S b ∨ W.heap.size ≤ b) g) := fun w' hw => by
      have hB := hb1.trans (hw.mono hb1.size)
      exact ⟨KB.of hB, hR.map hB.size (fun b _ hl => hB.block b hl) (fun b hb => hB.block b (by omega)) (fun b _ h => .inl h)⟩
    generalize bs.getD k 0 = x at q3 hc ⊢
    have i0 : (0 : Int) ≤ k := by omega
    have i4 : (k : Int) < 4 := by omega
    have q0 := (show Hid _ from hg)
    rcases hc with rfl | hc
    · have e1 : clB g.2 (-1) = false := by unfold clB hasB; rfl
      rw [e1, if_neg (by decide)]
      clear hR hSh hS0 hBx hCl hk ha hf hb1 b1 b2 b3 hmem ecl edf hfit
      go_enter Tryz.func82, Tryz.ntmps82
      go_wp2_with fail
      (try rw [hW1])
      go_quiet (fail)
      go_wp2
      go_ret2
      exact ⟨rfl, (HFin.out _ (below_drawn (Below.refl _ _) _)).1, fun r hr => by cases hr⟩
    · have e1 := (isCl_iff hg x).2 hc
      have e2 : x ≠ -1 := fun e => by rw [e] at hc; exact absurd hc.1 (by decide)
      rw [e1, if_pos rfl]
      have i9 : (x != -1) = true := by simpa using e2
      have i8 : ¬ x = -1 := e2
      clear hR hSh hS0 hBx hCl hk ha hf hb1 b1 b2 b3 hmem ecl edf hfit
      go_enter Tryz.func82, Tryz.ntmps82
      go_wp2_with fail
      (try rw [hW1])
      go_quiet (fail)
      go_wp2
      go_ret2
      exact ⟨rfl, (HFin.out _ (below_drawn (Below.refl _ _) _)).1, fun r hr => by cases hr; exact (HFin.out _ (below_drawn (Below.refl _ _) _)).2⟩
  · have ecl : clsBp bs g (op, nn) kids = clsPu g (op, nn) kids := by unfold clsBp; rw [if_neg h2]
    have edf : dflB (op, nn) = 0 := by unfold dflB; rw [if_neg h2]
    rw [ecl, edf]
    obtain ⟨hfi, hks⟩ := nfits_fits hf
    have HP := putI_any s m S0 g op nn a ml cap kids W1 (hSh.keep hb1) hg h120 (hk.keep hb1) (fun x hx h => ha x hx (hS0 x h).2.1) hfi
    rw [hks] at HP
    have HP := (show Hid _ from HP)
    have i2 : (op == 2) = false := by simpa using h2
    have HFin : Hid (∀ w', KB S0 W1 w' → KB S W w' ∧ ∀ r, clsPu g (op, nn) kids = some r → Shelf w' (fun b => S0 b ∨ W1.heap.size ≤ b) s m r.1 → ShelfB N s m pb pc vb vo cv (.func (.func 59) #[.pointer (some ⟨s, 0, none⟩)] #[]) bs w' (fun b => S b ∨ W.heap.size ≤ b) r.1) := fun w' hw => by
      have hkb : KB S W w' := (KB.of (S := S) hb1).trans hw (fun x hx h => (hS0 x h).2.1)
      refine ⟨hkb, fun r hr hsh => ⟨fun b => (S0 b ∨ W1.heap.size ≤ b) ∧ b < w'.heap.size, hsh.map (Nat.le_refl _) (fun _ _ _ => rfl) (fun b hl h => ⟨h, hl⟩), fun b hb => ⟨hb.2, ?_, ?_⟩, hBx.map hkb.size (fun b hb => ?_), fun c hc => ?_⟩⟩
      · rcases hb.1 with h | h
        · exact .inl (hS0 b h).2.1
        · exact .inr (by omega)
      · rcases hb.1 with h | h
        · exact (hS0 b h).2.2
        · exact ⟨by omega, by omega, by omega⟩
      · have hbl : b < W.heap.size ∧ ¬ S0 b := by
          rcases hb with rfl | rfl | rfl
          · exact ⟨l1, fun h => (hS0 _ h).2.2.1 rfl⟩
          · exact ⟨l2, fun h => (hS0 _ h).2.2.2.1 rfl⟩
          · exact ⟨l3, fun h => (hS0 _ h).2.2.2.2 rfl⟩
        rw [hw.block b (by omega) hbl.2, hb1.block b hbl.1]
      · rcases hCl c hc with h | h
        · exact .inl h
        · exact .inr ((clsPu_keeps.good g (op, nn) kids r hg h120 hf hr).2.2.1 c h)
    clear hR hSh hS0 hBx hCl hk ha hf hb1 b1 b2 b3 ecl edf hfi hks h2
    go_enter Tryz.func82, Tryz.ntmps82
    go_wp2_with fail
    (try rw [hW1])
    refine Calls.mono HP.out ?_
    rintro e w2 ⟨rfl, hkb, hsh⟩
    obtain ⟨hK, hF⟩ := HFin.out w2 hkb
    have HE := (show Hid _ from hK)
    have HS : Hid (∀ r, clsPu g (op, nn) kids = some r → ShelfB N s m pb pc vb vo cv (.func (.func 59) #[.pointer (some ⟨s, 0, none⟩)] #[]) bs w2 (fun b => S b ∨ W.heap.size ≤ b) r.1) := fun r hr => hF r hr (hsh r hr)
    clear HP HFin hkb hsh hK hF hW1
    go_wp2
    go_ret2
    exact ⟨rfl, HE.out, HS.out⟩
end Go.Proofs.YtobgkfpjokfbaaaGreatDoor
namespace Go.Proofs.YtobgkfpjokfbaaaGreatDoor
open Go.ChangeShapes Go.WideShapes Go.ChangeAt Go.RowKit
set_option linter.unusedVariables false

/-- Variables come to what the bind has, where that is a class; all else to what is found. -/
def clsBf (bs : List Int) : Cls := fun g n kids => if n.1 = 2 then (if clB g.2 (bs.getD n.2.toNat 0) = true then some (g, bs.getD n.2.toNat 0) else none) else clsFi g n kids
theorem clsBf_keeps (bs : List Int) : Keeps (clsBf bs) := ⟨fun g n kids r hg h120 hf hr => by
  unfold clsBf at hr
  by_cases h2 : n.1 = 2
  · rw [if_pos h2] at hr
    by_cases hc : clB g.2 (bs.getD n.2.toNat 0) = true
    · rw [if_pos hc] at hr
      cases hr
      exact ⟨hg, (isCl_iff hg _).1 hc, fun c h => h, h120⟩
    · rw [if_neg hc] at hr
      cases hr
  · rw [if_neg h2] at hr
    exact clsFi_keeps.good g n kids r hg h120 hf hr⟩
set_option maxHeartbeats 1600000 in
set_option maxRecDepth 20000 in
theorem withFind_any (N s m pb pc vb vo cv : Nat) (bs : List Int) (hbl : bs.length = 4) (W : World) (S : Nat → Prop) (g : GS) (n : Int × Int) (a : Option Addr) (ml cap : Nat) (kids : List Int) (hR : ShelfB N s m pb pc vb vo cv (.func (.func 58) #[.pointer (some ⟨s, 0, none⟩)] #[]) bs W S g) (hg : GoodG g) (h120 : g.1.length ≤ 120) (hk : Sl W a ml kids) (ha : ∀ x, (Value.slice a ml ml).ownBlock = some x → ¬ S x) (hf : NFits g n kids) :
    Calls Tryz.prog 82 #[.agg #[.int .i64 n.1, .int .i64 n.2, .slice a ml cap], .pointer (some ⟨pb, 0, none⟩), .pointer (some ⟨pc, 0, none⟩)] W fun e w' => e = .returned (.tuple #[.int .i64 (((clsBf bs g n kids).map (fun r => r.2)).getD (dflB n)), .bool (clsBf bs g n kids).isSome]) ∧ KB S W w' ∧ ∀ r, clsBf bs g n kids = some r → ShelfB N s m pb pc vb vo cv (.func (.func 58) #[.pointer (some ⟨s, 0, none⟩)] #[]) bs w' (fun b => S b ∨ W.heap.size ≤ b) r.1 := by
  obtain ⟨op, nn⟩ := n
  obtain ⟨W1, hW1⟩ : ∃ W1, W.alloc (.cells #[.int .i64 op, .int .i64 nn, .slice a ml cap] 80) = W1 := ⟨_, rfl⟩
  have hb1 : Below W.heap.size W W1 := by rw [← hW1]; exact (Below.refl _ _).alloc (Nat.le_refl _) _
  have hs1 : W1.heap.size = W.heap.size + 1 := by rw [← hW1]; simp
  have n0 : W1.cell? ⟨W.heap.size, 0, none⟩ = some (.int .i64 op) := by rw [← hW1]; simp [go_sem]
  have n1 : W1.cell? ⟨W.heap.size, 1, none⟩ = some (.int .i64 nn) := by rw [← hW1]; simp [go_sem]
  have n2 : W1.cell? ⟨W.heap.size, 2, none⟩ = some (.slice a ml cap) := by rw [← hW1]; simp [go_sem]
  obtain ⟨S0, hSh, hS0, hBx, hCl⟩ := id hR
  obtain ⟨b1, b2, b3, ⟨l1', l2', l3'⟩, l4⟩ := id hBx
  have l1 : pb < W.heap.size := by omega
  have l2 : pc < W.heap.size := by omega
  have l3 : vb < W.heap.size := by omega
  have q1 : W1.cell? ⟨pb, 0, none⟩ = some (.slice (some ⟨vb, vo, none⟩) 4 cv) := (hb1.cell (p := ⟨pb, 0, none⟩) l1).trans b1
  have q2 := (hb1.cell (p := ⟨pc, 0, none⟩) l2).trans b2
  have hne1 : pb ≠ W.heap.size := by omega
  have hne2 : pc ≠ W.heap.size := by omega
  by_cases h2 : op = 2
  · subst h2
    have hfit : 0 ≤ nn ∧ nn < 4 := by
      have := hf.ok
      unfold nodeOk numFits at this
      simp at this
      omega
    obtain ⟨k, rfl⟩ : ∃ k : Nat, nn = k := ⟨nn.toNat, by omega⟩
    have hk4 : k < 4 := by omega
    have q3 := (hb1.cell (p := ⟨vb, vo + k, none⟩) l3).trans (b3 k hk4)
    have hmem : bs.getD k 0 ∈ bs := by
      rw [List.getD_eq_getElem?_getD, List.getElem?_eq_getElem (by omega)]
      exact List.getElem_mem _
    have hc := hCl _ hmem
    have ecl : clsBf bs g (2, (k : Int)) kids = if clB g.2 (bs.getD k 0) = true then some (g, bs.getD k 0) else none := by
      show (if (2 : Int) = 2 then (if clB g.2 (bs.getD ((k : Int)).toNat 0) = true then some (g, bs.getD ((k : Int)).toNat 0) else none) else clsFi g (2, (k : Int)) kids) = _
      rw [if_pos rfl, Int.toNat_natCast]
    have edf : dflB (2, (k : Int)) = -1 := rfl
    rw [ecl, edf]
    have HFin : Hid (∀ w', Below W1.heap.size W1 w' → KB S W w' ∧ ShelfB N s m pb pc vb vo cv (.func (.func 58) #[.pointer (some ⟨s, 0, none⟩)] #[]) bs w' (fun b => S b ∨ W.heap.size ≤ b) g) := fun w' hw => by
      have hB := hb1.trans (hw.mono hb1.size)
      exact ⟨KB.of hB, hR.map hB.size (fun b _ hl => hB.block b hl) (fun b hb => hB.block b (by omega)) (fun b _ h => .inl h)⟩
    generalize bs.getD k 0 = x at q3 hc ⊢
    have i0 : (0 : Int) ≤ k := by omega
    have i4 : (k : Int) < 4 := by omega
    have q0 := (show Hid _ from hg)
    rcases hc with rfl | hc
    · have e1 : clB g.2 (-1) = false := by unfold clB hasB; rfl
      rw [e1, if_neg (by decide)]
      clear hR hSh hS0 hBx hCl hk ha hf hb1 b1 b2 b3 hmem ecl edf hfit
      go_enter Tryz.func82, Tryz.ntmps82
      go_wp2_with fail
      (try rw [hW1])
      go_quiet (fail)
      go_wp2
      go_ret2
      exact ⟨rfl, (HFin.out _ (below_drawn (Below.refl _ _) _)).1, fun r hr => by cases hr⟩
    · have e1 := (isCl_iff hg x).2 hc
      have e2 : x ≠ -1 := fun e => by rw [e] at hc; exact absurd hc.1 (by decide)
      rw [e1, if_pos rfl]
      have i9 : (x != -1) = true := by simpa using e2
      have i8 : ¬ x = -1 := e2
      clear hR hSh hS0 hBx hCl hk ha hf hb1 b1 b2 b3 hmem ecl edf hfit
      go_enter Tryz.func82, Tryz.ntmps82
      go_wp2_with fail
      (try rw [hW1])
      go_quiet (fail)
      go_wp2
      go_ret2
      exact ⟨rfl, (HFin.out _ (below_drawn (Below.refl _ _) _)).1, fun r hr => by cases hr; exact (HFin.out _ (below_drawn (Below.refl _ _) _)).2⟩
  · have ecl : clsBf bs g (op, nn) kids = clsFi g (op, nn) kids := by unfold clsBf; rw [if_neg h2]
    have edf : dflB (op, nn) = 0 := by unfold dflB; rw [if_neg h2]
    rw [ecl, edf]
    obtain ⟨hfi, hks⟩ := nfits_fits hf
    have HP := find_any s m S0 g op nn a ml cap kids W1 (hSh.keep hb1) hg (by omega) (hk.keep hb1) hfi
    rw [hks] at HP
    have eR : (clsFi g (op, nn) kids).map (fun r => r.2) = findL g.1 g.2 (op, nn, kids) := by
      unfold clsFi
      cases findL g.1 g.2 (op, nn, kids) <;> rfl
    have eS : (clsFi g (op, nn) kids).isSome = (findL g.1 g.2 (op, nn, kids)).isSome := by
      unfold clsFi
      cases findL g.1 g.2 (op, nn, kids) <;> rfl
    have eG : ∀ r, clsFi g (op, nn) kids = some r → r.1 = g := fun r hr => by
      unfold clsFi at hr
      cases hfl : findL g.1 g.2 (op, nn, kids) with
      | none => rw [hfl] at hr; cases hr
      | some v => rw [hfl] at hr; cases hr; rfl
    rw [eR, eS]
    have HP := (show Hid _ from HP)
    have i2 : (op == 2) = false := by simpa using h2
    have HFin : Hid (∀ w', Below W1.heap.size W1 w' → KB S W w' ∧ ∀ r, clsFi g (op, nn) kids = some r → ShelfB N s m pb pc vb vo cv (.func (.func 58) #[.pointer (some ⟨s, 0, none⟩)] #[]) bs w' (fun b => S b ∨ W.heap.size ≤ b) r.1) := fun w' hw => by
      have hB := hb1.trans (hw.mono hb1.size)
      exact ⟨KB.of hB, fun r hr => by rw [eG r hr]; exact hR.map hB.size (fun b _ hl => hB.block b hl) (fun b hb => hB.block b (by omega)) (fun b _ h => .inl h)⟩
    clear hR hSh hS0 hBx hCl hk ha hf hb1 b1 b2 b3 ecl edf hfi hks h2 eR eS eG
    go_enter Tryz.func82, Tryz.ntmps82
    go_wp2_with fail
    (try rw [hW1])
    refine Calls.mono HP.out ?_
    rintro e w2 ⟨rfl, hb2⟩
    obtain ⟨hK, hF⟩ := HFin.out w2 hb2
    have HE := (show Hid _ from hK)
    have HS := (show Hid _ from hF)
    clear HP HFin hb2 hK hF hW1
    go_wp2
    go_ret2
    exact ⟨rfl, HE.out, HS.out⟩
end Go.Proofs.YtobgkfpjokfbaaaGreatDoor
namespace Go.Proofs.YtobgkfpjokfbaaaGreatDoor
open Go.ChangeShapes Go.WideShapes Go.ChangeAt Go.RowKit
set_option linter.unusedVariables false

set_option maxHeartbeats 1600000 in
set_option maxRecDepth 20000 in
theorem withBind_any (v : Option Addr) (lv cv : Nat) (fn : Fn) (c1 c2 : Array Value) (w : World) :
    Calls Tryz.prog 56 #[.slice v lv cv, .func fn c1 c2] w fun e w' => e = .returned (.func (.func 82) #[] #[.pointer (some ⟨w.heap.size, 0, none⟩), .pointer (some ⟨w.heap.size + 1, 0, none⟩)]) ∧ Below w.heap.size w w' ∧ w'.heap.size = w.heap.size + 2 ∧ w'.cell? ⟨w.heap.size, 0, none⟩ = some (.slice v lv cv) ∧ w'.cell? ⟨w.heap.size + 1, 0, none⟩ = some (.func fn c1 c2) := by
  have hmf : ∀ (fn : Fn) (first cap : Array Value) (w : World), (Instr.makeFunc fn first cap).run Tryz.prog w = .ok (.func fn first cap) w := fun _ _ _ _ => rfl
  have HF : Hid (∀ t1 t2, Below w.heap.size w ((w.alloc (.cells #[.slice v lv cv] t1)).alloc (.cells #[.func fn c1 c2] t2)) ∧ ((w.alloc (.cells #[.slice v lv cv] t1)).alloc (.cells #[.func fn c1 c2] t2)).heap.size = w.heap.size + 2 ∧ ((w.alloc (.cells #[.slice v lv cv] t1)).alloc (.cells #[.func fn c1 c2] t2)).cell? ⟨w.heap.size, 0, none⟩ = some (.slice v lv cv) ∧ ((w.alloc (.cells #[.slice v lv cv] t1)).alloc (.cells #[.func fn c1 c2] t2)).cell? ⟨w.heap.size + 1, 0, none⟩ = some (.func fn c1 c2)) := fun t1 t2 => ⟨((Below.refl _ _).alloc (Nat.le_refl _) _).alloc (by simp) _, by simp, by simp [go_sem], by simp [go_sem]⟩
  go_enter Tryz.func56, Tryz.ntmps56
  go_wp2
  refine bodyPost_ret (v := .func (.func 82) #[] #[.pointer (some ⟨w.heap.size, 0, none⟩), .pointer (some ⟨w.heap.size + 1, 0, none⟩)]) ?_ ?_ ?_
  · simp [results, Tryz.results56, go_sem, *]
  · rfl
  · exact ⟨rfl, HF.out _ _⟩
end Go.Proofs.YtobgkfpjokfbaaaGreatDoor
