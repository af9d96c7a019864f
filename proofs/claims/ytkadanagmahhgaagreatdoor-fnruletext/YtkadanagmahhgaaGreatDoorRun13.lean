/-
  PROVED HERE: the table of signs, as a fact on worlds; plain facts on what is held while a statement is reckoned. No condition. what of the program's tables stays where memory is changed behind them; the pieces of the plain reading. No condition. plain facts: which sign is read at a place, sign by sign. No condition. the program's reading of a sign. The tables are laid. No other condition.
-/
import Derived.Test.YtkadanagmahhgaaGreatDoorRun2
import Derived.Test.YtkadanagmahhgaaGreatDoorRun0
import Derived.Test.YtkadanagmahhgaaGreatDoorRun12
import Derived.Test.YtkadanagmahhgaaGreatDoorRun11
import Derived.Test.YtkadanagmahhgaaGreatDoorRun6
import Derived.LoopN
import Derived.Lib.SliceRun
namespace Go.Proofs.YtkadanagmahhgaaGreatDoor
open Go.RowKit
set_option linter.unusedVariables false
/-- The table of signs lies as it is laid. -/
def Sig (w : World) : Prop := ∀ i : Nat, i < 11 → w.cell? ⟨1, i, none⟩ = some (.string ⟨(signB (i : Int)).toArray⟩)
theorem heldT_b {A B C D E : Prop} {w2 wp : World} (h : A ∧ B ∧ C ∧ D ∧ E ∧ Below w2.heap.size w2 wp) : Below w2.heap.size w2 wp := h.2.2.2.2.2
theorem heldT_step {A B C D E : Prop} {w2 wp w4 : World} (h : A ∧ B ∧ C ∧ D ∧ E ∧ Below w2.heap.size w2 wp) (hb : Below wp.heap.size wp w4) : Below w2.heap.size w2 w4 := h.2.2.2.2.2.trans (hb.mono h.2.2.2.2.2.size)
end Go.Proofs.YtkadanagmahhgaaGreatDoor
namespace Go.Proofs.YtkadanagmahhgaaGreatDoor
open Go.ChangeShapes Go.WideShapes Go.ChangeAt Go.RowKit
set_option linter.unusedVariables false

/-- What reading needs of the world. -/
def Env (w : World) : Prop := Pow w ∧ Errs w ∧ Sig w
/-- The tables lie below a block. -/
def Gl (g : Nat) : Prop := 3 < g ∧ 6 < g ∧ 7 < g ∧ 1 < g
theorem var_keep {P : Program} {W W' : World} {n : String} {g0 k : Nat} (hg : P.globalNamed n = some g0) (hk : g0 < k) (hb : Below k W W') : W'.var? P n = W.var? P n := by
  unfold World.var?
  rw [hg]
  simp only [Option.bind_some]
  rw [hb.block g0 hk]
theorem Env.keepG {w w' : World} {g : Nat} (h : Env w) (hG : Gl g) (hb : Below g w w') : Env w' := by
  obtain ⟨h1, ⟨⟨t1, p1, h2⟩, t2, p2, h3⟩, h4⟩ := h
  obtain ⟨g1, g2, g3, g4⟩ := hG
  refine ⟨?_, ⟨⟨t1, p1, ?_⟩, t2, p2, ?_⟩, fun i hi => ?_⟩
  · exact (var_keep gPow g1 hb).trans h1
  · exact (var_keep gES g2 hb).trans h2
  · exact (var_keep gER g3 hb).trans h3
  · exact (hb.cell (p := ⟨1, i, none⟩) g4).trans (h4 i hi)
theorem var_lt {P : Program} {W : World} {n : String} {g0 : Nat} {cs : Array Value} (hg : P.globalNamed n = some g0) (h : W.var? P n = some cs) : g0 < W.heap.size := by
  unfold World.var? at h
  rw [hg] at h
  simp only [Option.bind_some] at h
  rcases Nat.lt_or_ge g0 W.heap.size with h' | h'
  · exact h'
  · rw [Array.getElem?_eq_none h'] at h; cases h
theorem Env.gl {w : World} (h : Env w) : Gl w.heap.size := by
  obtain ⟨h1, ⟨⟨t1, p1, h2⟩, t2, p2, h3⟩, h4⟩ := h
  exact ⟨var_lt gPow h1, var_lt gES h2, var_lt gER h3, World.block_lt_of_cell? w _ (h4 0 (by decide))⟩
theorem Env.keep {w w' : World} (h : Env w) (hb : Below w.heap.size w w') : Env w' := h.keepG h.gl hb
theorem Gl.mono {g g' : Nat} (h : Gl g) (hg : g ≤ g') : Gl g' := ⟨by have := h.1; omega, by have := h.2.1; omega, by have := h.2.2.1; omega, by have := h.2.2.2; omega⟩

end Go.Proofs.YtkadanagmahhgaaGreatDoor
namespace Go.Proofs.YtkadanagmahhgaaGreatDoor
set_option linter.unusedVariables false
/-- Does the sign of an op stand at a place? -/
def smatch (s : List UInt8) (a : Nat) (n : Nat) : Bool :=
  if n = 4 then byteIs s a 43 else if n = 5 then byteIs s a 45 else if n = 6 then byteIs s a 42 else if n = 7 then byteIs s a 60 && byteIs s (a + 1) 60
  else if n = 8 then byteIs s a 47 else if n = 9 then byteIs s a 61 && byteIs s (a + 1) 61 else byteIs s a 60
def Nosign (s : List UInt8) (a : Nat) (n : Nat) : Prop := ∀ m, 4 ≤ m → m < n → smatch s a m = false
theorem Nosign.start (s : List UInt8) (a : Nat) : Nosign s a 4 := fun m h1 h2 => by omega
theorem Nosign.next {s : List UInt8} {a n : Nat} (h : Nosign s a n) (hn : smatch s a n = false) : Nosign s a (n + 1) := fun m h1 h2 => by
  by_cases e : m = n
  · rw [e]; exact hn
  · exact h m h1 (by omega)
theorem Nosign.hit {s : List UInt8} {a n : Nat} (h : Nosign s a n) (h4 : 4 ≤ n) (h10 : n ≤ 10) (hn : smatch s a n = true) : twoR s a = ((n : Int), a + (signB (n : Int)).length) := by
  have g4 : 4 < n → byteIs s a 43 = false := fun x => h 4 (by decide) x
  have g5 : 5 < n → byteIs s a 45 = false := fun x => h 5 (by decide) x
  have g6 : 6 < n → byteIs s a 42 = false := fun x => h 6 (by decide) x
  have g7 : 7 < n → (byteIs s a 60 && byteIs s (a + 1) 60) = false := fun x => h 7 (by decide) x
  have g8 : 8 < n → byteIs s a 47 = false := fun x => h 8 (by decide) x
  have g9 : 9 < n → (byteIs s a 61 && byteIs s (a + 1) 61) = false := fun x => h 9 (by decide) x
  unfold twoR
  rcases (show n = 4 ∨ n = 5 ∨ n = 6 ∨ n = 7 ∨ n = 8 ∨ n = 9 ∨ n = 10 by omega) with rfl | rfl | rfl | rfl | rfl | rfl | rfl
  · rw [if_pos (show byteIs s a 43 = true from hn)]; rfl
  · rw [g4 (by decide), if_neg (by decide), if_pos (show byteIs s a 45 = true from hn)]; rfl
  · rw [g4 (by decide), if_neg (by decide), g5 (by decide), if_neg (by decide), if_pos (show byteIs s a 42 = true from hn)]; rfl
  · rw [g4 (by decide), if_neg (by decide), g5 (by decide), if_neg (by decide), g6 (by decide), if_neg (by decide), if_pos (show (byteIs s a 60 && byteIs s (a + 1) 60) = true from hn)]; rfl
  · rw [g4 (by decide), if_neg (by decide), g5 (by decide), if_neg (by decide), g6 (by decide), if_neg (by decide), g7 (by decide), if_neg (by decide), if_pos (show byteIs s a 47 = true from hn)]; rfl
  · rw [g4 (by decide), if_neg (by decide), g5 (by decide), if_neg (by decide), g6 (by decide), if_neg (by decide), g7 (by decide), if_neg (by decide), g8 (by decide), if_neg (by decide), if_pos (show (byteIs s a 61 && byteIs s (a + 1) 61) = true from hn)]; rfl
  · rw [g4 (by decide), if_neg (by decide), g5 (by decide), if_neg (by decide), g6 (by decide), if_neg (by decide), g7 (by decide), if_neg (by decide), g8 (by decide), if_neg (by decide), g9 (by decide), if_neg (by decide), if_pos (show byteIs s a 60 = true from hn)]; rfl
theorem Nosign.none {s : List UInt8} {a : Nat} (h : Nosign s a 11) : twoR s a = (0, if byteIs s a 61 = true then a + 1 else a) ∧ byteIs s a 60 = false := by
  have g4 : byteIs s a 43 = false := h 4 (by decide) (by decide)
  have g5 : byteIs s a 45 = false := h 5 (by decide) (by decide)
  have g6 : byteIs s a 42 = false := h 6 (by decide) (by decide)
  have g7 : (byteIs s a 60 && byteIs s (a + 1) 60) = false := h 7 (by decide) (by decide)
  have g8 : byteIs s a 47 = false := h 8 (by decide) (by decide)
  have g9 : (byteIs s a 61 && byteIs s (a + 1) 61) = false := h 9 (by decide) (by decide)
  have g10 : byteIs s a 60 = false := h 10 (by decide) (by decide)
  refine ⟨?_, g10⟩
  unfold twoR
  rw [g4, if_neg (by decide), g5, if_neg (by decide), g6, if_neg (by decide), g7, if_neg (by decide), g8, if_neg (by decide), g9, if_neg (by decide), g10, if_neg (by decide)]
  split <;> rfl
/-- How far signs were read that broke off. -/
def Far (s : List UInt8) (a k n F : Nat) : Prop := (F = k ∨ F = k + 1) ∧ (F = k + 1 → byteIs s a 60 = true ∨ byteIs s a 61 = true) ∧ (9 < n → byteIs s a 61 = true → F = k + 1)
theorem Far.start (s : List UInt8) (a k : Nat) : Far s a k 4 k := ⟨.inl rfl, fun h => by omega, fun h => by omega⟩
theorem Far.stay {s : List UInt8} {a k n F : Nat} (h : Far s a k n F) (h9 : n = 9 → byteIs s a 61 = false) : Far s a k (n + 1) F := ⟨h.1, h.2.1, fun h1 h2 => by
  by_cases e : n = 9
  · rw [h9 e] at h2; cases h2
  · exact h.2.2 (by omega) h2⟩
theorem Far.on {s : List UInt8} {a k n F : Nat} (h : Far s a k n F) (hb : byteIs s a 60 = true ∨ byteIs s a 61 = true) : Far s a k (n + 1) (k + 1) := ⟨.inr rfl, fun _ => hb, fun _ _ => rfl⟩
end Go.Proofs.YtkadanagmahhgaaGreatDoor
namespace Go.Proofs.YtkadanagmahhgaaGreatDoor
open Go.ChangeShapes Go.WideShapes Go.ChangeAt Go.RowKit
set_option linter.unusedVariables false
theorem iter_cell {w : World} {a : Addr} {v : Value} (s : ByteArray) (p : Nat) (h : w.cell? a = some v) : (w.iter s p).cell? a = some v := Lib.cell?_alloc_some _ h
theorem iter_frozen {w : World} (s : ByteArray) (p : Nat) {a : Addr} (h : a.block < w.heap.size) : (w.iter s p).frozen? a = w.frozen? a := (iter_below w s p).frozen h
theorem next_it {P : Program} (w : World) (s : ByteArray) (i : Nat) (ty : TypeId) (h : i < s.size) (ha : (s[i]'h).toNat < 128) :
    (Instr.next (.pointer (some ⟨w.heap.size, 0, none⟩)) true ty).run P (w.iter s i) = .ok (.tuple #[.bool true, .int .i64 i, .int .i32 (s[i]'h).toNat]) (w.iter s (i + 1)) := run_next_ascii w s i ty h ha
set_option maxHeartbeats 4000000 in
set_option maxRecDepth 20000 in
theorem isign_any (w : World) (B g mb mc : Nat) (s : ByteArray) (M : List (Int × Int)) (k a : Nat) (out : List (Int × Int)) (h : IRdr w B g mb mc s M k out) (hEnv : Env w) (hG : Gl g) (hM : M.length ≤ 1048576) (hA : MkAt s.data.toList (M.drop k) a) :
    Calls Tryz.prog 148 #[.pointer (some ⟨g, 0, none⟩)] w fun e w' => e = .returned (.tuple #[.int .i64 (twoR s.data.toList a).1, .bool (decide ((twoR s.data.toList a).1 ≠ 0))]) ∧ (∃ k', IRdr w' B g mb mc s M k' out ∧ MkAt s.data.toList (M.drop k') (twoR s.data.toList a).2) ∧ Below g w w' := by
  have HR : Hid (IRdr w B g mb mc s M k out) := h
  have HEnv : Hid (Env w) := hEnv
  have c2 := h.c2
  have hkM : k < M.length := by have := hA.at.2; rw [List.length_drop] at this; omega
  obtain ⟨x0, hx0⟩ : ∃ x, (M.getD k (0, 0)).2 = x := ⟨_, rfl⟩
  obtain ⟨x1, hx1⟩ : ∃ x, (M.getD (k + 1) (0, 0)).2 = x := ⟨_, rfl⟩
  have HX0 : Hid ((M.getD k (0, 0)).2 = x0) := hx0
  have HX1 : Hid ((M.getD (k + 1) (0, 0)).2 = x1) := hx1
  have hd0 : (M.drop k).getD 0 (0, 0) = M.getD k (0, 0) := by rw [List.getD_eq_getElem?_getD, List.getElem?_drop, List.getD_eq_getElem?_getD]; rfl
  have hd1 : (M.drop (k + 1)).getD 0 (0, 0) = M.getD (k + 1) (0, 0) := by rw [List.getD_eq_getElem?_getD, List.getElem?_drop, List.getD_eq_getElem?_getD]
  have HI0 : Hid (∀ b : UInt8, b.toNat < 128 → (x0 == (b.toNat : Int)) = byteIs s.data.toList a b) := fun b hb => by rw [← hx0, ← hd0]; exact hA.is b hb
  have HN : Hid (∀ b : UInt8, b.toNat < 128 → isD b = false → byteIs s.data.toList a b = true → MkAt s.data.toList (M.drop (k + 1)) (a + 1) ∧ k + 1 < M.length) := fun b h1 h2 h3 => by
    have := hA.next b h1 h2 h3
    rw [List.drop_drop] at this
    exact ⟨this, by have := this.at.2; rw [List.length_drop] at this; omega⟩
  have HI1 : Hid (MkAt s.data.toList (M.drop (k + 1)) (a + 1) → ∀ b : UInt8, b.toNat < 128 → (x1 == (b.toNat : Int)) = byteIs s.data.toList (a + 1) b) := fun hA1 b hb => by rw [← hx1, ← hd1]; exact hA1.is b hb
  have HN1 : Hid (MkAt s.data.toList (M.drop (k + 1)) (a + 1) → ∀ b : UInt8, b.toNat < 128 → isD b = false → byteIs s.data.toList (a + 1) b = true → MkAt s.data.toList (M.drop (k + 1 + 1)) (a + 2)) := fun hA1 b h1 h2 h3 => by
    have := hA1.next b h1 h2 h3
    rw [List.drop_drop] at this
    exact this
  have HA : Hid (MkAt s.data.toList (M.drop k) a) := hA
  have i0 : (M.length : Int) ≤ 1048576 := by omega
  have i1 : (k : Int) < M.length := by omega
  clear h hEnv hx0 hx1 hd0 hd1 hA
  obtain ⟨L, hL⟩ : ∃ L, s.data.toList = L := ⟨_, rfl⟩
  rw [hL] at HI0 HN HI1 HN1 HA ⊢
  clear hL
  go_enter Tryz.func148, Tryz.ntmps148
  go_wp2_with fail
  go_step3
  go_wp2_with fail
  go_step3
  go_wp2_with fail
  go_loopw [4, 5] (fun f x wr => ∃ (n F : Nat), x = .int .i64 (n : Int) ∧ f = .int .i64 (F : Int) ∧ 4 ≤ n ∧ n ≤ 11 ∧ IRdr wr B g mb mc s M k out ∧ Below g w wr ∧ Hid (Nosign L a n ∧ Far L a k n F)) (fun _ x _ => (11 - intOf x).toNat)
  case atStart => exact ⟨4, k, rfl, rfl, by omega, by omega, HR.out, Below.refl _ _, Nosign.start L a, Far.start L a k⟩
  case round =>
    obtain ⟨n, F, rfl, rfl, n4, n11, hR, hbr, hT⟩ := hrel
    have hSig := (HEnv.out.keepG hG hbr).2.2
    have hFk := hT.out.2.1
    have hF1 : (F : Int) ≤ 1048577 := by omega
    have hF0 : (k : Int) ≤ F := by omega
    have d1 := hR.c1
    have d2 := hR.c2
    have e2 := hR.f2
    have m0 := (hR.mks k hkM).2
    rw [HX0.out] at m0
    have hgw : g < wr.heap.size := by have := hR.lt; have := hR.ltB; omega
    have hgw' : g ≤ wr.heap.size := Nat.le_of_lt hgw
    clear hFk c2
    by_cases hn : n ≤ 10
    · rcases (show n = 4 ∨ n = 5 ∨ n = 6 ∨ n = 7 ∨ n = 8 ∨ n = 9 ∨ n = 10 by omega) with rfl | rfl | rfl | rfl | rfl | rfl | rfl
      · have cs : wr.cell? ⟨1, 4, none⟩ = some (.string ⟨#[43]⟩) := hSig 4 (by decide)
        clear hSig
        have g1 : ∀ p, (wr.iter ⟨#[43]⟩ p).cell? ⟨g, 1, none⟩ = some (.slice (some ⟨mb, 0, none⟩) M.length mc) := fun p => iter_cell _ p d1
        have g2 : ∀ p, (wr.iter ⟨#[43]⟩ p).cell? ⟨g, 2, none⟩ = some (.int .i64 (k : Int)) := fun p => iter_cell _ p d2
        have g3 : ∀ p, (wr.iter ⟨#[43]⟩ p).frozen? ⟨g, 2, none⟩ = false := fun p => (iter_frozen _ p (a := ⟨g, 2, none⟩) hgw).trans e2
        have g4 : ∀ p, (wr.iter ⟨#[43]⟩ p).cell? ⟨mb, k * 2 + 1, none⟩ = some (.int .i32 x0) := fun p => iter_cell _ p m0
        have X0 : ∀ ty, (Instr.next (.pointer (some ⟨wr.heap.size, 0, none⟩)) true ty).run Tryz.prog (wr.iter ⟨#[43]⟩ 0) = .ok (.tuple #[.bool true, .int .i64 0, .int .i32 43]) (wr.iter ⟨#[43]⟩ 1) := fun ty => next_it wr ⟨#[43]⟩ 0 ty (by decide) (by decide)
        have X1 : ∀ ty, (Instr.next (.pointer (some ⟨wr.heap.size, 0, none⟩)) true ty).run Tryz.prog (wr.iter ⟨#[43]⟩ 1) = .ok (.tuple #[.bool false]) (wr.iter ⟨#[43]⟩ 1) := fun ty => run_next_end wr ⟨#[43]⟩ 1 ty (by decide)
        have hRi : ∀ p, IRdr (wr.iter ⟨#[43]⟩ p) B g mb mc s M k out := fun p => hR.keep (iter_below wr _ p)
        have HRi := (show Hid _ from hRi)
        have hBi : ∀ p, Below g w (wr.iter ⟨#[43]⟩ p) := fun p => hbr.trans ((iter_below wr _ p).mono hgw')
        have HBi := (show Hid _ from hBi)
        clear hRi hBi hR hbr d1 e2 m0
        have hb0 := HI0.out 43 (by decide)
        cases hy : byteIs L a 43 with
        | false =>
          rw [hy] at hb0
          have q0 : (x0 != 43) = true := by rw [bne, show (x0 == 43) = false from hb0]; rfl
          have HN2 : Hid (Nosign L a (4 + 1) ∧ Far L a k (4 + 1) F) := ⟨hT.out.1.next (hy), hT.out.2.stay (fun e => absurd e (by decide))⟩
          clear hb0 hy hT
          go_wp2_with fail
          refine wp_loop_rounds 3 ?_
          rw [rounds_succ]
          go_wp2
          exact ⟨⟨4 + 1, F, rfl, rfl, by omega, by omega, HRi.out _, HBi.out _, HN2⟩, by simp [intOf]⟩
        | true =>
          rw [hy] at hb0
          have q0 : (x0 != 43) = false := by rw [bne, show (x0 == 43) = true from hb0]; rfl
          obtain ⟨hA1, hk1⟩ := HN.out 43 (by decide) (by decide) hy
          have HA1 := (show Hid _ from hA1)
          have HT2 := (show Hid _ from hT.out.1.hit (by decide) (by decide) hy)
          have hmx : max (F : Int) ((k : Int) + 1) = (k : Int) + 1 := by have := hT.out.2.1; omega
          clear hb0 hy hT hA1
          go_wp2_with fail
          refine wp_loop_rounds 3 ?_
          rw [rounds_succ]
          go_wp2
          rw [rounds_succ]
          go_wp2
          (try rw [Exit.noGoto_ret])
          go_ret2
          rw [HT2.out]
          exact ⟨rfl, ⟨k + 1, (HRi.out _).move (k + 1), HA1.out⟩, (HBi.out _).trans (below_set _)⟩
      · have cs : wr.cell? ⟨1, 5, none⟩ = some (.string ⟨#[45]⟩) := hSig 5 (by decide)
        clear hSig
        have g1 : ∀ p, (wr.iter ⟨#[45]⟩ p).cell? ⟨g, 1, none⟩ = some (.slice (some ⟨mb, 0, none⟩) M.length mc) := fun p => iter_cell _ p d1
        have g2 : ∀ p, (wr.iter ⟨#[45]⟩ p).cell? ⟨g, 2, none⟩ = some (.int .i64 (k : Int)) := fun p => iter_cell _ p d2
        have g3 : ∀ p, (wr.iter ⟨#[45]⟩ p).frozen? ⟨g, 2, none⟩ = false := fun p => (iter_frozen _ p (a := ⟨g, 2, none⟩) hgw).trans e2
        have g4 : ∀ p, (wr.iter ⟨#[45]⟩ p).cell? ⟨mb, k * 2 + 1, none⟩ = some (.int .i32 x0) := fun p => iter_cell _ p m0
        have X0 : ∀ ty, (Instr.next (.pointer (some ⟨wr.heap.size, 0, none⟩)) true ty).run Tryz.prog (wr.iter ⟨#[45]⟩ 0) = .ok (.tuple #[.bool true, .int .i64 0, .int .i32 45]) (wr.iter ⟨#[45]⟩ 1) := fun ty => next_it wr ⟨#[45]⟩ 0 ty (by decide) (by decide)
        have X1 : ∀ ty, (Instr.next (.pointer (some ⟨wr.heap.size, 0, none⟩)) true ty).run Tryz.prog (wr.iter ⟨#[45]⟩ 1) = .ok (.tuple #[.bool false]) (wr.iter ⟨#[45]⟩ 1) := fun ty => run_next_end wr ⟨#[45]⟩ 1 ty (by decide)
        have hRi : ∀ p, IRdr (wr.iter ⟨#[45]⟩ p) B g mb mc s M k out := fun p => hR.keep (iter_below wr _ p)
        have HRi := (show Hid _ from hRi)
        have hBi : ∀ p, Below g w (wr.iter ⟨#[45]⟩ p) := fun p => hbr.trans ((iter_below wr _ p).mono hgw')
        have HBi := (show Hid _ from hBi)
        clear hRi hBi hR hbr d1 e2 m0
        have hb0 := HI0.out 45 (by decide)
        cases hy : byteIs L a 45 with
        | false =>
          rw [hy] at hb0
          have q0 : (x0 != 45) = true := by rw [bne, show (x0 == 45) = false from hb0]; rfl
          have HN2 : Hid (Nosign L a (5 + 1) ∧ Far L a k (5 + 1) F) := ⟨hT.out.1.next (hy), hT.out.2.stay (fun e => absurd e (by decide))⟩
          clear hb0 hy hT
          go_wp2_with fail
          refine wp_loop_rounds 3 ?_
          rw [rounds_succ]
          go_wp2
          exact ⟨⟨5 + 1, F, rfl, rfl, by omega, by omega, HRi.out _, HBi.out _, HN2⟩, by simp [intOf]⟩
        | true =>
          rw [hy] at hb0
          have q0 : (x0 != 45) = false := by rw [bne, show (x0 == 45) = true from hb0]; rfl
          obtain ⟨hA1, hk1⟩ := HN.out 45 (by decide) (by decide) hy
          have HA1 := (show Hid _ from hA1)
          have HT2 := (show Hid _ from hT.out.1.hit (by decide) (by decide) hy)
          have hmx : max (F : Int) ((k : Int) + 1) = (k : Int) + 1 := by have := hT.out.2.1; omega
          clear hb0 hy hT hA1
          go_wp2_with fail
          refine wp_loop_rounds 3 ?_
          rw [rounds_succ]
          go_wp2
          rw [rounds_succ]
          go_wp2
          (try rw [Exit.noGoto_ret])
          go_ret2
          rw [HT2.out]
          exact ⟨rfl, ⟨k + 1, (HRi.out _).move (k + 1), HA1.out⟩, (HBi.out _).trans (below_set _)⟩
      · have cs : wr.cell? ⟨1, 6, none⟩ = some (.string ⟨#[42]⟩) := hSig 6 (by decide)
        clear hSig
        have g1 : ∀ p, (wr.iter ⟨#[42]⟩ p).cell? ⟨g, 1, none⟩ = some (.slice (some ⟨mb, 0, none⟩) M.length mc) := fun p => iter_cell _ p d1
        have g2 : ∀ p, (wr.iter ⟨#[42]⟩ p).cell? ⟨g, 2, none⟩ = some (.int .i64 (k : Int)) := fun p => iter_cell _ p d2
        have g3 : ∀ p, (wr.iter ⟨#[42]⟩ p).frozen? ⟨g, 2, none⟩ = false := fun p => (iter_frozen _ p (a := ⟨g, 2, none⟩) hgw).trans e2
        have g4 : ∀ p, (wr.iter ⟨#[42]⟩ p).cell? ⟨mb, k * 2 + 1, none⟩ = some (.int .i32 x0) := fun p => iter_cell _ p m0
        have X0 : ∀ ty, (Instr.next (.pointer (some ⟨wr.heap.size, 0, none⟩)) true ty).run Tryz.prog (wr.iter ⟨#[42]⟩ 0) = .ok (.tuple #[.bool true, .int .i64 0, .int .i32 42]) (wr.iter ⟨#[42]⟩ 1) := fun ty => next_it wr ⟨#[42]⟩ 0 ty (by decide) (by decide)
        have X1 : ∀ ty, (Instr.next (.pointer (some ⟨wr.heap.size, 0, none⟩)) true ty).run Tryz.prog (wr.iter ⟨#[42]⟩ 1) = .ok (.tuple #[.bool false]) (wr.iter ⟨#[42]⟩ 1) := fun ty => run_next_end wr ⟨#[42]⟩ 1 ty (by decide)
        have hRi : ∀ p, IRdr (wr.iter ⟨#[42]⟩ p) B g mb mc s M k out := fun p => hR.keep (iter_below wr _ p)
        have HRi := (show Hid _ from hRi)
        have hBi : ∀ p, Below g w (wr.iter ⟨#[42]⟩ p) := fun p => hbr.trans ((iter_below wr _ p).mono hgw')
        have HBi := (show Hid _ from hBi)
        clear hRi hBi hR hbr d1 e2 m0
        have hb0 := HI0.out 42 (by decide)
        cases hy : byteIs L a 42 with
        | false =>
          rw [hy] at hb0
          have q0 : (x0 != 42) = true := by rw [bne, show (x0 == 42) = false from hb0]; rfl
          have HN2 : Hid (Nosign L a (6 + 1) ∧ Far L a k (6 + 1) F) := ⟨hT.out.1.next (hy), hT.out.2.stay (fun e => absurd e (by decide))⟩
          clear hb0 hy hT
          go_wp2_with fail
          refine wp_loop_rounds 3 ?_
          rw [rounds_succ]
          go_wp2
          exact ⟨⟨6 + 1, F, rfl, rfl, by omega, by omega, HRi.out _, HBi.out _, HN2⟩, by simp [intOf]⟩
        | true =>
          rw [hy] at hb0
          have q0 : (x0 != 42) = false := by rw [bne, show (x0 == 42) = true from hb0]; rfl
          obtain ⟨hA1, hk1⟩ := HN.out 42 (by decide) (by decide) hy
          have HA1 := (show Hid _ from hA1)
          have HT2 := (show Hid _ from hT.out.1.hit (by decide) (by decide) hy)
          have hmx : max (F : Int) ((k : Int) + 1) = (k : Int) + 1 := by have := hT.out.2.1; omega
          clear hb0 hy hT hA1
          go_wp2_with fail
          refine wp_loop_rounds 3 ?_
          rw [rounds_succ]
          go_wp2
          rw [rounds_succ]
          go_wp2
          (try rw [Exit.noGoto_ret])
          go_ret2
          rw [HT2.out]
          exact ⟨rfl, ⟨k + 1, (HRi.out _).move (k + 1), HA1.out⟩, (HBi.out _).trans (below_set _)⟩
      · have cs : wr.cell? ⟨1, 7, none⟩ = some (.string ⟨#[60, 60]⟩) := hSig 7 (by decide)
        clear hSig
        have g1 : ∀ p, (wr.iter ⟨#[60, 60]⟩ p).cell? ⟨g, 1, none⟩ = some (.slice (some ⟨mb, 0, none⟩) M.length mc) := fun p => iter_cell _ p d1
        have g2 : ∀ p, (wr.iter ⟨#[60, 60]⟩ p).cell? ⟨g, 2, none⟩ = some (.int .i64 (k : Int)) := fun p => iter_cell _ p d2
        have g3 : ∀ p, (wr.iter ⟨#[60, 60]⟩ p).frozen? ⟨g, 2, none⟩ = false := fun p => (iter_frozen _ p (a := ⟨g, 2, none⟩) hgw).trans e2
        have g4 : ∀ p, (wr.iter ⟨#[60, 60]⟩ p).cell? ⟨mb, k * 2 + 1, none⟩ = some (.int .i32 x0) := fun p => iter_cell _ p m0
        have X0 : ∀ ty, (Instr.next (.pointer (some ⟨wr.heap.size, 0, none⟩)) true ty).run Tryz.prog (wr.iter ⟨#[60, 60]⟩ 0) = .ok (.tuple #[.bool true, .int .i64 0, .int .i32 60]) (wr.iter ⟨#[60, 60]⟩ 1) := fun ty => next_it wr ⟨#[60, 60]⟩ 0 ty (by decide) (by decide)
        have X1 : ∀ ty, (Instr.next (.pointer (some ⟨wr.heap.size, 0, none⟩)) true ty).run Tryz.prog (wr.iter ⟨#[60, 60]⟩ 1) = .ok (.tuple #[.bool true, .int .i64 1, .int .i32 60]) (wr.iter ⟨#[60, 60]⟩ 2) := fun ty => next_it wr ⟨#[60, 60]⟩ 1 ty (by decide) (by decide)
        have X2 : ∀ ty, (Instr.next (.pointer (some ⟨wr.heap.size, 0, none⟩)) true ty).run Tryz.prog (wr.iter ⟨#[60, 60]⟩ 2) = .ok (.tuple #[.bool false]) (wr.iter ⟨#[60, 60]⟩ 2) := fun ty => run_next_end wr ⟨#[60, 60]⟩ 2 ty (by decide)
        have hRi : ∀ p, IRdr (wr.iter ⟨#[60, 60]⟩ p) B g mb mc s M k out := fun p => hR.keep (iter_below wr _ p)
        have HRi := (show Hid _ from hRi)
        have hBi : ∀ p, Below g w (wr.iter ⟨#[60, 60]⟩ p) := fun p => hbr.trans ((iter_below wr _ p).mono hgw')
        have HBi := (show Hid _ from hBi)
        clear hRi hBi hR hbr d1 e2 m0
        have hb0 := HI0.out 60 (by decide)
        cases hy : byteIs L a 60 with
        | false =>
          rw [hy] at hb0
          have q0 : (x0 != 60) = true := by rw [bne, show (x0 == 60) = false from hb0]; rfl
          have HN2 : Hid (Nosign L a (7 + 1) ∧ Far L a k (7 + 1) F) := ⟨hT.out.1.next (by show (byteIs L a 60 && byteIs L (a + 1) 60) = false; rw [hy]; rfl), hT.out.2.stay (fun e => absurd e (by decide))⟩
          clear hb0 hy hT
          go_wp2_with fail
          refine wp_loop_rounds 3 ?_
          rw [rounds_succ]
          go_wp2
          exact ⟨⟨7 + 1, F, rfl, rfl, by omega, by omega, HRi.out _, HBi.out _, HN2⟩, by simp [intOf]⟩
        | true =>
          rw [hy] at hb0
          have q0 : (x0 != 60) = false := by rw [bne, show (x0 == 60) = true from hb0]; rfl
          obtain ⟨hA1, hk1⟩ := HN.out 60 (by decide) (by decide) hy
          have HA1 := (show Hid _ from hA1)
          have m1 := ((HRi.out 0).mks (k + 1) hk1).2
          rw [HX1.out] at m1
          have g5 : ∀ p, (wr.iter ⟨#[60, 60]⟩ p).cell? ⟨mb, (k + 1) * 2 + 1, none⟩ = some (.int .i32 x1) := fun p => ((HRi.out p).mks (k + 1) hk1).2.trans (by rw [HX1.out])
          have i2 : (k : Int) + 1 < M.length := by omega
          have hmx : max (F : Int) ((k : Int) + 1) = (k : Int) + 1 := by have := hT.out.2.1; omega
          have hb1 := HI1.out HA1.out 60 (by decide)
          clear hA1 m1
          cases hz : byteIs L (a + 1) 60 with
          | false =>
            rw [hz] at hb1
            have q1 : (x1 != 60) = true := by rw [bne, show (x1 == 60) = false from hb1]; rfl
            have HN2 : Hid (Nosign L a (7 + 1) ∧ Far L a k (7 + 1) (k + 1)) := ⟨hT.out.1.next (by show (byteIs L a 60 && byteIs L (a + 1) 60) = false; rw [hz, Bool.and_false]), hT.out.2.on (.inl hy)⟩
            clear hb0 hb1 hy hz hT
            go_wp2_with fail
            refine wp_loop_rounds 3 ?_
            rw [rounds_succ]
            go_wp2
            rw [rounds_succ]
            go_wp2
            exact ⟨⟨7 + 1, k + 1, rfl, by go_num, by omega, by omega, HRi.out _, HBi.out _, HN2⟩, by simp [intOf]⟩
          | true =>
            rw [hz] at hb1
            have q1 : (x1 != 60) = false := by rw [bne, show (x1 == 60) = true from hb1]; rfl
            have HT2 := (show Hid _ from hT.out.1.hit (by decide) (by decide) (by show (byteIs L a 60 && byteIs L (a + 1) 60) = true; rw [hy, hz]; rfl))
            have HA2 := (show Hid _ from HN1.out HA1.out 60 (by decide) (by decide) hz)
            have hmx2 : max ((k : Int) + 1) ((k : Int) + 1 + 1) = (k : Int) + 1 + 1 := by omega
            clear hb0 hb1 hy hz hT
            go_wp2_with fail
            refine wp_loop_rounds 3 ?_
            rw [rounds_succ]
            go_wp2
            rw [rounds_succ]
            go_wp2
            rw [rounds_succ]
            go_wp2
            (try rw [Exit.noGoto_ret])
            go_ret2
            rw [HT2.out]
            exact ⟨rfl, ⟨k + 1 + 1, (HRi.out _).move (k + 1 + 1), HA2.out⟩, (HBi.out _).trans (below_set _)⟩
      · have cs : wr.cell? ⟨1, 8, none⟩ = some (.string ⟨#[47]⟩) := hSig 8 (by decide)
        clear hSig
        have g1 : ∀ p, (wr.iter ⟨#[47]⟩ p).cell? ⟨g, 1, none⟩ = some (.slice (some ⟨mb, 0, none⟩) M.length mc) := fun p => iter_cell _ p d1
        have g2 : ∀ p, (wr.iter ⟨#[47]⟩ p).cell? ⟨g, 2, none⟩ = some (.int .i64 (k : Int)) := fun p => iter_cell _ p d2
        have g3 : ∀ p, (wr.iter ⟨#[47]⟩ p).frozen? ⟨g, 2, none⟩ = false := fun p => (iter_frozen _ p (a := ⟨g, 2, none⟩) hgw).trans e2
        have g4 : ∀ p, (wr.iter ⟨#[47]⟩ p).cell? ⟨mb, k * 2 + 1, none⟩ = some (.int .i32 x0) := fun p => iter_cell _ p m0
        have X0 : ∀ ty, (Instr.next (.pointer (some ⟨wr.heap.size, 0, none⟩)) true ty).run Tryz.prog (wr.iter ⟨#[47]⟩ 0) = .ok (.tuple #[.bool true, .int .i64 0, .int .i32 47]) (wr.iter ⟨#[47]⟩ 1) := fun ty => next_it wr ⟨#[47]⟩ 0 ty (by decide) (by decide)
        have X1 : ∀ ty, (Instr.next (.pointer (some ⟨wr.heap.size, 0, none⟩)) true ty).run Tryz.prog (wr.iter ⟨#[47]⟩ 1) = .ok (.tuple #[.bool false]) (wr.iter ⟨#[47]⟩ 1) := fun ty => run_next_end wr ⟨#[47]⟩ 1 ty (by decide)
        have hRi : ∀ p, IRdr (wr.iter ⟨#[47]⟩ p) B g mb mc s M k out := fun p => hR.keep (iter_below wr _ p)
        have HRi := (show Hid _ from hRi)
        have hBi : ∀ p, Below g w (wr.iter ⟨#[47]⟩ p) := fun p => hbr.trans ((iter_below wr _ p).mono hgw')
        have HBi := (show Hid _ from hBi)
        clear hRi hBi hR hbr d1 e2 m0
        have hb0 := HI0.out 47 (by decide)
        cases hy : byteIs L a 47 with
        | false =>
          rw [hy] at hb0
          have q0 : (x0 != 47) = true := by rw [bne, show (x0 == 47) = false from hb0]; rfl
          have HN2 : Hid (Nosign L a (8 + 1) ∧ Far L a k (8 + 1) F) := ⟨hT.out.1.next (hy), hT.out.2.stay (fun e => absurd e (by decide))⟩
          clear hb0 hy hT
          go_wp2_with fail
          refine wp_loop_rounds 3 ?_
          rw [rounds_succ]
          go_wp2
          exact ⟨⟨8 + 1, F, rfl, rfl, by omega, by omega, HRi.out _, HBi.out _, HN2⟩, by simp [intOf]⟩
        | true =>
          rw [hy] at hb0
          have q0 : (x0 != 47) = false := by rw [bne, show (x0 == 47) = true from hb0]; rfl
          obtain ⟨hA1, hk1⟩ := HN.out 47 (by decide) (by decide) hy
          have HA1 := (show Hid _ from hA1)
          have HT2 := (show Hid _ from hT.out.1.hit (by decide) (by decide) hy)
          have hmx : max (F : Int) ((k : Int) + 1) = (k : Int) + 1 := by have := hT.out.2.1; omega
          clear hb0 hy hT hA1
          go_wp2_with fail
          refine wp_loop_rounds 3 ?_
          rw [rounds_succ]
          go_wp2
          rw [rounds_succ]
          go_wp2
          (try rw [Exit.noGoto_ret])
          go_ret2
          rw [HT2.out]
          exact ⟨rfl, ⟨k + 1, (HRi.out _).move (k + 1), HA1.out⟩, (HBi.out _).trans (below_set _)⟩
      · have cs : wr.cell? ⟨1, 9, none⟩ = some (.string ⟨#[61, 61]⟩) := hSig 9 (by decide)
        clear hSig
        have g1 : ∀ p, (wr.iter ⟨#[61, 61]⟩ p).cell? ⟨g, 1, none⟩ = some (.slice (some ⟨mb, 0, none⟩) M.length mc) := fun p => iter_cell _ p d1
        have g2 : ∀ p, (wr.iter ⟨#[61, 61]⟩ p).cell? ⟨g, 2, none⟩ = some (.int .i64 (k : Int)) := fun p => iter_cell _ p d2
        have g3 : ∀ p, (wr.iter ⟨#[61, 61]⟩ p).frozen? ⟨g, 2, none⟩ = false := fun p => (iter_frozen _ p (a := ⟨g, 2, none⟩) hgw).trans e2
        have g4 : ∀ p, (wr.iter ⟨#[61, 61]⟩ p).cell? ⟨mb, k * 2 + 1, none⟩ = some (.int .i32 x0) := fun p => iter_cell _ p m0
        have X0 : ∀ ty, (Instr.next (.pointer (some ⟨wr.heap.size, 0, none⟩)) true ty).run Tryz.prog (wr.iter ⟨#[61, 61]⟩ 0) = .ok (.tuple #[.bool true, .int .i64 0, .int .i32 61]) (wr.iter ⟨#[61, 61]⟩ 1) := fun ty => next_it wr ⟨#[61, 61]⟩ 0 ty (by decide) (by decide)
        have X1 : ∀ ty, (Instr.next (.pointer (some ⟨wr.heap.size, 0, none⟩)) true ty).run Tryz.prog (wr.iter ⟨#[61, 61]⟩ 1) = .ok (.tuple #[.bool true, .int .i64 1, .int .i32 61]) (wr.iter ⟨#[61, 61]⟩ 2) := fun ty => next_it wr ⟨#[61, 61]⟩ 1 ty (by decide) (by decide)
        have X2 : ∀ ty, (Instr.next (.pointer (some ⟨wr.heap.size, 0, none⟩)) true ty).run Tryz.prog (wr.iter ⟨#[61, 61]⟩ 2) = .ok (.tuple #[.bool false]) (wr.iter ⟨#[61, 61]⟩ 2) := fun ty => run_next_end wr ⟨#[61, 61]⟩ 2 ty (by decide)
        have hRi : ∀ p, IRdr (wr.iter ⟨#[61, 61]⟩ p) B g mb mc s M k out := fun p => hR.keep (iter_below wr _ p)
        have HRi := (show Hid _ from hRi)
        have hBi : ∀ p, Below g w (wr.iter ⟨#[61, 61]⟩ p) := fun p => hbr.trans ((iter_below wr _ p).mono hgw')
        have HBi := (show Hid _ from hBi)
        clear hRi hBi hR hbr d1 e2 m0
        have hb0 := HI0.out 61 (by decide)
        cases hy : byteIs L a 61 with
        | false =>
          rw [hy] at hb0
          have q0 : (x0 != 61) = true := by rw [bne, show (x0 == 61) = false from hb0]; rfl
          have HN2 : Hid (Nosign L a (9 + 1) ∧ Far L a k (9 + 1) F) := ⟨hT.out.1.next (by show (byteIs L a 61 && byteIs L (a + 1) 61) = false; rw [hy]; rfl), hT.out.2.stay (fun e => hy)⟩
          clear hb0 hy hT
          go_wp2_with fail
          refine wp_loop_rounds 3 ?_
          rw [rounds_succ]
          go_wp2
          exact ⟨⟨9 + 1, F, rfl, rfl, by omega, by omega, HRi.out _, HBi.out _, HN2⟩, by simp [intOf]⟩
        | true =>
          rw [hy] at hb0
          have q0 : (x0 != 61) = false := by rw [bne, show (x0 == 61) = true from hb0]; rfl
          obtain ⟨hA1, hk1⟩ := HN.out 61 (by decide) (by decide) hy
          have HA1 := (show Hid _ from hA1)
          have m1 := ((HRi.out 0).mks (k + 1) hk1).2
          rw [HX1.out] at m1
          have g5 : ∀ p, (wr.iter ⟨#[61, 61]⟩ p).cell? ⟨mb, (k + 1) * 2 + 1, none⟩ = some (.int .i32 x1) := fun p => ((HRi.out p).mks (k + 1) hk1).2.trans (by rw [HX1.out])
          have i2 : (k : Int) + 1 < M.length := by omega
          have hmx : max (F : Int) ((k : Int) + 1) = (k : Int) + 1 := by have := hT.out.2.1; omega
          have hb1 := HI1.out HA1.out 61 (by decide)
          clear hA1 m1
          cases hz : byteIs L (a + 1) 61 with
          | false =>
            rw [hz] at hb1
            have q1 : (x1 != 61) = true := by rw [bne, show (x1 == 61) = false from hb1]; rfl
            have HN2 : Hid (Nosign L a (9 + 1) ∧ Far L a k (9 + 1) (k + 1)) := ⟨hT.out.1.next (by show (byteIs L a 61 && byteIs L (a + 1) 61) = false; rw [hz, Bool.and_false]), hT.out.2.on (.inr hy)⟩
            clear hb0 hb1 hy hz hT
            go_wp2_with fail
            refine wp_loop_rounds 3 ?_
            rw [rounds_succ]
            go_wp2
            rw [rounds_succ]
            go_wp2
            exact ⟨⟨9 + 1, k + 1, rfl, by go_num, by omega, by omega, HRi.out _, HBi.out _, HN2⟩, by simp [intOf]⟩
          | true =>
            rw [hz] at hb1
            have q1 : (x1 != 61) = false := by rw [bne, show (x1 == 61) = true from hb1]; rfl
            have HT2 := (show Hid _ from hT.out.1.hit (by decide) (by decide) (by show (byteIs L a 61 && byteIs L (a + 1) 61) = true; rw [hy, hz]; rfl))
            have HA2 := (show Hid _ from HN1.out HA1.out 61 (by decide) (by decide) hz)
            have hmx2 : max ((k : Int) + 1) ((k : Int) + 1 + 1) = (k : Int) + 1 + 1 := by omega
            clear hb0 hb1 hy hz hT
            go_wp2_with fail
            refine wp_loop_rounds 3 ?_
            rw [rounds_succ]
            go_wp2
            rw [rounds_succ]
            go_wp2
            rw [rounds_succ]
            go_wp2
            (try rw [Exit.noGoto_ret])
            go_ret2
            rw [HT2.out]
            exact ⟨rfl, ⟨k + 1 + 1, (HRi.out _).move (k + 1 + 1), HA2.out⟩, (HBi.out _).trans (below_set _)⟩
      · have cs : wr.cell? ⟨1, 10, none⟩ = some (.string ⟨#[60]⟩) := hSig 10 (by decide)
        clear hSig
        have g1 : ∀ p, (wr.iter ⟨#[60]⟩ p).cell? ⟨g, 1, none⟩ = some (.slice (some ⟨mb, 0, none⟩) M.length mc) := fun p => iter_cell _ p d1
        have g2 : ∀ p, (wr.iter ⟨#[60]⟩ p).cell? ⟨g, 2, none⟩ = some (.int .i64 (k : Int)) := fun p => iter_cell _ p d2
        have g3 : ∀ p, (wr.iter ⟨#[60]⟩ p).frozen? ⟨g, 2, none⟩ = false := fun p => (iter_frozen _ p (a := ⟨g, 2, none⟩) hgw).trans e2
        have g4 : ∀ p, (wr.iter ⟨#[60]⟩ p).cell? ⟨mb, k * 2 + 1, none⟩ = some (.int .i32 x0) := fun p => iter_cell _ p m0
        have X0 : ∀ ty, (Instr.next (.pointer (some ⟨wr.heap.size, 0, none⟩)) true ty).run Tryz.prog (wr.iter ⟨#[60]⟩ 0) = .ok (.tuple #[.bool true, .int .i64 0, .int .i32 60]) (wr.iter ⟨#[60]⟩ 1) := fun ty => next_it wr ⟨#[60]⟩ 0 ty (by decide) (by decide)
        have X1 : ∀ ty, (Instr.next (.pointer (some ⟨wr.heap.size, 0, none⟩)) true ty).run Tryz.prog (wr.iter ⟨#[60]⟩ 1) = .ok (.tuple #[.bool false]) (wr.iter ⟨#[60]⟩ 1) := fun ty => run_next_end wr ⟨#[60]⟩ 1 ty (by decide)
        have hRi : ∀ p, IRdr (wr.iter ⟨#[60]⟩ p) B g mb mc s M k out := fun p => hR.keep (iter_below wr _ p)
        have HRi := (show Hid _ from hRi)
        have hBi : ∀ p, Below g w (wr.iter ⟨#[60]⟩ p) := fun p => hbr.trans ((iter_below wr _ p).mono hgw')
        have HBi := (show Hid _ from hBi)
        clear hRi hBi hR hbr d1 e2 m0
        have hb0 := HI0.out 60 (by decide)
        cases hy : byteIs L a 60 with
        | false =>
          rw [hy] at hb0
          have q0 : (x0 != 60) = true := by rw [bne, show (x0 == 60) = false from hb0]; rfl
          have HN2 : Hid (Nosign L a (10 + 1) ∧ Far L a k (10 + 1) F) := ⟨hT.out.1.next (hy), hT.out.2.stay (fun e => absurd e (by decide))⟩
          clear hb0 hy hT
          go_wp2_with fail
          refine wp_loop_rounds 3 ?_
          rw [rounds_succ]
          go_wp2
          exact ⟨⟨10 + 1, F, rfl, rfl, by omega, by omega, HRi.out _, HBi.out _, HN2⟩, by simp [intOf]⟩
        | true =>
          rw [hy] at hb0
          have q0 : (x0 != 60) = false := by rw [bne, show (x0 == 60) = true from hb0]; rfl
          obtain ⟨hA1, hk1⟩ := HN.out 60 (by decide) (by decide) hy
          have HA1 := (show Hid _ from hA1)
          have HT2 := (show Hid _ from hT.out.1.hit (by decide) (by decide) hy)
          have hmx : max (F : Int) ((k : Int) + 1) = (k : Int) + 1 := by have := hT.out.2.1; omega
          clear hb0 hy hT hA1
          go_wp2_with fail
          refine wp_loop_rounds 3 ?_
          rw [rounds_succ]
          go_wp2
          rw [rounds_succ]
          go_wp2
          (try rw [Exit.noGoto_ret])
          go_ret2
          rw [HT2.out]
          exact ⟨rfl, ⟨k + 1, (HRi.out _).move (k + 1), HA1.out⟩, (HBi.out _).trans (below_set _)⟩
    · obtain rfl : n = 11 := by omega
      obtain ⟨t1, t2⟩ := hT.out.1.none
      have HT2 : Hid (twoR L a = (0, if byteIs L a 61 = true then a + 1 else a)) := t1
      have HK : Hid (MkAt L (M.drop F) (if byteIs L a 61 = true then a + 1 else a)) := by
        show MkAt _ _ _
        cases hy : byteIs L a 61 with
        | true =>
          obtain ⟨hA1, _⟩ := HN.out 61 (by decide) (by decide) hy
          rw [if_pos rfl, hT.out.2.2.2 (by decide) hy]
          exact hA1
        | false =>
          rw [if_neg (by decide)]
          rcases hT.out.2.1 with e | e
          · rw [e]; exact HA.out
          · rcases hT.out.2.2.1 e with e' | e'
            · rw [t2] at e'; cases e'
            · rw [hy] at e'; cases e'
      clear t1 t2 hT hSig m0
      go_wp2
      (try rw [Exit.noGoto_ret])
      go_ret2
      rw [HT2.out]
      exact ⟨rfl, ⟨F, hR.move F, HK.out⟩, hbr.trans (below_set _)⟩
end Go.Proofs.YtkadanagmahhgaaGreatDoor
