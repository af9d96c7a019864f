/-
  PROVED HERE: how the program's closing of parts lies in memory of its own, and what each step on it leaves. No condition. how the program's closing lies at its beginning. No condition.
-/
import Derived.Test.YthkjmgjajmghmaaDoorRun8
import Derived.Test.YthkjmgjajmghmaaDoorRun15
import Derived.Test.YthkjmgjajmghmaaDoorRun23
import Derived.Test.YthkjmgjajmghmaaDoorRun22
namespace Go.Proofs.YthkjmgjajmghmaaDoor
open Go.ChangeShapes Go.WideShapes Go.ChangeAt Go.RowKit
open Go.MapKept Go.ChangeMaps
set_option linter.unusedVariables false

/-- A closing in memory of its own: the tag of a block tells what it belongs to: 0 the struct, 1 the parts, 2 the row of users, 3 the map, 4 what is due, 5 + y the users of y. -/
structure Clo (w : World) (lo : Nat) (T : Nat → Nat) (n C bu bf : Nat) (na vp vd : Value) (V : Nat → Value) (l : List Int) (U : Nat → List Int) (F : Sh → Option Int) (D : List (Int × Int)) : Prop where
  hC : lo ≤ C ∧ C < w.heap.size ∧ T C = 0
  hu : lo ≤ bu ∧ bu < w.heap.size ∧ T bu = 2
  hf : lo ≤ bf ∧ bf < w.heap.size ∧ T bf = 3
  c0 : w.cell? ⟨C, 0, none⟩ = some na
  c1 : w.cell? ⟨C, 1, none⟩ = some vp
  c2 : w.cell? ⟨C, 2, none⟩ = some (.slice (some ⟨bu, 0, none⟩) n n)
  c3 : w.cell? ⟨C, 3, none⟩ = some (.map (some bf))
  c4 : w.cell? ⟨C, 4, none⟩ = some vd
  fz : w.frozen? ⟨C, 4, none⟩ = false
  rp : w.ownsRow lo 3 1 vp n (vals l)
  tp : ∀ x, vp.ownBlock = some x → T x = 1
  cu : ∀ y, y < n → w.cell? ⟨bu, y, none⟩ = some (V y) ∧ w.frozen? ⟨bu, y, none⟩ = false
  ru : ∀ y, y < n → w.ownsRow lo 3 1 (V y) (U y).length (vals (U y))
  tu : ∀ y, y < n → ∀ x, (V y).ownBlock = some x → T x = 5 + y
  rf : SMap w bf F
  rd : w.ownsRow lo 76 2 vd D.length (flat D)
  td : ∀ x, vd.ownBlock = some x → T x = 4
section
variable {w : World} {lo : Nat} {T : Nat → Nat} {n C bu bf : Nat} {na vp vd : Value} {V : Nat → Value} {l : List Int} {U : Nat → List Int} {F : Sh → Option Int} {D : List (Int × Int)}
theorem Clo.keep (h : Clo w lo T n C bu bf na vp vd V l U F D) {w' : World} (hb : Below w.heap.size w w') : Clo w' lo T n C bu bf na vp vd V l U F D := by
  have hs := hb.size
  have cell : ∀ (b j : Nat), b < w.heap.size → w'.cell? ⟨b, j, none⟩ = w.cell? ⟨b, j, none⟩ := fun b j hl => hb.cell (p := ⟨b, j, none⟩) hl
  have frz : ∀ (b j : Nat), b < w.heap.size → w'.frozen? ⟨b, j, none⟩ = w.frozen? ⟨b, j, none⟩ := fun b j hl => World.frozen?_of_block (a := ⟨b, j, none⟩) (hb.block b hl)
  have row : ∀ {b e s m : Nat} {v : Value} {xs : List Value}, w.ownsRow b e s v m xs → w'.ownsRow b e s v m xs := fun hr => row_map hr fun x hx hl => hb.block x hl
  have k1 := h.hC.2.1
  have k2 := h.hu.2.1
  have k3 := h.hf.2.1
  exact ⟨⟨h.hC.1, by omega, h.hC.2.2⟩, ⟨h.hu.1, by omega, h.hu.2.2⟩, ⟨h.hf.1, by omega, h.hf.2.2⟩, (cell C 0 k1).trans h.c0, (cell C 1 k1).trans h.c1, (cell C 2 k1).trans h.c2, (cell C 3 k1).trans h.c3, (cell C 4 k1).trans h.c4, (frz C 4 k1).trans h.fz, row h.rp, h.tp,
    fun y hy => ⟨(cell bu y k2).trans (h.cu y hy).1, (frz bu y k2).trans (h.cu y hy).2⟩, fun y hy => row (h.ru y hy), h.tu, h.rf.block (hb.block bf k3), row h.rd, h.td⟩
/-- The tags with one block more. -/
def tagAt (T : Nat → Nat) (v : Value) (q : Nat) : Nat → Nat := fun b => if v.ownBlock = some b then q else T b
theorem tagAt_old {T : Nat → Nat} {v v' : Value} {q s b : Nat} (hat : v'.ownBlock = v.ownBlock ∨ v'.ownBlock = some s) (hT : ∀ x, v.ownBlock = some x → T x = q) (hb : b < s) : tagAt T v' q b = T b := by
  unfold tagAt
  split
  · rename_i e
    rcases hat with h0 | h0
    · rw [h0] at e; exact (hT b e).symm
    · rw [h0] at e; injection e; omega
  · rfl
/-- A pair more that is due, ahead of its storing. -/
theorem Clo.dueRow (h : Clo w lo T n C bu bf na vp vd V l U F D) {w6 : World} {v6 : Value} {a b : Int} (hrow : w6.ownsRow lo 76 2 v6 (D.length + 1) (flat D ++ [.int .i64 a, .int .i64 b])) (hg : w.grownBy w6 vd.ownBlock) (hat : v6.ownBlock = vd.ownBlock ∨ v6.ownBlock = some w.heap.size) :
    w6.cell? ⟨C, 4, none⟩ = some vd ∧ w6.frozen? ⟨C, 4, none⟩ = false ∧ Clo (w6.setCell ⟨C, 4, none⟩ v6) lo (tagAt T v6 4) n C bu bf na vp v6 V l U F (D ++ [(a, b)]) := by
  have hs := hg.size
  have told : ∀ {x : Nat}, x < w.heap.size → tagAt T v6 4 x = T x := fun hx => tagAt_old hat h.td hx
  have blk6 : ∀ x, x < w.heap.size → T x ≠ 4 → w6.heap[x]? = w.heap[x]? := fun x hx ht => hg.block x hx (fun e => ht (h.td x e.symm))
  have k1 := h.hC.2.1
  have k2 := h.hu.2.1
  have k3 := h.hf.2.1
  have cell6 : ∀ (x j : Nat), x < w.heap.size → T x ≠ 4 → w6.cell? ⟨x, j, none⟩ = w.cell? ⟨x, j, none⟩ := fun x j hx ht => World.cell?_of_block (a := ⟨x, j, none⟩) (blk6 x hx ht)
  have frz6 : ∀ (x j : Nat), x < w.heap.size → T x ≠ 4 → w6.frozen? ⟨x, j, none⟩ = w.frozen? ⟨x, j, none⟩ := fun x j hx ht => World.frozen?_of_block (a := ⟨x, j, none⟩) (blk6 x hx ht)
  have tC := h.hC.2.2
  have tu := h.hu.2.2
  have tf := h.hf.2.2
  have c4 := (cell6 C 4 k1 (by omega)).trans h.c4
  have blk : ∀ x, x ≠ C → (w6.setCell ⟨C, 4, none⟩ v6).heap[x]? = w6.heap[x]? := fun x hx => heap_setCell_other w6 ⟨C, 4, none⟩ x v6 hx
  have cell7 : ∀ (x j : Nat), x ≠ C → (w6.setCell ⟨C, 4, none⟩ v6).cell? ⟨x, j, none⟩ = w6.cell? ⟨x, j, none⟩ := fun x j hx => World.cell?_of_block (a := ⟨x, j, none⟩) (blk x hx)
  have cellC : ∀ j, j ≠ 4 → (w6.setCell ⟨C, 4, none⟩ v6).cell? ⟨C, j, none⟩ = w.cell? ⟨C, j, none⟩ := fun j hj => (World.cell?_setCell_other _ _ _ _ (by intro e; cases e; exact hj rfl)).trans (cell6 C j k1 (by omega))
  have row7 : ∀ {b e s m : Nat} {v : Value} {xs : List Value}, w.ownsRow b e s v m xs → (∀ x, v.ownBlock = some x → T x ≠ 4 ∧ T x ≠ 0) → (w6.setCell ⟨C, 4, none⟩ v6).ownsRow b e s v m xs := fun hr ht => row_map hr fun x hx hl => (blk x (fun e => (ht x hx).2 (by rw [e]; exact tC))).trans (blk6 x hl (ht x hx).1)
  have hsz : w6.heap.size ≤ (w6.setCell ⟨C, 4, none⟩ v6).heap.size := by simp
  refine ⟨c4, (frz6 C 4 k1 (by omega)).trans h.fz, ⟨h.hC.1, by simp; omega, (told k1).trans tC⟩, ⟨h.hu.1, by simp; omega, (told k2).trans tu⟩, ⟨h.hf.1, by simp; omega, (told k3).trans tf⟩, (cellC 0 (by omega)).trans h.c0, (cellC 1 (by omega)).trans h.c1, (cellC 2 (by omega)).trans h.c2, (cellC 3 (by omega)).trans h.c3, World.cell?_setCell_same _ _ _ c4, ?_, ?_, fun x hx => ?_, fun y hy => ⟨?_, ?_⟩, fun y hy => ?_, fun y hy x hx => ?_, ?_, ?_, fun x hx => ?_⟩
  · rw [World.frozen?_setCell]; exact (frz6 C 4 k1 (by omega)).trans h.fz
  · exact row7 h.rp fun x hx => by have := h.tp x hx; omega
  · rw [told (h.rp.lt x hx).2]; exact h.tp x hx
  · rw [cell7 bu y (fun e => by rw [e] at tu; omega), cell6 bu y k2 (by omega)]; exact (h.cu y hy).1
  · rw [World.frozen?_setCell]; exact (frz6 bu y k2 (by omega)).trans (h.cu y hy).2
  · exact row7 (h.ru y hy) fun x hx => by have := h.tu y hy x hx; omega
  · rw [told ((h.ru y hy).lt x hx).2]; exact h.tu y hy x hx
  · exact h.rf.block ((blk bf (fun e => by rw [e] at tf; omega)).trans (blk6 bf k3 (by omega)))
  · rw [flat_append, List.length_append]
    exact row_map hrow fun x hx hl => blk x fun e => by
      rcases hat with h0 | h0
      · rw [h0] at hx; have := h.td x hx; rw [e] at this; omega
      · rw [h0] at hx; injection hx; omega
  · unfold tagAt; rw [if_pos hx]
/-- The map holds something else. -/
theorem Clo.setMap (h : Clo w lo T n C bu bf na vp vd V l U F D) {o : Obj} {F' : Sh → Option Int} (ho : ∀ w3 : World, w3.heap[bf]? = some o → SMap w3 bf F') : Clo (setBlock w bf o) lo T n C bu bf na vp vd V l U F' D := by
  have k1 := h.hC.2.1
  have k2 := h.hu.2.1
  have k3 := h.hf.2.1
  have tC := h.hC.2.2
  have tu := h.hu.2.2
  have tf := h.hf.2.2
  have blk : ∀ x, x ≠ bf → (setBlock w bf o).heap[x]? = w.heap[x]? := fun x hx => setB_ne x hx
  have cell : ∀ (x j : Nat), x ≠ bf → (setBlock w bf o).cell? ⟨x, j, none⟩ = w.cell? ⟨x, j, none⟩ := fun x j hx => World.cell?_of_block (a := ⟨x, j, none⟩) (blk x hx)
  have frz : ∀ (x j : Nat), x ≠ bf → (setBlock w bf o).frozen? ⟨x, j, none⟩ = w.frozen? ⟨x, j, none⟩ := fun x j hx => World.frozen?_of_block (a := ⟨x, j, none⟩) (blk x hx)
  have row : ∀ {b e s m : Nat} {v : Value} {xs : List Value}, w.ownsRow b e s v m xs → (∀ x, v.ownBlock = some x → T x ≠ 3) → (setBlock w bf o).ownsRow b e s v m xs := fun hr ht => row_map hr fun x hx hl => blk x (fun e => ht x hx (by rw [e]; exact tf))
  have hsz : (setBlock w bf o).heap.size = w.heap.size := setB_size ..
  have nC : C ≠ bf := fun e => by rw [e] at tC; omega
  have nu : bu ≠ bf := fun e => by rw [e] at tu; omega
  refine ⟨⟨h.hC.1, by omega, tC⟩, ⟨h.hu.1, by omega, tu⟩, ⟨h.hf.1, by omega, tf⟩, (cell C 0 nC).trans h.c0, (cell C 1 nC).trans h.c1, (cell C 2 nC).trans h.c2, (cell C 3 nC).trans h.c3, (cell C 4 nC).trans h.c4, (frz C 4 nC).trans h.fz, row h.rp (fun x hx => by have := h.tp x hx; omega), h.tp, fun y hy => ⟨(cell bu y nu).trans (h.cu y hy).1, (frz bu y nu).trans (h.cu y hy).2⟩, fun y hy => row (h.ru y hy) (fun x hx => by have := h.tu y hy x hx; omega), h.tu, ho _ ?_, row h.rd (fun x hx => by have := h.td x hx; omega), h.td⟩
  simp [setBlock, k3]
/-- A part is another one. -/
theorem Clo.setPart (h : Clo w lo T n C bu bf na vp vd V l U F D) {bp cp k : Nat} (hv : vp = .slice (some ⟨bp, 0, none⟩) n cp) (hk : k < n) (x : Int) : Clo (w.setCell ⟨bp, k, none⟩ (.int .i64 x)) lo T n C bu bf na vp vd V (l.set k x) U F D := by
  subst hv
  have k1 := h.hC.2.1
  have k2 := h.hu.2.1
  have k3 := h.hf.2.1
  have tC := h.hC.2.2
  have tu := h.hu.2.2
  have tf := h.hf.2.2
  have tp := h.tp bp rfl
  have blk : ∀ b, b ≠ bp → (w.setCell ⟨bp, k, none⟩ (.int .i64 x)).heap[b]? = w.heap[b]? := fun b hb => heap_setCell_other w ⟨bp, k, none⟩ b _ hb
  have cell : ∀ (b j : Nat), b ≠ bp → (w.setCell ⟨bp, k, none⟩ (.int .i64 x)).cell? ⟨b, j, none⟩ = w.cell? ⟨b, j, none⟩ := fun b j hb => World.cell?_of_block (a := ⟨b, j, none⟩) (blk b hb)
  have frz : ∀ (b j : Nat), (w.setCell ⟨bp, k, none⟩ (.int .i64 x)).frozen? ⟨b, j, none⟩ = w.frozen? ⟨b, j, none⟩ := fun b j => World.frozen?_setCell ..
  have row : ∀ {b e s m : Nat} {v : Value} {xs : List Value}, w.ownsRow b e s v m xs → (∀ z, v.ownBlock = some z → T z ≠ 1) → (w.setCell ⟨bp, k, none⟩ (.int .i64 x)).ownsRow b e s v m xs := fun hr ht => row_map hr fun z hz hl => blk z (fun e => ht z hz (by rw [e]; exact tp))
  have nC : C ≠ bp := fun e => by rw [e] at tC; omega
  have nu : bu ≠ bp := fun e => by rw [e] at tu; omega
  have nf : bf ≠ bp := fun e => by rw [e] at tf; omega
  have hst := (h.rp.stored k (.int .i64 x)).1
  refine ⟨⟨h.hC.1, by simp; omega, tC⟩, ⟨h.hu.1, by simp; omega, tu⟩, ⟨h.hf.1, by simp; omega, tf⟩, (cell C 0 nC).trans h.c0, (cell C 1 nC).trans h.c1, (cell C 2 nC).trans h.c2, (cell C 3 nC).trans h.c3, (cell C 4 nC).trans h.c4, (frz C 4).trans h.fz, ?_, h.tp, fun y hy => ⟨(cell bu y nu).trans (h.cu y hy).1, (frz bu y).trans (h.cu y hy).2⟩, fun y hy => row (h.ru y hy) (fun z hz => by have := h.tu y hy z hz; omega), h.tu, h.rf.block (blk bf nf), row h.rd (fun z hz => by have := h.td z hz; omega), h.td⟩
  have : vals (l.set k x) = (vals l).set k (.int .i64 x) := by simp [vals, List.map_set]
  rw [this]
  exact hst
/-- What is due without its last pair. -/
theorem Clo.popDue {a b : Int} (h : Clo w lo T n C bu bf na vp vd V l U F (D ++ [(a, b)])) : ∃ bd cd, vd = .slice (some ⟨bd, 0, none⟩) (D.length + 1) cd ∧ D.length + 1 ≤ cd ∧ w.cell? ⟨bd, D.length * 2, none⟩ = some (.int .i64 a) ∧ w.cell? ⟨bd, D.length * 2 + 1, none⟩ = some (.int .i64 b) ∧ bd ≠ C ∧ bd < w.heap.size ∧
    Clo (w.setCell ⟨C, 4, none⟩ (.slice (some ⟨bd, 0, none⟩) D.length cd)) lo T n C bu bf na vp (.slice (some ⟨bd, 0, none⟩) D.length cd) V l U F D := by
  have hrd := h.rd
  rw [List.length_append, List.length_singleton] at hrd
  have hcells := hrd
  obtain ⟨bd, cd, hvd, hbd, hcd⟩ : ∃ bd cd, vd = .slice (some ⟨bd, 0, none⟩) (D.length + 1) cd ∧ bd < w.heap.size ∧ D.length + 1 ≤ cd := by
    rcases hrd.2 with ⟨_, h0⟩ | ⟨g, cap, cur, e, _, hg, hcap, _⟩
    · omega
    · exact ⟨g, cap, e, (Array.getElem?_eq_some_iff.1 hg).1, hcap⟩
  subst hvd
  have k1 := h.hC.2.1
  have k2 := h.hu.2.1
  have k3 := h.hf.2.1
  have tC := h.hC.2.2
  have tu := h.hu.2.2
  have tf := h.hf.2.2
  have td := h.td bd rfl
  have hbC : bd ≠ C := fun e => by rw [e] at td; omega
  have e0 : (flat (D ++ [(a, b)]))[D.length * 2]? = some (.int .i64 a) := by rw [flat_append, List.getElem?_append_right (by rw [flat_len]; omega), flat_len, Nat.sub_self]; rfl
  have e1 : (flat (D ++ [(a, b)]))[D.length * 2 + 1]? = some (.int .i64 b) := by rw [flat_append, List.getElem?_append_right (by rw [flat_len]; omega), flat_len, show D.length * 2 + 1 - D.length * 2 = 1 by omega]; rfl
  have blk : ∀ x, x ≠ C → (w.setCell ⟨C, 4, none⟩ (.slice (some ⟨bd, 0, none⟩) D.length cd)).heap[x]? = w.heap[x]? := fun x hx => heap_setCell_other w ⟨C, 4, none⟩ x _ hx
  have cell7 : ∀ (x j : Nat), x ≠ C → (w.setCell ⟨C, 4, none⟩ (.slice (some ⟨bd, 0, none⟩) D.length cd)).cell? ⟨x, j, none⟩ = w.cell? ⟨x, j, none⟩ := fun x j hx => World.cell?_of_block (a := ⟨x, j, none⟩) (blk x hx)
  have cellC : ∀ j, j ≠ 4 → (w.setCell ⟨C, 4, none⟩ (.slice (some ⟨bd, 0, none⟩) D.length cd)).cell? ⟨C, j, none⟩ = w.cell? ⟨C, j, none⟩ := fun j hj => World.cell?_setCell_other _ _ _ _ (by intro e; cases e; exact hj rfl)
  have row7 : ∀ {b e s m : Nat} {v : Value} {xs : List Value}, w.ownsRow b e s v m xs → (∀ x, v.ownBlock = some x → T x ≠ 0) → (w.setCell ⟨C, 4, none⟩ (.slice (some ⟨bd, 0, none⟩) D.length cd)).ownsRow b e s v m xs := fun hr ht => row_map hr fun x hx hl => blk x (fun e => ht x hx (by rw [e]; exact tC))
  have hpop : w.ownsRow lo 76 2 (.slice (some ⟨bd, 0, none⟩) D.length cd) D.length (flat D) := by
    have : flat (D ++ [(a, b)]) = flat D ++ [.int .i64 a, .int .i64 b] := flat_append _ _
    rw [this] at hrd
    exact ownsRow_pop (flat_len D) hrd
  refine ⟨bd, cd, rfl, hcd, (hcells.cellAt (D.length * 2) (by omega)).trans e0, (hcells.cellAt (D.length * 2 + 1) (by omega)).trans e1, hbC, hbd, ⟨h.hC.1, by simp; omega, tC⟩, ⟨h.hu.1, by simp; omega, tu⟩, ⟨h.hf.1, by simp; omega, tf⟩, (cellC 0 (by omega)).trans h.c0, (cellC 1 (by omega)).trans h.c1, (cellC 2 (by omega)).trans h.c2, (cellC 3 (by omega)).trans h.c3, World.cell?_setCell_same _ _ _ h.c4, ?_, ?_, h.tp, fun y hy => ⟨?_, ?_⟩, fun y hy => ?_, h.tu, ?_, ?_, fun x hx => ?_⟩
  · rw [World.frozen?_setCell]; exact h.fz
  · exact row7 h.rp fun x hx => by have := h.tp x hx; omega
  · rw [cell7 bu y (fun e => by rw [e] at tu; omega)]; exact (h.cu y hy).1
  · rw [World.frozen?_setCell]; exact (h.cu y hy).2
  · exact row7 (h.ru y hy) fun x hx => by have := h.tu y hy x hx; omega
  · exact h.rf.block (blk bf (fun e => by rw [e] at tf; omega))
  · exact row7 hpop fun x hx => by injection hx with hx; rw [← hx]; simp only; omega
  · injection hx with hx; rw [← hx]; exact td
/-- Users more of one part, ahead of their storing. -/
theorem Clo.userRow (h : Clo w lo T n C bu bf na vp vd V l U F D) {y0 : Nat} (hy0 : y0 < n) {w6 : World} {v6 : Value} {us : List Int} (hrow : w6.ownsRow lo 3 1 v6 ((U y0).length + us.length) (vals (U y0) ++ vals us)) (hg : w.grownBy w6 (V y0).ownBlock) (hat : v6.ownBlock = (V y0).ownBlock ∨ v6.ownBlock = some w.heap.size) :
    w6.cell? ⟨bu, y0, none⟩ = some (V y0) ∧ w6.frozen? ⟨bu, y0, none⟩ = false ∧ w6.cell? ⟨C, 2, none⟩ = some (.slice (some ⟨bu, 0, none⟩) n n) ∧ Clo (w6.setCell ⟨bu, y0, none⟩ v6) lo (tagAt T v6 (5 + y0)) n C bu bf na vp vd (fun y => if y = y0 then v6 else V y) l (fun y => if y = y0 then U y0 ++ us else U y) F D := by
  have hs := hg.size
  have told : ∀ {x : Nat}, x < w.heap.size → tagAt T v6 (5 + y0) x = T x := fun hx => tagAt_old hat (h.tu y0 hy0) hx
  have blk6 : ∀ x, x < w.heap.size → T x ≠ 5 + y0 → w6.heap[x]? = w.heap[x]? := fun x hx ht => hg.block x hx (fun e => ht (h.tu y0 hy0 x e.symm))
  have k1 := h.hC.2.1
  have k2 := h.hu.2.1
  have k3 := h.hf.2.1
  have cell6 : ∀ (x j : Nat), x < w.heap.size → T x ≠ 5 + y0 → w6.cell? ⟨x, j, none⟩ = w.cell? ⟨x, j, none⟩ := fun x j hx ht => World.cell?_of_block (a := ⟨x, j, none⟩) (blk6 x hx ht)
  have frz6 : ∀ (x j : Nat), x < w.heap.size → T x ≠ 5 + y0 → w6.frozen? ⟨x, j, none⟩ = w.frozen? ⟨x, j, none⟩ := fun x j hx ht => World.frozen?_of_block (a := ⟨x, j, none⟩) (blk6 x hx ht)
  have tC := h.hC.2.2
  have tu := h.hu.2.2
  have tf := h.hf.2.2
  have cB := (cell6 bu y0 k2 (by omega)).trans (h.cu y0 hy0).1
  have blk : ∀ x, x ≠ bu → (w6.setCell ⟨bu, y0, none⟩ v6).heap[x]? = w6.heap[x]? := fun x hx => heap_setCell_other w6 ⟨bu, y0, none⟩ x v6 hx
  have nC : C ≠ bu := fun e => by rw [e] at tC; omega
  have cell7 : ∀ (x j : Nat), x ≠ bu → x < w.heap.size → T x ≠ 5 + y0 → (w6.setCell ⟨bu, y0, none⟩ v6).cell? ⟨x, j, none⟩ = w.cell? ⟨x, j, none⟩ := fun x j hx hl ht => (World.cell?_of_block (a := ⟨x, j, none⟩) (blk x hx)).trans (cell6 x j hl ht)
  have row7 : ∀ {b e s m : Nat} {v : Value} {xs : List Value}, w.ownsRow b e s v m xs → (∀ x, v.ownBlock = some x → T x ≠ 5 + y0 ∧ T x ≠ 2) → (w6.setCell ⟨bu, y0, none⟩ v6).ownsRow b e s v m xs := fun hr ht => row_map hr fun x hx hl => (blk x (fun e => (ht x hx).2 (by rw [e]; exact tu))).trans (blk6 x hl (ht x hx).1)
  refine ⟨cB, (frz6 bu y0 k2 (by omega)).trans (h.cu y0 hy0).2, (cell6 C 2 k1 (by omega)).trans h.c2, ⟨h.hC.1, by simp; omega, (told k1).trans tC⟩, ⟨h.hu.1, by simp; omega, (told k2).trans tu⟩, ⟨h.hf.1, by simp; omega, (told k3).trans tf⟩, (cell7 C 0 nC k1 (by omega)).trans h.c0, (cell7 C 1 nC k1 (by omega)).trans h.c1, (cell7 C 2 nC k1 (by omega)).trans h.c2, (cell7 C 3 nC k1 (by omega)).trans h.c3, (cell7 C 4 nC k1 (by omega)).trans h.c4, ?_, ?_, fun x hx => ?_, fun y hy => ⟨?_, ?_⟩, fun y hy => ?_, fun y hy x hx => ?_, ?_, ?_, fun x hx => ?_⟩
  · rw [World.frozen?_setCell]; exact (frz6 C 4 k1 (by omega)).trans h.fz
  · exact row7 h.rp fun x hx => by have := h.tp x hx; omega
  · rw [told (h.rp.lt x hx).2]; exact h.tp x hx
  · by_cases e : y = y0
    · subst e
      simp only [if_pos]
      exact World.cell?_setCell_same _ _ _ cB
    · simp only [if_neg e]
      rw [World.cell?_setCell_other _ _ _ _ (by intro e1; cases e1; exact e rfl), cell6 bu y k2 (by omega)]
      exact (h.cu y hy).1
  · rw [World.frozen?_setCell]; exact (frz6 bu y k2 (by omega)).trans (h.cu y hy).2
  · by_cases e : y = y0
    · subst e
      simp only [if_pos]
      rw [vals_append, List.length_append]
      exact row_map hrow fun x hx hl => blk x fun e => by
        rcases hat with h0 | h0
        · rw [h0] at hx; have := h.tu y hy x hx; rw [e] at this; omega
        · rw [h0] at hx; injection hx; omega
    · simp only [if_neg e]
      exact row7 (h.ru y hy) fun x hx => by have := h.tu y hy x hx; omega
  · by_cases e : y = y0
    · subst e
      simp only [if_pos] at hx
      unfold tagAt
      rw [if_pos hx]
    · simp only [if_neg e] at hx
      rw [told ((h.ru y hy).lt x hx).2]; exact h.tu y hy x hx
  · exact h.rf.block ((blk bf (fun e => by rw [e] at tf; omega)).trans (blk6 bf k3 (by omega)))
  · exact row7 h.rd fun x hx => by have := h.td x hx; omega
  · rw [told (h.rd.lt x hx).2]; exact h.td x hx
end
end Go.Proofs.YthkjmgjajmghmaaDoor
namespace Go.Proofs.YthkjmgjajmghmaaDoor
open Go.ChangeShapes Go.WideShapes Go.ChangeAt Go.RowKit
open Go.MapKept Go.ChangeMaps
set_option linter.unusedVariables false

theorem clo_start {wx : World} {lo n C bu bf : Nat} {na vp : Value} {l : List Int} (hC : lo ≤ C ∧ C < wx.heap.size) (hu : lo ≤ bu ∧ bu < wx.heap.size) (hf : lo ≤ bf ∧ bf < wx.heap.size) (hne : C ≠ bu ∧ C ≠ bf ∧ bu ≠ bf) (hv : ∀ x, vp.ownBlock = some x → x ≠ C ∧ x ≠ bu ∧ x ≠ bf)
    (c0 : wx.cell? ⟨C, 0, none⟩ = some na) (c1 : wx.cell? ⟨C, 1, none⟩ = some vp) (c2 : wx.cell? ⟨C, 2, none⟩ = some (.slice (some ⟨bu, 0, none⟩) n n)) (c3 : wx.cell? ⟨C, 3, none⟩ = some (.map (some bf))) (c4 : wx.cell? ⟨C, 4, none⟩ = some (.slice none 0 0)) (fz : wx.frozen? ⟨C, 4, none⟩ = false)
    (hcu : ∀ y, y < n → wx.cell? ⟨bu, y, none⟩ = some (.slice none 0 0) ∧ wx.frozen? ⟨bu, y, none⟩ = false) (hm : wx.heap[bf]? = some (.map #[] 0)) (rp : wx.ownsRow lo 3 1 vp n (vals l)) :
    Clo wx lo (fun b => if b = C then 0 else if b = bu then 2 else if b = bf then 3 else 1) n C bu bf na vp (.slice none 0 0) (fun _ => .slice none 0 0) l (fun _ => []) (fun _ => none) [] := by
  obtain ⟨h1, h2, h3⟩ := hne
  refine ⟨⟨hC.1, hC.2, if_pos rfl⟩, ⟨hu.1, hu.2, ?_⟩, ⟨hf.1, hf.2, ?_⟩, c0, c1, c2, c3, c4, fz, rp, fun x hx => ?_, hcu, fun y hy => World.ownsRow_nil _ _ _ _, fun y hy x hx => ?_, smap_empty (clock := 0) hm, World.ownsRow_nil _ _ _ _, fun x hx => ?_⟩
  · simp [Ne.symm h1]
  · simp [Ne.symm h2, Ne.symm h3]
  · obtain ⟨q1, q2, q3⟩ := hv x hx
    simp [q1, q2, q3]
  · simp [Value.ownBlock] at hx
  · simp [Value.ownBlock] at hx
end Go.Proofs.YthkjmgjajmghmaaDoor
