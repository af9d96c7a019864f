/-
  PROVED HERE: how a graph lies in memory that is its own, and how it grows there. No condition. what the model's l1In answers, at every three numbers. No condition.
-/
import Derived.Test.YthkjmgjajmghmaaDoorRun12
import Derived.Test.YthkjmgjajmghmaaDoorRun14
import Derived.Maps.AppendAt
import Derived.Test.YthkjmgjajmghmaaDoorRun3
namespace Go.Proofs.YthkjmgjajmghmaaDoor
open Go.ChangeShapes Go.WideShapes Go.ChangeAt Go.RowKit
set_option linter.unusedVariables false

/-- All old blocks but those of S are as they were. -/
structure KB (S : Nat → Prop) (w w' : World) : Prop where
  os : w'.os = w.os
  tape : w'.tape = w.tape
  output : w'.output = w.output
  size : w.heap.size ≤ w'.heap.size
  block : ∀ k, k < w.heap.size → ¬ S k → w'.heap[k]? = w.heap[k]?
theorem KB.refl (S : Nat → Prop) (w : World) : KB S w w := ⟨rfl, rfl, rfl, Nat.le_refl _, fun _ _ _ => rfl⟩
theorem KB.trans {S T : Nat → Prop} {a b c : World} (h : KB S a b) (k : KB T b c) (hT : ∀ x, x < a.heap.size → T x → S x) : KB S a c :=
  ⟨k.os.trans h.os, k.tape.trans h.tape, k.output.trans h.output, Nat.le_trans h.size k.size, fun i hi hn => (k.block i (Nat.lt_of_lt_of_le hi h.size) (fun ht => hn (hT i hi ht))).trans (h.block i hi hn)⟩
theorem KB.mono {S T : Nat → Prop} {a b : World} (h : KB S a b) (hT : ∀ x, x < a.heap.size → S x → T x) : KB T a b := ⟨h.os, h.tape, h.output, h.size, fun i hi hn => h.block i hi (fun hs => hn (hT i hi hs))⟩
theorem KB.of {S : Nat → Prop} {a b : World} (h : Below a.heap.size a b) : KB S a b := ⟨h.os, h.tape, h.output, h.size, fun i hi _ => h.block i hi⟩
theorem KB.below {S : Nat → Prop} {a b : World} {n : Nat} (h : KB S a b) (hS : ∀ x, x < a.heap.size → S x → n ≤ x) (hn : n ≤ a.heap.size) : Below n a b :=
  ⟨h.os, h.tape, h.output, h.size, fun k hk => h.block k (by omega) (fun hs => by have := hS k (by omega) hs; omega)⟩
theorem KB.grown {S : Nat → Prop} {a b c : World} {r : Option Nat} (h : KB S a b) (hg : b.grownBy c r) (hr : ∀ x, r = some x → x < a.heap.size → S x) : KB S a c :=
  h.trans (T := fun x => some x = r) ⟨hg.os, hg.tape, hg.output, hg.size, fun k hk hn => hg.block k hk hn⟩ (fun x hx e => hr x e.symm hx)
theorem KB.setCell {S : Nat → Prop} {a b : World} (h : KB S a b) {p : Addr} (hp : p.block < a.heap.size → S p.block) (v : Value) : KB S a (b.setCell p v) := by
  refine ⟨h.os, h.tape, h.output, by simpa [World.setCell] using h.size, fun k hk hn => ?_⟩
  have : (b.setCell p v).heap[k]? = b.heap[k]? := by
    have hne : p.block ≠ k := fun e => hn (by rw [← e]; exact hp (by omega))
    simp [World.setCell, Array.getElem?_modify, hne]
  exact this.trans (h.block k hk hn)
theorem KB.cell {S : Nat → Prop} {a b : World} (h : KB S a b) {p : Addr} (hp : p.block < a.heap.size) (hn : ¬ S p.block) : b.cell? p = a.cell? p := World.cell?_of_block (h.block _ hp hn)
theorem KB.frozen {S : Nat → Prop} {a b : World} (h : KB S a b) {p : Addr} (hp : p.block < a.heap.size) (hn : ¬ S p.block) : b.frozen? p = a.frozen? p := World.frozen?_of_block (h.block _ hp hn)
theorem sl_block {w w' : World} {a : Option Addr} {n : Nat} {l : List Int} (h : Sl w a n l) (hb : ∀ x, (Value.slice a n n).ownBlock = some x → x < w.heap.size → w'.heap[x]? = w.heap[x]?) (hs : w.heap.size ≤ w'.heap.size) : Sl w' a n l := by
  refine ⟨h.1, ?_⟩
  rcases h.2 with h0 | ⟨b, off, rfl, hlt, hc⟩
  · exact .inl h0
  · refine .inr ⟨b, off, rfl, by omega, fun i hi => (World.cell?_of_block (a := ⟨b, off + i, none⟩) (hb b rfl hlt)).trans (hc i hi)⟩
theorem own_slice (a : Option Addr) (n c n' c' : Nat) : (Value.slice a n c).ownBlock = (Value.slice a n' c').ownBlock := by cases a <;> rfl
/-- A node's kids in memory of the graph. -/
def KidAt (w : World) (s : Bool) (S : Nat → Prop) (v : Value) (kids : List Int) : Prop :=
  ∃ a c, v = .slice a kids.length c ∧ kids.length ≤ c ∧ kids.length ≤ 9223372036854775807 ∧ Sl w a kids.length kids ∧ (∀ x, v.ownBlock = some x → S x ∧ x < w.heap.size) ∧ (s = true → ∃ b, a = some ⟨b, 0, none⟩ ∧ ∀ j, j < kids.length → w.frozen? ⟨b, j, none⟩ = false)
theorem KidAt.map {w w' : World} {s : Bool} {S S' : Nat → Prop} {v : Value} {kids : List Int} (h : KidAt w s S v kids) (hs : w.heap.size ≤ w'.heap.size) (hk : ∀ x, v.ownBlock = some x → x < w.heap.size → w'.heap[x]? = w.heap[x]?) (hS : ∀ x, v.ownBlock = some x → x < w.heap.size → S x → S' x) : KidAt w' s S' v kids := by
  obtain ⟨a, c, rfl, h1, h1', h2, h3, h4⟩ := h
  refine ⟨a, c, rfl, h1, h1', sl_block h2 (fun x hx hl => hk x (by rw [own_slice a _ _ _ _]; exact hx) hl) hs, fun x hx => ⟨hS x hx (h3 x hx).2 (h3 x hx).1, Nat.lt_of_lt_of_le (h3 x hx).2 hs⟩, fun e => ?_⟩
  obtain ⟨b, rfl, hb⟩ := h4 e
  exact ⟨b, rfl, fun j hj => (World.frozen?_of_block (a := ⟨b, j, none⟩) (hk b rfl (h3 b rfl).2)).trans (hb j hj)⟩
/-- A graph in memory of its own: its blocks are of S. -/
def GOwn (w : World) (s : Bool) (S : Nat → Prop) (va vb : Value) (g : GS) : Prop :=
  ∃ (xs : List Value) (kv : Nat → Value), w.ownsRow 0 57 3 va g.1.length xs ∧ w.ownsRow 0 3 1 vb g.2.length (vals g.2) ∧ (∀ x, va.ownBlock = some x → S x ∧ vb.ownBlock ≠ some x) ∧ (∀ x, vb.ownBlock = some x → S x) ∧
  ∀ i, i < g.1.length → xs[i * 3]? = some (.int .i64 (g.1.getD i e0).1) ∧ xs[i * 3 + 1]? = some (.int .i64 (g.1.getD i e0).2.1) ∧ xs[i * 3 + 2]? = some (kv i) ∧
    KidAt w s (fun x => S x ∧ va.ownBlock ≠ some x ∧ vb.ownBlock ≠ some x ∧ ∀ j, j < i → (kv j).ownBlock ≠ some x) (kv i) (g.1.getD i e0).2.2
theorem row_map {w w' : World} {base e size n : Nat} {v : Value} {xs : List Value} (h : w.ownsRow base e size v n xs) (hk : ∀ x, v.ownBlock = some x → x < w.heap.size → w'.heap[x]? = w.heap[x]?) : w'.ownsRow base e size v n xs := by
  refine ⟨h.1, ?_⟩
  rcases h.2 with hn | ⟨g, cap, cur, rfl, hb, hgg, rest⟩
  · exact .inl hn
  · exact .inr ⟨g, cap, cur, rfl, hb, (hk g rfl (Array.getElem?_eq_some_iff.1 hgg).1).trans hgg, rest⟩
theorem GOwn.map {w w' : World} {s : Bool} {S S' : Nat → Prop} {va vb : Value} {g : GS} (h : GOwn w s S va vb g) (hs : w.heap.size ≤ w'.heap.size) (hk : ∀ b, S b → b < w.heap.size → w'.heap[b]? = w.heap[b]?) (hS : ∀ b, b < w.heap.size → S b → S' b) : GOwn w' s S' va vb g := by
  obtain ⟨xs, kv, h1, h2, h3, h4, h5⟩ := h
  refine ⟨xs, kv, row_map h1 (fun x hx hl => hk x (h3 x hx).1 hl), row_map h2 (fun x hx hl => hk x (h4 x hx) hl), fun x hx => ⟨hS x (h1.lt x hx).2 (h3 x hx).1, (h3 x hx).2⟩, fun x hx => hS x (h2.lt x hx).2 (h4 x hx), fun i hi => ?_⟩
  obtain ⟨k1, k2, k3, k4⟩ := h5 i hi
  have hb := k4
  obtain ⟨a, c, _, _, _, _, hin, _⟩ := hb
  exact ⟨k1, k2, k3, k4.map hs (fun x hx hl => hk x (hin x hx).1.1 hl) (fun x hx hl hx' => ⟨hS x hl hx'.1, hx'.2⟩)⟩
theorem GOwn.keep {w w' : World} {s : Bool} {S : Nat → Prop} {va vb : Value} {g : GS} (h : GOwn w s S va vb g) (hb : Below w.heap.size w w') : GOwn w' s S va vb g := h.map hb.size (fun b _ hl => hb.block b hl) (fun _ _ hx => hx)
theorem GOwn.sets {w : World} {s : Bool} {S S' : Nat → Prop} {va vb : Value} {g : GS} (h : GOwn w s S va vb g) (hS : ∀ b, b < w.heap.size → S b → S' b) : GOwn w s S' va vb g := h.map (Nat.le_refl _) (fun _ _ _ => rfl) hS
/-- One part more. -/
theorem GOwn.addPart {w w' : World} {s : Bool} {S : Nat → Prop} {va vb vb' : Value} {p : List EN} {l : List Int} {c : Int} (h : GOwn w s S va vb (p, l)) (hrow : w'.ownsRow 0 3 1 vb' (l.length + 1) (vals l ++ [.int .i64 c])) (hg : w.grownBy w' vb.ownBlock) (hat : vb'.ownBlock = vb.ownBlock ∨ vb'.ownBlock = some w.heap.size) :
    GOwn w' s (fun x => S x ∨ w.heap.size ≤ x) va vb' (p, l ++ [c]) := by
  obtain ⟨xs, kv, h1, h2, h3, h4, h5⟩ := h
  have hna : ∀ x, va.ownBlock = some x → vb'.ownBlock ≠ some x := fun x hx e => by
    rcases hat with h0 | h0
    · exact (h3 x hx).2 (by rw [← h0]; exact e)
    · rw [h0] at e; have := (h1.lt x hx).2; injection e; omega
  refine ⟨xs, kv, row_map h1 (fun x hx hl => hg.block x hl (fun e => (h3 x hx).2 e.symm)), ?_, fun x hx => ⟨.inl (h3 x hx).1, hna x hx⟩, fun x hx => ?_, fun i hi => ?_⟩
  · show w'.ownsRow 0 3 1 vb' (l ++ [c]).length (vals (l ++ [c]))
    rw [vals_append, List.length_append]; exact hrow
  · rcases hat with h0 | h0
    · rw [h0] at hx; exact .inl (h4 x hx)
    · rw [h0] at hx; injection hx; right; omega
  · obtain ⟨k1, k2, k3, k4⟩ := h5 i hi
    have hb := k4
    obtain ⟨a, c', _, _, _, _, hin, _⟩ := hb
    refine ⟨k1, k2, k3, k4.map hg.size (fun x hx hl => hg.block x hl (fun e => (hin x hx).1.2.2.1 e.symm)) (fun x hx hl hx' => ⟨.inl hx'.1, hx'.2.1, fun e => ?_, hx'.2.2.2⟩)⟩
    rcases hat with h0 | h0
    · rw [h0] at e; exact hx'.2.2.1 e
    · rw [h0] at e; injection e; omega
/-- One node more, with kids that lie elsewhere. -/
theorem GOwn.addNode {w w' : World} {s : Bool} {S : Nat → Prop} {va va' vb kn : Value} {p : List EN} {l : List Int} {xs : List Value} {x : EN} (h : GOwn w s S va vb (p, l)) (hown : w.ownsRow 0 57 3 va p.length xs) (hrow : w'.ownsRow 0 57 3 va' (p.length + 1) (xs ++ [.int .i64 x.1, .int .i64 x.2.1, kn])) (hg : w.grownBy w' va.ownBlock) (hat : va'.ownBlock = va.ownBlock ∨ va'.ownBlock = some w.heap.size) (hk : KidAt w s (fun b => ¬ S b) kn x.2.2) :
    GOwn w' s (fun b => S b ∨ w.heap.size ≤ b ∨ kn.ownBlock = some b) va' vb (p ++ [x], l) := by
  obtain ⟨xs', kv, h1, h2, h3, h4, h5⟩ := h
  have hx' : xs' = xs := by
    rcases h1.2 with ⟨hv, h0⟩ | ⟨g, cap, cur, rfl, _, hgg, _, _, _, ht⟩
    · have a1 := h1.1
      have a2 := hown.1
      have h00 : p.length = 0 := h0
      simp only [h00, Nat.zero_mul] at a1 a2
      rw [List.eq_nil_of_length_eq_zero a1, List.eq_nil_of_length_eq_zero a2]
    · rcases hown.2 with ⟨hv, _⟩ | ⟨g', cap', cur', hv, _, hgg', _, _, _, ht'⟩
      · cases hv
      · injection hv with e1 e2 e3
        injection e1 with e1
        injection e1 with e1
        subst e1
        rw [hgg] at hgg'
        injection hgg' with hgg'
        injection hgg' with hgg'
        subst hgg'
        exact ht.symm.trans ht'
  subst hx'
  have hlen : xs'.length = p.length * 3 := h1.1
  have hkb := hk
  obtain ⟨ka, kc, hkn, _, _, _, hkin, _⟩ := hkb
  have hnb : ∀ x, va'.ownBlock = some x → vb.ownBlock ≠ some x := fun x hx e => by
    rcases hat with h0 | h0
    · rw [h0] at hx; exact (h3 x hx).2 e
    · rw [h0] at hx; injection hx with hx; have := (h2.lt x e).2; omega
  refine ⟨xs' ++ [.int .i64 x.1, .int .i64 x.2.1, kn], fun i => if i = p.length then kn else kv i, ?_, row_map h2 (fun y hy hl => hg.block y hl (fun e => (h3 y e.symm).2 hy)), fun y hy => ⟨?_, hnb y hy⟩, fun y hy => .inl (h4 y hy), fun i hi => ?_⟩
  · show w'.ownsRow 0 _ 3 va' (p ++ [x]).length _
    rw [List.length_append]; exact hrow
  · rcases hat with h0 | h0
    · rw [h0] at hy; exact .inl (h3 y hy).1
    · rw [h0] at hy; injection hy with hy; right; left; omega
  · simp only [List.length_append, List.length_singleton] at hi
    by_cases e : i = p.length
    · subst e
      have hget : ((p ++ [x], l) : GS).1.getD p.length e0 = x := getD_new _ _ _
      rw [hget]
      simp only [if_pos]
      refine ⟨?_, ?_, ?_, hk.map hg.size (fun y hy hl => hg.block y hl (fun e => (hkin y hy).1 ((h3 y e.symm).1))) (fun y hy hl hy' => ⟨.inr (.inr hy), fun e => ?_, fun e => hy' (h4 y e), fun j hj e => ?_⟩)⟩
      · rw [List.getElem?_append_right (by omega), hlen, Nat.sub_self]; rfl
      · rw [List.getElem?_append_right (by omega), hlen, show p.length * 3 + 1 - p.length * 3 = 1 by omega]; rfl
      · rw [List.getElem?_append_right (by omega), hlen, show p.length * 3 + 2 - p.length * 3 = 2 by omega]; rfl
      · rcases hat with h0 | h0
        · rw [h0] at e; exact hy' (h3 y e).1
        · rw [h0] at e; injection e with e; omega
      · rw [if_neg (by omega)] at e
        obtain ⟨_, _, _, k4⟩ := h5 j hj
        obtain ⟨a, c', _, _, _, _, hin, _⟩ := k4
        exact hy' (hin y e).1.1
    · have hi' : i < p.length := by omega
      have hget : ((p ++ [x], l) : GS).1.getD i e0 = p.getD i e0 := getD_old _ _ _ hi'
      rw [hget]
      simp only [if_neg e]
      obtain ⟨k1, k2, k3, k4⟩ := h5 i hi'
      have hb := k4
      obtain ⟨a, c', _, _, _, _, hin, _⟩ := hb
      refine ⟨by rw [List.getElem?_append_left (by omega)]; exact k1, by rw [List.getElem?_append_left (by omega)]; exact k2, by rw [List.getElem?_append_left (by omega)]; exact k3, k4.map hg.size (fun y hy hl => hg.block y hl (fun e => (hin y hy).1.2.1 e.symm)) (fun y hy hl hy' => ⟨.inl hy'.1, fun e => ?_, hy'.2.2.1, fun j hj => by rw [if_neg (by omega)]; exact hy'.2.2.2 j hj⟩)⟩
      rcases hat with h0 | h0
      · rw [h0] at e; exact hy'.2.1 e
      · rw [h0] at e; injection e; omega
theorem row_slice {w : World} {base e size n : Nat} {v : Value} {xs : List Value} (h : w.ownsRow base e size v n xs) : ∃ a c, v = .slice a n c ∧ n ≤ c := by
  rcases h.2 with ⟨rfl, rfl⟩ | ⟨g, cap, cur, rfl, _, _, hc, _⟩
  · exact ⟨none, 0, rfl, Nat.le_refl _⟩
  · exact ⟨_, cap, rfl, hc⟩
/-- As it is read. -/
theorem GOwn.reads {w : World} {s : Bool} {S : Nat → Prop} {va vb : Value} {g : GS} (h : GOwn w s S va vb g) : ∃ a ca b cb, va = .slice a g.1.length ca ∧ vb = .slice b g.2.length cb ∧ ESl w a g.1.length g.1 ∧ Sl w b g.2.length g.2 := by
  obtain ⟨xs, kv, h1, h2, h3, h4, h5⟩ := h
  obtain ⟨b, cb, rfl, hb⟩ := Sl.vals h2
  rcases h1.2 with ⟨rfl, h0⟩ | ⟨gg, cap, cur, rfl, _, hgg, hc, _⟩
  · exact ⟨none, 0, b, cb, by rw [h0], rfl, ⟨rfl, .inl h0⟩, hb⟩
  · refine ⟨some ⟨gg, 0, none⟩, cap, b, cb, rfl, rfl, ⟨rfl, .inr ⟨gg, 0, rfl, (Array.getElem?_eq_some_iff.1 hgg).1, fun i hi => ?_⟩⟩, hb⟩
    obtain ⟨k1, k2, k3, a, c, hv, hc', hm, hs, _⟩ := h5 i hi
    have hl := h1.1
    refine ⟨a, _, c, ?_, ?_, ?_, hm, hc', hs⟩
    · rw [Nat.zero_add, h1.cellAt (i * 3) (by omega)]; exact k1
    · rw [Nat.zero_add, h1.cellAt (i * 3 + 1) (by omega)]; exact k2
    · rw [Nat.zero_add, h1.cellAt (i * 3 + 2) (by omega), k3, hv]
theorem GOwn.row {w : World} {s : Bool} {S : Nat → Prop} {va vb : Value} {g : GS} (h : GOwn w s S va vb g) : (∃ xs, w.ownsRow 0 57 3 va g.1.length xs) ∧ w.ownsRow 0 3 1 vb g.2.length (vals g.2) ∧ (∀ x, va.ownBlock = some x → S x) ∧ (∀ x, vb.ownBlock = some x → S x) := by
  obtain ⟨xs, kv, h1, h2, h3, h4, h5⟩ := h
  exact ⟨⟨xs, h1⟩, h2, fun x hx => (h3 x hx).1, h4⟩
/-- A graph of the program's own, where S is behind lo. -/
theorem GOwn.mine {w : World} {S : Nat → Prop} {va vb : Value} {g : GS} {lo : Nat} (h : GOwn w true S va vb g) (hS : ∀ x, S x → lo ≤ x) (h0 : 0 < g.1.length) : ∃ gg ca, va = .slice (some ⟨gg, 0, none⟩) g.1.length ca ∧ EMine w lo w.heap.size gg g.1.length g.1 ∧ w.ownsRow lo 3 1 vb g.2.length (vals g.2) ∧ (∀ x, vb.ownBlock = some x → x ≠ gg) := by
  obtain ⟨xs, kv, h1, h2, h3, h4, h5⟩ := h
  rcases h1.2 with ⟨rfl, h00⟩ | ⟨gg, cap, cur, rfl, _, hgg, hc, _⟩
  · omega
  · have hlt := (Array.getElem?_eq_some_iff.1 hgg).1
    have hl := h1.1
    refine ⟨gg, cap, rfl, ⟨rfl, hS _ (h3 gg rfl).1, hlt, Nat.le_refl _, fun i => ((kv i).ownBlock).getD 0, fun i hi => ?_, fun i hi => ?_⟩, ?_, fun x hx e => (h3 gg rfl).2 (by rw [← e]; exact hx)⟩
    · obtain ⟨k1, k2, k3, a, c, hv, hc', hm, hs, hin, hf⟩ := h5 i hi
      obtain ⟨b, rfl, hb⟩ := hf rfl
      have hob : (kv i).ownBlock = some b := by rw [hv]; rfl
      have hx := hin b hob
      simp only [hob, Option.getD_some]
      refine ⟨hS b hx.1.1, hx.2, fun e => hx.1.2.1 (by rw [e]; rfl), fun j hj e => ?_⟩
      have hj' : j < g.1.length := by omega
      obtain ⟨_, _, _, a', c'', hv', _, _, _, _, hf'⟩ := h5 j hj'
      obtain ⟨b', rfl, _⟩ := hf' rfl
      have hob' : (kv j).ownBlock = some b' := by rw [hv']; rfl
      have : (kv j).ownBlock ≠ some b := hx.1.2.2.2 j hj
      rw [hob'] at this e
      simp only [Option.getD_some] at e
      exact this (by rw [e])
    · obtain ⟨k1, k2, k3, a, c, hv, hc', hm, hs, hin, hf⟩ := h5 i hi
      obtain ⟨b, rfl, hb⟩ := hf rfl
      have hob : (kv i).ownBlock = some b := by rw [hv]; rfl
      simp only [hob, Option.getD_some]
      refine ⟨⟨c, hc', by rw [h1.cellAt (i * 3 + 2) (by omega), k3, hv]⟩, by rw [h1.cellAt (i * 3) (by omega)]; exact k1, by rw [h1.cellAt (i * 3 + 1) (by omega)]; exact k2, h1.frozenAt (i * 3), h1.frozenAt (i * 3 + 1), fun j hj => ⟨?_, hb j hj⟩⟩
      rcases hs.2 with h00 | ⟨b', off, e, _, hcell⟩
      · omega
      · cases e
        have := hcell j hj
        rwa [Nat.zero_add] at this
    · rcases h2.2 with ⟨e1, e2⟩ | ⟨g', cap', cur', e1, e2, e3, e4⟩
      · exact ⟨h2.1, .inl ⟨e1, e2⟩⟩
      · exact ⟨h2.1, .inr ⟨g', cap', cur', e1, hS _ (h4 g' (by rw [e1]; rfl)), e3, e4⟩⟩
end Go.Proofs.YthkjmgjajmghmaaDoor
namespace Go.Proofs.YthkjmgjajmghmaaDoor
open Go.ChangeShapes Go.WideShapes Go.ChangeAt Go.RowKit
set_option linter.unusedVariables false

theorem in_yes (n lo hi : Int) (w : World) (h1 : lo ≤ n) (h2 : n ≤ hi) : Calls Tryd.prog 24 #[.int .i64 n, .int .i64 lo, .int .i64 hi] w fun e w' => e = .returned (.bool true) ∧ w' = w := by
  go_enter Tryd.func24, Tryd.ntmps24
  go_wp2
  go_ret
  exact ⟨rfl, rfl⟩
theorem in_no (n lo hi : Int) (w : World) (h : n < lo ∨ hi < n) : Calls Tryd.prog 24 #[.int .i64 n, .int .i64 lo, .int .i64 hi] w fun e w' => e = .returned (.bool false) ∧ w' = w := by
  by_cases h1 : lo ≤ n
  · have h2 : ¬ n ≤ hi := by omega
    clear h
    go_enter Tryd.func24, Tryd.ntmps24
    go_wp2
    go_ret
    exact ⟨by simp, rfl⟩
  · clear h
    go_enter Tryd.func24, Tryd.ntmps24
    go_wp2
    go_ret
    exact ⟨rfl, rfl⟩
end Go.Proofs.YthkjmgjajmghmaaDoor
