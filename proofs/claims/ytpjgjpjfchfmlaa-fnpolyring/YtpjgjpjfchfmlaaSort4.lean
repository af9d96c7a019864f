/-
  PROVED HERE: what the library's sort, with the program's comparing, leaves of a row of products. No other condition.
-/
import Derived.Test.YtpjgjpjfchfmlaaICmp
import Derived.Test.YtpjgjpjfchfmlaaClone4
import Derived.Shelf.SlSortCmp.NoneTotal
import Derived.Shelf.Lay
import Derived.Ground.SlsfProg
namespace Go.Proofs
open Go.Shelf Go.RowKit Go.Lib Go.Sort
shelf_lay_g SlLaysF0.n6 Slsf 6 at Try 32 as Try.sortMono
end Go.Proofs
namespace Go.Proofs.Ytpjgjpjfchfmlaa
open Go.Shelf Go.RowKit Go.Lib Go.Sort
set_option linter.unusedVariables false

/-- A product in a row: the block of its powers, how much room there is, the powers, the number. -/
abbrev Cel := Nat × Nat × List Int × Int
def encT (t : Cel) : List Value := [.slice (some ⟨t.1, 0, none⟩) 4 t.2.1, .int .i64 t.2.2.2]
def ElP (W : World) (g lo : Nat) (t : Cel) : Prop := lo ≤ t.1 ∧ t.1 < W.heap.size ∧ t.1 ≠ g ∧ 4 ≤ t.2.1 ∧ Pow4 W t.1 t.2.2.1
def El (W : World) (g lo : Nat) : Type := {t : Cel // ElP W g lo t}
def encE {W : World} {g lo : Nat} (x : El W g lo) : List Value := encT x.1
def cfE {W : World} {g lo : Nat} (x y : El W g lo) : Int := cmpL y.1.2.2.1 x.1.2.2.1
theorem lt_iff {W : World} {g lo : Nat} (x y : El W g lo) : ltOf cfE x y = decide (cmpL x.1.2.2.1 y.1.2.2.1 = 1) := by
  unfold ltOf cfE
  rw [cmp_swap]
  rcases cmp_range x.1.2.2.1 y.1.2.2.1 with h | h | h <;> rw [h] <;> rfl
theorem swoE (W : World) (g lo : Nat) : SWO (ltOf (cfE (W := W) (g := g) (lo := lo))) where
  irrefl x := by rw [lt_iff, cmp_self]; rfl
  trans x y z h1 h2 := by
    rw [lt_iff] at *
    have l : ∀ v : El W g lo, v.1.2.2.1.length = 4 := fun v => v.2.2.2.2.2.1
    exact decide_eq_true (cmp_trans (by rw [l x, l y]) (by rw [l y, l z]) (of_decide_eq_true h1) (of_decide_eq_true h2))
  ntrans x y z h1 h2 := by
    rw [lt_iff] at *
    have l : ∀ v : El W g lo, v.1.2.2.1.length = 4 := fun v => v.2.2.2.2.2.1
    have h1' := of_decide_eq_false h1
    have h2' := of_decide_eq_false h2
    refine decide_eq_false fun h => ?_
    rcases cmp_range x.1.2.2.1 y.1.2.2.1 with c | c | c
    · have : cmpL y.1.2.2.1 x.1.2.2.1 = 1 := by rw [cmp_swap, c]; rfl
      exact h2' (cmp_trans (by rw [l y, l x]) (by rw [l x, l z]) this h)
    · rw [cmp_eq (by rw [l x, l y]) c] at h
      exact h2' h
    · exact h1' c
theorem sortW_block {α : Type} [Inhabited α] (enc : α → List Value) (w : World) (g m : Nat) (d : Array α) (os : Array Obj) (x : Nat) (hx : x < w.heap.size) (hne : x ≠ g) : (sortWorldK enc 2 w g 0 m d os).heap[x]? = w.heap[x]? := by
  unfold sortWorldK
  rw [heap_grow_old _ _ (by unfold putRowK; rw [Go.Sort.size_putRow]; exact hx)]
  unfold putRowK putRow mapBlock Go.Sort.ahead
  simp [Array.getElem?_modify, Ne.symm hne]
theorem sortW_size {α : Type} [Inhabited α] (enc : α → List Value) (w : World) (g m : Nat) (d : Array α) (os : Array Obj) : w.heap.size ≤ (sortWorldK enc 2 w g 0 m d os).heap.size := by
  unfold sortWorldK putRowK
  have : (putRow id (Go.Sort.ahead w m) g 0 (flatK enc 2 d)).heap.size = w.heap.size := by rw [Go.Sort.size_putRow]; rfl
  unfold grow
  simp only [Array.size_append]
  omega
theorem sortW_grown {α : Type} [Inhabited α] (enc : α → List Value) (w : World) (g m : Nat) (d : Array α) (os : Array Obj) : w.grownBy (sortWorldK enc 2 w g 0 m d os) (some g) :=
  ⟨rfl, rfl, rfl, sortW_size enc w g m d os, fun k hk hne => sortW_block enc w g m d os k hk (fun e => hne (by rw [e]))⟩
set_option maxHeartbeats 1000000 in
theorem closure_any (b1 c1 b2 c2 : Nat) (e f : List Int) (n m : Int) (W : World) (h1 : Pow4 W b1 e) (h2 : Pow4 W b2 f) :
    Calls Try.prog 33 #[.agg #[.slice (some ⟨b1, 0, none⟩) 4 c1, .int .i64 n], .agg #[.slice (some ⟨b2, 0, none⟩) 4 c2, .int .i64 m]] W fun r w' => r = .returned (.int .i64 (cmpL f e)) ∧ ∃ q os', w' = grow (W.drewN q) os' := by
  have hl1 : b1 < W.heap.size := World.block_lt_of_cell? W _ (h1.2 0 (by omega)).1
  have hl2 : b2 < W.heap.size := World.block_lt_of_cell? W _ (h2.2 0 (by omega)).1
  obtain ⟨W2, hW2⟩ : ∃ W2, (W.alloc (.cells #[.slice (some ⟨b1, 0, none⟩) 4 c1, .int .i64 n] 43)).alloc (.cells #[.slice (some ⟨b2, 0, none⟩) 4 c2, .int .i64 m] 43) = W2 := ⟨_, rfl⟩
  have hb : Below W.heap.size W W2 := by rw [← hW2]; exact ((Below.refl _ _).alloc (Nat.le_refl _) _).alloc (by simp) _
  have hs : ∀ {b : Nat} {e : List Int}, Pow4 W b e → b < W.heap.size → Sl W2 (some ⟨b, 0, none⟩) 4 e := fun {b e} h hl => (show Sl W (some ⟨b, 0, none⟩) 4 e from ⟨h.1, .inr ⟨b, 0, rfl, hl, fun i hi => by rw [Nat.zero_add]; exact (h.2 i hi).1⟩⟩).keep hb
  have n0 : W2.cell? ⟨W.heap.size, 0, none⟩ = some (.slice (some ⟨b1, 0, none⟩) 4 c1) := by rw [← hW2]; simp [go_sem]
  have m0 : W2.cell? ⟨W.heap.size + 1, 0, none⟩ = some (.slice (some ⟨b2, 0, none⟩) 4 c2) := by rw [← hW2]; simp [go_sem]
  have HC := (show Hid _ from slcmp_any (some ⟨b2, 0, none⟩) (some ⟨b1, 0, none⟩) 4 c2 c1 f e W2 (hs h2 hl2) (hs h1 hl1) (by omega))
  have HG : Hid (W2 = grow (W.drewN 0) (#[.cells #[.slice (some ⟨b1, 0, none⟩) 4 c1, .int .i64 n] 43] ++ #[.cells #[.slice (some ⟨b2, 0, none⟩) 4 c2, .int .i64 m] 43])) := by
    show _ = _
    rw [← hW2, alloc_eq_grow, alloc_eq_grow, grow_grow]; rfl
  generalize cmpL f e = C at HC
  clear hs hb h1 h2
  go_enter Try.func33, Try.ntmps33
  go_wp2_with fail
  (try rw [hW2])
  refine Calls.mono HC.out ?_
  rintro r w' ⟨rfl, rfl⟩
  clear HC
  go_wp2
  go_ret
  exact ⟨rfl, 0, _, HG.out⟩
theorem cmpLaysE (W : World) (g lo size : Nat) [Inhabited (El W g lo)] : CmpLays Try.prog 33 #[] (encE (W := W) (g := g) (lo := lo)) 2 cfE g 0 size W := by
  intro m os dk hs x y
  have key : ∀ v : El W g lo, Pow4 (sortWorldK encE 2 W g 0 m dk os) v.1.1 v.1.2.2.1 := fun v => v.2.2.2.2.2.block (sortW_block encE W g m dk os v.1.1 v.2.2.1 v.2.2.2.1)
  exact closure_any x.1.1 x.1.2.1 y.1.1 y.1.2.1 x.1.2.2.1 y.1.2.2.1 x.1.2.2.2 y.1.2.2.2 _ (key x) (key y)
/-- A row of products in block g: its cells may be written. -/
def RowT (w : World) (g : Nat) (T : List Cel) : Prop := ∀ i t, T[i]? = some t → w.cell? ⟨g, i * 2, none⟩ = some (.slice (some ⟨t.1, 0, none⟩) 4 t.2.1) ∧ w.cell? ⟨g, i * 2 + 1, none⟩ = some (.int .i64 t.2.2.2) ∧ w.frozen? ⟨g, i * 2, none⟩ = false ∧ w.frozen? ⟨g, i * 2 + 1, none⟩ = false
def mk {W : World} {g lo : Nat} : (T : List Cel) → (∀ t ∈ T, ElP W g lo t) → List (El W g lo)
  | [], _ => []
  | t :: r, h => ⟨t, h t (List.mem_cons_self ..)⟩ :: mk r (fun x hx => h x (List.mem_cons_of_mem _ hx))
theorem mk_map {W : World} {g lo : Nat} : ∀ (T : List Cel) (h : ∀ t ∈ T, ElP W g lo t), (mk T h).map (·.1) = T
  | [], _ => rfl
  | t :: r, h => congrArg (t :: ·) (mk_map r (fun x hx => h x (List.mem_cons_of_mem _ hx)))
theorem get_bang {α : Type} [Inhabited α] (d : Array α) (i : Nat) (x : α) (h : d.toList[i]? = some x) : d[i]! = x := by
  have h' : d[i]? = some x := by simpa using h
  obtain ⟨hl, e⟩ := Array.getElem?_eq_some_iff.1 h'
  rw [getElem!_pos d i hl, e]
theorem holds_of {W : World} {g lo : Nat} [Inhabited (El W g lo)] {w : World} {d : Array (El W g lo)} (h : RowT w g (d.toList.map (·.1))) : HoldsK encE 2 w g 0 d := by
  intro j hj
  rw [size_flatK] at hj
  rw [get_flatK _ _ _ _ hj, Nat.zero_add]
  have hlt : j / 2 < d.size := by omega
  obtain ⟨x, hx⟩ : ∃ x, d.toList[j / 2]? = some x := ⟨_, List.getElem?_eq_getElem (by simpa using hlt)⟩
  rw [get_bang d _ x hx]
  obtain ⟨c1, c2, c3, c4⟩ := h (j / 2) x.1 (by rw [List.getElem?_map, hx]; rfl)
  rcases Nat.mod_two_eq_zero_or_one j with h2 | h2
  · rw [show j / 2 * 2 = j from by omega] at c1 c3
    rw [h2]
    exact ⟨c1, c3⟩
  · rw [show j / 2 * 2 + 1 = j from by omega] at c2 c4
    rw [h2]
    exact ⟨c2, c4⟩
theorem row_of {W : World} {g lo : Nat} [Inhabited (El W g lo)] {w : World} {d : Array (El W g lo)} (h : HoldsK encE 2 w g 0 d) : RowT w g (d.toList.map (·.1)) := by
  intro i t ht
  rw [List.getElem?_map] at ht
  cases hx : d.toList[i]? with
  | none => rw [hx] at ht; cases ht
  | some x =>
    rw [hx] at ht
    have ht' : x.1 = t := Option.some.inj ht
    subst ht'
    have hlt : i < d.size := by have := (List.getElem?_eq_some_iff.1 hx).1; simpa using this
    have h1 := h (i * 2) (by rw [size_flatK]; omega)
    have h2 := h (i * 2 + 1) (by rw [size_flatK]; omega)
    rw [get_flatK _ _ _ _ (by omega), Nat.zero_add, show i * 2 / 2 = i from by omega, show i * 2 % 2 = 0 from by omega, get_bang d i x hx] at h1
    rw [get_flatK _ _ _ _ (by omega), Nat.zero_add, show (i * 2 + 1) / 2 = i from by omega, show (i * 2 + 1) % 2 = 1 from by omega, get_bang d i x hx] at h2
    exact ⟨h1.1, h2.1, h1.2, h2.2⟩
set_option maxHeartbeats 1000000 in
theorem sort_any (g lo cap : Nat) (T : List Cel) (W : World) (hg : g < W.heap.size) (h0 : 0 < T.length) (hl : T.length ≤ 1048576) (hT : ∀ t ∈ T, ElP W g lo t) (hR : RowT W g T) :
    Calls Try.prog 32 #[.slice (some ⟨g, 0, none⟩) T.length cap, .func (.func 33) #[] #[]] W fun e w' => e = .returned (.tuple #[]) ∧ W.grownBy w' (some g) ∧ ∃ T', T'.Perm T ∧ RowT w' g T' ∧ T'.Pairwise (fun x y => cmpL y.2.2.1 x.2.2.1 ≠ 1) := by
  obtain ⟨x0, hx0⟩ : ∃ x, x ∈ T := ⟨T[0], List.getElem_mem _⟩
  haveI : Inhabited (El W g lo) := ⟨⟨x0, hT x0 hx0⟩⟩
  have eg : ∀ args w, (callFunc 33 args).run Try.prog w = .ok (.enter 33 args) w := enters_of Try.func33 (by kernel_rfl) rfl
  have hmap := mk_map T hT
  have hsz : (mk T hT).toArray.size = T.length := by
    have := congrArg List.length hmap
    simpa using this
  have hH : HoldsK encE 2 W g 0 (mk T hT).toArray := holds_of (by simpa [hmap] using hR)
  have hcon := AnyQ.slices_SortFunc Try.sortMono 2 Try.isAgg43 Try.sizeOf43 encE (fun _ => rfl) (fun x v hv => by simp [encE, encT] at hv; rcases hv with rfl | rfl <;> rfl) cfE (swoE W g lo) 33 #[] g 0 cap (mk T hT).toArray W eg (cmpLaysE W g lo _) hH hg (by omega)
  rw [hsz] at hcon
  change Calls Try.prog 32 _ _ _ at hcon
  refine hcon.mono ?_
  rintro e w' ⟨rfl, d', n, os, hp, hs, rfl⟩
  have hsize : d'.size = T.length := hp.1.trans hsz
  refine ⟨rfl, sortW_grown encE W g n d' os, d'.toList.map (·.1), ?_, row_of (holdsK_sortWorldK_c encE 2 W g 0 (mk T hT).toArray d' n os hH hg (by rw [hsize, hsz])), ?_⟩
  · have h3 := hp.2.2
    have e1 : (d'.extract 0 T.length).toList = d'.toList := by rw [← hsize]; simp
    have e2 : ((mk T hT).toArray.extract 0 T.length).toList = mk T hT := by rw [← hsz]; simp
    rw [e1, e2] at h3
    have := h3.map (·.1)
    rwa [hmap] at this
  · rw [List.pairwise_map]
    refine List.pairwise_iff_getElem.2 fun i j hi hj hij => ?_
    have hi' : i < d'.size := by simpa using hi
    have hj' : j < d'.size := by simpa using hj
    have := hs i j (Nat.zero_le _) hij (by omega)
    rw [lt_iff, getElem!_pos d' j hj', getElem!_pos d' i hi'] at this
    have := of_decide_eq_false this
    simpa using this
theorem sort_none (p : Option Addr) (cap : Nat) (fv : Value) (W : World) : Calls Try.prog 32 #[.slice p 0 cap, fv] W fun e w' => e = .returned (.tuple #[]) ∧ w' = W :=
  AnyF.slices_SortFunc_none Try.sortMono p cap fv W
end Go.Proofs.Ytpjgjpjfchfmlaa
