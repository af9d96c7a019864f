/-
  PROVED HERE: what the program's look whether kids are classes answers, at every graph of good nodes and parts. No other condition. how the program's shapes of nodes lie in a map, and what looking up, storing and deleting do to it. No condition.
-/
import Derived.Test.YtmbggaepckgogaaDoorRun4
import Derived.Test.YtmbggaepckgogaaDoorRun3
import Derived.Test.YtmbggaepckgogaaDoorRows
import Derived.WideKeyEntry
import Derived.DeepKeys4
import Derived.Maps.OwnSet
import Derived.Maps.RangeRun
namespace Go.Proofs.YtmbggaepckgogaaDoor
open Go.ChangeShapes Go.WideShapes Go.ChangeAt Go.RowKit
set_option linter.unusedVariables false

def AllCl (p : List EN) (l : List Int) : Prop := ∀ k, k < p.length → KidsCl l (p.getD k e0).2.2
instance (p : List EN) (l : List Int) : Decidable (AllCl p l) := inferInstanceAs (Decidable (∀ k, k < p.length → KidsCl l (p.getD k e0).2.2))
def AllOne (p : List EN) (l : List Int) : Prop := ∀ k, k < p.length → OneCl p l k
instance (p : List EN) (l : List Int) : Decidable (AllOne p l) := inferInstanceAs (Decidable (∀ k, k < p.length → OneCl p l k))
theorem rest_two (p : List EN) (l : List Int) : Rest p l ↔ AllCl p l ∧ AllOne p l := ⟨fun h => ⟨fun k hk => (h k hk).1, fun k hk => (h k hk).2⟩, fun h k hk => ⟨h.1 k hk, h.2 k hk⟩⟩
theorem kid_natI {p : List EN} {k j : Nat} (h : nodesB p = true) (hk : k < p.length) (hj : j < (p.getD k e0).2.2.length) : ∃ y : Nat, (p.getD k e0).2.2.getD j 0 = y ∧ y < k := by
  obtain ⟨_, h2⟩ := (nodesB_iff p).1 h
  obtain ⟨_, _, _, h3⟩ := fit_node (h2 k hk)
  have hm : (p.getD k e0).2.2.getD j 0 ∈ (p.getD k e0).2.2 := by rw [getI_lt hj]; exact List.getElem_mem _
  have := h3 _ hm
  exact ⟨((p.getD k e0).2.2.getD j 0).toNat, by omega, by omega⟩
theorem kidsCl_ofI {l kids : List Int} (h : ∀ j, j < kids.length → l.getD (kids.getD j 0).toNat 0 = kids.getD j 0) : KidsCl l kids := by
  intro x hx
  obtain ⟨j, hj, rfl⟩ := List.getElem_of_mem hx
  have := h j hj
  rwa [getI_lt hj] at this
theorem kidsCl_atI {l kids : List Int} (h : KidsCl l kids) (j : Nat) (hj : j < kids.length) : l.getD (kids.getD j 0).toNat 0 = kids.getD j 0 := h _ (by rw [getI_lt hj]; exact List.getElem_mem _)

set_option maxHeartbeats 3200000 in
theorem implKids_any (a b : Option Addr) (len cap cb : Nat) (p : List EN) (l : List Int) (w : World) (h : ESl w a len p) (hl : Sl w b len l) (hN : nodesB p = true) :
    Calls Tryd.prog 52 #[.agg #[.slice a len cap, .slice b len cb]] w fun e w' => e = .returned (.bool (decide (AllCl p l))) ∧ Below w.heap.size w w' := by
  have hll := h.1
  have hl1 := hl.1
  have h120 := ((nodesB_iff p).1 hN).1
  obtain ⟨W1, hW1⟩ : ∃ W1, w.alloc (.cells #[.slice a len cap, .slice b len cb] 31) = W1 := ⟨_, rfl⟩
  have hb1 : Below w.heap.size w W1 := by rw [← hW1]; exact (Below.refl _ _).alloc (Nat.le_refl _) _
  have n0 : W1.cell? ⟨w.heap.size, 0, none⟩ = some (.slice a len cap) := by rw [← hW1]; simp [go_sem]
  have n1 : W1.cell? ⟨w.heap.size, 1, none⟩ = some (.slice b len cb) := by rw [← hW1]; simp [go_sem]
  have hs1 : w.heap.size < W1.heap.size := by rw [← hW1]; simp
  have HE : Hid (ESl W1 a len p ∧ Sl W1 b len l ∧ Below w.heap.size w W1) := ⟨h.keep hb1, hl.keep hb1, hb1⟩
  have HNn := (show Hid (nodesB p = true) from hN)
  clear h hl hb1 hN
  go_enter Tryd.func52, Tryd.ntmps52
  go_wp2_with fail
  (try rw [hW1])
  go_loopw [10] (fun i wr => ∃ k : Nat, k ≤ len ∧ i = .int .i64 k ∧ Below W1.heap.size W1 wr ∧ Hid (∀ j, j < k → KidsCl l (p.getD j e0).2.2)) (fun i _ => len - (intOf i).toNat)
  case atStart => exact ⟨0, Nat.zero_le _, rfl, Below.refl _ _, fun j hj => absurd hj (Nat.not_lt_zero _)⟩
  case round =>
    obtain ⟨k, hk, rfl, hbr, hT⟩ := hrel
    obtain ⟨wo, rfl⟩ : ∃ x, x = wr := ⟨_, rfl⟩
    by_cases hlt : k < len
    · obtain ⟨bn, on, rfl, hbl, hc⟩ := (HE.out.1.keep hbr).at (by omega)
      obtain ⟨ai, li, ci, c1, c2, c3, hli, hci, hS⟩ := hc k hlt
      obtain ⟨bp, op, rfl, hpl, hcp⟩ : ∃ b' off, b = some ⟨b', off, none⟩ ∧ b' < wo.heap.size ∧ ∀ i, i < len → wo.cell? ⟨b', off + i, none⟩ = some (.int .i64 (l.getD i 0)) := by
        rcases (HE.out.2.1.keep hbr).2 with h0 | h0
        · omega
        · exact h0
      obtain ⟨x, hx⟩ : ∃ x, p.getD k e0 = x := ⟨_, rfl⟩
      obtain ⟨xo, xn, xk⟩ := x
      rw [hx] at c1 c2 hS
      simp only at c1 c2 hS
      have HX := (show Hid _ from hx)
      have hS1 := hS.1
      have hkl : (k : Int) < len := by omega
      have hsz : ¬ bn = wo.heap.size := by omega
      have q1 := (hbr.cell (p := ⟨w.heap.size, 1, none⟩) hs1).trans n1
      have hsw : w.heap.size < wo.heap.size := Nat.lt_of_lt_of_le hs1 hbr.size
      obtain ⟨W2, hW2⟩ : ∃ W2, wo.alloc (.cells #[.int .i64 xo, .int .i64 xn, .slice ai li ci] 74) = W2 := ⟨_, rfl⟩
      have hb2 : Below wo.heap.size wo W2 := by rw [← hW2]; exact (Below.refl _ _).alloc (Nat.le_refl _) _
      have m2 : W2.cell? ⟨wo.heap.size, 2, none⟩ = some (.slice ai li ci) := by rw [← hW2]; simp [go_sem]
      have p1 := (hb2.cell (p := ⟨w.heap.size, 1, none⟩) hsw).trans q1
      have HK : Hid (∀ j, j < li → ∃ y : Nat, xk.getD j 0 = y ∧ y < k) := fun j hj => by
        have := kid_natI (j := j) HNn.out (show k < p.length by omega) (by rw [hx]; simp only; omega)
        rwa [hx] at this
      have HS := (show Hid (Sl wo ai li xk) from hS)
      have HCp : Hid (∀ i, i < len → W2.cell? ⟨bp, op + i, none⟩ = some (.int .i64 (l.getD i 0))) := fun i hi => (hb2.cell (p := ⟨bp, op + i, none⟩) hpl).trans (hcp i hi)
      have HB2 : Hid (Below wo.heap.size wo W2) := hb2
      have HF : Hid (Below w.heap.size w W2) := HE.out.2.2.trans ((hbr.trans (hb2.mono hbr.size)).mono HE.out.2.2.size)
      have HG : Hid (Below W1.heap.size W1 W2) := hbr.trans (hb2.mono hbr.size)
      clear hc hcp hS hb2 hbr q1 hx
      go_wp2_with fail
      (try rw [hW2])
      go_loopw [17] (fun i wr => ∃ j : Nat, j ≤ li ∧ i = .int .i64 j ∧ wr = W2 ∧ Hid (∀ i, i < j → l.getD (xk.getD i 0).toNat 0 = xk.getD i 0)) (fun i _ => li - (intOf i).toNat)
      case atStart => exact ⟨0, Nat.zero_le _, rfl, rfl, fun j hj => absurd hj (Nat.not_lt_zero _)⟩
      case round =>
        obtain ⟨j, hj, rfl, rfl, hK⟩ := hrel
        obtain ⟨W2, rfl⟩ : ∃ x, x = wr := ⟨_, rfl⟩
        by_cases hjl : j < li
        · obtain ⟨y, hy, hyk⟩ := HK.out j hjl
          obtain ⟨bk, ok, rfl, hbk, hck⟩ : ∃ b' off, ai = some ⟨b', off, none⟩ ∧ b' < wo.heap.size ∧ ∀ i, i < li → wo.cell? ⟨b', off + i, none⟩ = some (.int .i64 (xk.getD i 0)) := by
            rcases HS.out.2 with h0 | h0
            · omega
            · exact h0
          have ck := (HB2.out.cell (p := ⟨bk, ok + j, none⟩) hbk).trans (hck j hjl)
          rw [hy] at ck
          have cy := HCp.out y (by omega)
          have hyl : (y : Int) < len := by omega
          have hjl' : (j : Int) < li := by omega
          by_cases e : l.getD y 0 = y
          · have HR : Hid (∀ i, i < j + 1 → l.getD (xk.getD i 0).toNat 0 = xk.getD i 0) := fun i hi => by
              by_cases e1 : i = j
              · rw [e1, hy, Int.toNat_natCast]; exact e
              · exact hK.out i (by omega)
            rw [e] at cy
            have hyy : ((y : Int) != y) = false := by simp
            clear hK hck hy e
            go_wp2_with fail
            go_roundw
            case rel => exact ⟨j + 1, by omega, by go_num, by first | trivial | rfl, HR⟩
            case measure => simp [intOf]; omega
          · have HV : Hid (decide (AllCl p l) = false) := decide_eq_false (fun hr => e (by
              have := hr k (by omega)
              rw [HX.out] at this
              have := kidsCl_atI this j (by simp only; omega)
              simp only at this
              rwa [hy, Int.toNat_natCast] at this))
            have hyy : (l.getD y 0 != (y : Int)) = true := by simpa using e
            clear hK hck hy e
            generalize l.getD y 0 = z at cy hyy
            go_wp2_with fail
            go_ret
            exact ⟨by rw [HV.out] <;> rfl, HF.out⟩
        · obtain rfl : j = li := by omega
          have HR : Hid (∀ j, j < k + 1 → KidsCl l (p.getD j e0).2.2) := fun i hi => by
            by_cases e1 : i = k
            · rw [e1, HX.out]; exact kidsCl_ofI (fun i hi => hK.out i (by simp only at hi; omega))
            · exact hT.out i (by omega)
          clear hK hT
          go_wp2_with fail
          go_roundw
          case rel => exact ⟨k + 1, by omega, by go_num, HG.out, HR⟩
          case measure => simp [intOf]; omega
    · obtain rfl : k = len := by omega
      have HV : Hid (decide (AllCl p l) = true) := decide_eq_true (fun j hj => hT.out j (by omega))
      have HB : Hid (Below w.heap.size w wo) := HE.out.2.2.trans (hbr.mono HE.out.2.2.size)
      clear hT
      go_wp2
      go_ret
      exact ⟨by rw [HV.out] <;> rfl, HB.out⟩
end Go.Proofs.YtmbggaepckgogaaDoor
namespace Go.Proofs.YtmbggaepckgogaaDoor
open Go.ChangeShapes Go.WideShapes Go.ChangeAt Go.RowKit
open Go.MapKept Go.ChangeMaps
set_option linter.unusedVariables false

theorem laidOutS : laidOutB Tryd.prog = true := by kernel_rfl
theorem shLaw : WideMaps.KeyLaw Tryd.prog 93 := deep_law_laid laidOutS (m := 3) (by omega) (of_decide_eq_true (by kernel_rfl)) (by kernel_rfl) (by kernel_rfl)
/-- What makes a shape: op, number, three kids. -/
abbrev Sh := Int × Int × Int × Int × Int
def shV (e : Sh) : Value := .agg #[.int .i64 e.1, .int .i64 e.2.1, .int .i64 e.2.2.1, .int .i64 e.2.2.2.1, .int .i64 e.2.2.2.2]
def ShIn (e : Sh) : Prop := InI e.1 ∧ InI e.2.1 ∧ InI e.2.2.1 ∧ InI e.2.2.2.1 ∧ InI e.2.2.2.2
theorem shV_inj {e f : Sh} (h : shV e = shV f) : e = f := by
  obtain ⟨o, n, a, b, c⟩ := e
  obtain ⟨o', n', a', b', c'⟩ := f
  simp only [shV, Value.agg.injEq, Array.mk.injEq, List.cons.injEq, Value.int.injEq, true_and, and_true] at h
  obtain ⟨rfl, rfl, rfl, rfl, rfl⟩ := h
  rfl
theorem wf_ofS {x : Int} (h : InI x) : (Lit.int .i64 x).wf = true := by
  unfold InI at h
  have e1 : IntKind.i64.min = -9223372036854775808 := by decide
  have e2 : IntKind.i64.max = 9223372036854775807 := by decide
  simp only [Lit.wf, Bool.and_eq_true, decide_eq_true_eq]
  omega
theorem keyTypeS : Tryd.prog.keyType 93 = true := by kernel_rfl
theorem cellsSh : Tryd.prog.cellsOf 93 = 5 := by kernel_rfl
theorem cellsK3 : Tryd.prog.cellsOf 91 = 3 := by kernel_rfl
theorem cellsIntSh : Tryd.prog.cellsOf 3 = 1 := by kernel_rfl
theorem cellsI64Sh : Tryd.prog.cellsOf 2 = 1 := by kernel_rfl
set_option maxRecDepth 20000 in
theorem sh_some {e : Sh} (h : ShIn e) : ∃ l, keyOf Tryd.prog 93 (shV e) = some l := by
  obtain ⟨o, n, a, b, c⟩ := e
  obtain ⟨h1, h2, h3, h4, h5⟩ := h
  simp only at h1 h2 h3 h4 h5
  have w1 := wf_ofS h1
  have w2 := wf_ofS h2
  have w3 := wf_ofS h3
  have w4 := wf_ofS h4
  have w5 := wf_ofS h5
  have hf : (shV (o, n, a, b, c)).formed Tryd.prog 93 = true := by rfl
  obtain ⟨m, hm⟩ : ∃ m, Tryd.prog.types.size = m + 2 := ⟨Tryd.prog.types.size - 2, by have : 1 < Tryd.prog.types.size := of_decide_eq_true (by kernel_rfl); omega⟩
  have e1 : ∀ (k : Nat) (x : Int), (Lit.int .i64 x).wf = true → Tryd.prog.keyLits (k + 1) 3 [.int .i64 x] = some [.int .i64 x] := fun k x hx => by simp [Program.keyLits, Tryd.underlying3, hx]
  have e2 : ∀ (k : Nat) (x : Int), (Lit.int .i64 x).wf = true → Tryd.prog.keyLits (k + 1) 2 [.int .i64 x] = some [.int .i64 x] := fun k x hx => by simp [Program.keyLits, Tryd.underlying2, hx]
  have e3 : Tryd.prog.keyLits (m + 2) 91 [.int .i64 a, .int .i64 b, .int .i64 c] = some [.int .i64 a, .int .i64 b, .int .i64 c] := by
    unfold Program.keyLits
    simp only [Tryd.underlying91, cellsK3, cellsIntSh]
    rw [if_pos (show ([.int .i64 a, .int .i64 b, .int .i64 c] : List Value).length = 3 from rfl), show List.range 3 = [0, 1, 2] from rfl]
    have f0 : Tryd.prog.keyLits (m + 1) 3 (([.int .i64 a, .int .i64 b, .int .i64 c] : List Value).drop (0 * 1) |>.take 1) = some [.int .i64 a] := e1 m a w3
    have f1 : Tryd.prog.keyLits (m + 1) 3 (([.int .i64 a, .int .i64 b, .int .i64 c] : List Value).drop (1 * 1) |>.take 1) = some [.int .i64 b] := e1 m b w4
    have f2 : Tryd.prog.keyLits (m + 1) 3 (([.int .i64 a, .int .i64 b, .int .i64 c] : List Value).drop (2 * 1) |>.take 1) = some [.int .i64 c] := e1 m c w5
    simp only [List.mapM_cons, List.mapM_nil, f0, f1, f2]
    rfl
  have hl : Tryd.prog.keyLits (Tryd.prog.types.size + 1) 93 (shV (o, n, a, b, c)).cells.toList = some [.int .i64 o, .int .i64 n, .int .i64 a, .int .i64 b, .int .i64 c] := by
    have hc : (shV (o, n, a, b, c)).cells.toList = [.int .i64 o, .int .i64 n, .int .i64 a, .int .i64 b, .int .i64 c] := rfl
    rw [hc, hm]
    unfold Program.keyLits
    simp only [Tryd.underlying93, cellsSh]
    rw [if_pos ⟨rfl, by simp⟩]
    have f0 : Tryd.prog.keyLits (m + 2) 3 (([.int .i64 o, .int .i64 n, .int .i64 a, .int .i64 b, .int .i64 c] : List Value).drop 0 |>.take 1) = some [.int .i64 o] := e1 (m + 1) o w1
    have f1 : Tryd.prog.keyLits (m + 2) 2 (([.int .i64 o, .int .i64 n, .int .i64 a, .int .i64 b, .int .i64 c] : List Value).drop 1 |>.take 1) = some [.int .i64 n] := e2 (m + 1) n w2
    have f2 : Tryd.prog.keyLits (m + 2) 91 (([.int .i64 o, .int .i64 n, .int .i64 a, .int .i64 b, .int .i64 c] : List Value).drop 2 |>.take 3) = some [.int .i64 a, .int .i64 b, .int .i64 c] := e3
    simp only [List.mapM_cons, List.mapM_nil, f0, f1, f2, cellsK3, cellsIntSh, cellsI64Sh]
    rfl
  refine ⟨.string (keyBytes [.int .i64 o, .int .i64 n, .int .i64 a, .int .i64 b, .int .i64 c]), ?_⟩
  unfold keyOf
  rw [Tryd.underlying93]
  simp only [keyTypeS, hf, hl, Bool.and_self, if_pos, Option.map_some]
/-- Block b is a map from shapes to numbers. -/
def SMap (w : World) (b : Nat) (f : Sh → Option Int) : Prop := ∃ es clock, w.heap[b]? = some (.map es clock) ∧ Stamped es clock ∧ (∀ x ∈ es.toList, ∃ e v, x.key = shV e ∧ x.val = .int .i64 v ∧ ShIn e ∧ f e = some v) ∧ ∀ e v, f e = some v → ∃ x ∈ es.toList, x.key = shV e
theorem SMap.block {w w' : World} {b : Nat} {f : Sh → Option Int} (h : SMap w b f) (hb : w'.heap[b]? = w.heap[b]?) : SMap w' b f := by
  obtain ⟨es, clock, h1, h2, h3, h4⟩ := h
  exact ⟨es, clock, hb.trans h1, h2, h3, h4⟩
theorem SMap.lt {w : World} {b : Nat} {f : Sh → Option Int} (h : SMap w b f) : b < w.heap.size := by
  obtain ⟨es, clock, h1, _⟩ := h
  exact (Array.getElem?_eq_some_iff.1 h1).1
theorem SMap.keep {w w' : World} {b : Nat} {f : Sh → Option Int} (h : SMap w b f) (hb : Below w.heap.size w w') : SMap w' b f := h.block (hb.block b h.lt)
theorem smap_empty {w : World} {b clock : Nat} (h : w.heap[b]? = some (.map #[] clock)) : SMap w b fun _ => none :=
  ⟨#[], clock, h, (stamped_iff _ _).2 ⟨fun x hx => by simp at hx, by simp, by simp⟩, fun x hx => by simp at hx, fun e v h => by cases h⟩
/-- Where a key is. -/
theorem smap_find {w : World} {es : Array MapEntry} {f : Sh → Option Int} (h3 : ∀ x ∈ es.toList, ∃ e v, x.key = shV e ∧ x.val = .int .i64 v ∧ ShIn e ∧ f e = some v) (h4 : ∀ e v, f e = some v → ∃ x ∈ es.toList, x.key = shV e) {e : Sh} (he : ShIn e) :
    ((Instr.findKey 93 (shV e) es.toList).run Tryd.prog w = .ok none w ∧ (∀ x ∈ es.toList, x.key ≠ shV e) ∧ f e = none) ∨
    ∃ j x v, (Instr.findKey 93 (shV e) es.toList).run Tryd.prog w = .ok (some (j, .int .i64 v)) w ∧ es.toList[j]? = some x ∧ x.key = shV e ∧ x.val = .int .i64 v ∧ f e = some v := by
  obtain ⟨l, hl⟩ := sh_some he
  have hall : ∀ x ∈ es.toList, ∃ l, keyOf Tryd.prog 93 x.key = some l := fun x hx => by
    obtain ⟨e', v, k1, _, k3, _⟩ := h3 x hx
    rw [k1]; exact sh_some k3
  rcases shLaw.find w hl es.toList hall with ⟨r1, r2⟩ | ⟨j, x, r1, r2, r3⟩
  · refine .inl ⟨r1, r2, ?_⟩
    cases hf : f e with
    | none => rfl
    | some v =>
      obtain ⟨x, hx, hxe⟩ := h4 e v hf
      exact absurd hxe (r2 x hx)
  · obtain ⟨e', v, k1, k2, k3, k4⟩ := h3 x (List.mem_of_getElem? r2)
    have := shV_inj (k1.symm.trans r3)
    subst this
    exact .inr ⟨j, x, v, by rw [r1, k2], r2, r3, k2, k4⟩
theorem zeroIntSh (w : World) : (zeroValue 3).run Tryd.prog w = .ok (.int .i64 0) w := by kernel_rfl
/-- What is told of a key. -/
def told (o : Option Int) : Value := match o with | some v => .tuple #[.int .i64 v, .bool true] | none => .tuple #[.int .i64 0, .bool false]
theorem SMap.lookup {w : World} {b : Nat} {f : Sh → Option Int} (h : SMap w b f) {e : Sh} (he : ShIn e) : (Instr.lookup 90 (.map (some b)) (shV e) true).run Tryd.prog w = .ok (told (f e)) w := by
  obtain ⟨es, clock, h1, h2, h3, h4⟩ := h
  obtain ⟨l, hl⟩ := sh_some he
  rcases smap_find (w := w) h3 h4 he with ⟨r1, r2, r3⟩ | ⟨j, x, v, r1, r2, r3, r4, r5⟩
  · rw [r3]
    simp [told, Instr.lookup, run_underlying Tryd.underlying90, MapKept.run_getObj_map h1, shLaw.check w _ hl, r1, Result.andThen]
  · rw [r5]
    simp [told, Instr.lookup, run_underlying Tryd.underlying90, MapKept.run_getObj_map h1, shLaw.check w _ hl, r1, Result.andThen]
/-- A key's number set. -/
def setS (f : Sh → Option Int) (e : Sh) (o : Option Int) : Sh → Option Int := fun e' => if e' = e then o else f e'
theorem SMap.store {w : World} {b : Nat} {f : Sh → Option Int} (h : SMap w b f) {e : Sh} (he : ShIn e) (v : Int) :
    ∃ o : Obj, (Instr.mapUpdate 90 (.map (some b)) (shV e) (.int .i64 v)).run Tryd.prog w = .ok () (setBlock w b o) ∧ ∀ w3 : World, w3.heap[b]? = some o → SMap w3 b (setS f e (some v)) := by
  obtain ⟨es, clock, h1, h2, h3, h4⟩ := h
  obtain ⟨l, hl⟩ := sh_some he
  rcases smap_find (w := w) h3 h4 he with ⟨r1, r2, r3⟩ | ⟨j, y, u, r1, r2, r3, r4, r5⟩
  · refine ⟨.map (es.push ⟨shV e, .int .i64 v, clock⟩) (clock + 1), ?_, fun w3 hw3 => ⟨_, _, hw3, stamped_push h2 r2, fun x hx => ?_, fun e' v' h' => ?_⟩⟩
    · simp [Instr.mapUpdate, run_underlying Tryd.underlying90, MapKept.run_getObj_map h1, shLaw.check w false hl, r1, MapKept.run_setObj_map _ h1, Result.andThen, setBlock]
    · simp only [Array.toList_push, List.mem_append, List.mem_singleton] at hx
      rcases hx with hx | rfl
      · obtain ⟨e', v', k1, k2, k3, k4⟩ := h3 x hx
        refine ⟨e', v', k1, k2, k3, ?_⟩
        unfold setS
        rw [if_neg (fun e1 => r2 x hx (by rw [k1, e1])), k4]
      · exact ⟨e, v, rfl, rfl, he, by unfold setS; rw [if_pos rfl]⟩
    · unfold setS at h'
      by_cases e1 : e' = e
      · exact ⟨⟨shV e, .int .i64 v, clock⟩, by simp, by rw [e1]⟩
      · rw [if_neg e1] at h'
        obtain ⟨x, hx, hxe⟩ := h4 e' v' h'
        exact ⟨x, by simp [hx], hxe⟩
  · have hj : es[j]? = some y := by simpa using r2
    have ht : (es.modify j (fun e' => { e' with key := shV e, val := .int .i64 v })).toList = es.toList.set j { y with key := shV e, val := .int .i64 v } := by
      rw [Array.toList_modify, modify_eq_set _ _ _ _ r2]
    refine ⟨.map (es.modify j (fun e' => { e' with key := shV e, val := .int .i64 v })) clock, ?_, fun w3 hw3 => ⟨_, _, hw3, stamped_modify h2 j _ (fun _ _ => rfl) (fun e' _ he' => ?_), fun x hx => ?_, fun e' v' h' => ?_⟩⟩
    · simp [Instr.mapUpdate, run_underlying Tryd.underlying90, MapKept.run_getObj_map h1, shLaw.check w false hl, r1, hj, r3, shLaw.stays w hl, MapKept.run_setObj_map _ h1, Result.andThen, setBlock]
    · rw [hj] at he'; cases he'; exact r3.symm
    · rw [ht] at hx
      obtain ⟨i, hi, rfl⟩ := List.getElem_of_mem hx
      rw [List.getElem_set]
      by_cases e1 : j = i
      · rw [if_pos e1]; exact ⟨e, v, rfl, rfl, he, by unfold setS; rw [if_pos rfl]⟩
      · rw [if_neg e1]
        rw [List.length_set] at hi
        obtain ⟨e', v', k1, k2, k3, k4⟩ := h3 _ (List.getElem_mem hi)
        refine ⟨e', v', k1, k2, k3, ?_⟩
        unfold setS
        rw [if_neg (fun e2 => ?_), k4]
        have hp := List.pairwise_iff_getElem.1 ((stamped_iff es clock).1 h2).2.2
        obtain ⟨g1, g2⟩ := List.getElem?_eq_some_iff.1 r2
        rcases Nat.lt_or_gt_of_ne e1 with hlt | hlt
        · exact hp j i g1 hi hlt (by rw [g2, r3, k1, e2])
        · exact hp i j hi g1 hlt (by rw [g2, r3, k1, e2])
    · rw [ht]
      unfold setS at h'
      by_cases e1 : e' = e
      · exact ⟨_, List.mem_set (by have := (List.getElem?_eq_some_iff.1 r2).1; exact this) _, by rw [e1]⟩
      · rw [if_neg e1] at h'
        obtain ⟨x, hx, hxe⟩ := h4 e' v' h'
        obtain ⟨i, hi, rfl⟩ := List.getElem_of_mem hx
        have hne : j ≠ i := fun e2 => by
          subst e2
          obtain ⟨g1, g2⟩ := List.getElem?_eq_some_iff.1 r2
          rw [g2, r3] at hxe
          exact e1 (shV_inj hxe).symm
        refine ⟨_, List.getElem_mem (l := es.toList.set j { y with key := shV e, val := .int .i64 v }) (n := i) (by rw [List.length_set]; exact hi), ?_⟩
        rw [List.getElem_set, if_neg hne]; exact hxe
/-- Deleting a key. -/
theorem SMap.delete {w : World} {b : Nat} {f : Sh → Option Int} (h : SMap w b f) {e : Sh} (he : ShIn e) (ty : TypeId) :
    ∃ o : Obj, (Builtin.delete_ #[90, 93] ty #[.map (some b), shV e]).run Tryd.prog w = .ok (.tuple #[]) (setBlock w b o) ∧ ∀ w3 : World, w3.heap[b]? = some o → SMap w3 b (setS f e none) := by
  obtain ⟨es, clock, h1, h2, h3, h4⟩ := h
  obtain ⟨l, hl⟩ := sh_some he
  rcases smap_find (w := w) h3 h4 he with ⟨r1, r2, r3⟩ | ⟨j, y, u, r1, r2, r3, r4, r5⟩
  · refine ⟨.map es clock, ?_, fun w3 hw3 => ⟨_, _, hw3, h2, fun x hx => ?_, fun e' v' h' => ?_⟩⟩
    · simp [Builtin.delete_, run_underlying Tryd.underlying90, MapKept.run_getObj_map h1, shLaw.check w _ hl, r1, MapKept.run_setObj_map _ h1, Result.andThen, setBlock]
    · obtain ⟨e', v', k1, k2, k3, k4⟩ := h3 x hx
      exact ⟨e', v', k1, k2, k3, by unfold setS; rw [if_neg (fun e1 => r2 x hx (by rw [k1, e1])), k4]⟩
    · unfold setS at h'
      by_cases e1 : e' = e
      · rw [if_pos e1] at h'; cases h'
      · rw [if_neg e1] at h'; exact h4 e' v' h'
  · have hlt : j < es.size := by have := (List.getElem?_eq_some_iff.1 r2).1; simpa using this
    have hl2 : (es.eraseIdxIfInBounds j).toList = es.toList.eraseIdx j := by
      rw [Array.eraseIdxIfInBounds, dif_pos hlt]; simp
    have hp := List.pairwise_iff_getElem.1 ((stamped_iff es clock).1 h2).2.2
    obtain ⟨g1, g2⟩ := List.getElem?_eq_some_iff.1 r2
    refine ⟨.map (es.eraseIdxIfInBounds j) clock, ?_, fun w3 hw3 => ⟨_, _, hw3, stamped_erase h2 j, fun x hx => ?_, fun e' v' h' => ?_⟩⟩
    · simp [Builtin.delete_, run_underlying Tryd.underlying90, MapKept.run_getObj_map h1, shLaw.check w _ hl, r1, MapKept.run_setObj_map _ h1, Result.andThen, setBlock]
    · rw [hl2] at hx
      obtain ⟨i, hi1, hi2⟩ := List.mem_eraseIdx_iff_getElem?.1 hx
      obtain ⟨e', v', k1, k2, k3, k4⟩ := h3 x (List.mem_of_mem_eraseIdx hx)
      refine ⟨e', v', k1, k2, k3, ?_⟩
      unfold setS
      rw [if_neg (fun e2 => ?_), k4]
      obtain ⟨l1, q1⟩ := List.getElem?_eq_some_iff.1 hi2
      rcases Nat.lt_or_gt_of_ne hi1 with hlt' | hlt'
      · exact hp i j l1 g1 hlt' (by rw [q1, g2, r3, k1, e2])
      · exact hp j i g1 l1 hlt' (by rw [q1, g2, r3, k1, e2])
    · rw [hl2]
      unfold setS at h'
      by_cases e1 : e' = e
      · rw [if_pos e1] at h'; cases h'
      · rw [if_neg e1] at h'
        obtain ⟨x, hx, hxe⟩ := h4 e' v' h'
        obtain ⟨i, hi⟩ := List.getElem?_of_mem hx
        refine ⟨x, List.mem_eraseIdx_iff_getElem?.2 ⟨i, fun e2 => ?_, hi⟩, hxe⟩
        subst e2
        rw [r2] at hi
        cases hi
        exact e1 (shV_inj (hxe.symm.trans r3))
end Go.Proofs.YtmbggaepckgogaaDoor
