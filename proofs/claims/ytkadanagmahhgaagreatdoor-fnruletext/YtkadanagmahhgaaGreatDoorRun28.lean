/-
  PROVED HERE: which sum of products the model makes of a term, at every list of nodes. No other condition. how the program's sums of products lie in a map, and what looking up, storing and deleting do to it. No condition. what the program's putting of a product into a map does. No other condition. what the program's putting of a whole sum into a map does. No other condition.
-/
import Derived.Test.YtkadanagmahhgaaGreatDoorRun27
import Derived.Test.YtkadanagmahhgaaGreatDoorRun24
import Derived.Test.YtkadanagmahhgaaGreatDoorRows
import Derived.WideKeyEntry
import Derived.DeepKeys4
import Derived.Maps.OwnSet
import Derived.Maps.RangeRun
import Derived.Test.YtkadanagmahhgaaGreatDoorRun1
import Derived.Deep.RegionWith
import Derived.Test.YtkadanagmahhgaaGreatDoorRun25
import Derived.Laws.IdiomCopy
import Derived.Deep.RegionLaw
namespace Go.Proofs.YtkadanagmahhgaaGreatDoor
open Go.ChangeShapes Go.WideShapes Go.ChangeAt Go.RowKit
set_option linter.unusedVariables false

theorem sOf_any {l : List (Int × Int)} {q : Int} (h : pile l 0 = some q) (hr : ringB l = true) (hI : ∀ k, InI (l.getD k (0, 0)).2) (b off len cap : Nat) (hl : len ≤ 40) : ∀ (f k : Nat) (W : World), k < len → k < f → NSl W (some ⟨b, off, none⟩) len l →
    Calls Tryz.prog 99 #[.slice (some ⟨b, off, none⟩) len cap, .int .i64 (k : Int)] W fun r w' => SOf W (ofF l f k) r w'
  | 0, k, W, hk, hf, hN => by omega
  | f + 1, k, W, hk, hf, hN => by
    have hll := hN.1
    have good := fun k p => ofF_good (fun k _ => hI k) (vars4 h) f k p
    have hro := ring_ops hr (show k < l.length by omega)
    obtain ⟨h1, h2⟩ := cnt_step h k (by omega)
    obtain ⟨a1, a2, a3, _⟩ := fits_iff _ _ _ _ h1
    have hop7 := (good_ops h k (by omega))
    obtain ⟨b', off', e, hbl, hc⟩ := hN.at (by omega)
    cases e
    have c1 := (hc k hk).1
    have c2 := (hc k hk).2
    by_cases h01 : (l.getD k (0, 0)).1 = 1
    · have e : ofF l (f + 1) k = some (numP (l.getD k (0, 0)).2) := by unfold ofF; rw [if_pos h01]
      rw [e]
      rw [h01] at c1
      exact sOfNum b off len cap k _ W hk hl c1 c2
    · by_cases h02 : (l.getD k (0, 0)).1 = 2
      · obtain ⟨n0, n4⟩ := a3 h02
        have e : ofF l (f + 1) k = some (varP (l.getD k (0, 0)).2.toNat) := by unfold ofF; rw [if_neg (by omega), if_pos h02]
        rw [e]
        rw [h02] at c1
        obtain ⟨n, hn⟩ := Int.eq_ofNat_of_zero_le n0
        rw [hn] at c2 ⊢
        rw [Int.toNat_natCast]
        have : n = 0 ∨ n = 1 ∨ n = 2 ∨ n = 3 := by omega
        rcases this with rfl | rfl | rfl | rfl
        · exact sOfVar0 b off len cap k W hk hl c1 c2
        · exact sOfVar1 b off len cap k W hk hl c1 c2
        · exact sOfVar2 b off len cap k W hk hl c1 c2
        · exact sOfVar3 b off len cap k W hk hl c1 c2
      · obtain ⟨m, hm⟩ : ∃ m : Nat, ar (l.getD k (0, 0)).1 = m := ⟨(ar (l.getD k (0, 0)).1).toNat, by omega⟩
        have h37 : 3 ≤ (l.getD k (0, 0)).1 ∧ (l.getD k (0, 0)).1 ≤ 7 := by omega
        have hm1 : 1 ≤ m ∧ ((l.getD k (0, 0)).1 ≠ 3 → m = 2) := by
          have : (l.getD k (0, 0)).1 = 3 ∨ (l.getD k (0, 0)).1 = 4 ∨ (l.getD k (0, 0)).1 = 5 ∨ (l.getD k (0, 0)).1 = 6 ∨ (l.getD k (0, 0)).1 = 7 := by omega
          rcases this with e | e | e | e | e <;> rw [e] at hm
          · have e0 : ar 3 = 1 := rfl; omega
          · have e0 : ar 4 = 2 := rfl; omega
          · have e0 : ar 5 = 2 := rfl; omega
          · have e0 : ar 6 = 2 := rfl; omega
          · have e0 : ar 7 = 2 := rfl; omega
        have hrt : ∀ i, i < m → (roots l m k).getD i 0 < k := fun i hi => getD_lt (roots l m k) k i (roots_lt h m k (by omega) (by omega)) (by rw [roots_len]; exact hi)
        have e : ofF l (f + 1) k = opR (l.getD k (0, 0)).1 (l.getD (k - 1) (0, 0)).2 (ofF l f ((roots l m k).getD 0 0)) (ofF l f ((roots l m k).getD 1 0)) := by
          show (if _ then _ else _) = _
          rw [if_neg (by omega), if_neg (by omega), hm, Int.toNat_natCast]
          unfold opR
          cases ofF l f ((roots l m k).getD 0 0) with
          | none => rfl
          | some p =>
            cases ofF l f ((roots l m k).getD 1 0) with
            | none => rfl
            | some q => rfl
        rw [e]
        have r0 := hrt 0 (by omega)
        refine sOfOp h b off len cap k W hN hl hk _ _ m rfl (fun e7 => ⟨rfl, hop7.2.2 e7⟩) hm hm1.1 h37 hm1.2 _ _ rfl (fun _ => rfl) _ _ (fun W' hW' => sOf_any h hr hI b off len cap hl f _ W' (by omega) (by omega) (hN.keep hW')) (fun e3 e7 W' hW' => ?_) (fun p hp => good _ p hp) (fun p hp => good _ p hp)
        have r1 := hrt 1 (by have := hm1.2 e3; omega)
        exact sOf_any h hr hI b off len cap hl f _ W' (by omega) (by omega) (hN.keep hW')

theorem specPolyOf_own (a : Option Addr) (len cap : Nat) (l : List (Int × Int)) (w : World) (h : NSl w a len l) (hm : len ≤ 9223372036854775807) (hI : ∀ k, InI (l.getD k (0, 0)).2) :
    Calls Tryz.prog 56 #[.slice a len cap] w fun r w' => ∃ v, r = .returned (.tuple #[v, .bool (ofT l).isSome]) ∧ SpecB w.heap.size w' v ((ofT l).getD []) ∧ Below w.heap.size w w' := by
  have hll := h.1
  have HG := (show Hid _ from specGood_any a len cap l w h hm)
  unfold ofT isRingB
  cases hg : goodB l with
  | false =>
    rw [hg] at HG
    rw [Bool.false_and, if_neg (by decide)]
    clear h hI
    go_enter Tryz.func56, Tryz.ntmps56
    go_wp2_with fail
    refine Calls.mono HG.out ?_
    rintro e w1 ⟨rfl, hb1⟩
    clear HG
    go_wp2
    go_ret2
    exact ⟨_, rfl, SpecB.nil _ _, hb1⟩
  | true =>
    rw [hg] at HG
    obtain ⟨hp, h1, h40⟩ := good_pile hg
    have HR : Hid (∀ W, Below w.heap.size w W → Calls Tryz.prog 64 #[.slice a len cap] W fun e w' => e = .returned (.bool (ringB l)) ∧ Below W.heap.size W w') := fun W hW => l4Ring_any (fun k hk => good_ops hp k hk) a len cap W (h.keep hW) (by omega)
    rw [Bool.true_and]
    cases hr : ringB l with
    | false =>
      rw [hr] at HR
      rw [if_neg (by decide)]
      clear h hI hp
      go_enter Tryz.func56, Tryz.ntmps56
      go_wp2_with fail
      refine Calls.mono HG.out ?_
      rintro e w1 ⟨rfl, hb1⟩
      clear HG
      go_wp2_with fail
      refine Calls.mono (HR.out _ hb1) ?_
      rintro e w2 ⟨rfl, hb2⟩
      have hB := hb1.trans (hb2.mono hb1.size)
      clear HR hb1 hb2
      go_wp2
      go_ret2
      exact ⟨_, rfl, SpecB.nil _ _, hB⟩
    | true =>
      rw [hr] at HR
      rw [if_pos rfl]
      have hk1 : (len : Int) - 1 = ((len - 1 : Nat) : Int) := by omega
      have HO : Hid (∀ W, Below w.heap.size w W → Calls Tryz.prog 99 #[.slice a len cap, .int .i64 ((len - 1 : Nat) : Int)] W fun r w' => SOf W (ofF l l.length (l.length - 1)) r w') := fun W hW => by
        obtain ⟨b, off, rfl, _⟩ := h.at (by omega)
        rw [hll]
        exact sOf_any hp hr hI b off len cap (by omega) len (len - 1) W (by omega) (by omega) (h.keep hW)
      obtain ⟨k1, hk2⟩ : ∃ k1, len - 1 = k1 := ⟨_, rfl⟩
      rw [hk2] at hk1 HO
      obtain ⟨O, hO⟩ : ∃ O, ofF l l.length (l.length - 1) = O := ⟨_, rfl⟩
      rw [hO] at HO ⊢
      clear h hI hp hk2 hO hg hr
      cases O with
      | none =>
        go_enter Tryz.func56, Tryz.ntmps56
        go_wp2_with fail
        refine Calls.mono HG.out ?_
        rintro e w1 ⟨rfl, hb1⟩
        clear HG
        go_wp2_with fail
        refine Calls.mono (HR.out _ hb1) ?_
        rintro e w2 ⟨rfl, hb2⟩
        have hB := hb1.trans (hb2.mono hb1.size)
        clear HR hb1 hb2
        go_wp2_with fail
        refine Calls.mono (HO.out _ hB) ?_
        rintro r w3 ⟨v, rfl, _, hb3⟩
        have hB3 := hB.trans (hb3.mono hB.size)
        clear HO hb3 hB
        go_wp2
        go_ret2
        exact ⟨_, rfl, SpecB.nil _ _, hB3⟩
      | some s =>
        go_enter Tryz.func56, Tryz.ntmps56
        go_wp2_with fail
        refine Calls.mono HG.out ?_
        rintro e w1 ⟨rfl, hb1⟩
        clear HG
        go_wp2_with fail
        refine Calls.mono (HR.out _ hb1) ?_
        rintro e w2 ⟨rfl, hb2⟩
        have hB := hb1.trans (hb2.mono hb1.size)
        clear HR hb1 hb2
        go_wp2_with fail
        refine Calls.mono (HO.out _ hB) ?_
        rintro r w3 ⟨v, rfl, hv, hb3⟩
        have hB3 := hB.trans (hb3.mono hB.size)
        have HV := (show Hid _ from (hv s rfl).base hB.size)
        clear HO hb3 hB hv
        go_wp2
        go_ret2
        exact ⟨_, rfl, HV.out, hB3⟩
theorem specPolyOf_any (a : Option Addr) (len cap : Nat) (l : List (Int × Int)) (w : World) (h : NSl w a len l) (hm : len ≤ 9223372036854775807) (hI : ∀ k, InI (l.getD k (0, 0)).2) :
    Calls Tryz.prog 56 #[.slice a len cap] w fun r w' => ∃ v, r = .returned (.tuple #[v, .bool (ofT l).isSome]) ∧ SpecV w' v ((ofT l).getD []) ∧ Below w.heap.size w w' :=
  (specPolyOf_own a len cap l w h hm hI).mono fun r w' ⟨v, h1, h2, h3⟩ => ⟨v, h1, h2.1, h3⟩
end Go.Proofs.YtkadanagmahhgaaGreatDoor
namespace Go.Proofs.YtkadanagmahhgaaGreatDoor
open Go.ChangeShapes Go.WideShapes Go.ChangeAt Go.RowKit
open Go.MapKept Go.ChangeMaps
set_option linter.unusedVariables false

theorem laidOutM : laidOutB Tryz.prog = true := by kernel_rfl
theorem keyLaw : WideMaps.KeyLaw Tryz.prog 171 := deep_law_laid laidOutM (m := 2) (by omega) (of_decide_eq_true (by kernel_rfl)) (by kernel_rfl) (by kernel_rfl)
theorem keyTypeM : Tryz.prog.keyType 171 = true := by kernel_rfl
theorem cellsKey : Tryz.prog.cellsOf 171 = 4 := by kernel_rfl
theorem cellsIntK : Tryz.prog.cellsOf 3 = 1 := by kernel_rfl
/-- Four numbers of 64 bits. -/
def Key4 (e : List Int) : Prop := e.length = 4 ∧ ∀ x ∈ e, InI x
/-- Powers as a key. -/
def keyV (e : List Int) : Value := .agg (e.map (Value.int .i64)).toArray
theorem keyV_inj {e f : List Int} (h : keyV e = keyV f) : e = f := by
  unfold keyV at h
  injection h with h
  have h2 : e.map (Value.int .i64) = f.map (Value.int .i64) := by simpa using h
  exact (List.map_inj_right (fun a b hab => by injection hab)).1 h2
theorem wf_of {x : Int} (h : InI x) : (Lit.int .i64 x).wf = true := by
  unfold InI at h
  have e1 : IntKind.i64.min = -9223372036854775808 := by decide
  have e2 : IntKind.i64.max = 9223372036854775807 := by decide
  simp only [Lit.wf, Bool.and_eq_true, decide_eq_true_eq]
  omega
set_option maxRecDepth 20000 in
theorem key_some {e : List Int} (h : Key4 e) : ∃ l, keyOf Tryz.prog 171 (keyV e) = some l := by
  obtain ⟨h4, hi⟩ := h
  match e, h4, hi with
  | [a, b, c, d], _, hi =>
    have wa := wf_of (hi a (by simp))
    have wb := wf_of (hi b (by simp))
    have wc := wf_of (hi c (by simp))
    have wd := wf_of (hi d (by simp))
    have hf : (keyV [a, b, c, d]).formed Tryz.prog 171 = true := by rfl
    have hl : Tryz.prog.keyLits (Tryz.prog.types.size + 1) 171 (keyV [a, b, c, d]).cells.toList = some [.int .i64 a, .int .i64 b, .int .i64 c, .int .i64 d] := by
      have hc : (keyV [a, b, c, d]).cells.toList = [.int .i64 a, .int .i64 b, .int .i64 c, .int .i64 d] := rfl
      have e1 : ∀ x : Int, (Lit.int .i64 x).wf = true → Tryz.prog.keyLits Tryz.prog.types.size 3 [.int .i64 x] = some [.int .i64 x] := fun x hx => by
        obtain ⟨n, hn⟩ : ∃ n, Tryz.prog.types.size = n + 1 := ⟨Tryz.prog.types.size - 1, by have : 0 < Tryz.prog.types.size := of_decide_eq_true (by kernel_rfl); omega⟩
        rw [hn]
        simp [Program.keyLits, Tryz.underlying3, hx]
      rw [hc]
      unfold Program.keyLits
      simp only [Tryz.underlying171, cellsKey, cellsIntK]
      rw [if_pos (show ([.int .i64 a, .int .i64 b, .int .i64 c, .int .i64 d] : List Value).length = 4 from rfl), show List.range 4 = [0, 1, 2, 3] from rfl]
      have f0 : Tryz.prog.keyLits Tryz.prog.types.size 3 (([.int .i64 a, .int .i64 b, .int .i64 c, .int .i64 d] : List Value).drop (0 * 1) |>.take 1) = some [.int .i64 a] := e1 a wa
      have f1 : Tryz.prog.keyLits Tryz.prog.types.size 3 (([.int .i64 a, .int .i64 b, .int .i64 c, .int .i64 d] : List Value).drop (1 * 1) |>.take 1) = some [.int .i64 b] := e1 b wb
      have f2 : Tryz.prog.keyLits Tryz.prog.types.size 3 (([.int .i64 a, .int .i64 b, .int .i64 c, .int .i64 d] : List Value).drop (2 * 1) |>.take 1) = some [.int .i64 c] := e1 c wc
      have f3 : Tryz.prog.keyLits Tryz.prog.types.size 3 (([.int .i64 a, .int .i64 b, .int .i64 c, .int .i64 d] : List Value).drop (3 * 1) |>.take 1) = some [.int .i64 d] := e1 d wd
      simp only [List.mapM_cons, List.mapM_nil, f0, f1, f2, f3]
      rfl
    refine ⟨.string (keyBytes [.int .i64 a, .int .i64 b, .int .i64 c, .int .i64 d]), ?_⟩
    unfold keyOf
    rw [Tryz.underlying171]
    simp only [keyTypeM, hf, hl, Bool.and_self, if_pos, Option.map_some]
/-- A map's entries, as key and value. -/
def entM (m : Mon) : Value × Value := (keyV m.1, .int .i64 m.2)
/-- Block b is a map that holds the products M, each key once. -/
def PMap (w : World) (b : Nat) (M : List Mon) : Prop := ∃ es clock, w.heap[b]? = some (.map es clock) ∧ Stamped es clock ∧ es.toList.map (fun x => (x.key, x.val)) = M.map entM ∧ ∀ m ∈ M, Key4 m.1
def Apart (M : List Mon) : Prop := M.Pairwise fun x y => x.1 ≠ y.1
theorem PMap.block {w w' : World} {b : Nat} {M : List Mon} (h : PMap w b M) (hb : w'.heap[b]? = w.heap[b]?) : PMap w' b M := by
  obtain ⟨es, clock, h1, h2, h3, h4⟩ := h
  exact ⟨es, clock, hb.trans h1, h2, h3, h4⟩
theorem PMap.lt {w : World} {b : Nat} {M : List Mon} (h : PMap w b M) : b < w.heap.size := by
  obtain ⟨es, clock, h1, _⟩ := h
  exact (Array.getElem?_eq_some_iff.1 h1).1
theorem PMap.keep {w w' : World} {b : Nat} {M : List Mon} (h : PMap w b M) (hb : Below w.heap.size w w') : PMap w' b M := h.block (hb.block b h.lt)
theorem apart_of {l : List MapEntry} : ∀ {M : List Mon}, l.map (fun x => (x.key, x.val)) = M.map entM → l.Pairwise (fun x y => x.key ≠ y.key) → Apart M := by
  induction l with
  | nil =>
    intro M h _
    cases M with
    | nil => exact List.Pairwise.nil
    | cons m r => simp at h
  | cons a l ih =>
    intro M h hp
    cases M with
    | nil => simp at h
    | cons m r =>
      simp only [List.map_cons, List.cons.injEq] at h
      obtain ⟨p1, p2⟩ := List.pairwise_cons.1 hp
      refine List.pairwise_cons.2 ⟨fun y hy e => ?_, ih h.2 p2⟩
      have : entM y ∈ l.map (fun x => (x.key, x.val)) := by rw [h.2]; exact List.mem_map.2 ⟨y, hy, rfl⟩
      obtain ⟨x, hx, hxe⟩ := List.mem_map.1 this
      have k1 : x.key = keyV y.1 := congrArg Prod.fst hxe
      have k2 : a.key = keyV m.1 := congrArg Prod.fst h.1
      exact p1 x hx (by rw [k1, k2, e])
theorem PMap.apart {w : World} {b : Nat} {M : List Mon} (h : PMap w b M) : Apart M := by
  obtain ⟨es, clock, h1, h2, h3, h4⟩ := h
  exact apart_of h3 ((stamped_iff es clock).1 h2).2.2
theorem entries_len {l : List MapEntry} {M : List Mon} (h : l.map (fun x => (x.key, x.val)) = M.map entM) : l.length = M.length := by
  have := congrArg List.length h
  simpa using this
theorem entries_at {l : List MapEntry} {M : List Mon} (h : l.map (fun x => (x.key, x.val)) = M.map entM) {j : Nat} {x : MapEntry} (hx : l[j]? = some x) : ∃ m, M[j]? = some m ∧ x.key = keyV m.1 ∧ x.val = .int .i64 m.2 := by
  have h1 : (l.map (fun x => (x.key, x.val)))[j]? = some (x.key, x.val) := by rw [List.getElem?_map, hx]; rfl
  rw [h, List.getElem?_map] at h1
  cases hm : M[j]? with
  | none => rw [hm] at h1; cases h1
  | some m =>
    rw [hm] at h1
    have := Option.some.inj h1
    exact ⟨m, rfl, (congrArg Prod.fst this).symm, (congrArg Prod.snd this).symm⟩
theorem coef_set {M : List Mon} (ha : Apart M) {j : Nat} {m : Mon} (hm : M[j]? = some m) (x : Int) (e' : List Int) : coef (M.set j (m.1, x)) e' = if m.1 = e' then x else coef M e' := by
  induction M generalizing j with
  | nil => simp at hm
  | cons a r ih =>
    obtain ⟨p1, p2⟩ := List.pairwise_cons.1 ha
    cases j with
    | zero =>
      simp only [List.getElem?_cons_zero, Option.some.injEq] at hm
      subst hm
      rw [List.set_cons_zero, coef_cons, coef_cons]
      by_cases h : a.1 = e'
      · rw [if_pos h, if_pos h, coef_none (fun y hy e => p1 y hy (h.trans e.symm))]; omega
      · rw [if_neg h, if_neg h, if_neg h]
    | succ j =>
      simp only [List.getElem?_cons_succ] at hm
      rw [List.set_cons_succ, coef_cons, coef_cons, ih p2 hm]
      by_cases h : m.1 = e'
      · rw [if_pos h, if_pos h, if_neg (fun e => p1 m (List.mem_of_getElem? hm) (e.trans h.symm))]; omega
      · rw [if_neg h, if_neg h]
theorem coef_at {M : List Mon} (ha : Apart M) {j : Nat} {m : Mon} (hm : M[j]? = some m) : coef M m.1 = m.2 := by
  have := coef_set ha hm m.2 m.1
  rw [if_pos rfl] at this
  rw [← this]
  congr 1
  have : M.set j (m.1, m.2) = M := by
    apply List.ext_getElem?
    intro i
    rw [List.getElem?_set]
    by_cases hi : j = i
    · subst hi
      rw [if_pos rfl, if_pos (by rw [List.getElem?_eq_some_iff] at hm; exact hm.1), hm]
    · rw [if_neg hi]
  rw [this]
theorem coef_erase {M : List Mon} (ha : Apart M) {j : Nat} {m : Mon} (hm : M[j]? = some m) (e' : List Int) : coef (M.eraseIdx j) e' = if m.1 = e' then 0 else coef M e' := by
  induction M generalizing j with
  | nil => simp at hm
  | cons a r ih =>
    obtain ⟨p1, p2⟩ := List.pairwise_cons.1 ha
    cases j with
    | zero =>
      simp only [List.getElem?_cons_zero, Option.some.injEq] at hm
      subst hm
      rw [List.eraseIdx_cons_zero, coef_cons]
      by_cases h : a.1 = e'
      · rw [if_pos h, coef_none (fun y hy e => p1 y hy (h.trans e.symm))]
      · rw [if_neg h, if_neg h]; omega
    | succ j =>
      simp only [List.getElem?_cons_succ] at hm
      rw [List.eraseIdx_cons_succ, coef_cons, coef_cons, ih p2 hm]
      by_cases h : m.1 = e'
      · rw [if_pos h, if_pos h, if_neg (fun e => p1 m (List.mem_of_getElem? hm) (e.trans h.symm))]; omega
      · rw [if_neg h, if_neg h]
/-- Where a key is. -/
theorem PMap.find {w : World} {es : Array MapEntry} {M : List Mon} (h3 : es.toList.map (fun x => (x.key, x.val)) = M.map entM) (h4 : ∀ m ∈ M, Key4 m.1) {e : List Int} (he : Key4 e) :
    ((Instr.findKey 171 (keyV e) es.toList).run Tryz.prog w = .ok none w ∧ (∀ x ∈ es.toList, x.key ≠ keyV e) ∧ ∀ m ∈ M, m.1 ≠ e) ∨
    ∃ j x m, (Instr.findKey 171 (keyV e) es.toList).run Tryz.prog w = .ok (some (j, .int .i64 m.2)) w ∧ es.toList[j]? = some x ∧ x.key = keyV e ∧ M[j]? = some m ∧ m.1 = e := by
  obtain ⟨l, hl⟩ := key_some he
  have hall : ∀ x ∈ es.toList, ∃ l, keyOf Tryz.prog 171 x.key = some l := fun x hx => by
    obtain ⟨j, hj⟩ := List.getElem?_of_mem hx
    obtain ⟨m, hm, k1, _⟩ := entries_at h3 hj
    rw [k1]; exact key_some (h4 m (List.mem_of_getElem? hm))
  rcases keyLaw.find w hl es.toList hall with ⟨r1, r2⟩ | ⟨j, x, r1, r2, r3⟩
  · refine .inl ⟨r1, r2, fun m hm e' => ?_⟩
    have : entM m ∈ es.toList.map (fun x => (x.key, x.val)) := by rw [h3]; exact List.mem_map.2 ⟨m, hm, rfl⟩
    obtain ⟨x, hx, hxe⟩ := List.mem_map.1 this
    exact r2 x hx ((congrArg Prod.fst hxe).trans (by show keyV m.1 = _; rw [e']))
  · obtain ⟨m, hm, k1, k2⟩ := entries_at h3 r2
    exact .inr ⟨j, x, m, by rw [r1, k2], r2, r3, hm, keyV_inj (k1.symm.trans r3)⟩
theorem zeroI64 (w : World) : (zeroValue 2).run Tryz.prog w = .ok (.int .i64 0) w := by kernel_rfl
theorem PMap.lookup {w : World} {b : Nat} {M : List Mon} (h : PMap w b M) {e : List Int} (he : Key4 e) : (Instr.lookup 173 (.map (some b)) (keyV e) false).run Tryz.prog w = .ok (.int .i64 (coef M e)) w := by
  have ha := h.apart
  obtain ⟨es, clock, h1, h2, h3, h4⟩ := h
  obtain ⟨l, hl⟩ := key_some he
  rcases PMap.find (w := w) h3 h4 he with ⟨r1, r2, r3⟩ | ⟨j, x, m, r1, r2, r3, r4, rfl⟩
  · rw [coef_none r3]
    simp [Instr.lookup, run_underlying Tryz.underlying173, MapKept.run_getObj_map h1, keyLaw.check w _ hl, r1, Result.andThen]
  · rw [coef_at ha r4]
    simp [Instr.lookup, run_underlying Tryz.underlying173, MapKept.run_getObj_map h1, keyLaw.check w _ hl, r1, Result.andThen]
theorem set_map {l : List MapEntry} {M : List Mon} (h : l.map (fun x => (x.key, x.val)) = M.map entM) {j : Nat} {m : Mon} (hm : M[j]? = some m) {y : MapEntry} (hy : y.key = keyV m.1) {x : Int} (hv : y.val = .int .i64 x) : (l.set j y).map (fun x => (x.key, x.val)) = (M.set j (m.1, x)).map entM := by
  rw [List.map_set, List.map_set, h, hy, hv]; rfl
/-- Storing at a key: the entry, then the value. -/
theorem PMap.store {w : World} {b : Nat} {M : List Mon} (h : PMap w b M) {e : List Int} (he : Key4 e) :
    ∃ (v0 : Value) (st : Nat) (o1 : Obj), (Instr.mapEntry 173 (.map (some b)) (keyV e)).run Tryz.prog w = .ok (.tuple #[v0, goInt st]) (setBlock w b o1) ∧ (∃ M1, (∀ w3 : World, w3.heap[b]? = some o1 → PMap w3 b M1) ∧ ∀ e', coef M1 e' = coef M e') ∧
      ∀ (w2 : World) (x : Int), w2.heap[b]? = some o1 → ∃ (o2 : Obj) (M' : List Mon), (Instr.entryStore 173 (.map (some b)) (goInt st) (.int .i64 x)).run Tryz.prog w2 = .ok () (setBlock w2 b o2) ∧
        (∀ w3 : World, w3.heap[b]? = some o2 → PMap w3 b M') ∧ (∀ e', coef M' e' = if e = e' then x else coef M e') ∧ (∀ m ∈ M', m ∈ M ∨ m = (e, x)) ∧ M'.length ≤ M.length + 1 := by
  have ha := h.apart
  obtain ⟨es, clock, h1, h2, h3, h4⟩ := h
  obtain ⟨l, hl⟩ := key_some he
  obtain ⟨s1, s2, s3⟩ := (stamped_iff es clock).1 h2
  rcases PMap.find (w := w) h3 h4 he with ⟨r1, r2, r3⟩ | ⟨j, y, m, r1, r2, r3, r4, rfl⟩
  · refine ⟨.int .i64 0, clock, .map (es.push ⟨keyV e, .int .i64 0, clock⟩) (clock + 1), ?_, ⟨M ++ [(e, 0)], fun w3 hw3 => ⟨_, _, hw3, stamped_push h2 r2, by rw [Array.toList_push, List.map_append, List.map_append, h3]; rfl, fun m hm => by rcases List.mem_append.1 hm with hm | hm; exact h4 m hm; rw [List.mem_singleton.1 hm]; exact he⟩, fun e' => by rw [coef_append, coef_cons, coef_nil]; split <;> omega⟩, fun w2 x hw2 => ⟨.map (es.push ⟨keyV e, .int .i64 x, clock⟩) (clock + 1), M ++ [(e, x)], ?_, fun w3 hw3 => ⟨_, _, hw3, stamped_push h2 r2, ?_, ?_⟩, fun e' => ?_, fun m hm => ?_, by simp⟩⟩
    · simp [Instr.mapEntry, run_underlying Tryz.underlying173, MapKept.run_getObj_map h1, keyLaw.check w false hl, r1, MapKept.run_setObj_map _ h1, Result.andThen, setBlock]
    · have hidx : (es.push ⟨keyV e, .int .i64 0, clock⟩).findIdx? (fun e => ((e.born : Nat) : Int) == ((clock : Nat) : Int)) = some es.size := by
        rw [WideElems.findIdx_arr]
        exact WideElems.findIdx_born (l := (es.push ⟨keyV e, .int .i64 0, clock⟩).toList) (j := es.size) (e0 := ⟨keyV e, .int .i64 0, clock⟩) (by
          simp only [Array.toList_push, List.map_append, List.map_cons, List.map_nil]
          refine List.nodup_append.2 ⟨s2, by simp, fun a ha c hc e1 => ?_⟩
          simp only [List.mem_singleton] at hc
          obtain ⟨x, hx, rfl⟩ := List.mem_map.1 ha
          have := s1 x hx
          omega) (by simp)
      have hmod : (es.push ⟨keyV e, .int .i64 0, clock⟩).modify es.size (fun e => { e with val := .int .i64 x }) = es.push ⟨keyV e, .int .i64 x, clock⟩ := by
        apply Array.ext'
        rw [Array.toList_modify, Array.toList_push, Array.toList_push, ← Array.length_toList, WideElems.modify_last]
      simp [Instr.entryStore, MapKept.run_getObj_map hw2, asInt, asIntOf, goInt, hidx, hmod, MapKept.run_setObj_map _ hw2, Result.andThen, setBlock]
    · rw [Array.toList_push, List.map_append, List.map_append, h3]; rfl
    · intro m hm
      rcases List.mem_append.1 hm with hm | hm
      · exact h4 m hm
      · rw [List.mem_singleton.1 hm]; exact he
    · rw [coef_append, coef_cons, coef_nil]
      by_cases he' : e = e'
      · rw [if_pos he', if_pos he', coef_none (fun y hy e1 => r3 y hy (e1.trans he'.symm))]; omega
      · rw [if_neg he', if_neg he']; omega
    · rcases List.mem_append.1 hm with hm | hm
      · exact .inl hm
      · exact .inr (List.mem_singleton.1 hm)
  · have hj : es[j]? = some y := by simpa using r2
    have hsame : es.modify j (fun e' => { e' with key := keyV m.1 }) = es := by
      apply Array.ext'
      rw [Array.toList_modify, modify_eq_set _ _ _ _ r2]
      have : ({ y with key := keyV m.1 } : MapEntry) = y := by rw [← r3]
      rw [this]
      exact WideElems.set_self _ _ _ r2
    refine ⟨.int .i64 m.2, y.born, .map es clock, ?_, ⟨M, fun w3 hw3 => ⟨_, _, hw3, h2, h3, h4⟩, fun _ => rfl⟩, fun w2 x hw2 => ⟨.map (es.modify j (fun e' => { e' with val := .int .i64 x })) clock, M.set j (m.1, x), ?_, fun w3 hw3 => ⟨_, _, hw3, stamped_modify h2 j _ (fun _ _ => rfl) (fun _ _ _ => rfl), ?_, ?_⟩, fun e' => coef_set ha r4 x e', fun m' hm => ?_, by simp⟩⟩
    · simp [Instr.mapEntry, run_underlying Tryz.underlying173, MapKept.run_getObj_map h1, keyLaw.check w false hl, r1, hj, r3, keyLaw.stays w hl, hsame, MapKept.run_setObj_map _ h1, Result.andThen, setBlock]
    · have hidx : es.findIdx? (fun e => ((e.born : Nat) : Int) == ((y.born : Nat) : Int)) = some j := by
        rw [WideElems.findIdx_arr]
        exact WideElems.findIdx_born s2 r2
      simp [Instr.entryStore, MapKept.run_getObj_map hw2, asInt, asIntOf, goInt, hidx, MapKept.run_setObj_map _ hw2, Result.andThen, setBlock]
    · rw [Array.toList_modify, modify_eq_set _ _ _ _ r2]
      exact set_map (y := { y with val := .int .i64 x }) h3 r4 r3 rfl
    · intro m' hm
      rcases List.mem_or_eq_of_mem_set hm with hm | rfl
      · exact h4 m' hm
      · exact he
    · rcases List.mem_or_eq_of_mem_set hm with hm | rfl
      · exact .inl hm
      · exact .inr rfl
/-- Deleting a key. -/
theorem PMap.delete {w : World} {b : Nat} {M : List Mon} (h : PMap w b M) {e : List Int} (he : Key4 e) (ty : TypeId) :
    ∃ (o2 : Obj) (M' : List Mon), (Builtin.delete_ #[173, 171] ty #[.map (some b), keyV e]).run Tryz.prog w = .ok (.tuple #[]) (setBlock w b o2) ∧
      (∀ w3 : World, w3.heap[b]? = some o2 → PMap w3 b M') ∧ (∀ e', coef M' e' = if e = e' then 0 else coef M e') ∧ (∀ m ∈ M', m ∈ M ∧ m.1 ≠ e) ∧ M'.length ≤ M.length := by
  have ha := h.apart
  obtain ⟨es, clock, h1, h2, h3, h4⟩ := h
  obtain ⟨l, hl⟩ := key_some he
  rcases PMap.find (w := w) h3 h4 he with ⟨r1, r2, r3⟩ | ⟨j, y, m, r1, r2, r3, r4, rfl⟩
  · refine ⟨.map es clock, M, ?_, fun w3 hw3 => ⟨_, _, hw3, h2, h3, h4⟩, fun e' => ?_, fun m hm => ⟨hm, r3 m hm⟩, Nat.le_refl _⟩
    · simp [Builtin.delete_, run_underlying Tryz.underlying173, MapKept.run_getObj_map h1, keyLaw.check w _ hl, r1, MapKept.run_setObj_map _ h1, Result.andThen, setBlock]
    · by_cases he' : e = e'
      · rw [if_pos he', coef_none (fun y hy e1 => r3 y hy (e1.trans he'.symm))]
      · rw [if_neg he']
  · have hlt : j < es.size := by have := (List.getElem?_eq_some_iff.1 r2).1; simpa using this
    have hl2 : (es.eraseIdxIfInBounds j).toList = es.toList.eraseIdx j := by
      rw [Array.eraseIdxIfInBounds, dif_pos hlt]; simp
    refine ⟨.map (es.eraseIdxIfInBounds j) clock, M.eraseIdx j, ?_, fun w3 hw3 => ⟨_, _, hw3, stamped_erase h2 j, ?_, fun m' hm => h4 m' (List.mem_of_mem_eraseIdx hm)⟩, fun e' => coef_erase ha r4 e', fun m' hm => ⟨List.mem_of_mem_eraseIdx hm, fun e1 => ?_⟩, ?_⟩
    · simp [Builtin.delete_, run_underlying Tryz.underlying173, MapKept.run_getObj_map h1, keyLaw.check w _ hl, r1, MapKept.run_setObj_map _ h1, Result.andThen, setBlock]
    · rw [hl2, map_eraseIdx, map_eraseIdx, h3]
    · obtain ⟨i, hi1, hi2⟩ := List.mem_eraseIdx_iff_getElem?.1 hm
      have hap := List.pairwise_iff_getElem.1 ha
      obtain ⟨l1, g1⟩ := List.getElem?_eq_some_iff.1 hi2
      obtain ⟨l2, g2⟩ := List.getElem?_eq_some_iff.1 r4
      rcases Nat.lt_or_gt_of_ne hi1 with hlt' | hlt'
      · have := hap i j l1 l2 hlt'
        rw [g1, g2] at this
        exact this e1
      · have := hap j i l2 l1 hlt'
        rw [g1, g2] at this
        exact this e1.symm
    · rw [List.length_eraseIdx]; split <;> omega
end Go.Proofs.YtkadanagmahhgaaGreatDoor
namespace Go.Proofs.YtkadanagmahhgaaGreatDoor
open Go.ChangeShapes Go.WideShapes Go.ChangeAt Go.RowKit
open Go.MapKept Go.ChangeMaps
set_option linter.unusedVariables false

theorem wpList_delete_run {P : Program} (w : World) {ops : Array Oper} {rest : List Oper} {o : Oper} {a : Act} {Q : Exit → Act → World → Prop} (hg : o.guard = none) (m x : Operand) (t k : TypeId) (hop : o.op = Op.call { callee := Callee.builtin Builtin.delete, args := #[m, x], argTypes := #[t, k] })
    (vm vx : Value) (hm : a.eval m = vm) (hx : a.eval x = vx) (w' : World) (hrun : (Builtin.delete_ #[t, k] o.type #[vm, vx]).run P w = .ok (.tuple #[]) w') (hK : wpList P ops Q rest (a.put o.dst (.tuple #[])) w') : wpList P ops Q (o :: rest) a w := by
  refine wpList_plain hg fun K' hK' => ?_
  unfold Oper.wp
  simp [execOp, hop, resolve, invoke, builtin, hm, hx, hrun, Result.andThen]
  exact hK' _ _ hK
/-- Only products with numbers of 64 bits that are not 0. -/
def SumM (M : List Mon) : Prop := ∀ m ∈ M, InI m.2 ∧ m.2 ≠ 0
theorem setBlock_get {w : World} {b : Nat} {o : Obj} (h : b < w.heap.size) : (setBlock w b o).heap[b]? = some o := by
  unfold setBlock
  simp [h]
theorem setBlock_ne {w : World} {b : Nat} {o : Obj} (x : Nat) (h : x ≠ b) : (setBlock w b o).heap[x]? = w.heap[x]? := by
  unfold setBlock
  simp [Ne.symm h]
theorem setBlock_size {w : World} {b : Nat} {o : Obj} : (setBlock w b o).heap.size = w.heap.size := by unfold setBlock; simp
theorem grown_block {w w' : World} {b : Nat} {o : Obj} (h : w.grownBy w' (some b)) : w.grownBy (setBlock w' b o) (some b) :=
  ⟨h.os, h.tape, h.output, by rw [setBlock_size]; exact h.size, fun k hk hne => (setBlock_ne k (fun e => hne (by rw [e]))).trans (h.block k hk hne)⟩
theorem grown_drew {w w' : World} {r : Option Nat} (h : w.grownBy w' r) : w.grownBy w'.drew r := ⟨h.os, h.tape, h.output, h.size, h.block⟩
theorem keyV4 (a b c d : Int) : keyV [a, b, c, d] = .agg #[.int .i64 a, .int .i64 b, .int .i64 c, .int .i64 d] := rfl
set_option maxHeartbeats 1600000 in
theorem putM_any (b : Nat) (M : List Mon) (a0 a1 a2 a3 n : Int) (w : World) (h : PMap w b M) (hs : SumM M) (he : Key4 [a0, a1, a2, a3]) :
    Calls Tryz.prog 155 #[.map (some b), .agg #[.int .i64 a0, .int .i64 a1, .int .i64 a2, .int .i64 a3], .int .i64 n] w fun r w' => r = .returned (.tuple #[]) ∧ w.grownBy w' (some b) ∧ ∃ M', PMap w' b M' ∧ SumM M' ∧ M'.length ≤ M.length + 1 ∧ ∀ e', coef M' e' = if [a0, a1, a2, a3] = e' then wrap64 (coef M [a0, a1, a2, a3] + n) else coef M e' := by
  obtain ⟨W1, hW1⟩ : ∃ W1, w.alloc (.cells #[.int .i64 a0, .int .i64 a1, .int .i64 a2, .int .i64 a3] 171) = W1 := ⟨_, rfl⟩
  have hb1 : Below w.heap.size w W1 := by rw [← hW1]; exact (Below.refl _ _).alloc (Nat.le_refl _) _
  have hs1 : w.heap.size < W1.heap.size := by rw [← hW1]; simp
  have hlt := h.lt
  have h1 : PMap W1.drew b M := (h.keep hb1).block rfl
  have n0 : W1.cell? ⟨w.heap.size, 0, none⟩ = some (.int .i64 a0) := by rw [← hW1]; simp [go_sem]
  have n1 : W1.cell? ⟨w.heap.size, 1, none⟩ = some (.int .i64 a1) := by rw [← hW1]; simp [go_sem]
  have n2 : W1.cell? ⟨w.heap.size, 2, none⟩ = some (.int .i64 a2) := by rw [← hW1]; simp [go_sem]
  have n3 : W1.cell? ⟨w.heap.size, 3, none⟩ = some (.int .i64 a3) := by rw [← hW1]; simp [go_sem]
  have hL := h1.lookup he
  obtain ⟨v0, st, o1, hE, ⟨M1, hP1, hc1⟩, hSt⟩ := h1.store he
  have hltd : b < W1.drew.heap.size := Nat.lt_of_lt_of_le hlt hb1.size
  have hL2 := (hP1 (setBlock W1.drew b o1) (setBlock_get hltd)).lookup he
  rw [hc1] at hL2
  obtain ⟨o2, M2, hS, hP2, hc2, hm2, hl2⟩ := hSt (setBlock W1.drew b o1) (wrap64 (coef M [a0, a1, a2, a3] + n)) (setBlock_get hltd)
  obtain ⟨W3, hW3⟩ : ∃ W3, setBlock (setBlock W1.drew b o1) b o2 = W3 := ⟨_, rfl⟩
  have h3 : PMap W3 b M2 := by rw [← hW3]; exact hP2 _ (setBlock_get (by rw [setBlock_size]; exact hltd))
  have g3 : w.grownBy W3 (some b) := by
    rw [← hW3]
    have g1 : w.grownBy W1.drew (some b) := grown_drew ⟨hb1.os, hb1.tape, hb1.output, hb1.size, fun k hk _ => hb1.block k hk⟩
    exact grown_block (grown_block g1)
  have hne : w.heap.size ≠ b := by omega
  have hblk : W3.heap[w.heap.size]? = W1.heap[w.heap.size]? := by rw [← hW3, setBlock_ne _ hne, setBlock_ne _ hne]; rfl
  have m0 := (World.cell?_of_block (a := ⟨w.heap.size, 0, none⟩) hblk).trans n0
  have m1 := (World.cell?_of_block (a := ⟨w.heap.size, 1, none⟩) hblk).trans n1
  have m2 := (World.cell?_of_block (a := ⟨w.heap.size, 2, none⟩) hblk).trans n2
  have m3 := (World.cell?_of_block (a := ⟨w.heap.size, 3, none⟩) hblk).trans n3
  have hL3 := h3.lookup he
  have e3 : coef M2 [a0, a1, a2, a3] = wrap64 (coef M [a0, a1, a2, a3] + n) := by rw [hc2, if_pos rfl]
  obtain ⟨o4, M4, hD, hP4, hc4, hm4, hl4⟩ := h3.delete he 0
  have HD : Hid (∀ ty, (Builtin.delete_ #[173, 171] ty #[.map (some b), keyV [a0, a1, a2, a3]]).run Tryz.prog W3 = .ok (.tuple #[]) (setBlock W3 b o4)) := fun ty => hD
  have HF4 : Hid (w.grownBy (setBlock W3 b o4) (some b) ∧ PMap (setBlock W3 b o4) b M4) := ⟨grown_block g3, hP4 _ (setBlock_get h3.lt)⟩
  rw [e3] at hL3
  rw [keyV4] at hL hE hL3 hL2
  obtain ⟨c, hcc⟩ : ∃ c, coef M [a0, a1, a2, a3] = c := ⟨_, rfl⟩
  obtain ⟨x, hx⟩ : ∃ x, wrap64 (c + n) = x := ⟨_, rfl⟩
  rw [hcc] at hL hL2 hL3 hS hc2 e3 ⊢
  rw [hx] at hL3 hS hc2 e3 ⊢
  rw [hW3] at hS
  have hxi : InI x := by rw [← hx]; exact wrap_in _
  have HA : Hid (∀ e', coef M2 e' = if [a0, a1, a2, a3] = e' then x else coef M e') := hc2
  have HB : Hid (∀ m ∈ M2, m ∈ M ∨ m = ([a0, a1, a2, a3], x)) := fun m hm => by have := hm2 m hm; rwa [hcc, hx] at this
  have HC4 := (show Hid _ from hc4)
  have HM4 := (show Hid _ from hm4)
  have HSm := (show Hid _ from hs)
  obtain ⟨W2, hW2⟩ : ∃ W2, setBlock W1.drew b o1 = W2 := ⟨_, rfl⟩
  rw [hW2] at hE hS hL2
  have hE' : (Instr.mapEntry 173 (.map (some b)) (.agg #[.int .i64 a0, .int .i64 a1, .int .i64 a2, .int .i64 a3])).run Tryz.prog W1.drew = .ok (.tuple #[v0, .int .i64 st]) W2 := hE
  have hS' : (Instr.entryStore 173 (.map (some b)) (.int .i64 st) (.int .i64 x)).run Tryz.prog W2 = .ok () W3 := hS
  clear hSt hP2 hc2 hm2 hD hP4 hc4 hm4 hs h1 hE hS
  go_enter Tryz.func155, Tryz.ntmps155
  go_wp2_with fail
  (try rw [hW1])
  go_region
  all_goals
    by_cases hx0 : x = 0
    · have hz : (x == 0) = true := by simp [hx0]
      go_wp2_with (at_delete; refine wpList_delete_run _ rfl _ _ _ _ rfl (.map (some b)) (.agg #[.int .i64 a0, .int .i64 a1, .int .i64 a2, .int .i64 a3]) rfl rfl _ (HD.out _) ?_)
      go_end0
      refine ⟨rfl, HF4.out.1, M4, HF4.out.2, fun m hm => ?_, by omega, fun e' => ?_⟩
      · obtain ⟨k1, k2⟩ := HM4.out m hm
        rcases HB.out m k1 with k3 | k3
        · exact HSm.out m k3
        · exact absurd (by rw [k3]) k2
      · rw [HC4.out, HA.out, hx0]
        by_cases he' : [a0, a1, a2, a3] = e'
        · rw [if_pos he', if_pos he']
        · rw [if_neg he', if_neg he']
    · have hz : (x == 0) = false := by simpa using hx0
      go_wp2
      go_end0
      refine ⟨rfl, g3, M2, h3, fun m hm => ?_, hl2, HA.out⟩
      rcases HB.out m hm with k3 | k3
      · exact HSm.out m k3
      · rw [k3]; exact ⟨hxi, hx0⟩
end Go.Proofs.YtkadanagmahhgaaGreatDoor
namespace Go.Proofs.YtkadanagmahhgaaGreatDoor
open Go.ChangeShapes Go.WideShapes Go.ChangeAt Go.RowKit
open Go.MapKept Go.ChangeMaps
set_option linter.unusedVariables false

theorem step_copy4 {P : Program} {ops : Array Oper} {o : Oper} {a : Act} {w : World} {K : Act → World → Prop} {Q : Exit → Act → World → Prop} {E : Prop}
    (hg : o.guard = none) (d x : Operand) (dT sT : TypeId) (hop : o.op = Op.call { callee := Callee.builtin Builtin.copy, args := #[d, x], argTypes := #[dT, sT] })
    (v u : Value) (hd : a.eval d = v) (hx : a.eval x = u) {v' : Value} {w' : World} (hr : (Builtin.copy_ #[dT, sT] o.type #[v, u]).run P w = .ok v' w') (hK : K (a.put o.dst v') w') :
    if Region.wanted o (yielded ops a.tmps) = true then Oper.wp P o a w K Q else E := by
  have hw : Region.wanted o (yielded ops a.tmps) = true := by simp [Region.wanted, hg]
  rw [if_pos hw]
  unfold Oper.wp
  simp [execOp, hop, resolve, invoke, builtin, hd, hx, hr, Result.andThen]
  exact hK
theorem infoInt4 : (Tryz.prog.info? 3).map (·.size) = some 1 := by kernel_rfl
/-- Adding a product, to 64 bits. -/
theorem put_acc (b : Nat) (M : List Mon) (d : List Int → Int) (a0 a1 a2 a3 n : Int) (w : World) (h : PMap w b M) (hs : SumM M) (he : Key4 [a0, a1, a2, a3]) (hd : ∀ e', Like (coef M e') (d e')) :
    Calls Tryz.prog 155 #[.map (some b), .agg #[.int .i64 a0, .int .i64 a1, .int .i64 a2, .int .i64 a3], .int .i64 n] w fun r w' => r = .returned (.tuple #[]) ∧ w.grownBy w' (some b) ∧ ∃ M', PMap w' b M' ∧ SumM M' ∧ M'.length ≤ M.length + 1 ∧ ∀ e', Like (coef M' e') (d e' + if [a0, a1, a2, a3] = e' then n else 0) := by
  refine (putM_any b M a0 a1 a2 a3 n w h hs he).mono ?_
  rintro r w' ⟨h1, h2, M', h3, h4, h5, h6⟩
  refine ⟨h1, h2, M', h3, h4, h5, fun e' => ?_⟩
  rw [h6]
  by_cases h : [a0, a1, a2, a3] = e'
  · rw [if_pos h, if_pos h, ← h]
    exact (like_wrap _).trans ((hd _).add (Like.refl n))
  · rw [if_neg h, if_neg h]
    have := hd e'
    unfold Like at *
    omega
theorem coef_take (p : List Mon) (k : Nat) (h : k < p.length) (e : List Int) : coef (p.take (k + 1)) e = coef (p.take k) e + if (p.getD k ([], 0)).1 = e then (p.getD k ([], 0)).2 else 0 := by
  have e1 : p.getD k ([], 0) = p[k] := by rw [List.getD_eq_getElem?_getD, List.getElem?_eq_getElem h]; rfl
  rw [List.take_succ_eq_append_getElem h, coef_append, coef_cons, coef_nil, e1]
  omega
theorem four' (e : List Int) (h : e.length = 4) : e = [e.getD 0 0, e.getD 1 0, e.getD 2 0, e.getD 3 0] := by
  match e, h with
  | [a, b, c, d], _ => rfl
theorem add_zero_addr (b o j : Nat) : (⟨b, o, none⟩ : Addr).add j = ⟨b, o + j, none⟩ := add_to b o j
theorem below_cells {B g : Nat} {a : World} (hg : B ≤ g) : ∀ (vs : List Value) (o : Nat) (w : World), Below B a w → Below B a (w.setCells g o vs)
  | [], _, _, h => h
  | v :: r, o, w, h => by rw [World.setCells]; exact below_cells hg r (o + 1) _ (h.setCell hg v)
/-- How the four numbers of a key are written. -/
theorem copy_key (w : World) (g bs os : Nat) (c : Nat) (e : List Int) (ty : TypeId) (h4 : e.length = 4) (hs : ∀ i, i < 4 → w.cell? ⟨bs, os + i, none⟩ = some (.int .i64 (e.getD i 0))) (hg : ∀ i, i < 4 → (w.cell? ⟨g, i, none⟩).isSome = true ∧ w.frozen? ⟨g, i, none⟩ = false) :
    (Builtin.copy_ #[62, 62] ty #[.slice (some ⟨g, 0, none⟩) 4 4, .slice (some ⟨bs, os, none⟩) 4 c]).run Tryz.prog w = .ok (goInt 4) (w.setCells g 0 (vals e)) := by
  have hl : (vals e).length = 4 := by rw [vals_len]; exact h4
  have := run_copy_cells (P := Tryz.prog) w 62 62 ty 3 g 0 4 4 ⟨bs, os, none⟩ 4 c (vals e) Tryz.underlying62 infoInt4 (by rw [hl]; rfl) (fun j v hj => by
    rw [add_zero_addr]
    have hlt : j < (vals e).length := by
      rcases Nat.lt_or_ge j (vals e).length with h0 | h0
      · exact h0
      · rw [List.getElem?_eq_none h0] at hj; cases hj
    rw [hs j (by omega), ← hj]
    simp [vals, List.getElem?_map, List.getD_eq_getElem?_getD, List.getElem?_eq_getElem (show j < e.length by omega)]) (fun j hj => by rw [Nat.zero_add]; exact (hg j (by omega)).1) (fun j hj => by rw [Nat.zero_add]; exact (hg j (by omega)).2) (vals_one e)
  rw [hl] at this
  exact this
set_option maxHeartbeats 3200000 in
set_option maxRecDepth 20000 in
theorem times_any (b : Nat) (M : List Mon) (d : List Int → Int) (a : Option Addr) (len cap : Nat) (p : List Mon) (n : Int) (w0 w : World) (hp : PSl w0 a len p) (hw : Below w0.heap.size w0 w) (hb : w0.heap.size ≤ b) (hm : len ≤ 1048576) (h4 : ∀ x ∈ p, Key4 x.1) (h : PMap w b M) (hs : SumM M) (hd : ∀ e', Like (coef M e') (d e')) :
    Calls Tryz.prog 173 #[.map (some b), .slice a len cap, .int .i64 n] w fun r w' => r = .returned (.tuple #[]) ∧ Below w0.heap.size w0 w' ∧ ∃ M', PMap w' b M' ∧ SumM M' ∧ M'.length ≤ M.length + len ∧ ∀ e', Like (coef M' e') (d e' + n * coef p e') := by
  have hll := hp.1
  go_enter Tryz.func173, Tryz.ntmps173
  go_wp2_with fail
  go_loopw [11] (fun i wr => ∃ k : Nat, k ≤ len ∧ i = .int .i64 (k : Int) ∧ Hid (Below w0.heap.size w0 wr ∧ ∃ M', PMap wr b M' ∧ SumM M' ∧ M'.length ≤ M.length + k ∧ ∀ e', Like (coef M' e') (d e' + n * coef (p.take k) e'))) (fun i _ => len - (intOf i).toNat)
  case atStart => exact ⟨0, Nat.zero_le _, rfl, hw, M, h, hs, by omega, fun e' => by rw [List.take_zero, coef_nil]; have := hd e'; rw [Int.mul_zero]; unfold Like at *; omega⟩
  case round =>
    obtain ⟨k, hk, rfl, HR⟩ := hrel
    clear h hs hd hw
    by_cases hlt : k < len
    · obtain ⟨hbr, M1, hP1, hS1, hl1, hc1⟩ := HR.out
      obtain ⟨bp, off, rfl, hbl, hc⟩ := hp.at (by omega)
      obtain ⟨ai, li, ci, c1, hli, hci, hS, c2⟩ := hc k hlt
      have hmem : p.getD k ([], 0) ∈ p := by
        have e1 : p.getD k ([], 0) = p[k]'(by omega) := by rw [List.getD_eq_getElem?_getD, List.getElem?_eq_getElem (by omega)]; rfl
        rw [e1]; exact List.getElem_mem _
      have hk4 := h4 _ hmem
      have hct := fun e' => coef_take p k (by omega) e'
      obtain ⟨m, hmm⟩ : ∃ m, p.getD k ([], 0) = m := ⟨_, rfl⟩
      rw [hmm] at c2 hS hk4
      obtain ⟨e, y⟩ := m
      simp only at c2 hS hk4
      obtain rfl : li = 4 := by have := hS.1; have := hk4.1; omega
      obtain ⟨bs, os, rfl, hbs⟩ := cells_of hS (by omega)
      have hbsl : bs < w0.heap.size := by
        rcases hS.2 with h0 | ⟨b', o', e', hl', _⟩
        · omega
        · cases e'; exact hl'
      have d1 := (hbr.cell (p := ⟨bp, off + k * 2, none⟩) hbl).trans c1
      have d2 := (hbr.cell (p := ⟨bp, off + k * 2 + 1, none⟩) hbl).trans c2
      have hsz := hbr.size
      obtain ⟨W1, hW1⟩ : ∃ W1, wr.alloc (.cells #[.slice (some ⟨bs, os, none⟩) 4 ci, .int .i64 y] 100) = W1 := ⟨_, rfl⟩
      obtain ⟨W2, hW2⟩ : ∃ W2, W1.alloc (.cells #[.int .i64 0, .int .i64 0, .int .i64 0, .int .i64 0] 171) = W2 := ⟨_, rfl⟩
      have hs1 : W1.heap.size = wr.heap.size + 1 := by rw [← hW1]; simp
      have hb1 : Below wr.heap.size wr W1 := by rw [← hW1]; exact (Below.refl _ _).alloc (Nat.le_refl _) _
      have hb12 : Below W1.heap.size W1 W2 := by rw [← hW2]; exact (Below.refl _ _).alloc (Nat.le_refl _) _
      have hb2 : Below wr.heap.size wr W2 := hb1.trans (hb12.mono hb1.size)
      have n0 : W1.cell? ⟨wr.heap.size, 0, none⟩ = some (.slice (some ⟨bs, os, none⟩) 4 ci) := by rw [← hW1]; simp [go_sem]
      have n1 : W1.cell? ⟨wr.heap.size, 1, none⟩ = some (.int .i64 y) := by rw [← hW1]; simp [go_sem]
      have n0' := (hb12.cell (p := ⟨wr.heap.size, 0, none⟩) (by show wr.heap.size < _; omega)).trans n0
      have n1' := (hb12.cell (p := ⟨wr.heap.size, 1, none⟩) (by show wr.heap.size < _; omega)).trans n1
      have hz : ∀ i, i < 4 → W2.cell? ⟨wr.heap.size + 1, i, none⟩ = some (.int .i64 0) ∧ W2.frozen? ⟨wr.heap.size + 1, i, none⟩ = false := fun i hi => by
        rw [← hW2, ← hs1]
        match i, hi with
        | 0, _ => exact ⟨by simp [go_sem], by simp [go_sem]⟩
        | 1, _ => exact ⟨by simp [go_sem], by simp [go_sem]⟩
        | 2, _ => exact ⟨by simp [go_sem], by simp [go_sem]⟩
        | 3, _ => exact ⟨by simp [go_sem], by simp [go_sem]⟩
      have hcp := fun ty => copy_key W2.drew (wr.heap.size + 1) bs os ci e ty hk4.1 (fun i hi => ((hbr.trans (hb2.mono hbr.size)).cell (p := ⟨bs, os + i, none⟩) hbsl).trans (hbs i hi)) (fun i hi => ⟨by show (W2.cell? _).isSome = true; rw [(hz i hi).1]; rfl, (hz i hi).2⟩)
      obtain ⟨W3, hW3⟩ : ∃ W3, W2.drew.setCells (wr.heap.size + 1) 0 (vals e) = W3 := ⟨_, rfl⟩
      rw [hW3] at hcp
      have HCp := (show Hid _ from hcp)
      have hvl : (vals e).length = 4 := by rw [vals_len]; exact hk4.1
      have hin : ∀ i, i < 4 → W3.cell? ⟨wr.heap.size + 1, i, none⟩ = some (.int .i64 (e.getD i 0)) := fun i hi => by
        rw [← hW3]
        have := World.cell?_setCells_in (wr.heap.size + 1) (vals e) 0 W2.drew (fun j hj => by rw [Nat.zero_add]; show (W2.cell? _).isSome = true; rw [(hz j (by omega)).1]; rfl) i (by omega)
        rw [Nat.zero_add] at this
        rw [this]
        simp [vals, List.getD_eq_getElem?_getD, List.getElem?_eq_getElem (show i < e.length by have := hk4.1; omega)]
      have hout : ∀ x o, x ≠ wr.heap.size + 1 → W3.cell? ⟨x, o, none⟩ = W2.cell? ⟨x, o, none⟩ := fun x o hx => by
        rw [← hW3]
        exact (World.cell?_setCells_out (wr.heap.size + 1) (vals e) 0 W2.drew ⟨x, o, none⟩ (fun hb' _ => absurd hb' hx)).trans rfl
      have hb3 : Below wr.heap.size wr W3 := by rw [← hW3]; exact below_cells (by omega) _ _ _ hb2.drew
      have hP3 : PMap W3 b M1 := hP1.keep hb3
      have q1 : W3.cell? ⟨wr.heap.size, 1, none⟩ = some (.int .i64 y) := (hout _ _ (by omega)).trans n1'
      have k0 := hin 0 (by omega)
      have k1 := hin 1 (by omega)
      have k2 := hin 2 (by omega)
      have k3 := hin 3 (by omega)
      have hfour := four' e hk4.1
      have hk4' : Key4 [e.getD 0 0, e.getD 1 0, e.getD 2 0, e.getD 3 0] := by rw [← hfour]; exact hk4
      have HPut := (show Hid _ from put_acc b M1 _ (e.getD 0 0) (e.getD 1 0) (e.getD 2 0) (e.getD 3 0) (wrap64 (n * y)) W3 hP3 hS1 hk4' hc1)
      have HFin : Hid (∀ w' M', W3.grownBy w' (some b) → PMap w' b M' → SumM M' → M'.length ≤ M1.length + 1 → (∀ e', Like (coef M' e') (d e' + n * coef (p.take k) e' + if [e.getD 0 0, e.getD 1 0, e.getD 2 0, e.getD 3 0] = e' then wrap64 (n * y) else 0)) → (Below w0.heap.size w0 w' ∧ ∃ M', PMap w' b M' ∧ SumM M' ∧ M'.length ≤ M.length + (k + 1) ∧ ∀ e', Like (coef M' e') (d e' + n * coef (p.take (k + 1)) e'))) := fun w' M' g' p' s' l' c' => by
        have hB3 := hbr.trans (hb3.mono hbr.size)
        refine ⟨hB3.grown g' hB3.size (fun r hr => by cases hr; exact hb), M', p', s', by omega, fun e' => ?_⟩
        have := c' e'
        rw [hct e', hmm]
        rw [← hfour] at this
        simp only
        refine this.trans ?_
        by_cases he' : e = e'
        · rw [if_pos he', if_pos he']
          have hm2 := like_wrap (n * y)
          have : n * (coef (p.take k) e' + y) = n * coef (p.take k) e' + n * y := Int.mul_add _ _ _
          unfold Like at *
          omega
        · rw [if_neg he', if_neg he', Int.add_zero, Int.add_zero]; exact Like.refl _
      have hik : (k : Int) < len := by omega
      have hbne : ¬ bp = wr.heap.size := by omega
      generalize e.getD 0 0 = e0 at k0 HPut HFin
      generalize e.getD 1 0 = e1 at k1 HPut HFin
      generalize e.getD 2 0 = e2 at k2 HPut HFin
      generalize e.getD 3 0 = e3 at k3 HPut HFin
      obtain ⟨ny, hny⟩ : ∃ ny, wrap64 (n * y) = ny := ⟨_, rfl⟩
      rw [hny] at HPut HFin
      clear hcp hin hout hz hfour hk4' hk4 hct hmm hbs hS hP1 hS1 hc1 c1 c2 HR n0 n1 hc hb1 hb12 hb2 hb3 hP3
      go_wp2_with fail
      (try rw [hW1])
      (try rw [hs1])
      (try rw [hW2])
      go_region_law (refine step_copy4 rfl _ _ _ _ rfl (.slice (some ⟨wr.heap.size + 1, 0, none⟩) 4 4) (.slice (some ⟨bs, os, none⟩) 4 ci) rfl rfl (HCp.out _) ?_)
      all_goals
        go_wp2_with fail
        refine Calls.mono HPut.out ?_
        rintro r w5 ⟨rfl, g5, M5, p5, s5, l5, c5⟩
        have HR5 := (show Hid _ from HFin.out w5 M5 g5 p5 s5 l5 c5)
        clear g5 p5 s5 c5 HFin HPut
        go_wp2
        go_roundw
        case rel => exact ⟨k + 1, by omega, by go_num, HR5⟩
        case measure => simp [intOf]; omega
    · obtain rfl : k = len := by omega
      obtain ⟨hbr, M1, hP1, hS1, hl1, hc1⟩ := HR.out
      go_wp2
      go_end0
      exact ⟨rfl, hbr, M1, hP1, hS1, hl1, fun e' => by have := hc1 e'; rwa [List.take_of_length_le (by omega)] at this⟩
end Go.Proofs.YtkadanagmahhgaaGreatDoor
