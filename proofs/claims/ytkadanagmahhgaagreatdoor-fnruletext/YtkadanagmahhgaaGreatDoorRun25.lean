/-
  PROVED HERE: the model's adding of a product to a sum (l4Put), both its walks: put_any4. No other condition. sums and products of sums of products, plainly: that they are told by their numbers. No condition. what the model's GoodPoly answers, at every list of products. No other condition. what the model's adding of two sums of products, term by term, leaves. No other condition.
-/
import Derived.Test.YtkadanagmahhgaaGreatDoorRun24
import Derived.Test.YtkadanagmahhgaaGreatDoorRun7
namespace Go.Proofs.YtkadanagmahhgaaGreatDoor
open Go.ChangeShapes Go.WideShapes Go.ChangeAt Go.RowKit
set_option linter.unusedVariables false

theorem drop_mon (p : List Mon) (k : Nat) (h : k < p.length) : p.drop k = p.getD k ([], 0) :: p.drop (k + 1) := by
  rw [List.drop_eq_getElem_cons h]
  have e : p.getD k ([], 0) = p[k] := by rw [List.getD_eq_getElem?_getD, List.getElem?_eq_getElem h]; rfl
  rw [e]
theorem two_newV (w : World) (x y : Value) (t : TypeId) : ∀ j u, [x, y][j]? = some u → (w.alloc (.cells #[x, y] t)).cell? ((⟨w.heap.size, 0, none⟩ : Addr).add j) = some u := by
  intro j u hj
  match j, hj with
  | 0, hj => simp at hj; subst hj; simp [Addr.add]
  | 1, hj => simp at hj; subst hj; simp [Addr.add]
theorem two_oneV {x : Value} (hx : x.oneCell' = true) (n : Int) : ∀ u ∈ [x, Value.int .i64 n], u.oneCell' = true := fun u hu => by
  rcases List.mem_cons.1 hu with rfl | hu
  · exact hx
  · rw [List.mem_singleton.1 hu]; rfl
theorem PSl.powV {w : World} {ai : Option Addr} {li ci : Nat} {e : List Int} (h : Sl w ai li e) (h0 : 0 < li) (hc : li ≤ ci) (hm : li ≤ 1048576) (ok : Nat → Prop) (hok : ∀ b, b < w.heap.size → ok b) : PowV w ok (.slice ai li ci) e := by
  obtain ⟨h1, h2⟩ := h
  rcases h2 with h2 | ⟨b, off, rfl, hb, hcell⟩
  · omega
  · exact ⟨b, off, li, ci, rfl, hc, hm, hok b hb, hb, h1, hcell⟩
theorem PowV.sl {w : World} {ok : Nat → Prop} {v : Value} {e : List Int} (h : PowV w ok v e) : ∃ a l c, v = .slice a l c ∧ Sl w a l e ∧ l ≤ 1048576 := by
  obtain ⟨b, off, l, c, rfl, _, h3, _, h5, h6, h7⟩ := h
  exact ⟨_, _, _, rfl, ⟨h6, .inr ⟨b, off, rfl, h5, h7⟩⟩, h3⟩
theorem PowV.imp {w : World} {ok ok' : Nat → Prop} {v : Value} {e : List Int} (h : PowV w ok v e) (hk : ∀ b, ok b → ok' b) : PowV w ok' v e := by
  obtain ⟨b, off, l, c, h1, h2, h3, h4, h5, h6, h7⟩ := h
  exact ⟨b, off, l, c, h1, h2, h3, hk b h4, h5, h6, h7⟩
theorem own_lt {w : World} {base size len : Nat} {t : TypeId} {v : Value} {l : List Value} (h : w.ownsRow base t size v len l) : ∀ r, v.ownBlock = some r → r < w.heap.size := by
  intro r hr
  rcases h.2 with ⟨rfl, _⟩ | ⟨g, cap, cur, rfl, hb, hg, _⟩
  · simp [Value.ownBlock] at hr
  · have : g = r := by simpa [Value.ownBlock] using hr
    subst this
    exact (Array.getElem?_eq_some_iff.1 hg).1
/-- What stands behind one product of the first walk. -/
def PutRel (w : World) (p : List Mon) (e : List Int) (n0 : Int) (k : Nat) (y : Int) (b : Bool) (o : Value) (vs : List (Value × Int)) (q : List Mon) (wr : World) : Prop :=
  PRow wr w.heap.size (fun _ => True) o vs q ∧ q.length ≤ k + 1 ∧ (b = false → q.length ≤ k) ∧ Below w.heap.size w wr ∧ q ++ putO e (p.drop k) b y = putO e p false n0
/-- An append to the first walk's row: what is owed and what is got. -/
theorem put_push {wr w4 w5 : World} {o v' u : Value} {vs : List (Value × Int)} {q : List Mon} {e : List Int} {n : Int} {base : Nat} (h : PRow wr base (fun _ => True) o vs q) (hb : Below wr.heap.size wr w4) (hg : w4.grownBy w5 o.ownBlock) (hown : w5.ownsRow base 100 2 v' (q.length + 1) (flatV vs ++ [u, .int .i64 n])) (hat : v'.ownBlock = o.ownBlock ∨ v'.ownBlock = some w4.heap.size) (hu : PowV w4 (fun b => o.ownBlock ≠ some b) u e) :
    PRow w5 base (fun _ => True) v' (vs ++ [(u, n)]) (q ++ [(e, n)]) := h.push hb hg hown hat (hu.imp fun b hb => ⟨trivial, hb⟩)
/-- An append of a product behind a copy of its powers. -/
theorem put_more {w wr w3 : World} {o u : Value} {vs : List (Value × Int)} {q : List Mon} {e : List Int} (x : Int) (h : PRow wr w.heap.size (fun _ => True) o vs q) (hB : Below w.heap.size w wr) (hb : Below wr.heap.size wr w3) (hu : PowV w3 (fun b => o.ownBlock ≠ some b) u e) :
    ∀ Wa, w3.alloc (.cells #[u, .int .i64 x] 100) = Wa → Hid (Wa.ownsRow w.heap.size 100 2 o q.length (flatV vs)) ∧ Hid (∀ j z, [u, Value.int .i64 x][j]? = some z → Wa.cell? ((⟨w3.heap.size, 0, none⟩ : Addr).add j) = some z) ∧ w.heap.size ≤ Wa.heap.size ∧ Hid (Below wr.heap.size wr Wa) ∧
      Hid (∀ v5 w5, w5.ownsRow w.heap.size 100 2 v5 (q.length + 1) (flatV vs ++ [u, .int .i64 x]) → Wa.grownBy w5 o.ownBlock → (v5.ownBlock = o.ownBlock ∨ v5.ownBlock = some Wa.heap.size) → PRow w5 w.heap.size (fun _ => True) v5 (vs ++ [(u, x)]) (q ++ [(e, x)]) ∧ Below w.heap.size w w5) := by
  intro Wa hWa
  have hba : Below w3.heap.size w3 Wa := by rw [← hWa]; exact (Below.refl _ _).alloc (Nat.le_refl _) _
  have hbwa : Below wr.heap.size wr Wa := hb.trans (hba.mono hb.size)
  have hBa : Below w.heap.size w Wa := hB.trans (hbwa.mono hB.size)
  have HA := h.keep hbwa
  exact ⟨HA.1, by rw [← hWa]; exact two_newV w3 _ _ _, hBa.size, hbwa, fun v5 w5 h5 g5 a5 => ⟨put_push h hbwa g5 h5 a5 (hu.keep hba), hBa.grown g5 hBa.size (own_ge HA.1)⟩⟩
/-- The same, for any demand on the blocks. -/
theorem put_more' {w wr w3 : World} {ok : Nat → Prop} {o u : Value} {vs : List (Value × Int)} {q : List Mon} {e : List Int} (x : Int) (h : PRow wr w.heap.size ok o vs q) (hB : Below w.heap.size w wr) (hb : Below wr.heap.size wr w3) (hu : PowV w3 (fun b => ok b ∧ o.ownBlock ≠ some b) u e) :
    ∀ Wa, w3.alloc (.cells #[u, .int .i64 x] 100) = Wa → Hid (Wa.ownsRow w.heap.size 100 2 o q.length (flatV vs)) ∧ Hid (∀ j z, [u, Value.int .i64 x][j]? = some z → Wa.cell? ((⟨w3.heap.size, 0, none⟩ : Addr).add j) = some z) ∧ w.heap.size ≤ Wa.heap.size ∧
      Hid (∀ v5 w5, w5.ownsRow w.heap.size 100 2 v5 (q.length + 1) (flatV vs ++ [u, .int .i64 x]) → Wa.grownBy w5 o.ownBlock → (v5.ownBlock = o.ownBlock ∨ v5.ownBlock = some Wa.heap.size) → PRow w5 w.heap.size ok v5 (vs ++ [(u, x)]) (q ++ [(e, x)]) ∧ Below w.heap.size w w5) := by
  intro Wa hWa
  have hba : Below w3.heap.size w3 Wa := by rw [← hWa]; exact (Below.refl _ _).alloc (Nat.le_refl _) _
  have hbwa : Below wr.heap.size wr Wa := hb.trans (hba.mono hb.size)
  have hBa : Below w.heap.size w Wa := hB.trans (hbwa.mono hB.size)
  have HA := h.keep hbwa
  exact ⟨HA.1, by rw [← hWa]; exact two_newV w3 _ _ _, hBa.size, fun v5 w5 h5 g5 a5 => ⟨h.push hbwa g5 h5 a5 (hu.keep hba), hBa.grown g5 hBa.size (own_ge HA.1)⟩⟩
theorem putO_len {k : Nat} {e : List Int} (he : e.length = k) : ∀ (p : List Mon) (b : Bool) (n : Int), (∀ x ∈ p, x.1.length = k) → ∀ x ∈ putO e p b n, x.1.length = k
  | [], b, n, _, x, hx => by
    unfold putO at hx
    split at hx
    · simp at hx
    · rw [List.mem_singleton.1 hx]; exact he
  | m :: r, b, n, h, x, hx => by
    have hr : ∀ x ∈ r, x.1.length = k := fun x hx => h x (List.mem_cons_of_mem _ hx)
    have hm := h m (List.mem_cons_self ..)
    unfold putO at hx
    split at hx
    · rcases List.mem_cons.1 hx with rfl | hx
      · exact he
      · exact putO_len he r _ _ hr x hx
    · split at hx
      · rcases List.mem_cons.1 hx with rfl | hx
        · exact he
        · rcases List.mem_cons.1 hx with rfl | hx
          · exact hm
          · exact putO_len he r _ _ hr x hx
      · rcases List.mem_cons.1 hx with rfl | hx
        · exact hm
        · exact putO_len he r _ _ hr x hx
theorem putO_le {e : List Int} : ∀ (p : List Mon) (b : Bool) (n : Int), (putO e p b n).length ≤ p.length + 1 - (if b = true then 1 else 0)
  | [], b, n => by unfold putO; cases b <;> simp
  | m :: r, b, n => by
    unfold putO
    have h1 := putO_le (e := e) r true
    have h2 := putO_le (e := e) r b n
    split
    · have := h1 (wrap64 (n + m.2)); simp at this ⊢; cases b <;> simp <;> omega
    · split
      · rename_i h; obtain ⟨_, rfl⟩ := h; have := h1 n; simp at this ⊢; omega
      · cases b <;> simp at h2 ⊢ <;> omega
theorem PRow.base {w : World} {base base' : Nat} {ok ok' : Nat → Prop} {v : Value} {vs : List (Value × Int)} {q : List Mon} (h : PRow w base ok v vs q) (hb : base' ≤ base) (hk : ∀ b, ok b → ok' b) : PRow w base' ok' v vs q :=
  ⟨own_base h.1 hb, h.2.1, fun i hi => ⟨(h.2.2 i hi).1.imp fun b hb => ⟨hk b hb.1, hb.2⟩, (h.2.2 i hi).2⟩⟩
theorem filter_take (Q : List Mon) (k : Nat) (m : Mon) (hk : k < Q.length) (hm : Q.getD k ([], 0) = m) : (Q.take (k + 1)).filter (fun m => m.2 != 0) = (Q.take k).filter (fun m => m.2 != 0) ++ if m.2 = 0 then [] else [m] := by
  have : Q[k]? = some m := by rw [List.getElem?_eq_getElem hk, ← hm, List.getD_eq_getElem?_getD, List.getElem?_eq_getElem hk]; rfl
  rw [List.take_add_one, this, List.filter_append]
  congr 1
  by_cases h0 : m.2 = 0 <;> simp [h0]
set_option maxHeartbeats 4000000 in
set_option maxRecDepth 20000 in
theorem put_fz (w : World) (a : Option Addr) (len cap : Nat) (p : List Mon) (h : PSl w a len p) (hlen : len ≤ 100000) (hp4 : ∀ x ∈ p, x.1.length = 4) (e : List Int) (he : e.length = 4) (vp : Value) (hv : PowV w (fun _ => True) vp e) (n : Int) :
    Calls Tryz.prog 127 #[.slice a len cap, vp, .int .i64 n] w fun r w' => ∃ v vs, r = .returned v ∧ PRow w' w.heap.size (fun b => w.heap.size ≤ b) v vs (putP p e n) ∧ Below w.heap.size w w' ∧ FZs w' vs := by
  obtain ⟨i0, hi, hz0, hz1, hz2⟩ := info_parts infoMono
  have hll := h.1
  obtain ⟨pb, po, pl, pc, rfl, hv2, hv3, -, hv5, hv6, hv7⟩ := id hv
  obtain rfl : pl = 4 := by omega
  have HV : Hid (∀ W, Below w.heap.size w W → PowV W (fun _ => True) (.slice (some ⟨pb, po, none⟩) 4 pc) e) := fun W hb => hv.keep hb
  have HP : Hid (∀ W, Below w.heap.size w W → PSl W a len p) := fun W hb => h.keep hb
  have H4 : Hid (∀ i, i < len → (p.getD i ([], 0)).1.length = 4) := fun i hi => by
    have : p.getD i ([], 0) = p[i] := by rw [List.getD_eq_getElem?_getD, List.getElem?_eq_getElem (by omega)]; rfl
    rw [this]; exact hp4 _ (List.getElem_mem _)
  have HW : Hid (PSl w a len p) := h
  have HQ4 : Hid (∀ x ∈ putO e p false n, x.1.length = 4) := putO_len he p false n hp4
  have HQl : Hid ((putO e p false n).length ≤ len + 1) := by have := putO_le (e := e) p false n; simp at this; show _ ≤ _; omega
  clear hv hv2 hv3 hv5 hv7 hp4 h
  go_enter Tryz.func127, Tryz.ntmps127
  go_wp2_with fail
  go_loopw [2, 7, 8, 17] (fun y o b i wr => ∃ (k : Nat) (y' : Int) (b' : Bool) (vs : List (Value × Int)) (q : List Mon), k ≤ len ∧ i = .int .i64 (k : Int) ∧ y = .int .i64 y' ∧ b = .bool b' ∧ Hid (PutRel w p e n k y' b' o vs q wr)) (fun _ _ _ i _ => len - (intOf i).toNat)
  case atStart => exact ⟨0, n, false, [], [], Nat.zero_le _, rfl, rfl, rfl, PRow.nil _ _ _, by simp, by simp, Below.refl _ _, rfl⟩
  case round =>
    obtain ⟨k, y, b, vs, q, hk, rfl, rfl, rfl, HR⟩ := hrel
    by_cases hlt : k < len
    · have hBr := HR.out.2.2.2.1
      obtain ⟨bb, off, rfl, hbl, hc⟩ := (HP.out wr hBr).at (by omega)
      obtain ⟨ai, li, ci, c1, hli, hci, hS, c2⟩ := hc k hlt
      obtain ⟨b0, off0, e0, hbl0, hc0⟩ := HW.out.at (by omega)
      cases e0
      have hm4 := H4.out k hlt
      have hlen4 : li = 4 := by have := hS.1; omega
      subst hlen4
      obtain ⟨N, hN⟩ : ∃ N, (p.getD k ([], 0)).2 = N := ⟨_, rfl⟩
      obtain ⟨m, hm⟩ : ∃ m, (p.getD k ([], 0)).1 = m := ⟨_, rfl⟩
      rw [hN] at c2
      rw [hm] at hS hm4
      have hdr := drop_mon p k (by omega)
      have hcell : p.getD k ([], 0) = (m, N) := Prod.ext hm hN
      rw [hcell] at hdr
      -- the block of the product's powers lies below the call
      have hai : ∃ ba oa, ai = some ⟨ba, oa, none⟩ ∧ ba < w.heap.size := by
        obtain ⟨ai', li', ci', d1, _, _, dS, _⟩ := hc0 k hlt
        have d1' := (hBr.cell (p := ⟨bb, off + k * 2, none⟩) hbl0).trans d1
        rw [c1] at d1'
        obtain ⟨rfl, rfl, rfl⟩ : ai = ai' ∧ 4 = li' ∧ ci = ci' := by simpa using d1'
        rcases dS.2 with d0 | ⟨ba, oa, rfl, hba, _⟩
        · omega
        · exact ⟨ba, oa, rfl, hba⟩
      obtain ⟨ba, oa, rfl, hba⟩ := hai
      have i1 : (k : Int) < len := by omega
      obtain ⟨W1, hW1⟩ : ∃ W1, wr.alloc (.cells #[.slice (some ⟨ba, oa, none⟩) 4 ci, .int .i64 N] 100) = W1 := ⟨_, rfl⟩
      have n0 : W1.cell? ⟨wr.heap.size, 0, none⟩ = some (.slice (some ⟨ba, oa, none⟩) 4 ci) := by rw [← hW1]; simp [go_sem]
      have n1 : W1.cell? ⟨wr.heap.size, 1, none⟩ = some (.int .i64 N) := by rw [← hW1]; simp [go_sem]
      have hb1 : Below wr.heap.size wr W1 := by rw [← hW1]; exact (Below.refl _ _).alloc (Nat.le_refl _) _
      have hsz1 : wr.heap.size < W1.heap.size := by rw [← hW1]; simp
      have hB1 : Below w.heap.size w W1 := hBr.trans (hb1.mono hBr.size)
      obtain ⟨ap, lp, cp, ep, hSp, _⟩ := (HV.out W1 hB1).sl
      cases ep
      have HC := (show Hid _ from cmp_any _ _ 4 4 pc ci e m W1 hSp (hS.keep hb1) (Nat.le_refl _) (by omega))
      have hcr := cmp_range e m
      obtain ⟨c, hcv⟩ : ∃ c, cmpL e m = c := ⟨_, rfl⟩
      rw [hcv] at HC hcr
      have HMV : Hid (PowV wr (fun b => u7.ownBlock ≠ some b) (.slice (some ⟨ba, oa, none⟩) 4 ci) m) := by
        rcases hS.2 with h0 | ⟨b1, o1, e1, hb1', hcell1⟩
        · omega
        · cases e1
          exact ⟨ba, oa, 4, ci, rfl, hci, by omega, fun e => by have := own_ge HR.out.1.1 ba e; omega, hb1', hm4, hcell1⟩
      clear hSp hc hc0 hS hbl0
      go_wp2_with fail
      (try rw [hW1])
      refine Calls.mono HC.out ?_
      rintro r w2 ⟨rfl, nd, rfl⟩
      obtain ⟨W2, hW2⟩ : ∃ W2, W1.drewN nd = W2 := ⟨_, rfl⟩
      have hb12 : Below W1.heap.size W1 W2 := by rw [← hW2]; exact Go.below_drewN (Below.refl _ _) nd
      have m0 := (hb12.cell (p := ⟨wr.heap.size, 0, none⟩) hsz1).trans n0
      have m1 := (hb12.cell (p := ⟨wr.heap.size, 1, none⟩) hsz1).trans n1
      have hb2 : Below wr.heap.size wr W2 := hb1.trans (hb12.mono hb1.size)
      have hB2 : Below w.heap.size w W2 := hBr.trans (hb2.mono hBr.size)
      rw [hW2]
      have hq1 := HR.out.2.1
      have hsz2 := hb2.size
      have hszw := hB2.size
      have hb12s := hb12.size
      clear hb1 hB1 hb12 n0 n1 hW1 hW2
      have HU : Hid (PowV W2 (fun _ => True) (.slice (some ⟨pb, po, none⟩) 4 pc) e) := HV.out W2 hB2
      have HO := (show Hid _ from ownP_any W2 _ _ e HU.out (by omega))
      by_cases hz : c = 0
      · have heq : putO e (p.drop k) b y = (e, wrap64 (y + N)) :: putO e (p.drop (k + 1)) true (wrap64 (y + N)) := by
          rw [hdr, putO, hcv, if_pos hz]
        subst hz
        go_wp2_with fail
        refine Calls.mono HO.out ?_
        rintro r w3 ⟨u, rfl, hu, hb3⟩
        obtain ⟨gu, ou, lu, cu, rfl, hu2, hu3, hu4, hu5, hu6, hu7⟩ := id hu
        obtain rfl : lu = 4 := by omega
        have hok : PowV w3 (fun b => u7.ownBlock ≠ some b) (.slice (some ⟨gu, ou, none⟩) 4 cu) e := hu.imp fun b hb' e' => by have := own_lt HR.out.1.1 b e'; omega
        obtain ⟨Wa, hWa⟩ : ∃ Wa, w3.alloc (.cells #[.slice (some ⟨gu, ou, none⟩) 4 cu, .int .i64 (wrap64 (y + N))] 100) = Wa := ⟨_, rfl⟩
        obtain ⟨HA, HN, hsa, -, HF⟩ := put_more (wrap64 (y + N)) HR.out.1 hBr (hb2.trans (hb3.mono hb2.size)) hok Wa hWa
        have HF2 : Hid (∀ v5 w5, w5.ownsRow w.heap.size 100 2 v5 (q.length + 1) (flatV vs ++ [.slice (some ⟨gu, ou, none⟩) 4 cu, .int .i64 (wrap64 (y + N))]) → Wa.grownBy w5 u7.ownBlock → (v5.ownBlock = u7.ownBlock ∨ v5.ownBlock = some Wa.heap.size) → Hid (PutRel w p e n (k + 1) (wrap64 (y + N)) true v5 (vs ++ [(.slice (some ⟨gu, ou, none⟩) 4 cu, wrap64 (y + N))]) (q ++ [(e, wrap64 (y + N))]) w5)) := fun v5 w5 h5 g5 a5 =>
          ⟨(HF.out v5 w5 h5 g5 a5).1, by simp; omega, fun h => by simp at h, (HF.out v5 w5 h5 g5 a5).2, by rw [← HR.out.2.2.2.2, heq]; simp⟩
        clear HF hok hu hu4 hu5 hu7 hb3 hb2 hB2 hBr heq hdr HO HU HC HMV
        go_wp2_with ((try rw [hWa]); at_builtin; refine wpList_append_own_at _ rfl _ _ 82 rfl w.heap.size 100 i0 (.agg #[.slice none 0 0, .int .i64 0]) 2 32 Tryz.underlying82 hi hz0 hz1 hz2 rfl (by decide) u7 q.length (flatV vs) rfl HA.out ⟨w3.heap.size, 0, none⟩ 1 1 [.slice (some ⟨gu, ou, none⟩) 4 cu, .int .i64 (wrap64 (y + N))] rfl (by simp) HN.out (two_oneV rfl _) (by unfold maxLen; omega) (by omega) hsa ?_; intro v5 w5 hown5 hg5 _ hat5)
        have H5 := HF2.out v5 w5 hown5 hg5 hat5
        clear hown5 hg5 hat5
        go_roundw
        case rel => exact ⟨k + 1, _, _, _, _, by omega, by go_num, rfl, rfl, H5⟩
        case measure => simp [intOf]; omega
      by_cases hp : c = 1 ∧ b = false
      · obtain ⟨rfl, rfl⟩ := hp
        have heq : putO e (p.drop k) false y = (e, y) :: (m, N) :: putO e (p.drop (k + 1)) true y := by
          rw [hdr, putO, hcv, if_neg hz, if_pos ⟨by omega, rfl⟩]
        have hq0 := HR.out.2.2.1 rfl
        go_wp2_with fail
        refine Calls.mono HO.out ?_
        rintro r w3 ⟨u, rfl, hu, hb3⟩
        obtain ⟨gu, ou, lu, cu, rfl, hu2, hu3, hu4, hu5, hu6, hu7⟩ := id hu
        obtain rfl : lu = 4 := by omega
        have hok : PowV w3 (fun b => u7.ownBlock ≠ some b) (.slice (some ⟨gu, ou, none⟩) 4 cu) e := hu.imp fun b hb' e' => by have := own_lt HR.out.1.1 b e'; omega
        obtain ⟨Wa, hWa⟩ : ∃ Wa, w3.alloc (.cells #[.slice (some ⟨gu, ou, none⟩) 4 cu, .int .i64 y] 100) = Wa := ⟨_, rfl⟩
        obtain ⟨HA, HN, hsa, hbwa, HF⟩ := put_more y HR.out.1 hBr (hb2.trans (hb3.mono hb2.size)) hok Wa hWa
        have hw1 : wr.heap.size < W2.heap.size := by have := hb12s; omega
        have hb3a : Below W2.heap.size W2 Wa := by rw [← hWa]; exact hb3.alloc hb3.size _
        have HCell : Hid (∀ w5, Wa.grownBy w5 u7.ownBlock → w5.cell? ⟨wr.heap.size, 0, none⟩ = some (.slice (some ⟨ba, oa, none⟩) 4 ci) ∧ w5.cell? ⟨wr.heap.size, 1, none⟩ = some (.int .i64 N)) := fun w5 g5 => by
          have hne : ∀ (b' : Nat), b' = wr.heap.size → u7.ownBlock ≠ some b' := fun b' e1 e2 => by have := own_lt HR.out.1.1 b' e2; omega
          have hblk : w5.heap[wr.heap.size]? = Wa.heap[wr.heap.size]? := g5.block _ (by have := hb3a.size; omega) (fun e' => hne _ rfl e'.symm)
          exact ⟨(World.cell?_of_block (a := ⟨wr.heap.size, 0, none⟩) hblk).trans ((hb3a.cell (p := ⟨wr.heap.size, 0, none⟩) hw1).trans m0), (World.cell?_of_block (a := ⟨wr.heap.size, 1, none⟩) hblk).trans ((hb3a.cell (p := ⟨wr.heap.size, 1, none⟩) hw1).trans m1)⟩
        have HM5 : Hid (∀ w5, Wa.grownBy w5 u7.ownBlock → ∀ v5 : Value, (∀ r, v5.ownBlock = some r → w.heap.size ≤ r) → PowV w5 (fun b => v5.ownBlock ≠ some b) (.slice (some ⟨ba, oa, none⟩) 4 ci) m) := fun w5 g5 v5 h5 => by
          obtain ⟨b1, o1, l1, c1', d1, d2, d3, d4, d5, d6, d7⟩ := HMV.out.keep hbwa.out
          cases d1
          exact ⟨ba, oa, 4, ci, rfl, d2, d3, fun e' => by have := h5 _ e'; omega, Nat.lt_of_lt_of_le d5 g5.size, d6, fun i hi => (World.cell?_of_block (a := ⟨ba, oa + i, none⟩) (g5.block _ d5 (fun e' => d4 e'.symm))).trans (d7 i hi)⟩
        clear hok hu hu4 hu5 hu7 hb3 hb2 hB2 hBr hdr HO HU HC HMV hb3a hbwa
        go_wp2_with (first
          | ((try rw [hWa]); at_builtin; refine wpList_append_own_at _ rfl _ _ 82 rfl w.heap.size 100 i0 (.agg #[.slice none 0 0, .int .i64 0]) 2 32 Tryz.underlying82 hi hz0 hz1 hz2 rfl (by decide) u7 q.length (flatV vs) rfl HA.out ⟨w3.heap.size, 0, none⟩ 1 1 [.slice (some ⟨gu, ou, none⟩) 4 cu, .int .i64 y] rfl (by simp) HN.out (two_oneV rfl _) (by unfold maxLen; omega) (by omega) hsa ?_; intro v5 w5 hown5 hg5 _ hat5; obtain ⟨hP5, hB5⟩ := HF.out v5 w5 hown5 hg5 hat5; obtain ⟨s0, s1⟩ := HCell.out w5 hg5; have hm5 := HM5.out w5 hg5 v5 (own_ge hP5.1); obtain ⟨Wb, hWb⟩ : ∃ Wb, w5.alloc (.cells #[.slice (some ⟨ba, oa, none⟩) 4 ci, .int .i64 N] 100) = Wb := ⟨_, rfl⟩; obtain ⟨HA2, HN2, hsa2, -, HF3⟩ := put_more N hP5 hB5 (Below.refl _ _) hm5 Wb hWb; have hq5 : (q ++ [(e, y)]).length = q.length + 1 := by simp
             clear hown5 hg5 hat5 hP5 hB5 hm5 HF HCell HM5 HA HN hWa)
          | ((try rw [hWb]); at_builtin; refine wpList_append_own_at _ rfl _ _ 82 rfl w.heap.size 100 i0 (.agg #[.slice none 0 0, .int .i64 0]) 2 32 Tryz.underlying82 hi hz0 hz1 hz2 rfl (by decide) v5 (q ++ [(e, y)]).length _ rfl HA2.out ⟨w5.heap.size, 0, none⟩ 1 1 [.slice (some ⟨ba, oa, none⟩) 4 ci, .int .i64 N] rfl (by simp) HN2.out (two_oneV rfl _) (by unfold maxLen; omega) (by omega) hsa2 ?_; intro v6 w6 hown6 hg6 _ hat6))
        obtain ⟨hP6, hB6⟩ := HF3.out v6 w6 hown6 hg6 hat6
        have H6 : Hid (PutRel w p e n (k + 1) y true v6 _ _ w6) := ⟨hP6, by simp; omega, fun h => by simp at h, hB6, by rw [← HR.out.2.2.2.2, heq]; simp⟩
        clear hown6 hg6 hat6 hP6 hB6
        go_roundw
        case rel => exact ⟨k + 1, y, _, _, _, by omega, by go_num, rfl, rfl, H6⟩
        case measure => simp [intOf]; omega
      · have heq : putO e (p.drop k) b y = (m, N) :: putO e (p.drop (k + 1)) b y := by
          rw [hdr, putO, hcv, if_neg hz, if_neg (fun h => hp ⟨by omega, h.2⟩)]
        obtain ⟨Wa, hWa⟩ : ∃ Wa, W2.alloc (.cells #[.slice (some ⟨ba, oa, none⟩) 4 ci, .int .i64 N] 100) = Wa := ⟨_, rfl⟩
        have hba2 : Below W2.heap.size W2 Wa := by rw [← hWa]; exact (Below.refl _ _).alloc (Nat.le_refl _) _
        have hbwa : Below wr.heap.size wr Wa := hb2.trans (hba2.mono hb2.size)
        have hBa : Below w.heap.size w Wa := hBr.trans (hbwa.mono hBr.size)
        have HA : Hid (PRow Wa w.heap.size (fun _ => True) u7 vs q) := HR.out.1.keep hbwa
        have HN : Hid (∀ j u, [Value.slice (some ⟨ba, oa, none⟩) 4 ci, .int .i64 N][j]? = some u → Wa.cell? ((⟨W2.heap.size, 0, none⟩ : Addr).add j) = some u) := by rw [← hWa]; exact two_newV W2 _ _ _
        have hsa := hBa.size
        have fin : ∀ v5 w5, w5.ownsRow w.heap.size 100 2 v5 (q.length + 1) (flatV vs ++ [.slice (some ⟨ba, oa, none⟩) 4 ci, .int .i64 N]) → Wa.grownBy w5 u7.ownBlock → (v5.ownBlock = u7.ownBlock ∨ v5.ownBlock = some Wa.heap.size) → Hid (PutRel w p e n (k + 1) y b v5 (vs ++ [(.slice (some ⟨ba, oa, none⟩) 4 ci, N)]) (q ++ [(m, N)]) w5) := fun v5 w5 h5 g5 a5 =>
          ⟨put_push HR.out.1 hbwa g5 h5 a5 (HMV.out.keep hbwa), by simp; omega, fun hb' => by have := HR.out.2.2.1 hb'; simp; omega, hBa.grown g5 hBa.size (own_ge HA.out.1), by rw [← HR.out.2.2.2.2, heq]; simp⟩
        have FIN := (show Hid _ from fin)
        have hc2 : ¬ (0 < c ∧ b = false) := fun h => hp ⟨by omega, h.2⟩
        clear fin hba2 hbwa hBa hb2 hB2 hBr heq hdr
        have hcc : c = -1 ∨ (c = 1 ∧ b = true) := by
          rcases hcr with h | h | h
          · exact .inl h
          · exact absurd h hz
          · exact .inr ⟨h, by cases b; exact absurd ⟨h, rfl⟩ hp; rfl⟩
        clear hcr hp hz hc2 HC
        rcases hcc with rfl | ⟨rfl, rfl⟩
        all_goals
          go_wp2_with ((try rw [hWa]); at_builtin; refine wpList_append_own_at _ rfl _ _ 82 rfl w.heap.size 100 i0 (.agg #[.slice none 0 0, .int .i64 0]) 2 32 Tryz.underlying82 hi hz0 hz1 hz2 rfl (by decide) u7 q.length (flatV vs) rfl HA.out.1 ⟨W2.heap.size, 0, none⟩ 1 1 [.slice (some ⟨ba, oa, none⟩) 4 ci, .int .i64 N] rfl (by simp) HN.out (two_oneV rfl N) (by unfold maxLen; omega) (by omega) hsa ?_; intro v5 w5 hown5 hg5 _ hat5)
          have H5 := FIN.out v5 w5 hown5 hg5 hat5
          clear hown5 hg5 hat5
          go_roundw
          case rel => exact ⟨k + 1, y, _, _, _, by omega, by go_num, rfl, rfl, H5⟩
          case measure => simp [intOf]; omega
    · obtain rfl : k = len := by omega
      have hnil : p.drop k = [] := List.drop_eq_nil_of_le (by omega)
      have hBr := HR.out.2.2.2.1
      have heq := HR.out.2.2.2.2
      rw [hnil] at heq
      obtain ⟨Q, hQ⟩ : ∃ Q, putO e p false n = Q := ⟨_, rfl⟩
      have hPP : putP p e n = Q.filter fun m => m.2 != 0 := by unfold putP; rw [hQ]
      rw [hQ] at heq HQ4 HQl
      have hQl := HQl.out
      have hq1 := HR.out.2.1
      clear hnil HQl
      cases b
      have HU : Hid (PowV wr (fun _ => True) (.slice (some ⟨pb, po, none⟩) 4 pc) e) := HV.out wr hBr
      have HO := (show Hid _ from ownP_any wr _ _ e HU.out (by omega))
      have heq' : q ++ [(e, y)] = Q := by rw [← heq]; rfl
      go_wp2_with fail
      refine Calls.mono HO.out ?_
      rintro r w3 ⟨u, rfl, hu, hb3⟩
      obtain ⟨gu, ou, lu, cu, rfl, hu2, hu3, hu4, hu5, hu6, hu7⟩ := id hu
      obtain rfl : lu = 4 := by omega
      have hok : PowV w3 (fun b => u7.ownBlock ≠ some b) (.slice (some ⟨gu, ou, none⟩) 4 cu) e := hu.imp fun b hb' e' => by have := own_lt HR.out.1.1 b e'; omega
      obtain ⟨Wa, hWa⟩ : ∃ Wa, w3.alloc (.cells #[.slice (some ⟨gu, ou, none⟩) 4 cu, .int .i64 y] 100) = Wa := ⟨_, rfl⟩
      obtain ⟨HA, HN, hsa, -, HF⟩ := put_more y HR.out.1 hBr hb3 hok Wa hWa
      clear hok hu hu4 hu5 hu7 hb3 hBr heq HO HU
      go_wp2_with ((try rw [hWa]); at_builtin; refine wpList_append_own_at _ rfl _ _ 82 rfl w.heap.size 100 i0 (.agg #[.slice none 0 0, .int .i64 0]) 2 32 Tryz.underlying82 hi hz0 hz1 hz2 rfl (by decide) u7 q.length (flatV vs) rfl HA.out ⟨w3.heap.size, 0, none⟩ 1 1 [.slice (some ⟨gu, ou, none⟩) 4 cu, .int .i64 y] rfl (by simp) HN.out (two_oneV rfl _) (by unfold maxLen; omega) (by omega) hsa ?_; intro v5 w5 hown5 hg5 _ hat5; obtain ⟨hP5, hB5'⟩ := HF.out v5 w5 hown5 hg5 hat5; rw [heq'] at hP5; obtain ⟨a5, c5, rfl, hPS⟩ := hP5.psl; have HPS : Hid (PSl w5 a5 Q.length Q) := hPS; have HB5 : Hid (Below w.heap.size w w5) := hB5'; clear hown5 hg5 hat5 hP5 hPS hB5' HF HA HN hWa)
      rotate_left
      have heq' : q = Q := by rw [← heq]; simp [putO]
      have hP5 := HR.out.1
      rw [heq'] at hP5
      obtain ⟨a5, c5, rfl, hPS⟩ := hP5.psl
      obtain ⟨w5, hw5⟩ : ∃ w5, w5 = wr := ⟨_, rfl⟩
      subst hw5
      have HPS : Hid (PSl w5 a5 Q.length Q) := hPS
      have HB5 : Hid (Below w.heap.size w w5) := hBr
      clear hP5 hPS hBr heq heq' HR
      have hQm : Q.length ≤ 9223372036854775807 := by omega
      go_wp2_with fail
      simp [go_sem, Builtin.len_]
      go_wp2_with fail
      all_goals
        go_loopw [12, 67] (fun l i wr2 => ∃ (k2 : Nat) (vs2 : List (Value × Int)), k2 ≤ Q.length ∧ i = .int .i64 (k2 : Int) ∧ Hid (PRow wr2 w5.heap.size (fun b => w5.heap.size ≤ b) l vs2 ((Q.take k2).filter fun m => m.2 != 0) ∧ Below w5.heap.size w5 wr2 ∧ FZs wr2 vs2)) (fun _ i _ => Q.length - (intOf i).toNat)
        case atStart => exact ⟨0, [], Nat.zero_le _, rfl, PRow.nil _ _ _, Below.refl _ _, fun x hx => by cases hx⟩
        case round =>
          obtain ⟨k2, vs2, hk2, rfl, HL⟩ := hrel
          by_cases hlt2 : k2 < Q.length
          · have hbr2 := HL.out.2.1
            have HFz : Hid (FZs wr vs2) := HL.out.2.2
            obtain ⟨bb, off, rfl, hbl, hc⟩ := (HPS.out.keep hbr2).at (by omega)
            obtain ⟨ai, li, ci, c1, hli, hci, hS, c2⟩ := hc k2 hlt2
            have hm4 : (Q.getD k2 ([], 0)).1.length = 4 := by
              have : Q.getD k2 ([], 0) = Q[k2] := by rw [List.getD_eq_getElem?_getD, List.getElem?_eq_getElem hlt2]; rfl
              rw [this]; exact HQ4.out _ (List.getElem_mem _)
            have hlen4 : li = 4 := by have := hS.1; omega
            subst hlen4
            obtain ⟨N, hN⟩ : ∃ N, (Q.getD k2 ([], 0)).2 = N := ⟨_, rfl⟩
            obtain ⟨m, hm⟩ : ∃ m, (Q.getD k2 ([], 0)).1 = m := ⟨_, rfl⟩
            rw [hN] at c2
            rw [hm] at hS hm4
            have hft := filter_take Q k2 (m, N) hlt2 (Prod.ext hm hN)
            have HP2 : Hid (PowV wr (fun _ => True) (.slice ai 4 ci) m) := PSl.powV hS (by omega) hci (by omega) _ (fun _ _ => trivial)
            obtain ⟨ba, oa, l4, c4, e4, -⟩ := id HP2.out
            cases e4
            obtain ⟨W1, hW1⟩ : ∃ W1, wr.alloc (.cells #[.slice (some ⟨ba, oa, none⟩) 4 ci, .int .i64 N] 100) = W1 := ⟨_, rfl⟩
            have n0 : W1.cell? ⟨wr.heap.size, 0, none⟩ = some (.slice (some ⟨ba, oa, none⟩) 4 ci) := by rw [← hW1]; simp [go_sem]
            have n1 : W1.cell? ⟨wr.heap.size, 1, none⟩ = some (.int .i64 N) := by rw [← hW1]; simp [go_sem]
            have hb1 : Below wr.heap.size wr W1 := by rw [← hW1]; exact (Below.refl _ _).alloc (Nat.le_refl _) _
            have hsz1 : wr.heap.size < W1.heap.size := by rw [← hW1]; simp
            have hfl : ((Q.take k2).filter fun m => m.2 != 0).length ≤ k2 := Nat.le_trans (List.length_filter_le _ _) (by simp; omega)
            have i2 : (k2 : Int) < Q.length := by omega
            clear hc hS
            by_cases hz : N = 0
            · have H5 : Hid (PRow W1 w5.heap.size (fun b => w5.heap.size ≤ b) u12 vs2 ((Q.take (k2 + 1)).filter fun m => m.2 != 0) ∧ Below w5.heap.size w5 W1 ∧ FZs W1 vs2) := ⟨by rw [hft]; simpa [hz] using HL.out.1.keep hb1, hbr2.trans (hb1.mono hbr2.size), FZs.map HFz.out HL.out.1 (fun b _ hs => hb1.block b hs)⟩
              clear hft hbr2 hb1
              go_wp2_with fail
              rw [hz] at hW1
              rw [hW1]
              go_roundw
              case rel => exact ⟨k2 + 1, _, by omega, by go_num, H5⟩
              case measure => simp [intOf]; omega
            · have HU : Hid (PowV W1 (fun _ => True) (.slice (some ⟨ba, oa, none⟩) 4 ci) m) := HP2.out.keep hb1
              have HD : Hid (Below W1.heap.size W1 W1.drew) := Go.below_drewN (Below.refl _ _) 1
              have HO := (show Hid _ from ownP_fz W1.drew _ _ m (HU.out.keep HD.out) (by omega))
              have hsd := HD.out.size
              have hsw := hbr2.size
              go_wp2_with fail
              (try rw [hW1])
              go_region_law (first
                | (refine step_append rfl _ _ 82 rfl w5.heap.size 100 i0 (.agg #[.slice none 0 0, .int .i64 0]) 2 32 Tryz.underlying82 hi hz0 hz1 hz2 rfl (by decide) u12 _ _ rfl HA.out ⟨w3.heap.size, 0, none⟩ 1 1 [.slice (some ⟨gu, ou, none⟩) 4 cu, .int .i64 N] rfl (by simp) HN.out (two_oneV rfl _) (by unfold maxLen; omega) (by omega) hsa ?_; intro v6 w6 hown6 hg6 hat6)
                | (go_simp; go_at_call 151; refine Calls.mono HO.out ?_; rintro r w3 ⟨u, rfl, hu, hb3', hfz⟩; have hb3 := HD.out.trans (hb3'.mono HD.out.size); obtain ⟨gu, ou, lu, cu, rfl, hu2, hu3, hu4, hu5, hu6, hu7⟩ := id hu; obtain rfl : lu = 4 := by omega
                   have d1 := (hb3.cell (p := ⟨wr.heap.size, 1, none⟩) hsz1).trans n1
                   have hok : PowV w3 (fun b => w5.heap.size ≤ b ∧ u12.ownBlock ≠ some b) (.slice (some ⟨gu, ou, none⟩) 4 cu) m := hu.imp fun b hb' => ⟨by omega, fun e' => by have := own_lt HL.out.1.1 b e'; omega⟩
                   obtain ⟨HA, HN, hsa, HF⟩ := put_more' N HL.out.1 hbr2 (hb1.trans (hb3.mono hb1.size)) hok _ rfl
                   have HF6 : Hid (∀ w6, (w3.alloc (.cells #[.slice (some ⟨gu, ou, none⟩) 4 cu, .int .i64 N] 100)).grownBy w6 u12.ownBlock → FZs w6 (vs2 ++ [(.slice (some ⟨gu, ou, none⟩) 4 cu, N)])) := fun w6 g6 x hx => by
                     rcases List.mem_append.1 hx with hx | hx
                     · refine FZs.map HFz.out HL.out.1 (fun b hb hs => ?_) x hx
                       have e1 := (hb1.trans (hb3.mono hb1.size)).block b hs
                       have hs3 := Nat.lt_of_lt_of_le hs (hb1.trans (hb3.mono hb1.size)).size
                       have e2 := ((Below.refl w3.heap.size w3).alloc (Nat.le_refl _) (.cells #[.slice (some ⟨gu, ou, none⟩) 4 cu, .int .i64 N] 100)).block b hs3
                       exact (g6.block b (by simp; omega) (fun e' => hb e'.symm)).trans (e2.trans e1)
                     · rw [List.mem_singleton.1 hx]
                       refine FZ1.map (ok' := fun _ => True) hfz hok (fun b hb hs => ?_)
                       have e2 := ((Below.refl w3.heap.size w3).alloc (Nat.le_refl _) (.cells #[.slice (some ⟨gu, ou, none⟩) 4 cu, .int .i64 N] 100)).block b hs
                       exact (g6.block b (by simp; omega) (fun e' => hb.2 e'.symm)).trans e2
                   clear hok hu hu7 hfz))
              all_goals
                obtain ⟨hP6, hB6⟩ := HF.out v6 w6 hown6 hg6 hat6
                have H6 : Hid (PRow w6 w5.heap.size (fun b => w5.heap.size ≤ b) v6 (vs2 ++ [(.slice (some ⟨gu, ou, none⟩) 4 cu, N)]) ((Q.take (k2 + 1)).filter fun m => m.2 != 0) ∧ Below w5.heap.size w5 w6 ∧ FZs w6 (vs2 ++ [(.slice (some ⟨gu, ou, none⟩) 4 cu, N)])) := ⟨by rw [hft, if_neg hz]; exact hP6, hB6, HF6.out w6 hg6⟩
                clear hP6 hB6 hown6 hg6 hat6
                go_wp2
                go_roundw
                case rel => exact ⟨k2 + 1, _, by omega, by go_num, H6⟩
                case measure => simp [intOf]; omega
          · obtain rfl : k2 = Q.length := by omega
            have hB5 := HB5.out
            have HZ : Hid (PRow wr w.heap.size (fun b => w.heap.size ≤ b) u12 vs2 (putP p e n) ∧ Below w.heap.size w wr ∧ FZs wr vs2) := ⟨by
              rw [hPP]
              have := HL.out.1
              rw [List.take_length] at this
              exact this.base hB5.size (fun b hb => Nat.le_trans hB5.size hb), hB5.trans (HL.out.2.1.mono hB5.size), HL.out.2.2⟩
            obtain ⟨a6, c6, rfl, -⟩ := HZ.out.1.psl
            clear hB5
            go_wp2
            go_ret
            exact ⟨_, vs2, rfl, HZ.out⟩
theorem put_any4 (w : World) (a : Option Addr) (len cap : Nat) (p : List Mon) (h : PSl w a len p) (hlen : len ≤ 100000) (hp4 : ∀ x ∈ p, x.1.length = 4) (e : List Int) (he : e.length = 4) (vp : Value) (hv : PowV w (fun _ => True) vp e) (n : Int) :
    Calls Tryz.prog 127 #[.slice a len cap, vp, .int .i64 n] w fun r w' => ∃ v vs, r = .returned v ∧ PRow w' w.heap.size (fun b => w.heap.size ≤ b) v vs (putP p e n) ∧ Below w.heap.size w w' :=
  (put_fz w a len cap p h hlen hp4 e he vp hv n).mono fun r w' ⟨v, vs, h1, h2, h3, _⟩ => ⟨v, vs, h1, h2, h3⟩
end Go.Proofs.YtkadanagmahhgaaGreatDoor
namespace Go.Proofs.YtkadanagmahhgaaGreatDoor
open Go.RowKit
set_option linter.unusedVariables false

theorem putP_le (o : List Mon) (e : List Int) (n : Int) : (putP o e n).length ≤ o.length + 1 := by
  unfold putP
  have h1 := putO_le (e := e) o false n
  have h2 := List.length_filter_le (fun m : Mon => m.2 != 0) (putO e o false n)
  simp only [Bool.false_eq_true, if_false] at h1
  omega
/-- Adding all products of a list. -/
def addF : List Mon → List Mon → List Mon
  | o, [] => o
  | o, m :: r => addF (putP o m.1 m.2) r
def addP (p q : List Mon) : List Mon := addF (addF [] p) q
/-- Powers added. -/
def addE : List Int → List Int → List Int
  | a :: r, b :: s => (a + b) :: addE r s
  | _, _ => []
theorem addE_len : ∀ {a b : List Int}, a.length = b.length → (addE a b).length = a.length
  | [], [], _ => rfl
  | [], _ :: _, h => by simp at h
  | _ :: _, [], h => by simp at h
  | a :: r, b :: s, h => by simp only [addE, List.length_cons]; rw [addE_len (by simpa using h)]
/-- A product times each of a list. -/
def mulL (a : Mon) (q : List Mon) : List Mon := q.map fun b => (addE a.1 b.1, wrap64 (a.2 * b.2))
def mulF : List Mon → List Mon → List Mon → List Mon
  | o, [], _ => o
  | o, a :: r, q => mulF (addF o (mulL a q)) r q
def mulP (p q : List Mon) : List Mon := mulF [] p q
/-- A falling sum of products that are fine. -/
def Sum4 (p : List Mon) : Prop := Falls p ∧ Fine 4 p
theorem addF_ok : ∀ {q o : List Mon}, Sum4 o → (∀ m ∈ q, m.1.length = 4 ∧ InI m.2) → Sum4 (addF o q) ∧ (addF o q).length ≤ o.length + q.length ∧ ∀ e, Like (coef (addF o q) e) (coef o e + coef q e)
  | [], o, h, _ => ⟨h, by simp [addF], fun e => by rw [coef_nil, Int.add_zero]; exact Like.refl _⟩
  | m :: r, o, h, hq => by
    obtain ⟨h1, h2⟩ := h
    obtain ⟨m1, m2⟩ := hq m (List.mem_cons_self ..)
    obtain ⟨f1, f2, f3⟩ := putP_ok m1 m2 h1 (fun x hx => ⟨(h2 x hx).1, (h2 x hx).2.1⟩)
    obtain ⟨g1, g2, g3⟩ := addF_ok (q := r) (o := putP o m.1 m.2) ⟨f1, f2⟩ (fun x hx => hq x (List.mem_cons_of_mem _ hx))
    refine ⟨g1, ?_, fun e => ?_⟩
    · have : (putP o m.1 m.2).length ≤ o.length + 1 := putP_le o m.1 m.2
      show (addF (putP o m.1 m.2) r).length ≤ _
      simp only [List.length_cons]
      omega
    · show Like (coef (addF (putP o m.1 m.2) r) e) _
      refine (g3 e).trans ?_
      rw [coef_cons]
      have := f3 e
      unfold Like at *
      omega
theorem sum4_nil : Sum4 [] := ⟨List.Pairwise.nil, fun x hx => by cases hx⟩
/-- What a product of sums has at some powers. -/
def mulC (p q : List Mon) (e : List Int) : Int := (p.map fun a => coef (mulL a q) e).sum
theorem mulC_cons (a : Mon) (r q : List Mon) (e : List Int) : mulC (a :: r) q e = coef (mulL a q) e + mulC r q e := by simp [mulC]
theorem mulF_ok {q : List Mon} (hq : ∀ m ∈ q, m.1.length = 4) : ∀ {p o : List Mon}, Sum4 o → (∀ m ∈ p, m.1.length = 4) → Sum4 (mulF o p q) ∧ (mulF o p q).length ≤ o.length + p.length * q.length ∧ ∀ e, Like (coef (mulF o p q) e) (coef o e + mulC p q e)
  | [], o, h, _ => ⟨h, by simp [mulF], fun e => by show Like (coef o e) (coef o e + 0); rw [Int.add_zero]; exact Like.refl _⟩
  | a :: r, o, h, hp => by
    have ha := hp a (List.mem_cons_self ..)
    obtain ⟨f1, f2, f3⟩ := addF_ok (q := mulL a q) h (fun m hm => by
      obtain ⟨b, hb, rfl⟩ := List.mem_map.1 hm
      exact ⟨by show (addE a.1 b.1).length = 4; rw [addE_len (by rw [ha, hq b hb]), ha], wrap_in _⟩)
    obtain ⟨g1, g2, g3⟩ := mulF_ok hq (p := r) f1 (fun x hx => hp x (List.mem_cons_of_mem _ hx))
    refine ⟨g1, ?_, fun e => ?_⟩
    · show (mulF (addF o (mulL a q)) r q).length ≤ _
      have : (mulL a q).length = q.length := by simp [mulL]
      simp only [List.length_cons, Nat.succ_mul]
      omega
    · show Like (coef (mulF (addF o (mulL a q)) r q) e) _
      rw [mulC_cons]
      refine (g3 e).trans ?_
      have := f3 e
      unfold Like at *
      omega
theorem addP_ok {p q : List Mon} (hp : ∀ m ∈ p, m.1.length = 4 ∧ InI m.2) (hq : ∀ m ∈ q, m.1.length = 4 ∧ InI m.2) : Sum4 (addP p q) ∧ (addP p q).length ≤ p.length + q.length ∧ ∀ e, Like (coef (addP p q) e) (coef p e + coef q e) := by
  obtain ⟨a1, a2, a3⟩ := addF_ok (q := p) sum4_nil hp
  obtain ⟨b1, b2, b3⟩ := addF_ok (q := q) a1 hq
  refine ⟨b1, ?_, fun e => ?_⟩
  · show (addF (addF [] p) q).length ≤ _
    simp only [List.length_nil] at a2
    omega
  · show Like (coef (addF (addF [] p) q) e) _
    refine (b3 e).trans ?_
    have := a3 e
    rw [coef_nil] at this
    unfold Like at *
    omega
theorem mulP_ok {p q : List Mon} (hp : ∀ m ∈ p, m.1.length = 4) (hq : ∀ m ∈ q, m.1.length = 4) : Sum4 (mulP p q) ∧ (mulP p q).length ≤ p.length * q.length ∧ ∀ e, Like (coef (mulP p q) e) (mulC p q e) := by
  obtain ⟨a1, a2, a3⟩ := mulF_ok hq (p := p) sum4_nil hp
  refine ⟨a1, by simp only [List.length_nil, Nat.zero_add] at a2; exact a2, fun e => ?_⟩
  have := a3 e
  rw [coef_nil, Int.zero_add] at this
  exact this
theorem sum_unique {p q : List Mon} (hp : Sum4 p) (hq : Sum4 q) (h : ∀ e, Like (coef p e) (coef q e)) : p = q := poly_unique p q hp.1 hq.1 hp.2 hq.2 h
end Go.Proofs.YtkadanagmahhgaaGreatDoor
namespace Go.Proofs.YtkadanagmahhgaaGreatDoor
open Go.ChangeShapes Go.WideShapes Go.ChangeAt Go.RowKit
set_option linter.unusedVariables false

/-- Does a product fit behind what lies ahead? -/
def fitM (prev : Option (List Int)) (m : Mon) : Bool := powB m.1 && (m.2 != 0) && (match prev with | some e => decide (0 < cmpL e m.1) | none => true)
theorem below_dr {k : Nat} (w : World) (n : Nat) : Below k w (w.drewN n) := by
  refine ⟨?_, ?_, ?_, ?_, ?_⟩ <;> first | rfl | exact Nat.le_refl _ | (intro j hj; rfl)
def gpF : Option (List Int) → List Mon → Bool
  | _, [] => true
  | prev, m :: r => fitM prev m && gpF (some m.1) r
def polyB (p : List Mon) : Bool := gpF none p && decide (p.length ≤ 40)
def prevAt (p : List Mon) (k : Nat) : Option (List Int) := if k = 0 then none else some (p.getD (k - 1) ([], 0)).1
theorem gpF_drop (p : List Mon) (k : Nat) (h : k < p.length) : gpF (prevAt p k) (p.drop k) = (fitM (prevAt p k) (p.getD k ([], 0)) && gpF (prevAt p (k + 1)) (p.drop (k + 1))) := by
  rw [List.drop_eq_getElem_cons h]
  have e : p.getD k ([], 0) = p[k] := by rw [List.getD_eq_getElem?_getD, List.getElem?_eq_getElem h]; rfl
  have e2 : prevAt p (k + 1) = some (p[k]).1 := by unfold prevAt; rw [if_neg (by omega), show k + 1 - 1 = k from by omega, e]
  rw [e, e2]; rfl
theorem pow_len {e : List Int} (h : powB e = true) : e.length = 4 := by
  unfold powB at h
  rw [Bool.and_eq_true] at h
  exact of_decide_eq_true h.1
set_option maxHeartbeats 2000000 in
set_option maxRecDepth 20000 in
theorem specPoly_any (a : Option Addr) (len cap : Nat) (p : List Mon) (w : World) (h : PSl w a len p) (hm : len ≤ 9223372036854775807) :
    Calls Tryz.prog 100 #[.slice a len cap] w fun e w' => e = .returned (.bool (polyB p)) ∧ Below w.heap.size w w' := by
  have hll := h.1
  go_enter Tryz.func100, Tryz.ntmps100
  go_wp2_with fail
  go_loopw [7] (fun i wr => ∃ k : Nat, k ≤ len ∧ i = .int .i64 (k : Int) ∧ Below w.heap.size w wr ∧ Hid (gpF (prevAt p k) (p.drop k) = gpF none p ∧ (0 < k → powB (p.getD (k - 1) ([], 0)).1 = true))) (fun i _ => len - (intOf i).toNat)
  case atStart => exact ⟨0, Nat.zero_le _, rfl, Below.refl _ _, rfl, fun h => absurd h (by omega)⟩
  case round =>
    obtain ⟨k, hk, rfl, hbr, hT⟩ := hrel
    by_cases hlt : k < len
    · have hw := h.keep hbr
      obtain ⟨b, off, rfl, hbl, hc⟩ := hw.at (by omega)
      obtain ⟨ai, li, ci, c1, hli, hci, hS, c2⟩ := hc k hlt
      have hst := gpF_drop p k (by omega)
      rw [hT.out.1] at hst
      have i1 : (k : Int) < len := by omega
      have hsz : ¬ b = wr.heap.size := by omega
      obtain ⟨W1, hW1⟩ : ∃ W1, wr.alloc (.cells #[.slice ai li ci, .int .i64 (p.getD k ([], 0)).2] 100) = W1 := ⟨_, rfl⟩
      have n0 : W1.cell? ⟨wr.heap.size, 0, none⟩ = some (.slice ai li ci) := by rw [← hW1]; simp [go_sem]
      have n1 : W1.cell? ⟨wr.heap.size, 1, none⟩ = some (.int .i64 (p.getD k ([], 0)).2) := by rw [← hW1]; simp [go_sem]
      have hb1 : Below wr.heap.size wr W1 := by rw [← hW1]; exact (Below.refl _ _).alloc (Nat.le_refl _) _
      have hB1 : Below w.heap.size w W1 := hbr.trans (hb1.mono hbr.size)
      have HP : Hid (∀ n, Calls Tryz.prog 130 #[.slice ai li ci] (W1.drewN n) fun e w' => e = .returned (.bool (powB (p.getD k ([], 0)).1)) ∧ w' = W1.drewN n) := fun n => pow_any ai li ci _ _ (hS.keep (hb1.trans (below_dr _ n))) hli
      have HSl : Hid (∀ n, Sl (W1.drewN n) ai li (p.getD k ([], 0)).1) := fun n => hS.keep (hb1.trans (below_dr _ n))
      have HFin : Hid (∀ n, Below w.heap.size w (W1.drewN n)) := fun n => hB1.trans (below_dr _ n)
      have hfp : ∀ b, fitM (prevAt p k) (p.getD k ([], 0)) = b → (b = false → polyB p = false) ∧ (b = true → gpF (prevAt p (k + 1)) (p.drop (k + 1)) = gpF none p) := fun b hb => by
        rw [hb] at hst
        refine ⟨fun e => ?_, fun e => ?_⟩
        · subst e; unfold polyB; rw [hst]; rfl
        · subst e; rw [hst]; rfl
      have HF := (show Hid _ from hfp)
      have hprev := hT.out.2
      have HC := (show Hid _ from hc)
      clear hfp hst hT hw
      cases hp : powB (p.getD k ([], 0)).1 with
      | false =>
        rw [hp] at HP
        have HV : Hid (polyB p = false) := (HF.out false (by unfold fitM; rw [hp]; rfl)).1 rfl
        generalize (p.getD k ([], 0)).2 = y at c2 n1 hW1
        clear HF hp HC hS hc HSl hprev
        go_wp2_with fail
        (try rw [hW1])
        go_quiet (exact Calls.quiet_of_same (HP.out _))
        go_wp2
        go_ret
        exact ⟨by rw [HV.out]; rfl, HFin.out _⟩
      | true =>
        rw [hp] at HP
        by_cases hN : (p.getD k ([], 0)).2 = 0
        · have HV : Hid (polyB p = false) := (HF.out false (by unfold fitM; rw [hp, hN]; rfl)).1 rfl
          have hy : ((p.getD k ([], 0)).2 == 0) = true := by rw [hN]; rfl
          generalize (p.getD k ([], 0)).2 = y at c2 n1 hW1 hy
          clear HF hp HC hS hc HSl hprev hN
          go_wp2_with fail
          (try rw [hW1])
          go_quiet (exact Calls.quiet_of_same (HP.out _))
          go_wp2
          go_ret
          exact ⟨by rw [HV.out]; rfl, HFin.out _⟩
        · have hy : ((p.getD k ([], 0)).2 == 0) = false := by simpa using hN
          have hy' : ((p.getD k ([], 0)).2 != 0) = true := by rw [bne, hy]; rfl
          by_cases hk0 : k = 0
          · have HN : Hid (gpF (prevAt p (k + 1)) (p.drop (k + 1)) = gpF none p ∧ (0 < k + 1 → powB (p.getD (k + 1 - 1) ([], 0)).1 = true)) := ⟨(HF.out true (by unfold fitM prevAt; rw [hp, hy', if_pos hk0]; rfl)).2 rfl, fun _ => by rw [show k + 1 - 1 = k from by omega]; exact hp⟩
            generalize (p.getD k ([], 0)).2 = y at c2 n1 hW1 hy
            clear HF hp HC hS hc HSl hprev hN hy'
            subst hk0
            rw [Nat.zero_mul, Nat.add_zero] at c1 c2
            go_wp2_with fail
            (try rw [hW1])
            go_quiet (exact Calls.quiet_of_same (HP.out _))
            go_wp2
            exact ⟨⟨0 + 1, by omega, by go_num, HFin.out _, HN⟩, by simp [intOf]; omega⟩
          · obtain ⟨j, rfl⟩ : ∃ j, k = j + 1 := ⟨k - 1, by omega⟩
            have hpj := hprev (by omega)
            rw [show j + 1 - 1 = j from by omega] at hpj
            obtain ⟨aj, lj, cj, d1, hlj, hcj, hSj, d2⟩ := HC.out j (by omega)
            have hl1 := pow_len hpj
            have hl2 := pow_len hp
            have e1 := hSj.1
            have e2 := hS.1
            have HCm : Hid (∀ n, Calls Tryz.prog 131 #[.slice aj lj cj, .slice ai li ci] (W1.drewN n) fun e w' => e = .returned (.int .i64 (cmpL (p.getD j ([], 0)).1 (p.getD (j + 1) ([], 0)).1)) ∧ ∃ m, w' = (W1.drewN n).drewN m) := fun n => cmp_any aj ai lj li cj ci _ _ _ (hSj.keep (hb1.trans (below_dr _ n))) (HSl.out n) (by omega) (by omega)
            have d1' : W1.cell? ⟨b, off + j * 2, none⟩ = some (.slice aj lj cj) := (hb1.cell (p := ⟨b, off + j * 2, none⟩) hbl).trans d1
            have hkk : decide ((0 : Int) < ((j + 1 : Nat) : Int)) = true := decide_eq_true (by omega)
            have hpv : prevAt p (j + 1) = some (p.getD j ([], 0)).1 := by unfold prevAt; rw [if_neg (by omega), show j + 1 - 1 = j from by omega]
            have HG : Hid (∀ c, cmpL (p.getD j ([], 0)).1 (p.getD (j + 1) ([], 0)).1 = c → (c ≤ 0 → polyB p = false) ∧ (¬ c ≤ 0 → gpF (prevAt p (j + 1 + 1)) (p.drop (j + 1 + 1)) = gpF none p)) := fun c hc' => by
              refine ⟨fun h0 => (HF.out false ?_).1 rfl, fun h0 => (HF.out true ?_).2 rfl⟩
              · unfold fitM; rw [hpv, hp, hy']; simp only []; rw [hc', decide_eq_false (by omega)]; rfl
              · unfold fitM; rw [hpv, hp, hy']; simp only []; rw [hc', decide_eq_true (by omega)]; rfl
            have HP2 : Hid (powB (p.getD (j + 1) ([], 0)).1 = true) := hp
            have jj : (j : Int) < len := by omega
            obtain ⟨c, hcv⟩ : ∃ c, cmpL (p.getD j ([], 0)).1 (p.getD (j + 1) ([], 0)).1 = c := ⟨_, rfl⟩
            have HG' := (show Hid _ from HG.out c hcv)
            rw [hcv] at HCm
            generalize (p.getD (j + 1) ([], 0)).2 = y at c2 n1 hW1 hy
            clear HF HC hS hSj hc HSl hprev hN hk0 hy' hp hpj d1 d2 hl1 hl2 e1 e2 hpv HG hcv
            by_cases h0 : c ≤ 0
            · have q0 : decide (c ≤ 0) = true := decide_eq_true h0
              have HV : Hid (polyB p = false) := HG'.out.1 h0
              clear HG' h0
              go_wp2_with fail
              (try rw [hW1])
              go_quiet (first | exact Calls.quiet_of_same (HP.out _) | exact Calls.quiet_of (HCm.out _))
              go_wp2
              go_ret
              exact ⟨by rw [HV.out]; rfl, HFin.out _⟩
            · have q0 : decide (c ≤ 0) = false := decide_eq_false h0
              have HN : Hid (gpF (prevAt p (j + 1 + 1)) (p.drop (j + 1 + 1)) = gpF none p ∧ (0 < j + 1 + 1 → powB (p.getD (j + 1 + 1 - 1) ([], 0)).1 = true)) := ⟨HG'.out.2 h0, fun _ => by rw [show j + 1 + 1 - 1 = j + 1 from by omega]; exact HP2.out⟩
              clear HG' h0
              go_wp2_with fail
              (try rw [hW1])
              go_quiet (first | exact Calls.quiet_of_same (HP.out _) | exact Calls.quiet_of (HCm.out _))
              go_wp2
              exact ⟨⟨j + 1 + 1, by omega, by go_num, HFin.out _, HN⟩, by simp [intOf]; omega⟩
    · obtain rfl : k = len := by omega
      have e0 : gpF none p = true := by rw [← hT.out.1, ← hll, List.drop_of_length_le (Nat.le_refl _)]; rfl
      have HE : Hid (polyB p = decide (p.length ≤ 40)) := by show _ = _; unfold polyB; rw [e0]; rfl
      clear hT e0
      by_cases h40 : k ≤ 40
      · have q : decide ((k : Int) ≤ 40) = true := by simp; omega
        have HV : Hid (polyB p = true) := by show _ = _; rw [HE.out]; exact decide_eq_true (by omega)
        clear h40
        go_wp2
        go_ret
        exact ⟨by rw [HV.out]; simp at q ⊢; try omega, hbr⟩
      · have q : decide ((k : Int) ≤ 40) = false := by simp; omega
        have HV : Hid (polyB p = false) := by show _ = _; rw [HE.out]; exact decide_eq_false (by omega)
        clear h40
        go_wp2
        go_ret
        exact ⟨by rw [HV.out]; simp at q ⊢; try omega, hbr⟩
end Go.Proofs.YtkadanagmahhgaaGreatDoor
namespace Go.Proofs.YtkadanagmahhgaaGreatDoor
open Go.ChangeShapes Go.WideShapes Go.ChangeAt Go.RowKit
set_option linter.unusedVariables false

/-- An answer of the model's that is a list of products. -/
def SpecV (w : World) (v : Value) (q : List Mon) : Prop := ∃ a cap, v = .slice a q.length cap ∧ PSl w a q.length q
theorem SpecV.nil (w : World) : SpecV w (.slice none 0 0) [] := ⟨none, 0, rfl, rfl, .inl rfl⟩
theorem SpecV.keep {w w' : World} {v : Value} {q : List Mon} (h : SpecV w v q) (hb : Below w.heap.size w w') : SpecV w' v q := by
  obtain ⟨a, cap, h1, h2⟩ := h
  exact ⟨a, cap, h1, h2.keep hb⟩
theorem put_spec (w : World) (v : Value) (o : List Mon) (h : SpecV w v o) (hlen : o.length ≤ 100000) (ho : Sum4 o) (ai : Option Addr) (ci : Nat) (e : List Int) (he : e.length = 4) (hc : 4 ≤ ci) (hS : Sl w ai 4 e) (n : Int) :
    Calls Tryz.prog 127 #[v, .slice ai 4 ci, .int .i64 n] w fun r w' => ∃ v', r = .returned v' ∧ SpecV w' v' (putP o e n) ∧ Below w.heap.size w w' := by
  obtain ⟨a, cap, rfl, hP⟩ := h
  refine (put_any4 w a o.length cap o hP hlen (fun x hx => (ho.2 x hx).1) e he (.slice ai 4 ci) (PSl.powV hS (by omega) hc (by omega) _ (fun _ _ => trivial)) n).mono ?_
  rintro r w' ⟨v, vs, rfl, h1, h2⟩
  obtain ⟨a', c', rfl, h3⟩ := h1.psl
  exact ⟨_, rfl, ⟨a', c', rfl, h3⟩, h2⟩
/-- The same, the row being one's own, from a block on. -/
def SpecB (B : Nat) (w : World) (v : Value) (q : List Mon) : Prop := SpecV w v q ∧ ∃ vs, PRow w B (fun b => B ≤ b) v vs q ∧ FZs w vs
theorem SpecB.nil (B : Nat) (w : World) : SpecB B w (.slice none 0 0) [] := ⟨SpecV.nil w, [], PRow.nil _ _ _, fun x hx => by cases hx⟩
theorem SpecB.keep {B : Nat} {w w' : World} {v : Value} {q : List Mon} (h : SpecB B w v q) (hb : Below w.heap.size w w') : SpecB B w' v q := by
  obtain ⟨h1, vs, h2, h3⟩ := h
  exact ⟨h1.keep hb, vs, h2.keep hb, h3.map h2 (fun b _ hs => hb.block b hs)⟩
theorem SpecB.base {B B' : Nat} {w : World} {v : Value} {q : List Mon} (h : SpecB B w v q) (hb : B' ≤ B) : SpecB B' w v q := by
  obtain ⟨h1, vs, h2, h3⟩ := h
  exact ⟨h1, vs, h2.base hb (fun b hb' => Nat.le_trans hb hb'), h3⟩
theorem put_specB (B : Nat) (w : World) (hB : B ≤ w.heap.size) (v : Value) (o : List Mon) (h : SpecV w v o) (hlen : o.length ≤ 100000) (ho : Sum4 o) (ai : Option Addr) (ci : Nat) (e : List Int) (he : e.length = 4) (hc : 4 ≤ ci) (hS : Sl w ai 4 e) (n : Int) :
    Calls Tryz.prog 127 #[v, .slice ai 4 ci, .int .i64 n] w fun r w' => ∃ v', r = .returned v' ∧ SpecB B w' v' (putP o e n) ∧ Below w.heap.size w w' := by
  obtain ⟨a, cap, rfl, hP⟩ := h
  refine (put_fz w a o.length cap o hP hlen (fun x hx => (ho.2 x hx).1) e he (.slice ai 4 ci) (PSl.powV hS (by omega) hc (by omega) _ (fun _ _ => trivial)) n).mono ?_
  rintro r w' ⟨v, vs, rfl, h1, h2, h4⟩
  obtain ⟨a', c', rfl, h3⟩ := h1.psl
  exact ⟨_, rfl, ⟨⟨a', c', rfl, h3⟩, _, h1.base hB (fun b hb' => Nat.le_trans hB hb'), h4⟩, h2⟩
/-- What has been added so far. -/
def AddR (w wr : World) (v : Value) (o rest all : List Mon) : Prop := SpecB w.heap.size wr v o ∧ Sum4 o ∧ addF o rest = all ∧ Below w.heap.size w wr
theorem addF_drop (o p : List Mon) (k : Nat) (h : k < p.length) : addF o (p.drop k) = addF (putP o (p.getD k ([], 0)).1 (p.getD k ([], 0)).2) (p.drop (k + 1)) := by
  rw [drop_mon p k h]; rfl
set_option maxHeartbeats 3200000 in
set_option maxRecDepth 20000 in
theorem l4Add_own (a : Option Addr) (la ca : Nat) (p : List Mon) (b : Option Addr) (lb cb : Nat) (q : List Mon) (w : World) (ha : PSl w a la p) (hb : PSl w b lb q) (hla : la ≤ 10000) (hlb : lb ≤ 10000) (hp : ∀ m ∈ p, m.1.length = 4 ∧ InI m.2) (hq : ∀ m ∈ q, m.1.length = 4 ∧ InI m.2) :
    Calls Tryz.prog 129 #[.slice a la ca, .slice b lb cb] w fun r w' => ∃ v, r = .returned v ∧ SpecB w.heap.size w' v (addP p q) ∧ Below w.heap.size w w' := by
  have hpl := ha.1
  have hql := hb.1
  have HP := (show Hid _ from hp)
  have HQ := (show Hid _ from hq)
  have HMem : Hid (∀ (l : List Mon) k, k < l.length → l.getD k ([], 0) ∈ l) := fun l k hk => by
    rw [List.getD_eq_getElem?_getD, List.getElem?_eq_getElem hk]; exact List.getElem_mem _
  clear hp hq
  go_enter Tryz.func129, Tryz.ntmps129
  go_wp2_with fail
  go_loopw [5, 12] (fun v i wr => ∃ (k : Nat) (o : List Mon), k ≤ la ∧ i = .int .i64 (k : Int) ∧ o.length ≤ k ∧ Hid (AddR w wr v o (p.drop k) (addF [] p))) (fun _ i _ => la - (intOf i).toNat)
  case atStart => exact ⟨0, [], by omega, rfl, by simp, SpecB.nil _ _, sum4_nil, rfl, Below.refl _ _⟩
  case round =>
    obtain ⟨k, o, hk, rfl, hol, HR⟩ := hrel
    obtain ⟨hv, hs, he, hbr⟩ := HR.out
    by_cases hlt : k < la
    · obtain ⟨bp, off, rfl, hbl, hc⟩ := (ha.keep hbr).at (by omega)
      obtain ⟨ai, li, ci, c1, hli, hci, hS, c2⟩ := hc k hlt
      have hmm := HP.out _ (HMem.out p k (by omega))
      have hst := addF_drop o p k (by omega)
      rw [he] at hst
      obtain ⟨m, hm⟩ : ∃ m, p.getD k ([], 0) = m := ⟨_, rfl⟩
      rw [hm] at c2 hS hmm hst
      obtain ⟨e, y⟩ := m
      simp only at c2 hS hmm hst
      obtain rfl : li = 4 := by have := hS.1; omega
      obtain ⟨W1, hW1⟩ : ∃ W1, wr.alloc (.cells #[.slice ai 4 ci, .int .i64 y] 100) = W1 := ⟨_, rfl⟩
      have hb1 : Below wr.heap.size wr W1 := by rw [← hW1]; exact (Below.refl _ _).alloc (Nat.le_refl _) _
      have n0 : W1.cell? ⟨wr.heap.size, 0, none⟩ = some (.slice ai 4 ci) := by rw [← hW1]; simp [go_sem]
      have n1 : W1.cell? ⟨wr.heap.size, 1, none⟩ = some (.int .i64 y) := by rw [← hW1]; simp [go_sem]
      have HC := (show Hid _ from put_specB w.heap.size W1 (Nat.le_trans hbr.size hb1.size) u5 o (hv.1.keep hb1) (by omega) hs ai ci e hmm.1 hci (hS.keep hb1) y)
      obtain ⟨f1, f2, -⟩ := putP_ok (n := y) hmm.1 hmm.2 hs.1 (fun x hx => ⟨(hs.2 x hx).1, (hs.2 x hx).2.1⟩)
      have hl2 := putP_le o e y
      have HF : Hid (∀ w2 v2, SpecB w.heap.size w2 v2 (putP o e y) → Below W1.heap.size W1 w2 → AddR w w2 v2 (putP o e y) (p.drop (k + 1)) (addF [] p)) := fun w2 v2 s2 b2 => ⟨s2, ⟨f1, f2⟩, hst.symm, hbr.trans ((hb1.trans (b2.mono hb1.size)).mono hbr.size)⟩
      generalize putP o e y = o2 at HC HF hl2
      have hik : (k : Int) < la := by omega
      have hbne : ¬ bp = wr.heap.size := by omega
      clear hv hs he hbr HR hc hS hmm hst hm hb1 f1 f2
      go_wp2_with fail
      (try rw [hW1])
      refine Calls.mono HC.out ?_
      rintro r w2 ⟨v2, rfl, s2, b2⟩
      have HR2 := (show Hid _ from HF.out w2 v2 s2 b2)
      clear s2 b2 HF HC n0 n1 hW1
      go_wp2
      go_roundw
      case rel => exact ⟨k + 1, o2, by omega, by go_num, by omega, HR2⟩
      case measure => simp [intOf]; omega
    · obtain rfl : k = la := by omega
      rw [List.drop_of_length_le (by omega)] at he
      have he' : o = addF [] p := he
      have hol2 : o.length ≤ 10000 := by omega
      have HR2 : Hid (AddR w wr u5 o q (addP p q)) := ⟨hv, hs, by rw [he']; rfl, hbr⟩
      clear HR hv hs he he' hbr
      go_wp2_with fail
      go_loopw [5, 25] (fun v i wr => ∃ (k : Nat) (o : List Mon), k ≤ lb ∧ i = .int .i64 (k : Int) ∧ o.length ≤ 10000 + k ∧ Hid (AddR w wr v o (q.drop k) (addP p q))) (fun _ i _ => lb - (intOf i).toNat)
      case atStart => exact ⟨0, o, by omega, rfl, by omega, HR2⟩
      case round =>
        obtain ⟨k, o, hk, rfl, hol, HR⟩ := hrel
        clear HR2
        obtain ⟨hv, hs, he, hbr⟩ := HR.out
        by_cases hlt : k < lb
        · obtain ⟨bp, off, rfl, hbl, hc⟩ := (hb.keep hbr).at (by omega)
          obtain ⟨ai, li, ci, c1, hli, hci, hS, c2⟩ := hc k hlt
          have hmm := HQ.out _ (HMem.out q k (by omega))
          have hst := addF_drop o q k (by omega)
          rw [he] at hst
          obtain ⟨m, hm⟩ : ∃ m, q.getD k ([], 0) = m := ⟨_, rfl⟩
          rw [hm] at c2 hS hmm hst
          obtain ⟨e, y⟩ := m
          simp only at c2 hS hmm hst
          obtain rfl : li = 4 := by have := hS.1; omega
          obtain ⟨W1, hW1⟩ : ∃ W1, wr.alloc (.cells #[.slice ai 4 ci, .int .i64 y] 100) = W1 := ⟨_, rfl⟩
          have hb1 : Below wr.heap.size wr W1 := by rw [← hW1]; exact (Below.refl _ _).alloc (Nat.le_refl _) _
          have n0 : W1.cell? ⟨wr.heap.size, 0, none⟩ = some (.slice ai 4 ci) := by rw [← hW1]; simp [go_sem]
          have n1 : W1.cell? ⟨wr.heap.size, 1, none⟩ = some (.int .i64 y) := by rw [← hW1]; simp [go_sem]
          have HC := (show Hid _ from put_specB w.heap.size W1 (Nat.le_trans hbr.size hb1.size) u5 o (hv.1.keep hb1) (by omega) hs ai ci e hmm.1 hci (hS.keep hb1) y)
          obtain ⟨f1, f2, -⟩ := putP_ok (n := y) hmm.1 hmm.2 hs.1 (fun x hx => ⟨(hs.2 x hx).1, (hs.2 x hx).2.1⟩)
          have hl2 := putP_le o e y
          have HF : Hid (∀ w2 v2, SpecB w.heap.size w2 v2 (putP o e y) → Below W1.heap.size W1 w2 → AddR w w2 v2 (putP o e y) (q.drop (k + 1)) (addP p q)) := fun w2 v2 s2 b2 => ⟨s2, ⟨f1, f2⟩, hst.symm, hbr.trans ((hb1.trans (b2.mono hb1.size)).mono hbr.size)⟩
          generalize putP o e y = o2 at HC HF hl2
          have hik : (k : Int) < lb := by omega
          have hbne : ¬ bp = wr.heap.size := by omega
          clear hv hs he hbr HR hc hS hmm hst hm hb1 f1 f2
          go_wp2_with fail
          (try rw [hW1])
          refine Calls.mono HC.out ?_
          rintro r w2 ⟨v2, rfl, s2, b2⟩
          have HR2 := (show Hid _ from HF.out w2 v2 s2 b2)
          clear s2 b2 HF HC n0 n1 hW1
          go_wp2
          go_roundw
          case rel => exact ⟨k + 1, o2, by omega, by go_num, by omega, HR2⟩
          case measure => simp [intOf]; omega
        · obtain rfl : k = lb := by omega
          rw [List.drop_of_length_le (by omega)] at he
          have HE : Hid (SpecB w.heap.size wr u5 (addP p q) ∧ Below w.heap.size w wr) := by
            have he' : o = addP p q := he
            rw [← he']; exact ⟨hv, hbr⟩
          clear HR hv hs he hbr
          go_wp2
          go_ret
          exact ⟨_, rfl, HE.out⟩
theorem l4Add_any (a : Option Addr) (la ca : Nat) (p : List Mon) (b : Option Addr) (lb cb : Nat) (q : List Mon) (w : World) (ha : PSl w a la p) (hb : PSl w b lb q) (hla : la ≤ 10000) (hlb : lb ≤ 10000) (hp : ∀ m ∈ p, m.1.length = 4 ∧ InI m.2) (hq : ∀ m ∈ q, m.1.length = 4 ∧ InI m.2) :
    Calls Tryz.prog 129 #[.slice a la ca, .slice b lb cb] w fun r w' => ∃ v, r = .returned v ∧ SpecV w' v (addP p q) ∧ Below w.heap.size w w' :=
  (l4Add_own a la ca p b lb cb q w ha hb hla hlb hp hq).mono fun r w' ⟨v, h1, h2, h3⟩ => ⟨v, h1, h2.1, h3⟩
def addOk (p q : List Mon) : Bool := polyB p && polyB q && polyB (addP p q)
def addR (p q : List Mon) : List Mon := if addOk p q = true then addP p q else []
theorem fine_of {p : List Mon} (h : polyB p = true) (hi : ∀ x ∈ p, InI x.2) : ∀ m ∈ p, m.1.length = 4 ∧ InI m.2 := fun m hm => by
  have : ∀ (prev : Option (List Int)) (q : List Mon), gpF prev q = true → ∀ x ∈ q, powB x.1 = true := by
    intro prev q
    induction q generalizing prev with
    | nil => intro _ x hx; cases hx
    | cons m r ih =>
      intro hq x hx
      rw [gpF, Bool.and_eq_true] at hq
      rcases List.mem_cons.1 hx with rfl | hx
      · have h1 := hq.1; unfold fitM at h1; rw [Bool.and_eq_true, Bool.and_eq_true] at h1; exact h1.1.1
      · exact ih _ hq.2 x hx
  unfold polyB at h
  rw [Bool.and_eq_true] at h
  exact ⟨pow_len (this _ p h.1 m hm), hi m hm⟩
theorem poly_len {p : List Mon} (h : polyB p = true) : p.length ≤ 40 := by
  unfold polyB at h
  rw [Bool.and_eq_true] at h
  exact of_decide_eq_true h.2
end Go.Proofs.YtkadanagmahhgaaGreatDoor
