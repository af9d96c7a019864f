/-
  PROVED HERE: what the program's taking of a sum out of its map, in order, answers. No other condition.
-/
import Derived.Test.YtpjgjpjfchfmlaaGreatDoorSortAll
import Derived.Test.YtpjgjpjfchfmlaaGreatDoorConds
import Derived.Test.YtpjgjpjfchfmlaaGreatDoorMonoMine
import Derived.Maps.RangeWalk
namespace Go.Proofs.YtpjgjpjfchfmlaaGreatDoor
open Go.ChangeShapes Go.WideShapes Go.ChangeAt Go.RowKit
open Go.MapKept Go.ChangeMaps
set_option linter.unusedVariables false

/-- An answer that is a list of products, in memory of its own from lo on. -/
def OwnV (w : World) (lo : Nat) (v : Value) (q : List Mon) : Prop := (q = [] ∧ ∃ a cap, v = .slice a 0 cap) ∨ ∃ g cap, v = .slice (some ⟨g, 0, none⟩) q.length cap ∧ q.length ≤ cap ∧ 0 < q.length ∧ PMine w lo w.heap.size g q.length q
/-- What the range has done so far. -/
def OrdR (w wr : World) (b : Nat) (es : Array MapEntry) (clock : Nat) (v : Value) (L : List MapEntry) (T : List Cel) (seen : Array Nat) (c : Nat) : Prop :=
  wr.heap[w.heap.size]? = some (.mapIter (some b) clock seen c) ∧ clock ≤ c ∧ Met es seen L ∧ CollR wr (w.heap.size + 1) v T ∧ T.map (fun t => (t.2.2 : Mon)) = L.map decode ∧ Below w.heap.size w wr
theorem infoMonoO : (Tryz.prog.info? 57).map (fun i => (i.zero, i.size, i.bytes)) = some (some (.agg #[.slice none 0 0, .int .i64 0]), 2, 32) := by kernel_rfl
theorem two_newO (w : World) (x y : Value) (t : TypeId) : ∀ j u, [x, y][j]? = some u → (w.alloc (.cells #[x, y] t)).cell? ((⟨w.heap.size, 0, none⟩ : Addr).add j) = some u := by
  intro j u hj
  match j, hj with
  | 0, hj => simp at hj; subst hj; simp [Addr.add]
  | 1, hj => simp at hj; subst hj; simp [Addr.add]
theorem coef_perm {p q : List Mon} (h : p.Perm q) (e : List Int) : coef p e = coef q e := by
  induction h with
  | nil => rfl
  | cons x _ ih => rw [coef_cons, coef_cons, ih]
  | swap x y l => rw [coef_cons, coef_cons, coef_cons, coef_cons]; omega
  | trans _ _ ih1 ih2 => rw [ih1, ih2]
theorem apart_perm {p q : List Mon} (h : p.Perm q) (ha : Apart q) : Apart p := (h.pairwise_iff (fun {x y} hxy => Ne.symm hxy)).2 ha
theorem sum_perm {p q : List Mon} (h : p.Perm q) (hs : SumM q) : SumM p := fun m hm => hs m (h.mem_iff.1 hm)
theorem falls_of {q : List Mon} (h4 : ∀ m ∈ q, m.1.length = 4) (ha : Apart q) (hp : q.Pairwise (fun x y => cmpL y.1 x.1 ≠ 1)) : Falls q := by
  refine List.pairwise_iff_getElem.2 fun i j hi hj hij => ?_
  have h1 := List.pairwise_iff_getElem.1 ha i j hi hj hij
  have h2 := List.pairwise_iff_getElem.1 hp i j hi hj hij
  have l1 := h4 _ (List.getElem_mem hi)
  have l2 := h4 _ (List.getElem_mem hj)
  rcases cmp_range (q[i]).1 (q[j]).1 with c | c | c
  · exact absurd (by rw [cmp_swap, c]; rfl) h2
  · exact absurd (cmp_eq (by rw [l1, l2]) c) h1
  · exact c
/-- What sorting leaves is one's own. -/
theorem mine_of {W w' : World} {lo lo' g : Nat} {T T' : List Cel} (hlo : lo' ≤ lo) (hg0 : lo ≤ g) (hg1 : g < W.heap.size) (hd : T.Pairwise (fun x y => x.1 ≠ y.1)) (hT : ∀ t ∈ T, ElP W g lo t) (hgr : W.grownBy w' (some g)) (hp : T'.Perm T) (hr : RowT w' g T') : PMine w' lo' w'.heap.size g (T'.map fun t => (t.2.2 : Mon)).length (T'.map fun t => (t.2.2 : Mon)) := by
  have hsz := hgr.size
  have hel : ∀ i, i < T'.length → ∃ t, T'[i]? = some t ∧ t ∈ T ∧ (T'.map fun t => (t.2.2 : Mon)).getD i ([], 0) = t.2.2 ∧ T'.getD i (0, 0, [], 0) = t := fun i hi => by
    refine ⟨T'[i], List.getElem?_eq_getElem hi, hp.mem_iff.1 (List.getElem_mem _), ?_, ?_⟩
    · rw [List.getD_eq_getElem?_getD, List.getElem?_map, List.getElem?_eq_getElem hi]; rfl
    · rw [List.getD_eq_getElem?_getD, List.getElem?_eq_getElem hi]; rfl
  have hd' : T'.Pairwise (fun x y => x.1 ≠ y.1) := (hp.pairwise_iff (fun {x y} hxy => Ne.symm hxy)).2 hd
  rw [List.length_map]
  refine ⟨by simp, by omega, by omega, Nat.le_refl _, fun i => (T'.getD i (0, 0, [], 0)).1, fun i hi => ?_, fun i hi => ?_⟩
  · obtain ⟨t, h1, h2, h3, h4⟩ := hel i hi
    obtain ⟨a, b, c, d, e⟩ := hT t h2
    simp only [h4]
    refine ⟨by omega, by omega, c, fun j hj => ?_⟩
    obtain ⟨u, k1, k2, k3, k4⟩ := hel j (by omega)
    rw [k4]
    have hj' : j < T'.length := by omega
    have := List.pairwise_iff_getElem.1 hd' j i hj' hi hj
    rw [List.getElem?_eq_getElem hi] at h1
    rw [List.getElem?_eq_getElem hj'] at k1
    rw [Option.some.inj h1, Option.some.inj k1] at this
    exact this
  · obtain ⟨t, h1, h2, h3, h4⟩ := hel i hi
    obtain ⟨a, b, c, d, e⟩ := hT t h2
    obtain ⟨r1, r2, r3, r4⟩ := hr i t h1
    have hP : Pow4 w' t.1 t.2.2.1 := e.block (hgr.block t.1 b (fun e' => c (Option.some.inj e')))
    rw [h3]
    simp only [h4]
    rw [hP.1]
    exact ⟨⟨t.2.1, d, r1⟩, r2, r4, fun j hj => hP.2 j hj⟩
theorem two_oneO (g cp : Nat) (n : Int) : ∀ u ∈ [Value.slice (some ⟨g, 0, none⟩) 4 cp, Value.int .i64 n], u.oneCell' = true := fun u hu => by
  simp at hu
  rcases hu with rfl | rfl <;> rfl
set_option maxHeartbeats 1000000 in
set_option maxRecDepth 20000 in
theorem order_any (b : Nat) (M : List Mon) (w : World) (h : PMap w b M) (hs : SumM M) (hl : M.length ≤ 100000) :
    Calls Tryz.prog 55 #[.map (some b)] w fun r w' => ∃ v q, r = .returned (.tuple #[v, .bool (polyB q)]) ∧ Below w.heap.size w w' ∧ Falls q ∧ Fine 4 q ∧ (∀ e, coef q e = coef M e) ∧ OwnV w' w.heap.size v (if polyB q = true then q else []) := by
  obtain ⟨i0, hi, hz0, hz1, hz2⟩ := info_parts infoMonoO
  have hap := h.apart
  have hblt := h.lt
  obtain ⟨es, clock, hb, hst, hent, hk4⟩ := h
  obtain ⟨s1, s2, s3⟩ := (stamped_iff es clock).1 hst
  have hrange := run_range_map (P := Tryz.prog) w 90 88 2 b es clock Tryz.underlying90 hb
  have hdec := decode_all hent
  have hlen : es.toList.length = M.length := entries_len hent
  have HEnt := (show Hid _ from hent)
  have HK4 := (show Hid _ from hk4)
  have HS1 := (show Hid _ from s1)
  have HS2 := (show Hid _ from s2)
  clear hst s3 hent hk4 s1 s2
  go_enter Tryz.func55, Tryz.ntmps55
  go_wp2_with fail
  go_loopw [4] (fun v wr => ∃ L T seen c, Hid (OrdR w wr b es clock v L T seen c)) (fun _ wr => stillIn b w.heap.size wr)
  case atStart => exact ⟨[], [], #[], clock, heap_alloc_new _ _, Nat.le_refl _, ⟨rfl, fun x hx => absurd hx (List.not_mem_nil), List.Pairwise.nil⟩, CollR.nil _ _, rfl, (Below.refl _ _).alloc (Nat.le_refl _) _⟩
  case round =>
    obtain ⟨L, T, seen, c, HR⟩ := hrel
    clear hrange
    have hbr := HR.out.2.2.2.2.2
    have hbw : wr.heap[b]? = some (.map es clock) := (hbr.block b hblt).trans hb
    have hit := HR.out.1
    have hsc := HR.out.2.1
    have hstill : stillIn b w.heap.size wr = (leftOf es seen).size := by unfold stillIn; rw [hbw, hit]
    have HST := (show Hid _ from hstill)
    have hTl : T.length = L.length := by have := congrArg List.length HR.out.2.2.2.2.1; simpa using this
    clear hstill
    go_wp2_with (at_next; refine wpList_next4 _ rfl _ rfl w.heap.size b clock c seen es clock rfl hit hbw HS1.out hsc ?_ ?_)
    · intro h0
      clear hTl
      have hperm := HR.out.2.2.1.fin HS2.out (by rw [h0]; rfl)
      have hTM : (T.map fun t => (t.2.2 : Mon)).Perm M := by
        rw [HR.out.2.2.2.2.1, ← hdec]
        exact hperm.map _
      have hC := HR.out.2.2.2.1
      have hTlen : T.length ≤ 100000 := by have := hTM.length_eq; rw [List.length_map] at this; omega
      have fin : ∀ q : List Mon, q.Perm M → q.Pairwise (fun x y => cmpL y.1 x.1 ≠ 1) → Falls q ∧ Fine 4 q ∧ ∀ e, coef q e = coef M e := fun q hq hpw => by
        have h4 : ∀ m ∈ q, m.1.length = 4 := fun m hm => (HK4.out m (hq.mem_iff.1 hm)).1
        exact ⟨falls_of h4 (apart_perm hq hap) hpw, fun m hm => ⟨h4 m hm, (sum_perm hq hs) m hm⟩, coef_perm hq⟩
      have FIN := (show Hid _ from fin)
      have HBr : Hid (Below w.heap.size w wr) := hbr
      by_cases hT0 : T.length = 0
      · obtain rfl : T = [] := List.eq_nil_of_length_eq_zero hT0
        obtain ⟨pa, pc, rfl⟩ : ∃ a c, u4 = .slice a 0 c := by
          rcases hC.1.2 with ⟨rfl, _⟩ | ⟨g, cp, cur, rfl, _⟩
          · exact ⟨_, _, rfl⟩
          · exact ⟨_, _, rfl⟩
        have HSo : Hid (∀ W, Calls Tryz.prog 85 #[.slice pa 0 pc, .func (.func 86) #[] #[]] W fun e w' => e = .returned (.tuple #[]) ∧ w' = W) := fun W => sort_none pa pc _ W
        have HGo : Hid (∀ W, Calls Tryz.prog 15 #[.slice pa 0 pc] W fun e w' => e = .returned (.bool true) ∧ Below W.heap.size W w') := fun W => implPoly_any pa 0 pc [] W ⟨rfl, .inl rfl⟩ (by omega)
        have HE : Hid (Falls [] ∧ Fine 4 [] ∧ ∀ e, coef [] e = coef M e) := FIN.out [] hTM List.Pairwise.nil
        clear hC hTM hperm HR hit hbw fin FIN
        go_wp2_with fail
        refine Calls.mono (HSo.out _) ?_
        rintro r w2 ⟨rfl, rfl⟩
        go_wp2_with fail
        refine Calls.mono (HGo.out _) ?_
        rintro r w3 ⟨rfl, hb3⟩
        have hB3 := HBr.out.trans (hb3.mono HBr.out.size)
        clear HSo HGo hb3
        go_wp2
        go_ret2
        exact ⟨_, [], rfl, hB3, HE.out.1, HE.out.2.1, HE.out.2.2, .inl ⟨rfl, _, _, rfl⟩⟩
      · obtain ⟨g, cp, rfl, hg0, hg1, hcp⟩ : ∃ g cp, u4 = .slice (some ⟨g, 0, none⟩) T.length cp ∧ w.heap.size + 1 ≤ g ∧ g < wr.heap.size ∧ T.length ≤ cp := by
          rcases hC.1.2 with ⟨_, h'⟩ | ⟨g, cp, cur, rfl, h1, h2, h3, _⟩
          · exact absurd h' hT0
          · exact ⟨g, cp, rfl, h1, (Array.getElem?_eq_some_iff.1 h2).1, h3⟩
        have hEl : ∀ t ∈ T, ElP wr g (w.heap.size + 1) t := fun t ht => by
          obtain ⟨a, b', c', d, e'⟩ := hC.2.2 t ht
          exact ⟨a, b', fun e'' => c' (by rw [e'']; rfl), d, e'⟩
        have hRow : RowT wr g T := fun i t ht => by
          obtain ⟨f1, f2⟩ := flatT_get T i t ht
          have hi' : i < T.length := (List.getElem?_eq_some_iff.1 ht).1
          exact ⟨by rw [hC.1.cellAt (i * 2) (by omega)]; exact f1, by rw [hC.1.cellAt (i * 2 + 1) (by omega)]; exact f2, hC.1.frozenAt (i * 2), hC.1.frozenAt (i * 2 + 1)⟩
        have HSo := (show Hid _ from sort_any g (w.heap.size + 1) cp T wr hg1 (by omega) (by omega) hEl hRow)
        have HMi : Hid (∀ w2 T', wr.grownBy w2 (some g) → T'.Perm T → RowT w2 g T' → T'.Pairwise (fun x y => cmpL y.2.2.1 x.2.2.1 ≠ 1) → ∃ q, q = (T'.map fun t => (t.2.2 : Mon)) ∧ q.length = T.length ∧ PMine w2 w.heap.size w2.heap.size g T.length q ∧ (Falls q ∧ Fine 4 q ∧ ∀ e, coef q e = coef M e) ∧ PSl w2 (some ⟨g, 0, none⟩) T.length q ∧ Below w.heap.size w w2) := fun w2 T' g2 p2 r2 s2 => by
          have hm := mine_of (lo' := w.heap.size) (by omega) hg0 hg1 hC.2.1 hEl g2 p2 r2
          have hln : (T'.map fun t => (t.2.2 : Mon)).length = T.length := by rw [List.length_map, p2.length_eq]
          rw [hln] at hm
          have hfine := FIN.out (T'.map fun t => (t.2.2 : Mon)) ((p2.map _).trans hTM) (List.pairwise_map.2 s2)
          refine ⟨_, rfl, hln, hm, hfine, hm.psl (fun i hi => ?_), HBr.out.grown g2 HBr.out.size (fun r hr => by cases hr; omega)⟩
          have := (hfine.2.1 _ (show (T'.map fun t => (t.2.2 : Mon)).getD i ([], 0) ∈ _ from by
            rw [List.getD_eq_getElem?_getD, List.getElem?_eq_getElem (by omega)]; exact List.getElem_mem _)).1
          omega
        have hTi : (0 : Int) < T.length := by omega
        clear hC hTM hperm HR hit hbw fin FIN hEl hRow
        go_wp2_with fail
        refine Calls.mono HSo.out ?_
        rintro r w2 ⟨rfl, g2, T', p2, r2, s2⟩
        obtain ⟨q, -, hql, hm2, hfi, hps, hB2⟩ := HMi.out w2 T' g2 p2 r2 s2
        have HGo := (show Hid _ from implPoly_any (some ⟨g, 0, none⟩) T.length cp q w2 hps (by omega))
        have HFi := (show Hid _ from hfi)
        have HM2 := (show Hid _ from hm2)
        clear HSo HMi g2 p2 r2 s2 hps hfi hm2
        cases hq : polyB q with
        | true =>
          rw [hq] at HGo
          go_wp2_with fail
          refine Calls.mono HGo.out ?_
          rintro r w3 ⟨rfl, hb3⟩
          have hB3 := hB2.trans (hb3.mono hB2.size)
          have HM3 := (show Hid _ from PMine.map (lo' := w.heap.size) (hi' := w3.heap.size) HM2.out (Nat.le_refl _) hb3.size (Nat.le_refl _) (fun x _ hx => hb3.block x hx))
          clear HGo hb3
          go_wp2
          go_ret2
          exact ⟨_, q, by rw [hq]; rfl, hB3, HFi.out.1, HFi.out.2.1, HFi.out.2.2, .inr ⟨g, cp, by rw [if_pos hq, hql]; rfl, by rw [if_pos hq]; omega, by rw [if_pos hq]; omega, by rw [if_pos hq, hql]; exact HM3.out⟩⟩
        | false =>
          rw [hq] at HGo
          go_wp2_with fail
          refine Calls.mono HGo.out ?_
          rintro r w3 ⟨rfl, hb3⟩
          have hB3 := hB2.trans (hb3.mono hB2.size)
          clear HGo hb3
          go_wp2
          go_ret2
          exact ⟨_, q, by rw [hq]; rfl, hB3, HFi.out.1, HFi.out.2.1, HFi.out.2.2, .inl ⟨by rw [if_neg (by rw [hq]; exact Bool.false_ne_true)], _, _, rfl⟩⟩
    · intro e he0 w1 HW1
      have he : e ∈ (leftOf es seen).toList := by simpa using he0
      clear he0
      have hw1 := HW1.out
      clear HW1
      have heE : e ∈ es.toList := by
        unfold leftOf at he
        simp only [Array.toList_filter, List.mem_filter] at he
        exact he.1
      obtain ⟨j, hj⟩ := List.getElem?_of_mem heE
      obtain ⟨m, hm, ek, ev⟩ := entries_at HEnt.out hj
      have hmk := HK4.out m (List.mem_of_getElem? hm)
      obtain ⟨es4, y⟩ := m
      obtain ⟨hm4, hmi⟩ := hmk
      simp only at ek ev hm4
      obtain ⟨a0, a1, a2, a3, rfl⟩ : ∃ a0 a1 a2 a3, es4 = [a0, a1, a2, a3] := by
        match es4, hm4 with
        | [a, b, c, d], _ => exact ⟨a, b, c, d, rfl⟩
      rw [keyV4] at ek
      obtain ⟨W1, hW1⟩ : ∃ W1, setBlock w1 w.heap.size (.mapIter (some b) clock (seen.push e.born) clock) = W1 := ⟨_, rfl⟩
      have hws := hbr.size
      have hwl : w.heap.size < wr.heap.size := (Array.getElem?_eq_some_iff.1 hit).1
      have hh1 : ∀ x : Nat, w1.heap[x]? = wr.heap[x]? := fun x => by rcases hw1 with rfl | rfl <;> rfl
      have hsz1 : w1.heap.size = wr.heap.size := by rcases hw1 with rfl | rfl <;> rfl
      have hszW : W1.heap.size = wr.heap.size := by rw [← hW1, setBlock_size, hsz1]
      have hblk : ∀ x, x ≠ w.heap.size → W1.heap[x]? = wr.heap[x]? := fun x hx => by rw [← hW1, setBlock_ne x hx]; exact hh1 x
      have hitW : W1.heap[w.heap.size]? = some (.mapIter (some b) clock (seen.push e.born) clock) := by rw [← hW1]; exact setBlock_get (by omega)
      have hBW : Below w.heap.size w W1 := by
        have o1 : w1.os = wr.os ∧ w1.tape = wr.tape ∧ w1.output = wr.output := by rcases hw1 with rfl | rfl <;> exact ⟨rfl, rfl, rfl⟩
        refine ⟨?_, ?_, ?_, by omega, fun x hx => (hblk x (by omega)).trans (hbr.block x hx)⟩
        · rw [← hW1]; exact o1.1.trans hbr.os
        · rw [← hW1]; exact o1.2.1.trans hbr.tape
        · rw [← hW1]; exact o1.2.2.trans hbr.output
      have hbW1 : W1.heap[b]? = some (.map es clock) := (hblk b (by omega)).trans hbw
      have hen := run_entry_at (P := Tryz.prog) W1 w.heap.size b clock seen es clock e hitW hbW1 heE HS2.out
      rw [ek, ev] at hen
      have HC1 : Hid (CollR W1 (w.heap.size + 1) u4 T) := HR.out.2.2.2.1.same (by omega) (fun x hx _ => hblk x (by omega))
      obtain ⟨W2, hW2⟩ : ∃ W2, W1.alloc (.cells #[.int .i64 a0, .int .i64 a1, .int .i64 a2, .int .i64 a3] 88) = W2 := ⟨_, rfl⟩
      have hb2 : Below W1.heap.size W1 W2 := by rw [← hW2]; exact (Below.refl _ _).alloc (Nat.le_refl _) _
      have hs2 : W2.heap.size = W1.heap.size + 1 := by rw [← hW2]; simp
      have hSl : Sl W2 (some ⟨W1.heap.size, 0, none⟩) 4 [a0, a1, a2, a3] := by
        refine ⟨rfl, .inr ⟨W1.heap.size, 0, rfl, by omega, fun i hi => ?_⟩⟩
        rw [← hW2]
        match i, hi with
        | 0, _ => simp [go_sem]
        | 1, _ => simp [go_sem]
        | 2, _ => simp [go_sem]
        | 3, _ => simp [go_sem]
      have HCl := (show Hid _ from clone4_any W1.heap.size 0 4 [a0, a1, a2, a3] W2 hSl)
      rw [hszW] at HCl
      have hMet := HR.out.2.2.1.more he
      have hTm := HR.out.2.2.2.2.1
      have hless := left_less he
      have hLl : (L ++ [e]).length ≤ es.toList.length := by
        have n1 : (L ++ [e]).Nodup := nodup_of_map _ _ hMet.2.2
        exact nodup_le _ _ n1 (fun x hx => hMet.2.1 x hx)
      have hTb : T.length < 100000 := by
        rw [List.length_append] at hLl
        simp only [List.length_singleton] at hLl
        omega
      have HD : Hid (decode e = ([a0, a1, a2, a3], y)) := decode_of (by rw [ek, keyV4]) ev
      have HFin : Hid (∀ (g cp : Nat) (w3 Wa w5 : World) (v5 : Value), 4 ≤ cp → W2.heap.size ≤ g → g < w3.heap.size → Pow4 w3 g [a0, a1, a2, a3] → Below W2.heap.size W2 w3 → w3.alloc (.cells #[.slice (some ⟨g, 0, none⟩) 4 cp, .int .i64 y] 57) = Wa → w5.ownsRow (w.heap.size + 1) 57 2 v5 (T.length + 1) (flatT T ++ [.slice (some ⟨g, 0, none⟩) 4 cp, .int .i64 y]) → Wa.grownBy w5 u4.ownBlock → (v5.ownBlock = u4.ownBlock ∨ v5.ownBlock = some Wa.heap.size) →
          OrdR w w5 b es clock v5 (L ++ [e]) (T ++ [(g, cp, [a0, a1, a2, a3], y)]) (seen.push e.born) clock ∧ stillIn b w.heap.size w5 = (leftOf es (seen.push e.born)).size) := fun g cp w3 Wa w5 v5 hcp hg1 hg2 hp4 hb3 hWa hown5 hg5 hat5 => by
        have hb3a : Below w3.heap.size w3 Wa := by rw [← hWa]; exact (Below.refl _ _).alloc (Nat.le_refl _) _
        have hb1a : Below W1.heap.size W1 Wa := hb2.trans ((hb3.trans (hb3a.mono hb3.size)).mono hb2.size)
        have hsa := hb3a.size
        have hC5 := CollR.push (t := (g, cp, [a0, a1, a2, a3], y)) HC1.out hb1a hg5 hown5 hat5 (by show w.heap.size + 1 ≤ g; omega) (by show W1.heap.size ≤ g; omega) (by show g < _; omega) hcp (hp4.block (hb3a.block g hg2))
        have hit5 : w5.heap[w.heap.size]? = some (.mapIter (some b) clock (seen.push e.born) clock) := by
          rw [hg5.block w.heap.size (by have := hb1a.size; omega) (fun e' => by have := own_ge HC1.out.1 w.heap.size e'.symm; omega), hb1a.block w.heap.size (by omega)]
          exact hitW
        have hBa : Below w.heap.size w Wa := hBW.trans (hb1a.mono (by omega))
        have hB5 : Below w.heap.size w w5 := hBa.grown hg5 hBa.size (fun r hr => by have := own_ge HC1.out.1 r hr; omega)
        refine ⟨⟨hit5, Nat.le_refl _, hMet, hC5, ?_, hB5⟩, ?_⟩
        · rw [List.map_append, List.map_append, hTm]
          simp only [List.map_cons, List.map_nil, HD.out]
        · unfold stillIn
          rw [hit5, (hB5.block b hblt).trans hb]
      have HA : Hid (∀ w3, Below W2.heap.size W2 w3 → ∀ Wa (g cp : Nat), w3.alloc (.cells #[.slice (some ⟨g, 0, none⟩) 4 cp, .int .i64 y] 57) = Wa → Wa.ownsRow (w.heap.size + 1) 57 2 u4 T.length (flatT T) ∧ w.heap.size + 1 ≤ Wa.heap.size ∧ ∀ j u, [Value.slice (some ⟨g, 0, none⟩) 4 cp, .int .i64 y][j]? = some u → Wa.cell? ((⟨w3.heap.size, 0, none⟩ : Addr).add j) = some u) := fun w3 hb3 Wa g cp hWa => by
        have hb3a : Below w3.heap.size w3 Wa := by rw [← hWa]; exact (Below.refl _ _).alloc (Nat.le_refl _) _
        have hb1a : Below W1.heap.size W1 Wa := hb2.trans ((hb3.trans (hb3a.mono hb3.size)).mono hb2.size)
        exact ⟨(HC1.out.keep hb1a).1, by have := hb1a.size; omega, by rw [← hWa]; exact two_newO w3 _ _ _⟩
      clear hMet hTm hLl hblk hBW hbW1 hb2 hSl hh1 hitW heE hj hm
      (try rw [hW1])
      clear hW1
      rw [ek, ev]
      have HLe : Hid ((leftOf es (seen.push e.born)).size < (leftOf es seen).size) := hless
      clear ek ev hless
      go_wp2_with fail
      (try rw [hW2])
      refine Calls.mono HCl.out ?_
      rintro r w3 ⟨g, cp, rfl, hcp, hg1, hg2, hp4, hb3⟩
      obtain ⟨Wa, hWa⟩ : ∃ Wa, w3.alloc (.cells #[.slice (some ⟨g, 0, none⟩) 4 cp, .int .i64 y] 57) = Wa := ⟨_, rfl⟩
      obtain ⟨hrow, hsa, hnew⟩ := HA.out w3 hb3 Wa g cp hWa
      have HF5 : Hid (∀ w5 v5, w5.ownsRow (w.heap.size + 1) 57 2 v5 (T.length + 1) (flatT T ++ [.slice (some ⟨g, 0, none⟩) 4 cp, .int .i64 y]) → Wa.grownBy w5 u4.ownBlock → (v5.ownBlock = u4.ownBlock ∨ v5.ownBlock = some Wa.heap.size) → OrdR w w5 b es clock v5 (L ++ [e]) (T ++ [(g, cp, [a0, a1, a2, a3], y)]) (seen.push e.born) clock ∧ stillIn b w.heap.size w5 = (leftOf es (seen.push e.born)).size) := fun w5 v5 => HFin.out g cp w3 Wa w5 v5 hcp hg1 hg2 hp4 hb3 hWa
      clear HFin HCl HA hcp hg1 hg2 hp4 hb3
      go_wp2_with ((try rw [hWa]); at_builtin; refine wpList_append_own_at _ rfl _ _ 26 rfl (w.heap.size + 1) 57 i0 (.agg #[.slice none 0 0, .int .i64 0]) 2 32 Tryz.underlying26 hi hz0 hz1 hz2 rfl (by decide) u4 T.length (flatT T) rfl hrow ⟨w3.heap.size, 0, none⟩ 1 1 [.slice (some ⟨g, 0, none⟩) 4 cp, .int .i64 y] rfl (by simp) hnew (two_oneO _ _ _) (by unfold maxLen; omega) (by omega) hsa ?_; intro v5 w5 hown5 hg5 _ hat5)
      obtain ⟨hR5, hst5⟩ := HF5.out w5 v5 hown5 hg5 hat5
      have HR5 := (show Hid _ from hR5)
      have HM5 : Hid (stillIn b w.heap.size w5 < stillIn b w.heap.size wr) := by show _ < _; rw [hst5, HST.out]; exact HLe.out
      clear hown5 hg5 hat5 HF5 hR5 hst5 hrow hnew hWa
      go_roundw
      case rel => exact ⟨_, _, _, _, HR5⟩
      case measure => exact HM5.out
end Go.Proofs.YtpjgjpjfchfmlaaGreatDoor
