/-
  PROVED HERE: how the program's products lie when they are taken out of the map, and what a step of a range over the map gives. No condition.
-/
import Derived.Test.YtpjgjpjfchfmlaaSort4
import Derived.Test.YtpjgjpjfchfmlaaMapPuts
import Derived.Test.YtpjgjpjfchfmlaaPolyRows
namespace Go.Proofs.Ytpjgjpjfchfmlaa
open Go.ChangeShapes Go.WideShapes Go.ChangeAt Go.RowKit
open Go.MapKept Go.ChangeMaps
set_option linter.unusedVariables false

def flatT (T : List Cel) : List Value := T.flatMap encT
theorem flatT_len (T : List Cel) : (flatT T).length = T.length * 2 := by
  induction T with
  | nil => rfl
  | cons t r ih => simp only [flatT, List.flatMap_cons, List.length_append, List.length_cons] at *; rw [ih]; simp [encT]; omega
theorem flatT_append (T U : List Cel) : flatT (T ++ U) = flatT T ++ flatT U := by simp [flatT]
theorem flatT_get : ∀ (T : List Cel) (i : Nat) (t : Cel), T[i]? = some t → (flatT T)[i * 2]? = some (.slice (some ⟨t.1, 0, none⟩) 4 t.2.1) ∧ (flatT T)[i * 2 + 1]? = some (.int .i64 t.2.2.2)
  | [], _, _, h => by simp at h
  | x :: l, 0, t, h => by simp at h; subst h; exact ⟨rfl, rfl⟩
  | x :: l, i + 1, t, h => by
    have := flatT_get l i t (by simpa using h)
    rw [show (i + 1) * 2 = i * 2 + 1 + 1 from by omega]
    simpa [flatT, encT] using this
/-- Products that have been taken out, in a row of one's own. -/
def CollR (w : World) (lo : Nat) (v : Value) (T : List Cel) : Prop :=
  w.ownsRow lo 43 2 v T.length (flatT T) ∧ T.Pairwise (fun x y => x.1 ≠ y.1) ∧ ∀ t ∈ T, lo ≤ t.1 ∧ t.1 < w.heap.size ∧ v.ownBlock ≠ some t.1 ∧ 4 ≤ t.2.1 ∧ Pow4 w t.1 t.2.2.1
theorem CollR.nil (w : World) (lo : Nat) : CollR w lo (.slice none 0 0) [] := ⟨World.ownsRow_nil _ _ _ _, List.Pairwise.nil, fun t ht => by cases ht⟩
theorem own_same {w w' : World} {base e size n : Nat} {v : Value} {xs : List Value} (h : w.ownsRow base e size v n xs) (hk : ∀ x, base ≤ x → x < w.heap.size → w'.heap[x]? = w.heap[x]?) : w'.ownsRow base e size v n xs := by
  refine ⟨h.1, ?_⟩
  rcases h.2 with h0 | ⟨g, cap, cur, rfl, hb, hg, hr⟩
  · exact .inl h0
  · exact .inr ⟨g, cap, cur, rfl, hb, (hk g hb (Array.getElem?_eq_some_iff.1 hg).1).trans hg, hr⟩
theorem CollR.same {w w' : World} {lo : Nat} {v : Value} {T : List Cel} (h : CollR w lo v T) (hs : w.heap.size ≤ w'.heap.size) (hk : ∀ x, lo ≤ x → x < w.heap.size → w'.heap[x]? = w.heap[x]?) : CollR w' lo v T := by
  obtain ⟨h1, h2, h3⟩ := h
  refine ⟨own_same h1 hk, h2, fun t ht => ?_⟩
  obtain ⟨a, b, c, d, e⟩ := h3 t ht
  exact ⟨a, Nat.lt_of_lt_of_le b hs, c, d, e.block (hk _ a b)⟩
theorem CollR.keep {w w' : World} {lo : Nat} {v : Value} {T : List Cel} (h : CollR w lo v T) (hb : Below w.heap.size w w') : CollR w' lo v T := h.same hb.size (fun x _ hx => hb.block x hx)
theorem own_inC {w : World} {base e size n : Nat} {v : Value} {xs : List Value} (h : w.ownsRow base e size v n xs) : ∀ x, v.ownBlock = some x → x < w.heap.size := by
  intro x hx
  rcases h.2 with ⟨rfl, _⟩ | ⟨g, cap, cur, rfl, _, hg, _⟩
  · cases hx
  · cases hx; exact Array.getElem?_eq_some_iff.1 hg |>.1
/-- Behind an append. -/
theorem CollR.push {w wa w5 : World} {lo : Nat} {v v5 : Value} {T : List Cel} {t : Cel} (h : CollR w lo v T) (hb : Below w.heap.size w wa) (hg : wa.grownBy w5 v.ownBlock) (hown : w5.ownsRow lo 43 2 v5 (T.length + 1) (flatT T ++ encT t)) (hat : v5.ownBlock = v.ownBlock ∨ v5.ownBlock = some wa.heap.size)
    (t1 : lo ≤ t.1) (t2 : w.heap.size ≤ t.1) (t3 : t.1 < wa.heap.size) (t4 : 4 ≤ t.2.1) (t5 : Pow4 wa t.1 t.2.2.1) : CollR w5 lo v5 (T ++ [t]) := by
  have ha := h.keep hb
  obtain ⟨h1, h2, h3⟩ := ha
  have hvt : v.ownBlock ≠ some t.1 := fun e => by have := own_inC h.1 t.1 e; omega
  have hmov : ∀ {x : Nat} {e : List Int}, x < wa.heap.size → v.ownBlock ≠ some x → Pow4 wa x e → Pow4 w5 x e ∧ v5.ownBlock ≠ some x := fun {x e} hx hne hp => ⟨hp.block (hg.block x hx (fun e' => hne e'.symm)), by
    rcases hat with e' | e'
    · rw [e']; exact hne
    · rw [e']; intro e''; have := Option.some.inj e''; omega⟩
  refine ⟨by rw [List.length_append, flatT_append]; simpa [flatT] using hown, List.pairwise_append.2 ⟨h2, List.pairwise_singleton _ _, fun x hx y hy => ?_⟩, fun x hx => ?_⟩
  · rw [List.mem_singleton.1 hy]
    have := (h.2.2 x hx).2.1
    omega
  · rcases List.mem_append.1 hx with hx | hx
    · obtain ⟨a, b, c, d, e⟩ := h3 x hx
      obtain ⟨m1, m2⟩ := hmov b c e
      exact ⟨a, Nat.lt_of_lt_of_le b hg.size, m2, d, m1⟩
    · rw [List.mem_singleton.1 hx]
      obtain ⟨m1, m2⟩ := hmov t3 hvt t5
      exact ⟨t1, Nat.lt_of_lt_of_le t3 hg.size, m2, t4, m1⟩
/-- What an entry says. -/
def decK : Value → List Int
  | .agg cs => cs.toList.map intOf
  | _ => []
def decode (x : MapEntry) : Mon := (decK x.key, intOf x.val)
theorem decode_of {x : MapEntry} {m : Mon} (h1 : x.key = keyV m.1) (h2 : x.val = .int .i64 m.2) : decode x = m := by
  unfold decode
  rw [h1, h2]
  unfold keyV decK
  simp only [List.map_map]
  refine Prod.ext ?_ rfl
  show m.1.map _ = m.1
  have : (intOf ∘ Value.int .i64) = id := rfl
  rw [this, List.map_id]
theorem decode_all {l : List MapEntry} {M : List Mon} (h : l.map (fun x => (x.key, x.val)) = M.map entM) : l.map decode = M := by
  apply List.ext_getElem?
  intro i
  rw [List.getElem?_map]
  cases hx : l[i]? with
  | none =>
    have : M.length ≤ i := by
      have := entries_len h
      have := List.getElem?_eq_none_iff.1 hx
      omega
    rw [List.getElem?_eq_none this]; rfl
  | some x =>
    obtain ⟨m, hm, k1, k2⟩ := entries_at h hx
    rw [hm, Option.map_some, decode_of k1 k2]
theorem wpList_next4 {P : Program} (w : World) {ops : Array Oper} {rest : List Oper} {o : Oper} {a : Act} {Q : Exit → Act → World → Prop} (hg : o.guard = none) (it : Operand) (hop : o.op = Op.next it false) (r bm since c0 : Nat) (seen : Array Nat) (es : Array MapEntry) (clock : Nat) (hit : a.eval it = .pointer (some ⟨r, 0, none⟩))
    (hr : w.heap[r]? = some (.mapIter (some bm) since seen c0)) (hb : w.heap[bm]? = some (.map es clock)) (hold : ∀ x ∈ es.toList, x.born < since) (hsc : since ≤ c0)
    (hDone : (leftOf es seen).size = 0 → wpList P ops Q rest (a.put o.dst (.tuple #[.bool false])) w)
    (hMore : ∀ e ∈ (leftOf es seen).toList, ∀ w1 : World, Hid (w1 = w ∨ w1 = w.drew) → wpList P ops Q rest (a.put o.dst (.tuple #[.bool true, e.key, e.val])) (setBlock w1 r (.mapIter (some bm) since (seen.push e.born) clock))) :
    wpList P ops Q (o :: rest) a w := by
  refine wpList_plain hg fun K' hK' => ?_
  unfold Oper.wp
  rcases run_next_at (P := P) w o.type r bm since c0 seen es clock hr hb hold hsc with ⟨h0, hrun⟩ | ⟨e, he, w1, hw1, hrun⟩
  · simp [execOp, hop, hit, hrun, Result.andThen]
    exact hK' _ _ (hDone h0)
  · simp [execOp, hop, hit, hrun, Result.andThen]
    exact hK' _ _ (hMore e he w1 hw1)
theorem nodup_of_map {α β : Type} (f : α → β) : ∀ l : List α, (l.map f).Nodup → l.Nodup
  | [], _ => List.Pairwise.nil
  | a :: l, h => by
    rw [List.map_cons, List.nodup_cons] at h
    exact List.nodup_cons.2 ⟨fun hm => h.1 (List.mem_map.2 ⟨a, hm, rfl⟩), nodup_of_map f l h.2⟩
theorem map_inj_nodup {α β : Type} (f : α → β) : ∀ (l : List α), (l.map f).Nodup → ∀ x ∈ l, ∀ y ∈ l, f x = f y → x = y
  | [], _, _, hx, _, _, _ => by cases hx
  | a :: l, h, x, hx, y, hy, e => by
    rw [List.map_cons, List.nodup_cons] at h
    rcases List.mem_cons.1 hx with rfl | hx'
    · rcases List.mem_cons.1 hy with rfl | hy'
      · rfl
      · exact absurd (List.mem_map.2 ⟨y, hy', e.symm⟩) h.1
    · rcases List.mem_cons.1 hy with rfl | hy'
      · exact absurd (List.mem_map.2 ⟨x, hx', e⟩) h.1
      · exact map_inj_nodup f l h.2 x hx' y hy' e
theorem nodup_le {α : Type} : ∀ (l k : List α), l.Nodup → (∀ x ∈ l, x ∈ k) → l.length ≤ k.length
  | [], _, _, _ => Nat.zero_le _
  | a :: r, k, h, hs => by
    obtain ⟨h1, h2⟩ := List.nodup_cons.1 h
    obtain ⟨s, t, rfl⟩ := List.append_of_mem (hs a (List.mem_cons_self ..))
    have := nodup_le r (s ++ t) h2 (fun x hx => by
      have := hs x (List.mem_cons_of_mem _ hx)
      rcases List.mem_append.1 this with h' | h'
      · exact List.mem_append.2 (.inl h')
      · rcases List.mem_cons.1 h' with rfl | h'
        · exact absurd hx h1
        · exact List.mem_append.2 (.inr h'))
    simp only [List.length_append, List.length_cons] at *
    omega
/-- What has been met so far. -/
def Met (es : Array MapEntry) (seen : Array Nat) (L : List MapEntry) : Prop := seen.toList = L.map (·.born) ∧ (∀ x ∈ L, x ∈ es.toList) ∧ (L.map (·.born)).Nodup
theorem Met.more {es : Array MapEntry} {seen : Array Nat} {L : List MapEntry} (h : Met es seen L) {e : MapEntry} (he : e ∈ (leftOf es seen).toList) : Met es (seen.push e.born) (L ++ [e]) := by
  obtain ⟨h1, h2, h3⟩ := h
  unfold leftOf at he
  simp only [Array.toList_filter, List.mem_filter] at he
  obtain ⟨e1, e2⟩ := he
  have hn : e.born ∉ L.map (·.born) := by
    rw [← h1]
    intro hm
    have : seen.contains e.born = true := by simpa using hm
    rw [this] at e2
    cases e2
  refine ⟨by rw [Array.toList_push, h1, List.map_append]; rfl, fun x hx => ?_, ?_⟩
  · rcases List.mem_append.1 hx with hx | hx
    · exact h2 x hx
    · rw [List.mem_singleton.1 hx]; exact e1
  · rw [List.map_append]
    refine List.nodup_append.2 ⟨h3, by simp, fun a ha c hc e' => ?_⟩
    have e2' : a = e.born := e'.trans (List.mem_singleton.1 hc)
    exact hn (e2' ▸ ha)
theorem Met.fin {es : Array MapEntry} {seen : Array Nat} {L : List MapEntry} (h : Met es seen L) (hs : (es.toList.map (·.born)).Nodup) (h0 : (leftOf es seen).size = 0) : L.Perm es.toList := by
  obtain ⟨h1, h2, h3⟩ := h
  have hL : L.Nodup := nodup_of_map _ _ h3
  have hE : es.toList.Nodup := nodup_of_map _ _ hs
  refine (List.perm_ext_iff_of_nodup hL hE).2 fun x => ⟨h2 x, fun hx => ?_⟩
  have hin : x.born ∈ seen.toList := by
    by_cases hc : seen.contains x.born = true
    · simpa using hc
    · exfalso
      have : x ∈ (leftOf es seen).toList := by
        unfold leftOf
        simp only [Array.toList_filter, List.mem_filter]
        exact ⟨hx, by simpa using hc⟩
      have hl : 0 < (leftOf es seen).size := by
        rw [← Array.length_toList]
        exact List.length_pos_of_mem this
      omega
  rw [h1] at hin
  obtain ⟨y, hy, hb⟩ := List.mem_map.1 hin
  have hy' := h2 y hy
  have : y = x := map_inj_nodup _ _ hs y hy' x hx hb
  rw [← this]; exact hy
/-- How many are still to come. -/
def stillIn (b r : Nat) (w : World) : Nat :=
  match w.heap[b]?, w.heap[r]? with
  | some (.map es _), some (.mapIter _ _ seen _) => (leftOf es seen).size
  | _, _ => 0
theorem left_less {es : Array MapEntry} {seen : Array Nat} {e : MapEntry} (he : e ∈ (leftOf es seen).toList) : (leftOf es (seen.push e.born)).size < (leftOf es seen).size := by
  have h1 : leftOf es (seen.push e.born) = (leftOf es seen).filter fun x => !(x.born == e.born) := by
    unfold leftOf
    rw [Array.filter_filter]
    congr 1
    funext x
    by_cases hx : x.born = e.born <;> simp [hx]
  have h2 : ∀ (A : Array MapEntry) (f : MapEntry → Bool), (A.filter f).size = (A.toList.filter f).length := fun A f => by rw [← Array.length_toList, Array.toList_filter]
  rw [h1, h2, ← Array.length_toList]
  exact List.length_filter_lt_length_iff_exists.2 ⟨e, he, by simp⟩
end Go.Proofs.Ytpjgjpjfchfmlaa
