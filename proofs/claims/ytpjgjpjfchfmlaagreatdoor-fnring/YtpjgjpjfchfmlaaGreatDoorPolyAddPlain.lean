/-
  PROVED HERE: sums and products of sums of products, plainly: that they are told by their numbers. No condition.
-/
import Derived.Test.YtpjgjpjfchfmlaaGreatDoorPolyPlain
import Derived.Test.YtpjgjpjfchfmlaaGreatDoorPolyRows
namespace Go.Proofs.YtpjgjpjfchfmlaaGreatDoor
open Go.RowKit
set_option linter.unusedVariables false

theorem putP_le (o : List Mon) (e : List Int) (n : Int) : (putP o e n).length ≤ o.length + 1 := by
  unfold putP
  have h1 := putO_le (e := e) o false n
  have h2 := List.length_filter_le (fun m : Mon => m.2 != 0) (putO e o false n)
  simp only [Bool.false_eq_true, if_false] at h1
  omega
/-- Adding all products of a list. -/
def addF : List Mon → List Mon → List Mon
  | o, [] => o
  | o, m :: r => addF (putP o m.1 m.2) r
def addP (p q : List Mon) : List Mon := addF (addF [] p) q
/-- Powers added. -/
def addE : List Int → List Int → List Int
  | a :: r, b :: s => (a + b) :: addE r s
  | _, _ => []
theorem addE_len : ∀ {a b : List Int}, a.length = b.length → (addE a b).length = a.length
  | [], [], _ => rfl
  | [], _ :: _, h => by simp at h
  | _ :: _, [], h => by simp at h
  | a :: r, b :: s, h => by simp only [addE, List.length_cons]; rw [addE_len (by simpa using h)]
/-- A product times each of a list. -/
def mulL (a : Mon) (q : List Mon) : List Mon := q.map fun b => (addE a.1 b.1, wrap64 (a.2 * b.2))
def mulF : List Mon → List Mon → List Mon → List Mon
  | o, [], _ => o
  | o, a :: r, q => mulF (addF o (mulL a q)) r q
def mulP (p q : List Mon) : List Mon := mulF [] p q
/-- A falling sum of products that are fine. -/
def Sum4 (p : List Mon) : Prop := Falls p ∧ Fine 4 p
theorem addF_ok : ∀ {q o : List Mon}, Sum4 o → (∀ m ∈ q, m.1.length = 4 ∧ InI m.2) → Sum4 (addF o q) ∧ (addF o q).length ≤ o.length + q.length ∧ ∀ e, Like (coef (addF o q) e) (coef o e + coef q e)
  | [], o, h, _ => ⟨h, by simp [addF], fun e => by rw [coef_nil, Int.add_zero]; exact Like.refl _⟩
  | m :: r, o, h, hq => by
    obtain ⟨h1, h2⟩ := h
    obtain ⟨m1, m2⟩ := hq m (List.mem_cons_self ..)
    obtain ⟨f1, f2, f3⟩ := putP_ok m1 m2 h1 (fun x hx => ⟨(h2 x hx).1, (h2 x hx).2.1⟩)
    obtain ⟨g1, g2, g3⟩ := addF_ok (q := r) (o := putP o m.1 m.2) ⟨f1, f2⟩ (fun x hx => hq x (List.mem_cons_of_mem _ hx))
    refine ⟨g1, ?_, fun e => ?_⟩
    · have : (putP o m.1 m.2).length ≤ o.length + 1 := putP_le o m.1 m.2
      show (addF (putP o m.1 m.2) r).length ≤ _
      simp only [List.length_cons]
      omega
    · show Like (coef (addF (putP o m.1 m.2) r) e) _
      refine (g3 e).trans ?_
      rw [coef_cons]
      have := f3 e
      unfold Like at *
      omega
theorem sum4_nil : Sum4 [] := ⟨List.Pairwise.nil, fun x hx => by cases hx⟩
/-- What a product of sums has at some powers. -/
def mulC (p q : List Mon) (e : List Int) : Int := (p.map fun a => coef (mulL a q) e).sum
theorem mulC_cons (a : Mon) (r q : List Mon) (e : List Int) : mulC (a :: r) q e = coef (mulL a q) e + mulC r q e := by simp [mulC]
theorem mulF_ok {q : List Mon} (hq : ∀ m ∈ q, m.1.length = 4) : ∀ {p o : List Mon}, Sum4 o → (∀ m ∈ p, m.1.length = 4) → Sum4 (mulF o p q) ∧ (mulF o p q).length ≤ o.length + p.length * q.length ∧ ∀ e, Like (coef (mulF o p q) e) (coef o e + mulC p q e)
  | [], o, h, _ => ⟨h, by simp [mulF], fun e => by show Like (coef o e) (coef o e + 0); rw [Int.add_zero]; exact Like.refl _⟩
  | a :: r, o, h, hp => by
    have ha := hp a (List.mem_cons_self ..)
    obtain ⟨f1, f2, f3⟩ := addF_ok (q := mulL a q) h (fun m hm => by
      obtain ⟨b, hb, rfl⟩ := List.mem_map.1 hm
      exact ⟨by show (addE a.1 b.1).length = 4; rw [addE_len (by rw [ha, hq b hb]), ha], wrap_in _⟩)
    obtain ⟨g1, g2, g3⟩ := mulF_ok hq (p := r) f1 (fun x hx => hp x (List.mem_cons_of_mem _ hx))
    refine ⟨g1, ?_, fun e => ?_⟩
    · show (mulF (addF o (mulL a q)) r q).length ≤ _
      have : (mulL a q).length = q.length := by simp [mulL]
      simp only [List.length_cons, Nat.succ_mul]
      omega
    · show Like (coef (mulF (addF o (mulL a q)) r q) e) _
      rw [mulC_cons]
      refine (g3 e).trans ?_
      have := f3 e
      unfold Like at *
      omega
theorem addP_ok {p q : List Mon} (hp : ∀ m ∈ p, m.1.length = 4 ∧ InI m.2) (hq : ∀ m ∈ q, m.1.length = 4 ∧ InI m.2) : Sum4 (addP p q) ∧ (addP p q).length ≤ p.length + q.length ∧ ∀ e, Like (coef (addP p q) e) (coef p e + coef q e) := by
  obtain ⟨a1, a2, a3⟩ := addF_ok (q := p) sum4_nil hp
  obtain ⟨b1, b2, b3⟩ := addF_ok (q := q) a1 hq
  refine ⟨b1, ?_, fun e => ?_⟩
  · show (addF (addF [] p) q).length ≤ _
    simp only [List.length_nil] at a2
    omega
  · show Like (coef (addF (addF [] p) q) e) _
    refine (b3 e).trans ?_
    have := a3 e
    rw [coef_nil] at this
    unfold Like at *
    omega
theorem mulP_ok {p q : List Mon} (hp : ∀ m ∈ p, m.1.length = 4) (hq : ∀ m ∈ q, m.1.length = 4) : Sum4 (mulP p q) ∧ (mulP p q).length ≤ p.length * q.length ∧ ∀ e, Like (coef (mulP p q) e) (mulC p q e) := by
  obtain ⟨a1, a2, a3⟩ := mulF_ok hq (p := p) sum4_nil hp
  refine ⟨a1, by simp only [List.length_nil, Nat.zero_add] at a2; exact a2, fun e => ?_⟩
  have := a3 e
  rw [coef_nil, Int.zero_add] at this
  exact this
theorem sum_unique {p q : List Mon} (hp : Sum4 p) (hq : Sum4 q) (h : ∀ e, Like (coef p e) (coef q e)) : p = q := poly_unique p q hp.1 hq.1 hp.2 hq.2 h
end Go.Proofs.YtpjgjpjfchfmlaaGreatDoor
