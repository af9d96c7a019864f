/-
  PROVED HERE: a region that draws its order, whose operations only read and whose callees turn nothing that lay there ahead of them, may be walked in the order of the text. No condition.
-/
import Derived.WalkKit
import Derived.BigQuiet
namespace Go.Proofs.YthkjmgjajmghmaaDoor
open Go.RowKit
set_option linter.unusedVariables false

/-- The worlds in which all that lay in W lies unturned. -/
def Ahead (W : World) : Type := {w' : World // Below W.heap.size W w'}
def Ahead.w {W : World} (x : Ahead W) : World := x.1
theorem Ahead.h {W : World} (x : Ahead W) : Below W.heap.size W x.w := x.2
def Ahead.mk {W w' : World} (h : Below W.heap.size W w') : Ahead W := ⟨w', h⟩
theorem Ahead.mk_w {W w' : World} (h : Below W.heap.size W w') : (Ahead.mk h).w = w' := rfl
theorem ahead_some (W : World) : Nonempty (Ahead W) := ⟨Ahead.mk (Below.refl _ _)⟩
theorem wp_region_ahead {P : Program} {id : Nat} {Q : Exit → Act → World → Prop} {a : Act} {w : World} {l : List Oper} (hm : P.follows .mixedOrders = true) (hB : Region.lexB .any l.toArray = true)
    (h : wpQuiet P l.toArray (fun w' => ∃ x : Ahead w, w' = x.w) (fun a' => ∀ w', (∃ x : Ahead w, w' = x.w) → Q .normal a' w') l a) : (Code.region id l.toArray true).wp P Q a w :=
  wp_region_quiet (C := fun w' => ∃ x : Ahead w, w' = x.w) hm hB ⟨Ahead.mk (Below.refl _ _).drew, rfl⟩ h
theorem ahead_of {P : Program} {f : FuncId} {args : Array Value} {W : World} {x : Ahead W} {v : Value}
    (h : Calls P f args x.w fun e w' => e = .returned v ∧ Below x.w.heap.size x.w w') : Calls P f args x.w fun e w' => e = .returned v ∧ ∃ y : Ahead W, w' = y.w :=
  h.mono fun _ w' ⟨he, hb⟩ => ⟨he, Ahead.mk (x.h.trans (hb.mono x.h.size)), rfl⟩
theorem ahead_of_same {P : Program} {f : FuncId} {args : Array Value} {W : World} {x : Ahead W} {v : Value}
    (h : Calls P f args x.w fun e w' => e = .returned v ∧ w' = x.w) : Calls P f args x.w fun e w' => e = .returned v ∧ ∃ y : Ahead W, w' = y.w :=
  h.mono fun _ w' ⟨he, hb⟩ => ⟨he, x, hb⟩
end Go.Proofs.YthkjmgjajmghmaaDoor
