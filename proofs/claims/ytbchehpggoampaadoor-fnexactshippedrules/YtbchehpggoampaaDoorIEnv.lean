/-
  PROVED HERE: what of the program's tables stays where memory is changed behind them; the pieces of the plain reading. No condition.
-/
import Derived.Test.YtbchehpggoampaaDoorIVar
import Derived.Test.YtbchehpggoampaaDoorSigDef
import Derived.Test.YtbchehpggoampaaDoorPlainRead
import Derived.Test.YtbchehpggoampaaDoorReadAll
namespace Go.Proofs.YtbchehpggoampaaDoor
open Go.ChangeShapes Go.WideShapes Go.ChangeAt Go.RowKit
set_option linter.unusedVariables false

/-- What reading needs of the world. -/
def Env (w : World) : Prop := Pow w ∧ Errs w ∧ Sig w
/-- The tables lie below a block. -/
def Gl (g : Nat) : Prop := 3 < g ∧ 6 < g ∧ 7 < g ∧ 1 < g
theorem var_keep {P : Program} {W W' : World} {n : String} {g0 k : Nat} (hg : P.globalNamed n = some g0) (hk : g0 < k) (hb : Below k W W') : W'.var? P n = W.var? P n := by
  unfold World.var?
  rw [hg]
  simp only [Option.bind_some]
  rw [hb.block g0 hk]
theorem Env.keepG {w w' : World} {g : Nat} (h : Env w) (hG : Gl g) (hb : Below g w w') : Env w' := by
  obtain ⟨h1, ⟨⟨t1, p1, h2⟩, t2, p2, h3⟩, h4⟩ := h
  obtain ⟨g1, g2, g3, g4⟩ := hG
  refine ⟨?_, ⟨⟨t1, p1, ?_⟩, t2, p2, ?_⟩, fun i hi => ?_⟩
  · exact (var_keep gPow g1 hb).trans h1
  · exact (var_keep gES g2 hb).trans h2
  · exact (var_keep gER g3 hb).trans h3
  · exact (hb.cell (p := ⟨1, i, none⟩) g4).trans (h4 i hi)
theorem var_lt {P : Program} {W : World} {n : String} {g0 : Nat} {cs : Array Value} (hg : P.globalNamed n = some g0) (h : W.var? P n = some cs) : g0 < W.heap.size := by
  unfold World.var? at h
  rw [hg] at h
  simp only [Option.bind_some] at h
  rcases Nat.lt_or_ge g0 W.heap.size with h' | h'
  · exact h'
  · rw [Array.getElem?_eq_none h'] at h; cases h
theorem Env.gl {w : World} (h : Env w) : Gl w.heap.size := by
  obtain ⟨h1, ⟨⟨t1, p1, h2⟩, t2, p2, h3⟩, h4⟩ := h
  exact ⟨var_lt gPow h1, var_lt gES h2, var_lt gER h3, World.block_lt_of_cell? w _ (h4 0 (by decide))⟩
theorem Env.keep {w w' : World} (h : Env w) (hb : Below w.heap.size w w') : Env w' := h.keepG h.gl hb
theorem Gl.mono {g g' : Nat} (h : Gl g) (hg : g ≤ g') : Gl g' := ⟨by have := h.1; omega, by have := h.2.1; omega, by have := h.2.2.1; omega, by have := h.2.2.2; omega⟩

end Go.Proofs.YtbchehpggoampaaDoor
