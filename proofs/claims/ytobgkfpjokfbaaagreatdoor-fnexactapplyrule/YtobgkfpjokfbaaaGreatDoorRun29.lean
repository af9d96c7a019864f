/-
  PROVED HERE: what the program's placing of a node does to a closing in memory. No condition. what making parents flat, and joining the parts of two numbers, answers, to the model and to the program, at every list and every two numbers. No other condition. what joining the parts of two numbers answers, to the model and to the program, at every list and every two numbers. No other condition.
-/
import Derived.Test.YtobgkfpjokfbaaaGreatDoorRun28
import Derived.Deep.CutRange
import Derived.BigQuiet
import Derived.Test.YtobgkfpjokfbaaaGreatDoorRun14
namespace Go.Proofs.YtobgkfpjokfbaaaGreatDoor
open Go.ChangeShapes Go.WideShapes Go.ChangeAt Go.RowKit
open Go.MapKept Go.ChangeMaps
set_option linter.unusedVariables false

theorem infoTwo6 : (Tryz.prog.info? 135).map (fun i => (i.zero, i.size, i.bytes)) = some (some (.agg #[.int .i64 0, .int .i64 0]), 2, 16) := by kernel_rfl
theorem two_new6 (w : World) (x y : Value) (t : TypeId) : ∀ j u, [x, y][j]? = some u → (w.alloc (.cells #[x, y] t)).cell? ((⟨w.heap.size, 0, none⟩ : Addr).add j) = some u := by
  intro j u hj
  match j, hj with
  | 0, hj => simp at hj; subst hj; simp [Addr.add]
  | 1, hj => simp at hj; subst hj; simp [Addr.add]
  | j + 2, hj => simp at hj
theorem two_one6 (a b : Int) : ∀ u ∈ [Value.int .i64 a, .int .i64 b], u.oneCell' = true := by
  intro u hu
  simp only [List.mem_cons, List.not_mem_nil, or_false] at hu
  rcases hu with rfl | rfl <;> rfl
/-- A box that holds a shape. -/
def BoxS (w wx : World) (bx : Nat) (e : Sh) : Prop := w.heap.size ≤ bx ∧ bx < wx.heap.size ∧ Below w.heap.size w wx ∧ wx.cell? ⟨bx, 0, none⟩ = some (.int .i64 e.1) ∧ wx.cell? ⟨bx, 1, none⟩ = some (.int .i64 e.2.1) ∧ wx.cell? ⟨bx, 2, none⟩ = some (.int .i64 e.2.2.1) ∧ wx.cell? ⟨bx, 3, none⟩ = some (.int .i64 e.2.2.2.1) ∧ wx.cell? ⟨bx, 4, none⟩ = some (.int .i64 e.2.2.2.2)
theorem boxS_alloc {w w4 : World} (e : Sh) (h : Below w.heap.size w w4) : BoxS w (w4.alloc (.cells #[.int .i64 e.1, .int .i64 e.2.1, .int .i64 e.2.2.1, .int .i64 e.2.2.2.1, .int .i64 e.2.2.2.2] 115)) w4.heap.size e :=
  ⟨h.size, by simp, h.alloc h.size _, by simp [go_sem], by simp [go_sem], by simp [go_sem], by simp [go_sem], by simp [go_sem]⟩
theorem boxS_set {w wa w4 : World} (e : Sh) (ha : Below w.heap.size w wa) (h4 : Below (wa.alloc (.cells #[.int .i64 0, .int .i64 0, .int .i64 0, .int .i64 0, .int .i64 0] 115)).heap.size (wa.alloc (.cells #[.int .i64 0, .int .i64 0, .int .i64 0, .int .i64 0, .int .i64 0] 115)) w4) :
    BoxS w (((((w4.setCell ⟨wa.heap.size, 0, none⟩ (.int .i64 e.1)).setCell ⟨wa.heap.size, 1, none⟩ (.int .i64 e.2.1)).setCell ⟨wa.heap.size, 2, none⟩ (.int .i64 e.2.2.1)).setCell ⟨wa.heap.size, 3, none⟩ (.int .i64 e.2.2.2.1)).setCell ⟨wa.heap.size, 4, none⟩ (.int .i64 e.2.2.2.2)) wa.heap.size e := by
  have hlt : wa.heap.size < (wa.alloc (.cells #[.int .i64 0, .int .i64 0, .int .i64 0, .int .i64 0, .int .i64 0] 115)).heap.size := by simp
  have c : ∀ j, j < 5 → w4.cell? ⟨wa.heap.size, j, none⟩ = some (.int .i64 0) := fun j hj => by
    refine (h4.cell (p := ⟨wa.heap.size, j, none⟩) hlt).trans ?_
    rcases (show j = 0 ∨ j = 1 ∨ j = 2 ∨ j = 3 ∨ j = 4 by omega) with rfl | rfl | rfl | rfl | rfl <;> simp [go_sem]
  have c0 := c 0 (by omega)
  have c1 := c 1 (by omega)
  have c2 := c 2 (by omega)
  have c3 := c 3 (by omega)
  have c4 := c 4 (by omega)
  have hB : Below w.heap.size w w4 := (ha.alloc ha.size _).trans (h4.mono (ha.alloc ha.size _).size)
  refine ⟨ha.size, ?_, ((((hB.setCell (p := ⟨wa.heap.size, 0, none⟩) ha.size _).setCell (p := ⟨wa.heap.size, 1, none⟩) ha.size _).setCell (p := ⟨wa.heap.size, 2, none⟩) ha.size _).setCell (p := ⟨wa.heap.size, 3, none⟩) ha.size _).setCell (p := ⟨wa.heap.size, 4, none⟩) ha.size _, ?_, ?_, ?_, ?_, ?_⟩
  · have := h4.size
    simp at this ⊢
    omega
  all_goals simp [World.cell?_setCell_other, World.cell?_setCell_same', c0, c1, c2, c3, c4]

/-- A box that was laid ahead still holds zeros. -/
theorem box5 {w v3 : World} (h4 : Below (w.drew.alloc (.cells #[.int .i64 0, .int .i64 0, .int .i64 0, .int .i64 0, .int .i64 0] 115)).heap.size (w.drew.alloc (.cells #[.int .i64 0, .int .i64 0, .int .i64 0, .int .i64 0, .int .i64 0] 115)) v3) : ∀ j, j < 5 → v3.cell? ⟨w.heap.size, j, none⟩ = some (.int .i64 0) ∧ v3.frozen? ⟨w.heap.size, j, none⟩ = false := fun j hj => by
  have hlt : w.heap.size < (w.drew.alloc (.cells #[.int .i64 0, .int .i64 0, .int .i64 0, .int .i64 0, .int .i64 0] 115)).heap.size := by simp
  have e : (w.drew).heap.size = w.heap.size := rfl
  refine ⟨(h4.cell (p := ⟨w.heap.size, j, none⟩) hlt).trans ?_, (World.frozen?_of_block (a := ⟨w.heap.size, j, none⟩) (h4.block _ hlt)).trans ?_⟩
  · rw [← e]
    rcases (show j = 0 ∨ j = 1 ∨ j = 2 ∨ j = 3 ∨ j = 4 by omega) with rfl | rfl | rfl | rfl | rfl <;> simp [go_sem]
  · rw [← e]
    simp [go_sem]

set_option maxHeartbeats 3200000 in
set_option maxRecDepth 20000 in
theorem place_any {w0 w : World} {T : Nat → Nat} {n C bu bf : Nat} {vp vd : Value} {V : Nat → Value} {l : List Int} {U : Nat → List Int} {F : Sh → Option Int} {D : List (Int × Int)} {a : Option Addr} {cap : Nat} {p : List EN} {k : Nat}
    (hE : ESl w0 a n p) (hb : Below w0.heap.size w0 w) (hC : Clo w w0.heap.size T n C bu bf (.slice a n cap) vp vd V l U F D) (hN : nodesB p = true) (hI : InE p) (hP : partB l = true) (hk : k < n) (hD : D.length ≤ 100000) :
    Calls Tryz.prog 104 #[.pointer (some ⟨C, 0, none⟩), .int .i64 k] w fun e w' => e = .returned (.tuple #[]) ∧ Below w0.heap.size w0 w' ∧ ∃ T' vd', Clo w' w0.heap.size T' n C bu bf (.slice a n cap) vp vd' V l U (placeL p l (F, D) k).1 (placeL p l (F, D) k).2 := by
  have hpl : p.length = n := hE.1
  have hll : l.length = n := by have := hC.rp.1; simpa [vals] using this
  obtain ⟨bn, off, rfl, hbl, hc⟩ := hE.at (by omega)
  obtain ⟨ak, lk, ck, d1, d2, d3, hlk, hck, hSk⟩ := hc k hk
  obtain ⟨ap, cp, rfl, hSp⟩ := Sl.vals hC.rp
  have hfk := ((nodesB_iff p).1 hN).2 k (by omega)
  have hfew := fit_few hfk
  have hIk := hI k (by omega)
  have hsi := sh_in hP hfk hIk
  have hkids := fun t ht => kid_natI (k := k) (j := t) hN (by omega) ht
  obtain ⟨x, hx⟩ : ∃ x, p.getD k e0 = x := ⟨_, rfl⟩
  have hplace : placeL p l (F, D) k = match F (shO l x) with | some o => (F, D ++ [((k : Int), o)]) | none => (setS F (shO l x) (some (k : Int)), D) := by unfold placeL; rw [Int.toNat_natCast, hx]; rfl
  rw [hplace]
  obtain ⟨St, hSt⟩ : ∃ St, (match F (shO l x) with | some o => (F, D ++ [((k : Int), o)]) | none => (setS F (shO l x) (some (k : Int)), D)) = St := ⟨_, rfl⟩
  rw [hSt]
  rw [hx] at d1 d2 hSk hsi hfew hkids
  obtain ⟨xo, xn, xk⟩ := x
  simp only at d1 d2 hSk hfew hkids
  have hSl := hSk.1
  have HSh : Hid (∀ W, Below w.heap.size w W → Calls Tryz.prog 84 #[.agg #[.int .i64 xo, .int .i64 xn, .slice ak lk ck], .slice ap n cp] W fun e w' => e = .returned (shV (shO l (xo, xn, xk))) ∧ Below W.heap.size W w') := fun W hW => shape_any xo xn ak ap lk ck n cp xk l W (hSk.keep (hb.trans (hW.mono hb.size))) (hSp.keep hW) (by omega) (fun j hj => by
    obtain ⟨y, h1, h2⟩ := hkids j (by omega)
    exact ⟨y, h1, by omega⟩)
  have HX : Hid (∀ W, Below w.heap.size w W → W.cell? ⟨C, 0, none⟩ = some (.slice (some ⟨bn, off, none⟩) n cap) ∧ W.cell? ⟨C, 1, none⟩ = some (.slice ap n cp) ∧ W.cell? ⟨bn, off + k * 3, none⟩ = some (.int .i64 xo) ∧ W.cell? ⟨bn, off + k * 3 + 1, none⟩ = some (.int .i64 xn) ∧ W.cell? ⟨bn, off + k * 3 + 2, none⟩ = some (.slice ak lk ck)) := fun W hW => by
    have hX := hb.trans (hW.mono hb.size)
    exact ⟨(hW.cell (p := ⟨C, 0, none⟩) hC.hC.2.1).trans hC.c0, (hW.cell (p := ⟨C, 1, none⟩) hC.hC.2.1).trans hC.c1, (hX.cell (p := ⟨bn, off + k * 3, none⟩) hbl).trans d1, (hX.cell (p := ⟨bn, off + k * 3 + 1, none⟩) hbl).trans d2, (hX.cell (p := ⟨bn, off + k * 3 + 2, none⟩) hbl).trans d3⟩
  have HC : Hid (∀ W, Below w.heap.size w W → Clo W w0.heap.size T n C bu bf (.slice (some ⟨bn, off, none⟩) n cap) (.slice ap n cp) vd V l U F D ∧ Below w0.heap.size w0 W) := fun W hW => ⟨hC.keep hW, hb.trans (hW.mono hb.size)⟩
  have hkl : (k : Int) < n := by omega
  have hsz := hb.size
  have HK : Hid (C < w.heap.size ∧ bf < w.heap.size ∧ w0.heap.size ≤ w.heap.size) := ⟨hC.hC.2.1, hC.hf.2.1, hb.size⟩
  have HSI := (show Hid (ShIn (shO l (xo, xn, xk))) from hsi)
  unfold shV at HSh
  have HSt : Hid ((match F (shO l (xo, xn, xk)) with | some o => (F, D ++ [((k : Int), o)]) | none => (setS F (shO l (xo, xn, xk)) (some (k : Int)), D)) = St) := hSt
  clear hSt
  generalize shO l (xo, xn, xk) = e at HSh HSI HSt
  clear hC hb hE hc hSk hSp hfk hIk hkids hsi hplace hx hI hN hP d1 d2 d3 hsz
  obtain ⟨so, sn, sa, sb, sc⟩ := e
  simp only at HSh
  obtain ⟨i0, hi, hz0, hz1, hz2⟩ := info_parts infoTwo6
  go_enter Tryz.func104, Tryz.ntmps104
  go_upto_region 0 with fail
  go_cut [4] from 7 to 18 (fun s wx => ∃ bx : Nat, s = .pointer (some ⟨bx, 0, none⟩) ∧ BoxS w wx bx (so, sn, sa, sb, sc))
  case first =>
    have hBd : Below w.heap.size w w.drew := (Below.refl _ _).drew
    have hBdA : Below w.heap.size w (w.drew.alloc (.cells #[.int .i64 0, .int .i64 0, .int .i64 0, .int .i64 0, .int .i64 0] 115)) := hBd.alloc hBd.size _
    have HQx := fun W hW => (HX.out W hW)
    have zD := HQx w.drew hBd
    have sA := fun o : Obj => HQx (w.drew.alloc o) (hBd.alloc hBd.size o)
    have HShx := fun W hW => HSh.out W hW
    go_region_held3 (fun w' => w'.cell? ⟨C, 0, none⟩ = some (.slice (some ⟨bn, off, none⟩) n cap) ∧ w'.cell? ⟨C, 1, none⟩ = some (.slice ap n cp) ∧ w'.cell? ⟨bn, off + k * 3, none⟩ = some (.int .i64 xo) ∧ w'.cell? ⟨bn, off + k * 3 + 1, none⟩ = some (.int .i64 xn) ∧ w'.cell? ⟨bn, off + k * 3 + 2, none⟩ = some (.slice ak lk ck))
      (first | with_reducible assumption | with_reducible exact sS _ _ _ _ _ | with_reducible exact sA _ | with_reducible exact sB _ | assumption | exact sS _ _ _ _ _ | exact sA _ | exact sB _)
      (first
      | (go_at_call 84; first
          | (with_reducible refine Calls.mono (HShx w.drew hBd) ?_; rintro e v3 ⟨rfl, hb3⟩; have hB3 : Below w.heap.size w v3 := hBd.trans (hb3.mono hBd.size); have z3 := HQx v3 hB3; have sB := fun o : Obj => HQx (v3.alloc o) (hB3.alloc hB3.size o))
          | (refine Calls.mono (HShx (w.drew.alloc (.cells #[.int .i64 0, .int .i64 0, .int .i64 0, .int .i64 0, .int .i64 0] 115)) hBdA) ?_; rintro e v3 ⟨rfl, hb3a⟩; have hB3 : Below w.heap.size w v3 := hBdA.trans (hb3a.mono hBdA.size); have z3 := HQx v3 hB3; obtain ⟨p0, q0⟩ := box5 hb3a 0 (by omega); obtain ⟨p1, q1⟩ := box5 hb3a 1 (by omega); obtain ⟨p2, q2⟩ := box5 hb3a 2 (by omega); obtain ⟨p3, q3⟩ := box5 hb3a 3 (by omega); obtain ⟨p4, q4⟩ := box5 hb3a 4 (by omega); have sS := fun u0 u1 u2 u3 u4 : Value => HQx (((((v3.setCell ⟨w.heap.size, 0, none⟩ u0).setCell ⟨w.heap.size, 1, none⟩ u1).setCell ⟨w.heap.size, 2, none⟩ u2).setCell ⟨w.heap.size, 3, none⟩ u3).setCell ⟨w.heap.size, 4, none⟩ u4) (((((hB3.setCell (p := ⟨w.heap.size, 0, none⟩) hBd.size u0).setCell (p := ⟨w.heap.size, 1, none⟩) hBd.size u1).setCell (p := ⟨w.heap.size, 2, none⟩) hBd.size u2).setCell (p := ⟨w.heap.size, 3, none⟩) hBd.size u3).setCell (p := ⟨w.heap.size, 4, none⟩) hBd.size u4))))
    all_goals
      go_wp2_with fail
      go_meet
      first
        | exact ⟨_, rfl, boxS_alloc (so, sn, sa, sb, sc) hB3⟩
        | exact ⟨_, rfl, boxS_set (wa := w.drew) (so, sn, sa, sb, sc) hBd hb3a⟩
  case rest =>
  obtain ⟨bx, rfl, hB1, hB2, hB3, t0, t1, t2, t3, t4⟩ := hcut
  obtain ⟨W6, hW6⟩ : ∃ W6, W6 = wc := ⟨_, rfl⟩
  subst hW6
  simp only at t0 t1 t2 t3 t4
  obtain ⟨hC6, hb6⟩ := HC.out W6 hB3
  have HLk : Hid (∀ W : World, W.heap = W6.heap → (Instr.lookup 110 (.map (some bf)) (.agg #[.int .i64 so, .int .i64 sn, .int .i64 sa, .int .i64 sb, .int .i64 sc]) true).run Tryz.prog W = .ok (told (F (so, sn, sa, sb, sc))) W) := fun W hW => (hC6.rf.block (by rw [hW])).lookup (e := (so, sn, sa, sb, sc)) HSI.out
  have e3 := hC6.c3
  have HC6 := (show Hid _ from hC6)
  have Hb6 := (show Hid _ from hb6)
  clear HC HX HSh hC6 hb6
  cases hF : F (so, sn, sa, sb, sc) with
  | some o =>
    have hst : St = (F, D ++ [((k : Int), o)]) := by have := HSt.out; rw [hF] at this; exact this.symm
    subst hst
    clear HSt
    rw [hF] at HLk
    have hL0 := HLk.out W6 rfl
    have hL1 := HLk.out W6.drew rfl
    simp only [told] at hL0 hL1
    obtain ⟨hK1, hK2, hK3⟩ := HK.out
    have e4 := HC6.out.c4
    have HD : Hid (∀ (w6 : World) (v6 : Value), w6.ownsRow w0.heap.size 135 2 v6 (D.length + 1) (flat D ++ [.int .i64 k, .int .i64 o]) → (W6.drew.alloc (.cells #[.int .i64 k, .int .i64 o] 135)).grownBy w6 vd.ownBlock → (v6.ownBlock = vd.ownBlock ∨ v6.ownBlock = some (W6.drew.alloc (.cells #[.int .i64 k, .int .i64 o] 135)).heap.size) →
        w6.cell? ⟨C, 4, none⟩ = some vd ∧ w6.frozen? ⟨C, 4, none⟩ = false ∧ Hid (Clo (w6.setCell ⟨C, 4, none⟩ v6) w0.heap.size (tagAt T v6 4) n C bu bf (.slice (some ⟨bn, off, none⟩) n cap) (.slice ap n cp) v6 V l U F (D ++ [((k : Int), o)]) ∧ Below w0.heap.size w0 (w6.setCell ⟨C, 4, none⟩ v6))) := fun w6 v6 r1 r2 r3 => by
      have hA : Below W6.heap.size W6 (W6.drew.alloc (.cells #[.int .i64 k, .int .i64 o] 135)) := (Below.refl _ _).drew.alloc (Nat.le_refl _) _
      have hClo := HC6.out.keep hA
      obtain ⟨q1, q2, q3⟩ := hClo.dueRow r1 r2 r3
      refine ⟨q1, q2, q3, ?_⟩
      have hB : Below w0.heap.size w0 w6 := (Hb6.out.trans (hA.mono Hb6.out.size)).grown r2 (Hb6.out.trans (hA.mono Hb6.out.size)).size (fun x hx => (hClo.rd.lt x hx).1)
      exact hB.setCell (p := ⟨C, 4, none⟩) hClo.hC.1 v6
    have hrd := HC6.out.rd
    have HRd : Hid ((W6.drew.alloc (.cells #[.int .i64 k, .int .i64 o] 135)).ownsRow w0.heap.size 135 2 vd D.length (flat D)) := hrd.alloc _
    have hbase : w0.heap.size ≤ (W6.drew.alloc (.cells #[.int .i64 k, .int .i64 o] 135)).heap.size := by have := Hb6.out.size; simp; omega
    obtain ⟨ad, cd, rfl, hvd⟩ : ∃ ad cd, vd = .slice ad D.length cd ∧ True := by
      rcases hrd.2 with ⟨rfl, h0⟩ | ⟨g, cap', cur, rfl, _⟩
      · exact ⟨none, 0, by rw [h0], trivial⟩
      · exact ⟨_, _, rfl, trivial⟩
    clear HLk hrd hvd HK
    go_wp2_with fail
    go_region
    go_wp2_with (at_builtin; refine wpList_append_own_at _ rfl _ _ 131 rfl w0.heap.size 135 i0 (.agg #[.int .i64 0, .int .i64 0]) 2 16 Tryz.underlying131 hi hz0 hz1 hz2 rfl (by decide) _ _ _ rfl HRd.out ⟨W6.drew.heap.size, 0, none⟩ 1 1 [_, _] rfl rfl (two_new6 _ _ _ _) (two_one6 _ _) (by unfold maxLen; omega) (by omega) hbase ?_; intro v6 w6 k1 k2 _ k3; obtain ⟨a6, c6, rfl, _⟩ := row_slice k1; obtain ⟨q1, q2, q3⟩ := HD.out w6 _ k1 k2 k3; clear HRd k1 k2 k3 HD)
    go_end0
    exact ⟨rfl, q3.out.2, _, _, q3.out.1⟩
  | none =>
    have hst : St = (setS F (so, sn, sa, sb, sc) (some (k : Int)), D) := by have := HSt.out; rw [hF] at this; exact this.symm
    subst hst
    clear HSt
    rw [hF] at HLk
    have hL0 := HLk.out W6 rfl
    have hL1 := HLk.out W6.drew rfl
    simp only [told] at hL0 hL1
    obtain ⟨hK1, hK2, hK3⟩ := HK.out
    have HM : Hid (∀ W : World, W.heap = W6.heap → Below W6.heap.size W6 W → ∃ W7, (Instr.mapUpdate 110 (.map (some bf)) (.agg #[.int .i64 so, .int .i64 sn, .int .i64 sa, .int .i64 sb, .int .i64 sc]) (.int .i64 (k : Int))).run Tryz.prog W = .ok () W7 ∧ Hid (Clo W7 w0.heap.size T n C bu bf (.slice (some ⟨bn, off, none⟩) n cap) (.slice ap n cp) vd V l U (setS F (so, sn, sa, sb, sc) (some (k : Int))) D ∧ Below w0.heap.size w0 W7)) := fun W hW hB => by
      have hClo := HC6.out.keep hB
      obtain ⟨o, ho, hw⟩ := hClo.rf.store HSI.out (k : Int)
      exact ⟨_, ho, hClo.setMap hw, below_setB (Hb6.out.trans (hB.mono Hb6.out.size)) hClo.hf.1⟩
    obtain ⟨W7, hM7, hZ7⟩ := HM.out W6.drew.drew rfl (Below.refl _ _).drew.drew
    clear HLk HK HM
    go_wp2_with fail
    go_region
    go_wp2_with fail
    go_region
    all_goals
      go_wp2_with fail
      go_end0
      exact ⟨rfl, hZ7.out.2, _, _, hZ7.out.1⟩
end Go.Proofs.YtobgkfpjokfbaaaGreatDoor
namespace Go.Proofs.YtobgkfpjokfbaaaGreatDoor
open Go.ChangeShapes Go.WideShapes Go.ChangeAt Go.RowKit
set_option linter.unusedVariables false

theorem flat_any (a : Option Addr) (len cap : Nat) (l : List Int) (w : World) (h : Sl w a len l) (hp : Par l) (hm : len ≤ 200) (hz : a = none → len = 0) :
    Calls Tryz.prog 88 #[.slice a len cap] w fun e w' => ∃ v : Value, e = .returned v ∧ w'.ownsRow w.heap.size 3 1 v len (vals (flatL l)) ∧ Below w.heap.size w w' := by
  have hll := h.1
  have HC := (show Hid _ from clone5_any a len cap l w h (by omega) hz)
  have HP := (show Hid _ from hp)
  clear h hp
  by_cases h0 : len = 0
  · subst h0
    have hl : l = [] := List.length_eq_zero_iff.1 hll
    subst hl
    clear HP hz
    go_enter Tryz.func88, Tryz.ntmps88
    go_wp2_with fail
    refine Calls.mono HC.out ?_
    rintro e w1 ⟨v, rfl, hown, hb⟩
    obtain ⟨a1, c1, rfl, hs1⟩ := Sl.vals hown
    clear HC hs1
    go_wp2_with fail
    go_loopw [10] (fun i wr => i = .int .i64 0 ∧ wr = w1) (fun i _ => 0)
    case atStart => exact ⟨rfl, rfl⟩
    case round =>
      obtain ⟨rfl, rfl⟩ := hrel
      go_wp2
      go_ret
      exact ⟨_, rfl, hown, hb⟩
  · go_enter Tryz.func88, Tryz.ntmps88
    go_wp2_with fail
    refine Calls.mono HC.out ?_
    rintro e w1 ⟨v, rfl, hown, hb⟩
    obtain ⟨g, c, rfl, hg1, hg2⟩ := own_open hown (by omega)
    clear HC hz
    go_wp2_with fail
    go_loopw [10] (fun i wr => ∃ (k : Nat) (xs : List Int), k ≤ len ∧ i = .int .i64 k ∧ xs.length = len ∧ wr.ownsRow w.heap.size 3 1 (.slice (some ⟨g, 0, none⟩) len c) len (vals xs) ∧ Hid (∀ j, j < len → xs.getD j 0 = if j < k then ((root l j : Nat) : Int) else l.getD j 0) ∧ Below w.heap.size w wr) (fun i _ => len - (intOf i).toNat)
    case atStart => exact ⟨0, l, Nat.zero_le _, rfl, hll, hown, fun j hj => by rw [if_neg (Nat.not_lt_zero _)], hb⟩
    case round =>
      obtain ⟨k, xs, hk, rfl, hxl, hor, hx, hbr⟩ := hrel
      clear hown hb hg2
      by_cases hlt : k < len
      · have hu := up_le HP.out (show k < l.length by omega)
        have he := up_eq HP.out (show k < l.length by omega)
        have hck := hor.cellAt k (by omega)
        rw [vals_at (by omega), hx.out k hlt, if_neg (Nat.lt_irrefl _), ← he] at hck
        have hcu := hor.cellAt (up l k) (by omega)
        rw [vals_at (by omega), hx.out (up l k) (by omega)] at hcu
        have hv : (if up l k < k then ((root l (up l k) : Nat) : Int) else l.getD (up l k) 0) = ((root l k : Nat) : Int) := by
          by_cases e : up l k < k
          · rw [if_pos e, root_up HP.out (by omega)]
          · have e' : up l k = k := by omega
            rw [if_neg e, e', root_self e', ← he, e']
        rw [hv] at hcu
        have hfr := hor.frozenAt k
        have hul : up l k < len := by omega
        have R : Hid ((xs.set k ((root l k : Nat) : Int)).length = len ∧ (wr.setCell ⟨g, k, none⟩ (.int .i64 (root l k : Nat))).ownsRow w.heap.size 3 1 (.slice (some ⟨g, 0, none⟩) len c) len (vals (xs.set k ((root l k : Nat) : Int))) ∧ (∀ j, j < len → (xs.set k ((root l k : Nat) : Int)).getD j 0 = if j < k + 1 then ((root l j : Nat) : Int) else l.getD j 0) ∧ Below w.heap.size w (wr.setCell ⟨g, k, none⟩ (.int .i64 (root l k : Nat)))) := by
          refine ⟨by rw [List.length_set]; exact hxl, by rw [vals_set]; exact (hor.stored k _).1, fun j hj => ?_, hbr.setCell hg1 _⟩
          rw [set_getD _ _ _ _ (by omega), hx.out j hj]
          by_cases e : j = k
          · subst e; rw [if_pos rfl, if_pos (by omega)]
          · rw [if_neg e]
            by_cases e2 : j < k
            · rw [if_pos e2, if_pos (by omega)]
            · rw [if_neg e2, if_neg (by omega)]
        clear hor hx hv he hu
        generalize up l k = u at hck hcu hul
        generalize ((root l k : Nat) : Int) = r at hcu R
        generalize xs.set k r = ys at R
        go_wp2
        go_roundw
        case rel => exact ⟨k + 1, ys, by omega, by go_num, R.out.1, R.out.2.1, R.out.2.2.1, R.out.2.2.2⟩
        case measure => simp [intOf]; omega
      · obtain rfl : k = len := by omega
        have e : xs = flatL l := list_ext (by rw [flat_length]; omega) fun j hj => by
          rw [flatL_get (by omega), hx.out j (by omega), if_pos (by omega)]
        subst e
        clear hx
        go_wp2
        go_ret
        exact ⟨_, rfl, hor, hbr⟩

def flatR (l : List Int) : List Int := if parB l = true then flatL l else []
theorem flat_take {l : List Int} {k : Nat} (hk : k < l.length) : (flatL l).take (k + 1) = (flatL l).take k ++ [((root l k : Nat) : Int)] := by
  rw [List.take_add_one]
  congr 1
  have := flatL_get hk
  rw [List.getD_eq_getElem?_getD] at this
  cases hh : (flatL l)[k]? with
  | none => rw [List.getElem?_eq_none_iff, flat_length] at hh; omega
  | some x => rw [hh] at this; simp at this; simp [this]
end Go.Proofs.YtobgkfpjokfbaaaGreatDoor
namespace Go.Proofs.YtobgkfpjokfbaaaGreatDoor
open Go.ChangeShapes Go.WideShapes Go.ChangeAt Go.RowKit
set_option linter.unusedVariables false

/-- JoinParts' answer. -/
def joinOk5 (l : List Int) (a b : Int) : Bool := partB l && hasB l a && hasB l b
def joinR (l : List Int) (a b : Int) : List Int := if joinOk5 l a b = true then joinPL l a.toNat b.toNat else []
theorem join_cases (l : List Int) (a b : Int) : (joinOk5 l a b = true ∧ partB l = true ∧ hasB l a = true ∧ hasB l b = true) ∨ (joinOk5 l a b = false ∧ (partB l = false ∨ (partB l = true ∧ hasB l a = false) ∨ (partB l = true ∧ hasB l a = true ∧ hasB l b = false))) := by
  unfold joinOk5
  cases partB l <;> cases hasB l a <;> cases hasB l b <;> simp

def askedB (l : List Int) (k : Int) : Bool := partB l && hasB l k
set_option maxHeartbeats 800000 in
theorem l5Join_any (a : Option Addr) (len cap : Nat) (l : List Int) (x y : Nat) (w : World) (h : Sl w a len l) (hp : ∀ k, k < l.length → 0 ≤ l.getD k 0) (hm : len ≤ 1048576) (hx : x < len) (hy : y < len) :
    Calls Tryz.prog 75 #[.slice a len cap, .int .i64 x, .int .i64 y] w fun e w' => ∃ v : Value, e = .returned v ∧ w'.ownsRow w.heap.size 3 1 v len (vals (joinPL l x y)) ∧ Below w.heap.size w w' := by
  have hll := h.1
  have HO : Hid (∀ W, Below w.heap.size w W → Calls Tryz.prog 97 #[.slice a len cap] W fun e w' => ∃ v : Value, e = .returned v ∧ w'.ownsRow W.heap.size 3 1 v len (vals l) ∧ Below W.heap.size W w') := fun W hW => own5_any a len cap l W (h.keep hW) (by omega) (by omega)
  obtain ⟨b, off, rfl, hbl, hc⟩ : ∃ b off, a = some ⟨b, off, none⟩ ∧ b < w.heap.size ∧ ∀ i, i < len → w.cell? ⟨b, off + i, none⟩ = some (.int .i64 (l.getD i 0)) := by
    rcases h.2 with h0 | h0
    · omega
    · exact h0
  have hX := hp x (by omega)
  have hY := hp y (by omega)
  have cx := hc x hx
  have cy := hc y hy
  have HJ : Hid (∀ k, k < len → (joinPL l x y).getD k 0 = if l.getD k 0 = max (l.getD x 0) (l.getD y 0) then min (l.getD x 0) (l.getD y 0) else l.getD k 0) := fun k hk => join_get l x y (by omega)
  have hJl : (joinPL l x y).length = len := by rw [join_len, hll]
  have HC := (show Hid _ from hc)
  generalize joinPL l x y = J at HJ hJl ⊢
  obtain ⟨X, hX'⟩ : ∃ X : Nat, l.getD x 0 = X := ⟨_, (Int.toNat_of_nonneg hX).symm⟩
  obtain ⟨Y, hY'⟩ : ∃ Y : Nat, l.getD y 0 = Y := ⟨_, (Int.toNat_of_nonneg hY).symm⟩
  rw [hX'] at cx HJ
  rw [hY'] at cy HJ
  rw [← nat_max, ← nat_min] at HJ
  have HM : Hid (∀ W, Calls Tryz.prog 99 #[.int .i64 X, .int .i64 Y] W fun e w' => e = .returned (.int .i64 (max X Y : Nat)) ∧ w' = W) := fun W => most5_any X Y W
  have HN : Hid (∀ W, Calls Tryz.prog 98 #[.int .i64 X, .int .i64 Y] W fun e w' => e = .returned (.int .i64 (min X Y : Nat)) ∧ w' = W) := fun W => least5_any X Y W
  generalize ((max X Y : Nat) : Int) = M at HM HJ
  generalize ((min X Y : Nat) : Int) = m at HN HJ
  clear h hp hc hX hY hX' hY'
  go_enter Tryz.func75, Tryz.ntmps75
  go_wp2_with fail
  go_quiet ((go_at_call 98; exact Calls.quiet_of_same (HN.out _)))
  have hb1 : Below w.heap.size w (w.drewN nq) := Go.below_drewN (Below.refl _ _) _
  have cx1 : (w.drewN nq).cell? ⟨b, off + x, none⟩ = some (.int .i64 X) := (hb1.cell (p := ⟨b, off + x, none⟩) hbl).trans cx
  have cy1 : (w.drewN nq).cell? ⟨b, off + y, none⟩ = some (.int .i64 Y) := (hb1.cell (p := ⟨b, off + y, none⟩) hbl).trans cy
  clear cx cy
  generalize w.drewN nq = w1 at hb1 cx1 cy1 ⊢
  go_wp2_with fail
  go_quiet ((go_at_call 99; exact Calls.quiet_of_same (HM.out _)))
  have hb2 : Below w.heap.size w (w1.drewN nq) := below_drewN hb1 _
  clear cx1 cy1 hb1
  generalize w1.drewN nq = w2 at hb2 ⊢
  go_wp2_with fail
  refine Calls.mono (HO.out _ hb2) ?_
  rintro e w3 ⟨v, rfl, hown, hb3⟩
  have hB3 := hb2.trans (hb3.mono hb2.size)
  have hown' := own_base hown hb2.size
  obtain ⟨g, c, rfl, hg1, hg2⟩ := own_open hown' (by omega)
  clear hown hb2 hb3 HO HM HN
  go_wp2_with fail
  go_loopw [34] (fun i wr => ∃ (k : Nat) (xs : List Int), k ≤ len ∧ i = .int .i64 k ∧ xs.length = len ∧ wr.ownsRow w.heap.size 3 1 (.slice (some ⟨g, 0, none⟩) len c) len (vals xs) ∧ Hid (∀ j, j < len → xs.getD j 0 = if j < k then J.getD j 0 else l.getD j 0) ∧ Below w.heap.size w wr) (fun i _ => len - (intOf i).toNat)
  case atStart => exact ⟨0, l, Nat.zero_le _, rfl, hll, hown', fun j hj => by rw [if_neg (Nat.not_lt_zero _)], hB3⟩
  case round =>
    obtain ⟨k, xs, hk, rfl, hxl, hor, hx', hbr⟩ := hrel
    clear hown' hB3 hg2
    by_cases hlt : k < len
    · have ck : wr.cell? ⟨b, off + k, none⟩ = some (.int .i64 (l.getD k 0)) := (hbr.cell (p := ⟨b, off + k, none⟩) hbl).trans (HC.out k hlt)
      have hJk := HJ.out k hlt
      have hxk := hx'.out k hlt
      rw [if_neg (Nat.lt_irrefl _)] at hxk
      by_cases e : l.getD k 0 = M
      · rw [if_pos e] at hJk
        rw [e] at ck
        have hck := hor.cellAt k (by omega)
        rw [vals_at (by omega)] at hck
        have hfr := hor.frozenAt k
        have R : Hid ((xs.set k m).length = len ∧ (wr.setCell ⟨g, k, none⟩ (.int .i64 m)).ownsRow w.heap.size 3 1 (.slice (some ⟨g, 0, none⟩) len c) len (vals (xs.set k m)) ∧ (∀ j, j < len → (xs.set k m).getD j 0 = if j < k + 1 then J.getD j 0 else l.getD j 0) ∧ Below w.heap.size w (wr.setCell ⟨g, k, none⟩ (.int .i64 m))) := by
          refine ⟨by rw [List.length_set]; exact hxl, by rw [vals_set]; exact (hor.stored k _).1, fun j hj => ?_, hbr.setCell hg1 _⟩
          rw [set_getD _ _ _ _ (by omega), hx'.out j hj]
          by_cases e1 : j = k
          · subst e1; rw [if_pos rfl, if_pos (by omega), hJk]
          · rw [if_neg e1]
            by_cases e2 : j < k
            · rw [if_pos e2, if_pos (by omega)]
            · rw [if_neg e2, if_neg (by omega)]
        clear hor hx' hJk e hxk
        generalize xs.getD k 0 = z at hck
        generalize xs.set k m = ys at R
        go_wp2
        go_roundw
        case rel => exact ⟨k + 1, ys, by omega, by go_num, R.out.1, R.out.2.1, R.out.2.2.1, R.out.2.2.2⟩
        case measure => simp [intOf]; omega
      · rw [if_neg e] at hJk
        have R : Hid (∀ j, j < len → xs.getD j 0 = if j < k + 1 then J.getD j 0 else l.getD j 0) := fun j hj => by
          rw [hx'.out j hj]
          by_cases e1 : j = k
          · subst e1; rw [if_neg (Nat.lt_irrefl _), if_pos (by omega), hJk]
          · by_cases e2 : j < k
            · rw [if_pos e2, if_pos (by omega)]
            · rw [if_neg e2, if_neg (by omega)]
        have e' : (l.getD k 0 == M) = false := by simpa using e
        clear hx' hJk hxk
        generalize l.getD k 0 = z at ck e e'
        go_wp2
        go_roundw
        case rel => exact ⟨k + 1, xs, by omega, by go_num, hxl, hor, R, hbr⟩
        case measure => simp [intOf]; omega
    · obtain rfl : k = len := by omega
      have e : xs = J := list_ext (by omega) fun j hj => by
        rw [hx'.out j (by omega), if_pos (by omega)]
      subst e
      clear hx' HJ
      go_wp2
      go_ret
      exact ⟨_, rfl, hor, hbr⟩

end Go.Proofs.YtobgkfpjokfbaaaGreatDoor
