/-
  PROVED HERE: what the model's reader does at a sign. No other condition. plain lists: which sign stands at a place, told byte by byte. No condition. a call by its contract, and an append to a row of one's own, as one step of a region that draws its order. No condition. what the model's reader is behind an append; what the makers of a node answer. No other condition.
-/
import Derived.Test.YtkadanagmahhgaaGreatDoorRun6
import Derived.Test.YtkadanagmahhgaaGreatDoorRows
import Derived.Test.YtkadanagmahhgaaGreatDoorRun0
import Derived.Deep.RegionLaw
import Derived.Maps.AppendAt
import Derived.Deep.QuietTactic
import Derived.BigQuiet
namespace Go.Proofs.YtkadanagmahhgaaGreatDoor
open Go.ChangeShapes Go.WideShapes Go.ChangeAt Go.RowKit
set_option linter.unusedVariables false

/-- Whether the sign of an op stands at a place. -/
def signAt (s : List UInt8) (a : Nat) (op : Int) : Bool := if op = 10 ∧ byteIs s (a + 1) 60 = true then false else decide ((signB op).length ≤ s.length - a) && ((s.drop a).take (signB op).length == signB op)
/-- What the signs from an op on come to (with so much fuel). -/
def twoL (s : List UInt8) (a : Nat) : Nat → Int → Int × Nat
  | 0, _ => if byteIs s a 61 = true then (0, a + 1) else (0, a)
  | f + 1, op => if signAt s a op = true then (op, a + (signB op).length) else twoL s a f (op + 1)
theorem ext_list (s : ByteArray) (a n : Nat) : (s.extract a (a + n)).toList = (s.data.toList.drop a).take n := by
  rw [ByteArray.toList_eq, ByteArray.data_extract, Array.toList_extract]
  simp [List.extract]
theorem next_no {s : List UInt8} {a n : Nat} {X : Int × Nat} (h : signAt s a n = false) (hT : twoL s a (11 - n) n = X) (hn : n ≤ 10) : twoL s a (11 - (n + 1)) ((n + 1 : Nat) : Int) = X := by
  rw [show 11 - n = (11 - (n + 1)) + 1 from by omega, twoL, if_neg (by rw [h]; decide)] at hT
  exact hT
theorem next_yes {s : List UInt8} {a n : Nat} {X : Int × Nat} (h : signAt s a n = true) (hT : twoL s a (11 - n) n = X) (hn : n ≤ 10) : X = ((n : Int), a + (signB n).length) := by
  rw [show 11 - n = (11 - (n + 1)) + 1 from by omega, twoL, if_pos h] at hT
  exact hT.symm
set_option maxHeartbeats 1600000 in
set_option maxRecDepth 20000 in
theorem two_any (w : World) (g : Nat) (s : ByteArray) (a : Nat) (out : List (Int × Int)) (h : Rdr w g s a out) (hs : s.size ≤ 1048576) (ha : a ≤ s.size) :
    Calls Tryz.prog 134 #[.pointer (some ⟨g, 0, none⟩)] w fun e w' => e = .returned (.int .i64 (twoL s.data.toList a 7 4).1) ∧ Rdr w' g s (twoL s.data.toList a 7 4).2 out ∧ Below g w w' := by
  have HS : Hid (∀ op W, Calls Tryz.prog 49 #[.int .i64 op] W fun e w' => e = .returned (.string ⟨(signB op).toArray⟩) ∧ w' = W) := specSign_any
  have HR : Hid (Rdr w g s a out) := h
  have i2 : (s.size : Int) ≤ 1048576 := by omega
  have i1 : (a : Int) ≤ s.size := by omega
  have hsl0 : ∀ n : Nat, (a : Int) + n ≤ s.size → ∀ W, (Instr.slice 9 (.string s) (some (.int .i64 (a : Int))) (some (.int .i64 ((a : Int) + n))) none).run Tryz.prog W = .ok (.string (s.extract a (a + n))) W := by
    intro n hn W
    rw [run_slice_string W 9 s .i64 .i64 _ _ Tryz.underlying9 (by omega) (by omega) hn, show ((a : Int) + n).toNat = a + n from by omega]; rfl
  go_enter Tryz.func134, Tryz.ntmps134
  go_wp2_with fail
  go_loopw [3] (fun op wr => ∃ n : Nat, op = .int .i64 (n : Int) ∧ 4 ≤ n ∧ n ≤ 11 ∧ Rdr wr g s a out ∧ Below g w wr ∧ Hid (twoL s.data.toList a (11 - n) n = twoL s.data.toList a 7 4)) (fun op _ => (11 - intOf op).toNat)
  case atStart => exact ⟨4, rfl, by omega, by omega, HR.out, Below.refl _ _, rfl⟩
  case round =>
    obtain ⟨n, rfl, n4, n11, hR, hbr, hT⟩ := hrel
    have c0 := hR.c0
    have c1 := hR.c1
    have f1 := hR.f1
    have hlt := hR.lt
    by_cases hn : n ≤ 10
    · have in10 : (n : Int) ≤ 10 := by omega
      obtain ⟨S, hS⟩ : ∃ S, signB n = S := ⟨_, rfl⟩
      have hSl : S.length ≤ 2 := by
        rw [← hS]
        unfold signB
        repeat' split
        all_goals simp
      have HC : ∀ W, Calls Tryz.prog 49 #[.int .i64 n] W fun e w' => e = .returned (.string ⟨S.toArray⟩) ∧ w' = W := by rw [← hS]; exact HS.out n
      have hsg0 : Hid (¬ ((n : Int) = 10 ∧ byteIs s.data.toList (a + 1) 60 = true) → signAt s.data.toList a n = (decide (S.length ≤ s.size - a) && ((s.data.toList.drop a).take S.length == S))) := by
        intro hx
        unfold signAt
        rw [if_neg hx, hS]; rfl
      by_cases hA : n = 10
      · have a1 : ((n : Int) == 10) = true := by simp; omega
        by_cases hB : a + 1 < s.size
        · have b1 : decide ((a : Int) + 1 < s.size) = true := by simp; omega
          by_cases hC : s[a + 1] = 60
          · have b2 : (((s[a + 1]).toNat : Int) == 60) = true := by rw [hC]; rfl
            have b3 : (s[a + 1]).toNat = 60 := by rw [hC]; rfl
            have b4 : (a : Int) + 1 < s.size := by omega
            have hno : signAt s.data.toList a n = false := by
              unfold signAt
              rw [if_pos ⟨by omega, by unfold byteIs; rw [size_list, decide_eq_true hB, at_list s (a + 1) hB, hC]; rfl⟩]
            have hN := next_no hno hT.out hn
            clear hA hsg0
            go_wp2_with fail
            refine (HC _).mono ?_
            rintro e w1 ⟨rfl, rfl⟩
            go_wp2
            go_big_quiet (fail)
            go_wp2
            exact ⟨⟨n + 1, rfl, by omega, by omega, hR.drewN _, hbr.trans (below_drewN g _), hN⟩, by simp [intOf]; omega⟩
          · have hC' : ¬ (s[a + 1]).toNat = 60 := fun e => hC (UInt8.toNat_inj.1 e)
            have b2 : (((s[a + 1]).toNat : Int) == 60) = false := by simp; omega
            have b4 : (a : Int) + 1 < s.size := by omega
            have hsg1 : Hid (¬ ((n : Int) = 10 ∧ byteIs s.data.toList (a + 1) 60 = true)) := show ¬ _ from by unfold byteIs; rw [size_list, decide_eq_true hB, at_list s (a + 1) hB]; simpa using fun _ => hC
            have hix : ∀ W, (Instr.index 9 (.string s) (.int .i64 ((a : Int) + 1))).run Tryz.prog W = .ok (.int .u8 ((s[a + 1]).toNat : Int)) W := by
              intro W
              rw [run_index_string W 9 s .i64 _ Tryz.underlying9]
              rw [dif_pos (show (0 : Int) ≤ (a : Int) + 1 ∧ (a : Int) + 1 < s.size from ⟨by omega, by omega⟩)]
              rfl
            clear hA hC hC'
            generalize s[a + 1] = y at b2 hix
            go_wp2_with fail
            refine (HC _).mono ?_
            rintro e w1 ⟨rfl, rfl⟩
            go_wp2
            go_big_quiet (fail)
            go_wp2
            have hsg := hsg0.out hsg1.out
            by_cases hE : s.size - a < S.length
            · exfalso; omega
            · have e1 : decide ((S.length : Int) ≤ (s.size : Int) - a) = true := by simp; omega
              have e2 : (a : Int) + S.length ≤ s.size := by omega
              have hsl := hsl0 S.length e2
              by_cases hF : (s.extract a (a + S.length)).toList = S
              · have hF' : ((s.extract a (a + S.length)).toList == S) = true := by simpa using hF
                have hyes : signAt s.data.toList a n = true := by rw [hsg, ← ext_list, hF']; simp; omega
                have hN := next_yes hyes hT.out hn
                go_big_quiet (fail)
                go_wp2
                go_returns
                rw [hN, hS]
                exact ⟨rfl, (hR.drewN _).move (a + S.length), (hbr.trans (below_drewN g _)).trans (below_set _)⟩
              · have hF' : ((s.extract a (a + S.length)).toList == S) = false := by simpa using hF
                have hno : signAt s.data.toList a n = false := by rw [hsg, ← ext_list, hF', Bool.and_false]
                have hN := next_no hno hT.out hn
                clear hF
                go_big_quiet (fail)
                go_wp2
                exact ⟨⟨n + 1, rfl, by omega, by omega, hR.drewN _, hbr.trans (below_drewN g _), hN⟩, by simp [intOf]; omega⟩
        · have b1 : decide ((a : Int) + 1 < s.size) = false := by simp; omega
          have hsg1 : Hid (¬ ((n : Int) = 10 ∧ byteIs s.data.toList (a + 1) 60 = true)) := show ¬ _ from by unfold byteIs; rw [size_list, decide_eq_false hB]; simp
          clear hA
          go_wp2_with fail
          refine (HC _).mono ?_
          rintro e w1 ⟨rfl, rfl⟩
          go_wp2
          go_big_quiet (fail)
          go_wp2
          have hsg := hsg0.out hsg1.out
          by_cases hE : s.size - a < S.length
          · have e1 : decide ((S.length : Int) ≤ (s.size : Int) - a) = false := by simp; omega
            have hno : signAt s.data.toList a n = false := by rw [hsg]; simp; omega
            have hN := next_no hno hT.out hn
            go_big_quiet (fail)
            go_wp2
            exact ⟨⟨n + 1, rfl, by omega, by omega, hR.drewN _, hbr.trans (below_drewN g _), hN⟩, by simp [intOf]; omega⟩
          · have e1 : decide ((S.length : Int) ≤ (s.size : Int) - a) = true := by simp; omega
            have e2 : (a : Int) + S.length ≤ s.size := by omega
            have hsl := hsl0 S.length e2
            by_cases hF : (s.extract a (a + S.length)).toList = S
            · have hF' : ((s.extract a (a + S.length)).toList == S) = true := by simpa using hF
              have hyes : signAt s.data.toList a n = true := by rw [hsg, ← ext_list, hF']; simp; omega
              have hN := next_yes hyes hT.out hn
              go_big_quiet (fail)
              go_wp2
              go_returns
              rw [hN, hS]
              exact ⟨rfl, (hR.drewN _).move (a + S.length), (hbr.trans (below_drewN g _)).trans (below_set _)⟩
            · have hF' : ((s.extract a (a + S.length)).toList == S) = false := by simpa using hF
              have hno : signAt s.data.toList a n = false := by rw [hsg, ← ext_list, hF', Bool.and_false]
              have hN := next_no hno hT.out hn
              clear hF
              go_big_quiet (fail)
              go_wp2
              exact ⟨⟨n + 1, rfl, by omega, by omega, hR.drewN _, hbr.trans (below_drewN g _), hN⟩, by simp [intOf]; omega⟩
      · have a1 : ((n : Int) == 10) = false := by simp; omega
        have hsg1 : Hid (¬ ((n : Int) = 10 ∧ byteIs s.data.toList (a + 1) 60 = true)) := show ¬ _ from by omega
        clear hA
        go_wp2_with fail
        refine (HC _).mono ?_
        rintro e w1 ⟨rfl, rfl⟩
        go_wp2
        go_big_quiet (fail)
        go_wp2
        have hsg := hsg0.out hsg1.out
        by_cases hE : s.size - a < S.length
        · have e1 : decide ((S.length : Int) ≤ (s.size : Int) - a) = false := by simp; omega
          have hno : signAt s.data.toList a n = false := by rw [hsg]; simp; omega
          have hN := next_no hno hT.out hn
          go_big_quiet (fail)
          go_wp2
          exact ⟨⟨n + 1, rfl, by omega, by omega, hR.drewN _, hbr.trans (below_drewN g _), hN⟩, by simp [intOf]; omega⟩
        · have e1 : decide ((S.length : Int) ≤ (s.size : Int) - a) = true := by simp; omega
          have e2 : (a : Int) + S.length ≤ s.size := by omega
          have hsl := hsl0 S.length e2
          by_cases hF : (s.extract a (a + S.length)).toList = S
          · have hF' : ((s.extract a (a + S.length)).toList == S) = true := by simpa using hF
            have hyes : signAt s.data.toList a n = true := by rw [hsg, ← ext_list, hF']; simp; omega
            have hN := next_yes hyes hT.out hn
            go_big_quiet (fail)
            go_wp2
            go_returns
            rw [hN, hS]
            exact ⟨rfl, (hR.drewN _).move (a + S.length), (hbr.trans (below_drewN g _)).trans (below_set _)⟩
          · have hF' : ((s.extract a (a + S.length)).toList == S) = false := by simpa using hF
            have hno : signAt s.data.toList a n = false := by rw [hsg, ← ext_list, hF', Bool.and_false]
            have hN := next_no hno hT.out hn
            clear hF
            go_big_quiet (fail)
            go_wp2
            exact ⟨⟨n + 1, rfl, by omega, by omega, hR.drewN _, hbr.trans (below_drewN g _), hN⟩, by simp [intOf]; omega⟩
    · obtain rfl : n = 11 := by omega
      have hX : twoL s.data.toList a 7 4 = if byteIs s.data.toList a 61 = true then (0, a + 1) else (0, a) := hT.out.symm
      clear hT
      by_cases ha1 : a < s.size
      · have b1 : decide ((a : Int) < s.size) = true := by simp; omega
        have b4 : (a : Int) < s.size := by omega
        by_cases hC : s[a] = 61
        · have b2 : (((s[a]).toNat : Int) == 61) = true := by rw [hC]; rfl
          have b3 : (s[a]).toNat = 61 := by rw [hC]; rfl
          rw [if_pos (by unfold byteIs; rw [size_list, decide_eq_true ha1, at_list s a ha1, hC]; rfl)] at hX
          go_wp2
          go_big_quiet (fail)
          go_wp2
          go_returns
          rw [hX]
          exact ⟨rfl, (hR.drewN _).move (a + 1), (hbr.trans (below_drewN g _)).trans (below_set _)⟩
        · have hC' : ¬ (s[a]).toNat = 61 := fun e => hC (UInt8.toNat_inj.1 e)
          have b2 : (((s[a]).toNat : Int) == 61) = false := by simp; omega
          rw [if_neg (by unfold byteIs; rw [size_list, decide_eq_true ha1, at_list s a ha1]; simpa using hC)] at hX
          go_wp2
          go_big_quiet (fail)
          go_wp2
          go_returns
          rw [hX]
          exact ⟨rfl, hR.drewN _, hbr.trans (below_drewN g _)⟩
      · have b1 : decide ((a : Int) < s.size) = false := by simp; omega
        have b2 : ¬ a < s.size := ha1
        rw [if_neg (by unfold byteIs; rw [size_list, decide_eq_false ha1]; simp)] at hX
        go_wp2
        go_big_quiet (fail)
        go_wp2
        go_returns
        rw [hX]
        exact ⟨rfl, hR.drewN _, hbr.trans (below_drewN g _)⟩
end Go.Proofs.YtkadanagmahhgaaGreatDoor
namespace Go.Proofs.YtkadanagmahhgaaGreatDoor
set_option linter.unusedVariables false

theorem sign_one (s : List UInt8) (a : Nat) (c : UInt8) : (decide ([c].length ≤ s.length - a) && ((s.drop a).take [c].length == [c])) = byteIs s a c := by
  unfold byteIs
  by_cases h : a < s.length
  · rw [decide_eq_true (show [c].length ≤ s.length - a by simp; omega), decide_eq_true h]
    have e : s.getD a 0 = s[a] := by rw [List.getD_eq_getElem?_getD, List.getElem?_eq_getElem h]; rfl
    have t : (s.drop a).take [c].length = [s[a]] := by rw [List.drop_eq_getElem_cons h]; rfl
    rw [e, t]
    show (true && ([s[a]] == [c])) = (true && (s[a] == c))
    simp
  · rw [decide_eq_false h, decide_eq_false (show ¬ [c].length ≤ s.length - a by simp; omega)]; rfl
theorem sign_pair (s : List UInt8) (a : Nat) (c d : UInt8) : (decide ([c, d].length ≤ s.length - a) && ((s.drop a).take [c, d].length == [c, d])) = (byteIs s a c && byteIs s (a + 1) d) := by
  unfold byteIs
  by_cases h : a + 1 < s.length
  · have h' : a < s.length := by omega
    rw [decide_eq_true (show [c, d].length ≤ s.length - a by simp; omega), decide_eq_true h, decide_eq_true h']
    have e : s.getD a 0 = s[a] := by rw [List.getD_eq_getElem?_getD, List.getElem?_eq_getElem h']; rfl
    have e' : s.getD (a + 1) 0 = s[a + 1] := by rw [List.getD_eq_getElem?_getD, List.getElem?_eq_getElem h]; rfl
    have t : (s.drop a).take [c, d].length = [s[a], s[a + 1]] := by rw [List.drop_eq_getElem_cons h', List.drop_eq_getElem_cons h]; rfl
    rw [e, e', t]
    show (true && ([s[a], s[a + 1]] == [c, d])) = ((true && (s[a] == c)) && (true && (s[a + 1] == d)))
    simp
  · rw [decide_eq_false h, decide_eq_false (show ¬ [c, d].length ≤ s.length - a by simp; omega)]; simp
theorem two_plain (s : List UInt8) (a : Nat) : twoL s a 7 4 = twoR s a := by
  have h4 : signAt s a 4 = byteIs s a 43 := by unfold signAt; rw [if_neg (by simp)]; exact sign_one s a 43
  have h5 : signAt s a (4 + 1) = byteIs s a 45 := by unfold signAt; rw [if_neg (by simp)]; exact sign_one s a 45
  have h6 : signAt s a (4 + 1 + 1) = byteIs s a 42 := by unfold signAt; rw [if_neg (by simp)]; exact sign_one s a 42
  have h7 : signAt s a (4 + 1 + 1 + 1) = (byteIs s a 60 && byteIs s (a + 1) 60) := by unfold signAt; rw [if_neg (by simp)]; exact sign_pair s a 60 60
  have h8 : signAt s a (4 + 1 + 1 + 1 + 1) = byteIs s a 47 := by unfold signAt; rw [if_neg (by simp)]; exact sign_one s a 47
  have h9 : signAt s a (4 + 1 + 1 + 1 + 1 + 1) = (byteIs s a 61 && byteIs s (a + 1) 61) := by unfold signAt; rw [if_neg (by simp)]; exact sign_pair s a 61 61
  have h10 : signAt s a (4 + 1 + 1 + 1 + 1 + 1 + 1) = (!byteIs s (a + 1) 60 && byteIs s a 60) := by
    unfold signAt
    by_cases h : byteIs s (a + 1) 60 = true
    · rw [if_pos ⟨rfl, h⟩, h]; rfl
    · rw [if_neg (fun x => h x.2)]
      have h' : byteIs s (a + 1) 60 = false := by simpa using h
      rw [h']
      exact sign_one s a 60
  unfold twoR
  simp only [twoL]
  rw [h4, h5, h6, h7, h8, h9, h10]
  cases b1 : byteIs s a 43 <;> cases b2 : byteIs s a 45 <;> cases b3 : byteIs s a 42 <;> cases b4 : byteIs s a 60 <;> cases b5 : byteIs s (a + 1) 60 <;> cases b6 : byteIs s a 47 <;> cases b7 : byteIs s a 61 <;> cases b8 : byteIs s (a + 1) 61 <;> simp [signB]
end Go.Proofs.YtkadanagmahhgaaGreatDoor
namespace Go.Proofs.YtkadanagmahhgaaGreatDoor
open Go.RowKit
set_option linter.unusedVariables false

theorem step_call {P : Program} {ops : Array Oper} {o : Oper} {a : Act} {w : World} {K : Act → World → Prop} {Q : Exit → Act → World → Prop} {E : Prop}
    (hg : o.guard = none) (f : FuncId) (args : Array Value) (hrun : (execOp a.eval o).run P w = .ok (.enter f args) w) (R : Ending → World → Prop) (hc : Calls P f args w R)
    (hK : ∀ e w', R e w' → ∃ v, e = .returned v ∧ K (a.put o.dst v) w') :
    if Region.wanted o (yielded ops a.tmps) = true then Oper.wp P o a w K Q else E := by
  have hw : Region.wanted o (yielded ops a.tmps) = true := by simp [Region.wanted, hg]
  rw [if_pos hw]
  unfold Oper.wp
  rw [hrun, Oper.upon_enter]
  refine hc.mono fun e w' h => ?_
  obtain ⟨v, rfl, hk⟩ := hK e w' h
  exact hk

theorem step_append {P : Program} {ops : Array Oper} {o : Oper} {a : Act} {w : World} {K : Act → World → Prop} {Q : Exit → Act → World → Prop} {E : Prop}
    (hg : o.guard = none) (s x : Operand) (t : TypeId) (ho : o.op = .call { callee := .builtin .append, args := #[s, x], argTypes := #[t, t] })
    (base : Nat) (e : TypeId) (i : TypeInfo) (z : Value) (size bytes : Nat) (ht : P.underlying t = some (.slice e)) (hi : P.info? e = some i) (hz : i.zero = some z)
    (hsize : i.size = size) (hby : i.bytes = bytes) (hzs : z.cells.size = size) (hsz : 0 < size)
    (v : Value) (n : Nat) (xs : List Value) (hs : a.eval s = v) (hown : w.ownsRow base e size v n xs)
    (ad : Addr) (m c : Nat) (news : List Value) (hx : a.eval x = .slice (some ad) m c) (hl : news.length = m * size) (hnews : ∀ j u, news[j]? = some u → w.cell? (ad.add j) = some u) (h1 : ∀ u ∈ news, u.oneCell' = true)
    (h63 : n + m ≤ maxLen) (hbytes : (n + m) * bytes ≤ 140737488355328) (hbase : base ≤ w.heap.size)
    (h : ∀ v' w', w'.ownsRow base e size v' (n + m) (xs ++ news) → w.grownBy w' v.ownBlock → (v'.ownBlock = v.ownBlock ∨ v'.ownBlock = some w.heap.size) → K (a.put o.dst v') w') :
    if Region.wanted o (yielded ops a.tmps) = true then Oper.wp P o a w K Q else E := by
  have hw : Region.wanted o (yielded ops a.tmps) = true := by simp [Region.wanted, hg]
  rw [if_pos hw]
  obtain ⟨v', w', hr, h2, h3, h4, h5⟩ := run_append_own_at (P := P) w base t o.type e i z size bytes ht hi hz hsize hby hzs hsz v n xs hown ad m c news hl hnews h1 h63 hbytes hbase
  unfold Oper.wp execOp
  simp only [ho, resolve, invoke, builtin, Sem.run_bind, Sem.run_pure, Result.andThen_ok, List.map_toArray, List.map_cons, List.map_nil, hs, hx, hr]
  exact h v' w' h2 h3 h5
theorem below_drawn {B : Nat} {w w' : World} (h : Below B w w') : ∀ n, Below B w (w'.drewN n) := fun n => ⟨h.os, h.tape, h.output, h.size, h.block⟩
end Go.Proofs.YtkadanagmahhgaaGreatDoor
namespace Go.Proofs.YtkadanagmahhgaaGreatDoor
open Go.ChangeShapes Go.WideShapes Go.ChangeAt Go.RowKit
set_option linter.unusedVariables false

theorem own_shape {w : World} {base e n : Nat} {v : Value} {xs : List Value} (h : w.ownsRow base e 2 v n xs) : ∃ p cap, v = .slice p n cap := by
  rcases h.2 with ⟨rfl, rfl⟩ | ⟨g, cap, cur, rfl, _⟩
  · exact ⟨_, _, rfl⟩
  · exact ⟨_, _, rfl⟩
theorem l2Var_any (v : Int) (w : World) : Calls Tryz.prog 97 #[.int .i64 v] w fun e w' => e = .returned (.agg #[.int .i64 2, .int .i64 v]) ∧ Below w.heap.size w w' := by
  go_enter Tryz.func97, Tryz.ntmps97
  go_wp2
  exact bodyPost_ret (v := .agg #[.int .i64 2, .int .i64 v]) (by simp [results, Tryz.results97, go_sem]) rfl ⟨rfl, (Below.refl _ _).alloc (Nat.le_refl _) _⟩
theorem l2Num_any (v : Int) (w : World) : Calls Tryz.prog 95 #[.int .i64 v] w fun e w' => e = .returned (.agg #[.int .i64 1, .int .i64 v]) ∧ Below w.heap.size w w' := by
  go_enter Tryz.func95, Tryz.ntmps95
  go_wp2
  exact bodyPost_ret (v := .agg #[.int .i64 1, .int .i64 v]) (by simp [results, Tryz.results95, go_sem]) rfl ⟨rfl, (Below.refl _ _).alloc (Nat.le_refl _) _⟩
theorem two_new (w : World) (x y : Value) (t : TypeId) : ∀ j u, [x, y][j]? = some u → (w.alloc (.cells #[x, y] t)).cell? ((⟨w.heap.size, 0, none⟩ : Addr).add j) = some u := by
  intro j u hj
  match j, hj with
  | 0, hj => simp at hj; subst hj; simp [Addr.add]
  | 1, hj => simp at hj; subst hj; simp [Addr.add]
theorem frozen_keep {w w' : World} {k g o : Nat} (hB : Below k w w') (hg : g < k) : w'.frozen? ⟨g, o, none⟩ = w.frozen? ⟨g, o, none⟩ := by
  have := hB.block g hg
  unfold World.frozen?
  simp [this]
/-- Behind an append and its store. -/
theorem Rdr.push {w w5 : World} {g : Nat} {s : ByteArray} {a n : Nat} {out out' : List (Int × Int)} {v : Value} (h : Rdr w g s a out) (hB : Below (g + 1) w w5) (hn : out'.length = n) (hown : w5.ownsRow (g + 1) 66 2 v n (flat out')) : Rdr (w5.setCell ⟨g, 2, none⟩ v) g s a out' := by
  obtain ⟨lt, c0, c1, ⟨v0, c2, _⟩, f1, f2⟩ := h
  have d0 := (hB.cell (p := ⟨g, 0, none⟩) (by simp)).trans c0
  have d1 := (hB.cell (p := ⟨g, 1, none⟩) (by simp)).trans c1
  have d2 := (hB.cell (p := ⟨g, 2, none⟩) (by simp)).trans c2
  have e1 := (frozen_keep (o := 1) hB (Nat.lt_succ_self g)).trans f1
  have e2 := (frozen_keep (o := 2) hB (Nat.lt_succ_self g)).trans f2
  subst hn
  exact ⟨by have := hB.size; simp; omega, by simp [go_sem, d0], by simp [go_sem, d1], ⟨v, by simp [go_sem, d2], ownsRow_setCell_below hown (by simp) _⟩, by simp [go_sem, e1], by simp [go_sem, e2]⟩
end Go.Proofs.YtkadanagmahhgaaGreatDoor
