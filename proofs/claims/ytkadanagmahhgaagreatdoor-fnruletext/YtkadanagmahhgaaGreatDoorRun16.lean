/-
  PROVED HERE: which marks the program makes of a text, whatever the text. No other condition. what the program's ReadTerm and NodeCount answer, at every text. The tables are laid. No other condition. what the model's and the program's reading of one side of a rule answer, at every text. The tables are laid. No other condition. plain functions: a rule's text, its two sides, and what is read of it; what strings.Cut answers, laid from the library's own contract. No condition.
-/
import Derived.Test.YtkadanagmahhgaaGreatDoorRun12
import Derived.WalkSmall
import Derived.Test.YtkadanagmahhgaaGreatDoorRun15
import Derived.Test.YtkadanagmahhgaaGreatDoorRun11
import Derived.Test.YtkadanagmahhgaaGreatDoorRun4
import Derived.Test.YtkadanagmahhgaaGreatDoorRun10
import Derived.Test.YtkadanagmahhgaaGreatDoorRun8
import Derived.Shelf.Strings.Cut
import Derived.Shelf.Lay
import Derived.Ground.NamesProg
namespace Go.Proofs.YtkadanagmahhgaaGreatDoor
open Go.ChangeShapes Go.WideShapes Go.ChangeAt Go.RowKit
set_option linter.unusedVariables false

/-- The cells of a list of marks. -/
def flatM : List (Int × Int) → List Value
  | [] => []
  | x :: l => .int .i64 x.1 :: .int .i32 x.2 :: flatM l
theorem flatM_len : ∀ l, (flatM l).length = l.length * 2
  | [] => rfl
  | x :: l => by simp only [flatM, List.length_cons, flatM_len l]; omega
theorem flatM_append : ∀ l m, flatM (l ++ m) = flatM l ++ flatM m
  | [], _ => rfl
  | x :: l, m => by simp only [List.cons_append, flatM, flatM_append l m]
theorem flatM_get : ∀ (l : List (Int × Int)) (i : Nat), i < l.length → (flatM l)[i * 2]? = some (.int .i64 (l.getD i (0, 0)).1) ∧ (flatM l)[i * 2 + 1]? = some (.int .i32 (l.getD i (0, 0)).2)
  | [], _, h => absurd h (Nat.not_lt_zero _)
  | x :: l, 0, _ => ⟨rfl, rfl⟩
  | x :: l, i + 1, h => by
    have := flatM_get l i (by simpa using h)
    rw [show (i + 1) * 2 = i * 2 + 1 + 1 from by omega]
    simpa [flatM] using this
theorem infoMark : (Tryz.prog.info? 129).map (fun i => (i.zero, i.size, i.bytes)) = some (some (.agg #[.int .i64 0, .int .i32 0]), 2, 16) := by kernel_rfl
/-- What a rune of a text is to its bytes. -/
theorem rune_low (s : ByteArray) (pos : Nat) (h : pos < s.size) (ha : (s.data.toList.getD pos 0).toNat < 128) : ((Utf8.decode s pos).1 : Int) = (s.data.toList.getD pos 0).toNat ∧ (Utf8.decode s pos).2 = 1 := by
  rw [at_list s pos h] at ha ⊢
  rw [decode_ascii s pos h ha]; exact ⟨rfl, rfl⟩
theorem rune_high (s : ByteArray) (pos : Nat) (h : pos < s.size) (ha : 128 ≤ (s.data.toList.getD pos 0).toNat) : 128 ≤ ((Utf8.decode s pos).1 : Int) ∧ 1 ≤ (Utf8.decode s pos).2 := by
  rw [at_list s pos h] at ha
  have := decode_high s pos h ha
  omega
theorem rune_wide (s : ByteArray) (pos : Nat) (h : pos < s.size) : 1 ≤ (Utf8.decode s pos).2 := by
  by_cases ha : (s.data.toList.getD pos 0).toNat < 128
  · rw [(rune_low s pos h ha).2]; exact Nat.le_refl _
  · exact (rune_high s pos h (by omega)).2
theorem tail_on (s : ByteArray) (pos : Nat) (h : pos < s.size) (cur : List (Int × Int)) (hT : Tail s.data.toList cur true pos) (hd : (decide (48 ≤ ((Utf8.decode s pos).1 : Int)) && decide (((Utf8.decode s pos).1 : Int) ≤ 57)) = true) : Tail s.data.toList cur true (pos + (Utf8.decode s pos).2) := by
  simp only [Bool.and_eq_true, decide_eq_true_eq] at hd
  by_cases ha : (s.data.toList.getD pos 0).toNat < 128
  · obtain ⟨e1, e2⟩ := rune_low s pos h ha
    rw [e2]
    refine hT.on (n := 0) (by rw [size_list]; exact h) ?_
    unfold isD
    exact decide_eq_true (by omega)
  · have := rune_high s pos h (by omega); omega
theorem tail_new (s : ByteArray) (pos : Nat) (h : pos < s.size) (cur : List (Int × Int)) (b : Bool) (hT : Tail s.data.toList cur b pos) (hd : (b && (decide (48 ≤ ((Utf8.decode s pos).1 : Int)) && decide (((Utf8.decode s pos).1 : Int) ≤ 57))) = false) :
    Tail s.data.toList (cur ++ [((pos : Int), ((Utf8.decode s pos).1 : Int))]) (decide (48 ≤ ((Utf8.decode s pos).1 : Int)) && decide (((Utf8.decode s pos).1 : Int) ≤ 57)) (pos + (Utf8.decode s pos).2) := by
  by_cases ha : (s.data.toList.getD pos 0).toNat < 128
  · obtain ⟨e1, e2⟩ := rune_low s pos h ha
    have e3 : (decide (48 ≤ ((Utf8.decode s pos).1 : Int)) && decide (((Utf8.decode s pos).1 : Int) ≤ 57)) = isD (s.data.toList.getD pos 0) := by
      rw [e1]
      unfold isD
      rw [← Bool.decide_and]
      exact decide_eq_decide.2 (by omega)
    rw [e3] at hd ⊢
    rw [e1, e2]
    exact hT.low (by rw [size_list]; exact h) ha hd
  · exact hT.high _ _ (by rw [size_list]; exact h) (by omega) (rune_high s pos h (by omega)).1
theorem two_newM (w : World) (x y : Value) (t : TypeId) : ∀ j u, [x, y][j]? = some u → (w.alloc (.cells #[x, y] t)).cell? ((⟨w.heap.size, 0, none⟩ : Addr).add j) = some u := two_new w x y t
theorem two_one (x y : Int) : ∀ u ∈ [Value.int .i64 x, Value.int .i32 y], u.oneCell' = true := fun u hu => by
  rcases List.mem_cons.1 hu with rfl | hu
  · rfl
  · rw [List.mem_singleton.1 hu]; rfl

theorem alloc_at {w : World} {k : Nat} {o x : Obj} (h : w.heap[k]? = some x) : (w.alloc o).heap[k]? = some x := by
  have hlt := (Array.getElem?_eq_some_iff.1 h).1
  show (w.heap.push o)[k]? = _
  rw [Array.getElem?_push, if_neg (by omega)]; exact h
set_option maxHeartbeats 2000000 in
set_option maxRecDepth 20000 in
theorem marks_any (s : ByteArray) (w : World) (hs : s.size ≤ 1048000) :
    Calls Tryz.prog 92 #[.string s] w fun e w' => ∃ (v : Value) (M : List (Int × Int)), e = .returned v ∧ w'.ownsRow (w.heap.size + 1) 129 2 v M.length (flatM M) ∧ MkAt s.data.toList M 0 ∧ M.length ≤ s.size + 1 ∧ Below w.heap.size w w' := by
  obtain ⟨i0, hi, hz0, hz1, hz2⟩ := info_parts infoMark
  have i1 : (s.size : Int) ≤ 1048000 := by omega
  go_enter Tryz.func92, Tryz.ntmps92
  go_wp2_with fail
  go_loopw [3, 4] (fun v x wr => ∃ (pos : Nat) (cur : List (Int × Int)) (b : Bool), x = .bool b ∧ wr.heap[w.heap.size]? = some (.stringIter s pos) ∧ wr.ownsRow (w.heap.size + 1) 129 2 v cur.length (flatM cur) ∧ Below w.heap.size w wr ∧ Hid (Tail s.data.toList cur b pos) ∧ cur.length ≤ pos ∧ cur.length ≤ s.size) (fun _ _ wr => s.size - wr.iterPos w.heap.size)
  case atStart => exact ⟨0, [], false, rfl, World.iter_heap w s 0, World.ownsRow_nil _ _ _ _, (Below.refl _ _).alloc (Nat.le_refl _) _, Tail.start _, Nat.le_refl _, Nat.zero_le _⟩
  case round =>
    obtain ⟨pos, cur, b, rfl, hit, hown, hbw, HT, hlen, hlen2⟩ := hrel
    have hpos0 := iterPos_of hit
    by_cases hp : pos < s.size
    · have hnx : ∀ ty, (Instr.next (.pointer (some ⟨w.heap.size, 0, none⟩)) true ty).run Tryz.prog wr = _ := fun ty => Lib.run_next_any_at wr w.heap.size s pos ty hit hp
      have hit2 := Lib.iterAt_heap wr w.heap.size s pos (pos + (Utf8.decode s pos).2) hit
      have hbw2 := Lib.below_iterAt hbw (k := w.heap.size) (Nat.le_refl _) s (pos + (Utf8.decode s pos).2)
      have hown2 := ownsRow_iterAt hown (k := w.heap.size) (by omega) s (pos + (Utf8.decode s pos).2)
      obtain ⟨W1, hW1⟩ : ∃ W1, W1 = wr.iterAt w.heap.size s (pos + (Utf8.decode s pos).2) := ⟨_, rfl⟩
      rw [← hW1] at hnx hit2 hbw2 hown2
      have hwd := rune_wide s pos hp
      have HD : Hid (∀ W, Calls Tryz.prog 121 #[.int .i32 ((Utf8.decode s pos).1 : Int)] W fun e w' => e = .returned (.bool (decide (48 ≤ ((Utf8.decode s pos).1 : Int)) && decide (((Utf8.decode s pos).1 : Int) ≤ 57))) ∧ w' = W) := fun W => isDigit_any _ W
      have HOn : Hid (b = true → (decide (48 ≤ ((Utf8.decode s pos).1 : Int)) && decide (((Utf8.decode s pos).1 : Int) ≤ 57)) = true → Tail s.data.toList cur true (pos + (Utf8.decode s pos).2)) := fun hb hd => tail_on s pos hp cur (by have := HT.out; rw [hb] at this; exact this) hd
      have HNew : Hid ((b && (decide (48 ≤ ((Utf8.decode s pos).1 : Int)) && decide (((Utf8.decode s pos).1 : Int) ≤ 57))) = false → Tail s.data.toList (cur ++ [((pos : Int), ((Utf8.decode s pos).1 : Int))]) (decide (48 ≤ ((Utf8.decode s pos).1 : Int)) && decide (((Utf8.decode s pos).1 : Int) ≤ 57)) (pos + (Utf8.decode s pos).2)) := fun hd => tail_new s pos hp cur b HT.out hd
      have hBlt : w.heap.size < W1.heap.size := (Array.getElem?_eq_some_iff.1 hit2).1
      clear hW1 hit hown hbw HT
      generalize (Utf8.decode s pos).2 = wd at hnx hit2 hwd HOn HNew
      generalize ((Utf8.decode s pos).1 : Int) = c at hnx HD HOn HNew
      have hm : s.size - (pos + wd) < s.size - pos := by omega
      have hap : ∀ o, w.heap.size + 1 ≤ (W1.alloc o).heap.size := fun o => by simp; omega
      cases hd : (decide (48 ≤ c) && decide (c ≤ 57)) with
      | true =>
        rw [hd] at HD HOn HNew
        clear hd
        cases b with
        | true =>
          have HT2 := (show Hid _ from HOn.out rfl rfl)
          clear HOn HNew
          go_wp2_with fail
          refine (HD.out _).mono ?_
          rintro e w2 ⟨rfl, rfl⟩
          go_wp2_with fail
          refine (HD.out _).mono ?_
          rintro e w3 ⟨rfl, rfl⟩
          go_wp2
          refine ⟨⟨pos + wd, cur, true, rfl, hit2, hown2, hbw2, HT2, by omega, by omega⟩, ?_⟩
          rw [iterPos_of hit2, hpos0]; exact hm
        | false =>
          have HT2 := (show Hid _ from HNew.out rfl)
          clear HOn HNew
          go_wp2_with fail
          refine (HD.out _).mono ?_
          rintro e w2 ⟨rfl, rfl⟩
          go_wp2_with (at_builtin; refine wpList_append_own _ rfl _ _ 122 rfl (w.heap.size + 1) 129 i0 (.agg #[.int .i64 0, .int .i32 0]) 2 16 Tryz.underlying122 hi hz0 hz1 hz2 rfl (by decide) _ _ _ rfl (hown2.alloc _) ⟨w2.heap.size, 0, none⟩ 1 1 [.int .i64 pos, .int .i32 c] rfl (by simp) (two_newM w2 _ _ _) (two_one _ _) (by unfold maxLen; omega) (by omega) (hap _) ?_; intro v' w5 hown5 hg5 _)
          have hit5 := (hg5.block w.heap.size (by simp; omega) (fun e => by have := own_ge hown2 _ e.symm; omega)).trans (alloc_at hit2)
          refine ⟨⟨pos + wd, _, true, rfl, hit5, by rw [flatM_append, List.length_append]; exact hown5, (hbw2.alloc hbw2.size _).grown hg5 (by have := hap (.cells #[.int .i64 pos, .int .i32 c] 129); omega) (fun r hr => by have := own_ge hown2 r hr; omega), HT2, by simp; omega, by simp; omega⟩, ?_⟩
          rw [iterPos_of hit5, hpos0]; exact hm
      | false =>
        rw [hd] at HD HOn HNew
        clear hd
        have HT2 := (show Hid _ from HNew.out (Bool.and_false _))
        clear HOn HNew
        cases b with
        | true =>
          go_wp2_with fail
          refine (HD.out _).mono ?_
          rintro e w2 ⟨rfl, rfl⟩
          go_wp2_with fail
          refine (HD.out _).mono ?_
          rintro e w3 ⟨rfl, rfl⟩
          go_wp2_with (at_builtin; refine wpList_append_own _ rfl _ _ 122 rfl (w.heap.size + 1) 129 i0 (.agg #[.int .i64 0, .int .i32 0]) 2 16 Tryz.underlying122 hi hz0 hz1 hz2 rfl (by decide) _ _ _ rfl (hown2.alloc _) ⟨w3.heap.size, 0, none⟩ 1 1 [.int .i64 pos, .int .i32 c] rfl (by simp) (two_newM w3 _ _ _) (two_one _ _) (by unfold maxLen; omega) (by omega) (hap _) ?_; intro v' w5 hown5 hg5 _)
          have hit5 := (hg5.block w.heap.size (by simp; omega) (fun e => by have := own_ge hown2 _ e.symm; omega)).trans (alloc_at hit2)
          refine ⟨⟨pos + wd, _, false, rfl, hit5, by rw [flatM_append, List.length_append]; exact hown5, (hbw2.alloc hbw2.size _).grown hg5 (by have := hap (.cells #[.int .i64 pos, .int .i32 c] 129); omega) (fun r hr => by have := own_ge hown2 r hr; omega), HT2, by simp; omega, by simp; omega⟩, ?_⟩
          rw [iterPos_of hit5, hpos0]; exact hm
        | false =>
          go_wp2_with fail
          refine (HD.out _).mono ?_
          rintro e w2 ⟨rfl, rfl⟩
          go_wp2_with (at_builtin; refine wpList_append_own _ rfl _ _ 122 rfl (w.heap.size + 1) 129 i0 (.agg #[.int .i64 0, .int .i32 0]) 2 16 Tryz.underlying122 hi hz0 hz1 hz2 rfl (by decide) _ _ _ rfl (hown2.alloc _) ⟨w2.heap.size, 0, none⟩ 1 1 [.int .i64 pos, .int .i32 c] rfl (by simp) (two_newM w2 _ _ _) (two_one _ _) (by unfold maxLen; omega) (by omega) (hap _) ?_; intro v' w5 hown5 hg5 _)
          have hit5 := (hg5.block w.heap.size (by simp; omega) (fun e => by have := own_ge hown2 _ e.symm; omega)).trans (alloc_at hit2)
          refine ⟨⟨pos + wd, _, false, rfl, hit5, by rw [flatM_append, List.length_append]; exact hown5, (hbw2.alloc hbw2.size _).grown hg5 (by have := hap (.cells #[.int .i64 pos, .int .i32 c] 129); omega) (fun r hr => by have := own_ge hown2 r hr; omega), HT2, by simp; omega, by simp; omega⟩, ?_⟩
          rw [iterPos_of hit5, hpos0]; exact hm
    · have hnx : ∀ ty, (Instr.next (.pointer (some ⟨w.heap.size, 0, none⟩)) true ty).run Tryz.prog wr = .ok (.tuple #[.bool false]) wr := fun ty => Lib.run_next_end_at wr w.heap.size s pos ty hit hp
      have hM := (show Hid _ from HT.out.fin (by rw [size_list]; exact hp))
      rw [size_list] at hM
      have hBlt : w.heap.size < wr.heap.size := (Array.getElem?_eq_some_iff.1 hit).1
      have hap : ∀ o, w.heap.size + 1 ≤ (wr.alloc o).heap.size := fun o => by simp; omega
      clear hit HT hpos0
      go_wp2_with (at_builtin; refine wpList_append_own _ rfl _ _ 122 rfl (w.heap.size + 1) 129 i0 (.agg #[.int .i64 0, .int .i32 0]) 2 16 Tryz.underlying122 hi hz0 hz1 hz2 rfl (by decide) _ _ _ rfl (hown.alloc _) ⟨wr.heap.size, 0, none⟩ 1 1 [.int .i64 s.size, .int .i32 (-1)] rfl (by simp) (two_newM wr _ _ _) (two_one _ _) (by unfold maxLen; omega) (by omega) (hap _) ?_; intro v' w5 hown5 hg5 _)
      go_ret
      refine ⟨_, _, rfl, by rw [flatM_append, List.length_append]; exact hown5, hM.out, by simp; omega, (hbw.alloc hbw.size _).grown hg5 (by have := hap (.cells #[.int .i64 s.size, .int .i32 (-1)] 129); omega) (fun r hr => by have := own_ge hown r hr; omega)⟩
end Go.Proofs.YtkadanagmahhgaaGreatDoor
namespace Go.Proofs.YtkadanagmahhgaaGreatDoor
open Go.ChangeShapes Go.WideShapes Go.ChangeAt Go.RowKit
set_option linter.unusedVariables false

theorem irdr_new {w1 : World} {s : ByteArray} {mb mc base : Nat} {M : List (Int × Int)} (hown : w1.ownsRow base 129 2 (.slice (some ⟨mb, 0, none⟩) M.length mc) M.length (flatM M)) :
    IRdr (w1.alloc (.cells #[.string s, .slice (some ⟨mb, 0, none⟩) M.length mc, .int .i64 0, .slice none 0 0] 125)) (w1.heap.size + 1) w1.heap.size mb mc s M 0 [] := by
  have hlt : mb < w1.heap.size := owns_lt hown
  refine ⟨by omega, by simp, by omega, by omega, by simp [go_sem], by simp [go_sem], by simp [go_sem], ⟨_, by simp [go_sem], World.ownsRow_nil _ _ _ _⟩, by simp [go_sem], by simp [go_sem], fun i hi => ?_⟩
  have hc := (hown.alloc (.cells #[.string s, .slice (some ⟨mb, 0, none⟩) M.length mc, .int .i64 0, .slice none 0 0] 125)).cells rfl
  have g := flatM_get M i hi
  have c1 := hc _ _ g.1
  have c2 := hc _ _ g.2
  rw [add_at, Nat.zero_add] at c1 c2
  exact ⟨c1, c2⟩
set_option maxHeartbeats 2000000 in
set_option maxRecDepth 20000 in
theorem implReadTerm_any (s : ByteArray) (w : World) (hE : Env w) (hs : s.size ≤ 9223372036854775807) :
    Calls Tryz.prog 51 #[.string s] w fun e w' => ∃ v : Value, e = .returned (.tuple #[v, .int .i64 (readAt s.data.toList : Nat), .bool (readOk s.data.toList)]) ∧ w'.ownsRow w.heap.size 66 2 v (readL s.data.toList).length (flat (readL s.data.toList)) ∧ Below w.heap.size w w' := by
  have hsl : s.data.toList.length = s.size := size_list s
  by_cases hbig : 1200 < s.size
  · obtain ⟨r1, r2, r3⟩ := read_big (s := s.data.toList) (by omega)
    rw [r1, r2, r3]
    have i1 : (1200 : Int) < s.size := by omega
    clear r1 r2 r3
    go_enter Tryz.func51, Tryz.ntmps51
    go_wp2
    go_ret3
    exact ⟨_, rfl, World.ownsRow_nil _ _ _ _, Below.refl _ _⟩
  have i1 : ¬ (1200 : Int) < s.size := by omega
  have HM := (show Hid _ from marks_any s w (by omega))
  have HE : Hid (Env w) := hE
  have hmain : Hid (∀ (B g mb mc : Nat) (M : List (Int × Int)) W, Gl g → M.length ≤ 1048576 → Env W → IRdr W B g mb mc s M 0 [] → MkAt s.data.toList M 0 → Calls Tryz.prog 93 #[.pointer (some ⟨g, 0, none⟩)] W fun e w' => e = .returned (.bool (rdR s.data.toList).1) ∧ ILeft w' B g mb mc s M (rdR s.data.toList) ∧ Below g W w') := fun B g mb mc M W hG hM hW hR hA => by
    have := ipart_any (B := B) (mb := mb) (mc := mc) hG hM (by omega) (s.size + 1) 0 [] (by omega) (by omega) (Nat.le_refl _) W 0 hW hR hA
    unfold rdR
    rw [hsl]
    exact this
  have HRd : Hid ((rdR s.data.toList).2.1 ≤ s.data.toList.length) := (rdR_ok s.data.toList).2.1
  have R0 : Hid (¬ ((rdR s.data.toList).1 = true ∧ (rdR s.data.toList).2.1 = s.size) → readOk s.data.toList = false ∧ readAt s.data.toList = (rdR s.data.toList).2.1 ∧ readL s.data.toList = []) := fun h => read_fail (by omega) (by rw [hsl]; exact h)
  have R1 : Hid (((rdR s.data.toList).1 = true ∧ (rdR s.data.toList).2.1 = s.size) → 40 < (rdR s.data.toList).2.2.length → readOk s.data.toList = false ∧ readAt s.data.toList = 0 ∧ readL s.data.toList = []) := fun h h' => read_many (by omega) (by rw [hsl]; exact h) h'
  have R2 : Hid (((rdR s.data.toList).1 = true ∧ (rdR s.data.toList).2.1 = s.size) → (rdR s.data.toList).2.2.length ≤ 40 → readOk s.data.toList = true ∧ readAt s.data.toList = s.size ∧ readL s.data.toList = (rdR s.data.toList).2.2) := fun h h' => by have := read_good (s := s.data.toList) (by omega) (by rw [hsl]; exact h) h'; rw [hsl] at this; exact this
  have HLn : Hid ((rdR s.data.toList).2.2.length ≤ 1048576) := by
    have := (rdR_ok s.data.toList).2.2.1
    have := HRd.out
    show _ ≤ _
    simp at *
    omega
  obtain ⟨R, hR⟩ : ∃ R, rdR s.data.toList = R := ⟨_, rfl⟩
  rw [hR] at hmain HRd R0 R1 R2 HLn
  clear hR
  generalize readOk s.data.toList = OK at R0 R1 R2 ⊢
  generalize readAt s.data.toList = AT at R0 R1 R2 ⊢
  generalize readL s.data.toList = LL at R0 R1 R2 ⊢
  obtain ⟨b, at1, nn⟩ := R
  simp only at R0 R1 R2 HRd HLn hmain
  have hend : Hid (∀ (M : List (Int × Int)) k, MkAt s.data.toList (M.drop k) at1 → k < M.length ∧ (M.getD k (0, 0)).1 = at1 ∧ ((M.getD k (0, 0)).2 == -1) = decide (at1 = s.size)) := fun M k hA => by
    have h1 := hA.at.1
    have h2 := hA.end
    rw [drop_getD] at h1 h2
    rw [hsl] at h2
    exact ⟨drop_lt' hA, h1, h2⟩
  clear hE hsl
  by_cases hok : b = true ∧ at1 = s.size
  · obtain ⟨rfl, rfl⟩ := hok
    by_cases h40 : 40 < nn.length
    · obtain ⟨r1, r2, r3⟩ := R1.out ⟨rfl, rfl⟩ h40
      rw [r1, r2, r3]
      have i2 : (40 : Int) < nn.length := by omega
      clear R0 R1 R2 r1 r2 r3
      go_enter Tryz.func51, Tryz.ntmps51
      go_wp2_with fail
      refine Calls.mono HM.out ?_
      rintro e w1 ⟨v, M, rfl, hown, hA, hMl, hb1⟩
      have hMp := hA.at.2
      rcases hown.2 with ⟨_, h0⟩ | ⟨mb, mc, cur, rfl, hmb, _⟩
      · omega
      have hR0 := irdr_new (s := s) hown
      have hB0 : Below w.heap.size w (w1.alloc (.cells #[.string s, .slice (some ⟨mb, 0, none⟩) M.length mc, .int .i64 0, .slice none 0 0] 125)) := hb1.alloc hb1.size _
      have HQ := (show Hid _ from hmain.out _ w1.heap.size mb mc M _ (HE.out.gl.mono hb1.size) (by omega) (HE.out.keep hB0) hR0 hA)
      have HB0 := (show Hid _ from hB0)
      have hsz := hb1.size
      clear HM hmain hown hR0 hA hB0
      go_wp2_with fail
      refine Calls.mono HQ.out ?_
      rintro e w2 ⟨rfl, ⟨k, out, hR2, hA2, ho2⟩, hb2⟩
      have hB2 : Below w.heap.size w w2 := HB0.out.trans (hb2.mono hsz)
      obtain ⟨hk, hat, hen⟩ := hend.out M k hA2
      clear HQ HB0
      have HC := (show Hid _ from comes_any w2 _ _ mb mc s M k out (-1) hR2 hk (by omega))
      rw [show ((M.getD k (0, 0)).2 == -1) = true from by rw [hen]; simp] at HC
      go_wp2_with fail
      refine Calls.mono HC.out ?_
      rintro e w3 ⟨rfl, nn3, rfl⟩
      have hR3 := hR2.drewN nn3
      have hB3 := hB2.trans (below_drewN w.heap.size nn3)
      generalize w2.drewN nn3 = w3 at hR3 hB3
      clear HC hR2 hB2
      obtain rfl := ho2 (by trivial)
      obtain ⟨v3, c3, hown3⟩ := hR3.row
      obtain ⟨po, co, rfl⟩ := own_shape hown3
      have HO := (show Hid _ from hown3)
      clear hown3 hA2 hen hat hend
      go_wp2
      go_ret3
      exact ⟨_, rfl, World.ownsRow_nil _ _ _ _, hB3⟩
    · obtain ⟨r1, r2, r3⟩ := R2.out ⟨rfl, rfl⟩ (by omega)
      rw [r1, r2, r3]
      have i2 : ¬ (40 : Int) < nn.length := by omega
      clear R0 R1 R2 r1 r2 r3
      go_enter Tryz.func51, Tryz.ntmps51
      go_wp2_with fail
      refine Calls.mono HM.out ?_
      rintro e w1 ⟨v, M, rfl, hown, hA, hMl, hb1⟩
      have hMp := hA.at.2
      rcases hown.2 with ⟨_, h0⟩ | ⟨mb, mc, cur, rfl, hmb, _⟩
      · omega
      have hR0 := irdr_new (s := s) hown
      have hB0 : Below w.heap.size w (w1.alloc (.cells #[.string s, .slice (some ⟨mb, 0, none⟩) M.length mc, .int .i64 0, .slice none 0 0] 125)) := hb1.alloc hb1.size _
      have HQ := (show Hid _ from hmain.out _ w1.heap.size mb mc M _ (HE.out.gl.mono hb1.size) (by omega) (HE.out.keep hB0) hR0 hA)
      have HB0 := (show Hid _ from hB0)
      have hsz := hb1.size
      clear HM hmain hown hR0 hA hB0
      go_wp2_with fail
      refine Calls.mono HQ.out ?_
      rintro e w2 ⟨rfl, ⟨k, out, hR2, hA2, ho2⟩, hb2⟩
      have hB2 : Below w.heap.size w w2 := HB0.out.trans (hb2.mono hsz)
      obtain ⟨hk, hat, hen⟩ := hend.out M k hA2
      clear HQ HB0
      have HC := (show Hid _ from comes_any w2 _ _ mb mc s M k out (-1) hR2 hk (by omega))
      rw [show ((M.getD k (0, 0)).2 == -1) = true from by rw [hen]; simp] at HC
      go_wp2_with fail
      refine Calls.mono HC.out ?_
      rintro e w3 ⟨rfl, nn3, rfl⟩
      have hR3 := hR2.drewN nn3
      have hB3 := hB2.trans (below_drewN w.heap.size nn3)
      generalize w2.drewN nn3 = w3 at hR3 hB3
      clear HC hR2 hB2
      obtain rfl := ho2 (by trivial)
      obtain ⟨v3, c3, hown3⟩ := hR3.row
      obtain ⟨po, co, rfl⟩ := own_shape hown3
      have HO := (show Hid _ from hown3)
      clear hown3 hA2 hen hat hend
      go_wp2
      go_ret3
      exact ⟨_, rfl, own_base HO.out (by omega), hB3⟩
  · obtain ⟨r1, r2, r3⟩ := R0.out hok
    rw [r1, r2, r3]
    clear R0 R1 R2 r1 r2 r3
    cases b with
    | false =>
      clear hok
      go_enter Tryz.func51, Tryz.ntmps51
      go_wp2_with fail
      refine Calls.mono HM.out ?_
      rintro e w1 ⟨v, M, rfl, hown, hA, hMl, hb1⟩
      have hMp := hA.at.2
      rcases hown.2 with ⟨_, h0⟩ | ⟨mb, mc, cur, rfl, hmb, _⟩
      · omega
      have hR0 := irdr_new (s := s) hown
      have hB0 : Below w.heap.size w (w1.alloc (.cells #[.string s, .slice (some ⟨mb, 0, none⟩) M.length mc, .int .i64 0, .slice none 0 0] 125)) := hb1.alloc hb1.size _
      have HQ := (show Hid _ from hmain.out _ w1.heap.size mb mc M _ (HE.out.gl.mono hb1.size) (by omega) (HE.out.keep hB0) hR0 hA)
      have HB0 := (show Hid _ from hB0)
      have hsz := hb1.size
      clear HM hmain hown hR0 hA hB0
      go_wp2_with fail
      refine Calls.mono HQ.out ?_
      rintro e w2 ⟨rfl, ⟨k, out, hR2, hA2, ho2⟩, hb2⟩
      have hB2 : Below w.heap.size w w2 := HB0.out.trans (hb2.mono hsz)
      obtain ⟨hk, hat, hen⟩ := hend.out M k hA2
      clear HQ HB0
      have c1 := hR2.c1
      have c2 := hR2.c2
      have m1 := (hR2.mks k hk).1
      rw [hat] at m1
      have j1 : (k : Int) < M.length := by omega
      have hBB := hB2
      clear hA2 hen hat hend
      go_wp2_with fail
      go_quiet (fail)
      go_wp2
      go_ret3
      exact ⟨_, rfl, World.ownsRow_nil _ _ _ _, hBB.trans (below_drewN _ _)⟩
    | true =>
      have hne : ¬ at1 = s.size := fun e => hok ⟨rfl, e⟩
      clear hok
      go_enter Tryz.func51, Tryz.ntmps51
      go_wp2_with fail
      refine Calls.mono HM.out ?_
      rintro e w1 ⟨v, M, rfl, hown, hA, hMl, hb1⟩
      have hMp := hA.at.2
      rcases hown.2 with ⟨_, h0⟩ | ⟨mb, mc, cur, rfl, hmb, _⟩
      · omega
      have hR0 := irdr_new (s := s) hown
      have hB0 : Below w.heap.size w (w1.alloc (.cells #[.string s, .slice (some ⟨mb, 0, none⟩) M.length mc, .int .i64 0, .slice none 0 0] 125)) := hb1.alloc hb1.size _
      have HQ := (show Hid _ from hmain.out _ w1.heap.size mb mc M _ (HE.out.gl.mono hb1.size) (by omega) (HE.out.keep hB0) hR0 hA)
      have HB0 := (show Hid _ from hB0)
      have hsz := hb1.size
      clear HM hmain hown hR0 hA hB0
      go_wp2_with fail
      refine Calls.mono HQ.out ?_
      rintro e w2 ⟨rfl, ⟨k, out, hR2, hA2, ho2⟩, hb2⟩
      have hB2 : Below w.heap.size w w2 := HB0.out.trans (hb2.mono hsz)
      obtain ⟨hk, hat, hen⟩ := hend.out M k hA2
      clear HQ HB0
      have HC := (show Hid _ from comes_any w2 _ _ mb mc s M k out (-1) hR2 hk (by omega))
      rw [show ((M.getD k (0, 0)).2 == -1) = false from by rw [hen]; exact decide_eq_false hne] at HC
      go_wp2_with fail
      refine Calls.mono HC.out ?_
      rintro e w3 ⟨rfl, nn3, rfl⟩
      have hR3 := hR2.drewN nn3
      have hB3 := hB2.trans (below_drewN w.heap.size nn3)
      generalize w2.drewN nn3 = w3 at hR3 hB3
      clear HC hR2 hB2
      clear hne
      have c1 := hR3.c1
      have c2 := hR3.c2
      have m1 := (hR3.mks k hk).1
      rw [hat] at m1
      have j1 : (k : Int) < M.length := by omega
      have hBB := hB3
      clear hA2 hen hat hend
      go_wp2_with fail
      go_quiet (fail)
      go_wp2
      go_ret3
      exact ⟨_, rfl, World.ownsRow_nil _ _ _ _, hBB.trans (below_drewN _ _)⟩
end Go.Proofs.YtkadanagmahhgaaGreatDoor
namespace Go.Proofs.YtkadanagmahhgaaGreatDoor
open Go.ChangeShapes Go.WideShapes Go.ChangeAt Go.RowKit
set_option linter.unusedVariables false

def sideOk (b : List UInt8) : Bool := readOk b && decide ((readL b).length ≤ 7)
def sideAt (b : List UInt8) : Nat := if readOk b = true then 0 else readAt b
def sideL (b : List UInt8) : List (Int × Int) := if sideOk b = true then readL b else []
theorem side_pat {b : List UInt8} (h : readOk b = true) : patB (readL b) = decide ((readL b).length ≤ 7) := by
  unfold patB
  rw [(read_text h).1, Bool.true_and]
theorem sideL_len (b : List UInt8) : (sideL b).length ≤ 7 := by
  unfold sideL
  split
  · next h =>
    unfold sideOk at h
    simp only [Bool.and_eq_true, decide_eq_true_eq] at h
    exact h.2
  · exact Nat.zero_le _
/-- What a side's reading comes to. -/
def SideR (w w' : World) (b : List UInt8) (e : Ending) : Prop := ∃ (v : Value) (z : Int), e = .returned (.tuple #[v, .int .i64 z, .bool (sideOk b)]) ∧ (sideOk b = false → z = sideAt b) ∧ w'.ownsRow w.heap.size 66 2 v (sideL b).length (flat (sideL b)) ∧ Below w.heap.size w w'
set_option maxHeartbeats 800000 in
theorem specSide_any (s : ByteArray) (w : World) (hs : s.size ≤ 9223372036854775807) :
    Calls Tryz.prog 30 #[.string s] w fun e w' => SideR w w' s.data.toList e := by
  have HR := (show Hid _ from specReadTerm_any s w hs)
  have hP := @side_pat s.data.toList
  have hL7 := readL_len s.data.toList
  unfold SideR sideL sideAt sideOk
  cases hok : readOk s.data.toList with
  | false =>
    rw [hok] at HR
    rw [Bool.false_and, if_neg (by decide), if_neg (by decide)]
    generalize readAt s.data.toList = AT at HR ⊢
    have hl0 : readL s.data.toList = [] := by unfold readL; rw [hok]; rfl
    rw [hl0] at HR
    clear hP hok hL7 hl0
    go_enter Tryz.func30, Tryz.ntmps30
    go_wp2_with fail
    refine Calls.mono HR.out ?_
    rintro e w1 ⟨v, rfl, hown, hb⟩
    obtain ⟨po, co, rfl⟩ := own_shape hown
    have HO := (show Hid _ from hown)
    clear HR hown
    go_wp2
    go_ret3
    exact ⟨_, _, rfl, fun _ => rfl, World.ownsRow_nil _ _ _ _, hb⟩
  | true =>
    rw [hok] at HR
    rw [Bool.true_and, show (if true = true then 0 else readAt s.data.toList) = 0 from if_pos rfl]
    have hp := hP hok
    have hNS : Hid (∀ W (a : Option Addr) (c : Nat), Below w.heap.size w W → NSl W a (readL s.data.toList).length (readL s.data.toList) → Calls Tryz.prog 46 #[.slice a (readL s.data.toList).length c] W fun e w' => e = .returned (.bool (patB (readL s.data.toList))) ∧ Below W.heap.size W w') := fun W a c hW h => specPat_any a _ c _ W h (by omega)
    rw [hp] at hNS
    generalize readAt s.data.toList = AT at HR ⊢
    generalize readL s.data.toList = L at HR hL7 hNS ⊢
    clear hP hp hok
    by_cases h7 : L.length ≤ 7
    · rw [decide_eq_true h7] at hNS ⊢
      rw [if_pos rfl]
      go_enter Tryz.func30, Tryz.ntmps30
      go_wp2_with fail
      refine Calls.mono HR.out ?_
      rintro e w1 ⟨v, rfl, hown, hb⟩
      obtain ⟨po, co, rfl, hns⟩ := NSl.row hown
      have HO := (show Hid _ from hown)
      have HP := (show Hid _ from hNS.out w1 po co hb hns)
      have HB := (show Hid _ from hb)
      clear HR hown hNS hns hb
      go_wp2_with fail
      refine Calls.mono HP.out ?_
      rintro e w2 ⟨rfl, hb2⟩
      have HO2 := (show Hid _ from own_keep HO.out hb2)
      have HB2 := (show Hid _ from HB.out.trans (hb2.mono HB.out.size))
      clear HP HO HB hb2
      go_wp2
      go_ret3
      exact ⟨_, _, rfl, fun h => (by cases h), HO2.out, HB2.out⟩
    · rw [decide_eq_false h7] at hNS ⊢
      rw [if_neg (by decide)]
      go_enter Tryz.func30, Tryz.ntmps30
      go_wp2_with fail
      refine Calls.mono HR.out ?_
      rintro e w1 ⟨v, rfl, hown, hb⟩
      obtain ⟨po, co, rfl, hns⟩ := NSl.row hown
      have HP := (show Hid _ from hNS.out w1 po co hb hns)
      have HB := (show Hid _ from hb)
      clear HR hown hNS hns hb
      go_wp2_with fail
      refine Calls.mono HP.out ?_
      rintro e w2 ⟨rfl, hb2⟩
      have HB2 := (show Hid _ from HB.out.trans (hb2.mono HB.out.size))
      clear HP HB hb2
      go_wp2
      go_ret3
      exact ⟨_, _, rfl, fun _ => rfl, World.ownsRow_nil _ _ _ _, HB2.out⟩
set_option maxHeartbeats 800000 in
theorem implSide_any (s : ByteArray) (w : World) (hE : Env w) (hT : Tab w) (hs : s.size ≤ 9223372036854775807) :
    Calls Tryz.prog 24 #[.string s] w fun e w' => SideR w w' s.data.toList e := by
  have HR := (show Hid _ from implReadTerm_any s w hE hs)
  have hP := @side_pat s.data.toList
  have hL7 := readL_len s.data.toList
  unfold SideR sideL sideAt sideOk
  cases hok : readOk s.data.toList with
  | false =>
    rw [hok] at HR
    rw [Bool.false_and, if_neg (by decide), if_neg (by decide)]
    generalize readAt s.data.toList = AT at HR ⊢
    have hl0 : readL s.data.toList = [] := by unfold readL; rw [hok]; rfl
    rw [hl0] at HR
    clear hP hok hL7 hl0 hE hT
    go_enter Tryz.func24, Tryz.ntmps24
    go_wp2_with fail
    refine Calls.mono HR.out ?_
    rintro e w1 ⟨v, rfl, hown, hb⟩
    obtain ⟨po, co, rfl⟩ := own_shape hown
    have HO := (show Hid _ from hown)
    clear HR hown
    go_wp2
    go_ret3
    exact ⟨_, _, rfl, fun _ => rfl, HO.out, hb⟩
  | true =>
    rw [hok] at HR
    rw [Bool.true_and, show (if true = true then 0 else readAt s.data.toList) = 0 from if_pos rfl]
    have hp := hP hok
    have hNS : Hid (∀ W (a : Option Addr) (c : Nat), Below w.heap.size w W → NSl W a (readL s.data.toList).length (readL s.data.toList) → Calls Tryz.prog 42 #[.slice a (readL s.data.toList).length c] W fun e w' => e = .returned (.bool (patB (readL s.data.toList))) ∧ Below W.heap.size W w') := fun W a c hW h => implPat_any a _ c _ W (hT.keeps hW) h (by omega)
    rw [hp] at hNS
    generalize readAt s.data.toList = AT at HR ⊢
    generalize readL s.data.toList = L at HR hL7 hNS ⊢
    clear hP hp hok hE hT
    by_cases h7 : L.length ≤ 7
    · rw [decide_eq_true h7] at hNS ⊢
      rw [if_pos rfl]
      go_enter Tryz.func24, Tryz.ntmps24
      go_wp2_with fail
      refine Calls.mono HR.out ?_
      rintro e w1 ⟨v, rfl, hown, hb⟩
      obtain ⟨po, co, rfl, hns⟩ := NSl.row hown
      have HO := (show Hid _ from hown)
      have HP := (show Hid _ from hNS.out w1 po co hb hns)
      have HB := (show Hid _ from hb)
      clear HR hown hNS hns hb
      go_wp2_with fail
      refine Calls.mono HP.out ?_
      rintro e w2 ⟨rfl, hb2⟩
      have HO2 := (show Hid _ from own_keep HO.out hb2)
      have HB2 := (show Hid _ from HB.out.trans (hb2.mono HB.out.size))
      clear HP HO HB hb2
      go_wp2
      go_ret3
      exact ⟨_, _, rfl, fun h => (by cases h), HO2.out, HB2.out⟩
    · rw [decide_eq_false h7] at hNS ⊢
      rw [if_neg (by decide)]
      go_enter Tryz.func24, Tryz.ntmps24
      go_wp2_with fail
      refine Calls.mono HR.out ?_
      rintro e w1 ⟨v, rfl, hown, hb⟩
      obtain ⟨po, co, rfl, hns⟩ := NSl.row hown
      have HP := (show Hid _ from hNS.out w1 po co hb hns)
      have HB := (show Hid _ from hb)
      clear HR hown hNS hns hb
      go_wp2_with fail
      refine Calls.mono HP.out ?_
      rintro e w2 ⟨rfl, hb2⟩
      have HB2 := (show Hid _ from HB.out.trans (hb2.mono HB.out.size))
      clear HP HB hb2
      go_wp2
      go_ret3
      exact ⟨_, _, rfl, fun _ => rfl, World.ownsRow_nil _ _ _ _, HB2.out⟩
end Go.Proofs.YtkadanagmahhgaaGreatDoor
namespace Go.Proofs.YtkadanagmahhgaaGreatDoor
open Go.ChangeShapes Go.WideShapes Go.ChangeAt Go.RowKit
open Go.Shelf
open Go.Proofs (Nm.prog)
set_option linter.unusedVariables false

/-- The arrow. -/
def arrow : List UInt8 := [61, 62]
def arrowS : ByteArray := ⟨#[61, 62]⟩
/-- What is read of a rule's text: whether, where, and the two sides. -/
def ruleOk (b : List UInt8) : Bool := decide (0 ≤ Lib.index b arrow) && (sideOk (b.take (Lib.index b arrow).toNat) && sideOk (b.drop ((Lib.index b arrow).toNat + 2)))
def ruleAt (b : List UInt8) : Nat := if 0 ≤ Lib.index b arrow then
    (if sideOk (b.take (Lib.index b arrow).toNat) = true then (if sideOk (b.drop ((Lib.index b arrow).toNat + 2)) = true then b.length else (Lib.index b arrow).toNat + 2 + sideAt (b.drop ((Lib.index b arrow).toNat + 2)))
     else sideAt (b.take (Lib.index b arrow).toNat)) else b.length
def ruleL (b : List UInt8) : List (Int × Int) := if ruleOk b = true then sideL (b.take (Lib.index b arrow).toNat) else []
def ruleR (b : List UInt8) : List (Int × Int) := if ruleOk b = true then sideL (b.drop ((Lib.index b arrow).toNat + 2)) else []
theorem rule_none {b : List UInt8} (h : Lib.index b arrow = -1) : ruleOk b = false ∧ ruleAt b = b.length ∧ ruleL b = [] ∧ ruleR b = [] := by
  have h0 : ¬ (0 : Int) ≤ -1 := by decide
  have e : ruleOk b = false := by unfold ruleOk; rw [h, decide_eq_false h0, Bool.false_and]
  exact ⟨e, by unfold ruleAt; rw [h, if_neg h0], by unfold ruleL; rw [e]; rfl, by unfold ruleR; rw [e]; rfl⟩
theorem rule_left {b : List UInt8} {i : Nat} (h : Lib.index b arrow = i) (hl : sideOk (b.take i) = false) : ruleOk b = false ∧ ruleAt b = sideAt (b.take i) ∧ ruleL b = [] ∧ ruleR b = [] := by
  have h0 : (0 : Int) ≤ i := by omega
  have e : ruleOk b = false := by unfold ruleOk; rw [h, Int.toNat_natCast, hl, Bool.false_and, Bool.and_false]
  exact ⟨e, by unfold ruleAt; rw [h, if_pos h0, Int.toNat_natCast, hl, if_neg (by decide)], by unfold ruleL; rw [e]; rfl, by unfold ruleR; rw [e]; rfl⟩
theorem rule_right {b : List UInt8} {i : Nat} (h : Lib.index b arrow = i) (hl : sideOk (b.take i) = true) (hr : sideOk (b.drop (i + 2)) = false) : ruleOk b = false ∧ ruleAt b = i + 2 + sideAt (b.drop (i + 2)) ∧ ruleL b = [] ∧ ruleR b = [] := by
  have h0 : (0 : Int) ≤ i := by omega
  have e : ruleOk b = false := by unfold ruleOk; rw [h, Int.toNat_natCast, hr, Bool.and_false, Bool.and_false]
  exact ⟨e, by unfold ruleAt; rw [h, if_pos h0, Int.toNat_natCast, hl, if_pos rfl, hr, if_neg (by decide)], by unfold ruleL; rw [e]; rfl, by unfold ruleR; rw [e]; rfl⟩
theorem rule_good {b : List UInt8} {i : Nat} (h : Lib.index b arrow = i) (hl : sideOk (b.take i) = true) (hr : sideOk (b.drop (i + 2)) = true) : ruleOk b = true ∧ ruleAt b = b.length ∧ ruleL b = sideL (b.take i) ∧ ruleR b = sideL (b.drop (i + 2)) := by
  have h0 : (0 : Int) ≤ i := by omega
  have e : ruleOk b = true := by unfold ruleOk; rw [h, Int.toNat_natCast, hr, hl, decide_eq_true h0]; rfl
  exact ⟨e, by unfold ruleAt; rw [h, if_pos h0, Int.toNat_natCast, hl, if_pos rfl, hr, if_pos rfl], by unfold ruleL; rw [e, if_pos rfl, h, Int.toNat_natCast], by unfold ruleR; rw [e, if_pos rfl, h, Int.toNat_natCast]⟩
theorem ruleL_len (b : List UInt8) : (ruleL b).length ≤ 7 := by unfold ruleL; split <;> first | exact sideL_len _ | exact Nat.zero_le _
theorem ruleR_len (b : List UInt8) : (ruleR b).length ≤ 7 := by unfold ruleR; split <;> first | exact sideL_len _ | exact Nat.zero_le _
theorem occ_ext (s : ByteArray) (k : Nat) (hk : k + 2 ≤ s.size) : ((s.extract k (k + 2)).toList == arrow) = Lib.occAt s.data.toList arrow k := by
  rw [Lib.toList_data, Lib.extract_eq]
  unfold Lib.occAt arrow
  have hsl : s.data.toList.length = s.size := rfl
  have hd : (s.data.toList.drop k).length = s.size - k := by rw [List.length_drop, hsl]
  obtain ⟨L, hL⟩ : ∃ L, s.data.toList.drop k = L := ⟨_, rfl⟩
  rw [hL] at hd ⊢
  rw [show k + 2 - k = 2 by omega]
  match L, hd with
  | [], h => simp at h; omega
  | [x], h => simp at h; omega
  | x :: y :: r, _ =>
    rw [Bool.eq_iff_iff]
    simp [List.isPrefixOf]
    constructor
    · rintro ⟨h1, h2⟩; exact ⟨h1.symm, h2.symm⟩
    · rintro ⟨h1, h2⟩; exact ⟨h1.symm, h2.symm⟩
shelf_lay Lays.n145 Nm 145 at Tryz as Tryz.lays145
/-- The library's bound on short searches is some number. -/
def MaxL (w : World) : Prop := ∃ m, w.cell? ⟨2, 0, none⟩ = some (.int .i64 m)
theorem MaxL.keep {w w' : World} (h : MaxL w) (hb : Below w.heap.size w w') : MaxL w' := by
  obtain ⟨m, hm⟩ := h
  exact ⟨m, (hb.cell (p := ⟨2, 0, none⟩) (World.block_lt_of_cell? _ _ hm)).trans hm⟩
theorem cut_any (s : ByteArray) (w : World) (hM : MaxL w) (hs : s.size < 4294967281) :
    Calls Tryz.prog 23 #[.string s, .string arrowS] w fun e w' => e = .returned (.tuple #[.string ⟨(Lib.cut s.data.toList arrow).1.toArray⟩, .string ⟨(Lib.cut s.data.toList arrow).2.1.toArray⟩, .bool (Lib.cut s.data.toList arrow).2.2]) ∧ Below w.heap.size w w' := by
  obtain ⟨m, hm⟩ := hM
  refine (Any.strings_Cut Tryz.lays145 s arrowS m w hs hm).mono ?_
  rintro e w' ⟨rfl, n, rfl⟩
  exact ⟨rfl, below_drewN _ _⟩
end Go.Proofs.YtkadanagmahhgaaGreatDoor
