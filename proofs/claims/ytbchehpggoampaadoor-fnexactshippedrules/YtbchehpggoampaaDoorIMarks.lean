/-
  PROVED HERE: which marks the program makes of a text, whatever the text. No other condition.
-/
import Derived.Test.YtbchehpggoampaaDoorIRdr
import Derived.WalkSmall
namespace Go.Proofs.YtbchehpggoampaaDoor
open Go.ChangeShapes Go.WideShapes Go.ChangeAt Go.RowKit
set_option linter.unusedVariables false

/-- The cells of a list of marks. -/
def flatM : List (Int × Int) → List Value
  | [] => []
  | x :: l => .int .i64 x.1 :: .int .i32 x.2 :: flatM l
theorem flatM_len : ∀ l, (flatM l).length = l.length * 2
  | [] => rfl
  | x :: l => by simp only [flatM, List.length_cons, flatM_len l]; omega
theorem flatM_append : ∀ l m, flatM (l ++ m) = flatM l ++ flatM m
  | [], _ => rfl
  | x :: l, m => by simp only [List.cons_append, flatM, flatM_append l m]
theorem flatM_get : ∀ (l : List (Int × Int)) (i : Nat), i < l.length → (flatM l)[i * 2]? = some (.int .i64 (l.getD i (0, 0)).1) ∧ (flatM l)[i * 2 + 1]? = some (.int .i32 (l.getD i (0, 0)).2)
  | [], _, h => absurd h (Nat.not_lt_zero _)
  | x :: l, 0, _ => ⟨rfl, rfl⟩
  | x :: l, i + 1, h => by
    have := flatM_get l i (by simpa using h)
    rw [show (i + 1) * 2 = i * 2 + 1 + 1 from by omega]
    simpa [flatM] using this
theorem infoMark : (Tryd.prog.info? 118).map (fun i => (i.zero, i.size, i.bytes)) = some (some (.agg #[.int .i64 0, .int .i32 0]), 2, 16) := by kernel_rfl
/-- What a rune of a text is to its bytes. -/
theorem rune_low (s : ByteArray) (pos : Nat) (h : pos < s.size) (ha : (s.data.toList.getD pos 0).toNat < 128) : ((Utf8.decode s pos).1 : Int) = (s.data.toList.getD pos 0).toNat ∧ (Utf8.decode s pos).2 = 1 := by
  rw [at_list s pos h] at ha ⊢
  rw [decode_ascii s pos h ha]; exact ⟨rfl, rfl⟩
theorem rune_high (s : ByteArray) (pos : Nat) (h : pos < s.size) (ha : 128 ≤ (s.data.toList.getD pos 0).toNat) : 128 ≤ ((Utf8.decode s pos).1 : Int) ∧ 1 ≤ (Utf8.decode s pos).2 := by
  rw [at_list s pos h] at ha
  have := decode_high s pos h ha
  omega
theorem rune_wide (s : ByteArray) (pos : Nat) (h : pos < s.size) : 1 ≤ (Utf8.decode s pos).2 := by
  by_cases ha : (s.data.toList.getD pos 0).toNat < 128
  · rw [(rune_low s pos h ha).2]; exact Nat.le_refl _
  · exact (rune_high s pos h (by omega)).2
theorem tail_on (s : ByteArray) (pos : Nat) (h : pos < s.size) (cur : List (Int × Int)) (hT : Tail s.data.toList cur true pos) (hd : (decide (48 ≤ ((Utf8.decode s pos).1 : Int)) && decide (((Utf8.decode s pos).1 : Int) ≤ 57)) = true) : Tail s.data.toList cur true (pos + (Utf8.decode s pos).2) := by
  simp only [Bool.and_eq_true, decide_eq_true_eq] at hd
  by_cases ha : (s.data.toList.getD pos 0).toNat < 128
  · obtain ⟨e1, e2⟩ := rune_low s pos h ha
    rw [e2]
    refine hT.on (n := 0) (by rw [size_list]; exact h) ?_
    unfold isD
    exact decide_eq_true (by omega)
  · have := rune_high s pos h (by omega); omega
theorem tail_new (s : ByteArray) (pos : Nat) (h : pos < s.size) (cur : List (Int × Int)) (b : Bool) (hT : Tail s.data.toList cur b pos) (hd : (b && (decide (48 ≤ ((Utf8.decode s pos).1 : Int)) && decide (((Utf8.decode s pos).1 : Int) ≤ 57))) = false) :
    Tail s.data.toList (cur ++ [((pos : Int), ((Utf8.decode s pos).1 : Int))]) (decide (48 ≤ ((Utf8.decode s pos).1 : Int)) && decide (((Utf8.decode s pos).1 : Int) ≤ 57)) (pos + (Utf8.decode s pos).2) := by
  by_cases ha : (s.data.toList.getD pos 0).toNat < 128
  · obtain ⟨e1, e2⟩ := rune_low s pos h ha
    have e3 : (decide (48 ≤ ((Utf8.decode s pos).1 : Int)) && decide (((Utf8.decode s pos).1 : Int) ≤ 57)) = isD (s.data.toList.getD pos 0) := by
      rw [e1]
      unfold isD
      rw [← Bool.decide_and]
      exact decide_eq_decide.2 (by omega)
    rw [e3] at hd ⊢
    rw [e1, e2]
    exact hT.low (by rw [size_list]; exact h) ha hd
  · exact hT.high _ _ (by rw [size_list]; exact h) (by omega) (rune_high s pos h (by omega)).1
theorem two_newM (w : World) (x y : Value) (t : TypeId) : ∀ j u, [x, y][j]? = some u → (w.alloc (.cells #[x, y] t)).cell? ((⟨w.heap.size, 0, none⟩ : Addr).add j) = some u := two_new w x y t
theorem two_one (x y : Int) : ∀ u ∈ [Value.int .i64 x, Value.int .i32 y], u.oneCell' = true := fun u hu => by
  rcases List.mem_cons.1 hu with rfl | hu
  · rfl
  · rw [List.mem_singleton.1 hu]; rfl

theorem alloc_at {w : World} {k : Nat} {o x : Obj} (h : w.heap[k]? = some x) : (w.alloc o).heap[k]? = some x := by
  have hlt := (Array.getElem?_eq_some_iff.1 h).1
  show (w.heap.push o)[k]? = _
  rw [Array.getElem?_push, if_neg (by omega)]; exact h
set_option maxHeartbeats 2000000 in
set_option maxRecDepth 20000 in
theorem marks_any (s : ByteArray) (w : World) (hs : s.size ≤ 1048000) :
    Calls Tryd.prog 77 #[.string s] w fun e w' => ∃ (v : Value) (M : List (Int × Int)), e = .returned v ∧ w'.ownsRow (w.heap.size + 1) 118 2 v M.length (flatM M) ∧ MkAt s.data.toList M 0 ∧ M.length ≤ s.size + 1 ∧ Below w.heap.size w w' := by
  obtain ⟨i0, hi, hz0, hz1, hz2⟩ := info_parts infoMark
  have i1 : (s.size : Int) ≤ 1048000 := by omega
  go_enter Tryd.func77, Tryd.ntmps77
  go_wp2_with fail
  go_loopw [3, 4] (fun v x wr => ∃ (pos : Nat) (cur : List (Int × Int)) (b : Bool), x = .bool b ∧ wr.heap[w.heap.size]? = some (.stringIter s pos) ∧ wr.ownsRow (w.heap.size + 1) 118 2 v cur.length (flatM cur) ∧ Below w.heap.size w wr ∧ Hid (Tail s.data.toList cur b pos) ∧ cur.length ≤ pos ∧ cur.length ≤ s.size) (fun _ _ wr => s.size - wr.iterPos w.heap.size)
  case atStart => exact ⟨0, [], false, rfl, World.iter_heap w s 0, World.ownsRow_nil _ _ _ _, (Below.refl _ _).alloc (Nat.le_refl _) _, Tail.start _, Nat.le_refl _, Nat.zero_le _⟩
  case round =>
    obtain ⟨pos, cur, b, rfl, hit, hown, hbw, HT, hlen, hlen2⟩ := hrel
    have hpos0 := iterPos_of hit
    by_cases hp : pos < s.size
    · have hnx : ∀ ty, (Instr.next (.pointer (some ⟨w.heap.size, 0, none⟩)) true ty).run Tryd.prog wr = _ := fun ty => Lib.run_next_any_at wr w.heap.size s pos ty hit hp
      have hit2 := Lib.iterAt_heap wr w.heap.size s pos (pos + (Utf8.decode s pos).2) hit
      have hbw2 := Lib.below_iterAt hbw (k := w.heap.size) (Nat.le_refl _) s (pos + (Utf8.decode s pos).2)
      have hown2 := ownsRow_iterAt hown (k := w.heap.size) (by omega) s (pos + (Utf8.decode s pos).2)
      obtain ⟨W1, hW1⟩ : ∃ W1, W1 = wr.iterAt w.heap.size s (pos + (Utf8.decode s pos).2) := ⟨_, rfl⟩
      rw [← hW1] at hnx hit2 hbw2 hown2
      have hwd := rune_wide s pos hp
      have HD : Hid (∀ W, Calls Tryd.prog 93 #[.int .i32 ((Utf8.decode s pos).1 : Int)] W fun e w' => e = .returned (.bool (decide (48 ≤ ((Utf8.decode s pos).1 : Int)) && decide (((Utf8.decode s pos).1 : Int) ≤ 57))) ∧ w' = W) := fun W => isDigit_any _ W
      have HOn : Hid (b = true → (decide (48 ≤ ((Utf8.decode s pos).1 : Int)) && decide (((Utf8.decode s pos).1 : Int) ≤ 57)) = true → Tail s.data.toList cur true (pos + (Utf8.decode s pos).2)) := fun hb hd => tail_on s pos hp cur (by have := HT.out; rw [hb] at this; exact this) hd
      have HNew : Hid ((b && (decide (48 ≤ ((Utf8.decode s pos).1 : Int)) && decide (((Utf8.decode s pos).1 : Int) ≤ 57))) = false → Tail s.data.toList (cur ++ [((pos : Int), ((Utf8.decode s pos).1 : Int))]) (decide (48 ≤ ((Utf8.decode s pos).1 : Int)) && decide (((Utf8.decode s pos).1 : Int) ≤ 57)) (pos + (Utf8.decode s pos).2)) := fun hd => tail_new s pos hp cur b HT.out hd
      have hBlt : w.heap.size < W1.heap.size := (Array.getElem?_eq_some_iff.1 hit2).1
      clear hW1 hit hown hbw HT
      generalize (Utf8.decode s pos).2 = wd at hnx hit2 hwd HOn HNew
      generalize ((Utf8.decode s pos).1 : Int) = c at hnx HD HOn HNew
      have hm : s.size - (pos + wd) < s.size - pos := by omega
      have hap : ∀ o, w.heap.size + 1 ≤ (W1.alloc o).heap.size := fun o => by simp; omega
      cases hd : (decide (48 ≤ c) && decide (c ≤ 57)) with
      | true =>
        rw [hd] at HD HOn HNew
        clear hd
        cases b with
        | true =>
          have HT2 := (show Hid _ from HOn.out rfl rfl)
          clear HOn HNew
          go_wp2_with fail
          refine (HD.out _).mono ?_
          rintro e w2 ⟨rfl, rfl⟩
          go_wp2_with fail
          refine (HD.out _).mono ?_
          rintro e w3 ⟨rfl, rfl⟩
          go_wp2
          refine ⟨⟨pos + wd, cur, true, rfl, hit2, hown2, hbw2, HT2, by omega, by omega⟩, ?_⟩
          rw [iterPos_of hit2, hpos0]; exact hm
        | false =>
          have HT2 := (show Hid _ from HNew.out rfl)
          clear HOn HNew
          go_wp2_with fail
          refine (HD.out _).mono ?_
          rintro e w2 ⟨rfl, rfl⟩
          go_wp2_with (at_builtin; refine wpList_append_own _ rfl _ _ 112 rfl (w.heap.size + 1) 118 i0 (.agg #[.int .i64 0, .int .i32 0]) 2 16 Tryd.underlying112 hi hz0 hz1 hz2 rfl (by decide) _ _ _ rfl (hown2.alloc _) ⟨w2.heap.size, 0, none⟩ 1 1 [.int .i64 pos, .int .i32 c] rfl (by simp) (two_newM w2 _ _ _) (two_one _ _) (by unfold maxLen; omega) (by omega) (hap _) ?_; intro v' w5 hown5 hg5 _)
          have hit5 := (hg5.block w.heap.size (by simp; omega) (fun e => by have := own_ge hown2 _ e.symm; omega)).trans (alloc_at hit2)
          refine ⟨⟨pos + wd, _, true, rfl, hit5, by rw [flatM_append, List.length_append]; exact hown5, (hbw2.alloc hbw2.size _).grown hg5 (by have := hap (.cells #[.int .i64 pos, .int .i32 c] 118); omega) (fun r hr => by have := own_ge hown2 r hr; omega), HT2, by simp; omega, by simp; omega⟩, ?_⟩
          rw [iterPos_of hit5, hpos0]; exact hm
      | false =>
        rw [hd] at HD HOn HNew
        clear hd
        have HT2 := (show Hid _ from HNew.out (Bool.and_false _))
        clear HOn HNew
        cases b with
        | true =>
          go_wp2_with fail
          refine (HD.out _).mono ?_
          rintro e w2 ⟨rfl, rfl⟩
          go_wp2_with fail
          refine (HD.out _).mono ?_
          rintro e w3 ⟨rfl, rfl⟩
          go_wp2_with (at_builtin; refine wpList_append_own _ rfl _ _ 112 rfl (w.heap.size + 1) 118 i0 (.agg #[.int .i64 0, .int .i32 0]) 2 16 Tryd.underlying112 hi hz0 hz1 hz2 rfl (by decide) _ _ _ rfl (hown2.alloc _) ⟨w3.heap.size, 0, none⟩ 1 1 [.int .i64 pos, .int .i32 c] rfl (by simp) (two_newM w3 _ _ _) (two_one _ _) (by unfold maxLen; omega) (by omega) (hap _) ?_; intro v' w5 hown5 hg5 _)
          have hit5 := (hg5.block w.heap.size (by simp; omega) (fun e => by have := own_ge hown2 _ e.symm; omega)).trans (alloc_at hit2)
          refine ⟨⟨pos + wd, _, false, rfl, hit5, by rw [flatM_append, List.length_append]; exact hown5, (hbw2.alloc hbw2.size _).grown hg5 (by have := hap (.cells #[.int .i64 pos, .int .i32 c] 118); omega) (fun r hr => by have := own_ge hown2 r hr; omega), HT2, by simp; omega, by simp; omega⟩, ?_⟩
          rw [iterPos_of hit5, hpos0]; exact hm
        | false =>
          go_wp2_with fail
          refine (HD.out _).mono ?_
          rintro e w2 ⟨rfl, rfl⟩
          go_wp2_with (at_builtin; refine wpList_append_own _ rfl _ _ 112 rfl (w.heap.size + 1) 118 i0 (.agg #[.int .i64 0, .int .i32 0]) 2 16 Tryd.underlying112 hi hz0 hz1 hz2 rfl (by decide) _ _ _ rfl (hown2.alloc _) ⟨w2.heap.size, 0, none⟩ 1 1 [.int .i64 pos, .int .i32 c] rfl (by simp) (two_newM w2 _ _ _) (two_one _ _) (by unfold maxLen; omega) (by omega) (hap _) ?_; intro v' w5 hown5 hg5 _)
          have hit5 := (hg5.block w.heap.size (by simp; omega) (fun e => by have := own_ge hown2 _ e.symm; omega)).trans (alloc_at hit2)
          refine ⟨⟨pos + wd, _, false, rfl, hit5, by rw [flatM_append, List.length_append]; exact hown5, (hbw2.alloc hbw2.size _).grown hg5 (by have := hap (.cells #[.int .i64 pos, .int .i32 c] 118); omega) (fun r hr => by have := own_ge hown2 r hr; omega), HT2, by simp; omega, by simp; omega⟩, ?_⟩
          rw [iterPos_of hit5, hpos0]; exact hm
    · have hnx : ∀ ty, (Instr.next (.pointer (some ⟨w.heap.size, 0, none⟩)) true ty).run Tryd.prog wr = .ok (.tuple #[.bool false]) wr := fun ty => Lib.run_next_end_at wr w.heap.size s pos ty hit hp
      have hM := (show Hid _ from HT.out.fin (by rw [size_list]; exact hp))
      rw [size_list] at hM
      have hBlt : w.heap.size < wr.heap.size := (Array.getElem?_eq_some_iff.1 hit).1
      have hap : ∀ o, w.heap.size + 1 ≤ (wr.alloc o).heap.size := fun o => by simp; omega
      clear hit HT hpos0
      go_wp2_with (at_builtin; refine wpList_append_own _ rfl _ _ 112 rfl (w.heap.size + 1) 118 i0 (.agg #[.int .i64 0, .int .i32 0]) 2 16 Tryd.underlying112 hi hz0 hz1 hz2 rfl (by decide) _ _ _ rfl (hown.alloc _) ⟨wr.heap.size, 0, none⟩ 1 1 [.int .i64 s.size, .int .i32 (-1)] rfl (by simp) (two_newM wr _ _ _) (two_one _ _) (by unfold maxLen; omega) (by omega) (hap _) ?_; intro v' w5 hown5 hg5 _)
      go_ret
      refine ⟨_, _, rfl, by rw [flatM_append, List.length_append]; exact hown5, hM.out, by simp; omega, (hbw.alloc hbw.size _).grown hg5 (by have := hap (.cells #[.int .i64 s.size, .int .i32 (-1)] 118); omega) (fun r hr => by have := own_ge hown r hr; omega)⟩
end Go.Proofs.YtbchehpggoampaaDoor
