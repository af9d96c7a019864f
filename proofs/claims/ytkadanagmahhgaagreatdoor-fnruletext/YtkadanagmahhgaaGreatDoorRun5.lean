/-
  PROVED HERE: plain facts on decimal digits: what they spell. No condition. plain functions: how a term is read from a text. No condition. what the model's text of a number without a sign is: its decimal digits. No condition. what strconv.FormatInt and strconv.ParseInt at base 10 answer in this program, laid from the library's own contracts. The tables and sentinels that they read are laid.
-/
import Derived.Lib.ItoaNum
import Derived.Lib.ParseIntBTie
import Derived.Test.YtkadanagmahhgaaGreatDoorRun2
import Derived.Test.YtkadanagmahhgaaGreatDoorRun0
import Derived.Test.YtkadanagmahhgaaGreatDoorRows
import Derived.WalkKit
import Derived.ProofKit
import Derived.OpenShut
import Derived.Handy
import Derived.OwnWalk
import Derived.WalkSmall
import Derived.BigQuiet
import Derived.Deep.QuietTactic
import Derived.Deep.RegionWith
import Derived.Laws.IdiomStrings
import Derived.Shelf.Strconv.Itoa4
import Derived.Shelf.Strconv.ErrVarParseInt
import Derived.Shelf.Lay
import Derived.Ground.NamesProg
namespace Go.Proofs.YtkadanagmahhgaaGreatDoor

/-- What digits spell. -/
def dval (l : List UInt8) : Nat := l.foldl (fun a c => 10 * a + (c.toNat - 48)) 0
def IsDig (c : UInt8) : Prop := 48 ≤ c.toNat ∧ c.toNat ≤ 57

theorem dval_snoc (l : List UInt8) (c : UInt8) : dval (l ++ [c]) = 10 * dval l + (c.toNat - 48) := by
  unfold dval; rw [List.foldl_append]; rfl
theorem dig_toNat (d : Nat) (h : d < 10) : (UInt8.ofNat (48 + d)).toNat = 48 + d := by
  rw [UInt8.toNat_ofNat']; omega

theorem dec_dig (u : Nat) : ∀ c ∈ Lib.decDigits u, IsDig c := by
  induction u using Nat.strongRecOn with
  | _ u ih =>
    rw [Lib.decDigits]
    by_cases h : u < 10
    · rw [dif_pos h]
      intro c hc
      rw [List.mem_singleton.1 hc]
      unfold IsDig
      rw [dig_toNat u h]; omega
    · rw [dif_neg h]
      intro c hc
      rcases List.mem_append.1 hc with hc | hc
      · exact ih (u / 10) (by omega) c hc
      · rw [List.mem_singleton.1 hc]
        unfold IsDig
        rw [dig_toNat (u % 10) (by omega)]; omega
theorem dec_val (u : Nat) : dval (Lib.decDigits u) = u := by
  induction u using Nat.strongRecOn with
  | _ u ih =>
    rw [Lib.decDigits]
    by_cases h : u < 10
    · rw [dif_pos h]
      show 10 * 0 + ((UInt8.ofNat (48 + u)).toNat - 48) = u
      rw [dig_toNat u h]; omega
    · rw [dif_neg h, dval_snoc, ih (u / 10) (by omega), dig_toNat (u % 10) (by omega)]
      omega
theorem dec_ne (u : Nat) : Lib.decDigits u ≠ [] := by
  rw [Lib.decDigits]
  by_cases h : u < 10
  · rw [dif_pos h]; simp
  · rw [dif_neg h]; simp
theorem take_step (l : List UInt8) (k : Nat) (h : k < l.length) : l.take (k + 1) = l.take k ++ [l[k]] := by
  rw [List.take_succ_eq_append_getElem h]
theorem take_le (l : List UInt8) (j : Nat) : ∀ k, k + j = l.length → dval (l.take k) ≤ dval l := by
  induction j with
  | zero => intro k hk; rw [List.take_of_length_le (by omega)]; exact Nat.le_refl _
  | succ j ih =>
    intro k hk
    have h1 := ih (k + 1) (by omega)
    rw [take_step l k (by omega), dval_snoc] at h1
    omega
/-- The value, digit by digit, never passes the whole. -/
theorem dec_take (u k : Nat) (h : k ≤ (Lib.decDigits u).length) : dval ((Lib.decDigits u).take k) ≤ u := by
  have := take_le (Lib.decDigits u) ((Lib.decDigits u).length - k) k (by omega)
  rwa [dec_val] at this

/-- Digits that spell a number below a bound are parsed. -/
theorem parse_digs (M : Nat) (hM : M ≤ 18446744073709551615) : ∀ (l : List UInt8) (acc : Nat), (∀ c ∈ l, IsDig c) → (l.foldl (fun a c => 10 * a + (c.toNat - 48)) acc) ≤ M →
    Lib.parseUintM M acc l = .ok (l.foldl (fun a c => 10 * a + (c.toNat - 48)) acc)
  | [], acc, _, _ => rfl
  | c :: r, acc, hd, hle => by
    obtain ⟨h1, h2⟩ := hd c (List.mem_cons_self ..)
    have hmono : ∀ (l : List UInt8) (a : Nat), a ≤ l.foldl (fun a c => 10 * a + (c.toNat - 48)) a := by
      intro l
      induction l with
      | nil => intro a; exact Nat.le_refl _
      | cons x l ih => intro a; exact Nat.le_trans (by omega) (ih (10 * a + (x.toNat - 48)))
    have hm := hmono r (10 * acc + (c.toNat - 48))
    simp only [List.foldl_cons] at hle ⊢
    rw [Lib.parseUintM, if_pos ⟨h1, h2⟩, if_neg (by omega), if_neg (by omega), show acc * 10 + (c.toNat - 48) = 10 * acc + (c.toNat - 48) from by omega]
    exact parse_digs M hM r _ (fun x hx => hd x (List.mem_cons_of_mem _ hx)) hle

/-- A number's text is parsed to the number. -/
theorem parse_itoa (n : Int) (h0 : -9223372036854775808 ≤ n) (h1 : n ≤ 9223372036854775807) : Lib.parseIntB 64 (Lib.itoa n) = .ok n := by
  have hU : ∀ u : Nat, u ≤ 18446744073709551615 → Lib.parseUintB 64 (Lib.decDigits u) = .ok u := by
    intro u hu
    unfold Lib.parseUintB
    rw [if_neg (dec_ne u)]
    have := parse_digs (2 ^ 64 - 1) (by decide) (Lib.decDigits u) 0 (dec_dig u) (by
      show dval (Lib.decDigits u) ≤ _
      rw [dec_val]; exact Nat.le_trans hu (by decide))
    rw [this]
    show Lib.NumEnd.ok (dval (Lib.decDigits u)) = _
    rw [dec_val]
  by_cases hn : n < 0
  · obtain ⟨u, hu⟩ : ∃ u : Nat, n = -(u : Int) := ⟨n.natAbs, by omega⟩
    subst hu
    have e : Lib.itoa (-(u : Int)) = 45 :: Lib.decDigits u := by
      unfold Lib.itoa; rw [if_pos hn]; congr 2; omega
    rw [e]
    unfold Lib.parseIntB
    have e45 : (45 : UInt8).toNat = 45 := rfl
    have hu9 : u ≤ 9223372036854775808 := by omega
    have p63 : 2 ^ (64 - 1) = 9223372036854775808 := by decide
    simp only [e45, or_true, if_true, hU u (by omega), p63]
    rw [if_neg (by simp), if_neg (by omega)]
  · obtain ⟨u, rfl⟩ := Int.eq_ofNat_of_zero_le (show 0 ≤ n by omega)
    have e : Lib.itoa (u : Int) = Lib.decDigits u := by
      unfold Lib.itoa; rw [if_neg hn]; rfl
    rw [e]
    have hne := dec_ne u
    have hU' := hU u (by omega)
    have hdig := dec_dig u
    have p63 : 2 ^ (64 - 1) = 9223372036854775808 := by decide
    cases hl : Lib.decDigits u with
    | nil => exact absurd hl hne
    | cons c r =>
      rw [hl] at hU' hdig
      obtain ⟨g1, g2⟩ := hdig c (List.mem_cons_self ..)
      unfold Lib.parseIntB
      have hc : ¬ (c.toNat = 43 ∨ c.toNat = 45) := by omega
      have hc2 : ¬ c.toNat = 45 := by omega
      simp only [if_neg hc, hU', p63]
      rw [if_neg (by omega), if_neg (by omega), if_neg hc2]
end Go.Proofs.YtkadanagmahhgaaGreatDoor
namespace Go.Proofs.YtkadanagmahhgaaGreatDoor
set_option linter.unusedVariables false

def isD (b : UInt8) : Bool := decide (48 ≤ b.toNat ∧ b.toNat ≤ 57)
/-- Where the digits from e on end. -/
def digEnd (s : List UInt8) (e : Nat) : Nat := e + ((s.drop e).takeWhile isD).length
def numEnd (s : List UInt8) (at_ : Nat) : Nat := digEnd s (if s.getD at_ 0 = 45 then at_ + 1 else at_)
/-- The number whose text it is. -/
def numOf (t : List UInt8) : Option Int := match Lib.parseIntB 64 t with
  | .ok n => if Lib.itoa n = t then some n else none
  | _ => none
theorem numOf_some {t : List UInt8} {n : Int} (h : numOf t = some n) : InI n ∧ Lib.itoa n = t := by
  unfold numOf at h
  split at h
  · next m hm =>
    split at h
    · next e =>
      have hb := Lib.parseIntB_bounds hm
      have p63 : 2 ^ (64 - 1) = 9223372036854775808 := by decide
      rw [p63] at hb
      rw [← Option.some.inj h]
      exact ⟨by unfold InI; omega, e⟩
    · cases h
  · cases h
theorem numOf_none {t : List UInt8} (h : numOf t = none) : ∀ n, InI n → Lib.itoa n ≠ t := by
  intro n hn e
  have hp := parse_itoa n hn.1 hn.2
  rw [e] at hp
  unfold numOf at h
  rw [hp] at h
  simp only [e, if_true] at h
  cases h
def byteIs (s : List UInt8) (at_ : Nat) (b : UInt8) : Bool := decide (at_ < s.length) && (s.getD at_ 0 == b)
/-- What stands behind the first part in brackets. -/
def twoR (s : List UInt8) (a : Nat) : Int × Nat :=
  if byteIs s a 43 = true then (4, a + 1) else if byteIs s a 45 = true then (5, a + 1) else if byteIs s a 42 = true then (6, a + 1)
  else if (byteIs s a 60 && byteIs s (a + 1) 60) = true then (7, a + 2) else if byteIs s a 47 = true then (8, a + 1)
  else if (byteIs s a 61 && byteIs s (a + 1) 61) = true then (9, a + 2) else if byteIs s a 60 = true then (10, a + 1)
  else if byteIs s a 61 = true then (0, a + 1) else (0, a)
abbrev Rd := Bool × Nat × List (Int × Int)
def numR (s : List UInt8) (a : Nat) (out : List (Int × Int)) : Rd :=
  match numOf ((s.drop a).take (numEnd s a - a)) with
  | some n => (true, numEnd s a, out ++ [(1, n)])
  | none => if (s.getD a 0 == 45 && decide (numEnd s a = a + 1)) = true then (false, a + 1, out) else (false, a, out)
/-- Behind a part: the byte b must stand there. -/
def thenB (s : List UInt8) (b : UInt8) (r : Rd) : Rd := if r.1 = true then (if byteIs s r.2.1 b = true then (true, r.2.1 + 1, r.2.2) else (false, r.2.1, r.2.2)) else r
/-- How a term is read from a place on (with so much fuel): whether, up to where, and what. -/
def readT (s : List UInt8) : Nat → Nat → List (Int × Int) → Rd
  | 0, a, out => (false, a, out)
  | f + 1, a, out =>
    if a = s.length then (false, a, out)
    else if (isD (s.getD a 0) || s.getD a 0 == 45) = true then numR s a out
    else if (decide (97 ≤ (s.getD a 0).toNat) && decide ((s.getD a 0).toNat < 101)) = true then (true, a + 1, out ++ [(2, (((s.getD a 0).toNat - 97 : Nat) : Int))])
    else if (s.getD a 0 == 126) = true then
      ((readT s f (a + 1) out).1, (readT s f (a + 1) out).2.1, (readT s f (a + 1) out).2.2 ++ [(3, 0)])
    else if (s.getD a 0 == 40) = false then (false, a, out)
    else
      let r1 := readT s f (a + 1) out
      if r1.1 = false then r1
      else if byteIs s r1.2.1 63 = true then
        let r2 := thenB s 58 (readT s f (r1.2.1 + 1) r1.2.2)
        if r2.1 = false then r2
        else
          let r3 := thenB s 41 (readT s f r2.2.1 r2.2.2)
          if r3.1 = false then r3 else (true, r3.2.1, r3.2.2 ++ [(11, 0)])
      else
        let t := twoR s r1.2.1
        if t.1 = 0 then (false, t.2, r1.2.2)
        else
          let r2 := thenB s 41 (readT s f t.2 r1.2.2)
          if r2.1 = false then r2 else (true, r2.2.1, r2.2.2 ++ [(t.1, 0)])
end Go.Proofs.YtkadanagmahhgaaGreatDoor
namespace Go.Proofs.YtkadanagmahhgaaGreatDoor
open Go.ChangeShapes Go.WideShapes Go.ChangeAt Go.RowKit
set_option linter.unusedVariables false

def byteIn : Option Value → UInt8
  | some (.int .u8 x) => UInt8.ofNat x.toNat
  | _ => 0
def isByte : Option Value → Bool
  | some (.int .u8 _) => true
  | _ => false
theorem isByte_some (x : Int) : isByte (some (.int .u8 x)) = true := rfl
theorem byteIn_some (x : Int) : byteIn (some (.int .u8 x)) = UInt8.ofNat x.toNat := rfl
theorem conv1 (W : World) (b cap : Nat) (h : isByte (W.cell? ⟨b, 0, none⟩) = true) :
    (convert 22 9 (.slice (some ⟨b, 0, none⟩) 1 cap)).run Tryz.prog W = .ok (.string ⟨#[byteIn (W.cell? ⟨b, 0, none⟩)]⟩) W := by
  obtain ⟨x, hx⟩ : ∃ x, W.cell? ⟨b, 0, none⟩ = some (.int .u8 x) := by
    revert h
    cases hc : W.cell? ⟨b, 0, none⟩ with
    | none => intro h; cases h
    | some v =>
      cases v with
      | int k x => cases k <;> intro h <;> first | exact ⟨x, rfl⟩ | cases h
      | _ => intro h; cases h
  rw [hx, byteIn_some, run_convert_bytes_string W 22 9 5 _ _ _ Tryz.underlying22 Tryz.underlying5 Tryz.underlying9]
  have hl := run_loadCells_list (P := Tryz.prog) W ⟨b, 0, none⟩ [.int .u8 x] (fun j v hj => by
    match j, hj with
    | 0, hj => simp at hj; subst hj; simpa [Addr.add] using hx)
  rw [run_bytesToString W ⟨b, 0, none⟩ 1 cap [x] hl]
  rfl
attribute [local go_sem] conv1 isByte_some byteIn_some

theorem long_small (u : Nat) (w : World) (h : u < 10) :
    Calls Tryz.prog 88 #[.int .u64 u] w fun e w' => e = .returned (.string ⟨(Lib.decDigits u).toArray⟩) ∧ Below w.heap.size w w' := by
  have h1 : (u : Int) < 10 := by omega
  rw [Lib.decDigits, dif_pos h]
  go_enter Tryz.func88, Tryz.ntmps88
  go_wp2
  go_ret
  exact ⟨rfl, (Below.refl _ _).alloc (Nat.le_refl _) _⟩
theorem bcell {W w1 : World} (hb : Below W.heap.size W w1) : (∀ b o, b < W.heap.size → w1.cell? ⟨b, o, none⟩ = W.cell? ⟨b, o, none⟩) := fun b o h => hb.cell (p := ⟨b, o, none⟩) h
theorem below_a {w w1 : World} {o : Obj} (hb : Below w.drew.heap.size w.drew w1) : Below w.heap.size w (w1.alloc o) :=
  (((Below.refl w.heap.size w).drew).trans hb).alloc hb.size o
theorem below_b {w w1 : World} {o : Obj} (hb : Below (w.alloc o).drew.heap.size (w.alloc o).drew w1) : Below w.heap.size w w1 :=
  (((Below.refl w.heap.size w).alloc (Nat.le_refl _) o).drew).trans (hb.mono (by show w.heap.size ≤ (w.alloc o).heap.size; simp))
theorem str_app (S : List UInt8) (c : UInt8) : ((⟨S.toArray⟩ : ByteArray) ++ ⟨#[c]⟩ : ByteArray) = ⟨(S ++ [c]).toArray⟩ := by
  simp [ByteArray.mk_append_mk]
theorem long_big (u v : Nat) (w : World) (hv : v = u / 10) (h : ¬ u < 10) (hu : u < 18446744073709551616) (S D : List UInt8) (hS : S.length ≤ 100) (x : Int) (hx : UInt8.ofNat x.toNat = UInt8.ofNat (48 + u % 10)) (hxx : IntKind.u8.wrap (IntKind.u64.wrap (48 + (u : Int).tmod 10)) = x)
  (ih : ∀ w, Calls Tryz.prog 88 #[.int .u64 v] w fun e w' => e = .returned (.string ⟨S.toArray⟩) ∧ Below w.heap.size w w') :
    Calls Tryz.prog 88 #[.int .u64 u] w fun e w' => e = .returned (.string ⟨(S ++ [UInt8.ofNat (48 + u % 10)]).toArray⟩) ∧ Below w.heap.size w w' := by
  have h1 : ¬ (u : Int) < 10 := by omega
  have IH : Hid (∀ w, Calls Tryz.prog 88 #[.int .u64 v] w fun e w' => e = .returned (.string ⟨S.toArray⟩) ∧ Below w.heap.size w w') := ih
  clear ih
  have e1 : IntKind.u64.wrap ((u : Int) / 10) = (v : Int) := by rw [IntKind.wrap_u64]; omega
  rw [← hx]
  have hl : (S.length : Int) ≤ 100 := by omega
  clear hv hu hx hS
  go_enter Tryz.func88, Tryz.ntmps88
  go_wp2_with fail
  go_region_with (go_at_call 88; refine (IH.out _).mono ?_; rintro e w1 ⟨rfl, hb⟩; have hc := bcell hb; have hz := hb.size)
  all_goals
    go_wp2
    go_ret
    refine ⟨by first | rfl | (congr 2; exact str_app _ _), ?_⟩
    first | exact below_a hb | exact below_b hb
theorem dec_len : ∀ (k u : Nat), 1 ≤ k → u < 10 ^ k → (Lib.decDigits u).length ≤ k
  | 0, u, h, _ => by omega
  | k + 1, u, _, hu => by
    rw [Lib.decDigits]
    by_cases h : u < 10
    · rw [dif_pos h]; simp
    · rw [dif_neg h]
      have hk : 1 ≤ k := by
        rcases k with _ | k
        · simp at hu; omega
        · omega
      have := dec_len k (u / 10) hk (by rw [Nat.pow_succ] at hu; omega)
      simp; omega
theorem long_any (u : Nat) : ∀ (w : World), u < 18446744073709551616 →
    Calls Tryz.prog 88 #[.int .u64 u] w fun e w' => e = .returned (.string ⟨(Lib.decDigits u).toArray⟩) ∧ Below w.heap.size w w' := by
  induction u using Nat.strongRecOn with
  | _ u ih =>
    intro w hu
    by_cases h : u < 10
    · exact long_small u w h
    · have hl : (Lib.decDigits (u / 10)).length ≤ 100 := Nat.le_trans (dec_len 20 (u / 10) (by decide) (by omega)) (by decide)
      rw [Lib.decDigits, dif_neg h]
      refine long_big u (u / 10) w rfl h hu (Lib.decDigits (u / 10)) [] hl _ ?_ rfl (fun w => ih (u / 10) (by omega) w (by omega))
      rw [IntKind.wrap_u8, IntKind.wrap_u64]
      have e : (u : Int).tmod 10 = ((u % 10 : Nat) : Int) := by rw [Int.tmod_eq_emod_of_nonneg (by omega)]; omega
      rw [e]
      congr 1
      omega
end Go.Proofs.YtkadanagmahhgaaGreatDoor
namespace Go.Proofs.YtkadanagmahhgaaGreatDoor
open Go.Shelf
open Go.Proofs (Nm.prog)

shelf_lay LaysM.n173 Nm 173 at Tryz as Tryz.lays173
theorem format_any (n : Int) (h0 : -9223372036854775808 ≤ n) (h1 : n ≤ 9223372036854775807) (w : World) (htab : Lib.TabIs Tryz.prog w "internal/strconv.uint64pow10" .u64 Lib.pow10Tab) :
    Calls Tryz.prog 115 #[.int .i64 n, .int .i64 10] w fun e w' => e = .returned (.string ⟨(Lib.itoa n).toArray⟩) ∧ ∃ k os, w' = Sort.grow (w.drewN k) os := Any.strconv_FormatInt_10 Tryz.lays173 n h0 h1 w htab

shelf_lay LaysC.n174 Nm 174 at Tryz as Tryz.lays174

/-- The two sentinels hold errors. -/
def Errs (w : World) : Prop := (∃ tp p, w.var? Tryz.prog "strconv.ErrSyntax" = some #[.iface tp p]) ∧ ∃ tp p, w.var? Tryz.prog "strconv.ErrRange" = some #[.iface tp p]

theorem parse_ok (s : ByteArray) (hmax : s.size ≤ 1000) (v : Int) (h : Lib.parseIntB 64 s.data.toList = .ok v) (w : World) :
    Calls Tryz.prog 168 #[.string s, .int .i64 10, .int .i64 64] w fun e w' => e = .returned (.tuple #[.int .i64 v, .nilIface]) ∧ RowKit.Below w.heap.size w w' :=
  (Any.strconv_ParseInt_10_at64_ok Tryz.lays174 s (by omega) v h w).mono fun e w' ⟨he, hw⟩ => ⟨he, by
    rcases hw with rfl | ⟨t, rfl⟩
    · exact RowKit.Below.refl _ _
    · exact Lib.bytesWorld_below _ _ _⟩

theorem parse_bad (s : ByteArray) (hmax : s.size ≤ 1000) (h : ∀ v, Lib.parseIntB 64 s.data.toList ≠ .ok v) (w : World) (he : Errs w) :
    Calls Tryz.prog 168 #[.string s, .int .i64 10, .int .i64 64] w fun e w' => ∃ (x : Int) (T N : Nat), e = .returned (.tuple #[.int .i64 x, .iface T (.pointer (some ⟨N, 0, none⟩))]) ∧ RowKit.Below w.heap.size w w' := by
  obtain ⟨⟨t1, p1, h1⟩, t2, p2, h2⟩ := he
  rcases hp : Lib.parseIntB 64 s.data.toList with v | _ | _
  · exact absurd hp (h v)
  · exact (Any.strconv_ParseInt_10_at64_syntax_var Tryz.lays174 s (by omega) hp t1 p1 w h1).mono fun e w' ⟨N, he, _, _, hb⟩ => ⟨_, _, N, he, hb⟩
  · exact (Any.strconv_ParseInt_10_at64_range_var Tryz.lays174 s (by omega) hp t2 p2 w h2).mono fun e w' ⟨N, he, _, _, hb⟩ => ⟨_, _, N, he, hb⟩
end Go.Proofs.YtkadanagmahhgaaGreatDoor
