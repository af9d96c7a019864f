/-
  PROVED HERE: what the model's text of a number without a sign is: its decimal digits. No condition.
-/
import Derived.Test.YtbchehpggoampaaDoorRows
import Derived.WalkKit
import Derived.ProofKit
import Derived.OpenShut
import Derived.Handy
import Derived.OwnWalk
import Derived.WalkSmall
import Derived.BigQuiet
import Derived.Deep.QuietTactic
import Derived.Deep.RegionWith
import Derived.Laws.IdiomStrings
import Derived.Lib.ItoaNum
namespace Go.Proofs.YtbchehpggoampaaDoor
open Go.ChangeShapes Go.WideShapes Go.ChangeAt Go.RowKit
set_option linter.unusedVariables false

def byteIn : Option Value → UInt8
  | some (.int .u8 x) => UInt8.ofNat x.toNat
  | _ => 0
def isByte : Option Value → Bool
  | some (.int .u8 _) => true
  | _ => false
theorem isByte_some (x : Int) : isByte (some (.int .u8 x)) = true := rfl
theorem byteIn_some (x : Int) : byteIn (some (.int .u8 x)) = UInt8.ofNat x.toNat := rfl
theorem conv1 (W : World) (b cap : Nat) (h : isByte (W.cell? ⟨b, 0, none⟩) = true) :
    (convert 81 9 (.slice (some ⟨b, 0, none⟩) 1 cap)).run Tryd.prog W = .ok (.string ⟨#[byteIn (W.cell? ⟨b, 0, none⟩)]⟩) W := by
  obtain ⟨x, hx⟩ : ∃ x, W.cell? ⟨b, 0, none⟩ = some (.int .u8 x) := by
    revert h
    cases hc : W.cell? ⟨b, 0, none⟩ with
    | none => intro h; cases h
    | some v =>
      cases v with
      | int k x => cases k <;> intro h <;> first | exact ⟨x, rfl⟩ | cases h
      | _ => intro h; cases h
  rw [hx, byteIn_some, run_convert_bytes_string W 81 9 5 _ _ _ Tryd.underlying81 Tryd.underlying5 Tryd.underlying9]
  have hl := run_loadCells_list (P := Tryd.prog) W ⟨b, 0, none⟩ [.int .u8 x] (fun j v hj => by
    match j, hj with
    | 0, hj => simp at hj; subst hj; simpa [Addr.add] using hx)
  rw [run_bytesToString W ⟨b, 0, none⟩ 1 cap [x] hl]
  rfl
attribute [local go_sem] conv1 isByte_some byteIn_some

theorem long_small (u : Nat) (w : World) (h : u < 10) :
    Calls Tryd.prog 69 #[.int .u64 u] w fun e w' => e = .returned (.string ⟨(Lib.decDigits u).toArray⟩) ∧ Below w.heap.size w w' := by
  have h1 : (u : Int) < 10 := by omega
  rw [Lib.decDigits, dif_pos h]
  go_enter Tryd.func69, Tryd.ntmps69
  go_wp2
  go_ret
  exact ⟨rfl, (Below.refl _ _).alloc (Nat.le_refl _) _⟩
theorem bcell {W w1 : World} (hb : Below W.heap.size W w1) : (∀ b o, b < W.heap.size → w1.cell? ⟨b, o, none⟩ = W.cell? ⟨b, o, none⟩) := fun b o h => hb.cell (p := ⟨b, o, none⟩) h
theorem below_a {w w1 : World} {o : Obj} (hb : Below w.drew.heap.size w.drew w1) : Below w.heap.size w (w1.alloc o) :=
  (((Below.refl w.heap.size w).drew).trans hb).alloc hb.size o
theorem below_b {w w1 : World} {o : Obj} (hb : Below (w.alloc o).drew.heap.size (w.alloc o).drew w1) : Below w.heap.size w w1 :=
  (((Below.refl w.heap.size w).alloc (Nat.le_refl _) o).drew).trans (hb.mono (by show w.heap.size ≤ (w.alloc o).heap.size; simp))
theorem str_app (S : List UInt8) (c : UInt8) : ((⟨S.toArray⟩ : ByteArray) ++ ⟨#[c]⟩ : ByteArray) = ⟨(S ++ [c]).toArray⟩ := by
  simp [ByteArray.mk_append_mk]
theorem long_big (u v : Nat) (w : World) (hv : v = u / 10) (h : ¬ u < 10) (hu : u < 18446744073709551616) (S D : List UInt8) (hS : S.length ≤ 100) (x : Int) (hx : UInt8.ofNat x.toNat = UInt8.ofNat (48 + u % 10)) (hxx : IntKind.u8.wrap (IntKind.u64.wrap (48 + (u : Int).tmod 10)) = x)
  (ih : ∀ w, Calls Tryd.prog 69 #[.int .u64 v] w fun e w' => e = .returned (.string ⟨S.toArray⟩) ∧ Below w.heap.size w w') :
    Calls Tryd.prog 69 #[.int .u64 u] w fun e w' => e = .returned (.string ⟨(S ++ [UInt8.ofNat (48 + u % 10)]).toArray⟩) ∧ Below w.heap.size w w' := by
  have h1 : ¬ (u : Int) < 10 := by omega
  have IH : Hid (∀ w, Calls Tryd.prog 69 #[.int .u64 v] w fun e w' => e = .returned (.string ⟨S.toArray⟩) ∧ Below w.heap.size w w') := ih
  clear ih
  have e1 : IntKind.u64.wrap ((u : Int) / 10) = (v : Int) := by rw [IntKind.wrap_u64]; omega
  rw [← hx]
  have hl : (S.length : Int) ≤ 100 := by omega
  clear hv hu hx hS
  go_enter Tryd.func69, Tryd.ntmps69
  go_wp2_with fail
  go_region_with (go_at_call 69; refine (IH.out _).mono ?_; rintro e w1 ⟨rfl, hb⟩; have hc := bcell hb; have hz := hb.size)
  all_goals
    go_wp2
    go_ret
    refine ⟨by first | rfl | (congr 2; exact str_app _ _), ?_⟩
    first | exact below_a hb | exact below_b hb
theorem dec_len : ∀ (k u : Nat), 1 ≤ k → u < 10 ^ k → (Lib.decDigits u).length ≤ k
  | 0, u, h, _ => by omega
  | k + 1, u, _, hu => by
    rw [Lib.decDigits]
    by_cases h : u < 10
    · rw [dif_pos h]; simp
    · rw [dif_neg h]
      have hk : 1 ≤ k := by
        rcases k with _ | k
        · simp at hu; omega
        · omega
      have := dec_len k (u / 10) hk (by rw [Nat.pow_succ] at hu; omega)
      simp; omega
theorem long_any (u : Nat) : ∀ (w : World), u < 18446744073709551616 →
    Calls Tryd.prog 69 #[.int .u64 u] w fun e w' => e = .returned (.string ⟨(Lib.decDigits u).toArray⟩) ∧ Below w.heap.size w w' := by
  induction u using Nat.strongRecOn with
  | _ u ih =>
    intro w hu
    by_cases h : u < 10
    · exact long_small u w h
    · have hl : (Lib.decDigits (u / 10)).length ≤ 100 := Nat.le_trans (dec_len 20 (u / 10) (by decide) (by omega)) (by decide)
      rw [Lib.decDigits, dif_neg h]
      refine long_big u (u / 10) w rfl h hu (Lib.decDigits (u / 10)) [] hl _ ?_ rfl (fun w => ih (u / 10) (by omega) w (by omega))
      rw [IntKind.wrap_u8, IntKind.wrap_u64]
      have e : (u : Int).tmod 10 = ((u % 10 : Nat) : Int) := by rw [Int.tmod_eq_emod_of_nonneg (by omega)]; omega
      rw [e]
      congr 1
      omega
end Go.Proofs.YtbchehpggoampaaDoor
