/-
  NARROWER THAN 'FOR EVERY INPUT', by the rows' own cells (each row's printed sentence says how): FnExactGoodRule: laid · FnExactAxiomAt: laid · FnExactRuleText: laid · FnExactReadRule: laid · FnExactShippedRules: laid · FnExactHoldsAt: laid.
  DERIVED. THE GIVEN ROWS OF THIS SEAT. 6 by the template 'for every input the law returns true; each argument reads behind the call as it read before'; 0 by the template 'total and deterministic' (their statements: YtbchehpggoampaaDoorTotals.lean).
  GIVEN WITH THE SEED: the statements are not yours to turn. If you find one false, say at which input.
  Laid BY PROGRAM, IN A SANDBOX (cutbox-rows.mjs): the forced cells as the released guide's own fill.sh prints them over the translation eea4b3fe1670827a… (all of the seat's roots in one cut). By AI agents, Wed Nov 11 2026. No macro, syntax, notation, axiom, sorry.
-/
import Derived.Test.YtbchehpggoampaaDoorChecked
import GoSem.Claim
import GoSem.ClaimJoined
import GoSem.ClaimMapViews
import Derived.JoinedTies
import Derived.KernelRfl
namespace Go.Proofs.YtbchehpggoampaaDoor
/- THE CELL 'sum', in the pinned program and in every row, IS THE sha256 OF THE DUMP (.gsa) THAT YtbchehpggoampaaDoorProg.lean LOADS. Nothing in Lean hashes anything: it is a label: what it is worth is what the hold of that sum in a sandbox is worth. -/
noncomputable def Tryd.pinned : Pinned := { name := "ytbchehpggoampaadoor", sum := "eea4b3fe1670827aea266e1b3c7357057fd4a78c86fa4ca6213d7d52d20fc483", checked := Tryd.checked }
namespace Rows
def none {H : Type} : Left H := { results := [], args := [] }

/- WHAT THE LISTED PACKAGE-LEVEL VARIABLES READ AS WHEN THE CALL BEGINS. Each datum BY PROGRAM (the guide's laid-datum.mjs) off the statement by which the dump's own 'gosem.cut.vars' lays the variable. In a bare row this is a premise. The card (YtbchehpggoampaaDoorCards.lean) ties it to the program's text. -/
def laid_loop_example_g00694_impl_arities {H : Type} : DataW H := .agg [.lit (.int .i64 0), .lit (.int .i64 0), .lit (.int .i64 0), .lit (.int .i64 1), .lit (.int .i64 2), .lit (.int .i64 2), .lit (.int .i64 2), .lit (.int .i64 2), .lit (.int .i64 2), .lit (.int .i64 2), .lit (.int .i64 2), .lit (.int .i64 3)]
def laid_math_bits_deBruijn32tab {H : Type} : DataW H := .agg [.lit (.int .u8 0), .lit (.int .u8 1), .lit (.int .u8 28), .lit (.int .u8 2), .lit (.int .u8 29), .lit (.int .u8 14), .lit (.int .u8 24), .lit (.int .u8 3), .lit (.int .u8 30), .lit (.int .u8 22), .lit (.int .u8 20), .lit (.int .u8 15), .lit (.int .u8 25), .lit (.int .u8 17), .lit (.int .u8 4), .lit (.int .u8 8), .lit (.int .u8 31), .lit (.int .u8 27), .lit (.int .u8 13), .lit (.int .u8 23), .lit (.int .u8 21), .lit (.int .u8 19), .lit (.int .u8 16), .lit (.int .u8 7), .lit (.int .u8 26), .lit (.int .u8 12), .lit (.int .u8 18), .lit (.int .u8 6), .lit (.int .u8 11), .lit (.int .u8 5), .lit (.int .u8 10), .lit (.int .u8 9)]
def laid_math_bits_deBruijn64tab {H : Type} : DataW H := .agg [.lit (.int .u8 0), .lit (.int .u8 1), .lit (.int .u8 56), .lit (.int .u8 2), .lit (.int .u8 57), .lit (.int .u8 49), .lit (.int .u8 28), .lit (.int .u8 3), .lit (.int .u8 61), .lit (.int .u8 58), .lit (.int .u8 42), .lit (.int .u8 50), .lit (.int .u8 38), .lit (.int .u8 29), .lit (.int .u8 17), .lit (.int .u8 4), .lit (.int .u8 62), .lit (.int .u8 47), .lit (.int .u8 59), .lit (.int .u8 36), .lit (.int .u8 45), .lit (.int .u8 43), .lit (.int .u8 51), .lit (.int .u8 22), .lit (.int .u8 53), .lit (.int .u8 39), .lit (.int .u8 33), .lit (.int .u8 30), .lit (.int .u8 24), .lit (.int .u8 18), .lit (.int .u8 12), .lit (.int .u8 5), .lit (.int .u8 63), .lit (.int .u8 55), .lit (.int .u8 48), .lit (.int .u8 27), .lit (.int .u8 60), .lit (.int .u8 41), .lit (.int .u8 37), .lit (.int .u8 16), .lit (.int .u8 46), .lit (.int .u8 35), .lit (.int .u8 44), .lit (.int .u8 21), .lit (.int .u8 52), .lit (.int .u8 32), .lit (.int .u8 23), .lit (.int .u8 11), .lit (.int .u8 54), .lit (.int .u8 26), .lit (.int .u8 40), .lit (.int .u8 15), .lit (.int .u8 34), .lit (.int .u8 20), .lit (.int .u8 31), .lit (.int .u8 10), .lit (.int .u8 25), .lit (.int .u8 14), .lit (.int .u8 19), .lit (.int .u8 9), .lit (.int .u8 13), .lit (.int .u8 8), .lit (.int .u8 7), .lit (.int .u8 6)]
def laid_internal_strconv_uint64pow10 {H : Type} : DataW H := .agg [.lit (.int .u64 1), .lit (.int .u64 10), .lit (.int .u64 100), .lit (.int .u64 1000), .lit (.int .u64 10000), .lit (.int .u64 100000), .lit (.int .u64 1000000), .lit (.int .u64 10000000), .lit (.int .u64 100000000), .lit (.int .u64 1000000000), .lit (.int .u64 10000000000), .lit (.int .u64 100000000000), .lit (.int .u64 1000000000000), .lit (.int .u64 10000000000000), .lit (.int .u64 100000000000000), .lit (.int .u64 1000000000000000), .lit (.int .u64 10000000000000000), .lit (.int .u64 100000000000000000), .lit (.int .u64 1000000000000000000), .lit (.int .u64 10000000000000000000)]
def laid_strconv_ErrRange {H : Type} : DataW H := .iface "*errors.errorString" (.ptr (.agg [.lit (.string [118, 97, 108, 117, 101, 32, 111, 117, 116, 32, 111, 102, 32, 114, 97, 110, 103, 101])]))
def laid_strconv_ErrSyntax {H : Type} : DataW H := .iface "*errors.errorString" (.ptr (.agg [.lit (.string [105, 110, 118, 97, 108, 105, 100, 32, 115, 121, 110, 116, 97, 120])]))
def laid_loop_example_g00694_impl_signs {H : Type} : DataW H := .agg [.lit (.string []), .lit (.string []), .lit (.string []), .lit (.string []), .lit (.string [43]), .lit (.string [45]), .lit (.string [42]), .lit (.string [60, 60]), .lit (.string [47]), .lit (.string [61, 61]), .lit (.string [60])]

/-- 'laws.FnExactGoodRule': WHATEVER THE INPUT: true; the input reads as it did. -/
def fnExactGoodRuleSpec : ChangeSpec := { name := "fnExactGoodRule", vars := ["loop.example/g00694/impl.arities"], fn := fun _ => fun
  | [d, g1] => { results := [.lit (.bool true)], args := [d], vars := [g1] }
  | _ => none }
def fnExactGoodRuleRow : OpenClaim := { program := "ytbchehpggoampaadoor", sum := "eea4b3fe1670827aea266e1b3c7357057fd4a78c86fa4ca6213d7d52d20fc483", func := "loop.example/g00694/laws.FnExactGoodRule", spec := "fnExactGoodRule", named := ["loop.example/g00694/impl.arities"], apart := false, laid := [("loop.example/g00694/impl.arities", laid_loop_example_g00694_impl_arities)] }
def FnExactGoodRuleSaid : Prop := fnExactGoodRuleRow.holds Tryd.pinned (OpenSpec.ofChange fnExactGoodRuleSpec)

/-- ITS FALSE NEIGHBOUR: 'it returns false'. Refute it at one input. -/
def fnExactGoodRuleWrong : ChangeSpec := { name := "fnExactGoodRule", vars := ["loop.example/g00694/impl.arities"], fn := fun _ => fun
  | [d, g1] => { results := [.lit (.bool false)], args := [d], vars := [g1] }
  | _ => none }
def FnExactGoodRuleWrongFalsely : Prop := fnExactGoodRuleRow.holds Tryd.pinned (OpenSpec.ofChange fnExactGoodRuleWrong)

/-- 'laws.FnExactAxiomAt': WHATEVER THE INPUT: true; the input reads as it did. -/
def fnExactAxiomAtSpec : ChangeSpec := { name := "fnExactAxiomAt", vars := ["loop.example/g00694/impl.signs", "loop.example/g00694/impl.arities"], fn := fun _ => fun
  | [d, g1, g2] => { results := [.lit (.bool true)], args := [d], vars := [g1, g2] }
  | _ => none }
def fnExactAxiomAtRow : OpenClaim := { program := "ytbchehpggoampaadoor", sum := "eea4b3fe1670827aea266e1b3c7357057fd4a78c86fa4ca6213d7d52d20fc483", func := "loop.example/g00694/laws.FnExactAxiomAt", spec := "fnExactAxiomAt", inPlace := ["internal/bytealg.IndexByteString", "internal/bytealg.IndexString"], recurses := true, named := ["internal/bytealg.MaxLen", "loop.example/g00694/impl.signs", "strconv.ErrSyntax", "strconv.ErrRange", "internal/strconv.uint64pow10", "math/bits.deBruijn32tab", "math/bits.deBruijn64tab", "loop.example/g00694/impl.arities"], apart := false, laid := [("math/bits.deBruijn32tab", laid_math_bits_deBruijn32tab), ("math/bits.deBruijn64tab", laid_math_bits_deBruijn64tab), ("internal/strconv.uint64pow10", laid_internal_strconv_uint64pow10), ("strconv.ErrRange", laid_strconv_ErrRange), ("strconv.ErrSyntax", laid_strconv_ErrSyntax), ("loop.example/g00694/impl.arities", laid_loop_example_g00694_impl_arities), ("loop.example/g00694/impl.signs", laid_loop_example_g00694_impl_signs)] }
def FnExactAxiomAtSaid : Prop := fnExactAxiomAtRow.holds Tryd.pinned (OpenSpec.ofChange fnExactAxiomAtSpec)

/-- ITS FALSE NEIGHBOUR: 'it returns false'. Refute it at one input. -/
def fnExactAxiomAtWrong : ChangeSpec := { name := "fnExactAxiomAt", vars := ["loop.example/g00694/impl.signs", "loop.example/g00694/impl.arities"], fn := fun _ => fun
  | [d, g1, g2] => { results := [.lit (.bool false)], args := [d], vars := [g1, g2] }
  | _ => none }
def FnExactAxiomAtWrongFalsely : Prop := fnExactAxiomAtRow.holds Tryd.pinned (OpenSpec.ofChange fnExactAxiomAtWrong)

/-- 'laws.FnExactRuleText': WHATEVER THE INPUT: true; the input reads as it did. -/
def fnExactRuleTextSpec : ChangeSpec := { name := "fnExactRuleText", vars := ["loop.example/g00694/impl.arities", "loop.example/g00694/impl.signs"], fn := fun _ => fun
  | [d, g1, g2] => { results := [.lit (.bool true)], args := [d], vars := [g1, g2] }
  | _ => none }
def fnExactRuleTextRow : OpenClaim := { program := "ytbchehpggoampaadoor", sum := "eea4b3fe1670827aea266e1b3c7357057fd4a78c86fa4ca6213d7d52d20fc483", func := "loop.example/g00694/laws.FnExactRuleText", spec := "fnExactRuleText", recurses := true, named := ["loop.example/g00694/impl.arities", "internal/strconv.uint64pow10", "math/bits.deBruijn32tab", "math/bits.deBruijn64tab", "loop.example/g00694/impl.signs"], apart := false, laid := [("math/bits.deBruijn32tab", laid_math_bits_deBruijn32tab), ("math/bits.deBruijn64tab", laid_math_bits_deBruijn64tab), ("internal/strconv.uint64pow10", laid_internal_strconv_uint64pow10), ("loop.example/g00694/impl.arities", laid_loop_example_g00694_impl_arities), ("loop.example/g00694/impl.signs", laid_loop_example_g00694_impl_signs)] }
def FnExactRuleTextSaid : Prop := fnExactRuleTextRow.holds Tryd.pinned (OpenSpec.ofChange fnExactRuleTextSpec)

/-- ITS FALSE NEIGHBOUR: 'it returns false'. Refute it at one input. -/
def fnExactRuleTextWrong : ChangeSpec := { name := "fnExactRuleText", vars := ["loop.example/g00694/impl.arities", "loop.example/g00694/impl.signs"], fn := fun _ => fun
  | [d, g1, g2] => { results := [.lit (.bool false)], args := [d], vars := [g1, g2] }
  | _ => none }
def FnExactRuleTextWrongFalsely : Prop := fnExactRuleTextRow.holds Tryd.pinned (OpenSpec.ofChange fnExactRuleTextWrong)

/-- 'laws.FnExactReadRule': WHATEVER THE INPUT: true; the input reads as it did. -/
def fnExactReadRuleSpec : ChangeSpec := { name := "fnExactReadRule", vars := ["loop.example/g00694/impl.signs", "loop.example/g00694/impl.arities"], fn := fun _ => fun
  | [d, g1, g2] => { results := [.lit (.bool true)], args := [d], vars := [g1, g2] }
  | _ => none }
def fnExactReadRuleRow : OpenClaim := { program := "ytbchehpggoampaadoor", sum := "eea4b3fe1670827aea266e1b3c7357057fd4a78c86fa4ca6213d7d52d20fc483", func := "loop.example/g00694/laws.FnExactReadRule", spec := "fnExactReadRule", inPlace := ["internal/bytealg.IndexByteString", "internal/bytealg.IndexString"], recurses := true, named := ["internal/bytealg.MaxLen", "loop.example/g00694/impl.signs", "strconv.ErrSyntax", "strconv.ErrRange", "internal/strconv.uint64pow10", "math/bits.deBruijn32tab", "math/bits.deBruijn64tab", "loop.example/g00694/impl.arities"], apart := false, laid := [("math/bits.deBruijn32tab", laid_math_bits_deBruijn32tab), ("math/bits.deBruijn64tab", laid_math_bits_deBruijn64tab), ("internal/strconv.uint64pow10", laid_internal_strconv_uint64pow10), ("strconv.ErrRange", laid_strconv_ErrRange), ("strconv.ErrSyntax", laid_strconv_ErrSyntax), ("loop.example/g00694/impl.arities", laid_loop_example_g00694_impl_arities), ("loop.example/g00694/impl.signs", laid_loop_example_g00694_impl_signs)] }
def FnExactReadRuleSaid : Prop := fnExactReadRuleRow.holds Tryd.pinned (OpenSpec.ofChange fnExactReadRuleSpec)

/-- ITS FALSE NEIGHBOUR: 'it returns false'. Refute it at one input. -/
def fnExactReadRuleWrong : ChangeSpec := { name := "fnExactReadRule", vars := ["loop.example/g00694/impl.signs", "loop.example/g00694/impl.arities"], fn := fun _ => fun
  | [d, g1, g2] => { results := [.lit (.bool false)], args := [d], vars := [g1, g2] }
  | _ => none }
def FnExactReadRuleWrongFalsely : Prop := fnExactReadRuleRow.holds Tryd.pinned (OpenSpec.ofChange fnExactReadRuleWrong)

/-- 'laws.FnExactShippedRules': WHATEVER THE INPUT: true; the input reads as it did. -/
def fnExactShippedRulesSpec : ChangeSpec := { name := "fnExactShippedRules", vars := ["loop.example/g00694/impl.signs", "loop.example/g00694/impl.arities"], fn := fun _ => fun
  | [g1, g2] => { results := [.lit (.bool true)], args := [], vars := [g1, g2] }
  | _ => none }
def fnExactShippedRulesRow : OpenClaim := { program := "ytbchehpggoampaadoor", sum := "eea4b3fe1670827aea266e1b3c7357057fd4a78c86fa4ca6213d7d52d20fc483", func := "loop.example/g00694/laws.FnExactShippedRules", spec := "fnExactShippedRules", inPlace := ["internal/bytealg.IndexByteString", "internal/bytealg.IndexString"], recurses := true, named := ["internal/bytealg.MaxLen", "loop.example/g00694/impl.signs", "strconv.ErrSyntax", "strconv.ErrRange", "internal/strconv.uint64pow10", "math/bits.deBruijn32tab", "math/bits.deBruijn64tab", "loop.example/g00694/impl.arities"], apart := false, laid := [("math/bits.deBruijn32tab", laid_math_bits_deBruijn32tab), ("math/bits.deBruijn64tab", laid_math_bits_deBruijn64tab), ("internal/strconv.uint64pow10", laid_internal_strconv_uint64pow10), ("strconv.ErrRange", laid_strconv_ErrRange), ("strconv.ErrSyntax", laid_strconv_ErrSyntax), ("loop.example/g00694/impl.arities", laid_loop_example_g00694_impl_arities), ("loop.example/g00694/impl.signs", laid_loop_example_g00694_impl_signs)] }
def FnExactShippedRulesSaid : Prop := fnExactShippedRulesRow.holds Tryd.pinned (OpenSpec.ofChange fnExactShippedRulesSpec)

/-- ITS FALSE NEIGHBOUR: 'it returns false'. Refute it at one input. -/
def fnExactShippedRulesWrong : ChangeSpec := { name := "fnExactShippedRules", vars := ["loop.example/g00694/impl.signs", "loop.example/g00694/impl.arities"], fn := fun _ => fun
  | [g1, g2] => { results := [.lit (.bool false)], args := [], vars := [g1, g2] }
  | _ => none }
def FnExactShippedRulesWrongFalsely : Prop := fnExactShippedRulesRow.holds Tryd.pinned (OpenSpec.ofChange fnExactShippedRulesWrong)

/-- 'laws.FnExactHoldsAt': WHATEVER THE INPUT: true; the input reads as it did. -/
def fnExactHoldsAtSpec : ChangeSpec := { name := "fnExactHoldsAt", vars := ["loop.example/g00694/impl.arities"], fn := fun _ => fun
  | [d1, d2, g1] => { results := [.lit (.bool true)], args := [d1, d2], vars := [g1] }
  | _ => none }
def fnExactHoldsAtRow : OpenClaim := { program := "ytbchehpggoampaadoor", sum := "eea4b3fe1670827aea266e1b3c7357057fd4a78c86fa4ca6213d7d52d20fc483", func := "loop.example/g00694/laws.FnExactHoldsAt", spec := "fnExactHoldsAt", recurses := true, named := ["loop.example/g00694/impl.arities"], apart := false, laid := [("loop.example/g00694/impl.arities", laid_loop_example_g00694_impl_arities)] }
def FnExactHoldsAtSaid : Prop := fnExactHoldsAtRow.holds Tryd.pinned (OpenSpec.ofChange fnExactHoldsAtSpec)

/-- ITS FALSE NEIGHBOUR: 'it returns false'. Refute it at one input. -/
def fnExactHoldsAtWrong : ChangeSpec := { name := "fnExactHoldsAt", vars := ["loop.example/g00694/impl.arities"], fn := fun _ => fun
  | [d1, d2, g1] => { results := [.lit (.bool false)], args := [d1, d2], vars := [g1] }
  | _ => none }
def FnExactHoldsAtWrongFalsely : Prop := fnExactHoldsAtRow.holds Tryd.pinned (OpenSpec.ofChange fnExactHoldsAtWrong)

/- THE SECOND FORM. 'bulk': how many values and letters a reading holds, each counted each time it is reached (what is shared counts as often as it is met; a slice's spare places count too). A statement '..UptoSaid' is the law's where the arguments, and the package variables that the reading takes, are together of bulk at most 1048576: NARROWER than '..Said'. Prove '..Said' where nothing that the law and all that it calls make is longer than what came in: it says more and counts as full. Else prove '..UptoSaid'. A law counts once. -/
mutual
def uptoBulk {H : Type} : DataW H → Nat
  | .lit (.string bytes) => bytes.length + 1
  | .lit _ => 1
  | .nil => 1
  | .ptr d => uptoBulk d + 1
  | .slice elems spare => uptoBulkAll elems + uptoBulkAll spare + 1
  | .agg parts => uptoBulkAll parts + 1
  | .iface _ d => uptoBulk d + 1
  | .map entries => uptoBulkEntries entries + 1
  | .held _ => 1
def uptoBulkAll {H : Type} : List (DataW H) → Nat
  | [] => 0
  | d :: r => uptoBulk d + uptoBulkAll r
def uptoBulkEntries {H : Type} : List (Lit × DataW H) → Nat
  | [] => 0
  | x :: r => uptoBulkEntry x + uptoBulkEntries r
def uptoBulkEntry {H : Type} : Lit × DataW H → Nat
  | (.string bytes, d) => bytes.length + uptoBulk d + 1
  | (_, d) => uptoBulk d + 1
 end
def uptoSmall : (H : Type) → List (DataW H) → Bool := fun _ ds => decide (uptoBulkAll ds ≤ 1048576)
def OpenSpec.upto (s : _root_.Go.ChangeSpec) : _root_.Go.OpenSpec := { _root_.Go.OpenSpec.ofChange s with cond := some uptoSmall }

/-- 'laws.FnExactGoodRule', WHERE WHAT IT READS IS OF BULK AT MOST 1048576: true; the input reads as it did. -/
def fnExactGoodRuleUptoRow : OpenClaim := { program := "ytbchehpggoampaadoor", sum := "eea4b3fe1670827aea266e1b3c7357057fd4a78c86fa4ca6213d7d52d20fc483", func := "loop.example/g00694/laws.FnExactGoodRule", spec := "fnExactGoodRule", named := ["loop.example/g00694/impl.arities"], apart := false, laid := [("loop.example/g00694/impl.arities", laid_loop_example_g00694_impl_arities)], narrowed := true }
def FnExactGoodRuleUptoSaid : Prop := fnExactGoodRuleUptoRow.holds Tryd.pinned (OpenSpec.upto fnExactGoodRuleSpec)

/-- 'laws.FnExactAxiomAt', WHERE WHAT IT READS IS OF BULK AT MOST 1048576: true; the input reads as it did. -/
def fnExactAxiomAtUptoRow : OpenClaim := { program := "ytbchehpggoampaadoor", sum := "eea4b3fe1670827aea266e1b3c7357057fd4a78c86fa4ca6213d7d52d20fc483", func := "loop.example/g00694/laws.FnExactAxiomAt", spec := "fnExactAxiomAt", inPlace := ["internal/bytealg.IndexByteString", "internal/bytealg.IndexString"], recurses := true, named := ["internal/bytealg.MaxLen", "loop.example/g00694/impl.signs", "strconv.ErrSyntax", "strconv.ErrRange", "internal/strconv.uint64pow10", "math/bits.deBruijn32tab", "math/bits.deBruijn64tab", "loop.example/g00694/impl.arities"], apart := false, laid := [("math/bits.deBruijn32tab", laid_math_bits_deBruijn32tab), ("math/bits.deBruijn64tab", laid_math_bits_deBruijn64tab), ("internal/strconv.uint64pow10", laid_internal_strconv_uint64pow10), ("strconv.ErrRange", laid_strconv_ErrRange), ("strconv.ErrSyntax", laid_strconv_ErrSyntax), ("loop.example/g00694/impl.arities", laid_loop_example_g00694_impl_arities), ("loop.example/g00694/impl.signs", laid_loop_example_g00694_impl_signs)], narrowed := true }
def FnExactAxiomAtUptoSaid : Prop := fnExactAxiomAtUptoRow.holds Tryd.pinned (OpenSpec.upto fnExactAxiomAtSpec)

/-- 'laws.FnExactRuleText', WHERE WHAT IT READS IS OF BULK AT MOST 1048576: true; the input reads as it did. -/
def fnExactRuleTextUptoRow : OpenClaim := { program := "ytbchehpggoampaadoor", sum := "eea4b3fe1670827aea266e1b3c7357057fd4a78c86fa4ca6213d7d52d20fc483", func := "loop.example/g00694/laws.FnExactRuleText", spec := "fnExactRuleText", recurses := true, named := ["loop.example/g00694/impl.arities", "internal/strconv.uint64pow10", "math/bits.deBruijn32tab", "math/bits.deBruijn64tab", "loop.example/g00694/impl.signs"], apart := false, laid := [("math/bits.deBruijn32tab", laid_math_bits_deBruijn32tab), ("math/bits.deBruijn64tab", laid_math_bits_deBruijn64tab), ("internal/strconv.uint64pow10", laid_internal_strconv_uint64pow10), ("loop.example/g00694/impl.arities", laid_loop_example_g00694_impl_arities), ("loop.example/g00694/impl.signs", laid_loop_example_g00694_impl_signs)], narrowed := true }
def FnExactRuleTextUptoSaid : Prop := fnExactRuleTextUptoRow.holds Tryd.pinned (OpenSpec.upto fnExactRuleTextSpec)

/-- 'laws.FnExactReadRule', WHERE WHAT IT READS IS OF BULK AT MOST 1048576: true; the input reads as it did. -/
def fnExactReadRuleUptoRow : OpenClaim := { program := "ytbchehpggoampaadoor", sum := "eea4b3fe1670827aea266e1b3c7357057fd4a78c86fa4ca6213d7d52d20fc483", func := "loop.example/g00694/laws.FnExactReadRule", spec := "fnExactReadRule", inPlace := ["internal/bytealg.IndexByteString", "internal/bytealg.IndexString"], recurses := true, named := ["internal/bytealg.MaxLen", "loop.example/g00694/impl.signs", "strconv.ErrSyntax", "strconv.ErrRange", "internal/strconv.uint64pow10", "math/bits.deBruijn32tab", "math/bits.deBruijn64tab", "loop.example/g00694/impl.arities"], apart := false, laid := [("math/bits.deBruijn32tab", laid_math_bits_deBruijn32tab), ("math/bits.deBruijn64tab", laid_math_bits_deBruijn64tab), ("internal/strconv.uint64pow10", laid_internal_strconv_uint64pow10), ("strconv.ErrRange", laid_strconv_ErrRange), ("strconv.ErrSyntax", laid_strconv_ErrSyntax), ("loop.example/g00694/impl.arities", laid_loop_example_g00694_impl_arities), ("loop.example/g00694/impl.signs", laid_loop_example_g00694_impl_signs)], narrowed := true }
def FnExactReadRuleUptoSaid : Prop := fnExactReadRuleUptoRow.holds Tryd.pinned (OpenSpec.upto fnExactReadRuleSpec)

/-- 'laws.FnExactShippedRules', WHERE WHAT IT READS IS OF BULK AT MOST 1048576: true; the input reads as it did. -/
def fnExactShippedRulesUptoRow : OpenClaim := { program := "ytbchehpggoampaadoor", sum := "eea4b3fe1670827aea266e1b3c7357057fd4a78c86fa4ca6213d7d52d20fc483", func := "loop.example/g00694/laws.FnExactShippedRules", spec := "fnExactShippedRules", inPlace := ["internal/bytealg.IndexByteString", "internal/bytealg.IndexString"], recurses := true, named := ["internal/bytealg.MaxLen", "loop.example/g00694/impl.signs", "strconv.ErrSyntax", "strconv.ErrRange", "internal/strconv.uint64pow10", "math/bits.deBruijn32tab", "math/bits.deBruijn64tab", "loop.example/g00694/impl.arities"], apart := false, laid := [("math/bits.deBruijn32tab", laid_math_bits_deBruijn32tab), ("math/bits.deBruijn64tab", laid_math_bits_deBruijn64tab), ("internal/strconv.uint64pow10", laid_internal_strconv_uint64pow10), ("strconv.ErrRange", laid_strconv_ErrRange), ("strconv.ErrSyntax", laid_strconv_ErrSyntax), ("loop.example/g00694/impl.arities", laid_loop_example_g00694_impl_arities), ("loop.example/g00694/impl.signs", laid_loop_example_g00694_impl_signs)], narrowed := true }
def FnExactShippedRulesUptoSaid : Prop := fnExactShippedRulesUptoRow.holds Tryd.pinned (OpenSpec.upto fnExactShippedRulesSpec)

/-- 'laws.FnExactHoldsAt', WHERE WHAT IT READS IS OF BULK AT MOST 1048576: true; the input reads as it did. -/
def fnExactHoldsAtUptoRow : OpenClaim := { program := "ytbchehpggoampaadoor", sum := "eea4b3fe1670827aea266e1b3c7357057fd4a78c86fa4ca6213d7d52d20fc483", func := "loop.example/g00694/laws.FnExactHoldsAt", spec := "fnExactHoldsAt", recurses := true, named := ["loop.example/g00694/impl.arities"], apart := false, laid := [("loop.example/g00694/impl.arities", laid_loop_example_g00694_impl_arities)], narrowed := true }
def FnExactHoldsAtUptoSaid : Prop := fnExactHoldsAtUptoRow.holds Tryd.pinned (OpenSpec.upto fnExactHoldsAtSpec)

end Rows
end Go.Proofs.YtbchehpggoampaaDoor
