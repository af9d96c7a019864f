/-
  PROVED HERE: what strconv.FormatInt and strconv.ParseInt at base 10 answer in this program, laid from the library's own contracts. The tables and sentinels that they read are laid.
-/
import Derived.Test.YtbfoaiglecpgoaaDoorRows
import Derived.Shelf.Strconv.Itoa4
import Derived.Shelf.Strconv.ErrVarParseInt
import Derived.Shelf.Lay
import Derived.Ground.NamesProg
namespace Go.Proofs.YtbfoaiglecpgoaaDoor
open Go.Shelf
open Go.Proofs (Nm.prog)

shelf_lay LaysM.n173 Nm 173 at Tryd as Tryd.lays173
theorem format_any (n : Int) (h0 : -9223372036854775808 ≤ n) (h1 : n ≤ 9223372036854775807) (w : World) (htab : Lib.TabIs Tryd.prog w "internal/strconv.uint64pow10" .u64 Lib.pow10Tab) :
    Calls Tryd.prog 14 #[.int .i64 n, .int .i64 10] w fun e w' => e = .returned (.string ⟨(Lib.itoa n).toArray⟩) ∧ ∃ k os, w' = Sort.grow (w.drewN k) os := Any.strconv_FormatInt_10 Tryd.lays173 n h0 h1 w htab
#print axioms format_any
end Go.Proofs.YtbfoaiglecpgoaaDoor
