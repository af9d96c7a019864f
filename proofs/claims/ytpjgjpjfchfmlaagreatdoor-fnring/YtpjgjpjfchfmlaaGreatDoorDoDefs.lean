/-
  PROVED HERE: what an op makes of its arguments, as plain functions. No condition.
-/
import Derived.Test.YtpjgjpjfchfmlaaGreatDoorArAll
import Derived.Test.YtpjgjpjfchfmlaaGreatDoorMath
import Derived.Test.YtpjgjpjfchfmlaaGreatDoorLists
namespace Go.Proofs.YtpjgjpjfchfmlaaGreatDoor
open Go.ChangeShapes Go.WideShapes Go.ChangeAt Go.RowKit
open Odd
set_option linter.unusedVariables false

def sel (x y z : Int) : Int := if x = 0 then z else y
def bone (b : Bool) : Int := if b = true then 1 else 0
/-- What an op makes of its arguments. -/
def dv (op x y z : Int) : Int :=
  if op = 3 then wrap64 (-x) else if op = 4 then wrap64 (x + y) else if op = 5 then wrap64 (x - y) else if op = 6 then wrap64 (x * y)
  else if op = 7 then wrap64 (x * 2 ^ (y % 64).toNat) else if op = 8 then (if y = 0 then 0 else wrap64 (x.tdiv y))
  else if op = 9 then bone (x == y) else if op = 10 then bone (decide (x < y)) else sel x y z
/-- Does it trap? -/
def dt (op y : Int) : Bool := op == 8 && y == 0

theorem u64_mod (y : Int) : IntKind.u64.wrap y % 64 = y % 64 := by
  rw [IntKind.wrap_u64]; omega

end Go.Proofs.YtpjgjpjfchfmlaaGreatDoor
