/-
  PLAIN: names, letters, digits. No program stands in it.
-/
import Derived.Test.YtinhlemebnlijaaDoorP
import Derived.Lib.Strings
import Derived.Lib.ItoaNum
import Derived.Lib.ParseIntB
namespace Go.Proofs.YtinhlemebnlijaaDoor
open Go
set_option linter.unusedVariables false
def letB (n : Int) : Bool := decide (65 ≤ n ∧ n ≤ 90) || decide (97 ≤ n ∧ n ≤ 122)
def innB (n : Int) : Bool := letB n || decide (48 ≤ n ∧ n ≤ 57) || n == 95
def innC (c : UInt8) : Bool := innB (c.toNat : Int)
/-- a name -/
def right : List UInt8 → Bool
  | [] => false
  | c :: r => decide (r.length < 32) && letB (c.toNat : Int) && r.all innC
/-- a name of the workbench's own -/
def ownN : List UInt8 → Bool
  | [] => false
  | c :: r => c == 63 && right r
/-- the number that a text is of, if it is an int's text -/
def intT (l : List UInt8) : Option Int :=
  match Lib.parseIntB 64 l with
  | .ok v => if Lib.itoa v = l then some v else none
  | _ => none
def fitsT (t : Int) (l : List UInt8) : Bool :=
  if t = 1 then decide (l.length ≤ 4096)
  else if t = 2 then (intT l).isSome
  else if t = 3 then decide (l = [116, 114, 117, 101]) || decide (l = [102, 97, 108, 115, 101])
  else if t = 4 then right l
  else false
end Go.Proofs.YtinhlemebnlijaaDoor
