/-
  LAW LexBack: for any tokens, and any text, the law answers true. Condition: the library's five variables and package lex's two tables hold what the program's text lays (tied by the card).
-/
import Derived.Test.YtinhlemebnlijaaDoorYF
import Derived.Test.YtinhlemebnlijaaDoorY20
namespace Go.Proofs.YtinhlemebnlijaaDoor.lexBack
open Go Go.ChangeShapes Go.WideShapes Go.ChangeAt Go.RowKit
set_option linter.unusedVariables false
theorem laid : laidOutB Tryd.prog = true := by kernel_rfl
theorem reads (os : Os) {H : Type} (enc : TypeId × Value → H) : ∃ places, DataW.whole enc Tryd.prog ((laidWorld os).forCall (fun _ _ => 0) ⟨#[], #[.slice none 0 0, .string ByteArray.empty], []⟩).memory Tryd.f5.params.toList Rows.lexBackSpec.vars false (#[.slice none 0 0, .string ByteArray.empty] : Array Value).toList 8 = some ([.nil, .lit (.string [])], [], places) :=
  ⟨[], by kernel_rfl⟩
end Go.Proofs.YtinhlemebnlijaaDoor.lexBack
