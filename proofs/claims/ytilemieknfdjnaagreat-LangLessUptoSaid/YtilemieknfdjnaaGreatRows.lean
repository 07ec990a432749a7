/-
  No cell of these rows narrows 'for every input' (looked for: loops, veiled, ifaces, maps, wideKeys, modest, calm, conditions, laid).
  DERIVED. THE GIVEN ROWS OF THIS SEAT. 2 by the template 'for every input the law returns true; each argument reads behind the call as it read before'; 0 by the template 'total and deterministic' (their statements: YtilemieknfdjnaaGreatTotals.lean).
  GIVEN WITH THE SEED: the statements are not yours to turn. If you find one false, say at which input.
  Laid BY PROGRAM, IN A SANDBOX (cutbox-rows.mjs): the forced cells as the released guide's own fill.sh prints them over the translation 442499b93aba31d1… (all of the seat's roots in one cut). By AI agents, Wed Nov 11 2026. No macro, syntax, notation, axiom, sorry.
-/
import Derived.Test.YtilemieknfdjnaaGreatChecked
import GoSem.Claim
import GoSem.ClaimJoined
import GoSem.ClaimMapViews
import Derived.JoinedTies
import Derived.KernelRfl
namespace Go.Proofs.YtilemieknfdjnaaGreat
/- THE CELL 'sum', in the pinned program and in every row, IS THE sha256 OF THE DUMP (.gsa) THAT YtilemieknfdjnaaGreatProg.lean LOADS. Nothing in Lean hashes anything: it is a label: what it is worth is what the hold of that sum in a sandbox is worth. -/
noncomputable def Tryz.pinned : Pinned := { name := "ytilemieknfdjnaagreat", sum := "442499b93aba31d17b7b83e4597a2196e4830927edef8efed8575d8f87864911", checked := Tryz.checked }
namespace Rows
def none {H : Type} : Left H := { results := [], args := [] }

/-- 'topiarylaw04.LangLess': WHATEVER THE INPUT: true; the input reads as it did. -/
def langLessSpec : ChangeSpec := { name := "langLess", fn := fun _ => fun
  | [d1, d2, d3, d4] => { results := [.lit (.bool true)], args := [d1, d2, d3, d4] }
  | _ => none }
def langLessRow : OpenClaim := { program := "ytilemieknfdjnaagreat", sum := "442499b93aba31d17b7b83e4597a2196e4830927edef8efed8575d8f87864911", func := "topiary/topiarylaw04.LangLess", spec := "langLess", unfollowed := true, recurses := true, apart := false }
def LangLessSaid : Prop := langLessRow.holds Tryz.pinned (OpenSpec.ofChange langLessSpec)

/-- ITS FALSE NEIGHBOUR: 'it returns false'. Refute it at one input. -/
def langLessWrong : ChangeSpec := { name := "langLess", fn := fun _ => fun
  | [d1, d2, d3, d4] => { results := [.lit (.bool false)], args := [d1, d2, d3, d4] }
  | _ => none }
def LangLessWrongFalsely : Prop := langLessRow.holds Tryz.pinned (OpenSpec.ofChange langLessWrong)

/-- 'topiarylaw04.LangHeals': WHATEVER THE INPUT: true; the input reads as it did. -/
def langHealsSpec : ChangeSpec := { name := "langHeals", fn := fun _ => fun
  | [d1, d2, d3, d4] => { results := [.lit (.bool true)], args := [d1, d2, d3, d4] }
  | _ => none }
def langHealsRow : OpenClaim := { program := "ytilemieknfdjnaagreat", sum := "442499b93aba31d17b7b83e4597a2196e4830927edef8efed8575d8f87864911", func := "topiary/topiarylaw04.LangHeals", spec := "langHeals", unfollowed := true, recurses := true, apart := false }
def LangHealsSaid : Prop := langHealsRow.holds Tryz.pinned (OpenSpec.ofChange langHealsSpec)

/-- ITS FALSE NEIGHBOUR: 'it returns false'. Refute it at one input. -/
def langHealsWrong : ChangeSpec := { name := "langHeals", fn := fun _ => fun
  | [d1, d2, d3, d4] => { results := [.lit (.bool false)], args := [d1, d2, d3, d4] }
  | _ => none }
def LangHealsWrongFalsely : Prop := langHealsRow.holds Tryz.pinned (OpenSpec.ofChange langHealsWrong)

/- THE SECOND FORM. 'bulk': how many values and letters a reading holds, each counted each time it is reached (what is shared counts as often as it is met; a slice's spare places count too). A statement '..UptoSaid' is the law's where the arguments, and the package variables that the reading takes, are together of bulk at most 1048576: NARROWER than '..Said'. Prove '..Said' where nothing that the law and all that it calls make is longer than what came in: it says more and counts as full. Else prove '..UptoSaid'. A law counts once. -/
mutual
def uptoBulk {H : Type} : DataW H → Nat
  | .lit (.string bytes) => bytes.length + 1
  | .lit _ => 1
  | .nil => 1
  | .ptr d => uptoBulk d + 1
  | .slice elems spare => uptoBulkAll elems + uptoBulkAll spare + 1
  | .agg parts => uptoBulkAll parts + 1
  | .iface _ d => uptoBulk d + 1
  | .map entries => uptoBulkEntries entries + 1
  | .held _ => 1
def uptoBulkAll {H : Type} : List (DataW H) → Nat
  | [] => 0
  | d :: r => uptoBulk d + uptoBulkAll r
def uptoBulkEntries {H : Type} : List (Lit × DataW H) → Nat
  | [] => 0
  | x :: r => uptoBulkEntry x + uptoBulkEntries r
def uptoBulkEntry {H : Type} : Lit × DataW H → Nat
  | (.string bytes, d) => bytes.length + uptoBulk d + 1
  | (_, d) => uptoBulk d + 1
 end
def uptoSmall : (H : Type) → List (DataW H) → Bool := fun _ ds => decide (uptoBulkAll ds ≤ 1048576)
def OpenSpec.upto (s : _root_.Go.ChangeSpec) : _root_.Go.OpenSpec := { _root_.Go.OpenSpec.ofChange s with cond := some uptoSmall }

/-- 'topiarylaw04.LangLess', WHERE WHAT IT READS IS OF BULK AT MOST 1048576: true; the input reads as it did. -/
def langLessUptoRow : OpenClaim := { program := "ytilemieknfdjnaagreat", sum := "442499b93aba31d17b7b83e4597a2196e4830927edef8efed8575d8f87864911", func := "topiary/topiarylaw04.LangLess", spec := "langLess", unfollowed := true, recurses := true, apart := false, narrowed := true }
def LangLessUptoSaid : Prop := langLessUptoRow.holds Tryz.pinned (OpenSpec.upto langLessSpec)

/-- 'topiarylaw04.LangHeals', WHERE WHAT IT READS IS OF BULK AT MOST 1048576: true; the input reads as it did. -/
def langHealsUptoRow : OpenClaim := { program := "ytilemieknfdjnaagreat", sum := "442499b93aba31d17b7b83e4597a2196e4830927edef8efed8575d8f87864911", func := "topiary/topiarylaw04.LangHeals", spec := "langHeals", unfollowed := true, recurses := true, apart := false, narrowed := true }
def LangHealsUptoSaid : Prop := langHealsUptoRow.holds Tryz.pinned (OpenSpec.upto langHealsSpec)

end Rows
end Go.Proofs.YtilemieknfdjnaaGreat
