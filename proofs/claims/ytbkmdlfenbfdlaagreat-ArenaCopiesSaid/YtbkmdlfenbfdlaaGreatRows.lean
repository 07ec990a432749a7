/-
  No cell of these rows narrows 'for every input' (looked for: loops, veiled, ifaces, maps, wideKeys, modest, calm, conditions, laid).
  DERIVED. THE GIVEN ROWS OF THIS SEAT. 4 by the template 'for every input the law returns true; each argument reads behind the call as it read before'; 0 by the template 'total and deterministic' (their statements: YtbkmdlfenbfdlaaGreatTotals.lean).
  GIVEN WITH THE SEED: the statements are not yours to turn. If you find one false, say at which input.
  Laid BY PROGRAM, IN A SANDBOX (cutbox-rows.mjs): the forced cells as the released guide's own fill.sh prints them over the translation 41b293749bb7d0a1… (all of the seat's roots in one cut). By AI agents, Wed Nov 11 2026. No macro, syntax, notation, axiom, sorry.
-/
import Derived.Test.YtbkmdlfenbfdlaaGreatChecked
import GoSem.Claim
import GoSem.ClaimJoined
import GoSem.ClaimMapViews
import Derived.JoinedTies
import Derived.KernelRfl
namespace Go.Proofs.YtbkmdlfenbfdlaaGreat
/- THE CELL 'sum', in the pinned program and in every row, IS THE sha256 OF THE DUMP (.gsa) THAT YtbkmdlfenbfdlaaGreatProg.lean LOADS. Nothing in Lean hashes anything: it is a label: what it is worth is what the hold of that sum in a sandbox is worth. -/
noncomputable def Tryz.pinned : Pinned := { name := "ytbkmdlfenbfdlaagreat", sum := "41b293749bb7d0a1f62582390fa41e71e9b4a6729e35d8eb7d9320dfd10e2dd8", checked := Tryz.checked }
namespace Rows
def none {H : Type} : Left H := { results := [], args := [] }

/-- 'topiarylaw02.ArenaRight': WHATEVER THE INPUT: true; the input reads as it did. -/
def arenaRightSpec : ChangeSpec := { name := "arenaRight", fn := fun _ => fun
  | [d] => { results := [.lit (.bool true)], args := [d] }
  | _ => none }
def arenaRightRow : OpenClaim := { program := "ytbkmdlfenbfdlaagreat", sum := "41b293749bb7d0a1f62582390fa41e71e9b4a6729e35d8eb7d9320dfd10e2dd8", func := "topiary/topiarylaw02.ArenaRight", spec := "arenaRight", inPlace := ["slices.overlaps[topiary/api.Prop]", "slices.overlaps[topiary/api.Ref]"], unfollowed := true, recurses := true, apart := false }
def ArenaRightSaid : Prop := arenaRightRow.holds Tryz.pinned (OpenSpec.ofChange arenaRightSpec)

/-- ITS FALSE NEIGHBOUR: 'it returns false'. Refute it at one input. -/
def arenaRightWrong : ChangeSpec := { name := "arenaRight", fn := fun _ => fun
  | [d] => { results := [.lit (.bool false)], args := [d] }
  | _ => none }
def ArenaRightWrongFalsely : Prop := arenaRightRow.holds Tryz.pinned (OpenSpec.ofChange arenaRightWrong)

/-- 'topiarylaw02.ArenaBack': WHATEVER THE INPUT: true; the input reads as it did. -/
def arenaBackSpec : ChangeSpec := { name := "arenaBack", fn := fun _ => fun
  | [d1, d2] => { results := [.lit (.bool true)], args := [d1, d2] }
  | _ => none }
def arenaBackRow : OpenClaim := { program := "ytbkmdlfenbfdlaagreat", sum := "41b293749bb7d0a1f62582390fa41e71e9b4a6729e35d8eb7d9320dfd10e2dd8", func := "topiary/topiarylaw02.ArenaBack", spec := "arenaBack", inPlace := ["slices.overlaps[topiary/api.Prop]", "slices.overlaps[topiary/api.Ref]"], unfollowed := true, recurses := true, apart := false }
def ArenaBackSaid : Prop := arenaBackRow.holds Tryz.pinned (OpenSpec.ofChange arenaBackSpec)

/-- ITS FALSE NEIGHBOUR: 'it returns false'. Refute it at one input. -/
def arenaBackWrong : ChangeSpec := { name := "arenaBack", fn := fun _ => fun
  | [d1, d2] => { results := [.lit (.bool false)], args := [d1, d2] }
  | _ => none }
def ArenaBackWrongFalsely : Prop := arenaBackRow.holds Tryz.pinned (OpenSpec.ofChange arenaBackWrong)

/-- 'topiarylaw02.ArenaCopies': WHATEVER THE INPUT: true; the input reads as it did. -/
def arenaCopiesSpec : ChangeSpec := { name := "arenaCopies", fn := fun _ => fun
  | [d1, d2] => { results := [.lit (.bool true)], args := [d1, d2] }
  | _ => none }
def arenaCopiesRow : OpenClaim := { program := "ytbkmdlfenbfdlaagreat", sum := "41b293749bb7d0a1f62582390fa41e71e9b4a6729e35d8eb7d9320dfd10e2dd8", func := "topiary/topiarylaw02.ArenaCopies", spec := "arenaCopies", inPlace := ["slices.overlaps[topiary/api.Prop]", "slices.overlaps[topiary/api.Ref]"], unfollowed := true, recurses := true, apart := false }
def ArenaCopiesSaid : Prop := arenaCopiesRow.holds Tryz.pinned (OpenSpec.ofChange arenaCopiesSpec)

/-- ITS FALSE NEIGHBOUR: 'it returns false'. Refute it at one input. -/
def arenaCopiesWrong : ChangeSpec := { name := "arenaCopies", fn := fun _ => fun
  | [d1, d2] => { results := [.lit (.bool false)], args := [d1, d2] }
  | _ => none }
def ArenaCopiesWrongFalsely : Prop := arenaCopiesRow.holds Tryz.pinned (OpenSpec.ofChange arenaCopiesWrong)

/-- 'topiarylaw02.ArenaOwn': WHATEVER THE INPUT: true; the input reads as it did. -/
def arenaOwnSpec : ChangeSpec := { name := "arenaOwn", fn := fun _ => fun
  | [d1, d2] => { results := [.lit (.bool true)], args := [d1, d2] }
  | _ => none }
def arenaOwnRow : OpenClaim := { program := "ytbkmdlfenbfdlaagreat", sum := "41b293749bb7d0a1f62582390fa41e71e9b4a6729e35d8eb7d9320dfd10e2dd8", func := "topiary/topiarylaw02.ArenaOwn", spec := "arenaOwn", inPlace := ["slices.overlaps[topiary/api.Prop]", "slices.overlaps[topiary/api.Ref]"], unfollowed := true, recurses := true, apart := false }
def ArenaOwnSaid : Prop := arenaOwnRow.holds Tryz.pinned (OpenSpec.ofChange arenaOwnSpec)

/-- ITS FALSE NEIGHBOUR: 'it returns false'. Refute it at one input. -/
def arenaOwnWrong : ChangeSpec := { name := "arenaOwn", fn := fun _ => fun
  | [d1, d2] => { results := [.lit (.bool false)], args := [d1, d2] }
  | _ => none }
def ArenaOwnWrongFalsely : Prop := arenaOwnRow.holds Tryz.pinned (OpenSpec.ofChange arenaOwnWrong)

/- THE SECOND FORM. 'bulk': how many values and letters a reading holds, each counted each time it is reached (what is shared counts as often as it is met; a slice's spare places count too). A statement '..UptoSaid' is the law's where the arguments, and the package variables that the reading takes, are together of bulk at most 1048576: NARROWER than '..Said'. Prove '..Said' where nothing that the law and all that it calls make is longer than what came in: it says more and counts as full. Else prove '..UptoSaid'. A law counts once. -/
mutual
def uptoBulk {H : Type} : DataW H → Nat
  | .lit (.string bytes) => bytes.length + 1
  | .lit _ => 1
  | .nil => 1
  | .ptr d => uptoBulk d + 1
  | .slice elems spare => uptoBulkAll elems + uptoBulkAll spare + 1
  | .agg parts => uptoBulkAll parts + 1
  | .iface _ d => uptoBulk d + 1
  | .map entries => uptoBulkEntries entries + 1
  | .held _ => 1
def uptoBulkAll {H : Type} : List (DataW H) → Nat
  | [] => 0
  | d :: r => uptoBulk d + uptoBulkAll r
def uptoBulkEntries {H : Type} : List (Lit × DataW H) → Nat
  | [] => 0
  | x :: r => uptoBulkEntry x + uptoBulkEntries r
def uptoBulkEntry {H : Type} : Lit × DataW H → Nat
  | (.string bytes, d) => bytes.length + uptoBulk d + 1
  | (_, d) => uptoBulk d + 1
 end
def uptoSmall : (H : Type) → List (DataW H) → Bool := fun _ ds => decide (uptoBulkAll ds ≤ 1048576)
def OpenSpec.upto (s : _root_.Go.ChangeSpec) : _root_.Go.OpenSpec := { _root_.Go.OpenSpec.ofChange s with cond := some uptoSmall }

/-- 'topiarylaw02.ArenaRight', WHERE WHAT IT READS IS OF BULK AT MOST 1048576: true; the input reads as it did. -/
def arenaRightUptoRow : OpenClaim := { program := "ytbkmdlfenbfdlaagreat", sum := "41b293749bb7d0a1f62582390fa41e71e9b4a6729e35d8eb7d9320dfd10e2dd8", func := "topiary/topiarylaw02.ArenaRight", spec := "arenaRight", inPlace := ["slices.overlaps[topiary/api.Prop]", "slices.overlaps[topiary/api.Ref]"], unfollowed := true, recurses := true, apart := false, narrowed := true }
def ArenaRightUptoSaid : Prop := arenaRightUptoRow.holds Tryz.pinned (OpenSpec.upto arenaRightSpec)

/-- 'topiarylaw02.ArenaBack', WHERE WHAT IT READS IS OF BULK AT MOST 1048576: true; the input reads as it did. -/
def arenaBackUptoRow : OpenClaim := { program := "ytbkmdlfenbfdlaagreat", sum := "41b293749bb7d0a1f62582390fa41e71e9b4a6729e35d8eb7d9320dfd10e2dd8", func := "topiary/topiarylaw02.ArenaBack", spec := "arenaBack", inPlace := ["slices.overlaps[topiary/api.Prop]", "slices.overlaps[topiary/api.Ref]"], unfollowed := true, recurses := true, apart := false, narrowed := true }
def ArenaBackUptoSaid : Prop := arenaBackUptoRow.holds Tryz.pinned (OpenSpec.upto arenaBackSpec)

/-- 'topiarylaw02.ArenaCopies', WHERE WHAT IT READS IS OF BULK AT MOST 1048576: true; the input reads as it did. -/
def arenaCopiesUptoRow : OpenClaim := { program := "ytbkmdlfenbfdlaagreat", sum := "41b293749bb7d0a1f62582390fa41e71e9b4a6729e35d8eb7d9320dfd10e2dd8", func := "topiary/topiarylaw02.ArenaCopies", spec := "arenaCopies", inPlace := ["slices.overlaps[topiary/api.Prop]", "slices.overlaps[topiary/api.Ref]"], unfollowed := true, recurses := true, apart := false, narrowed := true }
def ArenaCopiesUptoSaid : Prop := arenaCopiesUptoRow.holds Tryz.pinned (OpenSpec.upto arenaCopiesSpec)

/-- 'topiarylaw02.ArenaOwn', WHERE WHAT IT READS IS OF BULK AT MOST 1048576: true; the input reads as it did. -/
def arenaOwnUptoRow : OpenClaim := { program := "ytbkmdlfenbfdlaagreat", sum := "41b293749bb7d0a1f62582390fa41e71e9b4a6729e35d8eb7d9320dfd10e2dd8", func := "topiary/topiarylaw02.ArenaOwn", spec := "arenaOwn", inPlace := ["slices.overlaps[topiary/api.Prop]", "slices.overlaps[topiary/api.Ref]"], unfollowed := true, recurses := true, apart := false, narrowed := true }
def ArenaOwnUptoSaid : Prop := arenaOwnUptoRow.holds Tryz.pinned (OpenSpec.upto arenaOwnSpec)

end Rows
end Go.Proofs.YtbkmdlfenbfdlaaGreat
