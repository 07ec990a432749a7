/-
  NARROWER THAN 'FOR EVERY INPUT', by the rows' own cells (each row's printed sentence says how): ExprParses: laid · ExprBack: laid · ExprSame: laid · ExprBrackets: laid · ExprParts: laid.
  DERIVED. THE GIVEN ROWS OF THIS SEAT. 5 by the template 'for every input the law returns true; each argument reads behind the call as it read before'; 0 by the template 'total and deterministic' (their statements: YtckfcpiedainfaaGreatDoorTotals.lean).
  GIVEN WITH THE SEED: the statements are not yours to turn. If you find one false, say at which input.
  Laid BY PROGRAM, IN A SANDBOX (cutbox-rows.mjs): the forced cells as the released guide's own fill.sh prints them over the translation d57c6bba85f067f1… (all of the seat's roots in one cut). By AI agents, Wed Nov 11 2026. No macro, syntax, notation, axiom, sorry.
-/
import Derived.Test.YtckfcpiedainfaaGreatDoorChecked
import GoSem.Claim
import GoSem.ClaimJoined
import GoSem.ClaimMapViews
import Derived.JoinedTies
import Derived.KernelRfl
namespace Go.Proofs.YtckfcpiedainfaaGreatDoor
/- THE CELL 'sum', in the pinned program and in every row, IS THE sha256 OF THE DUMP (.gsa) THAT YtckfcpiedainfaaGreatDoorProg.lean LOADS. Nothing in Lean hashes anything: it is a label: what it is worth is what the hold of that sum in a sandbox is worth. -/
noncomputable def Tryz.pinned : Pinned := { name := "ytckfcpiedainfaagreatdoor", sum := "d57c6bba85f067f183a2ef509dde4593ef39daca81140a0107282cafe2b10a83", checked := Tryz.checked }
namespace Rows
def none {H : Type} : Left H := { results := [], args := [] }

/- WHAT THE LISTED PACKAGE-LEVEL VARIABLES READ AS WHEN THE CALL BEGINS. Each datum BY PROGRAM (the guide's laid-datum.mjs) off the statement by which the dump's own 'gosem.cut.vars' lays the variable. In a bare row this is a premise. The card (YtckfcpiedainfaaGreatDoorCards.lean) ties it to the program's text. -/
def laid_math_bits_deBruijn32tab {H : Type} : DataW H := .agg [.lit (.int .u8 0), .lit (.int .u8 1), .lit (.int .u8 28), .lit (.int .u8 2), .lit (.int .u8 29), .lit (.int .u8 14), .lit (.int .u8 24), .lit (.int .u8 3), .lit (.int .u8 30), .lit (.int .u8 22), .lit (.int .u8 20), .lit (.int .u8 15), .lit (.int .u8 25), .lit (.int .u8 17), .lit (.int .u8 4), .lit (.int .u8 8), .lit (.int .u8 31), .lit (.int .u8 27), .lit (.int .u8 13), .lit (.int .u8 23), .lit (.int .u8 21), .lit (.int .u8 19), .lit (.int .u8 16), .lit (.int .u8 7), .lit (.int .u8 26), .lit (.int .u8 12), .lit (.int .u8 18), .lit (.int .u8 6), .lit (.int .u8 11), .lit (.int .u8 5), .lit (.int .u8 10), .lit (.int .u8 9)]
def laid_math_bits_deBruijn64tab {H : Type} : DataW H := .agg [.lit (.int .u8 0), .lit (.int .u8 1), .lit (.int .u8 56), .lit (.int .u8 2), .lit (.int .u8 57), .lit (.int .u8 49), .lit (.int .u8 28), .lit (.int .u8 3), .lit (.int .u8 61), .lit (.int .u8 58), .lit (.int .u8 42), .lit (.int .u8 50), .lit (.int .u8 38), .lit (.int .u8 29), .lit (.int .u8 17), .lit (.int .u8 4), .lit (.int .u8 62), .lit (.int .u8 47), .lit (.int .u8 59), .lit (.int .u8 36), .lit (.int .u8 45), .lit (.int .u8 43), .lit (.int .u8 51), .lit (.int .u8 22), .lit (.int .u8 53), .lit (.int .u8 39), .lit (.int .u8 33), .lit (.int .u8 30), .lit (.int .u8 24), .lit (.int .u8 18), .lit (.int .u8 12), .lit (.int .u8 5), .lit (.int .u8 63), .lit (.int .u8 55), .lit (.int .u8 48), .lit (.int .u8 27), .lit (.int .u8 60), .lit (.int .u8 41), .lit (.int .u8 37), .lit (.int .u8 16), .lit (.int .u8 46), .lit (.int .u8 35), .lit (.int .u8 44), .lit (.int .u8 21), .lit (.int .u8 52), .lit (.int .u8 32), .lit (.int .u8 23), .lit (.int .u8 11), .lit (.int .u8 54), .lit (.int .u8 26), .lit (.int .u8 40), .lit (.int .u8 15), .lit (.int .u8 34), .lit (.int .u8 20), .lit (.int .u8 31), .lit (.int .u8 10), .lit (.int .u8 25), .lit (.int .u8 14), .lit (.int .u8 19), .lit (.int .u8 9), .lit (.int .u8 13), .lit (.int .u8 8), .lit (.int .u8 7), .lit (.int .u8 6)]
def laid_internal_strconv_uint64pow10 {H : Type} : DataW H := .agg [.lit (.int .u64 1), .lit (.int .u64 10), .lit (.int .u64 100), .lit (.int .u64 1000), .lit (.int .u64 10000), .lit (.int .u64 100000), .lit (.int .u64 1000000), .lit (.int .u64 10000000), .lit (.int .u64 100000000), .lit (.int .u64 1000000000), .lit (.int .u64 10000000000), .lit (.int .u64 100000000000), .lit (.int .u64 1000000000000), .lit (.int .u64 10000000000000), .lit (.int .u64 100000000000000), .lit (.int .u64 1000000000000000), .lit (.int .u64 10000000000000000), .lit (.int .u64 100000000000000000), .lit (.int .u64 1000000000000000000), .lit (.int .u64 10000000000000000000)]
def laid_strconv_ErrRange {H : Type} : DataW H := .iface "*errors.errorString" (.ptr (.agg [.lit (.string [118, 97, 108, 117, 101, 32, 111, 117, 116, 32, 111, 102, 32, 114, 97, 110, 103, 101])]))
def laid_strconv_ErrSyntax {H : Type} : DataW H := .iface "*errors.errorString" (.ptr (.agg [.lit (.string [105, 110, 118, 97, 108, 105, 100, 32, 115, 121, 110, 116, 97, 120])]))
def laid_topiary_lex_words {H : Type} : DataW H := .agg [.lit (.string [97, 110, 100]), .lit (.string [97, 110, 121]), .lit (.string [99, 111, 110, 99, 101, 112, 116]), .lit (.string [101, 108, 115, 101]), .lit (.string [101, 110, 100]), .lit (.string [101, 118, 101, 114, 121]), .lit (.string [102, 97, 108, 115, 101]), .lit (.string [102, 105, 114, 115, 116]), .lit (.string [105, 100]), .lit (.string [105, 102]), .lit (.string [105, 110]), .lit (.string [105, 110, 116]), .lit (.string [110, 111, 110, 101]), .lit (.string [110, 111, 116]), .lit (.string [111, 110, 108, 121]), .lit (.string [111, 114]), .lit (.string [115, 101, 108, 102]), .lit (.string [115, 105, 122, 101]), .lit (.string [115, 117, 109]), .lit (.string [116, 101, 120, 116]), .lit (.string [116, 104, 101, 110]), .lit (.string [116, 114, 117, 101])]
def laid_topiary_lex_marks {H : Type} : DataW H := .agg [.lit (.string [46]), .lit (.string [35]), .lit (.string [45, 62]), .lit (.string [94]), .lit (.string [63]), .lit (.string [33, 33]), .lit (.string [40]), .lit (.string [41]), .lit (.string [43]), .lit (.string [45]), .lit (.string [42]), .lit (.string [61, 61]), .lit (.string [33, 61]), .lit (.string [60]), .lit (.string [60, 61]), .lit (.string [58])]
def laid_topiary_expr_signs {H : Type} : DataW H := .agg [.agg [.lit (.string []), .lit (.int .i64 0), .lit (.int .i64 0), .lit (.int .i64 0), .lit (.bool false)], .agg [.lit (.string []), .lit (.int .i64 0), .lit (.int .i64 8), .lit (.int .i64 0), .lit (.bool false)], .agg [.lit (.string []), .lit (.int .i64 0), .lit (.int .i64 8), .lit (.int .i64 0), .lit (.bool false)], .agg [.lit (.string [116, 114, 117, 101]), .lit (.int .i64 1), .lit (.int .i64 8), .lit (.int .i64 0), .lit (.bool false)], .agg [.lit (.string [102, 97, 108, 115, 101]), .lit (.int .i64 1), .lit (.int .i64 8), .lit (.int .i64 0), .lit (.bool false)], .agg [.lit (.string [115, 101, 108, 102]), .lit (.int .i64 1), .lit (.int .i64 8), .lit (.int .i64 0), .lit (.bool false)], .agg [.lit (.string [110, 111, 110, 101]), .lit (.int .i64 1), .lit (.int .i64 8), .lit (.int .i64 0), .lit (.bool false)], .agg [.lit (.string []), .lit (.int .i64 0), .lit (.int .i64 8), .lit (.int .i64 0), .lit (.bool true)], .agg [.lit (.string [46]), .lit (.int .i64 5), .lit (.int .i64 7), .lit (.int .i64 1), .lit (.bool true)], .agg [.lit (.string [35]), .lit (.int .i64 5), .lit (.int .i64 7), .lit (.int .i64 1), .lit (.bool true)], .agg [.lit (.string [45, 62]), .lit (.int .i64 5), .lit (.int .i64 7), .lit (.int .i64 1), .lit (.bool true)], .agg [.lit (.string [94]), .lit (.int .i64 5), .lit (.int .i64 7), .lit (.int .i64 1), .lit (.bool false)], .agg [.lit (.string [63]), .lit (.int .i64 5), .lit (.int .i64 7), .lit (.int .i64 1), .lit (.bool true)], .agg [.lit (.string [33, 33]), .lit (.int .i64 5), .lit (.int .i64 7), .lit (.int .i64 1), .lit (.bool true)], .agg [.lit (.string [115, 105, 122, 101]), .lit (.int .i64 2), .lit (.int .i64 8), .lit (.int .i64 1), .lit (.bool false)], .agg [.lit (.string [102, 105, 114, 115, 116]), .lit (.int .i64 2), .lit (.int .i64 8), .lit (.int .i64 1), .lit (.bool false)], .agg [.lit (.string [116, 101, 120, 116]), .lit (.int .i64 2), .lit (.int .i64 8), .lit (.int .i64 1), .lit (.bool false)], .agg [.lit (.string [99, 111, 110, 99, 101, 112, 116]), .lit (.int .i64 2), .lit (.int .i64 8), .lit (.int .i64 1), .lit (.bool false)], .agg [.lit (.string [105, 100]), .lit (.int .i64 2), .lit (.int .i64 8), .lit (.int .i64 1), .lit (.bool false)], .agg [.lit (.string [105, 110, 116]), .lit (.int .i64 2), .lit (.int .i64 8), .lit (.int .i64 1), .lit (.bool false)], .agg [.lit (.string [43]), .lit (.int .i64 8), .lit (.int .i64 5), .lit (.int .i64 2), .lit (.bool false)], .agg [.lit (.string [45]), .lit (.int .i64 8), .lit (.int .i64 5), .lit (.int .i64 2), .lit (.bool false)], .agg [.lit (.string [42]), .lit (.int .i64 8), .lit (.int .i64 6), .lit (.int .i64 2), .lit (.bool false)], .agg [.lit (.string [61, 61]), .lit (.int .i64 7), .lit (.int .i64 4), .lit (.int .i64 2), .lit (.bool false)], .agg [.lit (.string [33, 61]), .lit (.int .i64 7), .lit (.int .i64 4), .lit (.int .i64 2), .lit (.bool false)], .agg [.lit (.string [60]), .lit (.int .i64 7), .lit (.int .i64 4), .lit (.int .i64 2), .lit (.bool false)], .agg [.lit (.string [60, 61]), .lit (.int .i64 7), .lit (.int .i64 4), .lit (.int .i64 2), .lit (.bool false)], .agg [.lit (.string [97, 110, 100]), .lit (.int .i64 8), .lit (.int .i64 2), .lit (.int .i64 2), .lit (.bool false)], .agg [.lit (.string [111, 114]), .lit (.int .i64 8), .lit (.int .i64 1), .lit (.int .i64 2), .lit (.bool false)], .agg [.lit (.string [110, 111, 116]), .lit (.int .i64 6), .lit (.int .i64 3), .lit (.int .i64 1), .lit (.bool false)], .agg [.lit (.string [105, 102]), .lit (.int .i64 3), .lit (.int .i64 8), .lit (.int .i64 3), .lit (.bool false)], .agg [.lit (.string [97, 110, 121]), .lit (.int .i64 4), .lit (.int .i64 8), .lit (.int .i64 2), .lit (.bool true)], .agg [.lit (.string [101, 118, 101, 114, 121]), .lit (.int .i64 4), .lit (.int .i64 8), .lit (.int .i64 2), .lit (.bool true)], .agg [.lit (.string [111, 110, 108, 121]), .lit (.int .i64 4), .lit (.int .i64 8), .lit (.int .i64 2), .lit (.bool true)], .agg [.lit (.string [115, 117, 109]), .lit (.int .i64 4), .lit (.int .i64 8), .lit (.int .i64 2), .lit (.bool true)]]

/-- 'topiarylaw08.ExprParses': WHATEVER THE INPUT: true; the input reads as it did. -/
def exprParsesSpec : ChangeSpec := { name := "exprParses", fn := fun _ => fun
  | [d] => { results := [.lit (.bool true)], args := [d] }
  | _ => none }
def exprParsesRow : OpenClaim := { program := "ytckfcpiedainfaagreatdoor", sum := "d57c6bba85f067f183a2ef509dde4593ef39daca81140a0107282cafe2b10a83", func := "topiary/topiarylaw08.ExprParses", spec := "exprParses", inPlace := ["internal/bytealg.IndexByteString"], unfollowed := true, recurses := true, named := ["topiary/lex.words", "strconv.ErrSyntax", "strconv.ErrRange", "internal/strconv.uint64pow10", "math/bits.deBruijn32tab", "math/bits.deBruijn64tab", "topiary/lex.marks", "topiary/expr.signs"], apart := false, laid := [("math/bits.deBruijn32tab", laid_math_bits_deBruijn32tab), ("math/bits.deBruijn64tab", laid_math_bits_deBruijn64tab), ("internal/strconv.uint64pow10", laid_internal_strconv_uint64pow10), ("strconv.ErrRange", laid_strconv_ErrRange), ("strconv.ErrSyntax", laid_strconv_ErrSyntax), ("topiary/lex.words", laid_topiary_lex_words), ("topiary/lex.marks", laid_topiary_lex_marks), ("topiary/expr.signs", laid_topiary_expr_signs)] }
def ExprParsesSaid : Prop := exprParsesRow.holds Tryz.pinned (OpenSpec.ofChange exprParsesSpec)

/-- ITS FALSE NEIGHBOUR: 'it returns false'. Refute it at one input. -/
def exprParsesWrong : ChangeSpec := { name := "exprParses", fn := fun _ => fun
  | [d] => { results := [.lit (.bool false)], args := [d] }
  | _ => none }
def ExprParsesWrongFalsely : Prop := exprParsesRow.holds Tryz.pinned (OpenSpec.ofChange exprParsesWrong)

/-- 'topiarylaw08.ExprBack': WHATEVER THE INPUT: true; the input reads as it did. -/
def exprBackSpec : ChangeSpec := { name := "exprBack", fn := fun _ => fun
  | [d] => { results := [.lit (.bool true)], args := [d] }
  | _ => none }
def exprBackRow : OpenClaim := { program := "ytckfcpiedainfaagreatdoor", sum := "d57c6bba85f067f183a2ef509dde4593ef39daca81140a0107282cafe2b10a83", func := "topiary/topiarylaw08.ExprBack", spec := "exprBack", inPlace := ["internal/bytealg.IndexByteString"], unfollowed := true, recurses := true, named := ["topiary/lex.words", "strconv.ErrSyntax", "strconv.ErrRange", "internal/strconv.uint64pow10", "math/bits.deBruijn32tab", "math/bits.deBruijn64tab", "topiary/lex.marks", "topiary/expr.signs"], apart := false, laid := [("math/bits.deBruijn32tab", laid_math_bits_deBruijn32tab), ("math/bits.deBruijn64tab", laid_math_bits_deBruijn64tab), ("internal/strconv.uint64pow10", laid_internal_strconv_uint64pow10), ("strconv.ErrRange", laid_strconv_ErrRange), ("strconv.ErrSyntax", laid_strconv_ErrSyntax), ("topiary/lex.words", laid_topiary_lex_words), ("topiary/lex.marks", laid_topiary_lex_marks), ("topiary/expr.signs", laid_topiary_expr_signs)] }
def ExprBackSaid : Prop := exprBackRow.holds Tryz.pinned (OpenSpec.ofChange exprBackSpec)

/-- ITS FALSE NEIGHBOUR: 'it returns false'. Refute it at one input. -/
def exprBackWrong : ChangeSpec := { name := "exprBack", fn := fun _ => fun
  | [d] => { results := [.lit (.bool false)], args := [d] }
  | _ => none }
def ExprBackWrongFalsely : Prop := exprBackRow.holds Tryz.pinned (OpenSpec.ofChange exprBackWrong)

/-- 'topiarylaw08.ExprSame': WHATEVER THE INPUT: true; the input reads as it did. -/
def exprSameSpec : ChangeSpec := { name := "exprSame", fn := fun _ => fun
  | [d] => { results := [.lit (.bool true)], args := [d] }
  | _ => none }
def exprSameRow : OpenClaim := { program := "ytckfcpiedainfaagreatdoor", sum := "d57c6bba85f067f183a2ef509dde4593ef39daca81140a0107282cafe2b10a83", func := "topiary/topiarylaw08.ExprSame", spec := "exprSame", inPlace := ["internal/bytealg.IndexByteString"], unfollowed := true, recurses := true, named := ["topiary/lex.words", "strconv.ErrSyntax", "strconv.ErrRange", "internal/strconv.uint64pow10", "math/bits.deBruijn32tab", "math/bits.deBruijn64tab", "topiary/lex.marks", "topiary/expr.signs"], apart := false, laid := [("math/bits.deBruijn32tab", laid_math_bits_deBruijn32tab), ("math/bits.deBruijn64tab", laid_math_bits_deBruijn64tab), ("internal/strconv.uint64pow10", laid_internal_strconv_uint64pow10), ("strconv.ErrRange", laid_strconv_ErrRange), ("strconv.ErrSyntax", laid_strconv_ErrSyntax), ("topiary/lex.words", laid_topiary_lex_words), ("topiary/lex.marks", laid_topiary_lex_marks), ("topiary/expr.signs", laid_topiary_expr_signs)] }
def ExprSameSaid : Prop := exprSameRow.holds Tryz.pinned (OpenSpec.ofChange exprSameSpec)

/-- ITS FALSE NEIGHBOUR: 'it returns false'. Refute it at one input. -/
def exprSameWrong : ChangeSpec := { name := "exprSame", fn := fun _ => fun
  | [d] => { results := [.lit (.bool false)], args := [d] }
  | _ => none }
def ExprSameWrongFalsely : Prop := exprSameRow.holds Tryz.pinned (OpenSpec.ofChange exprSameWrong)

/-- 'topiarylaw08.ExprBrackets': WHATEVER THE INPUT: true; the input reads as it did. -/
def exprBracketsSpec : ChangeSpec := { name := "exprBrackets", fn := fun _ => fun
  | [d] => { results := [.lit (.bool true)], args := [d] }
  | _ => none }
def exprBracketsRow : OpenClaim := { program := "ytckfcpiedainfaagreatdoor", sum := "d57c6bba85f067f183a2ef509dde4593ef39daca81140a0107282cafe2b10a83", func := "topiary/topiarylaw08.ExprBrackets", spec := "exprBrackets", inPlace := ["internal/bytealg.IndexByteString"], unfollowed := true, recurses := true, named := ["topiary/lex.words", "strconv.ErrSyntax", "strconv.ErrRange", "internal/strconv.uint64pow10", "math/bits.deBruijn32tab", "math/bits.deBruijn64tab", "topiary/lex.marks", "topiary/expr.signs"], apart := false, laid := [("math/bits.deBruijn32tab", laid_math_bits_deBruijn32tab), ("math/bits.deBruijn64tab", laid_math_bits_deBruijn64tab), ("internal/strconv.uint64pow10", laid_internal_strconv_uint64pow10), ("strconv.ErrRange", laid_strconv_ErrRange), ("strconv.ErrSyntax", laid_strconv_ErrSyntax), ("topiary/lex.words", laid_topiary_lex_words), ("topiary/lex.marks", laid_topiary_lex_marks), ("topiary/expr.signs", laid_topiary_expr_signs)] }
def ExprBracketsSaid : Prop := exprBracketsRow.holds Tryz.pinned (OpenSpec.ofChange exprBracketsSpec)

/-- ITS FALSE NEIGHBOUR: 'it returns false'. Refute it at one input. -/
def exprBracketsWrong : ChangeSpec := { name := "exprBrackets", fn := fun _ => fun
  | [d] => { results := [.lit (.bool false)], args := [d] }
  | _ => none }
def ExprBracketsWrongFalsely : Prop := exprBracketsRow.holds Tryz.pinned (OpenSpec.ofChange exprBracketsWrong)

/-- 'topiarylaw08.ExprParts': WHATEVER THE INPUT: true; the input reads as it did. -/
def exprPartsSpec : ChangeSpec := { name := "exprParts", fn := fun _ => fun
  | [d1, d2, d3] => { results := [.lit (.bool true)], args := [d1, d2, d3] }
  | _ => none }
def exprPartsRow : OpenClaim := { program := "ytckfcpiedainfaagreatdoor", sum := "d57c6bba85f067f183a2ef509dde4593ef39daca81140a0107282cafe2b10a83", func := "topiary/topiarylaw08.ExprParts", spec := "exprParts", inPlace := ["internal/bytealg.IndexByteString"], unfollowed := true, recurses := true, named := ["topiary/lex.words", "strconv.ErrSyntax", "strconv.ErrRange", "internal/strconv.uint64pow10", "math/bits.deBruijn32tab", "math/bits.deBruijn64tab", "topiary/lex.marks", "topiary/expr.signs"], apart := false, laid := [("math/bits.deBruijn32tab", laid_math_bits_deBruijn32tab), ("math/bits.deBruijn64tab", laid_math_bits_deBruijn64tab), ("internal/strconv.uint64pow10", laid_internal_strconv_uint64pow10), ("strconv.ErrRange", laid_strconv_ErrRange), ("strconv.ErrSyntax", laid_strconv_ErrSyntax), ("topiary/lex.words", laid_topiary_lex_words), ("topiary/lex.marks", laid_topiary_lex_marks), ("topiary/expr.signs", laid_topiary_expr_signs)] }
def ExprPartsSaid : Prop := exprPartsRow.holds Tryz.pinned (OpenSpec.ofChange exprPartsSpec)

/-- ITS FALSE NEIGHBOUR: 'it returns false'. Refute it at one input. -/
def exprPartsWrong : ChangeSpec := { name := "exprParts", fn := fun _ => fun
  | [d1, d2, d3] => { results := [.lit (.bool false)], args := [d1, d2, d3] }
  | _ => none }
def ExprPartsWrongFalsely : Prop := exprPartsRow.holds Tryz.pinned (OpenSpec.ofChange exprPartsWrong)

/- THE SECOND FORM. 'bulk': how many values and letters a reading holds, each counted each time it is reached (what is shared counts as often as it is met; a slice's spare places count too). A statement '..UptoSaid' is the law's where the arguments, and the package variables that the reading takes, are together of bulk at most 1048576: NARROWER than '..Said'. Prove '..Said' where nothing that the law and all that it calls make is longer than what came in: it says more and counts as full. Else prove '..UptoSaid'. A law counts once. -/
mutual
def uptoBulk {H : Type} : DataW H → Nat
  | .lit (.string bytes) => bytes.length + 1
  | .lit _ => 1
  | .nil => 1
  | .ptr d => uptoBulk d + 1
  | .slice elems spare => uptoBulkAll elems + uptoBulkAll spare + 1
  | .agg parts => uptoBulkAll parts + 1
  | .iface _ d => uptoBulk d + 1
  | .map entries => uptoBulkEntries entries + 1
  | .held _ => 1
def uptoBulkAll {H : Type} : List (DataW H) → Nat
  | [] => 0
  | d :: r => uptoBulk d + uptoBulkAll r
def uptoBulkEntries {H : Type} : List (Lit × DataW H) → Nat
  | [] => 0
  | x :: r => uptoBulkEntry x + uptoBulkEntries r
def uptoBulkEntry {H : Type} : Lit × DataW H → Nat
  | (.string bytes, d) => bytes.length + uptoBulk d + 1
  | (_, d) => uptoBulk d + 1
 end
def uptoSmall : (H : Type) → List (DataW H) → Bool := fun _ ds => decide (uptoBulkAll ds ≤ 1048576)
def OpenSpec.upto (s : _root_.Go.ChangeSpec) : _root_.Go.OpenSpec := { _root_.Go.OpenSpec.ofChange s with cond := some uptoSmall }

/-- 'topiarylaw08.ExprParses', WHERE WHAT IT READS IS OF BULK AT MOST 1048576: true; the input reads as it did. -/
def exprParsesUptoRow : OpenClaim := { program := "ytckfcpiedainfaagreatdoor", sum := "d57c6bba85f067f183a2ef509dde4593ef39daca81140a0107282cafe2b10a83", func := "topiary/topiarylaw08.ExprParses", spec := "exprParses", inPlace := ["internal/bytealg.IndexByteString"], unfollowed := true, recurses := true, named := ["topiary/lex.words", "strconv.ErrSyntax", "strconv.ErrRange", "internal/strconv.uint64pow10", "math/bits.deBruijn32tab", "math/bits.deBruijn64tab", "topiary/lex.marks", "topiary/expr.signs"], apart := false, laid := [("math/bits.deBruijn32tab", laid_math_bits_deBruijn32tab), ("math/bits.deBruijn64tab", laid_math_bits_deBruijn64tab), ("internal/strconv.uint64pow10", laid_internal_strconv_uint64pow10), ("strconv.ErrRange", laid_strconv_ErrRange), ("strconv.ErrSyntax", laid_strconv_ErrSyntax), ("topiary/lex.words", laid_topiary_lex_words), ("topiary/lex.marks", laid_topiary_lex_marks), ("topiary/expr.signs", laid_topiary_expr_signs)], narrowed := true }
def ExprParsesUptoSaid : Prop := exprParsesUptoRow.holds Tryz.pinned (OpenSpec.upto exprParsesSpec)

/-- 'topiarylaw08.ExprBack', WHERE WHAT IT READS IS OF BULK AT MOST 1048576: true; the input reads as it did. -/
def exprBackUptoRow : OpenClaim := { program := "ytckfcpiedainfaagreatdoor", sum := "d57c6bba85f067f183a2ef509dde4593ef39daca81140a0107282cafe2b10a83", func := "topiary/topiarylaw08.ExprBack", spec := "exprBack", inPlace := ["internal/bytealg.IndexByteString"], unfollowed := true, recurses := true, named := ["topiary/lex.words", "strconv.ErrSyntax", "strconv.ErrRange", "internal/strconv.uint64pow10", "math/bits.deBruijn32tab", "math/bits.deBruijn64tab", "topiary/lex.marks", "topiary/expr.signs"], apart := false, laid := [("math/bits.deBruijn32tab", laid_math_bits_deBruijn32tab), ("math/bits.deBruijn64tab", laid_math_bits_deBruijn64tab), ("internal/strconv.uint64pow10", laid_internal_strconv_uint64pow10), ("strconv.ErrRange", laid_strconv_ErrRange), ("strconv.ErrSyntax", laid_strconv_ErrSyntax), ("topiary/lex.words", laid_topiary_lex_words), ("topiary/lex.marks", laid_topiary_lex_marks), ("topiary/expr.signs", laid_topiary_expr_signs)], narrowed := true }
def ExprBackUptoSaid : Prop := exprBackUptoRow.holds Tryz.pinned (OpenSpec.upto exprBackSpec)

/-- 'topiarylaw08.ExprSame', WHERE WHAT IT READS IS OF BULK AT MOST 1048576: true; the input reads as it did. -/
def exprSameUptoRow : OpenClaim := { program := "ytckfcpiedainfaagreatdoor", sum := "d57c6bba85f067f183a2ef509dde4593ef39daca81140a0107282cafe2b10a83", func := "topiary/topiarylaw08.ExprSame", spec := "exprSame", inPlace := ["internal/bytealg.IndexByteString"], unfollowed := true, recurses := true, named := ["topiary/lex.words", "strconv.ErrSyntax", "strconv.ErrRange", "internal/strconv.uint64pow10", "math/bits.deBruijn32tab", "math/bits.deBruijn64tab", "topiary/lex.marks", "topiary/expr.signs"], apart := false, laid := [("math/bits.deBruijn32tab", laid_math_bits_deBruijn32tab), ("math/bits.deBruijn64tab", laid_math_bits_deBruijn64tab), ("internal/strconv.uint64pow10", laid_internal_strconv_uint64pow10), ("strconv.ErrRange", laid_strconv_ErrRange), ("strconv.ErrSyntax", laid_strconv_ErrSyntax), ("topiary/lex.words", laid_topiary_lex_words), ("topiary/lex.marks", laid_topiary_lex_marks), ("topiary/expr.signs", laid_topiary_expr_signs)], narrowed := true }
def ExprSameUptoSaid : Prop := exprSameUptoRow.holds Tryz.pinned (OpenSpec.upto exprSameSpec)

/-- 'topiarylaw08.ExprBrackets', WHERE WHAT IT READS IS OF BULK AT MOST 1048576: true; the input reads as it did. -/
def exprBracketsUptoRow : OpenClaim := { program := "ytckfcpiedainfaagreatdoor", sum := "d57c6bba85f067f183a2ef509dde4593ef39daca81140a0107282cafe2b10a83", func := "topiary/topiarylaw08.ExprBrackets", spec := "exprBrackets", inPlace := ["internal/bytealg.IndexByteString"], unfollowed := true, recurses := true, named := ["topiary/lex.words", "strconv.ErrSyntax", "strconv.ErrRange", "internal/strconv.uint64pow10", "math/bits.deBruijn32tab", "math/bits.deBruijn64tab", "topiary/lex.marks", "topiary/expr.signs"], apart := false, laid := [("math/bits.deBruijn32tab", laid_math_bits_deBruijn32tab), ("math/bits.deBruijn64tab", laid_math_bits_deBruijn64tab), ("internal/strconv.uint64pow10", laid_internal_strconv_uint64pow10), ("strconv.ErrRange", laid_strconv_ErrRange), ("strconv.ErrSyntax", laid_strconv_ErrSyntax), ("topiary/lex.words", laid_topiary_lex_words), ("topiary/lex.marks", laid_topiary_lex_marks), ("topiary/expr.signs", laid_topiary_expr_signs)], narrowed := true }
def ExprBracketsUptoSaid : Prop := exprBracketsUptoRow.holds Tryz.pinned (OpenSpec.upto exprBracketsSpec)

/-- 'topiarylaw08.ExprParts', WHERE WHAT IT READS IS OF BULK AT MOST 1048576: true; the input reads as it did. -/
def exprPartsUptoRow : OpenClaim := { program := "ytckfcpiedainfaagreatdoor", sum := "d57c6bba85f067f183a2ef509dde4593ef39daca81140a0107282cafe2b10a83", func := "topiary/topiarylaw08.ExprParts", spec := "exprParts", inPlace := ["internal/bytealg.IndexByteString"], unfollowed := true, recurses := true, named := ["topiary/lex.words", "strconv.ErrSyntax", "strconv.ErrRange", "internal/strconv.uint64pow10", "math/bits.deBruijn32tab", "math/bits.deBruijn64tab", "topiary/lex.marks", "topiary/expr.signs"], apart := false, laid := [("math/bits.deBruijn32tab", laid_math_bits_deBruijn32tab), ("math/bits.deBruijn64tab", laid_math_bits_deBruijn64tab), ("internal/strconv.uint64pow10", laid_internal_strconv_uint64pow10), ("strconv.ErrRange", laid_strconv_ErrRange), ("strconv.ErrSyntax", laid_strconv_ErrSyntax), ("topiary/lex.words", laid_topiary_lex_words), ("topiary/lex.marks", laid_topiary_lex_marks), ("topiary/expr.signs", laid_topiary_expr_signs)], narrowed := true }
def ExprPartsUptoSaid : Prop := exprPartsUptoRow.holds Tryz.pinned (OpenSpec.upto exprPartsSpec)

end Rows
end Go.Proofs.YtckfcpiedainfaaGreatDoor
