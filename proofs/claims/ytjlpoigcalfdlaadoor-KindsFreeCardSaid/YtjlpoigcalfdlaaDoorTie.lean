/-
  DERIVED. GIVEN WITH THE SEED: THE PROGRAM's TIES (one call each: nine closed facts by the kernel) AND EACH ROW's TIE, after the 31st guide's Derived/Test/Toyas{Tie, Card}.lean. No idea stands in it: it is a product of the set-up. Laid BY PROGRAM, IN A SANDBOX (cutbox-door.mjs). By AI agents, Wed Nov 11 2026. No macro, syntax, notation, axiom, sorry.
-/
import Derived.Test.YtjlpoigcalfdlaaDoorRows
import Derived.LaidByTextLater
import Derived.SevenTiedAt
import Derived.LaidSub
import Derived.LaidOnce
namespace Go.Proofs.YtjlpoigcalfdlaaDoor
open Go
set_option maxRecDepth 100000
theorem seatTie1 : Tryd.prog.laidByTextLater [("math/bits.deBruijn32tab", Rows.laid_math_bits_deBruijn32tab), ("math/bits.deBruijn64tab", Rows.laid_math_bits_deBruijn64tab), ("internal/strconv.uint64pow10", Rows.laid_internal_strconv_uint64pow10), ("topiary/lex.words", Rows.laid_topiary_lex_words), ("topiary/lex.marks", Rows.laid_topiary_lex_marks), ("topiary/expr.signs", Rows.laid_topiary_expr_signs), ("topiary/kinds.rows", Rows.laid_topiary_kinds_rows)] [.data, .data, .data, .data, .data, .data, .data] true :=
  Program.laidByTextLater_by_one 112 8 176 (by kernel_rfl) (by kernel_rfl) (by kernel_rfl) (by kernel_rfl) (by kernel_rfl) (by kernel_rfl) (fun _ _ => by kernel_rfl)
theorem seatTie2 : Tryd.prog.laidByTextLater [("math/bits.deBruijn32tab", Rows.laid_math_bits_deBruijn32tab), ("math/bits.deBruijn64tab", Rows.laid_math_bits_deBruijn64tab), ("internal/strconv.uint64pow10", Rows.laid_internal_strconv_uint64pow10), ("topiary/lex.words", Rows.laid_topiary_lex_words), ("topiary/lex.marks", Rows.laid_topiary_lex_marks), ("topiary/expr.signs", Rows.laid_topiary_expr_signs)] [.data, .data, .data, .data, .data, .data] true :=
  Program.laidByTextLater_by_one 112 8 176 (by kernel_rfl) (by kernel_rfl) (by kernel_rfl) (by kernel_rfl) (by kernel_rfl) (by kernel_rfl) (fun _ _ => by kernel_rfl)
theorem noOwnUnsafe : Tryd.pinned.checked.prog.headLifts.contains "ownunsafe" = false := by kernel_rfl
theorem tie : Tryd.prog.laidByTextLater [("math/bits.deBruijn32tab", Rows.laid_math_bits_deBruijn32tab), ("math/bits.deBruijn64tab", Rows.laid_math_bits_deBruijn64tab), ("internal/strconv.uint64pow10", Rows.laid_internal_strconv_uint64pow10), ("topiary/lex.words", Rows.laid_topiary_lex_words), ("topiary/lex.marks", Rows.laid_topiary_lex_marks), ("topiary/expr.signs", Rows.laid_topiary_expr_signs), ("topiary/kinds.rows", Rows.laid_topiary_kinds_rows)] [.data, .data, .data, .data, .data, .data, .data] true :=
  Program.laidByTextLater.sub seatTie1 ["math/bits.deBruijn32tab", "math/bits.deBruijn64tab", "internal/strconv.uint64pow10", "topiary/lex.words", "topiary/lex.marks", "topiary/expr.signs", "topiary/kinds.rows"] (by kernel_rfl) (by kernel_rfl)
theorem kindsOf_row_tie : Rows.kindsOfRow.laidByTextAt .later Tryd.pinned [.data, .data, .data, .data, .data, .data, .data] true :=
  OpenClaim.laidByTextAt_later rfl rfl tie noOwnUnsafe
theorem tie2 : Tryd.prog.laidByTextLater [("math/bits.deBruijn32tab", Rows.laid_math_bits_deBruijn32tab), ("math/bits.deBruijn64tab", Rows.laid_math_bits_deBruijn64tab), ("internal/strconv.uint64pow10", Rows.laid_internal_strconv_uint64pow10), ("topiary/lex.words", Rows.laid_topiary_lex_words), ("topiary/lex.marks", Rows.laid_topiary_lex_marks), ("topiary/expr.signs", Rows.laid_topiary_expr_signs)] [.data, .data, .data, .data, .data, .data] true :=
  Program.laidByTextLater.sub seatTie2 ["math/bits.deBruijn32tab", "math/bits.deBruijn64tab", "internal/strconv.uint64pow10", "topiary/lex.words", "topiary/lex.marks", "topiary/expr.signs"] (by kernel_rfl) (by kernel_rfl)
theorem kindsFree_row_tie : Rows.kindsFreeRow.laidByTextAt .later Tryd.pinned [.data, .data, .data, .data, .data, .data] true :=
  OpenClaim.laidByTextAt_later rfl rfl tie2 noOwnUnsafe
theorem kindsOfUpto_row_tie : Rows.kindsOfUptoRow.laidByTextAt .later Tryd.pinned [.data, .data, .data, .data, .data, .data, .data] true :=
  OpenClaim.laidByTextAt_later rfl rfl tie noOwnUnsafe
theorem kindsFreeUpto_row_tie : Rows.kindsFreeUptoRow.laidByTextAt .later Tryd.pinned [.data, .data, .data, .data, .data, .data] true :=
  OpenClaim.laidByTextAt_later rfl rfl tie2 noOwnUnsafe
end Go.Proofs.YtjlpoigcalfdlaaDoor
