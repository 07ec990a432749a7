/-
  PLAIN: some texts, scanned and joined. No program stands in it.
-/
import Derived.Test.YtinhlemebnlijaaDoorY12
import Derived.KernelRfl
namespace Go.Proofs.YtinhlemebnlijaaDoor
open Go
set_option linter.unusedVariables false
def awT : List Tok := [⟨4, ⟨#[115, 101, 108, 102]⟩, 0, 0⟩, ⟨5, ⟨#[46]⟩, 0, 4⟩, ⟨3, ⟨#[97]⟩, 0, 5⟩, ⟨5, ⟨#[45, 62]⟩, 0, 6⟩, ⟨3, ⟨#[98]⟩, 0, 8⟩]
theorem aw1 : scanR [115, 101, 108, 102, 46, 97, 45, 62, 98] = (awT, 0, 0) := by kernel_rfl
theorem aw2 : scanR [97, 32, 61, 32, 98] = ([], 3, 70) := by kernel_rfl
theorem aw3 : scanR [48, 48, 55] = ([], 1, 70) := by kernel_rfl
theorem aw4 : joinR [⟨1, ⟨#[]⟩, 12, 0⟩, ⟨5, ⟨#[45, 62]⟩, 0, 0⟩, ⟨2, ⟨#[97]⟩, 0, 0⟩] = ([49, 50, 32, 45, 62, 32, 34, 97, 34], 0) := by kernel_rfl
theorem aw5 : joinR [⟨3, ⟨#[110, 111, 116]⟩, 0, 0⟩] = ([], 2) := by kernel_rfl
end Go.Proofs.YtinhlemebnlijaaDoor
