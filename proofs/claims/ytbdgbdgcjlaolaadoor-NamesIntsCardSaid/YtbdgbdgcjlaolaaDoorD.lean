/-
  THE LIBRARY's VARIABLES as the rows list them: what that gives the walks; a start in which they lie so.
-/
import Derived.Test.YtbdgbdgcjlaolaaDoorN6
import Derived.Test.YtbdgbdgcjlaolaaDoorCards
import Derived.Test.YtbdgbdgcjlaolaaDoorTie
import Derived.ProofKit
import Derived.OpenShut
import Derived.Deep.DeepHandedRow
import Derived.Deep.DeepWitnessRowRef
import Derived.Stop.LaidErr
import Derived.SizedLaws
namespace Go.Proofs.YtbdgbdgcjlaolaaDoor
open Go Go.ChangeShapes Go.WideShapes Go.ChangeAt Go.RowKit
set_option linter.unusedVariables false

theorem own : ownKnob Tryd.prog.godebug = none := by kernel_rfl
theorem gSynType : (Tryd.prog.globals[0]?).map (·.type) = some 43 := by kernel_rfl
theorem gRngType : (Tryd.prog.globals[1]?).map (·.type) = some 43 := by kernel_rfl
theorem gTabType : (Tryd.prog.globals[2]?).map (·.type) = some 73 := by kernel_rfl
theorem cellsES : Tryd.prog.cellsOf 82 = 1 := by kernel_rfl
theorem cellsStr : Tryd.prog.cellsOf 9 = 1 := by kernel_rfl
theorem starName : "*" ++ "errors.errorString" = "*errors.errorString" := by decide
theorem rowES (u : TypeId) (h : Tryd.prog.typeName? 3 u = some "*errors.errorString") : u = 80 :=
  typeName_ptr_named (nm := "errors.errorString") (by rw [starName]; kernel_rfl) (by kernel_rfl) (by decide) u (by rw [starName]; exact h)
theorem cellsU64 : Tryd.prog.cellsOf 46 = 1 := by kernel_rfl
theorem cellsTab : Tryd.prog.cellsOf 73 = 20 := by kernel_rfl

/-- what a row's list gives -/
theorem env_of {W : World} (h : laidMetH Tryd.prog Rows.namesTellRow.laid W) : Env W := by
  have h1 := laidMet.tail (laidMet.tail h)
  have h2 := laidMet.tail h1
  have h3 := laidMet.tail h2
  refine ⟨?_, ?_, ?_⟩
  · obtain ⟨a, s, hv, _, _, _⟩ := laid_sentinel h3 gSyn gSynType Tryd.underlying43 rowES Tryd.underlying80 Tryd.underlying82 rfl rfl Tryd.underlying9 cellsES cellsStr
    exact ⟨_, _, hv⟩
  · obtain ⟨a, s, hv, _, _, _⟩ := laid_sentinel h2 gRng gRngType Tryd.underlying43 rowES Tryd.underlying80 Tryd.underlying82 rfl rfl Tryd.underlying9 cellsES cellsStr
    exact ⟨_, _, hv⟩
  · exact Lib.tabIs_of_head (zs := Lib.pow10Tab) gTab gTabType Tryd.underlying73 Tryd.underlying46 cellsU64 cellsTab h1

/-- so many blocks has the settled world -/
noncomputable def low : Nat := (World.holding Tryd.prog default ⟨#[], #[], []⟩).heap.size
def textRange : ByteArray := ⟨#[118, 97, 108, 117, 101, 32, 111, 117, 116, 32, 111, 102, 32, 114, 97, 110, 103, 101]⟩
def textSyntax : ByteArray := ⟨#[105, 110, 118, 97, 108, 105, 100, 32, 115, 121, 110, 116, 97, 120]⟩
def put (cs : Array Value) : Obj → Obj
  | .cells _ t frozen => .cells cs t frozen
  | o => o
/-- a start: the settled world, the listed variables as their initialisers lay them -/
noncomputable def laidWorld (os : Os) : World :=
  let w0 := World.holding Tryd.prog os ⟨#[.cells #[.string textRange] 82, .cells #[.string textSyntax] 82], #[], []⟩
  { w0 with heap := (((((w0.heap.modify 1 (put #[.iface 80 (.pointer (some ⟨low, 0, none⟩))])).modify 0 (put #[.iface 80 (.pointer (some ⟨low + 1, 0, none⟩))])).modify 2 (put (Lib.pow10Tab.map (Value.int .u64)).toArray)).modify 3 (put (([0, 1, 28, 2, 29, 14, 24, 3, 30, 22, 20, 15, 25, 17, 4, 8, 31, 27, 13, 23, 21, 19, 16, 7, 26, 12, 18, 6, 11, 5, 10, 9] : List Int).map (Value.int .u8)).toArray)).modify 4 (put (([0, 1, 56, 2, 57, 49, 28, 3, 61, 58, 42, 50, 38, 29, 17, 4, 62, 47, 59, 36, 45, 43, 51, 22, 53, 39, 33, 30, 24, 18, 12, 5, 63, 55, 48, 27, 60, 41, 37, 16, 46, 35, 44, 21, 52, 32, 23, 11, 54, 26, 40, 15, 34, 20, 31, 10, 25, 14, 19, 9, 13, 8, 7, 6] : List Int).map (Value.int .u8)).toArray)) }
theorem laid_met (os : Os) (args : Array Value) : laidMet Tryd.prog Rows.namesTellRow.laid ((laidWorld os).forCall (fun _ _ => 0) ⟨#[], args, []⟩).memory :=
  laidMet_of_run' 8 (by kernel_rfl) (by kernel_rfl)

/-- the form's reach: a text's length -/
theorem reach_of {H : Type} {ts : List TypeId} {ds : List (DataW H)} (h : (DataW.weightsEach Tryd.prog ts ds).all (· ≤ reachBytes) = true) {j : Nat} {t : TypeId} {s : ByteArray} (ht : ts[j]? = some t) (hd : ds[j]? = some (.lit (.string s.data.toList))) : s.size ≤ 140737488351232 := by
  have := sized_string h ht hd
  rw [toList_eq] at this
  exact this
end Go.Proofs.YtbdgbdgcjlaolaaDoor
