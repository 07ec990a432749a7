/-
  THE ROW OF LexJoins: what its five variables give, and how great a copy of its tokens is.
-/
import Derived.Test.YtinhlemebnlijaaDoorYF
import Derived.Test.YtinhlemebnlijaaDoorZ5
namespace Go.Proofs.YtinhlemebnlijaaDoor
open Go Go.RowKit Go.ChangeShapes Go.WideShapes Go.ChangeAt Go.Deep
set_option linter.unusedVariables false
theorem env_of5 {W : World} (h : laidMetH Tryd.prog Rows.lexJoinsRow.laid W) : LexEnv W := by
  have h1 := laidMet.tail (laidMet.tail h)
  have h2 := laidMet.tail h1
  have h3 := laidMet.tail h2
  have htab : Lib.TabIs Tryd.prog W "internal/strconv.uint64pow10" .u64 Lib.pow10Tab := Lib.tabIs_of_head (zs := Lib.pow10Tab) gTab gTabType Tryd.underlying114 Tryd.underlying91 cellsU64 cellsTab h1
  exact ⟨htab, strs_of_head (l := wordsL) gWords gWordsType Tryd.underlying88 Tryd.underlying9 cellsStr cellsWords h2, strs_of_head (l := marksL) gMarks gMarksType Tryd.underlying84 Tryd.underlying9 cellsStr cellsMarks h3⟩
theorem laid_met5 (os : Os) (args : Array Value) : laidMet Tryd.prog Rows.lexJoinsRow.laid ((laidWorld os).forCall (fun _ _ => 0) ⟨#[], args, []⟩).memory :=
  laidMet_of_run' 8 (by kernel_rfl) (by kernel_rfl)
theorem bytesTok : Tryd.prog.bytesOf 30 = 40 := by kernel_rfl
section
variable {H : Type} {enc : TypeId × Value → H} {w : World} {base : Nat} {spare : Nat → Bool} {held : Bool}
theorem toks_room {v : Value} {d : DataW H} {p : List MemPlace} {A : Option Addr} {n c : Nat} (h : DataW.Trod enc Tryd.prog w base spare held 22 v d p) (e : v = .slice A n c)
    (hz : ∀ m ∈ d.weights Tryd.prog 22, m ≤ 140737488351232) : n * 40 ≤ 140737488355328 := by
  subst e
  obtain ⟨fuel, hf⟩ := h
  rcases open_slice Tryd.underlying22 hf with ⟨hv, _⟩ | ⟨a, len, cap, m, k, D, Pl, hv, hb, hl, hm, hmm, hd, hx⟩
  · have hv' : (Value.slice A n c) = .slice none 0 0 := by simpa [Value.cells] using hv
    injection hv' with _ h2 _
    omega
  · have hv' : (Value.slice A n c) = .slice (some a) len cap := by simpa [Value.cells] using hv
    injection hv' with _ h2 _
    subst h2
    have hd' : d = .slice ((List.range n).map D) ((List.range (m - n)).map fun j => D (n + j)) := congrArg Prod.fst hd
    have := hz ((n + (m - n)) * 40) (by
      rw [hd']
      simp only [DataW.weights, Tryd.underlying22, List.length_map, List.length_range, bytesTok]
      exact List.mem_cons_self)
    have h3 : n * 40 ≤ (n + (m - n)) * 40 := Nat.mul_le_mul_right _ (by omega)
    omega
end
end Go.Proofs.YtinhlemebnlijaaDoor
