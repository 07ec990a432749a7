/-
  NUMBERS AS AN ARGUMENT: what the reading of them tells of the cells.
-/
import Derived.Test.YtinhlemebnlijaaDoorYF
namespace Go.Proofs.YtinhlemebnlijaaDoor
open Go Go.RowKit Go.ChangeShapes Go.WideShapes Go.Deep
set_option linter.unusedVariables false
section
variable {H : Type} {enc : TypeId × Value → H} {w : World} {base : Nat} {spare : Nat → Bool} {held : Bool}
set_option maxRecDepth 20000 in
/-- a list of numbers handed in, opened -/
theorem ints_open {r : Reach} {b0 : Nat} {v : Value} {d : DataW H} {p : List MemPlace} (hv : Value.okWide Tryd.prog w r b0 41 v) (h : DataW.Trod enc Tryd.prog w base spare held 41 v d p) :
    ∃ (A : Option Addr) (n c : Nat) (l : List Int), v = .slice A n c ∧ Row w 0 w.heap.size 1 A n c (intCells l) := by
  obtain ⟨A0, n0, c0, rfl⟩ := okWide_slice Tryd.underlying41 hv
  obtain ⟨fuel, hf⟩ := h
  rcases open_ints Tryd.underlying41 Tryd.underlying3 (by kernel_rfl) hf with ⟨hv, _⟩ | ⟨a, len, cap, zs, hv, hb, hl, hm, hz, _, hc, _⟩
  · have hv' : (Value.slice A0 n0 c0) = .slice none 0 0 := by simpa [Value.cells] using hv
    exact ⟨none, 0, 0, [], hv', Row.nil _ _ _ _⟩
  · have hv' : (Value.slice A0 n0 c0) = .slice (some a) len cap := by simpa [Value.cells] using hv
    have hle : len ≤ zs.length := by rw [hz]; split <;> omega
    have hlt : (zs.take len).length = len := by rw [List.length_take]; omega
    refine ⟨some a, len, cap, zs.take len, hv', ?_⟩
    have := row_of (w := w) (base := base) (n := len) (c := cap) (size := 1) (a := a) (xs := intCells (zs.take len)) (by rw [intCells_length, hlt]; omega) (by omega) hl hm hb (fun j u hu => by
      unfold intCells at hu
      rw [List.getElem?_map] at hu
      obtain ⟨z, hz', rfl⟩ := Option.map_eq_some_iff.1 hu
      have hj : j < len := by rw [← hlt]; exact (List.getElem?_eq_some_iff.1 hz').1
      rw [List.getElem?_take_of_lt hj] at hz'
      have := hc j (by omega)
      rwa [List.getD_eq_getElem?_getD, hz'] at this)
    exact this.mono (Nat.zero_le _) (Nat.le_refl _)
end
end Go.Proofs.YtinhlemebnlijaaDoor
