/-
  ACTS AS ARGUMENTS: what the reading of them tells of the cells.
-/
import Derived.Test.YtohinklkcinjpaaGreatZR27
namespace Go.Proofs.YtohinklkcinjpaaGreat
open Go Go.RowKit Go.Sort Go.ChangeShapes Go.WideShapes Go.Deep Go.Joins
set_option linter.unusedVariables false
instance acInhabited : Inhabited Ac := ⟨⟨0, 0, 0, 0, ByteArray.empty, ByteArray.empty⟩⟩
section
variable {H : Type} {enc : TypeId × Value → H} {w : World} {base : Nat} {spare : Nat → Bool} {held : Bool}
/-- a struct of one-cell fields: each field's cell, with its reading -/
theorem fields_of {P : Program} {e : TypeId} {fs : Array Field} {fuel : Nat} {cs : List Value} {x : DataW H × List MemPlace} (he : P.underlying e = some (.struct fs)) (hone : oneCellFields P fs = true) (hlen : cs.length = fs.size)
    (h : DataW.trod enc P w base spare held fuel e cs = some x) :
    ∃ n, ∀ (j : Nat) (f : Field), fs[j]? = some f → ∃ (v : Value) (y : DataW H × List MemPlace), cs[j]? = some v ∧ DataW.trod enc P w base spare held n f.type [v] = some y := by
  obtain ⟨ys, n, _, rfl, hl, hys, hf⟩ := DataW.trod_struct he h
  refine ⟨n, fun j f hj => ?_⟩
  have hjs : j < fs.size := (Array.getElem?_eq_some_iff.1 hj).1
  have hjl : j < cs.length := by omega
  have hjy : j < ys.length := by omega
  obtain ⟨o1, o2⟩ := hone_of hone j f hj
  have h1 := hf j f hj
  rw [o1, o2, List.drop_eq_getElem_cons hjl, List.take_succ_cons, List.take_zero, List.getElem?_eq_getElem hjy] at h1
  exact ⟨cs[j], ys[j], List.getElem?_eq_getElem hjl, h1⟩
theorem act_cells {fuel : Nat} {cs : List Value} {x : DataW H × List MemPlace} (hlen : cs.length = 6) (h : DataW.trod enc Tryz.prog w base spare held fuel 32 cs = some x) : ∃ y : Ac, cs = acCells y ∧ SzA y := by
  obtain ⟨n, hf⟩ := fields_of Tryz.underlying32 (by kernel_rfl) (by rw [hlen]; rfl) h
  match cs, hlen with
  | [k0, k1, k2, k3, k4, k5], _ =>
    obtain ⟨v0, y0, c0, t0⟩ := hf 0 _ rfl
    obtain ⟨v1, y1, c1, t1⟩ := hf 1 _ rfl
    obtain ⟨v2, y2, c2, t2⟩ := hf 2 _ rfl
    obtain ⟨v3, y3, c3, t3⟩ := hf 3 _ rfl
    obtain ⟨v4, y4, c4, t4⟩ := hf 4 _ rfl
    obtain ⟨v5, y5, c5, t5⟩ := hf 5 _ rfl
    obtain ⟨i0, e0, _, _⟩ := DataW.trod_int Tryz.underlying3 t0
    obtain ⟨i1, e1, _, _⟩ := DataW.trod_int Tryz.underlying3 t1
    obtain ⟨i2, e2, _, _⟩ := DataW.trod_int Tryz.underlying3 t2
    obtain ⟨i3, e3, _, _⟩ := DataW.trod_int Tryz.underlying3 t3
    obtain ⟨s4, e4, _, z4⟩ := DataW.trod_string Tryz.underlying9 t4
    obtain ⟨s5, e5, _, z5⟩ := DataW.trod_string Tryz.underlying9 t5
    simp at c0 c1 c2 c3 c4 c5 e0 e1 e2 e3 e4 e5
    subst c0 c1 c2 c3 c4 c5
    subst e0 e1 e2 e3 e4 e5
    exact ⟨⟨i0, i1, i2, i3, s4, s5⟩, rfl, z4, z5⟩
set_option maxRecDepth 20000 in
/-- a list of acts handed in, opened -/
theorem acts_open {r : Reach} {b0 : Nat} {v : Value} {d : DataW H} {p : List MemPlace} (hv : Value.okWide Tryz.prog w r b0 22 v) (h : DataW.Trod enc Tryz.prog w base spare held 22 v d p) :
    ∃ (A : Option Addr) (n c : Nat) (l : List Ac), v = .slice A n c ∧ ActsIn w w.heap.size A n c l := by
  obtain ⟨A0, n0, c0, rfl⟩ := okWide_slice Tryz.underlying22 hv
  obtain ⟨fuel, hf⟩ := h
  have h6 : Tryz.prog.cellsOf 32 = 6 := by kernel_rfl
  rcases open_slice Tryz.underlying22 hf with ⟨hv, _⟩ | ⟨a, len, cap, m, n, D, Pl, hv, hb, hl, hm, hmm, _, hx⟩
  · have hv' : (Value.slice A0 n0 c0) = .slice none 0 0 := by simpa [Value.cells] using hv
    exact ⟨none, 0, 0, [], hv', Row.nil _ _ _ _, rfl, by simp⟩
  · have hv' : (Value.slice A0 n0 c0) = .slice (some a) len cap := by simpa [Value.cells] using hv
    have hle := spare_le hl hmm
    obtain ⟨F, hF⟩ := choose_lt (α := Ac) (n := len) (p := fun i q => (∀ r u, (acCells q)[r]? = some u → w.cell? (a.add (i * 6 + r)) = some u) ∧ SzA q) (fun i hi => by
      obtain ⟨cs', h1, h2⟩ := hx i (by omega)
      obtain ⟨_, hlen, hat⟩ := World.cells?_some h1
      rw [h6] at hlen
      obtain ⟨y, rfl, hz⟩ := act_cells hlen h2
      refine ⟨y, fun r u hr => ?_, hz⟩
      have hr6 : r < 6 := (List.getElem?_eq_some_iff.1 hr).1
      have := hat r (by rw [h6]; exact hr6)
      rw [h6, Go.Deep.add_add] at this
      rw [this]; exact hr)
    have hg : ∀ i p, ((List.range len).map F)[i]? = some p → i < len ∧ p = F i := by
      intro i p hp
      rw [List.getElem?_map] at hp
      obtain ⟨j, hj, rfl⟩ := Option.map_eq_some_iff.1 hp
      obtain ⟨h1, h2⟩ := List.getElem?_eq_some_iff.1 hj
      rw [List.getElem_range] at h2
      subst h2
      exact ⟨by simpa using h1, rfl⟩
    refine ⟨some a, len, cap, (List.range len).map F, hv', ?_, by simp, fun x hx => ?_⟩
    · have := row_of (w := w) (base := base) (n := len) (c := cap) (size := 6) (a := a) (xs := actsCells ((List.range len).map F)) (by unfold actsCells; rw [flatN_len (s := 6) (fun _ => rfl)]; simp) (by omega) hl hm hb
        (flat_cells (s := 6) (fun _ => rfl) (by omega) _ a (fun i p hp r u hr => by
          obtain ⟨hi, rfl⟩ := hg i p hp
          exact (hF i hi).1 r u hr))
      exact this.mono (Nat.zero_le _) (Nat.le_refl _)
    · obtain ⟨i, hi⟩ := List.getElem?_of_mem hx
      obtain ⟨h1, rfl⟩ := hg i x hi
      exact (hF i h1).2
end
end Go.Proofs.YtohinklkcinjpaaGreat
