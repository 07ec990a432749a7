/-
  A MODEL AS AN ARGUMENT: what the reading of it tells of the cells, and how long its lists are.
  ACTS AS ARGUMENTS: what the reading of them tells of the cells.
-/
import Derived.Test.YtohinklkcinjpaaGreatZB27
import Derived.Test.YtohinklkcinjpaaGreatRows
import Derived.Deep.Slices
import Derived.Deep.SlicePairs
import Derived.Deep.Fields
import Derived.ChangeSame
import Derived.ChangeSlices
import Derived.Lib.SmallJoins
import Derived.Carry
namespace Go.Proofs.YtohinklkcinjpaaGreat
open Go Go.RowKit Go.Sort Go.ChangeShapes Go.WideShapes Go.Deep Go.Joins
set_option linter.unusedVariables false
theorem cell_spot {w : World} {a : Addr} {u : Value} (h : w.cell? a = some u) : a.spot = none := by
  unfold World.cell? at h
  split at h
  · split at h
    · cases h
    · rename_i hs
      cases ha : a.spot with
      | none => rfl
      | some k => rw [ha] at hs; simp at hs
  · cases h
theorem add_zero_ (a : Addr) : a.add 0 = a := by unfold Addr.add; simp
theorem addr_plain {a : Addr} (h : a.spot = none) : a = ⟨a.block, a.off, none⟩ := by
  obtain ⟨b, o, s⟩ := a
  obtain rfl : s = none := h
  rfl
/-- cells of an own kind, by the elements' index -/
theorem flat_cells {α : Type} {w : World} {f : α → List Value} {s : Nat} (hs : ∀ a, (f a).length = s) (h0 : 0 < s) (l : List α) (a : Addr)
    (h : ∀ i p, l[i]? = some p → ∀ r u, (f p)[r]? = some u → w.cell? (a.add (i * s + r)) = some u) : ∀ j u, (l.flatMap f)[j]? = some u → w.cell? (a.add j) = some u := by
  intro j u hj
  have hl : j < l.length * s := by rw [← flatN_len hs l]; exact (List.getElem?_eq_some_iff.1 hj).1
  have hd : j / s < l.length := Nat.div_lt_of_lt_mul (by rwa [Nat.mul_comm] at hl)
  have hr : j % s < s := Nat.mod_lt _ h0
  have he : j / s * s + j % s = j := by rw [Nat.mul_comm]; exact Nat.div_add_mod j s
  have hp : l[j / s]? = some l[j / s] := List.getElem?_eq_getElem hd
  have := h (j / s) _ hp (j % s) u (by rw [← flatN_get hs l (j / s) _ hp _ hr, he]; exact hj)
  rwa [he] at this
theorem row_of {w : World} {base n c size : Nat} {a : Addr} {xs : List Value} (hlen : xs.length = n * size) (h0 : 0 < size) (hn : n ≤ c) (hm : c ≤ maxLen) (hb : base ≤ a.block)
    (hc : ∀ j u, xs[j]? = some u → w.cell? (a.add j) = some u) : Row w base w.heap.size size (some a) n c xs := by
  refine ⟨hlen, hn, hm, fun hp => ?_⟩
  have hl : 0 < xs.length := by rw [hlen]; exact Nat.mul_pos hp h0
  have h1 := hc 0 _ (List.getElem?_eq_getElem hl)
  rw [add_zero_] at h1
  have ha := addr_plain (cell_spot h1)
  have hlt := block_lt_of_cell h1
  refine ⟨a.block, a.off, by rw [← ha], hb, hlt, fun j u hu => ?_⟩
  · have := hc j u hu
    rw [ha, Addr.add_lit] at this; exact this
section
variable {H : Type}
end
section
variable {H : Type} {enc : TypeId × Value → H} {w : World} {base : Nat} {spare : Nat → Bool} {held : Bool}
theorem spare_le {spare : Nat → Bool} {b len cap m : Nat} (hl : len ≤ cap) (hm : m = (if spare b then cap else len)) : len ≤ m := by rw [hm]; split <;> omega
instance ndLeafInhabited : Inhabited (Nd × Leaf) := ⟨(⟨0, ByteArray.empty, 0, ByteArray.empty, [], [], []⟩, ⟨⟨none, 0, 0⟩, ⟨none, 0, 0⟩, ⟨none, 0, 0⟩⟩)⟩
end
section
variable {H : Type} {enc : TypeId × Value → H} {P : Program}
/-- what the row asks behind the call, where all that was there before lies as it lay: the same readings again -/
theorem post_read {f : Func} {s : ChangeSpec} {W W' : World} {args : Array Value} {v : Value} {ds gs : List (DataW H)} {before q : List MemPlace} (hW : DataW.Whole enc P f.params.toList s.vars false W args.toList ds gs before)
    (hres : DataW.TrodAll enc P W' W.heap.size (fun _ => false) false f.resultTypes.toList (v.resultList f.resultTypes.size) (s.fn H (ds ++ gs)).results [])
    (hargs : DataW.TrodAll enc P W' 0 (fun b => decide (b < W.heap.size)) true f.params.toList args.toList (s.fn H (ds ++ gs)).args q)
    (hvars : DataW.TrodVars enc P W' (fun b => decide (b < W.heap.size)) s.vars (s.fn H (ds ++ gs)).vars []) (hb : Below W.heap.size W W') :
    s.post enc P f false true false false W args v W' :=
  ⟨ds, gs, before, [], q, [], hW, hres, hargs, hvars, hb.frame _, fun h => by cases h⟩
end
end Go.Proofs.YtohinklkcinjpaaGreat
namespace Go.Proofs.YtohinklkcinjpaaGreat
open Go Go.RowKit Go.Sort Go.ChangeShapes Go.WideShapes Go.Deep Go.Joins
set_option linter.unusedVariables false
instance acInhabited : Inhabited Ac := ⟨⟨0, 0, 0, 0, ByteArray.empty, ByteArray.empty⟩⟩
section
variable {H : Type} {enc : TypeId × Value → H} {w : World} {base : Nat} {spare : Nat → Bool} {held : Bool}
/-- a struct of one-cell fields: each field's cell, with its reading -/
theorem fields_of {P : Program} {e : TypeId} {fs : Array Field} {fuel : Nat} {cs : List Value} {x : DataW H × List MemPlace} (he : P.underlying e = some (.struct fs)) (hone : oneCellFields P fs = true) (hlen : cs.length = fs.size)
    (h : DataW.trod enc P w base spare held fuel e cs = some x) :
    ∃ n, ∀ (j : Nat) (f : Field), fs[j]? = some f → ∃ (v : Value) (y : DataW H × List MemPlace), cs[j]? = some v ∧ DataW.trod enc P w base spare held n f.type [v] = some y := by
  obtain ⟨ys, n, _, rfl, hl, hys, hf⟩ := DataW.trod_struct he h
  refine ⟨n, fun j f hj => ?_⟩
  have hjs : j < fs.size := (Array.getElem?_eq_some_iff.1 hj).1
  have hjl : j < cs.length := by omega
  have hjy : j < ys.length := by omega
  obtain ⟨o1, o2⟩ := hone_of hone j f hj
  have h1 := hf j f hj
  rw [o1, o2, List.drop_eq_getElem_cons hjl, List.take_succ_cons, List.take_zero, List.getElem?_eq_getElem hjy] at h1
  exact ⟨cs[j], ys[j], List.getElem?_eq_getElem hjl, h1⟩
theorem act_cells {fuel : Nat} {cs : List Value} {x : DataW H × List MemPlace} (hlen : cs.length = 6) (h : DataW.trod enc Tryz.prog w base spare held fuel 32 cs = some x) : ∃ y : Ac, cs = acCells y ∧ SzA y := by
  obtain ⟨n, hf⟩ := fields_of Tryz.underlying32 (by kernel_rfl) (by rw [hlen]; rfl) h
  match cs, hlen with
  | [k0, k1, k2, k3, k4, k5], _ =>
    obtain ⟨v0, y0, c0, t0⟩ := hf 0 _ rfl
    obtain ⟨v1, y1, c1, t1⟩ := hf 1 _ rfl
    obtain ⟨v2, y2, c2, t2⟩ := hf 2 _ rfl
    obtain ⟨v3, y3, c3, t3⟩ := hf 3 _ rfl
    obtain ⟨v4, y4, c4, t4⟩ := hf 4 _ rfl
    obtain ⟨v5, y5, c5, t5⟩ := hf 5 _ rfl
    obtain ⟨i0, e0, _, _⟩ := DataW.trod_int Tryz.underlying3 t0
    obtain ⟨i1, e1, _, _⟩ := DataW.trod_int Tryz.underlying3 t1
    obtain ⟨i2, e2, _, _⟩ := DataW.trod_int Tryz.underlying3 t2
    obtain ⟨i3, e3, _, _⟩ := DataW.trod_int Tryz.underlying3 t3
    obtain ⟨s4, e4, _, z4⟩ := DataW.trod_string Tryz.underlying9 t4
    obtain ⟨s5, e5, _, z5⟩ := DataW.trod_string Tryz.underlying9 t5
    simp at c0 c1 c2 c3 c4 c5 e0 e1 e2 e3 e4 e5
    subst c0 c1 c2 c3 c4 c5
    subst e0 e1 e2 e3 e4 e5
    exact ⟨⟨i0, i1, i2, i3, s4, s5⟩, rfl, z4, z5⟩
set_option maxRecDepth 20000 in
/-- an act handed in, opened -/
theorem act_open {r : Reach} {b0 : Nat} {v : Value} {d : DataW H} {p : List MemPlace} (hv : Value.okWide Tryz.prog w r b0 32 v) (h : DataW.Trod enc Tryz.prog w base spare held 32 v d p) :
    ∃ y : Ac, v = .agg #[.int .i64 y.kind, .int .i64 y.a, .int .i64 y.b, .int .i64 y.at_, .string y.word, .string y.text] ∧ SzA y := by
  obtain ⟨cs, rfl, hsz⟩ := okWide_struct Tryz.underlying32 hv
  obtain ⟨fuel, hf⟩ := h
  have h6 : Tryz.prog.cellsOf 32 = 6 := by kernel_rfl
  rw [h6] at hsz
  obtain ⟨y, hy, hz⟩ := act_cells (by simpa [Value.cells] using hsz) hf
  refine ⟨y, ?_, hz⟩
  have : cs = (acCells y).toArray := by
    apply Array.toList_inj.1
    simpa [Value.cells] using hy
  rw [this]; rfl
set_option maxRecDepth 20000 in
/-- a list of acts handed in, opened -/
theorem acts_open {r : Reach} {b0 : Nat} {v : Value} {d : DataW H} {p : List MemPlace} (hv : Value.okWide Tryz.prog w r b0 22 v) (h : DataW.Trod enc Tryz.prog w base spare held 22 v d p) :
    ∃ (A : Option Addr) (n c : Nat) (l : List Ac), v = .slice A n c ∧ ActsIn w w.heap.size A n c l := by
  obtain ⟨A0, n0, c0, rfl⟩ := okWide_slice Tryz.underlying22 hv
  obtain ⟨fuel, hf⟩ := h
  have h6 : Tryz.prog.cellsOf 32 = 6 := by kernel_rfl
  rcases open_slice Tryz.underlying22 hf with ⟨hv, _⟩ | ⟨a, len, cap, m, n, D, Pl, hv, hb, hl, hm, hmm, _, hx⟩
  · have hv' : (Value.slice A0 n0 c0) = .slice none 0 0 := by simpa [Value.cells] using hv
    exact ⟨none, 0, 0, [], hv', Row.nil _ _ _ _, rfl, by simp⟩
  · have hv' : (Value.slice A0 n0 c0) = .slice (some a) len cap := by simpa [Value.cells] using hv
    have hle := spare_le hl hmm
    obtain ⟨F, hF⟩ := choose_lt (α := Ac) (n := len) (p := fun i q => (∀ r u, (acCells q)[r]? = some u → w.cell? (a.add (i * 6 + r)) = some u) ∧ SzA q) (fun i hi => by
      obtain ⟨cs', h1, h2⟩ := hx i (by omega)
      obtain ⟨_, hlen, hat⟩ := World.cells?_some h1
      rw [h6] at hlen
      obtain ⟨y, rfl, hz⟩ := act_cells hlen h2
      refine ⟨y, fun r u hr => ?_, hz⟩
      have hr6 : r < 6 := (List.getElem?_eq_some_iff.1 hr).1
      have := hat r (by rw [h6]; exact hr6)
      rw [h6, Go.Deep.add_add] at this
      rw [this]; exact hr)
    have hg : ∀ i p, ((List.range len).map F)[i]? = some p → i < len ∧ p = F i := by
      intro i p hp
      rw [List.getElem?_map] at hp
      obtain ⟨j, hj, rfl⟩ := Option.map_eq_some_iff.1 hp
      obtain ⟨h1, h2⟩ := List.getElem?_eq_some_iff.1 hj
      rw [List.getElem_range] at h2
      subst h2
      exact ⟨by simpa using h1, rfl⟩
    refine ⟨some a, len, cap, (List.range len).map F, hv', ?_, by simp, fun x hx => ?_⟩
    · have := row_of (w := w) (base := base) (n := len) (c := cap) (size := 6) (a := a) (xs := actsCells ((List.range len).map F)) (by unfold actsCells; rw [flatN_len (s := 6) (fun _ => rfl)]; simp) (by omega) hl hm hb
        (flat_cells (s := 6) (fun _ => rfl) (by omega) _ a (fun i p hp r u hr => by
          obtain ⟨hi, rfl⟩ := hg i p hp
          exact (hF i hi).1 r u hr))
      exact this.mono (Nat.zero_le _) (Nat.le_refl _)
    · obtain ⟨i, hi⟩ := List.getElem?_of_mem hx
      obtain ⟨h1, rfl⟩ := hg i x hi
      exact (hF i h1).2
end
end Go.Proofs.YtohinklkcinjpaaGreat
