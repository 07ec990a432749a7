/-
  TOKENS AS AN ARGUMENT: what the reading of them tells of the cells, and how long their texts are.
-/
import Derived.Test.YtinhlemebnlijaaDoorYD
import Derived.Test.YtinhlemebnlijaaDoorY11
import Derived.Deep.Slices
import Derived.Deep.SlicePairs
import Derived.Deep.Fields
import Derived.ChangeSame
import Derived.ChangeSlices
namespace Go.Proofs.YtinhlemebnlijaaDoor
open Go Go.RowKit Go.ChangeShapes Go.WideShapes Go.Deep
set_option linter.unusedVariables false
section
variable {w : World}
theorem cell_spot {a : Addr} {u : Value} (h : w.cell? a = some u) : a.spot = none := by
  unfold World.cell? at h
  split at h
  · split at h
    · cases h
    · rename_i hs
      cases ha : a.spot with
      | none => rfl
      | some k => rw [ha] at hs; simp at hs
  · cases h
theorem add_zero_ (a : Addr) : a.add 0 = a := by unfold Addr.add; simp
theorem addr_plain {a : Addr} (h : a.spot = none) : a = ⟨a.block, a.off, none⟩ := by
  obtain ⟨b, o, s⟩ := a
  obtain rfl : s = none := h
  rfl
/-- cells of an own kind, by the elements' index -/
theorem flat_cells {α : Type} {f : α → List Value} {s : Nat} (hs : ∀ a, (f a).length = s) (h0 : 0 < s) (l : List α) (a : Addr)
    (h : ∀ i p, l[i]? = some p → ∀ r u, (f p)[r]? = some u → w.cell? (a.add (i * s + r)) = some u) : ∀ j u, (l.flatMap f)[j]? = some u → w.cell? (a.add j) = some u := by
  intro j u hj
  have hl : j < l.length * s := by rw [← flatN_len hs l]; exact (List.getElem?_eq_some_iff.1 hj).1
  have hd : j / s < l.length := Nat.div_lt_of_lt_mul (by rwa [Nat.mul_comm] at hl)
  have hr : j % s < s := Nat.mod_lt _ h0
  have he : j / s * s + j % s = j := by rw [Nat.mul_comm]; exact Nat.div_add_mod j s
  have hp : l[j / s]? = some l[j / s] := List.getElem?_eq_getElem hd
  have := h (j / s) _ hp (j % s) u (by rw [← flatN_get hs l (j / s) _ hp _ hr, he]; exact hj)
  rwa [he] at this
theorem row_of {base n c size : Nat} {a : Addr} {xs : List Value} (hlen : xs.length = n * size) (h0 : 0 < size) (hn : n ≤ c) (hm : c ≤ maxLen) (hb : base ≤ a.block)
    (hc : ∀ j u, xs[j]? = some u → w.cell? (a.add j) = some u) : Row w base w.heap.size size (some a) n c xs := by
  refine ⟨hlen, hn, hm, fun hp => ?_⟩
  have hl : 0 < xs.length := by rw [hlen]; exact Nat.mul_pos hp h0
  have h1 := hc 0 _ (List.getElem?_eq_getElem hl)
  rw [add_zero_] at h1
  have ha := addr_plain (cell_spot h1)
  have hlt := block_lt_of_cell h1
  refine ⟨a.block, a.off, by rw [← ha], hb, hlt, fun j u hu => ?_⟩
  · have := hc j u hu
    rw [ha, Addr.add_lit] at this; exact this
end
instance tokInhabited : Inhabited Tok := ⟨⟨0, ByteArray.empty, 0, 0⟩⟩
section
variable {H : Type} {enc : TypeId × Value → H} {w : World} {base : Nat} {spare : Nat → Bool} {held : Bool}
theorem weights_all {P : Program} {e : TypeId} : ∀ {l : List (DataW H)} {d : DataW H}, d ∈ l → ∀ m ∈ d.weights P e, m ∈ DataW.weightsAll P e l
  | x :: r, d, h, m, hm => by
    simp only [DataW.weightsAll, List.mem_append]
    rcases List.mem_cons.1 h with rfl | h
    · exact .inl hm
    · exact .inr (weights_all h m hm)
theorem weights_slice {P : Program} {t e : TypeId} {l sp : List (DataW H)} {d : DataW H} (ht : P.underlying t = some (.slice e)) (h : d ∈ l) {m : Nat} (hm : m ∈ d.weights P e) : m ∈ (DataW.slice l sp).weights P t := by
  simp only [DataW.weights, ht, List.mem_cons, List.mem_append]
  exact .inr (.inl (weights_all h m hm))
theorem weights_struct {P : Program} {t : TypeId} {fs : Array Field} {l : List (DataW H)} (ht : P.underlying t = some (.struct fs)) {j : Nat} {f : Field} {d : DataW H} (hf : fs[j]? = some f) (hd : l[j]? = some d) {m : Nat} (hm : m ∈ d.weights P f.type) : m ∈ (DataW.agg l).weights P t := by
  simp only [DataW.weights, ht]
  refine DataW.weights_mem_each (j := j) (t := f.type) (d := d) ?_ hd m hm
  rw [List.getElem?_map, Array.getElem?_toList, hf]; rfl
/-- a struct of one-cell fields: each field's cell, with its reading -/
theorem fields_of {P : Program} {e : TypeId} {fs : Array Field} {fuel : Nat} {cs : List Value} {x : DataW H × List MemPlace} (he : P.underlying e = some (.struct fs)) (hone : oneCellFields P fs = true) (hlen : cs.length = fs.size)
    (h : DataW.trod enc P w base spare held fuel e cs = some x) :
    ∃ (ys : List (DataW H × List MemPlace)) (n : Nat), x.1 = .agg (ys.map (·.1)) ∧ ∀ (j : Nat) (f : Field), fs[j]? = some f → ∃ (v : Value) (y : DataW H × List MemPlace), cs[j]? = some v ∧ ys[j]? = some y ∧ DataW.trod enc P w base spare held n f.type [v] = some y := by
  obtain ⟨ys, n, _, rfl, hl, hys, hf⟩ := DataW.trod_struct he h
  refine ⟨ys, n, rfl, fun j f hj => ?_⟩
  have hjs : j < fs.size := (Array.getElem?_eq_some_iff.1 hj).1
  have hjl : j < cs.length := by omega
  have hjy : j < ys.length := by omega
  obtain ⟨o1, o2⟩ := hone_of hone j f hj
  have h1 := hf j f hj
  rw [o1, o2, List.drop_eq_getElem_cons hjl, List.take_succ_cons, List.take_zero, List.getElem?_eq_getElem hjy] at h1
  exact ⟨cs[j], ys[j], List.getElem?_eq_getElem hjl, List.getElem?_eq_getElem hjy, h1⟩
theorem wf64 {n : Int} (h : (Lit.int .i64 n).wf = true) : -9223372036854775808 ≤ n ∧ n ≤ 9223372036854775807 :=
  ⟨of_decide_eq_true (Bool.and_eq_true_iff.1 h).1, of_decide_eq_true (Bool.and_eq_true_iff.1 h).2⟩
theorem tok_cells {fuel : Nat} {cs : List Value} {x : DataW H × List MemPlace} (hlen : cs.length = 4) (h : DataW.trod enc Tryd.prog w base spare held fuel 30 cs = some x) :
    ∃ k : Tok, cs = tokCells k ∧ (-9223372036854775808 ≤ k.int ∧ k.int ≤ 9223372036854775807) ∧ k.text.size ∈ x.1.weights Tryd.prog 30 := by
  obtain ⟨ys, n, hx, hf⟩ := fields_of Tryd.underlying30 (by kernel_rfl) (by rw [hlen]; rfl) h
  match cs, hlen with
  | [k0, k1, k2, k3], _ =>
    obtain ⟨v0, y0, c0, g0, t0⟩ := hf 0 _ rfl
    obtain ⟨v1, y1, c1, g1, t1⟩ := hf 1 _ rfl
    obtain ⟨v2, y2, c2, g2, t2⟩ := hf 2 _ rfl
    obtain ⟨v3, y3, c3, g3, t3⟩ := hf 3 _ rfl
    obtain ⟨i0, e0, _, _⟩ := DataW.trod_int Tryd.underlying3 t0
    obtain ⟨s1, e1, x1, z1⟩ := DataW.trod_string Tryd.underlying9 t1
    obtain ⟨i2, e2, _, f2⟩ := DataW.trod_int Tryd.underlying2 t2
    obtain ⟨i3, e3, _, _⟩ := DataW.trod_int Tryd.underlying3 t3
    simp at c0 c1 c2 c3 e0 e1 e2 e3
    subst c0 c1 c2 c3
    subst e0 e1 e2 e3
    refine ⟨⟨i0, s1, i2, i3⟩, rfl, wf64 f2, ?_⟩
    rw [hx]
    refine weights_struct Tryd.underlying30 (j := 1) (f := _) (d := y1.1) rfl (by rw [List.getElem?_map, g1]; rfl) ?_
    rw [x1]
    show s1.size ∈ (DataW.lit (.string s1.data.toList)).weights Tryd.prog _
    simp only [DataW.weights, List.mem_singleton]
    exact (toList_eq s1).symm
set_option maxRecDepth 20000 in
/-- a list of tokens handed in, opened -/
theorem toks_open {r : Reach} {b0 : Nat} {v : Value} {d : DataW H} {p : List MemPlace} (hv : Value.okWide Tryd.prog w r b0 22 v) (h : DataW.Trod enc Tryd.prog w base spare held 22 v d p)
    (hz : ∀ m ∈ d.weights Tryd.prog 22, m ≤ 140737488351232) :
    ∃ (A : Option Addr) (n c : Nat) (l : List Tok), v = .slice A n c ∧ TokIn w w.heap.size A n c l ∧ ∀ k ∈ l, TokOk k := by
  obtain ⟨A0, n0, c0, rfl⟩ := okWide_slice Tryd.underlying22 hv
  obtain ⟨fuel, hf⟩ := h
  have h4 : Tryd.prog.cellsOf 30 = 4 := by kernel_rfl
  rcases open_slice Tryd.underlying22 hf with ⟨hv, _⟩ | ⟨a, len, cap, m, n, D, Pl, hv, hb, hl, hm, hmm, hd, hx⟩
  · have hv' : (Value.slice A0 n0 c0) = .slice none 0 0 := by simpa [Value.cells] using hv
    exact ⟨none, 0, 0, [], hv', Row.nil _ _ _ _, by simp⟩
  · have hv' : (Value.slice A0 n0 c0) = .slice (some a) len cap := by simpa [Value.cells] using hv
    have hle : len ≤ m := by rw [hmm]; split <;> omega
    have hd' : d = .slice ((List.range len).map D) ((List.range (m - len)).map fun j => D (len + j)) := congrArg Prod.fst hd
    obtain ⟨F, hF⟩ := choose_lt (α := Tok) (n := len) (p := fun i q => (∀ r u, (tokCells q)[r]? = some u → w.cell? (a.add (i * 4 + r)) = some u) ∧ TokOk q) (fun i hi => by
      obtain ⟨cs', h1, h2⟩ := hx i (by omega)
      obtain ⟨_, hlen, hat⟩ := World.cells?_some h1
      rw [h4] at hlen
      obtain ⟨y, rfl, hy, hw⟩ := tok_cells hlen h2
      refine ⟨y, fun r u hr => ?_, hy.1, hy.2, ?_⟩
      · have hr4 : r < 4 := (List.getElem?_eq_some_iff.1 hr).1
        have := hat r (by rw [h4]; exact hr4)
        rw [h4, Go.Deep.add_add] at this
        rw [this]; exact hr
      · have := hz _ (by rw [hd']; exact weights_slice Tryd.underlying22 (List.mem_map_of_mem (List.mem_range.2 hi)) hw)
        omega)
    have hg : ∀ i p, ((List.range len).map F)[i]? = some p → i < len ∧ p = F i := by
      intro i p hp
      rw [List.getElem?_map] at hp
      obtain ⟨j, hj, rfl⟩ := Option.map_eq_some_iff.1 hp
      obtain ⟨h1, h2⟩ := List.getElem?_eq_some_iff.1 hj
      rw [List.getElem_range] at h2
      subst h2
      exact ⟨by simpa using h1, rfl⟩
    refine ⟨some a, len, cap, (List.range len).map F, hv', ?_, fun x hx => ?_⟩
    · have := row_of (w := w) (base := base) (n := len) (c := cap) (size := 4) (a := a) (xs := toksCells ((List.range len).map F)) (by rw [toksCells_len]; simp) (by omega) hl hm hb
        (flat_cells (s := 4) (fun _ => rfl) (by omega) _ a (fun i p hp r u hr => by
          obtain ⟨hi, rfl⟩ := hg i p hp
          exact (hF i hi).1 r u hr))
      exact this.mono (Nat.zero_le _) (Nat.le_refl _)
    · obtain ⟨i, hi⟩ := List.getElem?_of_mem hx
      obtain ⟨h1, rfl⟩ := hg i x hi
      exact (hF i h1).2
/-- the form's reach, for an argument -/
theorem reach_at {ts : List TypeId} {ds : List (DataW H)} (h : (DataW.weightsEach Tryd.prog ts ds).all (· ≤ reachBytes) = true) {j : Nat} {t : TypeId} {d : DataW H} (ht : ts[j]? = some t) (hd : ds[j]? = some d) : ∀ m ∈ d.weights Tryd.prog t, m ≤ 140737488351232 := by
  intro m hm
  have := List.all_eq_true.1 h _ (DataW.weights_mem_each ht hd m hm)
  rw [decide_eq_true_eq] at this
  exact this
theorem post_read {P : Program} {f : Func} {s : ChangeSpec} {W W' : World} {args : Array Value} {v : Value} {ds gs : List (DataW H)} {before q : List MemPlace} (hW : DataW.Whole enc P f.params.toList s.vars false W args.toList ds gs before)
    (hres : DataW.TrodAll enc P W' W.heap.size (fun _ => false) false f.resultTypes.toList (v.resultList f.resultTypes.size) (s.fn H (ds ++ gs)).results [])
    (hargs : DataW.TrodAll enc P W' 0 (fun b => decide (b < W.heap.size)) true f.params.toList args.toList (s.fn H (ds ++ gs)).args q)
    (hvars : DataW.TrodVars enc P W' (fun b => decide (b < W.heap.size)) s.vars (s.fn H (ds ++ gs)).vars []) (hb : Below W.heap.size W W') :
    s.post enc P f false true false false W args v W' :=
  ⟨ds, gs, before, [], q, [], hW, hres, hargs, hvars, hb.frame _, fun h => by cases h⟩
end
end Go.Proofs.YtinhlemebnlijaaDoor
