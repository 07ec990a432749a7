/-
  WALKS over the document's answers for layer 9: Ints, Each, Of.
  THE LIBRARY's VARIABLES AND PACKAGES lex's, expr's AND kinds' as the row of KindsOf lists them: what that gives the walks; a start in which they lie so.
  AN EXPRESSION AS AN ARGUMENT: what the reading of it tells of the cells, and how great its lists may be.
  THE WALKER's MAP: by how many nodes a variable is bound.
-/
import Derived.Test.YtjlpoigcalfdlaaDoorZB14
import Derived.Maps.OwnSet
namespace Go.Proofs.YtjlpoigcalfdlaaDoor
open Go Go.RowKit Go.Sort
set_option linter.unusedVariables false
theorem Tree.pos {l : List EN} {f : Fo} (h : Tree l f) : 0 < l.length := by
  have h1 := h.one
  have h2 := h.size
  cases f with
  | nil => simp [Fo.offs] at h1
  | cons k s i a r => simp only [Fo.size] at h2; omega
end Go.Proofs.YtjlpoigcalfdlaaDoor
namespace Go.Proofs.YtjlpoigcalfdlaaDoor
open Go Go.RowKit Go.ChangeShapes Go.WideShapes Go.ChangeAt Go.Deep Go.Sort
set_option linter.unusedVariables false
theorem gSigns : Tryd.prog.globalNamed "topiary/expr.signs" = some 1 := by kernel_rfl
theorem gSignsType : (Tryd.prog.globals[1]?).map (·.type) = some 81 := by kernel_rfl
theorem cellsSign : Tryd.prog.cellsOf 80 = 5 := by kernel_rfl
theorem chunks {α : Type} {C : α → List Value} {s : Nat} : ∀ (l : List α) (cs : List Value), cs.length = l.length * s → (∀ (i : Nat) (a : α), l[i]? = some a → (cs.drop (i * s)).take s = C a) → cs = l.flatMap C
  | [], cs, hl, _ => by
    simp only [List.length_nil, Nat.zero_mul] at hl
    rw [List.length_eq_zero_iff.1 hl]; rfl
  | a :: l, cs, hl, h => by
    have h0 := h 0 a rfl
    simp only [Nat.zero_mul, List.drop_zero] at h0
    have h1 := chunks l (cs.drop s) (by rw [List.length_drop, hl, List.length_cons, Nat.succ_mul]; exact Nat.add_sub_cancel ..) (fun i b hb => by
      rw [List.drop_drop, show s + i * s = (i + 1) * s from by rw [Nat.succ_mul]; omega]
      exact h (i + 1) b (by simpa using hb))
    rw [List.flatMap_cons, ← h0, ← h1, List.take_append_drop]
/-- an array whose elements' data tell their cells -/
theorem arr_cells {H α : Type} {enc : TypeId × Value → H} {P : Program} {w : World} {base : Nat} {sp : Nat → Bool} {held : Bool} {fuel : Nat} {t e : TypeId} {n s : Nat} {cs : List Value} {D : α → DataW H} {C : α → List Value} {l : List α} {p : List MemPlace}
    (ht : P.underlying t = some (.array n e)) (hs : P.cellsOf e = s) (hct : P.cellsOf t = n * s)
    (elem : ∀ (fu : Nat) (cs : List Value) (a : α) (q : List MemPlace), a ∈ l → DataW.trod enc P w base sp held fu e cs = some (D a, q) → cs = C a)
    (h : DataW.trod enc P w base sp held fuel t cs = some (.agg (l.map D), p)) : cs = l.flatMap C := by
  obtain ⟨xs, m, _, ex, hlen, hl, hel⟩ := DataW.trod_array ht h
  have hx : l.map D = xs.map (·.1) := by
    have := congrArg Prod.fst ex
    simpa using this
  have hll : l.length = n := by
    have := congrArg List.length hx
    simp only [List.length_map] at this
    omega
  refine chunks (s := s) l cs (by rw [hlen, hct, hll]) fun i a ha => ?_
  have hi : i < n := by rw [← hll]; exact (List.getElem?_eq_some_iff.1 ha).1
  have h1 := hel i hi
  rw [hs] at h1
  obtain ⟨y, hy⟩ : ∃ y, xs[i]? = some y := ⟨xs[i]'(by omega), List.getElem?_eq_getElem _⟩
  have h2 := congrArg (fun z => z[i]?) hx
  simp only [List.getElem?_map, ha, hy, Option.map_some, Option.some.injEq] at h2
  rw [hy, show y = (D a, y.2) from by rw [h2]] at h1
  exact elem _ _ a _ (List.mem_of_getElem? ha) h1
theorem laid_head {W : World} {name : String} {d : DataW Unit} {rest : List (String × DataW Unit)} {g : Nat} {t : TypeId}
    (hg : Tryd.prog.globalNamed name = some g) (hty : (Tryd.prog.globals[g]?).map (·.type) = some t) (h : laidMet Tryd.prog ((name, d) :: rest) W) :
    ∃ (cs : Array Value) (t2 : TypeId) (fr : Nat × Nat) (enc : TypeId × Value → Unit) (base : Nat) (sp : Nat → Bool) (held : Bool) (fuel : Nat) (p : List MemPlace), W.heap[g]? = some (.cells cs t2 fr) ∧ DataW.trod enc Tryd.prog W base sp held fuel t cs.toList = some (d, p) := by
  obtain ⟨ps, ⟨g', t', cs, fuel, p, q, hg', ht', hvar, hd, _, _⟩, _⟩ := h
  obtain rfl := Option.some.inj (hg.symm.trans hg')
  obtain rfl := Option.some.inj (hty.symm.trans ht')
  unfold World.var? at hvar
  simp only [hg, Option.bind_some] at hvar
  split at hvar
  · rename_i cs' t2 fr hh
    obtain rfl := Option.some.inj hvar
    exact ⟨_, t2, fr, _, _, _, _, _, _, hh, hd⟩
  · cases hvar
/-- a sign as the row lists it -/
def signD {H : Type} (s : SignD) : DataW H := .agg [.lit (.string s.text), .lit (.int .i64 s.shape), .lit (.int .i64 s.level), .lit (.int .i64 s.kids), .lit (.bool s.named)]
section
variable {H : Type} {enc : TypeId × Value → H} {w : World} {base : Nat} {spare : Nat → Bool} {held : Bool}
set_option maxRecDepth 20000 in
theorem sign_elem (fu : Nat) (cs : List Value) (a : SignD) (q : List MemPlace) (h : DataW.trod enc Tryd.prog w base spare held fu 80 cs = some (signD a, q)) : cs = signC a := by
  have hlen : cs.length = 5 := by
    obtain ⟨_, _, _, _, h1, _⟩ := DataW.trod_struct Tryd.underlying80 h
    rw [h1]; exact cellsSign
  obtain ⟨ys, n, hx, hf⟩ := fields_of Tryd.underlying80 (by kernel_rfl) (by rw [hlen]; rfl) h
  have hy : ys.map (·.1) = [.lit (.string a.text), .lit (.int .i64 a.shape), .lit (.int .i64 a.level), .lit (.int .i64 a.kids), .lit (.bool a.named)] := by
    have := hx
    unfold signD at this
    injection this with this
    exact this.symm
  have hat : ∀ (j : Nat) (y : DataW H × List MemPlace), ys[j]? = some y → [DataW.lit (.string a.text), .lit (.int .i64 a.shape), .lit (.int .i64 a.level), .lit (.int .i64 a.kids), .lit (.bool a.named)][j]? = some y.1 := fun j y hj => by
    rw [← hy, List.getElem?_map, hj]; rfl
  match cs, hlen with
  | [k0, k1, k2, k3, k4], _ =>
    obtain ⟨v0, y0, c0, g0, t0⟩ := hf 0 _ rfl
    obtain ⟨v1, y1, c1, g1, t1⟩ := hf 1 _ rfl
    obtain ⟨v2, y2, c2, g2, t2⟩ := hf 2 _ rfl
    obtain ⟨v3, y3, c3, g3, t3⟩ := hf 3 _ rfl
    obtain ⟨v4, y4, c4, g4, t4⟩ := hf 4 _ rfl
    obtain ⟨i0, e0, x0, _⟩ := DataW.trod_string (by kernel_rfl) t0
    obtain ⟨i1, e1, x1, _⟩ := DataW.trod_int Tryd.underlying3 t1
    obtain ⟨i2, e2, x2, _⟩ := DataW.trod_int Tryd.underlying3 t2
    obtain ⟨i3, e3, x3, _⟩ := DataW.trod_int Tryd.underlying3 t3
    obtain ⟨i4, e4, x4⟩ := DataW.trod_bool (by kernel_rfl) t4
    have d0 := hat 0 _ g0
    have d1 := hat 1 _ g1
    have d2 := hat 2 _ g2
    have d3 := hat 3 _ g3
    have d4 := hat 4 _ g4
    rw [x0] at d0
    rw [x1] at d1
    rw [x2] at d2
    rw [x3] at d3
    rw [x4] at d4
    simp at c0 c1 c2 c3 c4 e0 e1 e2 e3 e4 d0 d1 d2 d3 d4
    subst c0
    subst c1
    subst c2
    subst c3
    subst c4
    subst e0
    subst e1
    subst e2
    subst e3
    subst e4
    unfold signC
    rw [d0, d1, d2, d3, d4]
    simp [ba_list']
end
/-- a start: the settled world, the listed variables as their initialisers lay them -/
noncomputable def laidWorldK (os : Os) : World :=
  let w0 := World.holding Tryd.prog os ⟨#[], #[], []⟩
  { w0 with heap := (((((((w0.heap.modify 4 (put (Lib.pow10Tab.map (Value.int .u64)).toArray)).modify 5 (put (([0, 1, 28, 2, 29, 14, 24, 3, 30, 22, 20, 15, 25, 17, 4, 8, 31, 27, 13, 23, 21, 19, 16, 7, 26, 12, 18, 6, 11, 5, 10, 9] : List Int).map (Value.int .u8)).toArray)).modify 6 (put (([0, 1, 56, 2, 57, 49, 28, 3, 61, 58, 42, 50, 38, 29, 17, 4, 62, 47, 59, 36, 45, 43, 51, 22, 53, 39, 33, 30, 24, 18, 12, 5, 63, 55, 48, 27, 60, 41, 37, 16, 46, 35, 44, 21, 52, 32, 23, 11, 54, 26, 40, 15, 34, 20, 31, 10, 25, 14, 19, 9, 13, 8, 7, 6] : List Int).map (Value.int .u8)).toArray)).modify 2 (put (strsV wordsL))).modify 3 (put (strsV marksL))).modify 1 (put signsV)).modify 0 (put rowsV)) }
section
variable {H : Type} {enc : TypeId × Value → H} {w : World} {base : Nat} {spare : Nat → Bool} {held : Bool} {RW : Nat}
/-- a struct of one-cell fields: each field's cell, with its reading, and the weights of that -/
theorem fields_w {P : Program} {e : TypeId} {fs : Array Field} {fuel : Nat} {cs : List Value} {x : DataW H × List MemPlace} (he : P.underlying e = some (.struct fs)) (hone : oneCellFields P fs = true) (hlen : cs.length = fs.size)
    (h : DataW.trod enc P w base spare held fuel e cs = some x) (hz : ∀ m ∈ x.1.weights P e, m ≤ RW) :
    ∃ n : Nat, ∀ (j : Nat) (f : Field), fs[j]? = some f → ∃ (v : Value) (y : DataW H × List MemPlace), cs[j]? = some v ∧ DataW.trod enc P w base spare held n f.type [v] = some y ∧ ∀ m ∈ y.1.weights P f.type, m ≤ RW := by
  obtain ⟨ys, n, _, rfl, hl, hys, hf⟩ := DataW.trod_struct he h
  refine ⟨n, fun j f hj => ?_⟩
  have hjs : j < fs.size := (Array.getElem?_eq_some_iff.1 hj).1
  have hjl : j < cs.length := by omega
  have hjy : j < ys.length := by omega
  obtain ⟨o1, o2⟩ := hone_of hone j f hj
  have h1 := hf j f hj
  rw [o1, o2, List.drop_eq_getElem_cons hjl, List.take_succ_cons, List.take_zero, List.getElem?_eq_getElem hjy] at h1
  refine ⟨cs[j], ys[j], List.getElem?_eq_getElem hjl, h1, fun m hm => hz m (weights_struct he hj (l := ys.map (·.1)) (j := j) ?_ hm)⟩
  rw [List.getElem?_map, List.getElem?_eq_getElem hjy]; rfl
/-- an element in memory: its cells, and what is told of it -/
def ElemW {α : Type} (RW : Nat) (enc : TypeId × Value → H) (w : World) (base : Nat) (spare : Nat → Bool) (held : Bool) (E : TypeId) (C : α → List Value) (G : α → Prop) : Prop :=
  ∀ (fuel : Nat) (cs : List Value) (x : DataW H × List MemPlace), cs.length = Tryd.prog.cellsOf E → DataW.trod enc Tryd.prog w base spare held fuel E cs = some x → (∀ m ∈ x.1.weights Tryd.prog E, m ≤ RW) → ∃ q : α, cs = C q ∧ G q
/-- a slice of such elements -/
theorem list_w {α : Type} [Inhabited α] {T E : TypeId} {s : Nat} {C : α → List Value} {G : α → Prop} (hT : Tryd.prog.underlying T = some (.slice E)) (hs : Tryd.prog.cellsOf E = s) (h0 : 0 < s) (hC : ∀ a, (C a).length = s)
    (elem : ElemW RW enc w base spare held E C G) {fuel : Nat} {v : Value} {x : DataW H × List MemPlace} (h : DataW.trod enc Tryd.prog w base spare held fuel T [v] = some x) (hz : ∀ m ∈ x.1.weights Tryd.prog T, m ≤ RW) :
    ∃ (A : Option Addr) (n c : Nat) (l : List α), v = .slice A n c ∧ n = l.length ∧ Row w base w.heap.size s A n c (l.flatMap C) ∧ (∀ g ∈ l, G g) ∧ n * Tryd.prog.bytesOf E ≤ RW := by
  rcases open_slice hT h with ⟨hv, rfl⟩ | ⟨a, len, cap, m, k, D, Pl, hv, hb, hl, hm, hmm, rfl, hx⟩
  · obtain rfl : v = .slice none 0 0 := by simpa using hv
    exact ⟨none, 0, 0, [], rfl, rfl, Row.nil _ _ _ _, by simp, by omega⟩
  · obtain rfl : v = .slice (some a) len cap := by simpa using hv
    have hle : len ≤ m := by rw [hmm]; split <;> omega
    obtain ⟨F, hF⟩ := choose_lt (α := α) (n := len) (p := fun i q => (∀ r u, (C q)[r]? = some u → w.cell? (a.add (i * s + r)) = some u) ∧ G q) (fun i hi => by
      obtain ⟨cs', h1, h2⟩ := hx i (by omega)
      obtain ⟨_, hlen, hat⟩ := World.cells?_some h1
      obtain ⟨q, hq, hG⟩ := elem _ cs' _ hlen h2 (fun m hm => hz m (weights_slice hT (List.mem_map_of_mem (List.mem_range.2 hi)) hm))
      subst hq
      refine ⟨q, fun r u hr => ?_, hG⟩
      have hrs : r < s := by rw [← hC q]; exact (List.getElem?_eq_some_iff.1 hr).1
      have := hat r (by rw [hs]; exact hrs)
      rw [hs, Go.Deep.add_add] at this
      rw [this]; exact hr)
    have hg : ∀ i p, ((List.range len).map F)[i]? = some p → i < len ∧ p = F i := by
      intro i p hp
      rw [List.getElem?_map] at hp
      obtain ⟨j, hj, rfl⟩ := Option.map_eq_some_iff.1 hp
      obtain ⟨h1, h2⟩ := List.getElem?_eq_some_iff.1 hj
      rw [List.getElem_range] at h2
      subst h2
      exact ⟨by simpa using h1, rfl⟩
    refine ⟨some a, len, cap, (List.range len).map F, rfl, by simp, ?_, fun g hgm => ?_, ?_⟩
    · refine row_of (by rw [flatN_len hC]; simp) h0 hl hm hb ?_
      refine flat_cells hC h0 _ a (fun i p hp r u hr => ?_)
      obtain ⟨hi, rfl⟩ := hg i p hp
      exact (hF i hi).1 r u hr
    · obtain ⟨i, hi⟩ := List.getElem?_of_mem hgm
      obtain ⟨h1, rfl⟩ := hg i g hi
      exact (hF i h1).2
    · have := hz ((len + (m - len)) * Tryd.prog.bytesOf E) (by
        simp only [DataW.weights, hT, List.length_map, List.length_range]
        exact List.mem_cons_self)
      have h3 : len * Tryd.prog.bytesOf E ≤ (len + (m - len)) * Tryd.prog.bytesOf E := Nat.mul_le_mul_right _ (by omega)
      omega
instance inhEN : Inhabited (EN × Sl) := ⟨(⟨0, ByteArray.empty, 0, []⟩, ⟨none, 0, 0⟩)⟩
theorem num_w : ElemW RW enc w base spare held 3 (fun i : Int => [.int .i64 i]) (fun _ => True) := by
  intro fuel cs x hlen h hz
  obtain ⟨s, e, _, _⟩ := DataW.trod_int Tryd.underlying3 h
  exact ⟨s, e, trivial⟩
theorem flat_num (l : List Int) : l.flatMap (fun i : Int => [Value.int .i64 i]) = intCells l := by unfold intCells; induction l with
  | nil => rfl
  | cons x l ih => simp [ih]
set_option maxRecDepth 20000 in
theorem en_w : ElemW RW enc w base spare held 46 enC (fun x => EnIn w base w.heap.size x ∧ x.1.text.size ≤ RW ∧ (-9223372036854775808 ≤ x.1.int ∧ x.1.int ≤ 9223372036854775807) ∧ x.2.n * 8 ≤ RW) := by
  intro fuel cs x hlen h hz
  obtain ⟨n, hf⟩ := fields_w Tryd.underlying46 (by kernel_rfl) (by rw [hlen]; kernel_rfl) h hz
  replace hlen : cs.length = 4 := by rw [hlen]; kernel_rfl
  match cs, hlen with
  | [k0, k1, k2, k3], _ =>
    obtain ⟨v0, y0, q0, t0, z0⟩ := hf 0 _ rfl
    obtain rfl : k0 = v0 := by simpa using q0
    obtain ⟨v1, y1, q1, t1, z1⟩ := hf 1 _ rfl
    obtain rfl : k1 = v1 := by simpa using q1
    obtain ⟨v2, y2, q2, t2, z2⟩ := hf 2 _ rfl
    obtain rfl : k2 = v2 := by simpa using q2
    obtain ⟨v3, y3, q3, t3, z3⟩ := hf 3 _ rfl
    obtain rfl : k3 = v3 := by simpa using q3
    obtain ⟨s0, e0, _, _⟩ := DataW.trod_int (by kernel_rfl) t0
    obtain rfl : k0 = .int .i64 s0 := by simpa using e0
    obtain ⟨s1, e1, w1, _⟩ := DataW.trod_string (by kernel_rfl) t1
    obtain rfl : k1 = .string s1 := by simpa using e1
    have u1 : s1.size ≤ RW := z1 _ (by rw [w1]; simp only [DataW.weights, List.mem_singleton]; exact (toList_eq s1).symm)
    obtain ⟨s2, e2, _, f2⟩ := DataW.trod_int (by kernel_rfl) t2
    obtain rfl : k2 = .int .i64 s2 := by simpa using e2
    obtain ⟨A3, n3, c3, l3, rfl, hn3, hr3, hg3, hb3⟩ := list_w (T := 29) (s := 1) (by kernel_rfl) (by kernel_rfl) (by omega) (fun _ => rfl) num_w t3 z3
    rw [flat_num] at hr3
    have hb8 : Tryd.prog.bytesOf 3 = 8 := by kernel_rfl
    rw [hb8] at hb3
    exact ⟨(⟨s0, s1, s2, l3⟩, ⟨A3, n3, c3⟩), rfl, ⟨hn3, hr3⟩, u1, wf64 f2, by simp only; omega⟩
set_option maxRecDepth 20000 in
/-- an expression handed in, opened -/
theorem expr_open {r : Reach} {b0 : Nat} {v : Value} {d : DataW H} {p : List MemPlace} (hv : Value.okWide Tryd.prog w r b0 24 v) (h : DataW.Trod enc Tryd.prog w base spare held 24 v d p)
    (hz : ∀ m ∈ d.weights Tryd.prog 24, m ≤ RW) (hRB : RW ≤ 140737488351232) : ∃ (A : Option Addr) (n c : Nat) (l : List (EN × Sl)), v = .agg #[.slice A n c] ∧ ExIn w w.heap.size ⟨A, n, c⟩ l ∧ n * 56 ≤ RW ∧ ∀ x ∈ l, x.2.n * 8 ≤ RW := by
  obtain ⟨cs0, rfl, hsz⟩ := okWide_struct Tryd.underlying24 hv
  obtain ⟨fuel, hfu⟩ := h
  obtain ⟨cs, hcs⟩ : ∃ cs, cs = cs0.toList := ⟨_, rfl⟩
  have hcs' : cs0 = cs.toArray := by rw [hcs]
  subst hcs'
  replace hfu : DataW.trod enc Tryd.prog w base spare held fuel 24 cs = some (d, p) := by simpa [Value.cells] using hfu
  have hlen : cs.length = Tryd.prog.cellsOf 24 := by simpa using hsz
  obtain ⟨n, hf⟩ := fields_w Tryd.underlying24 (by kernel_rfl) (by rw [hlen]; kernel_rfl) hfu hz
  replace hlen : cs.length = 1 := by rw [hlen]; kernel_rfl
  clear hcs hv hsz
  match cs, hlen with
  | [k0], _ =>
    obtain ⟨v0, y0, q0, t0, z0⟩ := hf 0 _ rfl
    obtain rfl : k0 = v0 := by simpa using q0
    obtain ⟨A0, n0, c0, l0, rfl, hn0, hr0, hg0, hb0⟩ := list_w (T := 22) (s := 4) (by kernel_rfl) (by kernel_rfl) (by omega) (fun _ => rfl) en_w t0 z0
    have hb56 : Tryd.prog.bytesOf 46 = 56 := by kernel_rfl
    rw [hb56] at hb0
    refine ⟨A0, n0, c0, l0, rfl, ⟨⟨hn0, hr0.mono (Nat.zero_le _) (Nat.le_refl _), fun g hg => enK.mono (hg0 g hg).1 (Nat.zero_le _) (Nat.le_refl _)⟩, fun x hx => ⟨Nat.le_trans (hg0 x hx).2.1 (by omega), (hg0 x hx).2.2.1.1, (hg0 x hx).2.2.1.2⟩⟩, hb0, fun x hx => (hg0 x hx).2.2.2⟩
end
end Go.Proofs.YtjlpoigcalfdlaaDoor
namespace Go.Proofs.YtjlpoigcalfdlaaDoor
open Go Go.RowKit Go.Sort
open Go.Maps (Keyed)
set_option linter.unusedVariables false
theorem strK : Keyed Tryd.prog 9 := Maps.string_keyed Tryd.underlying9
theorem strKey {T : ByteArray} (h : T.size ≤ 140737488355328) : keyOf Tryd.prog 9 (.string T) = some (.string T.data.toList) := Go.WideMaps.keyOf_string_mk Tryd.underlying9 (by unfold maxLen; omega)
theorem intZ (w : World) : (zeroValue 3).run Tryd.prog w = .ok (.int .i64 0) w := by kernel_rfl
theorem boxes_is {w w' : World} {P : Program} {k : TypeId} {R : Value → Option (DataW Unit × List MemPlace)} {b n : Nat} {D : DataW Unit} (h : w.ownsMap P k R b n D) (hb : w'.heap[b]? = w.heap[b]?) : w'.ownsMap P k R b n D := by
  obtain ⟨es, clock, h1, h2⟩ := h
  exact ⟨es, clock, hb.trans h1, h2⟩
/-- block b is a map that tells how often each name is bound -/
structure MapIs (w : World) (b m : Nat) (e : Bnd) : Prop where
  out : ∃ D : DataW Unit, w.ownsMap Tryd.prog 9 (plainElem Tryd.prog 3) b m D ∧ ∀ s, D.atKey (.string s) (.lit (.int .i64 0)) = .lit (.int .i64 (e.count s))
section
variable {w w' : World} {b m : Nat} {e : Bnd}
theorem MapIs.made (w : World) : MapIs (w.alloc (.map #[] 0)) w.heap.size 0 [] := ⟨_, World.ownsMap_made _ _ _ _, fun s => rfl⟩
theorem MapIs.same (h : MapIs w b m e) (hb : w'.heap[b]? = w.heap[b]?) : MapIs w' b m e := by
  obtain ⟨D, h1, h2⟩ := h.out
  exact ⟨D, boxes_is h1 hb, h2⟩
theorem MapIs.lt (h : MapIs w b m e) : b < w.heap.size := by
  obtain ⟨D, h1, h2⟩ := h.out
  exact h1.lt
theorem MapIs.after (h : MapIs w b m e) (hb : Below w.heap.size w w') : MapIs w' b m e := h.same (hb.block _ h.lt)
theorem MapIs.mono {m' : Nat} (h : MapIs w b m e) (hm : m ≤ m') : MapIs w b m' e := by
  obtain ⟨D, h1, h2⟩ := h.out
  exact ⟨D, h1.mono hm, h2⟩
theorem MapIs.walk (h : MapIs w b m e) : ∃ o : Obj, w.heap[b]? = some o ∧ ∃ es c, o = .map es c := by
  obtain ⟨D, ⟨es, clock, h1, _⟩, h2⟩ := h.out
  exact ⟨_, h1, es, clock, rfl⟩
/-- what is looked up -/
theorem MapIs.look (h : MapIs w b m e) {T : ByteArray} (hT : T.size ≤ 140737488355328) : (Instr.lookup 62 (.map (some b)) (.string T) false).run Tryd.prog w = .ok (.int .i64 (e.count T.data.toList)) w := by
  obtain ⟨D, h1, h2⟩ := h.out
  obtain ⟨c, hr, ha, _⟩ := h1.lookup_int strK Tryd.underlying62 Tryd.underlying3 (intZ w) (strKey hT)
  rw [h2] at ha
  simp only [DataW.lit.injEq, Lit.int.injEq, true_and] at ha
  rw [hr, ha]
theorem count_wf (e : Bnd) (s : List UInt8) (he : e.length ≤ 1000000) (d : Int) (hd : -1000000 ≤ d ∧ d ≤ 1000000) : (Lit.int .i64 ((e.count s : Int) + d)).wf = true := by
  have : e.count s ≤ e.length := List.count_le_length
  have h1 : IntKind.i64.min = -9223372036854775808 := by decide
  have h2 : IntKind.i64.max = 9223372036854775807 := by decide
  simp only [Lit.wf, Bool.and_eq_true, decide_eq_true_eq, h1, h2]
  omega
/-- one more binding -/
theorem MapIs.up (h : MapIs w b m e) {T : ByteArray} (hT : T.size ≤ 140737488355328) (he : e.length ≤ 1000000) (hm : m ≤ 1000000) : ∃ w', (Instr.mapUpdate 62 (.map (some b)) (.string T) (.int .i64 ((e.count T.data.toList : Int) + 1))).run Tryd.prog w = .ok () w' ∧ MapIs w' b (m + 1) (T.data.toList :: e) ∧ w.grownBy w' (some b) := by
  obtain ⟨D, h1, h2⟩ := h.out
  obtain ⟨w', hr, ho, hg⟩ := h1.update strK Tryd.underlying62 (by unfold maxLen; omega) (strKey hT) (plainElem_int Tryd.underlying3 (count_wf e T.data.toList he 1 (by omega)))
  refine ⟨w', hr, ⟨_, ho, fun s => ?_⟩, hg⟩
  by_cases hs : s = T.data.toList
  · subst hs
    rw [Maps.atKey_put_same h1.isMap (strK.key (strKey hT)), List.count_cons_self]
    simp
  · rw [Maps.atKey_put_other (by intro hc; injection hc with hc; exact hs hc), h2, List.count_cons_of_ne (Ne.symm hs)]
/-- one binding less -/
theorem MapIs.down {T : ByteArray} (h : MapIs w b m (T.data.toList :: e)) (hT : T.size ≤ 140737488355328) (he : e.length ≤ 1000000) (hm : m ≤ 1000000) : ∃ w', (Instr.mapUpdate 62 (.map (some b)) (.string T) (.int .i64 (e.count T.data.toList))).run Tryd.prog w = .ok () w' ∧ MapIs w' b (m + 1) e ∧ w.grownBy w' (some b) := by
  obtain ⟨D, h1, h2⟩ := h.out
  obtain ⟨w', hr, ho, hg⟩ := h1.update strK Tryd.underlying62 (by unfold maxLen; omega) (strKey hT) (plainElem_int Tryd.underlying3 (by have := count_wf e T.data.toList he 0 (by omega); rwa [Int.add_zero] at this))
  refine ⟨w', hr, ⟨_, ho, fun s => ?_⟩, hg⟩
  by_cases hs : s = T.data.toList
  · subst hs
    rw [Maps.atKey_put_same h1.isMap (strK.key (strKey hT))]
  · rw [Maps.atKey_put_other (by intro hc; injection hc with hc; exact hs hc), h2, List.count_cons_of_ne (Ne.symm hs)]
/-- a name that isn't bound is taken out -/
theorem MapIs.drop (h : MapIs w b m e) {T : ByteArray} (hT : T.size ≤ 140737488355328) (h0 : e.count T.data.toList = 0) (ty : TypeId) : ∃ w', (Builtin.delete_ #[62, 9] ty #[.map (some b), .string T]).run Tryd.prog w = .ok (.tuple #[]) w' ∧ MapIs w' b m e ∧ w.grownBy w' (some b) := by
  obtain ⟨D, h1, h2⟩ := h.out
  obtain ⟨w', hr, ho, hg⟩ := h1.drop strK Tryd.underlying62 (strKey hT) ty
  refine ⟨w', hr, ⟨_, ho, fun s => ?_⟩, hg.grown⟩
  by_cases hs : s = T.data.toList
  · subst hs
    rw [Maps.atKey_del_same, h0]; rfl
  · rw [Maps.atKey_del_other (by intro hc; injection hc with hc; exact hs hc), h2]
end
end Go.Proofs.YtjlpoigcalfdlaaDoor
