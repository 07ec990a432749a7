/-
  A MODEL AS AN ARGUMENT: what the reading of it tells of the cells, and how long its lists are.
  A LANGUAGE AS AN ARGUMENT: what the reading of it tells of the cells, and how great its lists may be.
-/
import Derived.Test.YtilemieknfdjnaaGreatZ23
import Derived.Test.YtilemieknfdjnaaGreatRows
import Derived.Deep.Slices
import Derived.Deep.SlicePairs
import Derived.Deep.Fields
import Derived.ChangeSame
import Derived.ChangeSlices
import Derived.Lib.SmallJoins
import Derived.Carry
namespace Go.Proofs.YtilemieknfdjnaaGreat
open Go Go.RowKit Go.Sort Go.ChangeShapes Go.WideShapes Go.Deep Go.Joins
set_option linter.unusedVariables false
theorem cell_spot {w : World} {a : Addr} {u : Value} (h : w.cell? a = some u) : a.spot = none := by
  unfold World.cell? at h
  split at h
  · split at h
    · cases h
    · rename_i hs
      cases ha : a.spot with
      | none => rfl
      | some k => rw [ha] at hs; simp at hs
  · cases h
theorem add_zero_ (a : Addr) : a.add 0 = a := by unfold Addr.add; simp
theorem addr_plain {a : Addr} (h : a.spot = none) : a = ⟨a.block, a.off, none⟩ := by
  obtain ⟨b, o, s⟩ := a
  obtain rfl : s = none := h
  rfl
/-- cells of an own kind, by the elements' index -/
theorem flat_cells {α : Type} {w : World} {f : α → List Value} {s : Nat} (hs : ∀ a, (f a).length = s) (h0 : 0 < s) (l : List α) (a : Addr)
    (h : ∀ i p, l[i]? = some p → ∀ r u, (f p)[r]? = some u → w.cell? (a.add (i * s + r)) = some u) : ∀ j u, (l.flatMap f)[j]? = some u → w.cell? (a.add j) = some u := by
  intro j u hj
  have hl : j < l.length * s := by rw [← flatN_len hs l]; exact (List.getElem?_eq_some_iff.1 hj).1
  have hd : j / s < l.length := Nat.div_lt_of_lt_mul (by rwa [Nat.mul_comm] at hl)
  have hr : j % s < s := Nat.mod_lt _ h0
  have he : j / s * s + j % s = j := by rw [Nat.mul_comm]; exact Nat.div_add_mod j s
  have hp : l[j / s]? = some l[j / s] := List.getElem?_eq_getElem hd
  have := h (j / s) _ hp (j % s) u (by rw [← flatN_get hs l (j / s) _ hp _ hr, he]; exact hj)
  rwa [he] at this
theorem row_of {w : World} {base n c size : Nat} {a : Addr} {xs : List Value} (hlen : xs.length = n * size) (h0 : 0 < size) (hn : n ≤ c) (hm : c ≤ maxLen) (hb : base ≤ a.block)
    (hc : ∀ j u, xs[j]? = some u → w.cell? (a.add j) = some u) : Row w base w.heap.size size (some a) n c xs := by
  refine ⟨hlen, hn, hm, fun hp => ?_⟩
  have hl : 0 < xs.length := by rw [hlen]; exact Nat.mul_pos hp h0
  have h1 := hc 0 _ (List.getElem?_eq_getElem hl)
  rw [add_zero_] at h1
  have ha := addr_plain (cell_spot h1)
  have hlt := block_lt_of_cell h1
  refine ⟨a.block, a.off, by rw [← ha], hb, hlt, fun j u hu => ?_⟩
  · have := hc j u hu
    rw [ha, Addr.add_lit] at this; exact this
section
variable {H : Type}
theorem bulk_pos (d : DataW H) : 1 ≤ Rows.uptoBulk d := by unfold Rows.uptoBulk; split <;> omega
theorem bulk_len : ∀ (l : List (DataW H)), l.length ≤ Rows.uptoBulkAll l
  | [] => Nat.zero_le _
  | x :: r => by
    rw [Rows.uptoBulkAll, List.length_cons]
    have := bulk_len r
    have := bulk_pos x
    omega
end
section
variable {H : Type} {enc : TypeId × Value → H} {w : World} {base : Nat} {spare : Nat → Bool} {held : Bool}
theorem spare_le {spare : Nat → Bool} {b len cap m : Nat} (hl : len ≤ cap) (hm : m = (if spare b then cap else len)) : len ≤ m := by rw [hm]; split <;> omega
instance ndLeafInhabited : Inhabited (Nd × Leaf) := ⟨(⟨0, ByteArray.empty, 0, ByteArray.empty, [], [], []⟩, ⟨⟨none, 0, 0⟩, ⟨none, 0, 0⟩, ⟨none, 0, 0⟩⟩)⟩
end
section
variable {H : Type} {enc : TypeId × Value → H} {P : Program}
/-- what the row asks behind the call, where all that was there before lies as it lay: the same readings again -/
theorem post_read {f : Func} {s : ChangeSpec} {W W' : World} {args : Array Value} {v : Value} {ds gs : List (DataW H)} {before q : List MemPlace} (hW : DataW.Whole enc P f.params.toList s.vars false W args.toList ds gs before)
    (hres : DataW.TrodAll enc P W' W.heap.size (fun _ => false) false f.resultTypes.toList (v.resultList f.resultTypes.size) (s.fn H (ds ++ gs)).results [])
    (hargs : DataW.TrodAll enc P W' 0 (fun b => decide (b < W.heap.size)) true f.params.toList args.toList (s.fn H (ds ++ gs)).args q)
    (hvars : DataW.TrodVars enc P W' (fun b => decide (b < W.heap.size)) s.vars (s.fn H (ds ++ gs)).vars []) (hb : Below W.heap.size W W') :
    s.post enc P f false true false false W args v W' :=
  ⟨ds, gs, before, [], q, [], hW, hres, hargs, hvars, hb.frame _, fun h => by cases h⟩
end
end Go.Proofs.YtilemieknfdjnaaGreat
namespace Go.Proofs.YtilemieknfdjnaaGreat
open Go Go.RowKit Go.Sort Go.ChangeShapes Go.WideShapes Go.Deep Go.Joins
set_option linter.unusedVariables false
/-- how great a language's sides and texts may be -/
structure Sized (N : Nat) (x : LangM) : Prop where
  q : ∀ g ∈ x.qs, (∀ p ∈ g.ls, p.1.args.length * 8 ≤ N) ∧ ∀ p ∈ g.rs, p.1.args.length * 8 ≤ N
  e : ∀ g ∈ x.es, ∀ c ∈ g.1.cells, c.text.size ≤ N ∧ c.mark.size ≤ N
  t : ∀ g ∈ x.ts, ∀ c ∈ g.1.cells, c.text.size ≤ N ∧ c.mark.size ≤ N
section
variable {H : Type} {enc : TypeId × Value → H} {w : World} {base : Nat} {spare : Nat → Bool} {held : Bool} {RB : Nat}
theorem weights_all {P : Program} {e : TypeId} : ∀ {l : List (DataW H)} {d : DataW H}, d ∈ l → ∀ m ∈ d.weights P e, m ∈ DataW.weightsAll P e l
  | x :: r, d, h, m, hm => by
    simp only [DataW.weightsAll, List.mem_append]
    rcases List.mem_cons.1 h with rfl | h
    · exact .inl hm
    · exact .inr (weights_all h m hm)
theorem weights_slice {P : Program} {t e : TypeId} {l sp : List (DataW H)} {d : DataW H} (ht : P.underlying t = some (.slice e)) (h : d ∈ l) {m : Nat} (hm : m ∈ d.weights P e) : m ∈ (DataW.slice l sp).weights P t := by
  simp only [DataW.weights, ht, List.mem_cons, List.mem_append]
  exact .inr (.inl (weights_all h m hm))
theorem weights_struct {P : Program} {t : TypeId} {fs : Array Field} {l : List (DataW H)} (ht : P.underlying t = some (.struct fs)) {j : Nat} {f : Field} {d : DataW H} (hf : fs[j]? = some f) (hd : l[j]? = some d) {m : Nat} (hm : m ∈ d.weights P f.type) : m ∈ (DataW.agg l).weights P t := by
  simp only [DataW.weights, ht]
  refine DataW.weights_mem_each (j := j) (t := f.type) (d := d) ?_ hd m hm
  rw [List.getElem?_map, Array.getElem?_toList, hf]; rfl
/-- a struct of one-cell fields: each field's cell, with its reading, and the weights of that -/
theorem fields_w {P : Program} {e : TypeId} {fs : Array Field} {fuel : Nat} {cs : List Value} {x : DataW H × List MemPlace} (he : P.underlying e = some (.struct fs)) (hone : oneCellFields P fs = true) (hlen : cs.length = fs.size)
    (h : DataW.trod enc P w base spare held fuel e cs = some x) (hz : ∀ m ∈ x.1.weights P e, m ≤ RB) :
    ∃ n : Nat, ∀ (j : Nat) (f : Field), fs[j]? = some f → ∃ (v : Value) (y : DataW H × List MemPlace), cs[j]? = some v ∧ DataW.trod enc P w base spare held n f.type [v] = some y ∧ ∀ m ∈ y.1.weights P f.type, m ≤ RB := by
  obtain ⟨ys, n, _, rfl, hl, hys, hf⟩ := DataW.trod_struct he h
  refine ⟨n, fun j f hj => ?_⟩
  have hjs : j < fs.size := (Array.getElem?_eq_some_iff.1 hj).1
  have hjl : j < cs.length := by omega
  have hjy : j < ys.length := by omega
  obtain ⟨o1, o2⟩ := hone_of hone j f hj
  have h1 := hf j f hj
  rw [o1, o2, List.drop_eq_getElem_cons hjl, List.take_succ_cons, List.take_zero, List.getElem?_eq_getElem hjy] at h1
  refine ⟨cs[j], ys[j], List.getElem?_eq_getElem hjl, h1, fun m hm => hz m (weights_struct he hj (l := ys.map (·.1)) (j := j) ?_ hm)⟩
  rw [List.getElem?_map, List.getElem?_eq_getElem hjy]; rfl
/-- an element in memory: its cells, and what is told of it -/
def ElemW {α : Type} (RB : Nat) (enc : TypeId × Value → H) (w : World) (base : Nat) (spare : Nat → Bool) (held : Bool) (E : TypeId) (C : α → List Value) (G : α → Prop) : Prop :=
  ∀ (fuel : Nat) (cs : List Value) (x : DataW H × List MemPlace), cs.length = Tryz.prog.cellsOf E → DataW.trod enc Tryz.prog w base spare held fuel E cs = some x → (∀ m ∈ x.1.weights Tryz.prog E, m ≤ RB) → ∃ q : α, cs = C q ∧ G q
/-- a slice of such elements -/
theorem list_w {α : Type} [Inhabited α] {T E : TypeId} {s : Nat} {C : α → List Value} {G : α → Prop} (hT : Tryz.prog.underlying T = some (.slice E)) (hs : Tryz.prog.cellsOf E = s) (h0 : 0 < s) (hC : ∀ a, (C a).length = s)
    (elem : ElemW RB enc w base spare held E C G) {fuel : Nat} {v : Value} {x : DataW H × List MemPlace} (h : DataW.trod enc Tryz.prog w base spare held fuel T [v] = some x) (hz : ∀ m ∈ x.1.weights Tryz.prog T, m ≤ RB) :
    ∃ (A : Option Addr) (n c : Nat) (l : List α), v = .slice A n c ∧ n = l.length ∧ Row w base w.heap.size s A n c (l.flatMap C) ∧ (∀ g ∈ l, G g) ∧ n * Tryz.prog.bytesOf E ≤ RB := by
  rcases open_slice hT h with ⟨hv, rfl⟩ | ⟨a, len, cap, m, k, D, Pl, hv, hb, hl, hm, hmm, rfl, hx⟩
  · obtain rfl : v = .slice none 0 0 := by simpa using hv
    exact ⟨none, 0, 0, [], rfl, rfl, Row.nil _ _ _ _, by simp, by omega⟩
  · obtain rfl : v = .slice (some a) len cap := by simpa using hv
    have hle := spare_le hl hmm
    obtain ⟨F, hF⟩ := choose_lt (α := α) (n := len) (p := fun i q => (∀ r u, (C q)[r]? = some u → w.cell? (a.add (i * s + r)) = some u) ∧ G q) (fun i hi => by
      obtain ⟨cs', h1, h2⟩ := hx i (by omega)
      obtain ⟨_, hlen, hat⟩ := World.cells?_some h1
      obtain ⟨q, hq, hG⟩ := elem _ cs' _ hlen h2 (fun m hm => hz m (weights_slice hT (List.mem_map_of_mem (List.mem_range.2 hi)) hm))
      subst hq
      refine ⟨q, fun r u hr => ?_, hG⟩
      have hrs : r < s := by rw [← hC q]; exact (List.getElem?_eq_some_iff.1 hr).1
      have := hat r (by rw [hs]; exact hrs)
      rw [hs, Go.Deep.add_add] at this
      rw [this]; exact hr)
    have hg : ∀ i p, ((List.range len).map F)[i]? = some p → i < len ∧ p = F i := by
      intro i p hp
      rw [List.getElem?_map] at hp
      obtain ⟨j, hj, rfl⟩ := Option.map_eq_some_iff.1 hp
      obtain ⟨h1, h2⟩ := List.getElem?_eq_some_iff.1 hj
      rw [List.getElem_range] at h2
      subst h2
      exact ⟨by simpa using h1, rfl⟩
    refine ⟨some a, len, cap, (List.range len).map F, rfl, by simp, ?_, fun g hgm => ?_, ?_⟩
    · refine row_of (by rw [flatN_len hC]; simp) h0 hl hm hb ?_
      refine flat_cells hC h0 _ a (fun i p hp r u hr => ?_)
      obtain ⟨hi, rfl⟩ := hg i p hp
      exact (hF i hi).1 r u hr
    · obtain ⟨i, hi⟩ := List.getElem?_of_mem hgm
      obtain ⟨h1, rfl⟩ := hg i g hi
      exact (hF i h1).2
    · have := hz ((len + (m - len)) * Tryz.prog.bytesOf E) (by
        simp only [DataW.weights, hT, List.length_map, List.length_range]
        exact List.mem_cons_self)
      have h3 : len * Tryz.prog.bytesOf E ≤ (len + (m - len)) * Tryz.prog.bytesOf E := Nat.mul_le_mul_right _ (by omega)
      omega
instance inhPropD : Inhabited PropD := ⟨⟨ByteArray.empty, 0⟩⟩
instance inhKidD : Inhabited KidD := ⟨⟨ByteArray.empty, ByteArray.empty, 0, 0⟩⟩
instance inhRefD : Inhabited RefD := ⟨⟨ByteArray.empty, ByteArray.empty, false⟩⟩
instance inhRuleD : Inhabited RuleD := ⟨⟨ByteArray.empty, ByteArray.empty, false, ByteArray.empty⟩⟩
instance inhCellD : Inhabited CellD := ⟨⟨0, ByteArray.empty, ByteArray.empty⟩⟩
instance inhConD : Inhabited (ConD × Leaf) := ⟨(⟨ByteArray.empty, ByteArray.empty, false, [], [], []⟩, ⟨⟨none, 0, 0⟩, ⟨none, 0, 0⟩, ⟨none, 0, 0⟩⟩)⟩
instance inhSideD : Inhabited (SideD × Sl) := ⟨(⟨0, ByteArray.empty, 0, []⟩, ⟨none, 0, 0⟩)⟩
instance inhEqM : Inhabited EqM := ⟨⟨ByteArray.empty, ⟨none, 0, 0⟩, [], ⟨none, 0, 0⟩, []⟩⟩
instance inhRowD : Inhabited (RowD × Sl) := ⟨(⟨ByteArray.empty, []⟩, ⟨none, 0, 0⟩)⟩
set_option maxRecDepth 20000 in
theorem pd_w : ElemW RB enc w base spare held 85 pdC (fun _ => True) := by
  intro fuel cs x hlen h hz
  obtain ⟨n, hf⟩ := fields_w Tryz.underlying85 (by kernel_rfl) (by rw [hlen]; kernel_rfl) h hz
  replace hlen : cs.length = 2 := by rw [hlen]; kernel_rfl
  match cs, hlen with
  | [k0, k1], _ =>
    obtain ⟨v0, y0, q0, t0, z0⟩ := hf 0 _ rfl
    obtain rfl : k0 = v0 := by simpa using q0
    obtain ⟨v1, y1, q1, t1, z1⟩ := hf 1 _ rfl
    obtain rfl : k1 = v1 := by simpa using q1
    obtain ⟨s0, e0, _, _⟩ := DataW.trod_string (by kernel_rfl) t0
    obtain rfl : k0 = .string s0 := by simpa using e0
    obtain ⟨s1, e1, _, _⟩ := DataW.trod_int (by kernel_rfl) t1
    obtain rfl : k1 = .int .i64 s1 := by simpa using e1
    exact ⟨⟨s0, s1⟩, rfl, trivial⟩
set_option maxRecDepth 20000 in
theorem kd_w : ElemW RB enc w base spare held 62 kdC (fun _ => True) := by
  intro fuel cs x hlen h hz
  obtain ⟨n, hf⟩ := fields_w Tryz.underlying62 (by kernel_rfl) (by rw [hlen]; kernel_rfl) h hz
  replace hlen : cs.length = 4 := by rw [hlen]; kernel_rfl
  match cs, hlen with
  | [k0, k1, k2, k3], _ =>
    obtain ⟨v0, y0, q0, t0, z0⟩ := hf 0 _ rfl
    obtain rfl : k0 = v0 := by simpa using q0
    obtain ⟨v1, y1, q1, t1, z1⟩ := hf 1 _ rfl
    obtain rfl : k1 = v1 := by simpa using q1
    obtain ⟨v2, y2, q2, t2, z2⟩ := hf 2 _ rfl
    obtain rfl : k2 = v2 := by simpa using q2
    obtain ⟨v3, y3, q3, t3, z3⟩ := hf 3 _ rfl
    obtain rfl : k3 = v3 := by simpa using q3
    obtain ⟨s0, e0, _, _⟩ := DataW.trod_string (by kernel_rfl) t0
    obtain rfl : k0 = .string s0 := by simpa using e0
    obtain ⟨s1, e1, _, _⟩ := DataW.trod_string (by kernel_rfl) t1
    obtain rfl : k1 = .string s1 := by simpa using e1
    obtain ⟨s2, e2, _, _⟩ := DataW.trod_int (by kernel_rfl) t2
    obtain rfl : k2 = .int .i64 s2 := by simpa using e2
    obtain ⟨s3, e3, _, _⟩ := DataW.trod_int (by kernel_rfl) t3
    obtain rfl : k3 = .int .i64 s3 := by simpa using e3
    exact ⟨⟨s0, s1, s2, s3⟩, rfl, trivial⟩
set_option maxRecDepth 20000 in
theorem rd_w : ElemW RB enc w base spare held 87 rdC (fun _ => True) := by
  intro fuel cs x hlen h hz
  obtain ⟨n, hf⟩ := fields_w Tryz.underlying87 (by kernel_rfl) (by rw [hlen]; kernel_rfl) h hz
  replace hlen : cs.length = 3 := by rw [hlen]; kernel_rfl
  match cs, hlen with
  | [k0, k1, k2], _ =>
    obtain ⟨v0, y0, q0, t0, z0⟩ := hf 0 _ rfl
    obtain rfl : k0 = v0 := by simpa using q0
    obtain ⟨v1, y1, q1, t1, z1⟩ := hf 1 _ rfl
    obtain rfl : k1 = v1 := by simpa using q1
    obtain ⟨v2, y2, q2, t2, z2⟩ := hf 2 _ rfl
    obtain rfl : k2 = v2 := by simpa using q2
    obtain ⟨s0, e0, _, _⟩ := DataW.trod_string (by kernel_rfl) t0
    obtain rfl : k0 = .string s0 := by simpa using e0
    obtain ⟨s1, e1, _, _⟩ := DataW.trod_string (by kernel_rfl) t1
    obtain rfl : k1 = .string s1 := by simpa using e1
    obtain ⟨s2, e2, _⟩ := DataW.trod_bool (by kernel_rfl) t2
    obtain rfl : k2 = .bool s2 := by simpa using e2
    exact ⟨⟨s0, s1, s2⟩, rfl, trivial⟩
set_option maxRecDepth 20000 in
theorem ru_w : ElemW RB enc w base spare held 49 ruC (fun _ => True) := by
  intro fuel cs x hlen h hz
  obtain ⟨n, hf⟩ := fields_w Tryz.underlying49 (by kernel_rfl) (by rw [hlen]; kernel_rfl) h hz
  replace hlen : cs.length = 4 := by rw [hlen]; kernel_rfl
  match cs, hlen with
  | [k0, k1, k2, k3], _ =>
    obtain ⟨v0, y0, q0, t0, z0⟩ := hf 0 _ rfl
    obtain rfl : k0 = v0 := by simpa using q0
    obtain ⟨v1, y1, q1, t1, z1⟩ := hf 1 _ rfl
    obtain rfl : k1 = v1 := by simpa using q1
    obtain ⟨v2, y2, q2, t2, z2⟩ := hf 2 _ rfl
    obtain rfl : k2 = v2 := by simpa using q2
    obtain ⟨v3, y3, q3, t3, z3⟩ := hf 3 _ rfl
    obtain rfl : k3 = v3 := by simpa using q3
    obtain ⟨s0, e0, _, _⟩ := DataW.trod_string (by kernel_rfl) t0
    obtain rfl : k0 = .string s0 := by simpa using e0
    obtain ⟨s1, e1, _, _⟩ := DataW.trod_string (by kernel_rfl) t1
    obtain rfl : k1 = .string s1 := by simpa using e1
    obtain ⟨s2, e2, _⟩ := DataW.trod_bool (by kernel_rfl) t2
    obtain rfl : k2 = .bool s2 := by simpa using e2
    obtain ⟨s3, e3, _, _⟩ := DataW.trod_string (by kernel_rfl) t3
    obtain rfl : k3 = .string s3 := by simpa using e3
    exact ⟨⟨s0, s1, s2, s3⟩, rfl, trivial⟩
set_option maxRecDepth 20000 in
theorem ce_w : ElemW RB enc w base spare held 74 ceC (fun c => c.text.size ≤ RB ∧ c.mark.size ≤ RB) := by
  intro fuel cs x hlen h hz
  obtain ⟨n, hf⟩ := fields_w Tryz.underlying74 (by kernel_rfl) (by rw [hlen]; kernel_rfl) h hz
  replace hlen : cs.length = 3 := by rw [hlen]; kernel_rfl
  match cs, hlen with
  | [k0, k1, k2], _ =>
    obtain ⟨v0, y0, q0, t0, z0⟩ := hf 0 _ rfl
    obtain rfl : k0 = v0 := by simpa using q0
    obtain ⟨v1, y1, q1, t1, z1⟩ := hf 1 _ rfl
    obtain rfl : k1 = v1 := by simpa using q1
    obtain ⟨v2, y2, q2, t2, z2⟩ := hf 2 _ rfl
    obtain rfl : k2 = v2 := by simpa using q2
    obtain ⟨s0, e0, _, _⟩ := DataW.trod_int (by kernel_rfl) t0
    obtain rfl : k0 = .int .i64 s0 := by simpa using e0
    obtain ⟨s1, e1, w1, _⟩ := DataW.trod_string (by kernel_rfl) t1
    obtain rfl : k1 = .string s1 := by simpa using e1
    have u1 : s1.size ≤ RB := z1 _ (by rw [w1]; simp only [DataW.weights, List.mem_singleton]; exact (toList_eq s1).symm)
    obtain ⟨s2, e2, w2, _⟩ := DataW.trod_string (by kernel_rfl) t2
    obtain rfl : k2 = .string s2 := by simpa using e2
    have u2 : s2.size ≤ RB := z2 _ (by rw [w2]; simp only [DataW.weights, List.mem_singleton]; exact (toList_eq s2).symm)
    exact ⟨⟨s0, s1, s2⟩, rfl, ⟨u1, u2⟩⟩
set_option maxRecDepth 20000 in
theorem pi_w : ElemW RB enc w base spare held 77 ceC (fun c => c.text.size ≤ RB ∧ c.mark.size ≤ RB) := by
  intro fuel cs x hlen h hz
  obtain ⟨n, hf⟩ := fields_w Tryz.underlying77 (by kernel_rfl) (by rw [hlen]; kernel_rfl) h hz
  replace hlen : cs.length = 3 := by rw [hlen]; kernel_rfl
  match cs, hlen with
  | [k0, k1, k2], _ =>
    obtain ⟨v0, y0, q0, t0, z0⟩ := hf 0 _ rfl
    obtain rfl : k0 = v0 := by simpa using q0
    obtain ⟨v1, y1, q1, t1, z1⟩ := hf 1 _ rfl
    obtain rfl : k1 = v1 := by simpa using q1
    obtain ⟨v2, y2, q2, t2, z2⟩ := hf 2 _ rfl
    obtain rfl : k2 = v2 := by simpa using q2
    obtain ⟨s0, e0, _, _⟩ := DataW.trod_int (by kernel_rfl) t0
    obtain rfl : k0 = .int .i64 s0 := by simpa using e0
    obtain ⟨s1, e1, w1, _⟩ := DataW.trod_string (by kernel_rfl) t1
    obtain rfl : k1 = .string s1 := by simpa using e1
    have u1 : s1.size ≤ RB := z1 _ (by rw [w1]; simp only [DataW.weights, List.mem_singleton]; exact (toList_eq s1).symm)
    obtain ⟨s2, e2, w2, _⟩ := DataW.trod_string (by kernel_rfl) t2
    obtain rfl : k2 = .string s2 := by simpa using e2
    have u2 : s2.size ≤ RB := z2 _ (by rw [w2]; simp only [DataW.weights, List.mem_singleton]; exact (toList_eq s2).symm)
    exact ⟨⟨s0, s1, s2⟩, rfl, ⟨u1, u2⟩⟩
theorem txt_w : ElemW RB enc w base spare held 9 (fun s : ByteArray => [.string s]) (fun _ => True) := by
  intro fuel cs x hlen h hz
  obtain ⟨s, e, _, _⟩ := DataW.trod_string Tryz.underlying9 h
  exact ⟨s, e, trivial⟩
theorem num_w : ElemW RB enc w base spare held 3 (fun i : Int => [.int .i64 i]) (fun _ => True) := by
  intro fuel cs x hlen h hz
  obtain ⟨s, e, _, _⟩ := DataW.trod_int Tryz.underlying3 h
  exact ⟨s, e, trivial⟩
theorem flat_txt (l : List ByteArray) : l.flatMap (fun s : ByteArray => [Value.string s]) = strCells l := by unfold strCells; induction l with
  | nil => rfl
  | cons x l ih => simp [ih]
theorem flat_num (l : List Int) : l.flatMap (fun i : Int => [Value.int .i64 i]) = intCells l := by unfold intCells; induction l with
  | nil => rfl
  | cons x l ih => simp [ih]
set_option maxRecDepth 20000 in
theorem side_w : ElemW RB enc w base spare held 141 sideC (fun p => SideIn w base w.heap.size p ∧ p.1.args.length * 8 ≤ RB) := by
  intro fuel cs x hlen h hz
  obtain ⟨n, hf⟩ := fields_w Tryz.underlying141 (by kernel_rfl) (by rw [hlen]; kernel_rfl) h hz
  replace hlen : cs.length = 4 := by rw [hlen]; kernel_rfl
  match cs, hlen with
  | [k0, k1, k2, k3], _ =>
    obtain ⟨v0, y0, q0, t0, z0⟩ := hf 0 _ rfl
    obtain rfl : k0 = v0 := by simpa using q0
    obtain ⟨v1, y1, q1, t1, z1⟩ := hf 1 _ rfl
    obtain rfl : k1 = v1 := by simpa using q1
    obtain ⟨v2, y2, q2, t2, z2⟩ := hf 2 _ rfl
    obtain rfl : k2 = v2 := by simpa using q2
    obtain ⟨v3, y3, q3, t3, z3⟩ := hf 3 _ rfl
    obtain rfl : k3 = v3 := by simpa using q3
    obtain ⟨s0, e0, _, _⟩ := DataW.trod_int (by kernel_rfl) t0
    obtain rfl : k0 = .int .i64 s0 := by simpa using e0
    obtain ⟨s1, e1, _, _⟩ := DataW.trod_string (by kernel_rfl) t1
    obtain rfl : k1 = .string s1 := by simpa using e1
    obtain ⟨s2, e2, _, _⟩ := DataW.trod_int (by kernel_rfl) t2
    obtain rfl : k2 = .int .i64 s2 := by simpa using e2
    obtain ⟨A3, n3, c3, l3, rfl, hn3, hr3, hg3, hb3⟩ := list_w (T := 79) (s := 1) (by kernel_rfl) (by kernel_rfl) (by omega) (fun _ => rfl) num_w t3 z3
    rw [flat_num] at hr3
    have hb8 : Tryz.prog.bytesOf 3 = 8 := by kernel_rfl
    rw [hb8] at hb3
    exact ⟨(⟨s0, s1, s2, l3⟩, ⟨A3, n3, c3⟩), rfl, ⟨hn3, hr3⟩, by simp only; omega⟩
set_option maxRecDepth 20000 in
theorem eq_w : ElemW RB enc w base spare held 52 eqC (fun g => EqIn w base w.heap.size g ∧ (∀ p ∈ g.ls, p.1.args.length * 8 ≤ RB) ∧ ∀ p ∈ g.rs, p.1.args.length * 8 ≤ RB) := by
  intro fuel cs x hlen h hz
  obtain ⟨n, hf⟩ := fields_w Tryz.underlying52 (by kernel_rfl) (by rw [hlen]; kernel_rfl) h hz
  replace hlen : cs.length = 3 := by rw [hlen]; kernel_rfl
  match cs, hlen with
  | [k0, k1, k2], _ =>
    obtain ⟨v0, y0, q0, t0, z0⟩ := hf 0 _ rfl
    obtain rfl : k0 = v0 := by simpa using q0
    obtain ⟨v1, y1, q1, t1, z1⟩ := hf 1 _ rfl
    obtain rfl : k1 = v1 := by simpa using q1
    obtain ⟨v2, y2, q2, t2, z2⟩ := hf 2 _ rfl
    obtain rfl : k2 = v2 := by simpa using q2
    obtain ⟨s0, e0, _, _⟩ := DataW.trod_string (by kernel_rfl) t0
    obtain rfl : k0 = .string s0 := by simpa using e0
    obtain ⟨A1, n1, c1, l1, rfl, hn1, hr1, hg1, hb1⟩ := list_w (T := 50) (s := 4) (by kernel_rfl) (by kernel_rfl) (by omega) (fun _ => rfl) side_w t1 z1
    obtain ⟨A2, n2, c2, l2, rfl, hn2, hr2, hg2, hb2⟩ := list_w (T := 50) (s := 4) (by kernel_rfl) (by kernel_rfl) (by omega) (fun _ => rfl) side_w t2 z2
    exact ⟨⟨s0, ⟨A1, n1, c1⟩, l1, ⟨A2, n2, c2⟩, l2⟩, rfl, ⟨⟨hn1, hr1, fun g hg => (hg1 g hg).1⟩, ⟨hn2, hr2, fun g hg => (hg2 g hg).1⟩⟩, fun g hg => (hg1 g hg).2, fun g hg => (hg2 g hg).2⟩
set_option maxRecDepth 20000 in
theorem con_w : ElemW RB enc w base spare held 47 conC (fun g => ConIn w base w.heap.size g) := by
  intro fuel cs x hlen h hz
  obtain ⟨n, hf⟩ := fields_w Tryz.underlying47 (by kernel_rfl) (by rw [hlen]; kernel_rfl) h hz
  replace hlen : cs.length = 6 := by rw [hlen]; kernel_rfl
  match cs, hlen with
  | [k0, k1, k2, k3, k4, k5], _ =>
    obtain ⟨v0, y0, q0, t0, z0⟩ := hf 0 _ rfl
    obtain rfl : k0 = v0 := by simpa using q0
    obtain ⟨v1, y1, q1, t1, z1⟩ := hf 1 _ rfl
    obtain rfl : k1 = v1 := by simpa using q1
    obtain ⟨v2, y2, q2, t2, z2⟩ := hf 2 _ rfl
    obtain rfl : k2 = v2 := by simpa using q2
    obtain ⟨v3, y3, q3, t3, z3⟩ := hf 3 _ rfl
    obtain rfl : k3 = v3 := by simpa using q3
    obtain ⟨v4, y4, q4, t4, z4⟩ := hf 4 _ rfl
    obtain rfl : k4 = v4 := by simpa using q4
    obtain ⟨v5, y5, q5, t5, z5⟩ := hf 5 _ rfl
    obtain rfl : k5 = v5 := by simpa using q5
    obtain ⟨s0, e0, _, _⟩ := DataW.trod_string (by kernel_rfl) t0
    obtain rfl : k0 = .string s0 := by simpa using e0
    obtain ⟨s1, e1, _, _⟩ := DataW.trod_string (by kernel_rfl) t1
    obtain rfl : k1 = .string s1 := by simpa using e1
    obtain ⟨s2, e2, _⟩ := DataW.trod_bool (by kernel_rfl) t2
    obtain rfl : k2 = .bool s2 := by simpa using e2
    obtain ⟨A3, n3, c3, l3, rfl, hn3, hr3, hg3, hb3⟩ := list_w (T := 43) (s := 2) (by kernel_rfl) (by kernel_rfl) (by omega) (fun _ => rfl) pd_w t3 z3
    obtain ⟨A4, n4, c4, l4, rfl, hn4, hr4, hg4, hb4⟩ := list_w (T := 44) (s := 4) (by kernel_rfl) (by kernel_rfl) (by omega) (fun _ => rfl) kd_w t4 z4
    obtain ⟨A5, n5, c5, l5, rfl, hn5, hr5, hg5, hb5⟩ := list_w (T := 45) (s := 3) (by kernel_rfl) (by kernel_rfl) (by omega) (fun _ => rfl) rd_w t5 z5
    exact ⟨(⟨s0, s1, s2, l3, l4, l5⟩, ⟨⟨A3, n3, c3⟩, ⟨A4, n4, c4⟩, ⟨A5, n5, c5⟩⟩), rfl, ⟨hn3, hn4, hn5, hr3, hr4, hr5⟩⟩
set_option maxRecDepth 20000 in
theorem ed_w : ElemW RB enc w base spare held 55 rowC (fun g => RowIn w base w.heap.size g ∧ ∀ c ∈ g.1.cells, c.text.size ≤ RB ∧ c.mark.size ≤ RB) := by
  intro fuel cs x hlen h hz
  obtain ⟨n, hf⟩ := fields_w Tryz.underlying55 (by kernel_rfl) (by rw [hlen]; kernel_rfl) h hz
  replace hlen : cs.length = 2 := by rw [hlen]; kernel_rfl
  match cs, hlen with
  | [k0, k1], _ =>
    obtain ⟨v0, y0, q0, t0, z0⟩ := hf 0 _ rfl
    obtain rfl : k0 = v0 := by simpa using q0
    obtain ⟨v1, y1, q1, t1, z1⟩ := hf 1 _ rfl
    obtain rfl : k1 = v1 := by simpa using q1
    obtain ⟨s0, e0, _, _⟩ := DataW.trod_string (by kernel_rfl) t0
    obtain rfl : k0 = .string s0 := by simpa using e0
    obtain ⟨A1, n1, c1, l1, rfl, hn1, hr1, hg1, hb1⟩ := list_w (T := 53) (s := 3) (by kernel_rfl) (by kernel_rfl) (by omega) (fun _ => rfl) ce_w t1 z1
    exact ⟨(⟨s0, l1⟩, ⟨A1, n1, c1⟩), rfl, ⟨hn1, hr1⟩, hg1⟩
set_option maxRecDepth 20000 in
theorem te_w : ElemW RB enc w base spare held 58 rowC (fun g => RowIn w base w.heap.size g ∧ ∀ c ∈ g.1.cells, c.text.size ≤ RB ∧ c.mark.size ≤ RB) := by
  intro fuel cs x hlen h hz
  obtain ⟨n, hf⟩ := fields_w Tryz.underlying58 (by kernel_rfl) (by rw [hlen]; kernel_rfl) h hz
  replace hlen : cs.length = 2 := by rw [hlen]; kernel_rfl
  match cs, hlen with
  | [k0, k1], _ =>
    obtain ⟨v0, y0, q0, t0, z0⟩ := hf 0 _ rfl
    obtain rfl : k0 = v0 := by simpa using q0
    obtain ⟨v1, y1, q1, t1, z1⟩ := hf 1 _ rfl
    obtain rfl : k1 = v1 := by simpa using q1
    obtain ⟨s0, e0, _, _⟩ := DataW.trod_string (by kernel_rfl) t0
    obtain rfl : k0 = .string s0 := by simpa using e0
    obtain ⟨A1, n1, c1, l1, rfl, hn1, hr1, hg1, hb1⟩ := list_w (T := 56) (s := 3) (by kernel_rfl) (by kernel_rfl) (by omega) (fun _ => rfl) pi_w t1 z1
    exact ⟨(⟨s0, l1⟩, ⟨A1, n1, c1⟩), rfl, ⟨hn1, hr1⟩, hg1⟩
set_option maxRecDepth 20000 in
/-- a language handed in, opened -/
theorem lang_openC {r : Reach} {b0 : Nat} {v : Value} {d : DataW H} {p : List MemPlace} (hv : Value.okWide Tryz.prog w r b0 29 v) (h : DataW.Trod enc Tryz.prog w base spare held 29 v d p)
    (hz : ∀ m ∈ d.weights Tryz.prog 29, m ≤ RB) (hRB : RB ≤ 140737488351232) : ∃ y : LangM, v = .agg (langC y).toArray ∧ LangIn w base w.heap.size y ∧ Room4 y ∧ Sized RB y := by
  obtain ⟨cs0, rfl, hsz⟩ := okWide_struct Tryz.underlying29 hv
  obtain ⟨fuel, hfu⟩ := h
  obtain ⟨cs, hcs⟩ : ∃ cs, cs = cs0.toList := ⟨_, rfl⟩
  have hcs' : cs0 = cs.toArray := by rw [hcs]
  subst hcs'
  replace hfu : DataW.trod enc Tryz.prog w base spare held fuel 29 cs = some (d, p) := by simpa [Value.cells] using hfu
  have hlen : cs.length = Tryz.prog.cellsOf 29 := by simpa using hsz
  obtain ⟨n, hf⟩ := fields_w Tryz.underlying29 (by kernel_rfl) (by rw [hlen]; kernel_rfl) hfu hz
  replace hlen : cs.length = 8 := by rw [hlen]; kernel_rfl
  clear hcs hv hsz
  match cs, hlen with
  | [k0, k1, k2, k3, k4, k5, k6, k7], _ =>
    obtain ⟨v0, y0, q0, t0, z0⟩ := hf 0 _ rfl
    obtain rfl : k0 = v0 := by simpa using q0
    obtain ⟨v1, y1, q1, t1, z1⟩ := hf 1 _ rfl
    obtain rfl : k1 = v1 := by simpa using q1
    obtain ⟨v2, y2, q2, t2, z2⟩ := hf 2 _ rfl
    obtain rfl : k2 = v2 := by simpa using q2
    obtain ⟨v3, y3, q3, t3, z3⟩ := hf 3 _ rfl
    obtain rfl : k3 = v3 := by simpa using q3
    obtain ⟨v4, y4, q4, t4, z4⟩ := hf 4 _ rfl
    obtain rfl : k4 = v4 := by simpa using q4
    obtain ⟨v5, y5, q5, t5, z5⟩ := hf 5 _ rfl
    obtain rfl : k5 = v5 := by simpa using q5
    obtain ⟨v6, y6, q6, t6, z6⟩ := hf 6 _ rfl
    obtain rfl : k6 = v6 := by simpa using q6
    obtain ⟨v7, y7, q7, t7, z7⟩ := hf 7 _ rfl
    obtain rfl : k7 = v7 := by simpa using q7
    obtain ⟨s0, e0, _, _⟩ := DataW.trod_string (by kernel_rfl) t0
    obtain rfl : k0 = .string s0 := by simpa using e0
    obtain ⟨s1, e1, _, _⟩ := DataW.trod_int (by kernel_rfl) t1
    obtain rfl : k1 = .int .i64 s1 := by simpa using e1
    obtain ⟨A2, n2, c2, l2, rfl, hn2, hr2, hg2, hb2⟩ := list_w (T := 22) (s := 1) (by kernel_rfl) (by kernel_rfl) (by omega) (fun _ => rfl) txt_w t2 z2
    obtain ⟨A3, n3, c3, l3, rfl, hn3, hr3, hg3, hb3⟩ := list_w (T := 23) (s := 6) (by kernel_rfl) (by kernel_rfl) (by omega) (fun _ => rfl) con_w t3 z3
    obtain ⟨A4, n4, c4, l4, rfl, hn4, hr4, hg4, hb4⟩ := list_w (T := 24) (s := 4) (by kernel_rfl) (by kernel_rfl) (by omega) (fun _ => rfl) ru_w t4 z4
    obtain ⟨A5, n5, c5, l5, rfl, hn5, hr5, hg5, hb5⟩ := list_w (T := 25) (s := 3) (by kernel_rfl) (by kernel_rfl) (by omega) (fun _ => rfl) eq_w t5 z5
    obtain ⟨A6, n6, c6, l6, rfl, hn6, hr6, hg6, hb6⟩ := list_w (T := 26) (s := 2) (by kernel_rfl) (by kernel_rfl) (by omega) (fun _ => rfl) ed_w t6 z6
    obtain ⟨A7, n7, c7, l7, rfl, hn7, hr7, hg7, hb7⟩ := list_w (T := 27) (s := 2) (by kernel_rfl) (by kernel_rfl) (by omega) (fun _ => rfl) te_w t7 z7
    rw [flat_txt] at hr2
    have b2 : Tryz.prog.bytesOf 9 = 16 := by kernel_rfl
    rw [b2] at hb2
    have b3 : Tryz.prog.bytesOf 47 = 112 := by kernel_rfl
    rw [b3] at hb3
    have b4 : Tryz.prog.bytesOf 49 = 56 := by kernel_rfl
    rw [b4] at hb4
    have b5 : Tryz.prog.bytesOf 52 = 64 := by kernel_rfl
    rw [b5] at hb5
    have b6 : Tryz.prog.bytesOf 55 = 40 := by kernel_rfl
    rw [b6] at hb6
    have b7 : Tryz.prog.bytesOf 58 = 40 := by kernel_rfl
    rw [b7] at hb7
    exact ⟨⟨s0, s1, ⟨A2, n2, c2⟩, l2, ⟨A3, n3, c3⟩, l3, ⟨A4, n4, c4⟩, l4, ⟨A5, n5, c5⟩, l5, ⟨A6, n6, c6⟩, l6, ⟨A7, n7, c7⟩, l7⟩, rfl,
      ⟨hn2, hr2, ⟨hn3, hr3, hg3⟩, hn4, hr4, ⟨hn5, hr5, fun g hg => (hg5 g hg).1⟩, ⟨hn6, hr6, fun g hg => (hg6 g hg).1⟩, ⟨hn7, hr7, fun g hg => (hg7 g hg).1⟩⟩,
      ⟨by simp only; omega, by simp only; omega, by simp only; omega, by simp only; omega, by simp only; omega, by simp only; omega, fun g hg => ⟨fun q hq => Nat.le_trans ((hg5 g hg).2.1 q hq) (by omega), fun q hq => Nat.le_trans ((hg5 g hg).2.2 q hq) (by omega)⟩⟩, ⟨fun g hg => (hg5 g hg).2, fun g hg => (hg6 g hg).2, fun g hg => (hg7 g hg).2⟩⟩
end
section
variable {H : Type} {P : Program} {K : Nat}
theorem bulk_entries : ∀ l : List (Lit × DataW H), l.length ≤ Rows.uptoBulkEntries l
  | [] => Nat.le_refl _
  | (k, d) :: r => by
    have := bulk_entries r
    have h1 : 1 ≤ Rows.uptoBulkEntry (k, d) := by unfold Rows.uptoBulkEntry; split <;> omega
    simp only [Rows.uptoBulkEntries, List.length_cons]
    omega
variable {L : List TypeId}
/-- a list of types in which the parts of each lie too, and whose elements aren't great -/
structure ClosedT (P : Program) (K : Nat) (L : List TypeId) : Prop where
  ptr : ∀ t e, t ∈ L → P.underlying t = some (.pointer e) → e ∈ L
  sl : ∀ t e, t ∈ L → P.underlying t = some (.slice e) → e ∈ L ∧ P.bytesOf e ≤ K
  st : ∀ t fs, t ∈ L → P.underlying t = some (.struct fs) → ∀ f ∈ fs.toList, f.type ∈ L
  ar : ∀ t n e, t ∈ L → P.underlying t = some (.array n e) → e ∈ L
  mp : ∀ t k e, t ∈ L → P.underlying t = some (.map k e) → e ∈ L ∧ P.bytesOf k ≤ K ∧ P.bytesOf e ≤ K
def closedB (P : Program) (K : Nat) (L : List TypeId) : Bool := L.all fun t => match P.underlying t with
  | some (.pointer e) => L.contains e
  | some (.slice e) => L.contains e && decide (P.bytesOf e ≤ K)
  | some (.struct fs) => fs.toList.all fun f => L.contains f.type
  | some (.array _ e) => L.contains e
  | some (.map k e) => L.contains e && (decide (P.bytesOf k ≤ K) && decide (P.bytesOf e ≤ K))
  | _ => true
theorem ClosedT.of (h : closedB P K L = true) : ClosedT P K L := by
  unfold closedB at h
  rw [List.all_eq_true] at h
  refine ⟨fun t e ht he => ?_, fun t e ht he => ?_, fun t fs ht he f hf => ?_, fun t n e ht he => ?_, fun t k e ht he => ?_⟩ <;> have := h t ht <;> rw [he] at this
  · simpa using this
  · simpa using this
  · have := List.all_eq_true.1 this f hf
    simpa using this
  · simpa using this
  · simpa using this
mutual
theorem weights_bulk (h1 : 1 ≤ K) (hc : ClosedT P K L) : ∀ (d : DataW H) (t : TypeId) (m : Nat), t ∈ L → m ∈ d.weights P t → m ≤ Rows.uptoBulk d * (2 * K)
  | .lit (.string b), t, m, ht, h => by
    simp only [DataW.weights, List.mem_singleton] at h
    subst h
    simp only [Rows.uptoBulk]
    exact Nat.le_trans (Nat.le_succ _) (Nat.le_mul_of_pos_right _ (by omega))
  | .lit (.int _ _), t, m, ht, h => by simp [DataW.weights] at h
  | .lit (.bool _), t, m, ht, h => by simp [DataW.weights] at h
  | .lit (.float _ _), t, m, ht, h => by simp [DataW.weights] at h
  | .lit .nil, t, m, ht, h => by simp [DataW.weights] at h
  | .nil, t, m, ht, h => by simp [DataW.weights] at h
  | .held _, t, m, ht, h => by simp [DataW.weights] at h
  | .iface _ _, t, m, ht, h => by simp [DataW.weights] at h
  | .ptr d, t, m, ht, h => by
    simp only [DataW.weights] at h
    split at h
    · rename_i e he
      have := weights_bulk h1 hc d _ m (hc.ptr t e ht he) h
      simp only [Rows.uptoBulk, Nat.add_mul]
      omega
    · simp at h
  | .slice es sp, t, m, ht, h => by
    simp only [DataW.weights] at h
    split at h
    · rename_i e he
      obtain ⟨hel, hK⟩ := hc.sl t e ht he
      simp only [Rows.uptoBulk, Nat.add_mul]
      rcases List.mem_cons.1 h with rfl | h
      · have a := bulk_len es
        have b := bulk_len sp
        have c : (es.length + sp.length) * P.bytesOf e ≤ (Rows.uptoBulkAll es + Rows.uptoBulkAll sp) * (2 * K) := Nat.mul_le_mul (by omega) (by omega)
        rw [Nat.add_mul (Rows.uptoBulkAll es)] at c
        omega
      · rcases List.mem_append.1 h with h | h
        · have := weights_bulkAll h1 hc es _ m hel h; omega
        · have := weights_bulkAll h1 hc sp _ m hel h; omega
    · simp at h
  | .agg ps, t, m, ht, h => by
    simp only [DataW.weights] at h
    simp only [Rows.uptoBulk, Nat.add_mul]
    split at h
    · rename_i fs hfs
      have := weights_bulkEach h1 hc ps _ m (fun u hu => by obtain ⟨f, hf, rfl⟩ := List.mem_map.1 hu; exact hc.st t fs ht hfs f hf) h; omega
    · rename_i q e he
      have := weights_bulkAll h1 hc ps _ m (hc.ar t q e ht he) h; omega
    · simp at h
  | .map es, t, m, ht, h => by
    simp only [DataW.weights] at h
    simp only [Rows.uptoBulk, Nat.add_mul]
    split at h
    · rename_i k e he
      obtain ⟨hel, hKk, hKe⟩ := hc.mp t k e ht he
      rcases List.mem_cons.1 h with rfl | h
      · have a := bulk_entries es
        have c : es.length * (P.bytesOf k + P.bytesOf e) ≤ Rows.uptoBulkEntries es * (2 * K) := Nat.mul_le_mul a (by omega)
        omega
      · have := weights_bulkEntries h1 hc es _ m hel h; omega
    · simp at h
theorem weights_bulkAll (h1 : 1 ≤ K) (hc : ClosedT P K L) : ∀ (l : List (DataW H)) (t : TypeId) (m : Nat), t ∈ L → m ∈ DataW.weightsAll P t l → m ≤ Rows.uptoBulkAll l * (2 * K)
  | [], t, m, ht, h => by simp [DataW.weightsAll] at h
  | d :: r, t, m, ht, h => by
    simp only [DataW.weightsAll] at h
    simp only [Rows.uptoBulkAll, Nat.add_mul]
    rcases List.mem_append.1 h with h | h
    · have := weights_bulk h1 hc d _ m ht h; omega
    · have := weights_bulkAll h1 hc r _ m ht h; omega
theorem weights_bulkEach (h1 : 1 ≤ K) (hc : ClosedT P K L) : ∀ (l : List (DataW H)) (ts : List TypeId) (m : Nat), (∀ t ∈ ts, t ∈ L) → m ∈ DataW.weightsEach P ts l → m ≤ Rows.uptoBulkAll l * (2 * K)
  | [], ts, m, ht, h => by cases ts <;> simp [DataW.weightsEach] at h
  | d :: r, [], m, ht, h => by simp [DataW.weightsEach] at h
  | d :: r, t :: ts, m, ht, h => by
    simp only [DataW.weightsEach] at h
    simp only [Rows.uptoBulkAll, Nat.add_mul]
    rcases List.mem_append.1 h with h | h
    · have := weights_bulk h1 hc d _ m (ht t (by simp)) h; omega
    · have := weights_bulkEach h1 hc r _ m (fun u hu => ht u (List.mem_cons_of_mem _ hu)) h; omega
theorem weights_bulkEntries (h1 : 1 ≤ K) (hc : ClosedT P K L) : ∀ (l : List (Lit × DataW H)) (t : TypeId) (m : Nat), t ∈ L → m ∈ DataW.weightsEntries P t l → m ≤ Rows.uptoBulkEntries l * (2 * K)
  | [], t, m, ht, h => by simp [DataW.weightsEntries] at h
  | x :: r, t, m, ht, h => by
    simp only [DataW.weightsEntries] at h
    simp only [Rows.uptoBulkEntries, Nat.add_mul]
    rcases List.mem_append.1 h with h | h
    · have := weights_bulkEntry h1 hc x _ m ht h; omega
    · have := weights_bulkEntries h1 hc r _ m ht h; omega
theorem weights_bulkEntry (h1 : 1 ≤ K) (hc : ClosedT P K L) : ∀ (x : Lit × DataW H) (t : TypeId) (m : Nat), t ∈ L → m ∈ DataW.weightsEntry P t x → m ≤ Rows.uptoBulkEntry x * (2 * K)
  | (.string b, d), t, m, ht, h => by
    simp only [DataW.weightsEntry] at h
    simp only [Rows.uptoBulkEntry, Nat.add_mul]
    rcases List.mem_cons.1 h with rfl | h
    · have : b.length ≤ b.length * (2 * K) := Nat.le_mul_of_pos_right _ (by omega)
      omega
    · have := weights_bulk h1 hc d _ m ht h; omega
  | (.int _ _, d), t, m, ht, h => by
    simp only [DataW.weightsEntry] at h
    simp only [Rows.uptoBulkEntry, Nat.add_mul]
    have := weights_bulk h1 hc d _ m ht h; omega
  | (.bool _, d), t, m, ht, h => by
    simp only [DataW.weightsEntry] at h
    simp only [Rows.uptoBulkEntry, Nat.add_mul]
    have := weights_bulk h1 hc d _ m ht h; omega
  | (.float _ _, d), t, m, ht, h => by
    simp only [DataW.weightsEntry] at h
    simp only [Rows.uptoBulkEntry, Nat.add_mul]
    have := weights_bulk h1 hc d _ m ht h; omega
  | (.nil, d), t, m, ht, h => by
    simp only [DataW.weightsEntry] at h
    simp only [Rows.uptoBulkEntry, Nat.add_mul]
    have := weights_bulk h1 hc d _ m ht h; omega
end
end
end Go.Proofs.YtilemieknfdjnaaGreat
