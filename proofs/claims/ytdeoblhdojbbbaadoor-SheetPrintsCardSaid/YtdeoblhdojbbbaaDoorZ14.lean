/-
  THE LIBRARY's THREE TABLES as the row of SheetPrints lists them; a start in which they lie so. A MODEL AS AN ARGUMENT: what the reading of it tells of the cells, and how great its lists may be.
-/
import Derived.Test.YtdeoblhdojbbbaaDoorZ13
import Derived.Test.YtdeoblhdojbbbaaDoorCards
import Derived.Test.YtdeoblhdojbbbaaDoorTie
import Derived.ProofKit
import Derived.OpenShut
import Derived.Deep.DeepHandedRow
import Derived.Deep.DeepWitnessRowRef
import Derived.Stop.LaidErr
import Derived.SizedLaws
import Derived.Deep.Slices
import Derived.Deep.SlicePairs
import Derived.Deep.Fields
import Derived.ChangeSame
import Derived.ChangeSlices
namespace Go.Proofs.YtdeoblhdojbbbaaDoor
open Go Go.RowKit Go.ChangeShapes Go.WideShapes Go.ChangeAt Go.Deep Go.Sort
set_option linter.unusedVariables false
theorem own : ownKnob Tryd.prog.godebug = none := by kernel_rfl
theorem gTabType : (Tryd.prog.globals[0]?).map (·.type) = some 98 := by kernel_rfl
theorem cellsU64 : Tryd.prog.cellsOf 86 = 1 := by kernel_rfl
theorem cellsTab : Tryd.prog.cellsOf 98 = 20 := by kernel_rfl
/-- what the row's list gives -/
theorem env_of {W : World} (h : laidMetH Tryd.prog Rows.sheetPrintsRow.laid W) : TabEnv W :=
  Lib.tabIs_of_head (zs := Lib.pow10Tab) gTab gTabType Tryd.underlying98 Tryd.underlying86 cellsU64 cellsTab (laidMet.tail (laidMet.tail h))
def putO (cs : Array Value) : Obj → Obj
  | .cells _ t frozen => .cells cs t frozen
  | o => o
/-- a start: the settled world, the listed variables as their initialisers lay them -/
noncomputable def laidWorld (os : Os) : World :=
  let w0 := World.holding Tryd.prog os ⟨#[], #[], []⟩
  { w0 with heap := (((w0.heap.modify 0 (putO (Lib.pow10Tab.map (Value.int .u64)).toArray)).modify 1 (putO (([0, 1, 28, 2, 29, 14, 24, 3, 30, 22, 20, 15, 25, 17, 4, 8, 31, 27, 13, 23, 21, 19, 16, 7, 26, 12, 18, 6, 11, 5, 10, 9] : List Int).map (Value.int .u8)).toArray)).modify 2 (putO (([0, 1, 56, 2, 57, 49, 28, 3, 61, 58, 42, 50, 38, 29, 17, 4, 62, 47, 59, 36, 45, 43, 51, 22, 53, 39, 33, 30, 24, 18, 12, 5, 63, 55, 48, 27, 60, 41, 37, 16, 46, 35, 44, 21, 52, 32, 23, 11, 54, 26, 40, 15, 34, 20, 31, 10, 25, 14, 19, 9, 13, 8, 7, 6] : List Int).map (Value.int .u8)).toArray)) }
theorem laid_met (os : Os) (args : Array Value) : laidMet Tryd.prog Rows.sheetPrintsRow.laid ((laidWorld os).forCall (fun _ _ => 0) ⟨#[], args, []⟩).memory :=
  laidMet_of_run' 8 (by kernel_rfl) (by kernel_rfl)
section
variable {H : Type} {enc : TypeId × Value → H} {w : World} {base : Nat} {spare : Nat → Bool} {held : Bool} {RW : Nat}
theorem weights_all {P : Program} {e : TypeId} : ∀ {l : List (DataW H)} {d : DataW H}, d ∈ l → ∀ m ∈ d.weights P e, m ∈ DataW.weightsAll P e l
  | x :: r, d, h, m, hm => by
    simp only [DataW.weightsAll, List.mem_append]
    rcases List.mem_cons.1 h with rfl | h
    · exact .inl hm
    · exact .inr (weights_all h m hm)
theorem weights_slice {P : Program} {t e : TypeId} {l sp : List (DataW H)} {d : DataW H} (ht : P.underlying t = some (.slice e)) (h : d ∈ l) {m : Nat} (hm : m ∈ d.weights P e) : m ∈ (DataW.slice l sp).weights P t := by
  simp only [DataW.weights, ht, List.mem_cons, List.mem_append]
  exact .inr (.inl (weights_all h m hm))
theorem weights_struct {P : Program} {t : TypeId} {fs : Array Field} {l : List (DataW H)} (ht : P.underlying t = some (.struct fs)) {j : Nat} {f : Field} {d : DataW H} (hf : fs[j]? = some f) (hd : l[j]? = some d) {m : Nat} (hm : m ∈ d.weights P f.type) : m ∈ (DataW.agg l).weights P t := by
  simp only [DataW.weights, ht]
  refine DataW.weights_mem_each (j := j) (t := f.type) (d := d) ?_ hd m hm
  rw [List.getElem?_map, Array.getElem?_toList, hf]; rfl
/-- a struct of one-cell fields: each field's cell, with its reading, and the weights of that -/
theorem fields_w {P : Program} {e : TypeId} {fs : Array Field} {fuel : Nat} {cs : List Value} {x : DataW H × List MemPlace} (he : P.underlying e = some (.struct fs)) (hone : oneCellFields P fs = true) (hlen : cs.length = fs.size)
    (h : DataW.trod enc P w base spare held fuel e cs = some x) (hz : ∀ m ∈ x.1.weights P e, m ≤ RW) :
    ∃ n : Nat, ∀ (j : Nat) (f : Field), fs[j]? = some f → ∃ (v : Value) (y : DataW H × List MemPlace), cs[j]? = some v ∧ DataW.trod enc P w base spare held n f.type [v] = some y ∧ ∀ m ∈ y.1.weights P f.type, m ≤ RW := by
  obtain ⟨ys, n, _, rfl, hl, hys, hf⟩ := DataW.trod_struct he h
  refine ⟨n, fun j f hj => ?_⟩
  have hjs : j < fs.size := (Array.getElem?_eq_some_iff.1 hj).1
  have hjl : j < cs.length := by omega
  have hjy : j < ys.length := by omega
  obtain ⟨o1, o2⟩ := hone_of hone j f hj
  have h1 := hf j f hj
  rw [o1, o2, List.drop_eq_getElem_cons hjl, List.take_succ_cons, List.take_zero, List.getElem?_eq_getElem hjy] at h1
  refine ⟨cs[j], ys[j], List.getElem?_eq_getElem hjl, h1, fun m hm => hz m (weights_struct he hj (l := ys.map (·.1)) (j := j) ?_ hm)⟩
  rw [List.getElem?_map, List.getElem?_eq_getElem hjy]; rfl
/-- an element in memory: its cells, and what is told of it -/
def ElemW {α : Type} (RW : Nat) (enc : TypeId × Value → H) (w : World) (base : Nat) (spare : Nat → Bool) (held : Bool) (E : TypeId) (C : α → List Value) (G : α → Prop) : Prop :=
  ∀ (fuel : Nat) (cs : List Value) (x : DataW H × List MemPlace), cs.length = Tryd.prog.cellsOf E → DataW.trod enc Tryd.prog w base spare held fuel E cs = some x → (∀ m ∈ x.1.weights Tryd.prog E, m ≤ RW) → ∃ q : α, cs = C q ∧ G q
/-- a slice of such elements -/
theorem list_w {α : Type} [Inhabited α] {T E : TypeId} {s : Nat} {C : α → List Value} {G : α → Prop} (hT : Tryd.prog.underlying T = some (.slice E)) (hs : Tryd.prog.cellsOf E = s) (h0 : 0 < s) (hC : ∀ a, (C a).length = s)
    (elem : ElemW RW enc w base spare held E C G) {fuel : Nat} {v : Value} {x : DataW H × List MemPlace} (h : DataW.trod enc Tryd.prog w base spare held fuel T [v] = some x) (hz : ∀ m ∈ x.1.weights Tryd.prog T, m ≤ RW) :
    ∃ (A : Option Addr) (n c : Nat) (l : List α), v = .slice A n c ∧ n = l.length ∧ Row w base w.heap.size s A n c (l.flatMap C) ∧ (∀ g ∈ l, G g) ∧ n * Tryd.prog.bytesOf E ≤ RW := by
  rcases open_slice hT h with ⟨hv, rfl⟩ | ⟨a, len, cap, m, k, D, Pl, hv, hb, hl, hm, hmm, rfl, hx⟩
  · obtain rfl : v = .slice none 0 0 := by simpa using hv
    exact ⟨none, 0, 0, [], rfl, rfl, Row.nil _ _ _ _, by simp, by omega⟩
  · obtain rfl : v = .slice (some a) len cap := by simpa using hv
    have hle : len ≤ m := by rw [hmm]; split <;> omega
    obtain ⟨F, hF⟩ := choose_lt (α := α) (n := len) (p := fun i q => (∀ r u, (C q)[r]? = some u → w.cell? (a.add (i * s + r)) = some u) ∧ G q) (fun i hi => by
      obtain ⟨cs', h1, h2⟩ := hx i (by omega)
      obtain ⟨_, hlen, hat⟩ := World.cells?_some h1
      obtain ⟨q, hq, hG⟩ := elem _ cs' _ hlen h2 (fun m hm => hz m (weights_slice hT (List.mem_map_of_mem (List.mem_range.2 hi)) hm))
      subst hq
      refine ⟨q, fun r u hr => ?_, hG⟩
      have hrs : r < s := by rw [← hC q]; exact (List.getElem?_eq_some_iff.1 hr).1
      have := hat r (by rw [hs]; exact hrs)
      rw [hs, Go.Deep.add_add] at this
      rw [this]; exact hr)
    have hg : ∀ i p, ((List.range len).map F)[i]? = some p → i < len ∧ p = F i := by
      intro i p hp
      rw [List.getElem?_map] at hp
      obtain ⟨j, hj, rfl⟩ := Option.map_eq_some_iff.1 hp
      obtain ⟨h1, h2⟩ := List.getElem?_eq_some_iff.1 hj
      rw [List.getElem_range] at h2
      subst h2
      exact ⟨by simpa using h1, rfl⟩
    refine ⟨some a, len, cap, (List.range len).map F, rfl, by simp, ?_, fun g hgm => ?_, ?_⟩
    · refine row_of (by rw [flatN_len hC]; simp) h0 hl hm hb ?_
      refine flat_cells hC h0 _ a (fun i p hp r u hr => ?_)
      obtain ⟨hi, rfl⟩ := hg i p hp
      exact (hF i hi).1 r u hr
    · obtain ⟨i, hi⟩ := List.getElem?_of_mem hgm
      obtain ⟨h1, rfl⟩ := hg i g hi
      exact (hF i h1).2
    · have := hz ((len + (m - len)) * Tryd.prog.bytesOf E) (by
        simp only [DataW.weights, hT, List.length_map, List.length_range]
        exact List.mem_cons_self)
      have h3 : len * Tryd.prog.bytesOf E ≤ (len + (m - len)) * Tryd.prog.bytesOf E := Nat.mul_le_mul_right _ (by omega)
      omega
theorem num_w : ElemW RW enc w base spare held 3 (fun i : Int => [.int .i64 i]) (fun _ => True) := by
  intro fuel cs x hlen h hz
  obtain ⟨s, e, _, _⟩ := DataW.trod_int Tryd.underlying3 h
  exact ⟨s, e, trivial⟩
theorem flat_num (l : List Int) : l.flatMap (fun i : Int => [Value.int .i64 i]) = intCells l := by unfold intCells; induction l with
  | nil => rfl
  | cons x l ih => simp [ih]
theorem prop_w : ElemW RW enc w base spare held 56 (fun p : ByteArray × ByteArray => [.string p.1, .string p.2]) (fun p => p.1.size ≤ maxLen ∧ p.2.size ≤ maxLen) := by
  intro fuel cs x hlen h hz
  obtain ⟨n, hf⟩ := fields_w Tryd.underlying56 (by kernel_rfl) (by rw [hlen]; kernel_rfl) h hz
  replace hlen : cs.length = 2 := by rw [hlen]; kernel_rfl
  match cs, hlen with
  | [k0, k1], _ =>
    obtain ⟨v0, y0, q0, t0, z0⟩ := hf 0 _ rfl
    obtain rfl : k0 = v0 := by simpa using q0
    obtain ⟨v1, y1, q1, t1, z1⟩ := hf 1 _ rfl
    obtain rfl : k1 = v1 := by simpa using q1
    obtain ⟨s0, e0, _, f0⟩ := DataW.trod_string (by kernel_rfl) t0
    obtain rfl : k0 = .string s0 := by simpa using e0
    obtain ⟨s1, e1, _, f1⟩ := DataW.trod_string (by kernel_rfl) t1
    obtain rfl : k1 = .string s1 := by simpa using e1
    exact ⟨(s0, s1), rfl, f0, f1⟩
theorem ref_w : ElemW RW enc w base spare held 59 (fun p : ByteArray × Int => [.string p.1, .int .i64 p.2]) (fun p => p.1.size ≤ maxLen) := by
  intro fuel cs x hlen h hz
  obtain ⟨n, hf⟩ := fields_w Tryd.underlying59 (by kernel_rfl) (by rw [hlen]; kernel_rfl) h hz
  replace hlen : cs.length = 2 := by rw [hlen]; kernel_rfl
  match cs, hlen with
  | [k0, k1], _ =>
    obtain ⟨v0, y0, q0, t0, z0⟩ := hf 0 _ rfl
    obtain rfl : k0 = v0 := by simpa using q0
    obtain ⟨v1, y1, q1, t1, z1⟩ := hf 1 _ rfl
    obtain rfl : k1 = v1 := by simpa using q1
    obtain ⟨s0, e0, _, f0⟩ := DataW.trod_string (by kernel_rfl) t0
    obtain rfl : k0 = .string s0 := by simpa using e0
    obtain ⟨s1, e1, _, _⟩ := DataW.trod_int (by kernel_rfl) t1
    obtain rfl : k1 = .int .i64 s1 := by simpa using e1
    exact ⟨(s0, s1), rfl, f0⟩
/-- a node's lists: where they lie, and how long they are at most -/
def NdW (RW : Nat) (w : World) (base : Nat) (q : Nd × Leaf) : Prop := LeafIn w base w.heap.size q.1 q.2 ∧ q.1.props.length ≤ RW ∧ q.1.refs.length ≤ RW ∧ q.1.kids.length ≤ RW
set_option maxRecDepth 20000 in
theorem nd_w : ElemW RW enc w base spare held 37 ndCells (NdW RW w base) := by
  intro fuel cs x hlen h hz
  obtain ⟨n, hf⟩ := fields_w Tryd.underlying37 (by kernel_rfl) (by rw [hlen]; kernel_rfl) h hz
  replace hlen : cs.length = 7 := by rw [hlen]; kernel_rfl
  match cs, hlen with
  | [k0, k1, k2, k3, k4, k5, k6], _ =>
    obtain ⟨v0, y0, q0, t0, z0⟩ := hf 0 _ rfl
    obtain rfl : k0 = v0 := by simpa using q0
    obtain ⟨v1, y1, q1, t1, z1⟩ := hf 1 _ rfl
    obtain rfl : k1 = v1 := by simpa using q1
    obtain ⟨v2, y2, q2, t2, z2⟩ := hf 2 _ rfl
    obtain rfl : k2 = v2 := by simpa using q2
    obtain ⟨v3, y3, q3, t3, z3⟩ := hf 3 _ rfl
    obtain rfl : k3 = v3 := by simpa using q3
    obtain ⟨v4, y4, q4, t4, z4⟩ := hf 4 _ rfl
    obtain rfl : k4 = v4 := by simpa using q4
    obtain ⟨v5, y5, q5, t5, z5⟩ := hf 5 _ rfl
    obtain rfl : k5 = v5 := by simpa using q5
    obtain ⟨v6, y6, q6, t6, z6⟩ := hf 6 _ rfl
    obtain rfl : k6 = v6 := by simpa using q6
    obtain ⟨s0, e0, _, _⟩ := DataW.trod_int (by kernel_rfl) t0
    obtain rfl : k0 = .int .i64 s0 := by simpa using e0
    obtain ⟨s1, e1, _, f1⟩ := DataW.trod_string (by kernel_rfl) t1
    obtain rfl : k1 = .string s1 := by simpa using e1
    obtain ⟨s2, e2, _, _⟩ := DataW.trod_int (by kernel_rfl) t2
    obtain rfl : k2 = .int .i64 s2 := by simpa using e2
    obtain ⟨s3, e3, _, f3⟩ := DataW.trod_string (by kernel_rfl) t3
    obtain rfl : k3 = .string s3 := by simpa using e3
    obtain ⟨A4, n4, c4, l4, rfl, hn4, hr4, hg4, hb4⟩ := list_w (T := 33) (s := 2) (by kernel_rfl) (by kernel_rfl) (by omega) (fun _ => rfl) prop_w t4 z4
    obtain ⟨A5, n5, c5, l5, rfl, hn5, hr5, hg5, hb5⟩ := list_w (T := 34) (s := 1) (by kernel_rfl) (by kernel_rfl) (by omega) (fun _ => rfl) num_w t5 z5
    obtain ⟨A6, n6, c6, l6, rfl, hn6, hr6, hg6, hb6⟩ := list_w (T := 35) (s := 2) (by kernel_rfl) (by kernel_rfl) (by omega) (fun _ => rfl) ref_w t6 z6
    rw [flat_num] at hr5
    rw [show Tryd.prog.bytesOf 56 = 32 from by kernel_rfl] at hb4
    rw [show Tryd.prog.bytesOf 3 = 8 from by kernel_rfl] at hb5
    rw [show Tryd.prog.bytesOf 59 = 24 from by kernel_rfl] at hb6
    exact ⟨(⟨s0, s1, s2, s3, l4, l5, l6⟩, ⟨⟨A4, n4, c4⟩, ⟨A5, n5, c5⟩, ⟨A6, n6, c6⟩⟩), rfl, ⟨hn4, hn5, hn6, hr4, hr5, hr6, ⟨f1, f3, hg4, hg6⟩⟩, (by omega : l4.length ≤ RW), (by omega : l6.length ≤ RW), (by omega : l5.length ≤ RW)⟩
set_option maxRecDepth 20000 in
/-- a model handed in, opened -/
theorem model_openR {r : Reach} {b0 : Nat} {v : Value} {d : DataW H} {p : List MemPlace} (hv : Value.okWide Tryd.prog w r b0 24 v) (h : DataW.Trod enc Tryd.prog w base spare held 24 v d p)
    (hz : ∀ m ∈ d.weights Tryd.prog 24, m ≤ RW) : ∃ (next : Int) (A : Option Addr) (n c : Nat) (nds : List Nd), v = .agg #[.int .i64 next, .slice A n c] ∧ NodesIn w 0 w.heap.size A n c nds ∧ ∀ nd ∈ nds, nd.props.length ≤ RW ∧ nd.refs.length ≤ RW ∧ nd.kids.length ≤ RW := by
  obtain ⟨cs0, rfl, hsz⟩ := okWide_struct Tryd.underlying24 hv
  obtain ⟨fuel, hfu⟩ := h
  obtain ⟨cs, hcs⟩ : ∃ cs, cs = cs0.toList := ⟨_, rfl⟩
  have hcs' : cs0 = cs.toArray := by rw [hcs]
  subst hcs'
  replace hfu : DataW.trod enc Tryd.prog w base spare held fuel 24 cs = some (d, p) := by simpa [Value.cells] using hfu
  have hlen : cs.length = Tryd.prog.cellsOf 24 := by simpa using hsz
  obtain ⟨n, hf⟩ := fields_w Tryd.underlying24 (by kernel_rfl) (by rw [hlen]; kernel_rfl) hfu hz
  replace hlen : cs.length = 2 := by rw [hlen]; kernel_rfl
  clear hcs hv hsz
  match cs, hlen with
  | [k0, k1], _ =>
    obtain ⟨v0, y0, q0, t0, z0⟩ := hf 0 _ rfl
    obtain rfl : k0 = v0 := by simpa using q0
    obtain ⟨v1, y1, q1, t1, z1⟩ := hf 1 _ rfl
    obtain rfl : k1 = v1 := by simpa using q1
    obtain ⟨s0, e0, _, _⟩ := DataW.trod_int (by kernel_rfl) t0
    obtain rfl : k0 = .int .i64 s0 := by simpa using e0
    obtain ⟨A0, n0, c0, l0, rfl, hn0, hr0, hg0, hb0⟩ := list_w (T := 22) (s := 7) (by kernel_rfl) (by kernel_rfl) (by omega) (fun _ => rfl) nd_w t1 z1
    refine ⟨s0, A0, n0, c0, l0.map (·.1), rfl, ⟨by rw [List.length_map, hn0], hr0.2.1, hr0.2.2.1, fun h0 => ?_⟩, fun nd hnd => ?_⟩
    · obtain ⟨b, o, hA, hb1, hb2, hc⟩ := hr0.2.2.2 h0
      refine ⟨b, o, hA, Nat.zero_le _, hb2, fun i => ((l0[i]?).map (·.2)).getD ⟨⟨none, 0, 0⟩, ⟨none, 0, 0⟩, ⟨none, 0, 0⟩⟩, fun i nd hi => ?_⟩
      rw [List.getElem?_map] at hi
      obtain ⟨q, hq, rfl⟩ := Option.map_eq_some_iff.1 hi
      have key : ∀ j u, j < 7 → (ndCells q)[j]? = some u → w.cell? ⟨b, o + i * 7 + j, none⟩ = some u := by
        intro j u hj hu
        have := hc (i * 7 + j) u (by rw [flatN_get ndCells_len _ i _ hq j hj]; exact hu)
        rwa [Nat.add_assoc]
      simp only [hq, Option.map_some, Option.getD_some]
      exact ⟨⟨key 0 _ (by omega) rfl, key 1 _ (by omega) rfl, key 2 _ (by omega) rfl, key 3 _ (by omega) rfl, key 4 _ (by omega) rfl, key 5 _ (by omega) rfl, key 6 _ (by omega) rfl⟩, (hg0 q (List.mem_of_getElem? hq)).1.mono (Nat.zero_le _) (Nat.le_refl _)⟩
    · obtain ⟨q, hq, rfl⟩ := List.mem_map.1 hnd
      exact (hg0 q hq).2
/-- the form's reach, for an argument -/
theorem reach_at {ts : List TypeId} {ds : List (DataW H)} (h : (DataW.weightsEach Tryd.prog ts ds).all (· ≤ reachBytes) = true) {j : Nat} {t : TypeId} {d : DataW H} (ht : ts[j]? = some t) (hd : ds[j]? = some d) : ∀ m ∈ d.weights Tryd.prog t, m ≤ 140737488351232 := by
  intro m hm
  have := List.all_eq_true.1 h _ (DataW.weights_mem_each ht hd m hm)
  rw [decide_eq_true_eq] at this
  exact this
end
end Go.Proofs.YtdeoblhdojbbbaaDoor
