/-
  A MODEL AS AN ARGUMENT: what the reading of it tells of the cells, and how great its lists may be (with the variables as the rows of the four list them).
  A MODEL's TEXT IS READ, in plain mathematics, line by line, as the document's own reader does (topiaryref03.Parse): takesV, parseV.
  WHERE THE LAST NODES STAND, in plain mathematics: the way from the last root down to the last node, and what a node more makes of it.
  A LINE AS THE PROGRAM READS IT (cut at the first sign), in plain mathematics, and that it is the document's reading of the line.
  A LINE WHOLE, as the program reads it, in plain mathematics: it is the document's reading.
-/
import Derived.Test.YtjjlofaejpnnnaaGreatDoorZB7
import Derived.Test.YtjjlofaejpnnnaaGreatDoorCards
import Derived.Test.YtjjlofaejpnnnaaGreatDoorTie
import Derived.ProofKit
import Derived.OpenShut
import Derived.Deep.DeepHandedRow
import Derived.Deep.DeepWitnessRowRef
import Derived.Stop.LaidErr
import Derived.SizedLaws
import Derived.Deep.Slices
import Derived.Deep.SlicePairs
import Derived.Deep.Fields
import Derived.ChangeSame
import Derived.ChangeSlices
namespace Go.Proofs.YtjjlofaejpnnnaaGreatDoor
open Go Go.RowKit Go.ChangeShapes Go.WideShapes Go.ChangeAt Go.Deep Go.Sort
set_option linter.unusedVariables false
section
variable {H : Type} {enc : TypeId × Value → H} {w : World} {base : Nat} {spare : Nat → Bool} {held : Bool} {RW : Nat}
theorem weights_all {P : Program} {e : TypeId} : ∀ {l : List (DataW H)} {d : DataW H}, d ∈ l → ∀ m ∈ d.weights P e, m ∈ DataW.weightsAll P e l
  | x :: r, d, h, m, hm => by
    simp only [DataW.weightsAll, List.mem_append]
    rcases List.mem_cons.1 h with rfl | h
    · exact .inl hm
    · exact .inr (weights_all h m hm)
theorem weights_slice {P : Program} {t e : TypeId} {l sp : List (DataW H)} {d : DataW H} (ht : P.underlying t = some (.slice e)) (h : d ∈ l) {m : Nat} (hm : m ∈ d.weights P e) : m ∈ (DataW.slice l sp).weights P t := by
  simp only [DataW.weights, ht, List.mem_cons, List.mem_append]
  exact .inr (.inl (weights_all h m hm))
theorem weights_struct {P : Program} {t : TypeId} {fs : Array Field} {l : List (DataW H)} (ht : P.underlying t = some (.struct fs)) {j : Nat} {f : Field} {d : DataW H} (hf : fs[j]? = some f) (hd : l[j]? = some d) {m : Nat} (hm : m ∈ d.weights P f.type) : m ∈ (DataW.agg l).weights P t := by
  simp only [DataW.weights, ht]
  refine DataW.weights_mem_each (j := j) (t := f.type) (d := d) ?_ hd m hm
  rw [List.getElem?_map, Array.getElem?_toList, hf]; rfl
/-- a struct of one-cell fields: each field's cell, with its reading, and the weights of that -/
theorem fields_w {P : Program} {e : TypeId} {fs : Array Field} {fuel : Nat} {cs : List Value} {x : DataW H × List MemPlace} (he : P.underlying e = some (.struct fs)) (hone : oneCellFields P fs = true) (hlen : cs.length = fs.size)
    (h : DataW.trod enc P w base spare held fuel e cs = some x) (hz : ∀ m ∈ x.1.weights P e, m ≤ RW) :
    ∃ n : Nat, ∀ (j : Nat) (f : Field), fs[j]? = some f → ∃ (v : Value) (y : DataW H × List MemPlace), cs[j]? = some v ∧ DataW.trod enc P w base spare held n f.type [v] = some y ∧ ∀ m ∈ y.1.weights P f.type, m ≤ RW := by
  obtain ⟨ys, n, _, rfl, hl, hys, hf⟩ := DataW.trod_struct he h
  refine ⟨n, fun j f hj => ?_⟩
  have hjs : j < fs.size := (Array.getElem?_eq_some_iff.1 hj).1
  have hjl : j < cs.length := by omega
  have hjy : j < ys.length := by omega
  obtain ⟨o1, o2⟩ := hone_of hone j f hj
  have h1 := hf j f hj
  rw [o1, o2, List.drop_eq_getElem_cons hjl, List.take_succ_cons, List.take_zero, List.getElem?_eq_getElem hjy] at h1
  refine ⟨cs[j], ys[j], List.getElem?_eq_getElem hjl, h1, fun m hm => hz m (weights_struct he hj (l := ys.map (·.1)) (j := j) ?_ hm)⟩
  rw [List.getElem?_map, List.getElem?_eq_getElem hjy]; rfl
/-- an element in memory: its cells, and what is told of it -/
def ElemW {α : Type} (RW : Nat) (enc : TypeId × Value → H) (w : World) (base : Nat) (spare : Nat → Bool) (held : Bool) (E : TypeId) (C : α → List Value) (G : α → Prop) : Prop :=
  ∀ (fuel : Nat) (cs : List Value) (x : DataW H × List MemPlace), cs.length = Tryz.prog.cellsOf E → DataW.trod enc Tryz.prog w base spare held fuel E cs = some x → (∀ m ∈ x.1.weights Tryz.prog E, m ≤ RW) → ∃ q : α, cs = C q ∧ G q
/-- a slice of such elements -/
theorem list_w {α : Type} [Inhabited α] {T E : TypeId} {s : Nat} {C : α → List Value} {G : α → Prop} (hT : Tryz.prog.underlying T = some (.slice E)) (hs : Tryz.prog.cellsOf E = s) (h0 : 0 < s) (hC : ∀ a, (C a).length = s)
    (elem : ElemW RW enc w base spare held E C G) {fuel : Nat} {v : Value} {x : DataW H × List MemPlace} (h : DataW.trod enc Tryz.prog w base spare held fuel T [v] = some x) (hz : ∀ m ∈ x.1.weights Tryz.prog T, m ≤ RW) :
    ∃ (A : Option Addr) (n c : Nat) (l : List α), v = .slice A n c ∧ n = l.length ∧ Row w base w.heap.size s A n c (l.flatMap C) ∧ (∀ g ∈ l, G g) ∧ n * Tryz.prog.bytesOf E ≤ RW := by
  rcases open_slice hT h with ⟨hv, rfl⟩ | ⟨a, len, cap, m, k, D, Pl, hv, hb, hl, hm, hmm, rfl, hx⟩
  · obtain rfl : v = .slice none 0 0 := by simpa using hv
    exact ⟨none, 0, 0, [], rfl, rfl, Row.nil _ _ _ _, by simp, by omega⟩
  · obtain rfl : v = .slice (some a) len cap := by simpa using hv
    have hle : len ≤ m := by rw [hmm]; split <;> omega
    obtain ⟨F, hF⟩ := choose_lt (α := α) (n := len) (p := fun i q => (∀ r u, (C q)[r]? = some u → w.cell? (a.add (i * s + r)) = some u) ∧ G q) (fun i hi => by
      obtain ⟨cs', h1, h2⟩ := hx i (by omega)
      obtain ⟨_, hlen, hat⟩ := World.cells?_some h1
      obtain ⟨q, hq, hG⟩ := elem _ cs' _ hlen h2 (fun m hm => hz m (weights_slice hT (List.mem_map_of_mem (List.mem_range.2 hi)) hm))
      subst hq
      refine ⟨q, fun r u hr => ?_, hG⟩
      have hrs : r < s := by rw [← hC q]; exact (List.getElem?_eq_some_iff.1 hr).1
      have := hat r (by rw [hs]; exact hrs)
      rw [hs, Go.Deep.add_add] at this
      rw [this]; exact hr)
    have hg : ∀ i p, ((List.range len).map F)[i]? = some p → i < len ∧ p = F i := by
      intro i p hp
      rw [List.getElem?_map] at hp
      obtain ⟨j, hj, rfl⟩ := Option.map_eq_some_iff.1 hp
      obtain ⟨h1, h2⟩ := List.getElem?_eq_some_iff.1 hj
      rw [List.getElem_range] at h2
      subst h2
      exact ⟨by simpa using h1, rfl⟩
    refine ⟨some a, len, cap, (List.range len).map F, rfl, by simp, ?_, fun g hgm => ?_, ?_⟩
    · refine row_of (by rw [flatN_len hC]; simp) h0 hl hm hb ?_
      refine flat_cells hC h0 _ a (fun i p hp r u hr => ?_)
      obtain ⟨hi, rfl⟩ := hg i p hp
      exact (hF i hi).1 r u hr
    · obtain ⟨i, hi⟩ := List.getElem?_of_mem hgm
      obtain ⟨h1, rfl⟩ := hg i g hi
      exact (hF i h1).2
    · have := hz ((len + (m - len)) * Tryz.prog.bytesOf E) (by
        simp only [DataW.weights, hT, List.length_map, List.length_range]
        exact List.mem_cons_self)
      have h3 : len * Tryz.prog.bytesOf E ≤ (len + (m - len)) * Tryz.prog.bytesOf E := Nat.mul_le_mul_right _ (by omega)
      omega
theorem num_w : ElemW RW enc w base spare held 3 (fun i : Int => [.int .i64 i]) (fun _ => True) := by
  intro fuel cs x hlen h hz
  obtain ⟨s, e, _, _⟩ := DataW.trod_int Tryz.underlying3 h
  exact ⟨s, e, trivial⟩
theorem flat_num (l : List Int) : l.flatMap (fun i : Int => [Value.int .i64 i]) = intCells l := by unfold intCells; induction l with
  | nil => rfl
  | cons x l ih => simp [ih]
theorem prop_w : ElemW RW enc w base spare held 60 (fun p : ByteArray × ByteArray => [.string p.1, .string p.2]) (fun p => p.1.size ≤ maxLen ∧ p.2.size ≤ maxLen) := by
  intro fuel cs x hlen h hz
  obtain ⟨n, hf⟩ := fields_w Tryz.underlying60 (by kernel_rfl) (by rw [hlen]; kernel_rfl) h hz
  replace hlen : cs.length = 2 := by rw [hlen]; kernel_rfl
  match cs, hlen with
  | [k0, k1], _ =>
    obtain ⟨v0, y0, q0, t0, z0⟩ := hf 0 _ rfl
    obtain rfl : k0 = v0 := by simpa using q0
    obtain ⟨v1, y1, q1, t1, z1⟩ := hf 1 _ rfl
    obtain rfl : k1 = v1 := by simpa using q1
    obtain ⟨s0, e0, _, f0⟩ := DataW.trod_string (by kernel_rfl) t0
    obtain rfl : k0 = .string s0 := by simpa using e0
    obtain ⟨s1, e1, _, f1⟩ := DataW.trod_string (by kernel_rfl) t1
    obtain rfl : k1 = .string s1 := by simpa using e1
    exact ⟨(s0, s1), rfl, f0, f1⟩
theorem ref_w : ElemW RW enc w base spare held 62 (fun p : ByteArray × Int => [.string p.1, .int .i64 p.2]) (fun p => p.1.size ≤ maxLen) := by
  intro fuel cs x hlen h hz
  obtain ⟨n, hf⟩ := fields_w Tryz.underlying62 (by kernel_rfl) (by rw [hlen]; kernel_rfl) h hz
  replace hlen : cs.length = 2 := by rw [hlen]; kernel_rfl
  match cs, hlen with
  | [k0, k1], _ =>
    obtain ⟨v0, y0, q0, t0, z0⟩ := hf 0 _ rfl
    obtain rfl : k0 = v0 := by simpa using q0
    obtain ⟨v1, y1, q1, t1, z1⟩ := hf 1 _ rfl
    obtain rfl : k1 = v1 := by simpa using q1
    obtain ⟨s0, e0, _, f0⟩ := DataW.trod_string (by kernel_rfl) t0
    obtain rfl : k0 = .string s0 := by simpa using e0
    obtain ⟨s1, e1, _, _⟩ := DataW.trod_int (by kernel_rfl) t1
    obtain rfl : k1 = .int .i64 s1 := by simpa using e1
    exact ⟨(s0, s1), rfl, f0⟩
/-- a node's lists: where they lie, and how long they are at most -/
def NdW (RW : Nat) (w : World) (base : Nat) (q : Nd × Leaf) : Prop := LeafIn w base w.heap.size q.1 q.2 ∧ q.1.props.length ≤ RW ∧ q.1.refs.length ≤ RW ∧ q.1.kids.length ≤ RW
set_option maxRecDepth 20000 in
theorem nd_w : ElemW RW enc w base spare held 55 ndCells (NdW RW w base) := by
  intro fuel cs x hlen h hz
  obtain ⟨n, hf⟩ := fields_w Tryz.underlying55 (by kernel_rfl) (by rw [hlen]; kernel_rfl) h hz
  replace hlen : cs.length = 7 := by rw [hlen]; kernel_rfl
  match cs, hlen with
  | [k0, k1, k2, k3, k4, k5, k6], _ =>
    obtain ⟨v0, y0, q0, t0, z0⟩ := hf 0 _ rfl
    obtain rfl : k0 = v0 := by simpa using q0
    obtain ⟨v1, y1, q1, t1, z1⟩ := hf 1 _ rfl
    obtain rfl : k1 = v1 := by simpa using q1
    obtain ⟨v2, y2, q2, t2, z2⟩ := hf 2 _ rfl
    obtain rfl : k2 = v2 := by simpa using q2
    obtain ⟨v3, y3, q3, t3, z3⟩ := hf 3 _ rfl
    obtain rfl : k3 = v3 := by simpa using q3
    obtain ⟨v4, y4, q4, t4, z4⟩ := hf 4 _ rfl
    obtain rfl : k4 = v4 := by simpa using q4
    obtain ⟨v5, y5, q5, t5, z5⟩ := hf 5 _ rfl
    obtain rfl : k5 = v5 := by simpa using q5
    obtain ⟨v6, y6, q6, t6, z6⟩ := hf 6 _ rfl
    obtain rfl : k6 = v6 := by simpa using q6
    obtain ⟨s0, e0, _, _⟩ := DataW.trod_int (by kernel_rfl) t0
    obtain rfl : k0 = .int .i64 s0 := by simpa using e0
    obtain ⟨s1, e1, _, f1⟩ := DataW.trod_string (by kernel_rfl) t1
    obtain rfl : k1 = .string s1 := by simpa using e1
    obtain ⟨s2, e2, _, _⟩ := DataW.trod_int (by kernel_rfl) t2
    obtain rfl : k2 = .int .i64 s2 := by simpa using e2
    obtain ⟨s3, e3, _, f3⟩ := DataW.trod_string (by kernel_rfl) t3
    obtain rfl : k3 = .string s3 := by simpa using e3
    obtain ⟨A4, n4, c4, l4, rfl, hn4, hr4, hg4, hb4⟩ := list_w (T := 52) (s := 2) (by kernel_rfl) (by kernel_rfl) (by omega) (fun _ => rfl) prop_w t4 z4
    obtain ⟨A5, n5, c5, l5, rfl, hn5, hr5, hg5, hb5⟩ := list_w (T := 40) (s := 1) (by kernel_rfl) (by kernel_rfl) (by omega) (fun _ => rfl) num_w t5 z5
    obtain ⟨A6, n6, c6, l6, rfl, hn6, hr6, hg6, hb6⟩ := list_w (T := 53) (s := 2) (by kernel_rfl) (by kernel_rfl) (by omega) (fun _ => rfl) ref_w t6 z6
    rw [flat_num] at hr5
    rw [show Tryz.prog.bytesOf 60 = 32 from by kernel_rfl] at hb4
    rw [show Tryz.prog.bytesOf 3 = 8 from by kernel_rfl] at hb5
    rw [show Tryz.prog.bytesOf 62 = 24 from by kernel_rfl] at hb6
    exact ⟨(⟨s0, s1, s2, s3, l4, l5, l6⟩, ⟨⟨A4, n4, c4⟩, ⟨A5, n5, c5⟩, ⟨A6, n6, c6⟩⟩), rfl, ⟨hn4, hn5, hn6, hr4, hr5, hr6, ⟨f1, f3, hg4, hg6⟩⟩, (by omega : l4.length ≤ RW), (by omega : l6.length ≤ RW), (by omega : l5.length ≤ RW)⟩
set_option maxRecDepth 20000 in
/-- a model handed in, opened -/
theorem model_openR {r : Reach} {b0 : Nat} {v : Value} {d : DataW H} {p : List MemPlace} (hv : Value.okWide Tryz.prog w r b0 25 v) (h : DataW.Trod enc Tryz.prog w base spare held 25 v d p)
    (hz : ∀ m ∈ d.weights Tryz.prog 25, m ≤ RW) : ∃ (next : Int) (A : Option Addr) (n c : Nat) (nds : List Nd), v = .agg #[.int .i64 next, .slice A n c] ∧ NodesIn w 0 w.heap.size A n c nds ∧ ∀ nd ∈ nds, nd.props.length ≤ RW ∧ nd.refs.length ≤ RW ∧ nd.kids.length ≤ RW := by
  obtain ⟨cs0, rfl, hsz⟩ := okWide_struct Tryz.underlying25 hv
  obtain ⟨fuel, hfu⟩ := h
  obtain ⟨cs, hcs⟩ : ∃ cs, cs = cs0.toList := ⟨_, rfl⟩
  have hcs' : cs0 = cs.toArray := by rw [hcs]
  subst hcs'
  replace hfu : DataW.trod enc Tryz.prog w base spare held fuel 25 cs = some (d, p) := by simpa [Value.cells] using hfu
  have hlen : cs.length = Tryz.prog.cellsOf 25 := by simpa using hsz
  obtain ⟨n, hf⟩ := fields_w Tryz.underlying25 (by kernel_rfl) (by rw [hlen]; kernel_rfl) hfu hz
  replace hlen : cs.length = 2 := by rw [hlen]; kernel_rfl
  clear hcs hv hsz
  match cs, hlen with
  | [k0, k1], _ =>
    obtain ⟨v0, y0, q0, t0, z0⟩ := hf 0 _ rfl
    obtain rfl : k0 = v0 := by simpa using q0
    obtain ⟨v1, y1, q1, t1, z1⟩ := hf 1 _ rfl
    obtain rfl : k1 = v1 := by simpa using q1
    obtain ⟨s0, e0, _, _⟩ := DataW.trod_int (by kernel_rfl) t0
    obtain rfl : k0 = .int .i64 s0 := by simpa using e0
    obtain ⟨A0, n0, c0, l0, rfl, hn0, hr0, hg0, hb0⟩ := list_w (T := 23) (s := 7) (by kernel_rfl) (by kernel_rfl) (by omega) (fun _ => rfl) nd_w t1 z1
    refine ⟨s0, A0, n0, c0, l0.map (·.1), rfl, ⟨by rw [List.length_map, hn0], hr0.2.1, hr0.2.2.1, fun h0 => ?_⟩, fun nd hnd => ?_⟩
    · obtain ⟨b, o, hA, hb1, hb2, hc⟩ := hr0.2.2.2 h0
      refine ⟨b, o, hA, Nat.zero_le _, hb2, fun i => ((l0[i]?).map (·.2)).getD ⟨⟨none, 0, 0⟩, ⟨none, 0, 0⟩, ⟨none, 0, 0⟩⟩, fun i nd hi => ?_⟩
      rw [List.getElem?_map] at hi
      obtain ⟨q, hq, rfl⟩ := Option.map_eq_some_iff.1 hi
      have key : ∀ j u, j < 7 → (ndCells q)[j]? = some u → w.cell? ⟨b, o + i * 7 + j, none⟩ = some u := by
        intro j u hj hu
        have := hc (i * 7 + j) u (by rw [flatN_get ndCells_len _ i _ hq j hj]; exact hu)
        rwa [Nat.add_assoc]
      simp only [hq, Option.map_some, Option.getD_some]
      exact ⟨⟨key 0 _ (by omega) rfl, key 1 _ (by omega) rfl, key 2 _ (by omega) rfl, key 3 _ (by omega) rfl, key 4 _ (by omega) rfl, key 5 _ (by omega) rfl, key 6 _ (by omega) rfl⟩, (hg0 q (List.mem_of_getElem? hq)).1.mono (Nat.zero_le _) (Nat.le_refl _)⟩
    · obtain ⟨q, hq, rfl⟩ := List.mem_map.1 hnd
      exact (hg0 q hq).2
/-- the form's reach, for an argument -/
theorem reach_at {ts : List TypeId} {ds : List (DataW H)} (h : (DataW.weightsEach Tryz.prog ts ds).all (· ≤ reachBytes) = true) {j : Nat} {t : TypeId} {d : DataW H} (ht : ts[j]? = some t) (hd : ds[j]? = some d) : ∀ m ∈ d.weights Tryz.prog t, m ≤ 140737488351232 := by
  intro m hm
  have := List.all_eq_true.1 h _ (DataW.weights_mem_each ht hd m hm)
  rw [decide_eq_true_eq] at this
  exact this
end
end Go.Proofs.YtjjlofaejpnnnaaGreatDoor
namespace Go.Proofs.YtjjlofaejpnnnaaGreatDoor
open Go Go.RowKit
set_option linter.unusedVariables false
/-- what has been read: the next number (0 ahead of the first line), the nodes in the order in which they are told, how deep each stands -/
structure RS where
  next : Int
  nds : List Nd
  deep : List Nat
/-- the longest row of bytes of a word -/
def wordP (l : List UInt8) : List UInt8 := l.takeWhile fun c => c != 32 && c != 61
/-- a number's text from 1 to one less than a bound -/
def numberV (l : List UInt8) (bound : Int) : Option Int := match intT l with
  | some n => if 1 ≤ n ∧ n < bound then some n else none
  | none => none
def bytesOf (l : List UInt8) : ByteArray := ⟨l.toArray⟩
/-- behind a blank: a word, and what is left -/
def wordV : List UInt8 → Option (List UInt8 × List UInt8)
  | c :: t => if c = 32 ∧ wordL (wordP t) = true then some (wordP t, t.drop (wordP t).length) else none
  | [] => none
/-- the last node turned -/
def lastV (st : RS) (nd : Nd) : RS := ⟨st.next, st.nds.dropLast ++ [nd], st.deep⟩
def hasV (st : RS) (nd : Nd) (name v : List UInt8) : Option RS :=
  let r := unq (bytesOf v) 0
  if r.2.2 = 0 ∧ r.2.1 = (v.length : Int) ∧ r.1.length ≤ 4096 ∧ nd.refs = [] ∧ (∀ p ∈ nd.props.getLast?, p.1.data.toList < name) then
    some (lastV st { nd with props := nd.props ++ [(bytesOf name, bytesOf r.1)] })
  else none
def refersV (st : RS) (nd : Nd) (role v : List UInt8) : Option RS := match numberV v st.next with
  | some n => if ∀ p ∈ nd.refs.getLast?, p.1.data.toList < role then some (lastV st { nd with refs := nd.refs ++ [(bytesOf role, n)] }) else none
  | none => none
/-- the last node that stands so deep -/
def upV (st : RS) (d : Nat) : Option (Nat × Nd) := ((List.range st.nds.length).reverse.find? fun i => st.deep.getD i 0 == d).bind fun i => (st.nds[i]?).map fun nd => (i, nd)
/-- a node more, with so many blanks ahead -/
def standsV (st : RS) (n : Nd) (d : Nat) : Option RS :=
  if 4096 ≤ st.nds.length ∨ 64 ≤ d ∨ (0 < d ∧ st.deep.getLastD 0 < d) ∨ st.nds.any (·.id == n.id) = true then none
  else if d = 0 then
    (match upV st 1 with
     | some r => if n.id ≤ r.2.id then none else some ⟨st.next, st.nds ++ [n], st.deep ++ [1]⟩
     | none => if n.id ≤ 0 then none else some ⟨st.next, st.nds ++ [n], st.deep ++ [1]⟩)
  else match upV st d with
    | some u => some ⟨st.next, st.nds.set u.1 { u.2 with kids := u.2.kids ++ [n.id] } ++ [{ n with par := u.2.id }], st.deep ++ [d + 1]⟩
    | none => none
def nodeV (st : RS) (d : Nat) (id : Int) (u : List UInt8) : Option RS :=
  (if d = 0 then some ([], u) else wordV u).bind fun r => (wordV r.2).bind fun q =>
    if q.2 = [] then standsV st ⟨id, bytesOf q.1, 0, bytesOf r.1, [], [], []⟩ d else none
def takesV (st : RS) (s : List UInt8) : Option RS :=
  if st.next = 0 then
    (if 5 < s.length ∧ s.take 5 = [110, 101, 120, 116, 32] then (numberV (s.drop 5) 1048578).map fun n => ⟨n, [], []⟩ else none)
  else
    let d := (s.takeWhile (· == 32)).length
    match s.drop d with
    | [] => none
    | c :: t =>
      if c = 46 ∨ c = 62 then
        match st.nds.getLast?, t.drop (wordP t).length with
        | some nd, e :: v => if d = st.deep.getLastD 0 ∧ e = 61 ∧ wordL (wordP t) = true then (if c = 62 then refersV st nd (wordP t) v else hasV st nd (wordP t) v) else none
        | _, _ => none
      else (numberV (wordP (c :: t)) st.next).bind fun id => nodeV st d id ((c :: t).drop (wordP (c :: t)).length)
/-- the lines from here on: what has been read of them all, or how many lines were read when one was refused -/
def linesV : Nat → RS → Nat → List UInt8 → RS ⊕ Nat
  | 0, _, k, _ => .inr (k + 1)
  | f + 1, st, k, l =>
    match takesV st (l.takeWhile (· != 10)), l.drop (l.takeWhile (· != 10)).length with
    | some st', _ :: rest => if rest = [] then .inl st' else linesV f st' (k + 1) rest
    | _, _ => .inr (k + 1)
/-- a node goes among those with greater numbers -/
def byId (n : Nd) : List Nd → List Nd
  | [] => [n]
  | x :: l => if n.id < x.id then n :: x :: l else x :: byId n l
/-- what the text is: the model, or the line at which it is refused, and the error -/
def parseV (l : List UInt8) : (Int × List Nd) × Int × Int :=
  if 1048576 < l.length then ((0, []), 0, 3) else
  match linesV (l.length + 1) ⟨0, [], []⟩ 0 l with
  | .inl st => ((st.next, st.nds.foldr byId []), 0, 0)
  | .inr k => ((0, []), (k : Int), 30)
end Go.Proofs.YtjjlofaejpnnnaaGreatDoor
namespace Go.Proofs.YtjjlofaejpnnnaaGreatDoor
open Go Go.RowKit
set_option linter.unusedVariables false
/-- the last place at which d stands -/
def lastIx (l : List Nat) (d : Nat) : Option Nat := (List.range l.length).reverse.find? fun i => l.getD i 0 == d
theorem lastIx_snoc_eq (l : List Nat) (d : Nat) : lastIx (l ++ [d]) d = some l.length := by
  unfold lastIx
  rw [List.length_append, List.length_singleton, List.range_succ, List.reverse_append]
  simp
theorem find_congr {α : Type} {p q : α → Bool} : ∀ {l : List α}, (∀ x ∈ l, p x = q x) → l.find? p = l.find? q
  | [], _ => rfl
  | x :: l, h => by
    rw [List.find?_cons, List.find?_cons, h x (by simp), find_congr fun y hy => h y (by simp [hy])]
theorem lastIx_snoc_ne (l : List Nat) {x d : Nat} (h : x ≠ d) : lastIx (l ++ [x]) d = lastIx l d := by
  unfold lastIx
  rw [List.length_append, List.length_singleton, List.range_succ, List.reverse_append]
  have e : (l ++ [x]).getD l.length 0 = x := by simp
  simp only [List.reverse_singleton, List.singleton_append, List.find?_cons, e]
  have hx : (x == d) = false := by simpa using h
  rw [hx]
  refine find_congr fun i hi => ?_
  have hil : i < l.length := by simpa using hi
  rw [List.getD_eq_getElem?_getD, List.getD_eq_getElem?_getD, List.getElem?_append_left hil]
theorem lastIx_some {l : List Nat} {d i : Nat} (h : lastIx l d = some i) : i < l.length ∧ l.getD i 0 = d := by
  unfold lastIx at h
  have h1 := List.mem_of_find?_eq_some h
  have h2 := List.find?_some h
  exact ⟨by simpa using h1, by simpa using h2⟩
/-- the way from the last root down to the last node: their places -/
def wayV (deep : List Nat) : List Nat := (List.range (deep.getLastD 0)).map fun j => (lastIx deep (j + 1)).getD 0
theorem wayV_len (deep : List Nat) : (wayV deep).length = deep.getLastD 0 := by unfold wayV; simp
theorem wayV_at {deep : List Nat} {d : Nat} (h1 : 0 < d) (h : d ≤ deep.getLastD 0) : (wayV deep)[d - 1]? = some ((lastIx deep d).getD 0) := by
  unfold wayV
  rw [List.getElem?_map, List.getElem?_range (by omega)]
  simp only [Option.map_some]
  rw [show d - 1 + 1 = d from by omega]
/-- a node more, behind d blanks -/
theorem wayV_snoc {deep : List Nat} {d : Nat} (h : d ≤ deep.getLastD 0) : wayV (deep ++ [d + 1]) = (wayV deep).take d ++ [deep.length] := by
  unfold wayV
  have e : (deep ++ [d + 1]).getLastD 0 = d + 1 := by simp [List.getLastD_eq_getLast?]
  rw [e, List.range_succ, List.map_append, List.map_singleton, lastIx_snoc_eq, Option.getD_some, ← List.map_take, List.take_range, Nat.min_eq_left h]
  congr 1
  refine List.map_congr_left fun j hj => ?_
  have hj' : j < d := by simpa using hj
  rw [lastIx_snoc_ne deep (by omega)]
/-- so deep may they stand -/
structure DeepOk (deep : List Nat) : Prop where
  pos : ∀ x ∈ deep, 1 ≤ x ∧ x ≤ 64
  way : ∀ d, 1 ≤ d → d ≤ deep.getLastD 0 → ∃ i, lastIx deep d = some i
theorem deepOk_nil : DeepOk [] := ⟨by simp, fun d h1 h2 => by simp at h2; omega⟩
theorem DeepOk.snoc {deep : List Nat} {d : Nat} (h : DeepOk deep) (hd : d ≤ deep.getLastD 0) (h64 : d < 64) : DeepOk (deep ++ [d + 1]) := by
  refine ⟨fun x hx => ?_, fun k h1 h2 => ?_⟩
  · rcases List.mem_append.1 hx with hx | hx
    · exact h.pos x hx
    · obtain rfl : x = d + 1 := by simpa using hx
      omega
  · have e : (deep ++ [d + 1]).getLastD 0 = d + 1 := by simp [List.getLastD_eq_getLast?]
    rw [e] at h2
    by_cases hk : k = d + 1
    · subst hk; exact ⟨_, lastIx_snoc_eq _ _⟩
    · rw [lastIx_snoc_ne deep (fun e => hk e.symm)]
      exact h.way k h1 (by omega)
theorem upV_is {st : RS} {d : Nat} (hl : st.deep.length = st.nds.length) : upV st d = (lastIx st.deep d).bind fun i => (st.nds[i]?).map fun nd => (i, nd) := by
  unfold upV lastIx
  rw [hl]
end Go.Proofs.YtjjlofaejpnnnaaGreatDoor
namespace Go.Proofs.YtjjlofaejpnnnaaGreatDoor
open Go Go.RowKit
set_option linter.unusedVariables false
theorem innC_ne {c : UInt8} (h : innC c = true) : c ≠ 32 ∧ c ≠ 61 ∧ c ≠ 10 := by
  refine ⟨?_, ?_, ?_⟩ <;> rintro rfl <;> exact absurd h (by decide)
theorem nameL_ne : ∀ {l : List UInt8}, nameL l = true → ∀ c ∈ l, c ≠ 32 ∧ c ≠ 61 ∧ c ≠ 10
  | x :: r, h, c, hc => by
    unfold nameL at h
    simp only [Bool.and_eq_true, decide_eq_true_eq] at h
    rcases List.mem_cons.1 hc with rfl | hc
    · exact innC_ne (by unfold innC innB; rw [h.1.2]; rfl)
    · exact innC_ne (List.all_eq_true.1 h.2 c hc)
theorem wordL_ne {l : List UInt8} (h : wordL l = true) : ∀ c ∈ l, c ≠ 32 ∧ c ≠ 61 ∧ c ≠ 10 := by
  intro c hc
  unfold wordL at h
  cases l with
  | nil => cases hc
  | cons x r =>
    simp only [stripL] at h
    by_cases hx : x = 63
    · rw [if_pos hx] at h
      rcases List.mem_cons.1 hc with rfl | hc
      · subst hx; decide
      · exact nameL_ne h c hc
    · rw [if_neg hx] at h
      exact nameL_ne h c hc
theorem wordL_nil : wordL [] = false := by decide
/-- ahead of the first c, and behind it -/
def cutA (c : UInt8) (l : List UInt8) : List UInt8 := l.takeWhile (· != c)
def cutB (c : UInt8) (l : List UInt8) : List UInt8 := (l.drop (cutA c l).length).drop 1
theorem cutA_nil (c : UInt8) : cutA c [] = [] := rfl
theorem cut_all {c : UInt8} : ∀ {l : List UInt8}, (∀ x ∈ l, x ≠ c) → cutA c l = l ∧ cutB c l = []
  | [], _ => ⟨rfl, rfl⟩
  | x :: l, h => by
    have hx : (x != c) = true := by simpa using h x (by simp)
    obtain ⟨h1, h2⟩ := cut_all (l := l) fun y hy => h y (by simp [hy])
    have e : cutA c (x :: l) = x :: cutA c l := by unfold cutA; rw [List.takeWhile_cons, if_pos hx]
    refine ⟨by rw [e, h1], ?_⟩
    unfold cutB
    rw [e, h1]
    simp
theorem cut_at {c : UInt8} {a b : List UInt8} (h : ∀ x ∈ a, x ≠ c) : cutA c (a ++ c :: b) = a ∧ cutB c (a ++ c :: b) = b := by
  have e : cutA c (a ++ c :: b) = a := by
    unfold cutA
    rw [List.takeWhile_append_of_pos (fun x hx => by simpa using h x hx), List.takeWhile_cons]
    simp
  refine ⟨e, ?_⟩
  unfold cutB
  rw [e]
  simp
theorem takeWhile_mem {p : UInt8 → Bool} : ∀ {l : List UInt8} {x : UInt8}, x ∈ l.takeWhile p → p x = true
  | y :: l, x, h => by
    rw [List.takeWhile_cons] at h
    split at h
    · rename_i hy
      rcases List.mem_cons.1 h with rfl | h
      · exact hy
      · exact takeWhile_mem h
    · cases h
/-- a list is its row of bytes of a word, and what is left begins with a blank or an equals sign -/
theorem wordP_parts (t : List UInt8) : ∃ w r, t = w ++ r ∧ wordP t = w ∧ t.drop (wordP t).length = r ∧ (∀ x ∈ w, x ≠ 32 ∧ x ≠ 61) ∧ (r = [] ∨ ∃ v, r = 32 :: v ∨ r = 61 :: v) := by
  refine ⟨wordP t, t.drop (wordP t).length, ?_, rfl, rfl, fun x hx => ?_, ?_⟩
  · unfold wordP
    induction t with
    | nil => rfl
    | cons x l ih =>
      rw [List.takeWhile_cons]
      split
      · rw [List.length_cons, List.drop_succ_cons, List.cons_append, ← ih]
      · rfl
  · have := takeWhile_mem hx
    simpa using this
  · unfold wordP
    induction t with
    | nil => exact .inl rfl
    | cons x l ih =>
      rw [List.takeWhile_cons]
      split
      · rw [List.length_cons, List.drop_succ_cons]
        exact ih
      · rename_i hx
        refine .inr ⟨l, ?_⟩
        have : x = 32 ∨ x = 61 := by
          by_cases h1 : x = 32
          · exact .inl h1
          · by_cases h2 : x = 61
            · exact .inr h2
            · exact absurd (by simp [h1, h2]) hx
        rcases this with rfl | rfl
        · exact .inl rfl
        · exact .inr rfl
/-- a name, an equals sign, and the rest -/
theorem arm_eq (F : List UInt8 → List UInt8 → Option RS) (hF : ∀ w, F w [] = none) (t : List UInt8) :
    (match t.drop (wordP t).length with | e :: v => if e = 61 ∧ wordL (wordP t) = true then F (wordP t) v else none | [] => none) = if wordL (cutA 61 t) = true then F (cutA 61 t) (cutB 61 t) else none := by
  obtain ⟨w, r, ht, hw, hr, hne, hcase⟩ := wordP_parts t
  rw [hr, hw]
  rcases hcase with rfl | ⟨v, rfl | rfl⟩
  · obtain ⟨h1, h2⟩ := cut_all (c := 61) (l := t) fun x hx => (hne x (by rw [ht] at hx; simpa using hx)).2
    rw [h1, h2, hF]
    simp
  · have hno : wordL (cutA 61 t) = false := by
      cases hb : wordL (cutA 61 t) with
      | false => rfl
      | true =>
        have h3 : (32 : UInt8) ∈ cutA 61 t := by
          rw [ht]
          unfold cutA
          rw [List.takeWhile_append_of_pos (fun x hx => by simpa using (hne x hx).2), List.takeWhile_cons]
          simp
        exact absurd rfl (wordL_ne hb 32 h3).1
    rw [hno]
    simp
  · obtain ⟨h1, h2⟩ := cut_at (c := 61) (a := w) (b := v) fun x hx => (hne x hx).2
    rw [ht, h1, h2]
    simp
theorem wordV_cons (c : UInt8) (t : List UInt8) : wordV (c :: t) = if c = 32 ∧ wordL (wordP t) = true then some (wordP t, t.drop (wordP t).length) else none := rfl
theorem itoa_ne (v : Int) : ∀ c ∈ Lib.itoa v, c ≠ 61 ∧ c ≠ 32 := by
  have key : ∀ (u : Nat), ∀ c ∈ Lib.decDigits u, c ≠ 61 ∧ c ≠ 32 := by
    intro u c hc
    have h := List.all_eq_true.1 (dec_val u).2 c hc
    constructor <;> rintro rfl <;> exact absurd h (by decide)
  intro c hc
  unfold Lib.itoa at hc
  split at hc
  · rcases List.mem_cons.1 hc with rfl | hc
    · decide
    · exact key _ c hc
  · exact key _ c hc
theorem numberV_ne {l : List UInt8} {b n : Int} (h : numberV l b = some n) : ∀ c ∈ l, c ≠ 61 ∧ c ≠ 32 := by
  unfold numberV at h
  cases hi : intT l with
  | none => rw [hi] at h; cases h
  | some v =>
    have := (intT_out hi).1
    rw [← this]
    exact itoa_ne v
theorem numberV_nil (b : Int) : numberV [] b = none := by
  cases h : numberV [] b with
  | none => rfl
  | some n =>
    unfold numberV at h
    cases hi : intT [] with
    | none => rw [hi] at h; cases h
    | some v =>
      have h1 := (intT_out hi).1
      exfalso
      unfold Lib.itoa at h1
      split at h1
      · cases h1
      · have : ∀ u : Nat, Lib.decDigits u ≠ [] := by
          intro u h2
          rw [Lib.decDigits] at h2
          split at h2
          · cases h2
          · simp at h2
        exact this _ h1
/-- a node's line behind its blanks, as the program cuts it -/
def nodeP (st : RS) (d : Nat) (s : List UInt8) : Option RS := (numberV (cutA 32 s) st.next).bind fun id =>
  (if d = 0 then some ([], cutB 32 s) else if wordL (cutA 32 (cutB 32 s)) = true then some (cutA 32 (cutB 32 s), cutB 32 (cutB 32 s)) else none).bind fun r =>
    if wordL r.2 = true then standsV st ⟨id, bytesOf r.2, 0, bytesOf r.1, [], [], []⟩ d else none
/-- a word up to the end -/
theorem word_end (t : List UInt8) (F : List UInt8 → Option RS) :
    ((wordV (32 :: t)).bind fun q => if q.2 = [] then F q.1 else none) = if wordL t = true then F t else none := by
  obtain ⟨w, r, ht, hw, hr, hne, hcase⟩ := wordP_parts t
  rw [wordV_cons, hr, hw]
  by_cases hwl : wordL w = true
  · rw [if_pos ⟨rfl, hwl⟩]
    simp only [Option.bind_some]
    rcases hcase with rfl | ⟨v, hv⟩
    · have : t = w := by rw [ht]; simp
      rw [if_pos rfl, this, if_pos hwl]
    · have hrn : r ≠ [] := by rcases hv with rfl | rfl <;> simp
      rw [if_neg hrn]
      have hno : wordL t = false := by
        cases hb : wordL t with
        | false => rfl
        | true =>
          exfalso
          rcases hv with rfl | rfl
          · exact (wordL_ne hb 32 (by rw [ht]; simp)).1 rfl
          · exact (wordL_ne hb 61 (by rw [ht]; simp)).2.1 rfl
      rw [hno]; simp
  · rw [if_neg (fun h => hwl h.2)]
    simp only [Option.bind_none]
    have hno : wordL t = false := by
      cases hb : wordL t with
      | false => rfl
      | true =>
        exfalso
        have hall : t = w := by
          rcases hcase with rfl | ⟨v, rfl | rfl⟩
          · rw [ht]; simp
          · exact absurd rfl (wordL_ne hb 32 (by rw [ht]; simp)).1
          · exact absurd rfl (wordL_ne hb 61 (by rw [ht]; simp)).2.1
        rw [hall] at hb
        exact hwl hb
    rw [hno]; simp
theorem word_end' (u : List UInt8) (F : List UInt8 → Option RS) (h : ∀ v, u ≠ 32 :: v) : ((wordV u).bind fun q => if q.2 = [] then F q.1 else none) = none := by
  cases u with
  | nil => rfl
  | cons c t =>
    rw [wordV_cons, if_neg (fun hc => h t (by rw [hc.1]))]
    rfl
theorem nodeP_eq (st : RS) (d : Nat) (s : List UInt8) : nodeP st d s = (numberV (wordP s) st.next).bind fun id => nodeV st d id (s.drop (wordP s).length) := by
  obtain ⟨w, r, hs, hw, hr, hne, hcase⟩ := wordP_parts s
  rw [hr, hw]
  unfold nodeP
  rcases hcase with rfl | ⟨v, rfl | rfl⟩
  · obtain ⟨h1, h2⟩ := cut_all (c := 32) (l := s) fun x hx => (hne x (by rw [hs] at hx; simpa using hx)).1
    rw [h1, h2, show s = w from by rw [hs]; simp]
    congr 1
    funext id
    unfold nodeV
    by_cases hd : d = 0
    · simp [hd, wordL_nil, wordV]
    · simp [hd, wordL_nil, wordV, cutA_nil]
  · obtain ⟨h1, h2⟩ := cut_at (c := 32) (a := w) (b := v) fun x hx => (hne x hx).1
    rw [hs, h1, h2]
    congr 1
    funext id
    unfold nodeV
    by_cases hd : d = 0
    · rw [if_pos hd, if_pos hd]
      simp only [Option.bind_some]
      exact (word_end v fun q => standsV st ⟨id, bytesOf q, 0, bytesOf [], [], [], []⟩ d).symm
    · rw [if_neg hd, if_neg hd]
      obtain ⟨w2, r2, hv, hw2, hr2, hne2, hcase2⟩ := wordP_parts v
      have e : wordV (32 :: v) = if wordL w2 = true then some (w2, r2) else none := by
        rw [wordV_cons, hr2, hw2]
        simp
      rw [e]
      rcases hcase2 with rfl | ⟨v2, rfl | rfl⟩
      · obtain ⟨h3, h4⟩ := cut_all (c := 32) (l := v) fun x hx => (hne2 x (by rw [hv] at hx; simpa using hx)).1
        rw [h3, h4, show v = w2 from by rw [hv]; simp]
        by_cases hb : wordL w2 = true
        · simp [hb, wordL_nil, wordV]
        · simp [hb]
      · obtain ⟨h3, h4⟩ := cut_at (c := 32) (a := w2) (b := v2) fun x hx => (hne2 x hx).1
        rw [hv, h3, h4]
        by_cases hb : wordL w2 = true
        · rw [if_pos hb, if_pos hb]
          simp only [Option.bind_some]
          exact (word_end v2 fun q => standsV st ⟨id, bytesOf q, 0, bytesOf w2, [], [], []⟩ d).symm
        · rw [if_neg hb, if_neg hb]
          rfl
      · have hno : wordL (cutA 32 v) = false := by
          cases hb : wordL (cutA 32 v) with
          | false => rfl
          | true =>
            have h3 : (61 : UInt8) ∈ cutA 32 v := by
              rw [hv]
              unfold cutA
              rw [List.takeWhile_append_of_pos (fun x hx => by simpa using (hne2 x hx).1), List.takeWhile_cons]
              simp
            exact absurd rfl (wordL_ne hb 61 h3).2.1
        rw [hno]
        by_cases hb : wordL w2 = true
        · rw [if_pos hb]
          simp only [Option.bind_some]
          rw [word_end' _ (fun q => standsV st ⟨id, bytesOf q, 0, bytesOf w2, [], [], []⟩ d) (by intro x; simp)]
          simp
        · rw [if_neg hb]
          simp
  · have hno : numberV (cutA 32 s) st.next = none := by
      cases hb : numberV (cutA 32 s) st.next with
      | none => rfl
      | some n =>
        have h3 : (61 : UInt8) ∈ cutA 32 s := by
          rw [hs]
          unfold cutA
          rw [List.takeWhile_append_of_pos (fun x hx => by simpa using (hne x hx).1), List.takeWhile_cons]
          simp
        exact absurd rfl (numberV_ne hb 61 h3).1
    rw [hno]
    cases hb : numberV w st.next with
    | none => rfl
    | some id =>
      simp only [Option.bind_none, Option.bind_some]
      unfold nodeV
      by_cases hd : d = 0
      · rw [if_pos hd]
        simp only [Option.bind_some]
        rw [word_end' _ (fun q => standsV st ⟨id, bytesOf q, 0, bytesOf [], [], [], []⟩ d) (by intro x; simp)]
      · rw [if_neg hd]
        have : wordV (61 :: v) = none := by rw [wordV_cons, if_neg (fun h => absurd h.1 (by decide))]
        rw [this]
        rfl
end Go.Proofs.YtjjlofaejpnnnaaGreatDoor
namespace Go.Proofs.YtjjlofaejpnnnaaGreatDoor
open Go Go.RowKit
set_option linter.unusedVariables false
theorem hasV_nil (st : RS) (nd : Nd) (w : List UInt8) : hasV st nd w [] = none := by
  have h : unq (bytesOf []) 0 = ([], 0, 10) := by
    unfold unq
    rw [if_neg (by decide), dif_neg (by decide)]
  unfold hasV
  simp only [h]
  rw [if_neg (by simp)]
theorem refersV_nil (st : RS) (nd : Nd) (w : List UInt8) : refersV st nd w [] = none := by
  unfold refersV
  rw [numberV_nil]
/-- the last node, if a line with so many blanks is one of its lines -/
def lastNd (st : RS) (d : Nat) : Option Nd := if d = st.deep.getLastD 0 then st.nds.getLast? else none
def propP (st : RS) (d : Nat) (t : List UInt8) : Option RS := (lastNd st d).bind fun nd => if wordL (cutA 61 t) = true then hasV st nd (cutA 61 t) (cutB 61 t) else none
def refP (st : RS) (d : Nat) (t : List UInt8) : Option RS := (lastNd st d).bind fun nd => if wordL (cutA 61 t) = true then refersV st nd (cutA 61 t) (cutB 61 t) else none
def firstP (s : List UInt8) : Option RS := if s.take 5 = [110, 101, 120, 116, 32] then (numberV (s.drop 5) 1048578).map fun n => ⟨n, [], []⟩ else none
/-- a line as the program reads it -/
def lineV (st : RS) (s : List UInt8) : Option RS :=
  if st.next = 0 then firstP s
  else
    let d := (s.takeWhile (· == 32)).length
    match s.drop d with
    | 46 :: t => propP st d t
    | 62 :: t => refP st d t
    | r => nodeP st d r
theorem firstP_eq (s : List UInt8) : (if 5 < s.length ∧ s.take 5 = [110, 101, 120, 116, 32] then (numberV (s.drop 5) 1048578).map fun n => (⟨n, [], []⟩ : RS) else none) = firstP s := by
  unfold firstP
  by_cases h : s.take 5 = [110, 101, 120, 116, 32]
  · rw [if_pos h]
    by_cases h5 : 5 < s.length
    · rw [if_pos ⟨h5, h⟩]
    · rw [if_neg (fun hh => h5 hh.1), List.drop_eq_nil_of_le (by omega), numberV_nil]
      rfl
  · rw [if_neg h, if_neg (fun hh => h hh.2)]
theorem nodeP_nil (st : RS) (d : Nat) : nodeP st d [] = none := by
  unfold nodeP
  rw [cutA_nil, numberV_nil]
  rfl
theorem armV (st : RS) (d : Nat) (c : UInt8) (t : List UInt8) :
    (match st.nds.getLast?, t.drop (wordP t).length with
      | some nd, e :: v => if d = st.deep.getLastD 0 ∧ e = 61 ∧ wordL (wordP t) = true then (if c = 62 then refersV st nd (wordP t) v else hasV st nd (wordP t) v) else none
      | _, _ => none) = if c = 62 then refP st d t else propP st d t := by
  unfold refP propP lastNd
  cases hl : st.nds.getLast? with
  | none => simp
  | some nd =>
    have hF : ∀ w, (if c = 62 then refersV st nd w [] else hasV st nd w []) = none := by
      intro w
      split
      · exact refersV_nil _ _ _
      · exact hasV_nil _ _ _
    have h := arm_eq (fun w v => if c = 62 then refersV st nd w v else hasV st nd w v) hF t
    by_cases hd : d = st.deep.getLastD 0
    · rw [if_pos hd]
      simp only [Option.bind_some]
      have e : (if c = 62 then (if wordL (cutA 61 t) = true then refersV st nd (cutA 61 t) (cutB 61 t) else none) else (if wordL (cutA 61 t) = true then hasV st nd (cutA 61 t) (cutB 61 t) else none)) =
          if wordL (cutA 61 t) = true then (if c = 62 then refersV st nd (cutA 61 t) (cutB 61 t) else hasV st nd (cutA 61 t) (cutB 61 t)) else none := by
        by_cases hc : c = 62 <;> simp [hc]
      rw [e, ← h]
      cases t.drop (wordP t).length with
      | nil => rfl
      | cons x v => simp [hd]
    · rw [if_neg hd]
      simp only [Option.bind_none, ite_self]
      cases t.drop (wordP t).length with
      | nil => rfl
      | cons x v => exact if_neg fun hh => hd hh.1
theorem takesV_line (st : RS) (s : List UInt8) : takesV st s = lineV st s := by
  unfold takesV lineV
  by_cases h0 : st.next = 0
  · rw [if_pos h0, if_pos h0]
    exact firstP_eq s
  · rw [if_neg h0, if_neg h0]
    simp only
    cases hr : s.drop (s.takeWhile (· == 32)).length with
    | nil => simp only; exact (nodeP_nil _ _).symm
    | cons c t =>
      simp only
      by_cases h46 : c = 46
      · subst h46
        rw [if_pos (.inl rfl)]
        exact (armV st _ 46 t).trans (if_neg (by decide))
      · by_cases h62 : c = 62
        · subst h62
          rw [if_pos (.inr rfl)]
          exact (armV st _ 62 t).trans (if_pos rfl)
        · rw [if_neg (by simp [h46, h62]), ← nodeP_eq]
          split
          · rename_i heq; injection heq with h _; exact absurd h h46
          · rename_i heq; injection heq with h _; exact absurd h h62
          · rfl
end Go.Proofs.YtjjlofaejpnnnaaGreatDoor
