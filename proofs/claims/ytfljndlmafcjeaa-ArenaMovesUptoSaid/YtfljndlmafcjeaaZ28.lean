/-
  A MODEL AS AN ARGUMENT: what the reading of it tells of the cells, and how long its lists are.
-/
import Derived.Test.YtfljndlmafcjeaaZ27
import Derived.Test.YtfljndlmafcjeaaRows
import Derived.Deep.Slices
import Derived.Deep.SlicePairs
import Derived.Deep.Fields
import Derived.ChangeSame
import Derived.ChangeSlices
import Derived.Lib.SmallJoins
import Derived.Carry
namespace Go.Proofs.Ytfljndlmafcjeaa
open Go Go.RowKit Go.Sort Go.ChangeShapes Go.WideShapes Go.Deep Go.Joins
set_option linter.unusedVariables false
theorem cell_spot {w : World} {a : Addr} {u : Value} (h : w.cell? a = some u) : a.spot = none := by
  unfold World.cell? at h
  split at h
  · split at h
    · cases h
    · rename_i hs
      cases ha : a.spot with
      | none => rfl
      | some k => rw [ha] at hs; simp at hs
  · cases h
theorem add_zero_ (a : Addr) : a.add 0 = a := by unfold Addr.add; simp
theorem addr_plain {a : Addr} (h : a.spot = none) : a = ⟨a.block, a.off, none⟩ := by
  obtain ⟨b, o, s⟩ := a
  obtain rfl : s = none := h
  rfl
/-- cells of an own kind, by the elements' index -/
theorem flat_cells {α : Type} {w : World} {f : α → List Value} {s : Nat} (hs : ∀ a, (f a).length = s) (h0 : 0 < s) (l : List α) (a : Addr)
    (h : ∀ i p, l[i]? = some p → ∀ r u, (f p)[r]? = some u → w.cell? (a.add (i * s + r)) = some u) : ∀ j u, (l.flatMap f)[j]? = some u → w.cell? (a.add j) = some u := by
  intro j u hj
  have hl : j < l.length * s := by rw [← flatN_len hs l]; exact (List.getElem?_eq_some_iff.1 hj).1
  have hd : j / s < l.length := Nat.div_lt_of_lt_mul (by rwa [Nat.mul_comm] at hl)
  have hr : j % s < s := Nat.mod_lt _ h0
  have he : j / s * s + j % s = j := by rw [Nat.mul_comm]; exact Nat.div_add_mod j s
  have hp : l[j / s]? = some l[j / s] := List.getElem?_eq_getElem hd
  have := h (j / s) _ hp (j % s) u (by rw [← flatN_get hs l (j / s) _ hp _ hr, he]; exact hj)
  rwa [he] at this
theorem row_of {w : World} {base n c size : Nat} {a : Addr} {xs : List Value} (hlen : xs.length = n * size) (h0 : 0 < size) (hn : n ≤ c) (hm : c ≤ maxLen) (hb : base ≤ a.block)
    (hc : ∀ j u, xs[j]? = some u → w.cell? (a.add j) = some u) : Row w base w.heap.size size (some a) n c xs := by
  refine ⟨hlen, hn, hm, fun hp => ?_⟩
  have hl : 0 < xs.length := by rw [hlen]; exact Nat.mul_pos hp h0
  have h1 := hc 0 _ (List.getElem?_eq_getElem hl)
  rw [add_zero_] at h1
  have ha := addr_plain (cell_spot h1)
  have hlt := block_lt_of_cell h1
  refine ⟨a.block, a.off, by rw [← ha], hb, hlt, fun j u hu => ?_⟩
  · have := hc j u hu
    rw [ha, Addr.add_lit] at this; exact this
section
variable {H : Type}
theorem bulk_pos (d : DataW H) : 1 ≤ Rows.uptoBulk d := by unfold Rows.uptoBulk; split <;> omega
theorem bulk_mem : ∀ {l : List (DataW H)} {d : DataW H}, d ∈ l → Rows.uptoBulk d ≤ Rows.uptoBulkAll l
  | x :: r, d, h => by
    rw [Rows.uptoBulkAll]
    rcases List.mem_cons.1 h with rfl | h
    · omega
    · have := bulk_mem h; omega
theorem bulk_len : ∀ (l : List (DataW H)), l.length ≤ Rows.uptoBulkAll l
  | [] => Nat.zero_le _
  | x :: r => by
    rw [Rows.uptoBulkAll, List.length_cons]
    have := bulk_len r
    have := bulk_pos x
    omega
end
section
variable {H : Type} {enc : TypeId × Value → H} {w : World} {base : Nat} {spare : Nat → Bool} {held : Bool}
theorem spare_le {spare : Nat → Bool} {b len cap m : Nat} (hl : len ≤ cap) (hm : m = (if spare b then cap else len)) : len ≤ m := by rw [hm]; split <;> omega
theorem props_open {fuel : Nat} {v : Value} {x : DataW H × List MemPlace} (h : DataW.trod enc Try.prog w base spare held fuel 40 [v] = some x) :
    ∃ (A : Option Addr) (n c : Nat) (l : List (ByteArray × ByteArray)), v = .slice A n c ∧ n = l.length ∧ Row w base w.heap.size 2 A n c (propCells l) ∧ (∀ p ∈ l, p.1.size ≤ maxLen ∧ p.2.size ≤ maxLen) ∧ n ≤ Rows.uptoBulk x.1 := by
  rcases open_slice_pairs Try.underlying40 Try.underlying46 (by kernel_rfl) rfl rfl (by kernel_rfl) (by kernel_rfl) h with ⟨hv, rfl⟩ | ⟨a, len, cap, m, n, V0, V1, D0, D1, P0, P1, hv, hb, hl, hm, hmm, rfl, hx⟩
  · obtain rfl : v = .slice none 0 0 := by simpa using hv
    exact ⟨none, 0, 0, [], rfl, rfl, Row.nil _ _ _ _, by simp, Nat.zero_le _⟩
  · obtain rfl : v = .slice (some a) len cap := by simpa using hv
    have hle := spare_le hl hmm
    obtain ⟨F, hF⟩ := choose_lt (α := ByteArray × ByteArray) (n := len) (p := fun i q => w.cell? (a.add (i * 2)) = some (.string q.1) ∧ w.cell? (a.add (i * 2 + 1)) = some (.string q.2) ∧ q.1.size ≤ maxLen ∧ q.2.size ≤ maxLen) (fun i hi => by
      obtain ⟨c0, c1, t0, t1⟩ := hx i (by omega)
      obtain ⟨s0, e0, _, z0⟩ := DataW.trod_string Try.underlying9 t0
      obtain ⟨s1, e1, _, z1⟩ := DataW.trod_string Try.underlying9 t1
      have e0' : V0 i = .string s0 := by simpa using e0
      have e1' : V1 i = .string s1 := by simpa using e1
      rw [e0'] at c0
      rw [e1'] at c1
      exact ⟨(s0, s1), c0, c1, z0, z1⟩)
    have hg : ∀ i p, ((List.range len).map F)[i]? = some p → i < len ∧ p = F i := by
      intro i p hp
      rw [List.getElem?_map] at hp
      obtain ⟨j, hj, rfl⟩ := Option.map_eq_some_iff.1 hp
      obtain ⟨h1, h2⟩ := List.getElem?_eq_some_iff.1 hj
      rw [List.getElem_range] at h2
      subst h2
      exact ⟨by simpa using h1, rfl⟩
    refine ⟨some a, len, cap, (List.range len).map F, rfl, by simp, ?_, fun p hp => ?_, ?_⟩
    · refine row_of (by rw [propCells_length]; simp) (by omega) hl hm hb ?_
      refine flat_cells (s := 2) (fun _ => rfl) (by omega) _ a (fun i p hp r u hr => ?_)
      obtain ⟨hi, rfl⟩ := hg i p hp
      match r, hr with
      | 0, hr => simp at hr; subst hr; exact (hF i hi).1
      | 1, hr => simp at hr; subst hr; exact (hF i hi).2.1
    · obtain ⟨i, hi⟩ := List.getElem?_of_mem hp
      obtain ⟨h1, rfl⟩ := hg i p hi
      exact (hF i h1).2.2
    · have := bulk_len ((List.range len).map fun i => DataW.agg [D0 i, D1 i])
      simp only [Rows.uptoBulk]
      simp at this
      omega
theorem refs_open {fuel : Nat} {v : Value} {x : DataW H × List MemPlace} (h : DataW.trod enc Try.prog w base spare held fuel 42 [v] = some x) :
    ∃ (A : Option Addr) (n c : Nat) (l : List (ByteArray × Int)), v = .slice A n c ∧ n = l.length ∧ Row w base w.heap.size 2 A n c (refCells l) ∧ (∀ p ∈ l, p.1.size ≤ maxLen) ∧ n ≤ Rows.uptoBulk x.1 := by
  rcases open_slice_pairs Try.underlying42 Try.underlying48 (by kernel_rfl) rfl rfl (by kernel_rfl) (by kernel_rfl) h with ⟨hv, rfl⟩ | ⟨a, len, cap, m, n, V0, V1, D0, D1, P0, P1, hv, hb, hl, hm, hmm, rfl, hx⟩
  · obtain rfl : v = .slice none 0 0 := by simpa using hv
    exact ⟨none, 0, 0, [], rfl, rfl, Row.nil _ _ _ _, by simp, Nat.zero_le _⟩
  · obtain rfl : v = .slice (some a) len cap := by simpa using hv
    have hle := spare_le hl hmm
    obtain ⟨F, hF⟩ := choose_lt (α := ByteArray × Int) (n := len) (p := fun i q => w.cell? (a.add (i * 2)) = some (.string q.1) ∧ w.cell? (a.add (i * 2 + 1)) = some (.int .i64 q.2) ∧ q.1.size ≤ maxLen) (fun i hi => by
      obtain ⟨c0, c1, t0, t1⟩ := hx i (by omega)
      obtain ⟨s0, e0, _, z0⟩ := DataW.trod_string Try.underlying9 t0
      obtain ⟨s1, e1, _, z1⟩ := DataW.trod_int Try.underlying3 t1
      have e0' : V0 i = .string s0 := by simpa using e0
      have e1' : V1 i = .int .i64 s1 := by simpa using e1
      rw [e0'] at c0
      rw [e1'] at c1
      exact ⟨(s0, s1), c0, c1, z0⟩)
    have hg : ∀ i p, ((List.range len).map F)[i]? = some p → i < len ∧ p = F i := by
      intro i p hp
      rw [List.getElem?_map] at hp
      obtain ⟨j, hj, rfl⟩ := Option.map_eq_some_iff.1 hp
      obtain ⟨h1, h2⟩ := List.getElem?_eq_some_iff.1 hj
      rw [List.getElem_range] at h2
      subst h2
      exact ⟨by simpa using h1, rfl⟩
    refine ⟨some a, len, cap, (List.range len).map F, rfl, by simp, ?_, fun p hp => ?_, ?_⟩
    · refine row_of (by rw [refCells_length]; simp) (by omega) hl hm hb ?_
      refine flat_cells (s := 2) (fun _ => rfl) (by omega) _ a (fun i p hp r u hr => ?_)
      obtain ⟨hi, rfl⟩ := hg i p hp
      match r, hr with
      | 0, hr => simp at hr; subst hr; exact (hF i hi).1
      | 1, hr => simp at hr; subst hr; exact (hF i hi).2.1
    · obtain ⟨i, hi⟩ := List.getElem?_of_mem hp
      obtain ⟨h1, rfl⟩ := hg i p hi
      exact (hF i h1).2.2
    · have := bulk_len ((List.range len).map fun i => DataW.agg [D0 i, D1 i])
      simp only [Rows.uptoBulk]
      simp at this
      omega
theorem kids_open {fuel : Nat} {v : Value} {x : DataW H × List MemPlace} (h : DataW.trod enc Try.prog w base spare held fuel 41 [v] = some x) :
    ∃ (A : Option Addr) (n c : Nat) (l : List Int), v = .slice A n c ∧ n = l.length ∧ Row w base w.heap.size 1 A n c (intCells l) ∧ n ≤ Rows.uptoBulk x.1 := by
  rcases open_ints Try.underlying41 Try.underlying3 (by kernel_rfl) h with ⟨hv, rfl⟩ | ⟨a, len, cap, zs, hv, hb, hl, hm, hz, rfl, hc, _⟩
  · obtain rfl : v = .slice none 0 0 := by simpa using hv
    exact ⟨none, 0, 0, [], rfl, rfl, Row.nil _ _ _ _, Nat.zero_le _⟩
  · obtain rfl : v = .slice (some a) len cap := by simpa using hv
    have hle := spare_le hl hz
    have hlt : (zs.take len).length = len := by rw [List.length_take]; omega
    refine ⟨some a, len, cap, zs.take len, rfl, hlt.symm, ?_, ?_⟩
    · refine row_of (by rw [intCells_length, hlt]; omega) (by omega) hl hm hb (fun j u hu => ?_)
      unfold intCells at hu
      rw [List.getElem?_map] at hu
      obtain ⟨z, hz', rfl⟩ := Option.map_eq_some_iff.1 hu
      have hj : j < len := by rw [← hlt]; exact (List.getElem?_eq_some_iff.1 hz').1
      rw [List.getElem?_take_of_lt hj] at hz'
      have := hc j (by omega)
      rwa [List.getD_eq_getElem?_getD, hz'] at this
    · have h1 := bulk_len (H := H) (lits .i64 (zs.take len))
      have h2 : (lits (H := H) .i64 (zs.take len)).length = len := by unfold lits; rw [List.length_map, hlt]
      simp only [Rows.uptoBulk]
      omega
instance ndLeafInhabited : Inhabited (Nd × Leaf) := ⟨(⟨0, ByteArray.empty, 0, ByteArray.empty, [], [], []⟩, ⟨⟨none, 0, 0⟩, ⟨none, 0, 0⟩, ⟨none, 0, 0⟩⟩)⟩
/-- a struct of one-cell fields that lies in memory: each field's cell, with its reading -/
theorem fields_at {P : Program} {e : TypeId} {fs : Array Field} {fuel : Nat} {a : Addr} {cs : List Value} {x : DataW H × List MemPlace} (he : P.underlying e = some (.struct fs)) (hone : oneCellFields P fs = true) (hC : P.cellsOf e = fs.size)
    (hc : w.cells? base a (P.cellsOf e) = some cs) (h : DataW.trod enc P w base spare held fuel e cs = some x) :
    ∃ (ys : List (DataW H × List MemPlace)) (n : Nat), x.1 = .agg (ys.map (·.1)) ∧ ys.length = fs.size ∧
      ∀ j f, fs[j]? = some f → ∃ v y, w.cell? (a.add j) = some v ∧ ys[j]? = some y ∧ DataW.trod enc P w base spare held n f.type [v] = some y := by
  obtain ⟨ys, n, _, rfl, hl, hys, hf⟩ := DataW.trod_struct he h
  obtain ⟨_, hlen, hat⟩ := World.cells?_some hc
  refine ⟨ys, n, rfl, hys, fun j f hj => ?_⟩
  have hjs : j < fs.size := (Array.getElem?_eq_some_iff.1 hj).1
  have hjl : j < cs.length := by omega
  have hjy : j < ys.length := by omega
  obtain ⟨o1, o2⟩ := hone_of hone j f hj
  have h1 := hf j f hj
  rw [o1, o2, List.drop_eq_getElem_cons hjl, List.take_succ_cons, List.take_zero, List.getElem?_eq_getElem hjy] at h1
  exact ⟨cs[j], ys[j], by rw [hat j (by omega), List.getElem?_eq_getElem hjl], List.getElem?_eq_getElem hjy, h1⟩
/-- the lists of a node are no longer than its reading is great -/
structure Small (b : Nat) (nd : Nd) : Prop where
  p : nd.props.length ≤ b
  k : nd.kids.length ≤ b
  r : nd.refs.length ≤ b
theorem node_open {fuel : Nat} {a : Addr} {cs : List Value} {x : DataW H × List MemPlace} (hc : w.cells? base a (Try.prog.cellsOf 44) = some cs) (h : DataW.trod enc Try.prog w base spare held fuel 44 cs = some x) :
    ∃ q : Nd × Leaf, (∀ r u, (ndCells q)[r]? = some u → w.cell? (a.add r) = some u) ∧ LeafIn w base w.heap.size q.1 q.2 ∧ Small (Rows.uptoBulk x.1) q.1 := by
  obtain ⟨ys, n, hx, hys, hf⟩ := fields_at Try.underlying44 (by kernel_rfl) (by kernel_rfl) hc h
  obtain ⟨v0, y0, c0, g0, t0⟩ := hf 0 _ rfl
  obtain ⟨v1, y1, c1, g1, t1⟩ := hf 1 _ rfl
  obtain ⟨v2, y2, c2, g2, t2⟩ := hf 2 _ rfl
  obtain ⟨v3, y3, c3, g3, t3⟩ := hf 3 _ rfl
  obtain ⟨v4, y4, c4, g4, t4⟩ := hf 4 _ rfl
  obtain ⟨v5, y5, c5, g5, t5⟩ := hf 5 _ rfl
  obtain ⟨v6, y6, c6, g6, t6⟩ := hf 6 _ rfl
  obtain ⟨i0, e0, _, _⟩ := DataW.trod_int Try.underlying3 t0
  obtain ⟨s1, e1, _, z1⟩ := DataW.trod_string Try.underlying9 t1
  obtain ⟨i2, e2, _, _⟩ := DataW.trod_int Try.underlying3 t2
  obtain ⟨s3, e3, _, z3⟩ := DataW.trod_string Try.underlying9 t3
  obtain rfl : v0 = .int .i64 i0 := by simpa using e0
  obtain rfl : v1 = .string s1 := by simpa using e1
  obtain rfl : v2 = .int .i64 i2 := by simpa using e2
  obtain rfl : v3 = .string s3 := by simpa using e3
  obtain ⟨Ap, np, cp, lp, rfl, hp1, hp2, hp3, hp4⟩ := props_open t4
  obtain ⟨Ak, nk, ck, lk, rfl, hk1, hk2, hk4⟩ := kids_open t5
  obtain ⟨Ar, nr, cr, lr, rfl, hr1, hr2, hr3, hr4⟩ := refs_open t6
  have big : ∀ (j : Nat) (y : DataW H × List MemPlace), ys[j]? = some y → Rows.uptoBulk y.1 ≤ Rows.uptoBulk x.1 := by
    intro j y hy
    have := bulk_mem (List.mem_map_of_mem (f := (·.1)) (List.mem_of_getElem? hy))
    rw [hx]
    simp only [Rows.uptoBulk]
    omega
  have b4 := big 4 _ g4
  have b5 := big 5 _ g5
  have b6 := big 6 _ g6
  refine ⟨(⟨i0, s1, i2, s3, lp, lk, lr⟩, ⟨⟨Ap, np, cp⟩, ⟨Ak, nk, ck⟩, ⟨Ar, nr, cr⟩⟩), fun r u hr => ?_, ⟨hp1, hk1, hr1, hp2, hk2, hr2, ⟨z1, z3, hp3, hr3⟩⟩, ⟨(by omega : lp.length ≤ _), (by omega : lk.length ≤ _), (by omega : lr.length ≤ _)⟩⟩
  match r, hr with
  | 0, hr => simp [ndCells] at hr; subst hr; exact c0
  | 1, hr => simp [ndCells] at hr; subst hr; exact c1
  | 2, hr => simp [ndCells] at hr; subst hr; exact c2
  | 3, hr => simp [ndCells] at hr; subst hr; exact c3
  | 4, hr => simp [ndCells] at hr; subst hr; exact c4
  | 5, hr => simp [ndCells] at hr; subst hr; exact c5
  | 6, hr => simp [ndCells] at hr; subst hr; exact c6
theorem nodes_open {fuel : Nat} {v : Value} {x : DataW H × List MemPlace} (h : DataW.trod enc Try.prog w base spare held fuel 22 [v] = some x) :
    ∃ (A : Option Addr) (n c : Nat) (nds : List Nd), v = .slice A n c ∧ NodesIn w base w.heap.size A n c nds ∧ (∀ nd ∈ nds, Small (Rows.uptoBulk x.1) nd) ∧ n ≤ Rows.uptoBulk x.1 := by
  rcases open_slice Try.underlying22 h with ⟨hv, rfl⟩ | ⟨a, len, cap, m, n, D, Pl, hv, hb, hl, hm, hmm, rfl, hx⟩
  · obtain rfl : v = .slice none 0 0 := by simpa using hv
    exact ⟨none, 0, 0, [], rfl, NodesIn.nil _ _ _, by simp, Nat.zero_le _⟩
  · obtain rfl : v = .slice (some a) len cap := by simpa using hv
    have hle := spare_le hl hmm
    obtain ⟨F, hF⟩ := choose_lt (α := Nd × Leaf) (n := len) (p := fun i q => (∀ r u, (ndCells q)[r]? = some u → w.cell? (a.add (i * 7 + r)) = some u) ∧ LeafIn w base w.heap.size q.1 q.2 ∧ Small (Rows.uptoBulk (D i)) q.1) (fun i hi => by
      obtain ⟨cs', h1, h2⟩ := hx i (by omega)
      obtain ⟨q, q1, q2, q3⟩ := node_open h1 h2
      refine ⟨q, fun r u hr => ?_, q2, q3⟩
      have := q1 r u hr
      rwa [show Try.prog.cellsOf 44 = 7 from by kernel_rfl, Go.Deep.add_add] at this)
    have hg : ∀ i p, ((List.range len).map F)[i]? = some p → i < len ∧ p = F i := by
      intro i p hp
      rw [List.getElem?_map] at hp
      obtain ⟨j, hj, rfl⟩ := Option.map_eq_some_iff.1 hp
      obtain ⟨h1, h2⟩ := List.getElem?_eq_some_iff.1 hj
      rw [List.getElem_range] at h2
      subst h2
      exact ⟨by simpa using h1, rfl⟩
    have hrow : Row w base w.heap.size 7 (some a) len cap (allCells ((List.range len).map F)) := by
      refine row_of (by rw [allCells_len]; simp) (by omega) hl hm hb ?_
      refine flat_cells ndCells_len (by omega) _ a (fun i p hp r u hr => ?_)
      obtain ⟨hi, rfl⟩ := hg i p hp
      exact (hF i hi).1 r u hr
    refine ⟨some a, len, cap, ((List.range len).map F).map (·.1), rfl, ⟨by simp, hl, hm, fun h0 => ?_⟩, fun nd hnd => ?_, ?_⟩
    · obtain ⟨b, o, hA, hb1, hb2, hc⟩ := hrow.2.2.2 h0
      refine ⟨b, o, hA, hb1, hb2, fun i => (F i).2, fun i nd hi => ?_⟩
      rw [List.getElem?_map] at hi
      obtain ⟨p, hp, rfl⟩ := Option.map_eq_some_iff.1 hi
      obtain ⟨hil, rfl⟩ := hg i p hp
      have key : ∀ j u, j < 7 → (ndCells (F i))[j]? = some u → w.cell? ⟨b, o + i * 7 + j, none⟩ = some u := by
        intro j u hj hu
        have := hc (i * 7 + j) u (by unfold allCells; rw [flatN_get ndCells_len _ i _ hp j hj]; exact hu)
        rwa [Nat.add_assoc]
      exact ⟨⟨key 0 _ (by omega) rfl, key 1 _ (by omega) rfl, key 2 _ (by omega) rfl, key 3 _ (by omega) rfl, key 4 _ (by omega) rfl, key 5 _ (by omega) rfl, key 6 _ (by omega) rfl⟩, (hF i hil).2.1⟩
    · obtain ⟨p, hp, rfl⟩ := List.mem_map.1 hnd
      obtain ⟨i, hi⟩ := List.getElem?_of_mem hp
      obtain ⟨hil, rfl⟩ := hg i p hi
      have h1 := (hF i hil).2.2
      have h2 := bulk_mem (List.mem_map_of_mem (f := D) (List.mem_range.2 hil))
      simp only [Rows.uptoBulk]
      exact ⟨by have := h1.p; omega, by have := h1.k; omega, by have := h1.r; omega⟩
    · have h1 := bulk_len ((List.range len).map D)
      simp only [Rows.uptoBulk]
      simp at h1
      omega
set_option maxRecDepth 20000 in
/-- a model handed in, opened -/
theorem model_open {r : Reach} {b0 : Nat} {v : Value} {d : DataW H} {p : List MemPlace} (hv : Value.okWide Try.prog w r b0 24 v) (h : DataW.Trod enc Try.prog w base spare held 24 v d p) :
    ∃ (next : Int) (A : Option Addr) (n c : Nat) (nds : List Nd), v = .agg #[.int .i64 next, .slice A n c] ∧ NodesIn w base w.heap.size A n c nds ∧ (∀ nd ∈ nds, Small (Rows.uptoBulk d) nd) ∧ n ≤ Rows.uptoBulk d := by
  obtain ⟨v0, v1, y0, y1, n, rfl, rfl, rfl, t0, t1⟩ := open_agg2 Try.underlying24 (by kernel_rfl) (by kernel_rfl) hv h
  obtain ⟨i0, e0, _, _⟩ := DataW.trod_int Try.underlying3 t0
  obtain rfl : v0 = .int .i64 i0 := by simpa using e0
  obtain ⟨A, k, c, nds, rfl, h1, h2, h3⟩ := nodes_open t1
  have hb : Rows.uptoBulk y1.1 ≤ Rows.uptoBulk (DataW.agg [y0.1, y1.1]) := by
    simp only [Rows.uptoBulk, Rows.uptoBulkAll]; omega
  exact ⟨i0, A, k, c, nds, rfl, h1, fun nd hnd => ⟨Nat.le_trans (h2 nd hnd).p hb, Nat.le_trans (h2 nd hnd).k hb, Nat.le_trans (h2 nd hnd).r hb⟩, Nat.le_trans h3 hb⟩
end
section
variable {H : Type} {enc : TypeId × Value → H} {P : Program}
/-- what the row asks behind the call, where all that was there before lies as it lay: the same readings again -/
theorem post_read {f : Func} {s : ChangeSpec} {W W' : World} {args : Array Value} {v : Value} {ds gs : List (DataW H)} {before q : List MemPlace} (hW : DataW.Whole enc P f.params.toList s.vars false W args.toList ds gs before)
    (hres : DataW.TrodAll enc P W' W.heap.size (fun _ => false) false f.resultTypes.toList (v.resultList f.resultTypes.size) (s.fn H (ds ++ gs)).results [])
    (hargs : DataW.TrodAll enc P W' 0 (fun b => decide (b < W.heap.size)) true f.params.toList args.toList (s.fn H (ds ++ gs)).args q)
    (hvars : DataW.TrodVars enc P W' (fun b => decide (b < W.heap.size)) s.vars (s.fn H (ds ++ gs)).vars []) (hb : Below W.heap.size W W') :
    s.post enc P f false true false false W args v W' :=
  ⟨ds, gs, before, [], q, [], hW, hres, hargs, hvars, hb.frame _, fun h => by cases h⟩
end
end Go.Proofs.Ytfljndlmafcjeaa
