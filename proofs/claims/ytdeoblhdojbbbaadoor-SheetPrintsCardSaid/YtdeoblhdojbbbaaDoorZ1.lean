/-
  MEMORY: when a slice, a node, a model in memory reads as a list, a node, a model of plain values. No program stands in it.
-/
import Derived.WalkKit
import Derived.Lib.Hide
import Derived.Lib.QuietBelow
import Derived.Lib.SmallJoins
namespace Go.Proofs.YtdeoblhdojbbbaaDoor
open Go Go.RowKit Go.Sort
set_option linter.unusedVariables false
/-- a node -/
structure Nd where
  id : Int
  con : ByteArray
  par : Int
  role : ByteArray
  props : List (ByteArray × ByteArray)
  kids : List Int
  refs : List (ByteArray × Int)
/-- what a call answers that makes memory of its own at most -/
def Ret (w : World) (v : Value) (e : Ending) (w' : World) : Prop := e = .returned v ∧ Below w.heap.size w w'
theorem bcell {W w1 : World} (hb : Below W.heap.size W w1) : (∀ b o, b < W.heap.size → w1.cell? ⟨b, o, none⟩ = W.cell? ⟨b, o, none⟩) ∧ (∀ b o, b < W.heap.size → w1.frozen? ⟨b, o, none⟩ = W.frozen? ⟨b, o, none⟩) :=
  ⟨fun b o h => hb.cell (p := ⟨b, o, none⟩) h, fun b o h => hb.frozen (p := ⟨b, o, none⟩) h⟩
theorem cell_alloc {w : World} {b o : Nat} {u : Value} (h : w.cell? ⟨b, o, none⟩ = some u) (hb : b < w.heap.size) (x : Obj) : (w.alloc x).cell? ⟨b, o, none⟩ = some u :=
  (World.cell?_alloc_lt w x ⟨b, o, none⟩ hb).trans h
theorem below_drewN {B : Nat} {a w : World} (h : Below B a w) (n : Nat) : Below B a (w.drewN n) := ⟨h.os, h.tape, h.output, h.size, h.block⟩
/-- the slice value '.slice A n c' holds the cells xs, 'size' of them an element, in a block from lo on and below hi -/
def Row (w : World) (lo hi size : Nat) (A : Option Addr) (n c : Nat) (xs : List Value) : Prop :=
  xs.length = n * size ∧ n ≤ c ∧ c ≤ maxLen ∧ (0 < n → ∃ b o, A = some ⟨b, o, none⟩ ∧ lo ≤ b ∧ b < hi ∧ ∀ j u, xs[j]? = some u → w.cell? ⟨b, o + j, none⟩ = some u)
section
variable {w w' : World} {lo hi size n c : Nat} {A : Option Addr} {xs : List Value}
theorem Row.nil (w : World) (lo hi size : Nat) : Row w lo hi size none 0 0 [] := ⟨by simp, Nat.le_refl _, Nat.zero_le _, fun h => absurd h (by omega)⟩
theorem Row.keep (h : Row w lo hi size A n c xs) (hk : ∀ b o, b < hi → w'.cell? ⟨b, o, none⟩ = w.cell? ⟨b, o, none⟩) : Row w' lo hi size A n c xs :=
  ⟨h.1, h.2.1, h.2.2.1, fun hn => by
    obtain ⟨b, o, e, h1, h2, hc⟩ := h.2.2.2 hn
    exact ⟨b, o, e, h1, h2, fun j u hu => (hk b _ h2).trans (hc j u hu)⟩⟩
theorem Row.below (h : Row w lo hi size A n c xs) (hb : Below hi w w') : Row w' lo hi size A n c xs := h.keep fun _ _ hp => hb.cell (p := ⟨_, _, none⟩) hp
theorem Row.mono (h : Row w lo hi size A n c xs) {lo' hi' : Nat} (hl : lo' ≤ lo) (hh : hi ≤ hi') : Row w lo' hi' size A n c xs :=
  ⟨h.1, h.2.1, h.2.2.1, fun hn => by
    obtain ⟨b, o, e, h1, h2, hc⟩ := h.2.2.2 hn
    exact ⟨b, o, e, by omega, by omega, hc⟩⟩
/-- where the cells are -/
theorem Row.at_ (h : Row w lo hi size A n c xs) (hn : 0 < n) : ∃ b o, A = some ⟨b, o, none⟩ ∧ lo ≤ b ∧ b < hi ∧ ∀ j u, xs[j]? = some u → w.cell? ⟨b, o + j, none⟩ = some u := h.2.2.2 hn
end
def Blk (w : World) (g : Nat) (t : TypeId) (cs : Array Value) : Prop := w.heap[g]? = some (.cells cs t (0, 0))
section
variable {w w' : World} {g : Nat} {t : TypeId} {cs : Array Value}
theorem Blk.lt (h : Blk w g t cs) : g < w.heap.size := by
  rcases Nat.lt_or_ge g w.heap.size with hlt | hge
  · exact hlt
  · unfold Blk at h; rw [Array.getElem?_eq_none hge] at h; cases h
theorem Blk.cell (h : Blk w g t cs) (i : Nat) : w.cell? ⟨g, i, none⟩ = cs[i]? := cell_of_row w g i cs t (0, 0) h
theorem Blk.frozen (h : Blk w g t cs) (i : Nat) : w.frozen? ⟨g, i, none⟩ = false := by
  unfold Blk at h
  simp [World.frozen?, h]
theorem Blk.new (w : World) (t : TypeId) (cs : Array Value) : Blk (w.alloc (.cells cs t)) w.heap.size t cs := heap_alloc_new w _
theorem Blk.new' {w : World} {t : TypeId} {cs : Array Value} {g : Nat} (hg : g = w.heap.size) : Blk (w.alloc (.cells cs t)) g t cs := by rw [hg]; exact heap_alloc_new w _
theorem Blk.drewN (h : Blk w g t cs) (n : Nat) : Blk (w.drewN n) g t cs := h
theorem Blk.alloc (h : Blk w g t cs) (o : Obj) : Blk (w.alloc o) g t cs := (Below.heap_alloc w o g h.lt).trans h
theorem Blk.set_ (h : Blk w g t cs) (i : Nat) (u : Value) : Blk (w.setCell ⟨g, i, none⟩ u) g t (cs.setIfInBounds i u) := by
  unfold Blk at h ⊢
  simp [World.setCell, Array.getElem?_modify, h]
theorem Blk.far (h : Blk w g t cs) {p : Addr} (hp : g ≠ p.block) (u : Value) : Blk (w.setCell p u) g t cs := (Below.heap_setCell w p u g hp).trans h
theorem Blk.below {B : Nat} (h : Blk w g t cs) (hb : Below B w w') (hg : g < B) : Blk w' g t cs := (hb.block g hg).trans h
theorem Blk.after (h : Blk w g t cs) (hb : Below w.heap.size w w') : Blk w' g t cs := h.below hb h.lt
theorem Blk.grown {row : Option Nat} (h : Blk w g t cs) (hb : w.grownBy w' row) (hg : some g ≠ row) : Blk w' g t cs := (hb.block g h.lt hg).trans h
theorem Blk.ne_ {g' : Nat} {t' : TypeId} {cs' : Array Value} (h : Blk w g t cs) (h' : Blk w g' t' cs') (hne : t ≠ t') : g ≠ g' := by
  rintro rfl
  unfold Blk at h h'
  rw [h] at h'
  injection h' with h'
  injection h' with _ ht
  exact hne ht
end
def propCells (l : List (ByteArray × ByteArray)) : List Value := l.flatMap fun p => [.string p.1, .string p.2]
def refCells (l : List (ByteArray × Int)) : List Value := l.flatMap fun p => [.string p.1, .int .i64 p.2]
def intCells (l : List Int) : List Value := l.map (.int .i64)
theorem propCells_length (l : List (ByteArray × ByteArray)) : (propCells l).length = l.length * 2 := by
  induction l with
  | nil => rfl
  | cons p l ih => simp only [propCells, List.flatMap_cons, List.length_append, List.length_cons, List.length_nil] at *; omega
theorem refCells_length (l : List (ByteArray × Int)) : (refCells l).length = l.length * 2 := by
  induction l with
  | nil => rfl
  | cons p l ih => simp only [refCells, List.flatMap_cons, List.length_append, List.length_cons, List.length_nil] at *; omega
theorem intCells_length (l : List Int) : (intCells l).length = l.length := by simp [intCells]
theorem flat2_get {α : Type} {f : α → List Value} (h2 : ∀ a, (f a).length = 2) (l : List α) : ∀ (i : Nat) (p : α), l[i]? = some p → (l.flatMap f)[i * 2]? = (f p)[0]? ∧ (l.flatMap f)[i * 2 + 1]? = (f p)[1]? := by
  induction l with
  | nil => intro i p h; simp at h
  | cons q l ih =>
    intro i p h
    have hq := h2 q
    match i, h with
    | 0, h =>
      obtain rfl : q = p := by simpa using h
      rw [List.flatMap_cons]
      rw [List.getElem?_append_left (by omega), List.getElem?_append_left (by omega)]
      exact ⟨rfl, rfl⟩
    | i + 1, h =>
      have := ih i p (by simpa using h)
      rw [List.flatMap_cons]
      rw [List.getElem?_append_right (by omega), List.getElem?_append_right (by omega), hq]
      rw [show (i + 1) * 2 - 2 = i * 2 from by omega, show (i + 1) * 2 + 1 - 2 = i * 2 + 1 from by omega]
      exact this
theorem propCells_get {l : List (ByteArray × ByteArray)} {i : Nat} {p : ByteArray × ByteArray} (h : l[i]? = some p) : (propCells l)[i * 2]? = some (.string p.1) ∧ (propCells l)[i * 2 + 1]? = some (.string p.2) :=
  flat2_get (f := fun p : ByteArray × ByteArray => [Value.string p.1, .string p.2]) (fun _ => rfl) l i p h
theorem refCells_get {l : List (ByteArray × Int)} {i : Nat} {p : ByteArray × Int} (h : l[i]? = some p) : (refCells l)[i * 2]? = some (.string p.1) ∧ (refCells l)[i * 2 + 1]? = some (.int .i64 p.2) :=
  flat2_get (f := fun p : ByteArray × Int => [Value.string p.1, .int .i64 p.2]) (fun _ => rfl) l i p h
theorem intCells_get {l : List Int} {i : Nat} {p : Int} (h : l[i]? = some p) : (intCells l)[i]? = some (.int .i64 p) := by
  simp [intCells, h]
/-- a block of numbers -/
def IBlk (w : World) (g : Nat) (a : List Int) : Prop := Blk w g 3 (intCells a).toArray
section
variable {w w' : World} {g : Nat} {a : List Int}
theorem IBlk.cell (h : IBlk w g a) {i : Nat} (hi : i < a.length) : w.cell? ⟨g, i, none⟩ = some (.int .i64 (a.getD i 0)) := by
  rw [Blk.cell h]
  simp [intCells, hi]
theorem IBlk.set_ (h : IBlk w g a) (i : Nat) (x : Int) : IBlk (w.setCell ⟨g, i, none⟩ (.int .i64 x)) g (a.set i x) := by
  have := Blk.set_ h i (.int .i64 x)
  unfold IBlk
  have e : (intCells (a.set i x)).toArray = (intCells a).toArray.setIfInBounds i (.int .i64 x) := by simp [intCells, List.map_set]
  rw [e]; exact this
theorem IBlk.after (h : IBlk w g a) (hb : Below w.heap.size w w') : IBlk w' g a := Blk.after h hb
theorem IBlk.lt (h : IBlk w g a) : g < w.heap.size := Blk.lt h
theorem IBlk.row (h : IBlk w g a) {lo hi n c : Nat} (hn : a.length = n) (hc : n ≤ c) (hm : c ≤ maxLen) (hl : lo ≤ g) (hh : g < hi) : Row w lo hi 1 (some ⟨g, 0, none⟩) n c (intCells a) :=
  ⟨by rw [intCells_length]; omega, hc, hm, fun _ => ⟨g, 0, rfl, hl, hh, fun j u hu => by rw [Nat.zero_add, Blk.cell h]; simpa using hu⟩⟩
end
/-- a slice value, its three parts -/
structure Sl where
  A : Option Addr
  n : Nat
  c : Nat
def Sl.v (s : Sl) : Value := .slice s.A s.n s.c
/-- a node's three lists as they lie in memory -/
structure Leaf where
  p : Sl
  k : Sl
  r : Sl
/-- the texts of a node are no longer than texts may be -/
structure SzN (nd : Nd) : Prop where
  con : nd.con.size ≤ maxLen
  role : nd.role.size ≤ maxLen
  props : ∀ p ∈ nd.props, p.1.size ≤ maxLen ∧ p.2.size ≤ maxLen
  refs : ∀ p ∈ nd.refs, p.1.size ≤ maxLen
/-- the lists of a node -/
structure LeafIn (w : World) (lo hi : Nat) (nd : Nd) (L : Leaf) : Prop where
  pn : L.p.n = nd.props.length
  kn : L.k.n = nd.kids.length
  rn : L.r.n = nd.refs.length
  p : Row w lo hi 2 L.p.A L.p.n L.p.c (propCells nd.props)
  k : Row w lo hi 1 L.k.A L.k.n L.k.c (intCells nd.kids)
  r : Row w lo hi 2 L.r.A L.r.n L.r.c (refCells nd.refs)
  sz : SzN nd
/-- a node by value -/
def ndVal (nd : Nd) (L : Leaf) : Value := .agg #[.int .i64 nd.id, .string nd.con, .int .i64 nd.par, .string nd.role, .slice L.p.A L.p.n L.p.c, .slice L.k.A L.k.n L.k.c, .slice L.r.A L.r.n L.r.c]
/-- a node's seven cells -/
structure NodeAt (w : World) (b o : Nat) (nd : Nd) (L : Leaf) : Prop where
  c0 : w.cell? ⟨b, o, none⟩ = some (.int .i64 nd.id)
  c1 : w.cell? ⟨b, o + 1, none⟩ = some (.string nd.con)
  c2 : w.cell? ⟨b, o + 2, none⟩ = some (.int .i64 nd.par)
  c3 : w.cell? ⟨b, o + 3, none⟩ = some (.string nd.role)
  c4 : w.cell? ⟨b, o + 4, none⟩ = some (.slice L.p.A L.p.n L.p.c)
  c5 : w.cell? ⟨b, o + 5, none⟩ = some (.slice L.k.A L.k.n L.k.c)
  c6 : w.cell? ⟨b, o + 6, none⟩ = some (.slice L.r.A L.r.n L.r.c)
/-- the slice '.slice A n c' holds these nodes; what they hold lies below hi, from lo on -/
def NodesIn (w : World) (lo hi : Nat) (A : Option Addr) (n c : Nat) (nds : List Nd) : Prop :=
  nds.length = n ∧ n ≤ c ∧ c ≤ maxLen ∧ (0 < n → ∃ b o, A = some ⟨b, o, none⟩ ∧ lo ≤ b ∧ b < hi ∧ ∃ V : Nat → Leaf, ∀ i nd, nds[i]? = some nd → NodeAt w b (o + i * 7) nd (V i) ∧ LeafIn w lo hi nd (V i))
section
variable {w w' : World} {lo hi n c : Nat} {A : Option Addr} {nds : List Nd} {nd : Nd} {L : Leaf} {b o : Nat}
theorem LeafIn.keep (h : LeafIn w lo hi nd L) (hk : ∀ b o, b < hi → w'.cell? ⟨b, o, none⟩ = w.cell? ⟨b, o, none⟩) : LeafIn w' lo hi nd L := ⟨h.pn, h.kn, h.rn, h.p.keep hk, h.k.keep hk, h.r.keep hk, h.sz⟩
theorem LeafIn.below (h : LeafIn w lo hi nd L) (hb : Below hi w w') : LeafIn w' lo hi nd L := ⟨h.pn, h.kn, h.rn, h.p.below hb, h.k.below hb, h.r.below hb, h.sz⟩
theorem LeafIn.mono (h : LeafIn w lo hi nd L) {lo' hi' : Nat} (hl : lo' ≤ lo) (hh : hi ≤ hi') : LeafIn w lo' hi' nd L := ⟨h.pn, h.kn, h.rn, h.p.mono hl hh, h.k.mono hl hh, h.r.mono hl hh, h.sz⟩
theorem NodeAt.keep (h : NodeAt w b o nd L) (hk : ∀ x, w'.cell? ⟨b, x, none⟩ = w.cell? ⟨b, x, none⟩) : NodeAt w' b o nd L :=
  ⟨(hk _).trans h.c0, (hk _).trans h.c1, (hk _).trans h.c2, (hk _).trans h.c3, (hk _).trans h.c4, (hk _).trans h.c5, (hk _).trans h.c6⟩
theorem NodeAt.below (h : NodeAt w b o nd L) (hb : Below hi w w') (hlt : b < hi) : NodeAt w' b o nd L := h.keep fun _ => hb.cell (p := ⟨_, _, none⟩) hlt
theorem NodesIn.nil (w : World) (lo hi : Nat) : NodesIn w lo hi none 0 0 [] := ⟨rfl, Nat.le_refl _, Nat.zero_le _, fun h => absurd h (by omega)⟩
theorem NodesIn.keep (h : NodesIn w lo hi A n c nds) (hk : ∀ b o, b < hi → w'.cell? ⟨b, o, none⟩ = w.cell? ⟨b, o, none⟩) : NodesIn w' lo hi A n c nds :=
  ⟨h.1, h.2.1, h.2.2.1, fun hn => by
    obtain ⟨b, o, e, h1, h2, V, hc⟩ := h.2.2.2 hn
    exact ⟨b, o, e, h1, h2, V, fun i nd hi => ⟨(hc i nd hi).1.keep (fun x => hk b x h2), (hc i nd hi).2.keep hk⟩⟩⟩
theorem NodesIn.below (h : NodesIn w lo hi A n c nds) (hb : Below hi w w') : NodesIn w' lo hi A n c nds := h.keep fun _ _ hp => hb.cell (p := ⟨_, _, none⟩) hp
theorem NodesIn.mono (h : NodesIn w lo hi A n c nds) {lo' hi' : Nat} (hl : lo' ≤ lo) (hh : hi ≤ hi') : NodesIn w lo' hi' A n c nds :=
  ⟨h.1, h.2.1, h.2.2.1, fun hn => by
    obtain ⟨b, o, e, h1, h2, V, hc⟩ := h.2.2.2 hn
    exact ⟨b, o, e, by omega, by omega, V, fun i nd hi => ⟨(hc i nd hi).1, (hc i nd hi).2.mono hl hh⟩⟩⟩
/-- the node at a place -/
theorem NodesIn.at_ (h : NodesIn w lo hi A n c nds) {i : Nat} (hi' : i < n) : ∃ b o nd L, A = some ⟨b, o, none⟩ ∧ lo ≤ b ∧ b < hi ∧ nds[i]? = some nd ∧ NodeAt w b (o + i * 7) nd L ∧ LeafIn w lo hi nd L := by
  obtain ⟨b, o, e, h1, h2, V, hc⟩ := h.2.2.2 (by omega)
  have hl : i < nds.length := by rw [h.1]; exact hi'
  have hg : nds[i]? = some nds[i] := List.getElem?_eq_getElem hl
  exact ⟨b, o, nds[i], V i, e, h1, h2, hg, (hc i _ hg).1, (hc i _ hg).2⟩
/-- where they are, and all of them -/
theorem NodesIn.all (h : NodesIn w lo hi A n c nds) (hn : 0 < n) : ∃ b o, A = some ⟨b, o, none⟩ ∧ lo ≤ b ∧ b < hi ∧ ∃ V : Nat → Leaf, ∀ i nd, nds[i]? = some nd → NodeAt w b (o + i * 7) nd (V i) ∧ LeafIn w lo hi nd (V i) := h.2.2.2 hn
end
end Go.Proofs.YtdeoblhdojbbbaaDoor
