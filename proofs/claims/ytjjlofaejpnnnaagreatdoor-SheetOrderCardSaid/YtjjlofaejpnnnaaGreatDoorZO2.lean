/-
  MEMORY: when a slice, a node, a model in memory reads as a list, a node, a model of plain values. No program stands in it.
  PLAIN VALUES: what a word is, what a model is. No program stands in it.
  THE LIBRARY's VARIABLES as the rows list them: what that gives the walks; a start in which they lie so.
  PLAIN VALUES: when nodes are a right model. No program stands in it.
  PLAIN VALUES: a model is right, told in two ways; they are the same. No program stands in it.
-/
import Derived.Test.YtjjlofaejpnnnaaGreatDoorZO1
import Derived.WalkKit
import Derived.Lib.Hide
import Derived.Lib.QuietBelow
import Derived.Lib.SmallJoins
import Derived.Test.YtjjlofaejpnnnaaGreatDoorCards
import Derived.Test.YtjjlofaejpnnnaaGreatDoorTie
import Derived.ProofKit
import Derived.OpenShut
import Derived.Deep.DeepHandedRow
import Derived.Deep.DeepWitnessRowRef
import Derived.Stop.LaidErr
import Derived.SizedLaws
import Derived.Laws.Strings
namespace Go.Proofs.YtjjlofaejpnnnaaGreatDoor
open Go Go.RowKit Go.Sort
set_option linter.unusedVariables false
/-- a node -/
structure Nd where
  id : Int
  con : ByteArray
  par : Int
  role : ByteArray
  props : List (ByteArray × ByteArray)
  kids : List Int
  refs : List (ByteArray × Int)
/-- what a call answers that makes memory of its own at most -/
def Ret (w : World) (v : Value) (e : Ending) (w' : World) : Prop := e = .returned v ∧ Below w.heap.size w w'
theorem bcell {W w1 : World} (hb : Below W.heap.size W w1) : (∀ b o, b < W.heap.size → w1.cell? ⟨b, o, none⟩ = W.cell? ⟨b, o, none⟩) ∧ (∀ b o, b < W.heap.size → w1.frozen? ⟨b, o, none⟩ = W.frozen? ⟨b, o, none⟩) :=
  ⟨fun b o h => hb.cell (p := ⟨b, o, none⟩) h, fun b o h => hb.frozen (p := ⟨b, o, none⟩) h⟩
theorem cell_alloc {w : World} {b o : Nat} {u : Value} (h : w.cell? ⟨b, o, none⟩ = some u) (hb : b < w.heap.size) (x : Obj) : (w.alloc x).cell? ⟨b, o, none⟩ = some u :=
  (World.cell?_alloc_lt w x ⟨b, o, none⟩ hb).trans h
theorem below_drewN {B : Nat} {a w : World} (h : Below B a w) (n : Nat) : Below B a (w.drewN n) := ⟨h.os, h.tape, h.output, h.size, h.block⟩
/-- the slice value '.slice A n c' holds the cells xs, 'size' of them an element, in a block from lo on and below hi -/
def Row (w : World) (lo hi size : Nat) (A : Option Addr) (n c : Nat) (xs : List Value) : Prop :=
  xs.length = n * size ∧ n ≤ c ∧ c ≤ maxLen ∧ (0 < n → ∃ b o, A = some ⟨b, o, none⟩ ∧ lo ≤ b ∧ b < hi ∧ ∀ j u, xs[j]? = some u → w.cell? ⟨b, o + j, none⟩ = some u)
section
variable {w w' : World} {lo hi size n c : Nat} {A : Option Addr} {xs : List Value}
theorem Row.nil (w : World) (lo hi size : Nat) : Row w lo hi size none 0 0 [] := ⟨by simp, Nat.le_refl _, Nat.zero_le _, fun h => absurd h (by omega)⟩
theorem Row.keep (h : Row w lo hi size A n c xs) (hk : ∀ b o, b < hi → w'.cell? ⟨b, o, none⟩ = w.cell? ⟨b, o, none⟩) : Row w' lo hi size A n c xs :=
  ⟨h.1, h.2.1, h.2.2.1, fun hn => by
    obtain ⟨b, o, e, h1, h2, hc⟩ := h.2.2.2 hn
    exact ⟨b, o, e, h1, h2, fun j u hu => (hk b _ h2).trans (hc j u hu)⟩⟩
theorem Row.below (h : Row w lo hi size A n c xs) (hb : Below hi w w') : Row w' lo hi size A n c xs := h.keep fun _ _ hp => hb.cell (p := ⟨_, _, none⟩) hp
theorem Row.mono (h : Row w lo hi size A n c xs) {lo' hi' : Nat} (hl : lo' ≤ lo) (hh : hi ≤ hi') : Row w lo' hi' size A n c xs :=
  ⟨h.1, h.2.1, h.2.2.1, fun hn => by
    obtain ⟨b, o, e, h1, h2, hc⟩ := h.2.2.2 hn
    exact ⟨b, o, e, by omega, by omega, hc⟩⟩
/-- where the cells are -/
theorem Row.at_ (h : Row w lo hi size A n c xs) (hn : 0 < n) : ∃ b o, A = some ⟨b, o, none⟩ ∧ lo ≤ b ∧ b < hi ∧ ∀ j u, xs[j]? = some u → w.cell? ⟨b, o + j, none⟩ = some u := h.2.2.2 hn
end
def Blk (w : World) (g : Nat) (t : TypeId) (cs : Array Value) : Prop := w.heap[g]? = some (.cells cs t (0, 0))
section
variable {w w' : World} {g : Nat} {t : TypeId} {cs : Array Value}
theorem Blk.lt (h : Blk w g t cs) : g < w.heap.size := by
  rcases Nat.lt_or_ge g w.heap.size with hlt | hge
  · exact hlt
  · unfold Blk at h; rw [Array.getElem?_eq_none hge] at h; cases h
theorem Blk.cell (h : Blk w g t cs) (i : Nat) : w.cell? ⟨g, i, none⟩ = cs[i]? := cell_of_row w g i cs t (0, 0) h
theorem Blk.frozen (h : Blk w g t cs) (i : Nat) : w.frozen? ⟨g, i, none⟩ = false := by
  unfold Blk at h
  simp [World.frozen?, h]
theorem Blk.new (w : World) (t : TypeId) (cs : Array Value) : Blk (w.alloc (.cells cs t)) w.heap.size t cs := heap_alloc_new w _
theorem Blk.new' {w : World} {t : TypeId} {cs : Array Value} {g : Nat} (hg : g = w.heap.size) : Blk (w.alloc (.cells cs t)) g t cs := by rw [hg]; exact heap_alloc_new w _
theorem Blk.drewN (h : Blk w g t cs) (n : Nat) : Blk (w.drewN n) g t cs := h
theorem Blk.alloc (h : Blk w g t cs) (o : Obj) : Blk (w.alloc o) g t cs := (Below.heap_alloc w o g h.lt).trans h
theorem Blk.set_ (h : Blk w g t cs) (i : Nat) (u : Value) : Blk (w.setCell ⟨g, i, none⟩ u) g t (cs.setIfInBounds i u) := by
  unfold Blk at h ⊢
  simp [World.setCell, Array.getElem?_modify, h]
theorem Blk.far (h : Blk w g t cs) {p : Addr} (hp : g ≠ p.block) (u : Value) : Blk (w.setCell p u) g t cs := (Below.heap_setCell w p u g hp).trans h
theorem Blk.below {B : Nat} (h : Blk w g t cs) (hb : Below B w w') (hg : g < B) : Blk w' g t cs := (hb.block g hg).trans h
theorem Blk.after (h : Blk w g t cs) (hb : Below w.heap.size w w') : Blk w' g t cs := h.below hb h.lt
theorem Blk.grown {row : Option Nat} (h : Blk w g t cs) (hb : w.grownBy w' row) (hg : some g ≠ row) : Blk w' g t cs := (hb.block g h.lt hg).trans h
theorem Blk.ne_ {g' : Nat} {t' : TypeId} {cs' : Array Value} (h : Blk w g t cs) (h' : Blk w g' t' cs') (hne : t ≠ t') : g ≠ g' := by
  rintro rfl
  unfold Blk at h h'
  rw [h] at h'
  injection h' with h'
  injection h' with _ ht
  exact hne ht
end
def propCells (l : List (ByteArray × ByteArray)) : List Value := l.flatMap fun p => [.string p.1, .string p.2]
def refCells (l : List (ByteArray × Int)) : List Value := l.flatMap fun p => [.string p.1, .int .i64 p.2]
def intCells (l : List Int) : List Value := l.map (.int .i64)
theorem propCells_length (l : List (ByteArray × ByteArray)) : (propCells l).length = l.length * 2 := by
  induction l with
  | nil => rfl
  | cons p l ih => simp only [propCells, List.flatMap_cons, List.length_append, List.length_cons, List.length_nil] at *; omega
theorem refCells_length (l : List (ByteArray × Int)) : (refCells l).length = l.length * 2 := by
  induction l with
  | nil => rfl
  | cons p l ih => simp only [refCells, List.flatMap_cons, List.length_append, List.length_cons, List.length_nil] at *; omega
theorem intCells_length (l : List Int) : (intCells l).length = l.length := by simp [intCells]
theorem flat2_get {α : Type} {f : α → List Value} (h2 : ∀ a, (f a).length = 2) (l : List α) : ∀ (i : Nat) (p : α), l[i]? = some p → (l.flatMap f)[i * 2]? = (f p)[0]? ∧ (l.flatMap f)[i * 2 + 1]? = (f p)[1]? := by
  induction l with
  | nil => intro i p h; simp at h
  | cons q l ih =>
    intro i p h
    have hq := h2 q
    match i, h with
    | 0, h =>
      obtain rfl : q = p := by simpa using h
      rw [List.flatMap_cons]
      rw [List.getElem?_append_left (by omega), List.getElem?_append_left (by omega)]
      exact ⟨rfl, rfl⟩
    | i + 1, h =>
      have := ih i p (by simpa using h)
      rw [List.flatMap_cons]
      rw [List.getElem?_append_right (by omega), List.getElem?_append_right (by omega), hq]
      rw [show (i + 1) * 2 - 2 = i * 2 from by omega, show (i + 1) * 2 + 1 - 2 = i * 2 + 1 from by omega]
      exact this
theorem propCells_get {l : List (ByteArray × ByteArray)} {i : Nat} {p : ByteArray × ByteArray} (h : l[i]? = some p) : (propCells l)[i * 2]? = some (.string p.1) ∧ (propCells l)[i * 2 + 1]? = some (.string p.2) :=
  flat2_get (f := fun p : ByteArray × ByteArray => [Value.string p.1, .string p.2]) (fun _ => rfl) l i p h
theorem refCells_get {l : List (ByteArray × Int)} {i : Nat} {p : ByteArray × Int} (h : l[i]? = some p) : (refCells l)[i * 2]? = some (.string p.1) ∧ (refCells l)[i * 2 + 1]? = some (.int .i64 p.2) :=
  flat2_get (f := fun p : ByteArray × Int => [Value.string p.1, .int .i64 p.2]) (fun _ => rfl) l i p h
theorem intCells_get {l : List Int} {i : Nat} {p : Int} (h : l[i]? = some p) : (intCells l)[i]? = some (.int .i64 p) := by
  simp [intCells, h]
/-- a block of numbers -/
def IBlk (w : World) (g : Nat) (a : List Int) : Prop := Blk w g 3 (intCells a).toArray
section
variable {w w' : World} {g : Nat} {a : List Int}
theorem IBlk.cell (h : IBlk w g a) {i : Nat} (hi : i < a.length) : w.cell? ⟨g, i, none⟩ = some (.int .i64 (a.getD i 0)) := by
  rw [Blk.cell h]
  simp [intCells, hi]
theorem IBlk.set_ (h : IBlk w g a) (i : Nat) (x : Int) : IBlk (w.setCell ⟨g, i, none⟩ (.int .i64 x)) g (a.set i x) := by
  have := Blk.set_ h i (.int .i64 x)
  unfold IBlk
  have e : (intCells (a.set i x)).toArray = (intCells a).toArray.setIfInBounds i (.int .i64 x) := by simp [intCells, List.map_set]
  rw [e]; exact this
theorem IBlk.after (h : IBlk w g a) (hb : Below w.heap.size w w') : IBlk w' g a := Blk.after h hb
theorem IBlk.lt (h : IBlk w g a) : g < w.heap.size := Blk.lt h
theorem IBlk.row (h : IBlk w g a) {lo hi n c : Nat} (hn : a.length = n) (hc : n ≤ c) (hm : c ≤ maxLen) (hl : lo ≤ g) (hh : g < hi) : Row w lo hi 1 (some ⟨g, 0, none⟩) n c (intCells a) :=
  ⟨by rw [intCells_length]; omega, hc, hm, fun _ => ⟨g, 0, rfl, hl, hh, fun j u hu => by rw [Nat.zero_add, Blk.cell h]; simpa using hu⟩⟩
end
/-- a slice value, its three parts -/
structure Sl where
  A : Option Addr
  n : Nat
  c : Nat
def Sl.v (s : Sl) : Value := .slice s.A s.n s.c
/-- a node's three lists as they lie in memory -/
structure Leaf where
  p : Sl
  k : Sl
  r : Sl
/-- the texts of a node are no longer than texts may be -/
structure SzN (nd : Nd) : Prop where
  con : nd.con.size ≤ maxLen
  role : nd.role.size ≤ maxLen
  props : ∀ p ∈ nd.props, p.1.size ≤ maxLen ∧ p.2.size ≤ maxLen
  refs : ∀ p ∈ nd.refs, p.1.size ≤ maxLen
/-- the lists of a node -/
structure LeafIn (w : World) (lo hi : Nat) (nd : Nd) (L : Leaf) : Prop where
  pn : L.p.n = nd.props.length
  kn : L.k.n = nd.kids.length
  rn : L.r.n = nd.refs.length
  p : Row w lo hi 2 L.p.A L.p.n L.p.c (propCells nd.props)
  k : Row w lo hi 1 L.k.A L.k.n L.k.c (intCells nd.kids)
  r : Row w lo hi 2 L.r.A L.r.n L.r.c (refCells nd.refs)
  sz : SzN nd
/-- a node's seven cells -/
structure NodeAt (w : World) (b o : Nat) (nd : Nd) (L : Leaf) : Prop where
  c0 : w.cell? ⟨b, o, none⟩ = some (.int .i64 nd.id)
  c1 : w.cell? ⟨b, o + 1, none⟩ = some (.string nd.con)
  c2 : w.cell? ⟨b, o + 2, none⟩ = some (.int .i64 nd.par)
  c3 : w.cell? ⟨b, o + 3, none⟩ = some (.string nd.role)
  c4 : w.cell? ⟨b, o + 4, none⟩ = some (.slice L.p.A L.p.n L.p.c)
  c5 : w.cell? ⟨b, o + 5, none⟩ = some (.slice L.k.A L.k.n L.k.c)
  c6 : w.cell? ⟨b, o + 6, none⟩ = some (.slice L.r.A L.r.n L.r.c)
/-- the slice '.slice A n c' holds these nodes; what they hold lies below hi, from lo on -/
def NodesIn (w : World) (lo hi : Nat) (A : Option Addr) (n c : Nat) (nds : List Nd) : Prop :=
  nds.length = n ∧ n ≤ c ∧ c ≤ maxLen ∧ (0 < n → ∃ b o, A = some ⟨b, o, none⟩ ∧ lo ≤ b ∧ b < hi ∧ ∃ V : Nat → Leaf, ∀ i nd, nds[i]? = some nd → NodeAt w b (o + i * 7) nd (V i) ∧ LeafIn w lo hi nd (V i))
section
variable {w w' : World} {lo hi n c : Nat} {A : Option Addr} {nds : List Nd} {nd : Nd} {L : Leaf} {b o : Nat}
theorem LeafIn.keep (h : LeafIn w lo hi nd L) (hk : ∀ b o, b < hi → w'.cell? ⟨b, o, none⟩ = w.cell? ⟨b, o, none⟩) : LeafIn w' lo hi nd L := ⟨h.pn, h.kn, h.rn, h.p.keep hk, h.k.keep hk, h.r.keep hk, h.sz⟩
theorem LeafIn.below (h : LeafIn w lo hi nd L) (hb : Below hi w w') : LeafIn w' lo hi nd L := ⟨h.pn, h.kn, h.rn, h.p.below hb, h.k.below hb, h.r.below hb, h.sz⟩
theorem LeafIn.mono (h : LeafIn w lo hi nd L) {lo' hi' : Nat} (hl : lo' ≤ lo) (hh : hi ≤ hi') : LeafIn w lo' hi' nd L := ⟨h.pn, h.kn, h.rn, h.p.mono hl hh, h.k.mono hl hh, h.r.mono hl hh, h.sz⟩
theorem NodeAt.keep (h : NodeAt w b o nd L) (hk : ∀ x, w'.cell? ⟨b, x, none⟩ = w.cell? ⟨b, x, none⟩) : NodeAt w' b o nd L :=
  ⟨(hk _).trans h.c0, (hk _).trans h.c1, (hk _).trans h.c2, (hk _).trans h.c3, (hk _).trans h.c4, (hk _).trans h.c5, (hk _).trans h.c6⟩
theorem NodeAt.below (h : NodeAt w b o nd L) (hb : Below hi w w') (hlt : b < hi) : NodeAt w' b o nd L := h.keep fun _ => hb.cell (p := ⟨_, _, none⟩) hlt
theorem NodesIn.nil (w : World) (lo hi : Nat) : NodesIn w lo hi none 0 0 [] := ⟨rfl, Nat.le_refl _, Nat.zero_le _, fun h => absurd h (by omega)⟩
theorem NodesIn.keep (h : NodesIn w lo hi A n c nds) (hk : ∀ b o, b < hi → w'.cell? ⟨b, o, none⟩ = w.cell? ⟨b, o, none⟩) : NodesIn w' lo hi A n c nds :=
  ⟨h.1, h.2.1, h.2.2.1, fun hn => by
    obtain ⟨b, o, e, h1, h2, V, hc⟩ := h.2.2.2 hn
    exact ⟨b, o, e, h1, h2, V, fun i nd hi => ⟨(hc i nd hi).1.keep (fun x => hk b x h2), (hc i nd hi).2.keep hk⟩⟩⟩
theorem NodesIn.below (h : NodesIn w lo hi A n c nds) (hb : Below hi w w') : NodesIn w' lo hi A n c nds := h.keep fun _ _ hp => hb.cell (p := ⟨_, _, none⟩) hp
theorem NodesIn.mono (h : NodesIn w lo hi A n c nds) {lo' hi' : Nat} (hl : lo' ≤ lo) (hh : hi ≤ hi') : NodesIn w lo' hi' A n c nds :=
  ⟨h.1, h.2.1, h.2.2.1, fun hn => by
    obtain ⟨b, o, e, h1, h2, V, hc⟩ := h.2.2.2 hn
    exact ⟨b, o, e, by omega, by omega, V, fun i nd hi => ⟨(hc i nd hi).1, (hc i nd hi).2.mono hl hh⟩⟩⟩
/-- the node at a place -/
theorem NodesIn.at_ (h : NodesIn w lo hi A n c nds) {i : Nat} (hi' : i < n) : ∃ b o nd L, A = some ⟨b, o, none⟩ ∧ lo ≤ b ∧ b < hi ∧ nds[i]? = some nd ∧ NodeAt w b (o + i * 7) nd L ∧ LeafIn w lo hi nd L := by
  obtain ⟨b, o, e, h1, h2, V, hc⟩ := h.2.2.2 (by omega)
  have hl : i < nds.length := by rw [h.1]; exact hi'
  have hg : nds[i]? = some nds[i] := List.getElem?_eq_getElem hl
  exact ⟨b, o, nds[i], V i, e, h1, h2, hg, (hc i _ hg).1, (hc i _ hg).2⟩
/-- where they are, and all of them -/
theorem NodesIn.all (h : NodesIn w lo hi A n c nds) (hn : 0 < n) : ∃ b o, A = some ⟨b, o, none⟩ ∧ lo ≤ b ∧ b < hi ∧ ∃ V : Nat → Leaf, ∀ i nd, nds[i]? = some nd → NodeAt w b (o + i * 7) nd (V i) ∧ LeafIn w lo hi nd (V i) := h.2.2.2 hn
end
end Go.Proofs.YtjjlofaejpnnnaaGreatDoor
namespace Go.Proofs.YtjjlofaejpnnnaaGreatDoor
open Go Go.RowKit
set_option linter.unusedVariables false
def letB (n : Int) : Bool := decide (65 ≤ n ∧ n ≤ 90) || decide (97 ≤ n ∧ n ≤ 122)
def innB (n : Int) : Bool := letB n || decide (48 ≤ n ∧ n ≤ 57) || n == 95
def innC (c : UInt8) : Bool := innB (c.toNat : Int)
def nameL : List UInt8 → Bool
  | [] => false
  | c :: r => decide (r.length < 32) && letB (c.toNat : Int) && r.all innC
def stripL : List UInt8 → List UInt8
  | [] => []
  | c :: r => if c = 63 then r else c :: r
def wordL (l : List UInt8) : Bool := nameL (stripL l)
def wordB (s : ByteArray) : Bool := wordL s.data.toList
theorem toList_eq (s : ByteArray) : s.data.toList.length = s.size := by rw [Array.length_toList]; rfl
theorem drop_get' (s : ByteArray) (k : Nat) (h : k < s.size) : s.data.toList.drop k = s[k] :: s.data.toList.drop (k + 1) := by
  rw [List.drop_eq_getElem_cons (by simpa using h)]; rfl
theorem drop_nil' (s : ByteArray) (k : Nat) (h : ¬ k < s.size) : s.data.toList.drop k = [] := List.drop_eq_nil_of_le (by rw [toList_eq]; omega)
theorem behind1 (s : ByteArray) : (s.extract 1 s.size).data.toList = s.data.toList.drop 1 := by
  rw [Lib.extract_data, List.take_of_length_le (by rw [List.length_drop, toList_eq]; omega)]
theorem behind1_size (s : ByteArray) (h : 0 < s.size) : (s.extract 1 s.size).size + 1 = s.size := by
  rw [← toList_eq, behind1, List.length_drop, toList_eq]; omega
theorem name_eq (s : ByteArray) (h : 0 < s.size) : nameL s.data.toList = (decide (s.size ≤ 32) && letB (s[0].toNat : Int) && (s.data.toList.drop 1).all innC) := by
  have e : s.data.toList = s[0] :: s.data.toList.drop 1 := by have := drop_get' s 0 h; simpa using this
  have hl := toList_eq s
  rw [e] at hl
  rw [e, nameL]
  simp only [List.length_cons, List.drop_succ_cons, List.drop_zero] at hl ⊢
  congr 2
  rw [Bool.eq_iff_iff]; simp; omega
theorem name_nil (s : ByteArray) (h : ¬ 0 < s.size) : nameL s.data.toList = false := by
  rw [List.length_eq_zero_iff.1 (by rw [toList_eq]; omega : s.data.toList.length = 0)]; rfl
theorem word_q (s : ByteArray) (h : 0 < s.size) (hc : s[0].toNat = 63) : wordB s = nameL (s.extract 1 s.size).data.toList := by
  have e : s.data.toList = s[0] :: s.data.toList.drop 1 := by have := drop_get' s 0 h; simpa using this
  rw [behind1]
  unfold wordB wordL
  conv => lhs; rw [e]
  rw [stripL, if_pos (UInt8.toNat_inj.1 hc)]
theorem word_p (s : ByteArray) (h : ∀ h : 0 < s.size, s[0].toNat ≠ 63) : wordB s = nameL s.data.toList := by
  unfold wordB wordL
  by_cases h0 : 0 < s.size
  · have e : s.data.toList = s[0] :: s.data.toList.drop 1 := by have := drop_get' s 0 h0; simpa using this
    have : stripL s.data.toList = s.data.toList := by
      conv => lhs; rw [e]
      rw [stripL, if_neg (fun hc => h h0 (by rw [hc]; rfl)), ← e]
    rw [this]
  · rw [List.length_eq_zero_iff.1 (by rw [toList_eq]; omega : s.data.toList.length = 0)]; rfl
theorem ret_bool {a b : Bool} (h : a = b) : Ending.returned (.bool a) = .returned (.bool b) := by rw [h]
end Go.Proofs.YtjjlofaejpnnnaaGreatDoor
namespace Go.Proofs.YtjjlofaejpnnnaaGreatDoor
open Go Go.ChangeShapes Go.WideShapes Go.ChangeAt Go.RowKit
set_option linter.unusedVariables false
theorem own : ownKnob Tryz.prog.godebug = none := by kernel_rfl
theorem gSynType : (Tryz.prog.globals[1]?).map (·.type) = some 109 := by kernel_rfl
theorem gRngType : (Tryz.prog.globals[2]?).map (·.type) = some 109 := by kernel_rfl
theorem gTabType : (Tryz.prog.globals[5]?).map (·.type) = some 197 := by kernel_rfl
theorem cellsES : Tryz.prog.cellsOf 202 = 1 := by kernel_rfl
theorem cellsStr : Tryz.prog.cellsOf 9 = 1 := by kernel_rfl
theorem starName : "*" ++ "errors.errorString" = "*errors.errorString" := by decide
theorem rowES (u : TypeId) (h : Tryz.prog.typeName? 3 u = some "*errors.errorString") : u = 200 :=
  typeName_ptr_named (nm := "errors.errorString") (by rw [starName]; kernel_rfl) (by kernel_rfl) (by decide) u (by rw [starName]; exact h)
theorem cellsU64 : Tryz.prog.cellsOf 160 = 1 := by kernel_rfl
theorem cellsTab : Tryz.prog.cellsOf 197 = 20 := by kernel_rfl
/-- what a row's list gives -/
theorem env_of {W : World} (h : laidMetH Tryz.prog Rows.sheetLinesRow.laid W) : Env W := by
  have h1 := laidMet.tail (laidMet.tail h)
  have h2 := laidMet.tail (laidMet.tail h1)
  have h3 := laidMet.tail h2
  refine ⟨?_, ?_, ?_⟩
  · obtain ⟨a, s, hv, _, _, _⟩ := laid_sentinel h3 gSyn gSynType Tryz.underlying109 rowES Tryz.underlying200 Tryz.underlying202 rfl rfl Tryz.underlying9 cellsES cellsStr
    exact ⟨_, _, hv⟩
  · obtain ⟨a, s, hv, _, _, _⟩ := laid_sentinel h2 gRng gRngType Tryz.underlying109 rowES Tryz.underlying200 Tryz.underlying202 rfl rfl Tryz.underlying9 cellsES cellsStr
    exact ⟨_, _, hv⟩
  · exact Lib.tabIs_of_head (zs := Lib.pow10Tab) gTab gTabType Tryz.underlying197 Tryz.underlying160 cellsU64 cellsTab h1
/-- so many blocks has the settled world -/
noncomputable def low : Nat := (World.holding Tryz.prog default ⟨#[], #[], []⟩).heap.size
def textRange : ByteArray := ⟨#[118, 97, 108, 117, 101, 32, 111, 117, 116, 32, 111, 102, 32, 114, 97, 110, 103, 101]⟩
def textSyntax : ByteArray := ⟨#[105, 110, 118, 97, 108, 105, 100, 32, 115, 121, 110, 116, 97, 120]⟩
def put (cs : Array Value) : Obj → Obj
  | .cells _ t frozen => .cells cs t frozen
  | o => o
/-- a start: the settled world, the listed variables as their initialisers lay them -/
noncomputable def laidWorld (os : Os) : World :=
  let w0 := World.holding Tryz.prog os ⟨#[.cells #[.string textRange] 202, .cells #[.string textSyntax] 202], #[], []⟩
  { w0 with heap := (((((((w0.heap.modify 2 (put #[.iface 200 (.pointer (some ⟨low, 0, none⟩))])).modify 1 (put #[.iface 200 (.pointer (some ⟨low + 1, 0, none⟩))])).modify 5 (put (Lib.pow10Tab.map (Value.int .u64)).toArray)).modify 6 (put (([0, 1, 28, 2, 29, 14, 24, 3, 30, 22, 20, 15, 25, 17, 4, 8, 31, 27, 13, 23, 21, 19, 16, 7, 26, 12, 18, 6, 11, 5, 10, 9] : List Int).map (Value.int .u8)).toArray)).modify 4 (put (([128, 191, 160, 191, 128, 159, 144, 191, 128, 143, 0, 0, 0, 0, 0, 0, 0, 0, 0, 0, 0, 0, 0, 0, 0, 0, 0, 0, 0, 0, 0, 0] : List Int).map (Value.int .u8)).toArray)).modify 3 (put (Go.Pinned.utf8FirstZ.map (fun n : Nat => Value.int .u8 (n : Int))).toArray)).modify 7 (put (([0, 1, 56, 2, 57, 49, 28, 3, 61, 58, 42, 50, 38, 29, 17, 4, 62, 47, 59, 36, 45, 43, 51, 22, 53, 39, 33, 30, 24, 18, 12, 5, 63, 55, 48, 27, 60, 41, 37, 16, 46, 35, 44, 21, 52, 32, 23, 11, 54, 26, 40, 15, 34, 20, 31, 10, 25, 14, 19, 9, 13, 8, 7, 6] : List Int).map (Value.int .u8)).toArray)) }
theorem laid_met (os : Os) (args : Array Value) : laidMet Tryz.prog Rows.sheetLinesRow.laid ((laidWorld os).forCall (fun _ _ => 0) ⟨#[], args, []⟩).memory :=
  laidMet_of_run' 8 (by kernel_rfl) (by kernel_rfl)
/-- the form's reach: a text's length -/
theorem reach_of {H : Type} {ts : List TypeId} {ds : List (DataW H)} (h : (DataW.weightsEach Tryz.prog ts ds).all (· ≤ reachBytes) = true) {j : Nat} {t : TypeId} {s : ByteArray} (ht : ts[j]? = some t) (hd : ds[j]? = some (.lit (.string s.data.toList))) : s.size ≤ 140737488351232 := by
  have := sized_string h ht hd
  rw [toList_eq] at this
  exact this
end Go.Proofs.YtjjlofaejpnnnaaGreatDoor
namespace Go.Proofs.YtjjlofaejpnnnaaGreatDoor
open Go Go.RowKit
set_option linter.unusedVariables false
def ltS (a b : ByteArray) : Bool := Op.bytesLess a.toList b.toList
theorem less_irrefl (a : List UInt8) : Op.bytesLess a a = false := by
  induction a with
  | nil => rfl
  | cons c r ih =>
    simp only [Op.bytesLess, ih, Bool.and_false, Bool.or_false, decide_eq_false_iff_not]
    exact UInt8.lt_irrefl c
theorem less_trans : ∀ {a b c : List UInt8}, Op.bytesLess a b = true → Op.bytesLess b c = true → Op.bytesLess a c = true
  | _, [], _, h, _ => by cases ‹List UInt8› <;> simp [Op.bytesLess] at h
  | _, _ :: _, [], _, h => by simp [Op.bytesLess] at h
  | [], _ :: _, _ :: _, _, _ => rfl
  | x :: a, y :: b, z :: c, h, k => by
    simp only [Op.bytesLess, Bool.or_eq_true, decide_eq_true_eq, Bool.and_eq_true, beq_iff_eq] at h k ⊢
    rcases h with h | ⟨rfl, h⟩
    · rcases k with k | ⟨rfl, k⟩
      · exact .inl (UInt8.lt_trans h k)
      · exact .inl h
    · rcases k with k | ⟨rfl, k⟩
      · exact .inl k
      · exact .inr ⟨rfl, less_trans h k⟩
theorem less_tri : ∀ (a b : List UInt8), Op.bytesLess a b = true ∨ a = b ∨ Op.bytesLess b a = true
  | [], [] => .inr (.inl rfl)
  | [], _ :: _ => .inl rfl
  | _ :: _, [] => .inr (.inr rfl)
  | x :: a, y :: b => by
    simp only [Op.bytesLess, Bool.or_eq_true, decide_eq_true_eq, Bool.and_eq_true, beq_iff_eq, List.cons.injEq]
    by_cases h : x < y
    · exact .inl (.inl h)
    · by_cases h' : y < x
      · exact .inr (.inr (.inl h'))
      · have e : x = y := UInt8.le_antisymm (UInt8.not_lt.1 h') (UInt8.not_lt.1 h)
        subst e
        rcases less_tri a b with k | k | k
        · exact .inl (.inr ⟨rfl, k⟩)
        · exact .inr (.inl ⟨rfl, k⟩)
        · exact .inr (.inr (.inr ⟨rfl, k⟩))
theorem less_asymm {a b : List UInt8} (h : Op.bytesLess a b = true) : Op.bytesLess b a = false := by
  cases k : Op.bytesLess b a with
  | false => rfl
  | true => have := less_trans h k; rw [less_irrefl] at this; cases this
theorem leq_not (a b : List UInt8) : (Op.bytesLess a b || a == b) = !Op.bytesLess b a := by
  rcases less_tri a b with h | rfl | h
  · rw [h, less_asymm h]; rfl
  · rw [less_irrefl]; simp
  · rw [h, less_asymm h]
    have : (a == b) = false := by rw [beq_eq_false_iff_ne]; rintro rfl; rw [less_irrefl] at h; cases h
    rw [this]; rfl
theorem toList_data (s : ByteArray) : s.toList = s.data.toList := Lib.toList_data s
def aboveB (q : Option ByteArray) (s : ByteArray) : Bool := match q with | none => true | some q => ltS q s
def propsB : Option ByteArray → List (ByteArray × ByteArray) → Bool
  | _, [] => true
  | q, p :: r => wordB p.1 && decide (p.2.size ≤ 4096) && aboveB q p.1 && propsB (some p.1) r
def refsB (next : Int) : Option ByteArray → List (ByteArray × Int) → Bool
  | _, [] => true
  | q, p :: r => wordB p.1 && decide (1 ≤ p.2) && decide (p.2 < next) && aboveB q p.1 && refsB next (some p.1) r
def roleB (nd : Nd) : Bool := if nd.par = 0 then nd.role.toList.isEmpty else wordB nd.role
def speltB (next : Int) (nd : Nd) : Bool := wordB nd.con && roleB nd && propsB none nd.props && refsB next none nd.refs
def idsB (next : Int) : Int → List Nd → Bool
  | _, [] => true
  | last, nd :: r => decide (last < nd.id) && decide (nd.id < next) && idsB next nd.id r
def headB (next : Int) (nds : List Nd) : Bool := decide (1 ≤ next) && decide (next ≤ 1048577) && decide (nds.length ≤ 4096)
def numB (next : Int) (nds : List Nd) : Bool := headB next nds && idsB next 0 nds
/-- the place of the node with that number -/
def ixOf (nds : List Nd) (id : Int) : Option Nat := nds.findIdx? (fun n => n.id == id)
/-- the numbers rise, from above 0 on -/
structure Rise (nds : List Nd) : Prop where
  pos : ∀ (i : Nat) nd, nds[i]? = some nd → 1 ≤ nd.id
  lt : ∀ (i j : Nat) a b, i < j → nds[i]? = some a → nds[j]? = some b → a.id < b.id
theorem idsB_rise {next : Int} : ∀ {last : Int} {nds : List Nd}, 0 ≤ last → idsB next last nds = true → (∀ (i : Nat) nd, nds[i]? = some nd → last < nd.id ∧ nd.id < next) ∧ (∀ (i j : Nat) a b, i < j → nds[i]? = some a → nds[j]? = some b → a.id < b.id)
  | _, [], _, _ => ⟨fun i nd h => by simp at h, fun i j a b _ h => by simp at h⟩
  | last, x :: r, h0, h => by
    simp only [idsB, Bool.and_eq_true, decide_eq_true_eq] at h
    obtain ⟨⟨h1, h2⟩, h3⟩ := h
    have ih := idsB_rise (by omega) h3
    refine ⟨fun i nd hi => ?_, fun i j a b hij ha hb => ?_⟩
    · match i, hi with
      | 0, hi => obtain rfl : x = nd := by simpa using hi
                 exact ⟨h1, h2⟩
      | i + 1, hi => have := ih.1 i nd (by simpa using hi); omega
    · match i, j, ha, hb with
      | _, 0, _, _ => omega
      | 0, j + 1, ha, hb =>
        obtain rfl : x = a := by simpa using ha
        exact (ih.1 j b (by simpa using hb)).1
      | i + 1, j + 1, ha, hb => exact ih.2 i j a b (by omega) (by simpa using ha) (by simpa using hb)
theorem Rise.of {next : Int} {nds : List Nd} (h : idsB next 0 nds = true) : Rise nds :=
  ⟨fun i nd hi => by have := ((idsB_rise (by omega) h).1 i nd hi).1; omega, (idsB_rise (by omega) h).2⟩
theorem Rise.inj {nds : List Nd} (h : Rise nds) {i j : Nat} {a b : Nd} (ha : nds[i]? = some a) (hb : nds[j]? = some b) (e : a.id = b.id) : i = j := by
  rcases Nat.lt_trichotomy i j with k | k | k
  · have := h.lt i j a b k ha hb; omega
  · exact k
  · have := h.lt j i b a k hb ha; omega
theorem ixOf_some {nds : List Nd} {id : Int} {i : Nat} (h : ixOf nds id = some i) : ∃ nd, nds[i]? = some nd ∧ nd.id = id := by
  obtain ⟨hl, hp, _⟩ := List.findIdx?_eq_some_iff_getElem.1 h
  exact ⟨nds[i], List.getElem?_eq_getElem hl, by simpa using hp⟩
theorem ixOf_lt {nds : List Nd} {id : Int} {i : Nat} (h : ixOf nds id = some i) : i < nds.length := by
  obtain ⟨hl, _⟩ := List.findIdx?_eq_some_iff_getElem.1 h
  exact hl
theorem ixOf_none {nds : List Nd} {id : Int} (h : ixOf nds id = none) : ∀ (i : Nat) nd, nds[i]? = some nd → nd.id ≠ id := by
  intro i nd hi
  have := List.findIdx?_eq_none_iff.1 h nd (List.mem_of_getElem? hi)
  simpa using this
theorem ixOf_is {nds : List Nd} (h : Rise nds) {id : Int} {i : Nat} {nd : Nd} (hi : nds[i]? = some nd) (e : nd.id = id) : ixOf nds id = some i := by
  cases hx : ixOf nds id with
  | none => exact absurd e (ixOf_none hx i nd hi)
  | some j =>
    obtain ⟨nd', hj, e'⟩ := ixOf_some hx
    rw [h.inj hj hi (by omega)]
theorem ixOf_no {nds : List Nd} {id : Int} (h : ∀ (i : Nat) nd, nds[i]? = some nd → nd.id ≠ id) : ixOf nds id = none := by
  cases hx : ixOf nds id with
  | none => rfl
  | some j => obtain ⟨nd', hj, e'⟩ := ixOf_some hx; exact absurd e' (h j nd' hj)
/-- what a search by halves comes to -/
theorem ixOf_at {nds : List Nd} (h : Rise nds) {id : Int} {k : Nat} (hb : ∀ (i : Nat) nd, i < k → nds[i]? = some nd → nd.id < id) (ha : ∀ (i : Nat) nd, k ≤ i → nds[i]? = some nd → id ≤ nd.id) :
    ixOf nds id = match nds[k]? with | some nd => if nd.id = id then some k else none | none => none := by
  cases hk : nds[k]? with
  | none =>
    refine ixOf_no fun i nd hi e => ?_
    by_cases hik : i < k
    · have := hb i nd hik hi; omega
    · have hl : i < nds.length := (List.getElem?_eq_some_iff.1 hi).1
      have := List.getElem?_eq_none_iff.1 hk
      omega
  | some nd =>
    simp only
    by_cases e : nd.id = id
    · rw [if_pos e]; exact ixOf_is h hk e
    · rw [if_neg e]
      refine ixOf_no fun i nd' hi e' => ?_
      rcases Nat.lt_trichotomy i k with g | rfl | g
      · have := hb i nd' g hi; omega
      · rw [hk] at hi; injection hi with hi; subst hi; exact e e'
      · have := h.lt k i nd nd' g hk hi
        have := ha k nd (Nat.le_refl _) hk
        omega
end Go.Proofs.YtjjlofaejpnnnaaGreatDoor
namespace Go.Proofs.YtjjlofaejpnnnaaGreatDoor
open Go Go.RowKit
set_option linter.unusedVariables false
def ndOf (nds : List Nd) (id : Int) : Option Nd := (ixOf nds id).bind (nds[·]?)
def kidsB (nds : List Nd) (id : Int) : List Int → List Int → Bool
  | _, [] => true
  | seen, k :: r => (match ndOf nds k with | none => false | some nd => nd.par == id) && !seen.contains k && kidsB nds id (k :: seen) r
def plainB (next : Int) (nds : List Nd) (nd : Nd) : Bool :=
  wordB nd.con && decide (nd.kids.length ≤ nds.length) && propsB none nd.props && refsB next none nd.refs && kidsB nds nd.id [] nd.kids
def belowB (nds : List Nd) : Nat → Nd → Bool
  | 0, _ => false
  | f + 1, n => if n.par = 0 then n.role.toList.isEmpty else
    match ndOf nds n.par with
    | none => false
    | some p => wordB n.role && p.kids.contains n.id && belowB nds f p
/-- the document's: is a model right? -/
def rightB (next : Int) (nds : List Nd) : Bool := numB next nds && nds.all (fun nd => plainB next nds nd && belowB nds 64 nd)
/-- parents and kids agree: the index of each one's parent (-1: none) -/
def joinK (nds : List Nd) (i : Nat) (id : Int) : List Int → List Int → Option (List Int)
  | a, [] => some a
  | a, k :: r => match ixOf nds k with
    | none => none
    | some j => match nds[j]? with
      | none => none
      | some nd => if nd.par = id ∧ a.getD j 0 = -1 then joinK nds i id (a.set j i) r else none
def joinN (nds : List Nd) : Nat → List Int → List Nd → Option (List Int)
  | _, a, [] => some a
  | i, a, nd :: r => match joinK nds i nd.id a nd.kids with
    | none => none
    | some a' => joinN nds (i + 1) a' r
def looseB : List Int → List Nd → Bool
  | x :: a, nd :: r => (x == -1 && nd.par != 0) || looseB a r
  | _, _ => false
def joinS (nds : List Nd) : Option (List Int) :=
  match joinN nds 0 (List.replicate nds.length (-1)) nds with
  | none => none
  | some a => if looseB a nds then none else some a
/-- how many nodes deep, if no deeper than that -/
def lvl (a : List Int) : Nat → Int → Option Nat
  | 0, i => if i = -1 then some 0 else none
  | f + 1, i => if i = -1 then some 0 else (lvl a f (a.getD i.toNat (-1))).map (· + 1)
def rootedB (a : List Int) : Bool := (List.range a.length).all (fun i => (lvl a 64 i).isSome)
/-- the program's: is a model right? -/
def checkB (next : Int) (nds : List Nd) : Bool := numB next nds && nds.all (speltB next) && (match joinS nds with | none => false | some a => rootedB a)
structure Pair where
  i : Nat
  id : Int
  k : Int
def joinF (nds : List Nd) : List Int → List Pair → Option (List Int)
  | a, [] => some a
  | a, p :: r => match ixOf nds p.k with
    | none => none
    | some j => match nds[j]? with
      | none => none
      | some nd => if nd.par = p.id ∧ a.getD j 0 = -1 then joinF nds (a.set j p.i) r else none
def pairsOf (i : Nat) (nd : Nd) : List Pair := nd.kids.map fun k => ⟨i, nd.id, k⟩
def pairsN : Nat → List Nd → List Pair
  | _, [] => []
  | i, nd :: r => pairsOf i nd ++ pairsN (i + 1) r
theorem joinF_append (nds : List Nd) : ∀ (l m : List Pair) (a : List Int), joinF nds a (l ++ m) = (joinF nds a l).bind (fun a => joinF nds a m)
  | [], m, a => rfl
  | p :: l, m, a => by
    simp only [List.cons_append, joinF]
    cases ixOf nds p.k with
    | none => rfl
    | some j =>
      simp only
      cases nds[j]? with
      | none => rfl
      | some nd =>
        simp only
        split
        · exact joinF_append nds l m _
        · rfl
theorem joinK_F (nds : List Nd) (i : Nat) (id : Int) : ∀ (ks : List Int) (a : List Int), joinK nds i id a ks = joinF nds a (ks.map fun k => ⟨i, id, k⟩)
  | [], a => rfl
  | k :: r, a => by
    simp only [List.map_cons, joinK, joinF]
    cases ixOf nds k with
    | none => rfl
    | some j =>
      simp only
      cases nds[j]? with
      | none => rfl
      | some nd => simp only; rw [joinK_F nds i id r]
theorem joinN_F (nds : List Nd) : ∀ (r : List Nd) (i : Nat) (a : List Int), joinN nds i a r = joinF nds a (pairsN i r)
  | [], i, a => rfl
  | nd :: r, i, a => by
    simp only [joinN, pairsN, pairsOf]
    rw [joinF_append, joinK_F]
    cases joinF nds a (List.map (fun k => (⟨i, nd.id, k⟩ : Pair)) nd.kids) with
    | none => rfl
    | some a' => exact joinN_F nds r (i + 1) a'
theorem mem_pairs : ∀ {r : List Nd} {i : Nat} {p : Pair}, p ∈ pairsN i r ↔ ∃ m nd, r[m]? = some nd ∧ p.i = i + m ∧ p.id = nd.id ∧ p.k ∈ nd.kids
  | [], i, p => by simp [pairsN]
  | x :: r, i, p => by
    rw [pairsN, List.mem_append, mem_pairs]
    constructor
    · rintro (h | ⟨m, nd, h1, h2, h3, h4⟩)
      · obtain ⟨k, hk, rfl⟩ := List.mem_map.1 h
        exact ⟨0, x, rfl, rfl, rfl, hk⟩
      · exact ⟨m + 1, nd, by simpa using h1, by omega, h3, h4⟩
    · rintro ⟨m, nd, h1, h2, h3, h4⟩
      match m, h1, h2 with
      | 0, h1, h2 =>
        obtain rfl : x = nd := by simpa using h1
        refine .inl (List.mem_map.2 ⟨p.k, h4, ?_⟩)
        obtain ⟨pi, pid, pk⟩ := p
        simp only [Pair.mk.injEq] at h2 h3 ⊢
        exact ⟨by omega, h3.symm, trivial⟩
      | m + 1, h1, h2 => exact .inr ⟨m, nd, by simpa using h1, by omega, h3, h4⟩
/-- a pair is right -/
def PairOk (nds : List Nd) (p : Pair) : Prop := ∃ j nd, ixOf nds p.k = some j ∧ nds[j]? = some nd ∧ nd.par = p.id
theorem ixOf_inj {nds : List Nd} {k k' : Int} {j : Nat} (h : ixOf nds k = some j) (h' : ixOf nds k' = some j) : k = k' := by
  obtain ⟨a, ha, e⟩ := ixOf_some h
  obtain ⟨b, hb, e'⟩ := ixOf_some h'
  rw [ha] at hb
  injection hb with hb
  subst hb
  omega
theorem joinF_len {nds : List Nd} : ∀ {l : List Pair} {a a' : List Int}, joinF nds a l = some a' → a'.length = a.length
  | [], a, a', h => by injection h with h; rw [h]
  | p :: r, a, a', h => by
    simp only [joinF] at h
    split at h
    · cases h
    · split at h
      · cases h
      · split at h
        · rw [joinF_len h, List.length_set]
        · cases h
theorem getD_set {a : List Int} {j m : Nat} {x d : Int} (hj : j < a.length) : (a.set j x).getD m d = if j = m then x else a.getD m d := by
  rw [List.getD_eq_getElem?_getD, List.getD_eq_getElem?_getD, List.getElem?_set]
  by_cases e : j = m
  · subst e; simp [hj]
  · simp [e]
theorem joinF_out {nds : List Nd} : ∀ {l : List Pair} {a a' : List Int}, a.length = nds.length → joinF nds a l = some a' →
    (∀ p ∈ l, PairOk nds p) ∧ (l.map (·.k)).Nodup ∧
    (∀ p ∈ l, ∀ j, ixOf nds p.k = some j → a.getD j 0 = -1 ∧ a'.getD j 0 = p.i) ∧
    (∀ j, (∀ p ∈ l, ixOf nds p.k ≠ some j) → a'.getD j 0 = a.getD j 0)
  | [], a, a', _, h => by
    injection h with h
    subst h
    exact ⟨fun p hp => (by cases hp), List.nodup_nil, fun p hp => (by cases hp), fun j _ => rfl⟩
  | p :: r, a, a', hl, h => by
    simp only [joinF] at h
    split at h
    · cases h
    · rename_i j hj
      split at h
      · cases h
      · rename_i nd hnd
        split at h
        · rename_i hc
          have hjl : j < a.length := by rw [hl]; exact ixOf_lt hj
          obtain ⟨h1, h2, h3, h4⟩ := joinF_out (by rw [List.length_set]; exact hl) h
          have hnot : ∀ q ∈ r, ixOf nds q.k ≠ some j := by
            intro q hq e
            have := (h3 q hq j e).1
            rw [getD_set hjl, if_pos rfl] at this
            omega
          refine ⟨fun q hq => ?_, ?_, fun q hq j' hj' => ?_, fun j' hj' => ?_⟩
          · rcases List.mem_cons.1 hq with rfl | hq
            · exact ⟨j, nd, hj, hnd, hc.1⟩
            · exact h1 q hq
          · rw [List.map_cons, List.nodup_cons]
            refine ⟨fun hm => ?_, h2⟩
            obtain ⟨q, hq, e⟩ := List.mem_map.1 hm
            exact hnot q hq (by rw [e]; exact hj)
          · rcases List.mem_cons.1 hq with rfl | hq
            · rw [hj] at hj'
              injection hj' with hj'
              subst hj'
              refine ⟨hc.2, ?_⟩
              rw [h4 j hnot, getD_set hjl, if_pos rfl]
            · have := h3 q hq j' hj'
              have hne : j ≠ j' := by rintro rfl; exact hnot q hq hj'
              rw [getD_set hjl, if_neg hne] at this
              exact this
          · rw [h4 j' (fun q hq => hj' q (List.mem_cons_of_mem _ hq)), getD_set hjl, if_neg]
            rintro rfl
            exact hj' p (List.mem_cons_self ..) hj
        · cases h
theorem joinF_in {nds : List Nd} : ∀ {l : List Pair} {a : List Int}, a.length = nds.length → (∀ p ∈ l, PairOk nds p) → (l.map (·.k)).Nodup → (∀ p ∈ l, ∀ j, ixOf nds p.k = some j → a.getD j 0 = -1) → ∃ a', joinF nds a l = some a'
  | [], a, _, _, _, _ => ⟨a, rfl⟩
  | p :: r, a, hl, h1, h2, h3 => by
    obtain ⟨j, nd, hj, hnd, hp⟩ := h1 p (List.mem_cons_self ..)
    have hjl : j < a.length := by rw [hl]; exact ixOf_lt hj
    have ha := h3 p (List.mem_cons_self ..) j hj
    rw [List.map_cons, List.nodup_cons] at h2
    obtain ⟨a', ha'⟩ := joinF_in (a := a.set j p.i) (by rw [List.length_set]; exact hl) (fun q hq => h1 q (List.mem_cons_of_mem _ hq)) h2.2 (fun q hq j' hj' => by
      rw [getD_set hjl, if_neg]
      · exact h3 q (List.mem_cons_of_mem _ hq) j' hj'
      · rintro rfl
        exact h2.1 (List.mem_map.2 ⟨q, hq, ixOf_inj hj' hj⟩))
    exact ⟨a', by simp only [joinF, hj, hnd]; rw [if_pos ⟨hp, ha⟩]; exact ha'⟩
end Go.Proofs.YtjjlofaejpnnnaaGreatDoor
