/-
  MEMORY: when a slice, a node, a model in memory reads as a list, a node, a model of plain values. No program stands in it.
  PLAIN VALUES: what a word is, what a model is. No program stands in it.
  WALKS: Word, of the program and of the document.
  WALKS: the program's names.Right, with letter and inName below it.
  MEMORY OF THE CALL's OWN: slices that were built, their cells, what they read as; lists that were lent, with a mark behind.
  A LANGUAGE IN MEMORY: its data, when slices read as rows of them, and what is the same. No program stands in it.
  PLAIN VALUES: when nodes are a right model. No program stands in it.
  PLAIN VALUES: a model is right, told in two ways; they are the same. No program stands in it.
  WALKS: the place of a number among the nodes: At of the document.
  WALKS: the place of a number among the nodes: index, has, node of the program.
  WALKS: joined of the program.
  PLAIN VALUES: depths, counted up a way and written down. No program stands in it.
  WALKS: count, rooted of the program.
  WALKS: index, has of the document; the words for its plain.
  WALKS: two lists are the same.
  NESTED PARTS OF A LANGUAGE IN MEMORY: concepts, sides, equations, rows of cells, languages; what is the same. No program stands in it.
-/
import Derived.WalkKit
import Derived.Lib.Hide
import Derived.Lib.QuietBelow
import Derived.Lib.SmallJoins
import Derived.Test.YtilemieknfdjnaaGreatRows
import Derived.WalkSpells
import Derived.WalkLawsBesides
import Derived.Test.YtilemieknfdjnaaGreatShelf
import Derived.Deep.AppendLies
import Derived.Deep.RegionHeld3
import Derived.Maps.AppendAt
import Derived.Laws.Strings
import Derived.Deep.QuietTactic
import Derived.BigQuiet
import Derived.Deep.OwnRows
import Derived.Deep.LoopGhost
import Derived.Deep.DeepMust
namespace Go.Proofs.YtilemieknfdjnaaGreat
open Go Go.RowKit Go.Sort
set_option linter.unusedVariables false
/-- a node -/
structure Nd where
  id : Int
  con : ByteArray
  par : Int
  role : ByteArray
  props : List (ByteArray × ByteArray)
  kids : List Int
  refs : List (ByteArray × Int)
/-- what a call answers that makes memory of its own at most -/
def Ret (w : World) (v : Value) (e : Ending) (w' : World) : Prop := e = .returned v ∧ Below w.heap.size w w'
theorem bcell {W w1 : World} (hb : Below W.heap.size W w1) : (∀ b o, b < W.heap.size → w1.cell? ⟨b, o, none⟩ = W.cell? ⟨b, o, none⟩) ∧ (∀ b o, b < W.heap.size → w1.frozen? ⟨b, o, none⟩ = W.frozen? ⟨b, o, none⟩) :=
  ⟨fun b o h => hb.cell (p := ⟨b, o, none⟩) h, fun b o h => hb.frozen (p := ⟨b, o, none⟩) h⟩
theorem below_drewN {B : Nat} {a w : World} (h : Below B a w) (n : Nat) : Below B a (w.drewN n) := ⟨h.os, h.tape, h.output, h.size, h.block⟩
/-- the slice value '.slice A n c' holds the cells xs, 'size' of them an element, in a block from lo on and below hi -/
def Row (w : World) (lo hi size : Nat) (A : Option Addr) (n c : Nat) (xs : List Value) : Prop :=
  xs.length = n * size ∧ n ≤ c ∧ c ≤ maxLen ∧ (0 < n → ∃ b o, A = some ⟨b, o, none⟩ ∧ lo ≤ b ∧ b < hi ∧ ∀ j u, xs[j]? = some u → w.cell? ⟨b, o + j, none⟩ = some u)
section
variable {w w' : World} {lo hi size n c : Nat} {A : Option Addr} {xs : List Value}
theorem Row.nil (w : World) (lo hi size : Nat) : Row w lo hi size none 0 0 [] := ⟨by simp, Nat.le_refl _, Nat.zero_le _, fun h => absurd h (by omega)⟩
theorem Row.keep (h : Row w lo hi size A n c xs) (hk : ∀ b o, b < hi → w'.cell? ⟨b, o, none⟩ = w.cell? ⟨b, o, none⟩) : Row w' lo hi size A n c xs :=
  ⟨h.1, h.2.1, h.2.2.1, fun hn => by
    obtain ⟨b, o, e, h1, h2, hc⟩ := h.2.2.2 hn
    exact ⟨b, o, e, h1, h2, fun j u hu => (hk b _ h2).trans (hc j u hu)⟩⟩
theorem Row.below (h : Row w lo hi size A n c xs) (hb : Below hi w w') : Row w' lo hi size A n c xs := h.keep fun _ _ hp => hb.cell (p := ⟨_, _, none⟩) hp
theorem Row.mono (h : Row w lo hi size A n c xs) {lo' hi' : Nat} (hl : lo' ≤ lo) (hh : hi ≤ hi') : Row w lo' hi' size A n c xs :=
  ⟨h.1, h.2.1, h.2.2.1, fun hn => by
    obtain ⟨b, o, e, h1, h2, hc⟩ := h.2.2.2 hn
    exact ⟨b, o, e, by omega, by omega, hc⟩⟩
/-- where the cells are -/
theorem Row.at_ (h : Row w lo hi size A n c xs) (hn : 0 < n) : ∃ b o, A = some ⟨b, o, none⟩ ∧ lo ≤ b ∧ b < hi ∧ ∀ j u, xs[j]? = some u → w.cell? ⟨b, o + j, none⟩ = some u := h.2.2.2 hn
end
def Blk (w : World) (g : Nat) (t : TypeId) (cs : Array Value) : Prop := w.heap[g]? = some (.cells cs t (0, 0))
section
variable {w w' : World} {g : Nat} {t : TypeId} {cs : Array Value}
theorem Blk.lt (h : Blk w g t cs) : g < w.heap.size := by
  rcases Nat.lt_or_ge g w.heap.size with hlt | hge
  · exact hlt
  · unfold Blk at h; rw [Array.getElem?_eq_none hge] at h; cases h
theorem Blk.cell (h : Blk w g t cs) (i : Nat) : w.cell? ⟨g, i, none⟩ = cs[i]? := cell_of_row w g i cs t (0, 0) h
theorem Blk.frozen (h : Blk w g t cs) (i : Nat) : w.frozen? ⟨g, i, none⟩ = false := by
  unfold Blk at h
  simp [World.frozen?, h]
theorem Blk.new (w : World) (t : TypeId) (cs : Array Value) : Blk (w.alloc (.cells cs t)) w.heap.size t cs := heap_alloc_new w _
theorem Blk.new' {w : World} {t : TypeId} {cs : Array Value} {g : Nat} (hg : g = w.heap.size) : Blk (w.alloc (.cells cs t)) g t cs := by rw [hg]; exact heap_alloc_new w _
theorem Blk.drewN (h : Blk w g t cs) (n : Nat) : Blk (w.drewN n) g t cs := h
theorem Blk.alloc (h : Blk w g t cs) (o : Obj) : Blk (w.alloc o) g t cs := (Below.heap_alloc w o g h.lt).trans h
theorem Blk.set_ (h : Blk w g t cs) (i : Nat) (u : Value) : Blk (w.setCell ⟨g, i, none⟩ u) g t (cs.setIfInBounds i u) := by
  unfold Blk at h ⊢
  simp [World.setCell, Array.getElem?_modify, h]
theorem Blk.far (h : Blk w g t cs) {p : Addr} (hp : g ≠ p.block) (u : Value) : Blk (w.setCell p u) g t cs := (Below.heap_setCell w p u g hp).trans h
theorem Blk.below {B : Nat} (h : Blk w g t cs) (hb : Below B w w') (hg : g < B) : Blk w' g t cs := (hb.block g hg).trans h
theorem Blk.after (h : Blk w g t cs) (hb : Below w.heap.size w w') : Blk w' g t cs := h.below hb h.lt
theorem Blk.grown {row : Option Nat} (h : Blk w g t cs) (hb : w.grownBy w' row) (hg : some g ≠ row) : Blk w' g t cs := (hb.block g h.lt hg).trans h
theorem Blk.ne_ {g' : Nat} {t' : TypeId} {cs' : Array Value} (h : Blk w g t cs) (h' : Blk w g' t' cs') (hne : t ≠ t') : g ≠ g' := by
  rintro rfl
  unfold Blk at h h'
  rw [h] at h'
  injection h' with h'
  injection h' with _ ht
  exact hne ht
end
def propCells (l : List (ByteArray × ByteArray)) : List Value := l.flatMap fun p => [.string p.1, .string p.2]
def refCells (l : List (ByteArray × Int)) : List Value := l.flatMap fun p => [.string p.1, .int .i64 p.2]
def intCells (l : List Int) : List Value := l.map (.int .i64)
theorem intCells_length (l : List Int) : (intCells l).length = l.length := by simp [intCells]
theorem intCells_get {l : List Int} {i : Nat} {p : Int} (h : l[i]? = some p) : (intCells l)[i]? = some (.int .i64 p) := by
  simp [intCells, h]
/-- a block of numbers -/
def IBlk (w : World) (g : Nat) (a : List Int) : Prop := Blk w g 3 (intCells a).toArray
section
variable {w w' : World} {g : Nat} {a : List Int}
theorem IBlk.cell (h : IBlk w g a) {i : Nat} (hi : i < a.length) : w.cell? ⟨g, i, none⟩ = some (.int .i64 (a.getD i 0)) := by
  rw [Blk.cell h]
  simp [intCells, hi]
theorem IBlk.set_ (h : IBlk w g a) (i : Nat) (x : Int) : IBlk (w.setCell ⟨g, i, none⟩ (.int .i64 x)) g (a.set i x) := by
  have := Blk.set_ h i (.int .i64 x)
  unfold IBlk
  have e : (intCells (a.set i x)).toArray = (intCells a).toArray.setIfInBounds i (.int .i64 x) := by simp [intCells, List.map_set]
  rw [e]; exact this
theorem IBlk.after (h : IBlk w g a) (hb : Below w.heap.size w w') : IBlk w' g a := Blk.after h hb
theorem IBlk.lt (h : IBlk w g a) : g < w.heap.size := Blk.lt h
theorem IBlk.row (h : IBlk w g a) {lo hi n c : Nat} (hn : a.length = n) (hc : n ≤ c) (hm : c ≤ maxLen) (hl : lo ≤ g) (hh : g < hi) : Row w lo hi 1 (some ⟨g, 0, none⟩) n c (intCells a) :=
  ⟨by rw [intCells_length]; omega, hc, hm, fun _ => ⟨g, 0, rfl, hl, hh, fun j u hu => by rw [Nat.zero_add, Blk.cell h]; simpa using hu⟩⟩
end
/-- a slice value, its three parts -/
structure Sl where
  A : Option Addr
  n : Nat
  c : Nat
def Sl.v (s : Sl) : Value := .slice s.A s.n s.c
/-- a node's three lists as they lie in memory -/
structure Leaf where
  p : Sl
  k : Sl
  r : Sl
/-- the texts of a node are no longer than texts may be -/
structure SzN (nd : Nd) : Prop where
  con : nd.con.size ≤ maxLen
  role : nd.role.size ≤ maxLen
  props : ∀ p ∈ nd.props, p.1.size ≤ maxLen ∧ p.2.size ≤ maxLen
  refs : ∀ p ∈ nd.refs, p.1.size ≤ maxLen
/-- the lists of a node -/
structure LeafIn (w : World) (lo hi : Nat) (nd : Nd) (L : Leaf) : Prop where
  pn : L.p.n = nd.props.length
  kn : L.k.n = nd.kids.length
  rn : L.r.n = nd.refs.length
  p : Row w lo hi 2 L.p.A L.p.n L.p.c (propCells nd.props)
  k : Row w lo hi 1 L.k.A L.k.n L.k.c (intCells nd.kids)
  r : Row w lo hi 2 L.r.A L.r.n L.r.c (refCells nd.refs)
  sz : SzN nd
/-- a node's seven cells -/
structure NodeAt (w : World) (b o : Nat) (nd : Nd) (L : Leaf) : Prop where
  c0 : w.cell? ⟨b, o, none⟩ = some (.int .i64 nd.id)
  c1 : w.cell? ⟨b, o + 1, none⟩ = some (.string nd.con)
  c2 : w.cell? ⟨b, o + 2, none⟩ = some (.int .i64 nd.par)
  c3 : w.cell? ⟨b, o + 3, none⟩ = some (.string nd.role)
  c4 : w.cell? ⟨b, o + 4, none⟩ = some (.slice L.p.A L.p.n L.p.c)
  c5 : w.cell? ⟨b, o + 5, none⟩ = some (.slice L.k.A L.k.n L.k.c)
  c6 : w.cell? ⟨b, o + 6, none⟩ = some (.slice L.r.A L.r.n L.r.c)
/-- the slice '.slice A n c' holds these nodes; what they hold lies below hi, from lo on -/
def NodesIn (w : World) (lo hi : Nat) (A : Option Addr) (n c : Nat) (nds : List Nd) : Prop :=
  nds.length = n ∧ n ≤ c ∧ c ≤ maxLen ∧ (0 < n → ∃ b o, A = some ⟨b, o, none⟩ ∧ lo ≤ b ∧ b < hi ∧ ∃ V : Nat → Leaf, ∀ i nd, nds[i]? = some nd → NodeAt w b (o + i * 7) nd (V i) ∧ LeafIn w lo hi nd (V i))
section
variable {w w' : World} {lo hi n c : Nat} {A : Option Addr} {nds : List Nd} {nd : Nd} {L : Leaf} {b o : Nat}
theorem LeafIn.keep (h : LeafIn w lo hi nd L) (hk : ∀ b o, b < hi → w'.cell? ⟨b, o, none⟩ = w.cell? ⟨b, o, none⟩) : LeafIn w' lo hi nd L := ⟨h.pn, h.kn, h.rn, h.p.keep hk, h.k.keep hk, h.r.keep hk, h.sz⟩
theorem LeafIn.below (h : LeafIn w lo hi nd L) (hb : Below hi w w') : LeafIn w' lo hi nd L := ⟨h.pn, h.kn, h.rn, h.p.below hb, h.k.below hb, h.r.below hb, h.sz⟩
theorem LeafIn.mono (h : LeafIn w lo hi nd L) {lo' hi' : Nat} (hl : lo' ≤ lo) (hh : hi ≤ hi') : LeafIn w lo' hi' nd L := ⟨h.pn, h.kn, h.rn, h.p.mono hl hh, h.k.mono hl hh, h.r.mono hl hh, h.sz⟩
theorem NodeAt.keep (h : NodeAt w b o nd L) (hk : ∀ x, w'.cell? ⟨b, x, none⟩ = w.cell? ⟨b, x, none⟩) : NodeAt w' b o nd L :=
  ⟨(hk _).trans h.c0, (hk _).trans h.c1, (hk _).trans h.c2, (hk _).trans h.c3, (hk _).trans h.c4, (hk _).trans h.c5, (hk _).trans h.c6⟩
theorem NodeAt.below (h : NodeAt w b o nd L) (hb : Below hi w w') (hlt : b < hi) : NodeAt w' b o nd L := h.keep fun _ => hb.cell (p := ⟨_, _, none⟩) hlt
theorem NodesIn.nil (w : World) (lo hi : Nat) : NodesIn w lo hi none 0 0 [] := ⟨rfl, Nat.le_refl _, Nat.zero_le _, fun h => absurd h (by omega)⟩
theorem NodesIn.keep (h : NodesIn w lo hi A n c nds) (hk : ∀ b o, b < hi → w'.cell? ⟨b, o, none⟩ = w.cell? ⟨b, o, none⟩) : NodesIn w' lo hi A n c nds :=
  ⟨h.1, h.2.1, h.2.2.1, fun hn => by
    obtain ⟨b, o, e, h1, h2, V, hc⟩ := h.2.2.2 hn
    exact ⟨b, o, e, h1, h2, V, fun i nd hi => ⟨(hc i nd hi).1.keep (fun x => hk b x h2), (hc i nd hi).2.keep hk⟩⟩⟩
theorem NodesIn.below (h : NodesIn w lo hi A n c nds) (hb : Below hi w w') : NodesIn w' lo hi A n c nds := h.keep fun _ _ hp => hb.cell (p := ⟨_, _, none⟩) hp
theorem NodesIn.mono (h : NodesIn w lo hi A n c nds) {lo' hi' : Nat} (hl : lo' ≤ lo) (hh : hi ≤ hi') : NodesIn w lo' hi' A n c nds :=
  ⟨h.1, h.2.1, h.2.2.1, fun hn => by
    obtain ⟨b, o, e, h1, h2, V, hc⟩ := h.2.2.2 hn
    exact ⟨b, o, e, by omega, by omega, V, fun i nd hi => ⟨(hc i nd hi).1, (hc i nd hi).2.mono hl hh⟩⟩⟩
/-- the node at a place -/
theorem NodesIn.at_ (h : NodesIn w lo hi A n c nds) {i : Nat} (hi' : i < n) : ∃ b o nd L, A = some ⟨b, o, none⟩ ∧ lo ≤ b ∧ b < hi ∧ nds[i]? = some nd ∧ NodeAt w b (o + i * 7) nd L ∧ LeafIn w lo hi nd L := by
  obtain ⟨b, o, e, h1, h2, V, hc⟩ := h.2.2.2 (by omega)
  have hl : i < nds.length := by rw [h.1]; exact hi'
  have hg : nds[i]? = some nds[i] := List.getElem?_eq_getElem hl
  exact ⟨b, o, nds[i], V i, e, h1, h2, hg, (hc i _ hg).1, (hc i _ hg).2⟩
/-- where they are, and all of them -/
theorem NodesIn.all (h : NodesIn w lo hi A n c nds) (hn : 0 < n) : ∃ b o, A = some ⟨b, o, none⟩ ∧ lo ≤ b ∧ b < hi ∧ ∃ V : Nat → Leaf, ∀ i nd, nds[i]? = some nd → NodeAt w b (o + i * 7) nd (V i) ∧ LeafIn w lo hi nd (V i) := h.2.2.2 hn
end
end Go.Proofs.YtilemieknfdjnaaGreat
namespace Go.Proofs.YtilemieknfdjnaaGreat
open Go Go.RowKit
set_option linter.unusedVariables false
def letB (n : Int) : Bool := decide (65 ≤ n ∧ n ≤ 90) || decide (97 ≤ n ∧ n ≤ 122)
def innB (n : Int) : Bool := letB n || decide (48 ≤ n ∧ n ≤ 57) || n == 95
def innC (c : UInt8) : Bool := innB (c.toNat : Int)
def nameL : List UInt8 → Bool
  | [] => false
  | c :: r => decide (r.length < 32) && letB (c.toNat : Int) && r.all innC
theorem toList_eq (s : ByteArray) : s.data.toList.length = s.size := by rw [Array.length_toList]; rfl
theorem drop_get' (s : ByteArray) (k : Nat) (h : k < s.size) : s.data.toList.drop k = s[k] :: s.data.toList.drop (k + 1) := by
  rw [List.drop_eq_getElem_cons (by simpa using h)]; rfl
theorem drop_nil' (s : ByteArray) (k : Nat) (h : ¬ k < s.size) : s.data.toList.drop k = [] := List.drop_eq_nil_of_le (by rw [toList_eq]; omega)
theorem name_eq (s : ByteArray) (h : 0 < s.size) : nameL s.data.toList = (decide (s.size ≤ 32) && letB (s[0].toNat : Int) && (s.data.toList.drop 1).all innC) := by
  have e : s.data.toList = s[0] :: s.data.toList.drop 1 := by have := drop_get' s 0 h; simpa using this
  have hl := toList_eq s
  rw [e] at hl
  rw [e, nameL]
  simp only [List.length_cons, List.drop_succ_cons, List.drop_zero] at hl ⊢
  congr 2
  rw [Bool.eq_iff_iff]; simp; omega
theorem ret_bool {a b : Bool} (h : a = b) : Ending.returned (.bool a) = .returned (.bool b) := by rw [h]
end Go.Proofs.YtilemieknfdjnaaGreat
namespace Go.Proofs.YtilemieknfdjnaaGreat
open Go Go.RowKit
set_option linter.unusedVariables false
/-- a yes or no, the world as it was -/
def Says (w : World) (b : Bool) (e : Ending) (w' : World) : Prop := e = .returned (.bool b) ∧ w = w'
end Go.Proofs.YtilemieknfdjnaaGreat
namespace Go.Proofs.YtilemieknfdjnaaGreat
open Go Go.RowKit
set_option linter.unusedVariables false
set_option maxHeartbeats 400000 in
theorem nLetter_any (n : Int) (w : World) : Calls Tryz.prog 88 #[.int .u8 n] w (Says w (letB n)) := by
  go_enter Tryz.func88, Tryz.ntmps88
  go_wp2
  all_goals go_ret
  all_goals refine ⟨ret_bool ?_, rfl⟩
  all_goals (unfold letB; first | (simp [*]; done) | (simp; omega) | (rw [Bool.eq_iff_iff]; simp; omega) | (rw [Bool.eq_iff_iff]; simp [*]; omega))
set_option maxHeartbeats 400000 in
theorem nInName_any (n : Int) (w : World) : Calls Tryz.prog 89 #[.int .u8 n] w (Says w (innB n)) := by
  cases hl : letB n with
  | true =>
    have H := Lib.hid hl
    clear hl
    go_enter Tryz.func89, Tryz.ntmps89
    go_wp2_with (go_at_call 88; refine (nLetter_any n _).mono ?_; rintro e w' ⟨rfl, rfl⟩; rw [H.out])
    all_goals go_ret
    all_goals refine ⟨ret_bool ?_, rfl⟩
    all_goals (unfold innB; rw [H.out]; simp)
  | false =>
    have H := Lib.hid hl
    clear hl
    go_enter Tryz.func89, Tryz.ntmps89
    go_wp2_with (go_at_call 88; refine (nLetter_any n _).mono ?_; rintro e w' ⟨rfl, rfl⟩; rw [H.out])
    all_goals go_ret
    all_goals refine ⟨ret_bool ?_, rfl⟩
    all_goals (unfold innB; rw [H.out]; first | (simp [*]; done) | (simp; omega))
set_option maxHeartbeats 800000 in
theorem nRight_any (s : ByteArray) (w : World) : Calls Tryz.prog 42 #[.string s] w (Says w (nameL s.data.toList)) := by

  by_cases h0 : 0 < s.size
  · have hR := name_eq s h0
    have d0 : ((s.size : Int) == 0) = false := by rw [beq_eq_false_iff_ne]; omega
    by_cases h1 : s.size ≤ 32
    · have d1 : decide ((32 : Int) < (s.size : Int)) = false := by simp; omega
      cases hl : letB (s[0].toNat : Int) with
      | false =>
        have H := Lib.hid hl
        have HR : Hid (nameL s.data.toList = false) := Lib.hid (by rw [hR, hl]; simp)
        clear hR hl
        go_enter Tryz.func42, Tryz.ntmps42
        go_wp2_with (go_at_call 88; refine (nLetter_any _ _).mono ?_; rintro e w' ⟨rfl, rfl⟩; rw [H.out])
        go_ret
        exact ⟨ret_bool HR.out.symm, rfl⟩
      | true =>
        have H := Lib.hid hl
        have HR : Hid (nameL s.data.toList = (s.data.toList.drop 1).all innC) := Lib.hid (by rw [hR, hl]; simp [h1])
        clear hR hl
        go_enter Tryz.func42, Tryz.ntmps42
        go_wp2_with (go_at_call 88; refine (nLetter_any _ _).mono ?_; rintro e w' ⟨rfl, rfl⟩; rw [H.out])
        go_loop [3] (fun i => ∃ k : Nat, 1 ≤ k ∧ k ≤ s.size ∧ i = .int .i64 k ∧ Hid (nameL s.data.toList = (s.data.toList.drop k).all innC)) (fun i => s.size - (intOf i).toNat)
        case atStart => exact ⟨1, by omega, by omega, rfl, HR⟩
        case round =>
          obtain ⟨k, hk1, hk, rfl, HK⟩ := hrel
          by_cases hlt : k < s.size
          · cases hn : innB (s[k].toNat : Int) with
            | true =>
              have HN := Lib.hid hn
              have HX : Hid (nameL s.data.toList = (s.data.toList.drop (k + 1)).all innC) := Lib.hid (by rw [HK.out, drop_get' s k hlt, List.all_cons]; simp [innC, hn])
              clear hn
              go_wp2_with (go_at_call 89; refine (nInName_any _ _).mono ?_; rintro e w' ⟨rfl, rfl⟩; rw [HN.out])
              go_round
              case rel => exact ⟨k + 1, by omega, by omega, by go_num, HX⟩
              case measure => simp [intOf]; omega
            | false =>
              have HN := Lib.hid hn
              have HX : Hid (nameL s.data.toList = false) := Lib.hid (by rw [HK.out, drop_get' s k hlt, List.all_cons]; simp [innC, hn])
              clear hn
              go_wp2_with (go_at_call 89; refine (nInName_any _ _).mono ?_; rintro e w' ⟨rfl, rfl⟩; rw [HN.out])
              go_ret
              exact ⟨ret_bool HX.out.symm, rfl⟩
          · have HX : Hid (nameL s.data.toList = true) := Lib.hid (by rw [HK.out, drop_nil' s k hlt]; rfl)
            go_wp2
            go_ret
            exact ⟨ret_bool HX.out.symm, rfl⟩
    · have d1 : decide ((32 : Int) < (s.size : Int)) = true := by simp; omega
      have HR : Hid (nameL s.data.toList = false) := Lib.hid (by rw [hR]; simp [h1])
      clear hR
      go_enter Tryz.func42, Tryz.ntmps42
      go_wp2_with fail
      go_ret
      exact ⟨ret_bool HR.out.symm, rfl⟩
  · have hnil : s.data.toList = [] := List.length_eq_zero_iff.1 (by rw [toList_eq]; omega)
    have HR : Hid (nameL s.data.toList = false) := Lib.hid (by rw [hnil]; rfl)
    have d0 : ((s.size : Int) == 0) = true := by rw [beq_iff_eq]; omega
    clear hnil
    go_enter Tryz.func42, Tryz.ntmps42
    go_wp2_with fail
    go_ret
    exact ⟨ret_bool HR.out.symm, rfl⟩
end Go.Proofs.YtilemieknfdjnaaGreat
namespace Go.Proofs.YtilemieknfdjnaaGreat
open Go Go.RowKit Go.Sort
set_option linter.unusedVariables false
theorem flatN_get {α : Type} {f : α → List Value} {s : Nat} (hs : ∀ a, (f a).length = s) (l : List α) : ∀ (i : Nat) (p : α), l[i]? = some p → ∀ j, j < s → (l.flatMap f)[i * s + j]? = (f p)[j]? := by
  induction l with
  | nil => intro i p h; simp at h
  | cons q l ih =>
    intro i p h j hj
    have hq := hs q
    rw [List.flatMap_cons]
    match i, h with
    | 0, h =>
      obtain rfl : q = p := by simpa using h
      rw [Nat.zero_mul, Nat.zero_add, List.getElem?_append_left (by omega)]
    | i + 1, h =>
      have := ih i p (by simpa using h) j hj
      rw [Nat.succ_mul, List.getElem?_append_right (by omega), hq]
      rw [show i * s + s + j - s = i * s + j from by omega]
      exact this
theorem flatN_len {α : Type} {f : α → List Value} {s : Nat} (hs : ∀ a, (f a).length = s) (l : List α) : (l.flatMap f).length = l.length * s := by
  induction l with
  | nil => simp
  | cons q l ih => rw [List.flatMap_cons, List.length_append, ih, hs, List.length_cons, Nat.succ_mul]; omega
theorem intCells_one (l : List Int) : ∀ u ∈ intCells l, u.oneCell' = true := by
  intro u hu
  obtain ⟨p, _, rfl⟩ := List.mem_map.1 hu
  rfl
section
variable {w w' : World} {B : Nat} {e : TypeId} {size n : Nat} {v : Value} {xs : List Value}
/-- an own row reads as a row -/
theorem own_row {A : Option Addr} {c : Nat} (h : w.ownsRow B e size (.slice A n c) n xs) : Row w B w.heap.size size A n c xs := by
  refine ⟨h.1, ?_⟩
  rcases h.2 with ⟨hv, hn⟩ | ⟨g, cap, cur, hv, hb, hg, hn, hm, _, _⟩
  · injection hv with h1 h2 h3
    subst hn
    exact ⟨by omega, by unfold maxLen; omega, fun h => absurd h (by omega)⟩
  · injection hv with h1 h2 h3
    subst h3
    refine ⟨hn, hm, fun h0 => ⟨g, 0, h1, hb, (Array.getElem?_eq_some_iff.1 hg).1, fun j u hu => ?_⟩⟩
    subst h1
    have := World.ownsRow.cells h (g := g) rfl j u hu
    simpa [Addr.add_lit] using this
theorem own_after (h : w.ownsRow B e size v n xs) (hb : Below w.heap.size w w') : w'.ownsRow B e size v n xs := by
  refine ⟨h.1, ?_⟩
  rcases h.2 with hn | ⟨g, cap, cur, rfl, hbg, hgg, rest⟩
  · exact .inl hn
  · refine .inr ⟨g, cap, cur, rfl, hbg, ?_, rest⟩
    rw [hb.block g (Array.getElem?_eq_some_iff.1 hgg).1]
    exact hgg
/-- .. while a block of another type is written -/
theorem own_other {g : Nat} {t : TypeId} {cs : Array Value} (h : w.ownsRow B e size v n xs) (hg : Blk w g t cs) (hne : e ≠ t) (i : Nat) (u : Value) : (w.setCell ⟨g, i, none⟩ u).ownsRow B e size v n xs := by
  refine ⟨h.1, ?_⟩
  rcases h.2 with hn | ⟨g', cap, cur, rfl, hbg, hgg, rest⟩
  · exact .inl hn
  · refine .inr ⟨g', cap, cur, rfl, hbg, ?_, rest⟩
    have hne' : g' ≠ g := Blk.ne_ (t := e) hgg hg hne
    rw [Below.heap_setCell _ ⟨g, i, none⟩ _ _ hne']
    exact hgg
theorem own_blk_ne {g : Nat} {t : TypeId} {cs : Array Value} (h : w.ownsRow B e size v n xs) (hg : Blk w g t cs) (hne : e ≠ t) : v.ownBlock ≠ some g := by
  rcases h.2 with ⟨rfl, _⟩ | ⟨g', cap, cur, rfl, _, hh, _⟩
  · simp [Value.ownBlock]
  · intro he
    have : g' = g := by simpa [Value.ownBlock] using he
    subst this
    exact Blk.ne_ (t := e) hh hg hne rfl
theorem own_own_ne {B' : Nat} {e' : TypeId} {size' n' : Nat} {v' : Value} {xs' : List Value} (h : w.ownsRow B e size v n xs) (h' : w.ownsRow B' e' size' v' n' xs') (hne : e ≠ e') : v.ownBlock = none ∨ v.ownBlock ≠ v'.ownBlock := by
  rcases h.2 with ⟨rfl, _⟩ | ⟨g, cap, cur, rfl, _, hh, _⟩
  · exact .inl rfl
  · right
    rcases h'.2 with ⟨rfl, _⟩ | ⟨g', cap', cur', rfl, _, hh', _⟩
    · simp [Value.ownBlock]
    · intro he
      have : g = g' := by simpa [Value.ownBlock] using he
      subst this
      exact Blk.ne_ (t := e) hh hh' hne rfl
theorem own_mono {B' : Nat} (h : w.ownsRow B e size v n xs) (hB : B' ≤ B) : w.ownsRow B' e size v n xs := by
  refine ⟨h.1, ?_⟩
  rcases h.2 with hn | ⟨g, cap, cur, hv, hb, rest⟩
  · exact .inl hn
  · exact .inr ⟨g, cap, cur, hv, by omega, rest⟩
/-- the first ones of an own row -/
theorem own_take {A : Option Addr} {c : Nat} {k : Nat} (h : w.ownsRow B e size (.slice A n c) n xs) (hk : k ≤ n) (hA : A ≠ none) : w.ownsRow B e size (.slice A k c) k (xs.take (k * size)) := by
  have hle : k * size ≤ n * size := Nat.mul_le_mul_right _ hk
  refine ⟨by rw [List.length_take, h.1]; omega, ?_⟩
  rcases h.2 with ⟨hv, hn⟩ | ⟨g, cap, cur, hv, hb, hg, hn, hm, hs, ht⟩
  · injection hv with h1; exact absurd h1 hA
  · injection hv with h1 h2 h3
    subst h1 h3
    refine .inr ⟨g, c, cur, rfl, hb, hg, by omega, hm, hs, ?_⟩
    rw [← ht, List.take_take, Nat.min_eq_left hle]
/-- a new, empty one, with whatever room -/
theorem own_empty {g : Nat} (hg : w.heap[g]? = some (.cells #[] e (0, 0))) (hB : B ≤ g) : w.ownsRow B e size (.slice (some ⟨g, 0, none⟩) 0 0) 0 [] :=
  ⟨by simp, .inr ⟨g, 0, #[], rfl, hB, hg, Nat.le_refl _, by unfold maxLen; omega, by simp, by simp⟩⟩
end
/-- a block that is known whole, as a row -/
theorem row_blk {w : World} {g n c size : Nat} {e : TypeId} {fr : Nat × Nat} {cs : Array Value} (hg : w.heap[g]? = some (.cells cs e fr)) (hs : cs.size = n * size) (hn : n ≤ c) (hc : c ≤ maxLen) : Row w g (g + 1) size (some ⟨g, 0, none⟩) n c cs.toList :=
  ⟨by simpa using hs, hn, hc, fun _ => ⟨g, 0, rfl, Nat.le_refl _, Nat.lt_succ_self _, fun j u hu => by
    rw [cell_of_row w g (0 + j) cs e fr hg, Nat.zero_add]; simpa using hu⟩⟩
section
variable {P : Program} (w : World)
theorem run_app_nil (base : Nat) (t ty e : TypeId) (i : TypeInfo) (size : Nat) (ht : P.underlying t = some (.slice e)) (hi : P.info? e = some i)
    (v : Value) (n : Nat) (xs : List Value) (hown : w.ownsRow base e size v n xs) (c : Nat) : (Builtin.append_ #[t, t] ty #[v, .slice none 0 c]).run P w = .ok v w := by
  rcases hown.2 with ⟨rfl, rfl⟩ | ⟨g, cap, cur, rfl, _, _, hnc, _⟩
  · simp [Builtin.append_, run_underlying ht, sizeOf, typeInfo, hi, Builtin.lenOf, Builtin.firstCells]
  · simp [Builtin.append_, run_underlying ht, sizeOf, typeInfo, hi, Builtin.lenOf, Builtin.firstCells, hnc, storeCells]
theorem run_app (base : Nat) (t ty e : TypeId) (i : TypeInfo) (z : Value) (size bytes : Nat) (ht : P.underlying t = some (.slice e)) (hi : P.info? e = some i) (hz : i.zero = some z)
    (hsize : i.size = size) (hby : i.bytes = bytes) (hzs : z.cells.size = size) (hsz : 0 < size)
    (v : Value) (n : Nat) (xs : List Value) (hown : w.ownsRow base e size v n xs)
    (lo hi' : Nat) (A : Option Addr) (m c : Nat) (news : List Value) (hr : Row w lo hi' size A m c news) (h1 : ∀ u ∈ news, u.oneCell' = true)
    (h63 : n + m ≤ maxLen) (hbytes : (n + m) * bytes ≤ 140737488355328) (hbase : base ≤ w.heap.size) :
    ∃ v' w', (Builtin.append_ #[t, t] ty #[v, .slice A m c]).run P w = .ok v' w' ∧ w'.ownsRow base e size v' (n + m) (xs ++ news) ∧ w.grownBy w' v.ownBlock ∧
      (v'.ownBlock = v.ownBlock ∨ v'.ownBlock = some w.heap.size) := by
  rcases A with _ | ad
  · have hm : m = 0 := by
      rcases Nat.eq_zero_or_pos m with h0 | h0
      · exact h0
      · obtain ⟨b, o, h, _⟩ := hr.2.2.2 h0
        cases h
    subst hm
    have hn : news = [] := List.eq_nil_of_length_eq_zero (by simpa using hr.1)
    subst hn
    exact ⟨v, w, run_app_nil w base t ty e i size ht hi v n xs hown c, by simpa using hown, World.grownBy.refl w _, .inl rfl⟩
  · have hcells : ∀ j u, news[j]? = some u → w.cell? (ad.add j) = some u := by
      intro j u hu
      rcases Nat.eq_zero_or_pos m with h0 | h0
      · subst h0
        have hn : news = [] := List.eq_nil_of_length_eq_zero (by simpa using hr.1)
        subst hn
        simp at hu
      · obtain ⟨b, o, h, _, _, hc⟩ := hr.2.2.2 h0
        injection h with h
        subst h
        rw [Addr.add_lit]
        exact hc j u hu
    obtain ⟨v', w', hrun, h2, h3, _, h5⟩ := run_append_own_at (P := P) w base t ty e i z size bytes ht hi hz hsize hby hzs hsz v n xs hown ad m c news hr.1 hcells h1 h63 hbytes hbase
    exact ⟨v', w', hrun, h2, h3, h5⟩
theorem wp_app {o : Oper} {a : Act} {K : Act → World → Prop} {Q : Exit → Act → World → Prop} (s x : Operand) (t : TypeId)
    (ho : o.op = .call { callee := .builtin .append, args := #[s, x], argTypes := #[t, t] })
    (base : Nat) (e : TypeId) (i : TypeInfo) (z : Value) (size bytes : Nat) (ht : P.underlying t = some (.slice e)) (hi : P.info? e = some i) (hz : i.zero = some z)
    (hsize : i.size = size) (hby : i.bytes = bytes) (hzs : z.cells.size = size) (hsz : 0 < size)
    (v : Value) (n : Nat) (xs : List Value) (hs : a.eval s = v) (hown : w.ownsRow base e size v n xs)
    (lo hi' : Nat) (A : Option Addr) (m c : Nat) (news : List Value) (hx : a.eval x = .slice A m c) (hr : Row w lo hi' size A m c news) (h1 : ∀ u ∈ news, u.oneCell' = true)
    (h63 : n + m ≤ maxLen) (hbytes : (n + m) * bytes ≤ 140737488355328) (hbase : base ≤ w.heap.size)
    (h : ∀ v' w', w'.ownsRow base e size v' (n + m) (xs ++ news) → w.grownBy w' v.ownBlock → (v'.ownBlock = v.ownBlock ∨ v'.ownBlock = some w.heap.size) → K (a.put o.dst v') w') : o.wp P a w K Q := by
  obtain ⟨v', w', hrun, h2, h3, h4⟩ := run_app (P := P) w base t o.type e i z size bytes ht hi hz hsize hby hzs hsz v n xs hown lo hi' A m c news hr h1 h63 hbytes hbase
  unfold Oper.wp execOp
  simp only [ho, resolve, invoke, builtin, Sem.run_bind, Sem.run_pure, Result.andThen_ok, List.map_toArray, List.map_cons, List.map_nil, hs, hx, hrun]
  exact h v' w' h2 h3 h4
/-- append as the walk takes it, in a plain region -/
theorem wpList_app {ops : Array Oper} {rest : List Oper} {o : Oper} {a : Act} {Q : Exit → Act → World → Prop} (hgd : o.guard = none) (s x : Operand) (t : TypeId)
    (ho : o.op = .call { callee := .builtin .append, args := #[s, x], argTypes := #[t, t] })
    (base : Nat) (e : TypeId) (i : TypeInfo) (z : Value) (size bytes : Nat) (ht : P.underlying t = some (.slice e)) (hi : P.info? e = some i) (hz : i.zero = some z)
    (hsize : i.size = size) (hby : i.bytes = bytes) (hzs : z.cells.size = size) (hsz : 0 < size)
    (v : Value) (n : Nat) (xs : List Value) (hs : a.eval s = v) (hown : w.ownsRow base e size v n xs)
    (lo hi' : Nat) (A : Option Addr) (m c : Nat) (news : List Value) (hx : a.eval x = .slice A m c) (hr : Row w lo hi' size A m c news) (h1 : ∀ u ∈ news, u.oneCell' = true)
    (h63 : n + m ≤ maxLen) (hbytes : (n + m) * bytes ≤ 140737488355328) (hbase : base ≤ w.heap.size)
    (h : ∀ v' w', w'.ownsRow base e size v' (n + m) (xs ++ news) → w.grownBy w' v.ownBlock → (v'.ownBlock = v.ownBlock ∨ v'.ownBlock = some w.heap.size) → wpList P ops Q rest (a.put o.dst v') w') : wpList P ops Q (o :: rest) a w :=
  wpList_plain hgd fun _ hK => wp_app w s x t ho base e i z size bytes ht hi hz hsize hby hzs hsz v n xs hs hown lo hi' A m c news hx hr h1 h63 hbytes hbase fun v' w' h2 h3 h4 => hK _ _ (h v' w' h2 h3 h4)
/-- .. as a step of a region that draws its order -/
theorem step_app {ops : Array Oper} {o : Oper} {a : Act} {K : Act → World → Prop} {Q : Exit → Act → World → Prop} {E : Prop} (hgd : o.guard = none) (s x : Operand) (t : TypeId)
    (ho : o.op = .call { callee := .builtin .append, args := #[s, x], argTypes := #[t, t] })
    (base : Nat) (e : TypeId) (i : TypeInfo) (z : Value) (size bytes : Nat) (ht : P.underlying t = some (.slice e)) (hi : P.info? e = some i) (hz : i.zero = some z)
    (hsize : i.size = size) (hby : i.bytes = bytes) (hzs : z.cells.size = size) (hsz : 0 < size)
    (v : Value) (n : Nat) (xs : List Value) (hs : a.eval s = v) (hown : w.ownsRow base e size v n xs)
    (lo hi' : Nat) (A : Option Addr) (m c : Nat) (news : List Value) (hx : a.eval x = .slice A m c) (hr : Row w lo hi' size A m c news) (h1 : ∀ u ∈ news, u.oneCell' = true)
    (h63 : n + m ≤ maxLen) (hbytes : (n + m) * bytes ≤ 140737488355328) (hbase : base ≤ w.heap.size)
    (h : ∀ v' w', w'.ownsRow base e size v' (n + m) (xs ++ news) → w.grownBy w' v.ownBlock → (v'.ownBlock = v.ownBlock ∨ v'.ownBlock = some w.heap.size) → K (a.put o.dst v') w') :
    if Region.wanted o (yielded ops a.tmps) = true then Oper.wp P o a w K Q else E := by
  have hw : Region.wanted o (yielded ops a.tmps) = true := by simp [Region.wanted, hgd]
  rw [if_pos hw]
  exact wp_app w s x t ho base e i z size bytes ht hi hz hsize hby hzs hsz v n xs hs hown lo hi' A m c news hx hr h1 h63 hbytes hbase h
end
end Go.Proofs.YtilemieknfdjnaaGreat
namespace Go.Proofs.YtilemieknfdjnaaGreat
open Go Go.RowKit Go.Sort
set_option linter.unusedVariables false
structure PropD where
  name : ByteArray
  typ : Int
def pdC (x : PropD) : List Value := [.string x.name, .int .i64 x.typ]
def pdCells (l : List PropD) : List Value := l.flatMap pdC
theorem pdCells_length (l : List PropD) : (pdCells l).length = l.length * 2 := flatN_len (f := pdC) (s := 2) (fun _ => rfl) l
theorem pdCells_get {l : List PropD} {i : Nat} {p : PropD} (h : l[i]? = some p) : (pdCells l)[i * 2 + 0]? = some (.string p.name) ∧ (pdCells l)[i * 2 + 1]? = some (.int .i64 p.typ) :=
  ⟨(flatN_get (f := pdC) (s := 2) (fun _ => rfl) l i p h 0 (by omega)).trans rfl, (flatN_get (f := pdC) (s := 2) (fun _ => rfl) l i p h 1 (by omega)).trans rfl⟩
theorem pdCells_one (l : List PropD) : ∀ u ∈ pdCells l, u.oneCell' = true := by
  intro u hu
  unfold pdCells at hu
  obtain ⟨p, _, hp⟩ := List.mem_flatMap.1 hu
  simp [pdC] at hp
  rcases hp with rfl | rfl <;> rfl
def pdE (x y : PropD) : Bool := (x.name.toList == y.name.toList) && (x.typ == y.typ)
theorem pdE_refl (x : PropD) : pdE x x = true := by simp [pdE]
structure KidD where
  role : ByteArray
  con : ByteArray
  min : Int
  max : Int
def kdC (x : KidD) : List Value := [.string x.role, .string x.con, .int .i64 x.min, .int .i64 x.max]
def kdCells (l : List KidD) : List Value := l.flatMap kdC
theorem kdCells_length (l : List KidD) : (kdCells l).length = l.length * 4 := flatN_len (f := kdC) (s := 4) (fun _ => rfl) l
theorem kdCells_get {l : List KidD} {i : Nat} {p : KidD} (h : l[i]? = some p) : (kdCells l)[i * 4 + 0]? = some (.string p.role) ∧ (kdCells l)[i * 4 + 1]? = some (.string p.con) ∧ (kdCells l)[i * 4 + 2]? = some (.int .i64 p.min) ∧ (kdCells l)[i * 4 + 3]? = some (.int .i64 p.max) :=
  ⟨(flatN_get (f := kdC) (s := 4) (fun _ => rfl) l i p h 0 (by omega)).trans rfl, (flatN_get (f := kdC) (s := 4) (fun _ => rfl) l i p h 1 (by omega)).trans rfl, (flatN_get (f := kdC) (s := 4) (fun _ => rfl) l i p h 2 (by omega)).trans rfl, (flatN_get (f := kdC) (s := 4) (fun _ => rfl) l i p h 3 (by omega)).trans rfl⟩
theorem kdCells_one (l : List KidD) : ∀ u ∈ kdCells l, u.oneCell' = true := by
  intro u hu
  unfold kdCells at hu
  obtain ⟨p, _, hp⟩ := List.mem_flatMap.1 hu
  simp [kdC] at hp
  rcases hp with rfl | rfl | rfl | rfl <;> rfl
def kdE (x y : KidD) : Bool := (x.role.toList == y.role.toList) && (x.con.toList == y.con.toList) && (x.min == y.min) && (x.max == y.max)
theorem kdE_refl (x : KidD) : kdE x x = true := by simp [kdE]
structure RefD where
  role : ByteArray
  con : ByteArray
  need : Bool
def rdC (x : RefD) : List Value := [.string x.role, .string x.con, .bool x.need]
def rdCells (l : List RefD) : List Value := l.flatMap rdC
theorem rdCells_length (l : List RefD) : (rdCells l).length = l.length * 3 := flatN_len (f := rdC) (s := 3) (fun _ => rfl) l
theorem rdCells_get {l : List RefD} {i : Nat} {p : RefD} (h : l[i]? = some p) : (rdCells l)[i * 3 + 0]? = some (.string p.role) ∧ (rdCells l)[i * 3 + 1]? = some (.string p.con) ∧ (rdCells l)[i * 3 + 2]? = some (.bool p.need) :=
  ⟨(flatN_get (f := rdC) (s := 3) (fun _ => rfl) l i p h 0 (by omega)).trans rfl, (flatN_get (f := rdC) (s := 3) (fun _ => rfl) l i p h 1 (by omega)).trans rfl, (flatN_get (f := rdC) (s := 3) (fun _ => rfl) l i p h 2 (by omega)).trans rfl⟩
theorem rdCells_one (l : List RefD) : ∀ u ∈ rdCells l, u.oneCell' = true := by
  intro u hu
  unfold rdCells at hu
  obtain ⟨p, _, hp⟩ := List.mem_flatMap.1 hu
  simp [rdC] at hp
  rcases hp with rfl | rfl | rfl <;> rfl
def rdE (x y : RefD) : Bool := (x.role.toList == y.role.toList) && (x.con.toList == y.con.toList) && (x.need == y.need)
theorem rdE_refl (x : RefD) : rdE x x = true := by simp [rdE]
structure RuleD where
  con : ByteArray
  name : ByteArray
  scope : Bool
  expr : ByteArray
def ruC (x : RuleD) : List Value := [.string x.con, .string x.name, .bool x.scope, .string x.expr]
def ruCells (l : List RuleD) : List Value := l.flatMap ruC
theorem ruCells_length (l : List RuleD) : (ruCells l).length = l.length * 4 := flatN_len (f := ruC) (s := 4) (fun _ => rfl) l
theorem ruCells_get {l : List RuleD} {i : Nat} {p : RuleD} (h : l[i]? = some p) : (ruCells l)[i * 4 + 0]? = some (.string p.con) ∧ (ruCells l)[i * 4 + 1]? = some (.string p.name) ∧ (ruCells l)[i * 4 + 2]? = some (.bool p.scope) ∧ (ruCells l)[i * 4 + 3]? = some (.string p.expr) :=
  ⟨(flatN_get (f := ruC) (s := 4) (fun _ => rfl) l i p h 0 (by omega)).trans rfl, (flatN_get (f := ruC) (s := 4) (fun _ => rfl) l i p h 1 (by omega)).trans rfl, (flatN_get (f := ruC) (s := 4) (fun _ => rfl) l i p h 2 (by omega)).trans rfl, (flatN_get (f := ruC) (s := 4) (fun _ => rfl) l i p h 3 (by omega)).trans rfl⟩
theorem ruCells_one (l : List RuleD) : ∀ u ∈ ruCells l, u.oneCell' = true := by
  intro u hu
  unfold ruCells at hu
  obtain ⟨p, _, hp⟩ := List.mem_flatMap.1 hu
  simp [ruC] at hp
  rcases hp with rfl | rfl | rfl | rfl <;> rfl
def ruE (x y : RuleD) : Bool := (x.con.toList == y.con.toList) && (x.name.toList == y.name.toList) && (x.scope == y.scope) && (x.expr.toList == y.expr.toList)
theorem ruE_refl (x : RuleD) : ruE x x = true := by simp [ruE]
structure CellD where
  kind : Int
  text : ByteArray
  mark : ByteArray
def ceC (x : CellD) : List Value := [.int .i64 x.kind, .string x.text, .string x.mark]
def ceCells (l : List CellD) : List Value := l.flatMap ceC
theorem ceCells_length (l : List CellD) : (ceCells l).length = l.length * 3 := flatN_len (f := ceC) (s := 3) (fun _ => rfl) l
theorem ceCells_get {l : List CellD} {i : Nat} {p : CellD} (h : l[i]? = some p) : (ceCells l)[i * 3 + 0]? = some (.int .i64 p.kind) ∧ (ceCells l)[i * 3 + 1]? = some (.string p.text) ∧ (ceCells l)[i * 3 + 2]? = some (.string p.mark) :=
  ⟨(flatN_get (f := ceC) (s := 3) (fun _ => rfl) l i p h 0 (by omega)).trans rfl, (flatN_get (f := ceC) (s := 3) (fun _ => rfl) l i p h 1 (by omega)).trans rfl, (flatN_get (f := ceC) (s := 3) (fun _ => rfl) l i p h 2 (by omega)).trans rfl⟩
theorem ceCells_one (l : List CellD) : ∀ u ∈ ceCells l, u.oneCell' = true := by
  intro u hu
  unfold ceCells at hu
  obtain ⟨p, _, hp⟩ := List.mem_flatMap.1 hu
  simp [ceC] at hp
  rcases hp with rfl | rfl | rfl <;> rfl
def ceE (x y : CellD) : Bool := (x.kind == y.kind) && (x.text.toList == y.text.toList) && (x.mark.toList == y.mark.toList)
theorem ceE_refl (x : CellD) : ceE x x = true := by simp [ceE]
def strE (x y : ByteArray) : Bool := x.toList == y.toList
def strCells (l : List ByteArray) : List Value := l.map .string
theorem strCells_length (l : List ByteArray) : (strCells l).length = l.length := by simp [strCells]
theorem strCells_get {l : List ByteArray} {i : Nat} {p : ByteArray} (h : l[i]? = some p) : (strCells l)[i]? = some (.string p) := by simp [strCells, h]
theorem strCells_one (l : List ByteArray) : ∀ u ∈ strCells l, u.oneCell' = true := by
  intro u hu
  unfold strCells at hu
  obtain ⟨p, _, rfl⟩ := List.mem_map.1 hu
  rfl
theorem strE_refl (x : ByteArray) : strE x x = true := by simp [strE]
end Go.Proofs.YtilemieknfdjnaaGreat
namespace Go.Proofs.YtilemieknfdjnaaGreat
open Go Go.RowKit
set_option linter.unusedVariables false
theorem toList_data (s : ByteArray) : s.toList = s.data.toList := Lib.toList_data s
def idsB (next : Int) : Int → List Nd → Bool
  | _, [] => true
  | last, nd :: r => decide (last < nd.id) && decide (nd.id < next) && idsB next nd.id r
/-- the place of the node with that number -/
def ixOf (nds : List Nd) (id : Int) : Option Nat := nds.findIdx? (fun n => n.id == id)
/-- the numbers rise, from above 0 on -/
structure Rise (nds : List Nd) : Prop where
  pos : ∀ (i : Nat) nd, nds[i]? = some nd → 1 ≤ nd.id
  lt : ∀ (i j : Nat) a b, i < j → nds[i]? = some a → nds[j]? = some b → a.id < b.id
theorem idsB_rise {next : Int} : ∀ {last : Int} {nds : List Nd}, 0 ≤ last → idsB next last nds = true → (∀ (i : Nat) nd, nds[i]? = some nd → last < nd.id ∧ nd.id < next) ∧ (∀ (i j : Nat) a b, i < j → nds[i]? = some a → nds[j]? = some b → a.id < b.id)
  | _, [], _, _ => ⟨fun i nd h => by simp at h, fun i j a b _ h => by simp at h⟩
  | last, x :: r, h0, h => by
    simp only [idsB, Bool.and_eq_true, decide_eq_true_eq] at h
    obtain ⟨⟨h1, h2⟩, h3⟩ := h
    have ih := idsB_rise (by omega) h3
    refine ⟨fun i nd hi => ?_, fun i j a b hij ha hb => ?_⟩
    · match i, hi with
      | 0, hi => obtain rfl : x = nd := by simpa using hi
                 exact ⟨h1, h2⟩
      | i + 1, hi => have := ih.1 i nd (by simpa using hi); omega
    · match i, j, ha, hb with
      | _, 0, _, _ => omega
      | 0, j + 1, ha, hb =>
        obtain rfl : x = a := by simpa using ha
        exact (ih.1 j b (by simpa using hb)).1
      | i + 1, j + 1, ha, hb => exact ih.2 i j a b (by omega) (by simpa using ha) (by simpa using hb)
theorem Rise.of {next : Int} {nds : List Nd} (h : idsB next 0 nds = true) : Rise nds :=
  ⟨fun i nd hi => by have := ((idsB_rise (by omega) h).1 i nd hi).1; omega, (idsB_rise (by omega) h).2⟩
theorem Rise.inj {nds : List Nd} (h : Rise nds) {i j : Nat} {a b : Nd} (ha : nds[i]? = some a) (hb : nds[j]? = some b) (e : a.id = b.id) : i = j := by
  rcases Nat.lt_trichotomy i j with k | k | k
  · have := h.lt i j a b k ha hb; omega
  · exact k
  · have := h.lt j i b a k hb ha; omega
theorem ixOf_some {nds : List Nd} {id : Int} {i : Nat} (h : ixOf nds id = some i) : ∃ nd, nds[i]? = some nd ∧ nd.id = id := by
  obtain ⟨hl, hp, _⟩ := List.findIdx?_eq_some_iff_getElem.1 h
  exact ⟨nds[i], List.getElem?_eq_getElem hl, by simpa using hp⟩
theorem ixOf_none {nds : List Nd} {id : Int} (h : ixOf nds id = none) : ∀ (i : Nat) nd, nds[i]? = some nd → nd.id ≠ id := by
  intro i nd hi
  have := List.findIdx?_eq_none_iff.1 h nd (List.mem_of_getElem? hi)
  simpa using this
theorem ixOf_is {nds : List Nd} (h : Rise nds) {id : Int} {i : Nat} {nd : Nd} (hi : nds[i]? = some nd) (e : nd.id = id) : ixOf nds id = some i := by
  cases hx : ixOf nds id with
  | none => exact absurd e (ixOf_none hx i nd hi)
  | some j =>
    obtain ⟨nd', hj, e'⟩ := ixOf_some hx
    rw [h.inj hj hi (by omega)]
theorem ixOf_no {nds : List Nd} {id : Int} (h : ∀ (i : Nat) nd, nds[i]? = some nd → nd.id ≠ id) : ixOf nds id = none := by
  cases hx : ixOf nds id with
  | none => rfl
  | some j => obtain ⟨nd', hj, e'⟩ := ixOf_some hx; exact absurd e' (h j nd' hj)
/-- what a search by halves comes to -/
theorem ixOf_at {nds : List Nd} (h : Rise nds) {id : Int} {k : Nat} (hb : ∀ (i : Nat) nd, i < k → nds[i]? = some nd → nd.id < id) (ha : ∀ (i : Nat) nd, k ≤ i → nds[i]? = some nd → id ≤ nd.id) :
    ixOf nds id = match nds[k]? with | some nd => if nd.id = id then some k else none | none => none := by
  cases hk : nds[k]? with
  | none =>
    refine ixOf_no fun i nd hi e => ?_
    by_cases hik : i < k
    · have := hb i nd hik hi; omega
    · have hl : i < nds.length := (List.getElem?_eq_some_iff.1 hi).1
      have := List.getElem?_eq_none_iff.1 hk
      omega
  | some nd =>
    simp only
    by_cases e : nd.id = id
    · rw [if_pos e]; exact ixOf_is h hk e
    · rw [if_neg e]
      refine ixOf_no fun i nd' hi e' => ?_
      rcases Nat.lt_trichotomy i k with g | rfl | g
      · have := hb i nd' g hi; omega
      · rw [hk] at hi; injection hi with hi; subst hi; exact e e'
      · have := h.lt k i nd nd' g hk hi
        have := ha k nd (Nat.le_refl _) hk
        omega
end Go.Proofs.YtilemieknfdjnaaGreat
namespace Go.Proofs.YtilemieknfdjnaaGreat
open Go Go.RowKit
set_option linter.unusedVariables false
/-- how many nodes deep, if no deeper than that -/
def lvl (a : List Int) : Nat → Int → Option Nat
  | 0, i => if i = -1 then some 0 else none
  | f + 1, i => if i = -1 then some 0 else (lvl a f (a.getD i.toNat (-1))).map (· + 1)
theorem ixOf_inj {nds : List Nd} {k k' : Int} {j : Nat} (h : ixOf nds k = some j) (h' : ixOf nds k' = some j) : k = k' := by
  obtain ⟨a, ha, e⟩ := ixOf_some h
  obtain ⟨b, hb, e'⟩ := ixOf_some h'
  rw [ha] at hb
  injection hb with hb
  subst hb
  omega
end Go.Proofs.YtilemieknfdjnaaGreat
namespace Go.Proofs.YtilemieknfdjnaaGreat
open Go Go.RowKit
set_option linter.unusedVariables false
/-- halves: what is known of the places on both sides -/
structure Half (nds : List Nd) (id : Int) (l h : Nat) : Prop where
  le : l ≤ h
  lo : ∀ (i : Nat) nd, i < l → nds[i]? = some nd → nd.id < id
  hi : ∀ (i : Nat) nd, h ≤ i → nds[i]? = some nd → id ≤ nd.id
theorem Half.start (nds : List Nd) (id : Int) (n : Nat) (hn : nds.length = n) : Half nds id 0 n :=
  ⟨Nat.zero_le _, fun i nd hi => absurd hi (by omega), fun i nd hi hg => by have := (List.getElem?_eq_some_iff.1 hg).1; omega⟩
theorem Half.down {nds : List Nd} {id : Int} {l h m : Nat} {nd : Nd} (H : Half nds id l h) (hr : Rise nds) (hm : nds[m]? = some nd) (h1 : l ≤ m) (hge : id ≤ nd.id) : Half nds id l m :=
  ⟨h1, H.lo, fun i nd' hi hg => by
    rcases Nat.lt_or_ge m i with g | g
    · have := hr.lt m i nd nd' g hm hg; omega
    · obtain rfl : i = m := by omega
      rw [hm] at hg; injection hg with hg; subst hg; exact hge⟩
theorem Half.at_ {nds : List Nd} {id : Int} {k : Nat} (H : Half nds id k k) (hr : Rise nds) : ixOf nds id = match nds[k]? with | some nd => if nd.id = id then some k else none | none => none :=
  ixOf_at hr H.lo H.hi
theorem below_box (w : World) (x : Obj) : Below w.heap.size w (w.alloc x) := (Below.refl _ _).alloc (Nat.le_refl _) _
theorem ret_i {w w' : World} {v : Value} {k : IntKind} {a b : Int} (h : b = a) (hv : v = .int k a) (hb : Below w.heap.size w w') : Ret w (.int k b) (.returned v) w' := ⟨by rw [hv, h], hb⟩
theorem ret_b {w w' : World} {v : Value} {a b : Bool} (h : b = a) (hv : v = .bool a) (hb : Below w.heap.size w w') : Ret w (.bool b) (.returned v) w' := ⟨by rw [hv, h], hb⟩
end Go.Proofs.YtilemieknfdjnaaGreat
namespace Go.Proofs.YtilemieknfdjnaaGreat
open Go Go.RowKit
set_option linter.unusedVariables false
def DrewV (w : World) (v : Value) (e : Ending) (w' : World) : Prop := e = .returned v ∧ ∃ q, w' = w.drewN q
theorem drew_ret {P : Program} {f : FuncId} {args : Array Value} {w : World} {v : Value} (h : Calls P f args w (DrewV w v)) : Calls P f args w (Ret w v) :=
  h.mono fun e w' ⟨he, q, hq⟩ => ⟨he, by rw [hq]; exact below_drewN (Below.refl _ _) q⟩
end Go.Proofs.YtilemieknfdjnaaGreat
namespace Go.Proofs.YtilemieknfdjnaaGreat
open Go Go.RowKit Go.Sort
set_option linter.unusedVariables false
theorem Below.setCell' {B : Nat} {a w : World} (h : Below B a w) {g i : Nat} (hp : B ≤ g) (u : Value) : Below B a (w.setCell ⟨g, i, none⟩ u) := h.setCell (p := ⟨g, i, none⟩) hp u
section
variable {w wr w' : World} {next : Int} {A : Option Addr} {n c : Nat} {a : List Int}
end
end Go.Proofs.YtilemieknfdjnaaGreat
namespace Go.Proofs.YtilemieknfdjnaaGreat
open Go Go.RowKit
set_option linter.unusedVariables false
/-- the depths that are written down so far are right -/
def DInv (a dl : List Int) : Prop := dl.length = a.length ∧ ∀ j, j < a.length → ∃ d : Nat, dl.getD j 0 = d ∧ (d = 0 ∨ lvl a 64 j = some d)
theorem DInv.start (a : List Int) : DInv a (List.replicate a.length 0) :=
  ⟨by simp, fun j hj => ⟨0, by rw [List.getD_eq_getElem?_getD, List.getElem?_replicate, if_pos hj]; rfl, .inl rfl⟩⟩
end Go.Proofs.YtilemieknfdjnaaGreat
namespace Go.Proofs.YtilemieknfdjnaaGreat
open Go Go.RowKit Go.Sort
set_option linter.unusedVariables false
theorem Below.only {B : Nat} {a w w' : World} (h : Below B a w) {g : Nat} (hg : w.grownBy w' (some g)) (hB : B ≤ w.heap.size) (hBg : B ≤ g) : Below B a w' :=
  h.grown hg hB (fun k hk => by injection hk with hk; omega)
def nought64 : List Int := List.replicate 64 0
/-- the slice of 64 places of which L are filled -/
def WayIn (w : World) (g L : Nat) (wl : List Int) : Prop := w.ownsRow g 3 1 (.slice (some ⟨g, 0, none⟩) L 64) L (intCells wl)
theorem WayIn.zero {w : World} {g L : Nat} {wl : List Int} (h : WayIn w g L wl) : WayIn w g 0 [] := by
  rcases h.2 with ⟨h, _⟩ | ⟨g', cap, cur, e, hb, hg, h1, h2, h3, h4⟩
  · cases h
  · injection e with e1 e2 e3
    injection e1 with e1
    injection e1 with e1
    subst e1 e3
    exact ⟨by simp [intCells], .inr ⟨g, 64, cur, rfl, hb, hg, Nat.zero_le _, h2, h3, by simp [intCells]⟩⟩
theorem WayIn.start (w : World) : WayIn (w.alloc (.cells (intCells (nought64)).toArray 3)) w.heap.size 0 [] :=
  World.ownsRow_made w (intCells nought64).toArray 64 (Nat.le_refl _) (by simp [maxLen]) (by simp [intCells, nought64])
theorem WayIn.cell {w : World} {g L : Nat} {wl : List Int} (h : WayIn w g L wl) {j : Nat} {x : Int} (hx : wl[j]? = some x) : w.cell? ⟨g, j, none⟩ = some (.int .i64 x) := by
  have := World.ownsRow.cells h (g := g) rfl j _ (intCells_get hx)
  rwa [Addr.add_lit, Nat.zero_add] at this
theorem WayIn.len {w : World} {g L : Nat} {wl : List Int} (h : WayIn w g L wl) : wl.length = L := by
  have := h.1; rw [intCells_length] at this; omega
theorem WayIn.lt {w : World} {g L : Nat} {wl : List Int} (h : WayIn w g L wl) : g < w.heap.size := (World.ownsRow.lt h g rfl).2
theorem WayIn.kept {w w' : World} {g L r : Nat} {wl : List Int} (h : WayIn w g L wl) (hg : w.grownBy w' (some r)) (hne : g ≠ r) : WayIn w' g L wl :=
  World.ownsRow.kept h hg (.inr (by simp [Value.ownBlock, hne]))
theorem WayIn.alloc {w : World} {g L : Nat} {wl : List Int} (h : WayIn w g L wl) (o : Obj) : WayIn (w.alloc o) g L wl := World.ownsRow.alloc h o
/-- what holds in the loops of rooted -/
structure RW (w : World) (n L : Nat) (dl wl : List Int) (wr : World) : Prop where
  deep : IBlk wr w.heap.size dl
  way : WayIn wr (w.heap.size + 1) L wl
  bel : Below w.heap.size w wr
  len : dl.length = n
theorem RW.start {w wr : World} {n L : Nat} {dl wl : List Int} (h : RW w n L dl wl wr) : RW w n 0 dl [] wr := ⟨h.deep, h.way.zero, h.bel, h.len⟩
end Go.Proofs.YtilemieknfdjnaaGreat
namespace Go.Proofs.YtilemieknfdjnaaGreat
open Go Go.RowKit Go.Sort
set_option linter.unusedVariables false
/-- a block of yes and no -/
def BBlk (w : World) (g : Nat) (a : List Bool) : Prop := Blk w g 4 (a.map Value.bool).toArray
section
variable {w w' : World} {g : Nat} {a : List Bool}
theorem BBlk.cell (h : BBlk w g a) {i : Nat} (hi : i < a.length) : w.cell? ⟨g, i, none⟩ = some (.bool (a.getD i false)) := by
  rw [Blk.cell h]
  simp [hi]
theorem BBlk.set_ (h : BBlk w g a) (i : Nat) (x : Bool) : BBlk (w.setCell ⟨g, i, none⟩ (.bool x)) g (a.set i x) := by
  have := Blk.set_ h i (.bool x)
  unfold BBlk
  have e : ((a.set i x).map Value.bool).toArray = (a.map Value.bool).toArray.setIfInBounds i (.bool x) := by simp [List.map_set]
  rw [e]; exact this
end
def noB (n : Nat) : Array Value := ((List.replicate n false).map Value.bool).toArray
theorem BBlk.start (w : World) (n : Nat) : BBlk (w.alloc (.cells (noB n) 4)) w.heap.size (List.replicate n false) := Blk.new _ _ _
/-- the kids that were met so far are marked -/
def MetOk (nds : List Nd) (n : Nat) (seen : List Int) (mt : List Bool) : Prop := mt.length = n ∧ ∀ k j, ixOf nds k = some j → mt.getD j false = seen.contains k
theorem MetOk.start (nds : List Nd) (n : Nat) : MetOk nds n [] (List.replicate n false) := ⟨by simp, fun k j h => by
  rw [List.getD_eq_getElem?_getD, List.getElem?_replicate]; split <;> simp⟩
theorem MetOk.step {nds : List Nd} {n : Nat} {seen : List Int} {mt : List Bool} (h : MetOk nds n seen mt) {k : Int} {j : Nat} (hj : ixOf nds k = some j) (hn : j < n) : MetOk nds n (k :: seen) (mt.set j true) := by
  refine ⟨by rw [List.length_set]; exact h.1, fun k' j' hj' => ?_⟩
  rw [List.getD_eq_getElem?_getD, List.getElem?_set]
  by_cases e : j = j'
  · subst e
    obtain rfl := ixOf_inj hj hj'
    simp [h.1, hn]
  · rw [if_neg e, ← List.getD_eq_getElem?_getD, h.2 k' j' hj']
    have : k' ≠ k := by rintro rfl; rw [hj] at hj'; injection hj' with hj'; exact e hj'
    simp [this]
section
variable {w wr w' : World} {next : Int} {A : Option Addr} {n c : Nat} {nd : Nd} {L : Leaf}
end
end Go.Proofs.YtilemieknfdjnaaGreat
namespace Go.Proofs.YtilemieknfdjnaaGreat
open Go Go.RowKit Go.Sort
set_option linter.unusedVariables false
/-- two lists, place by place -/
def eqL {α : Type} (e : α → α → Bool) : List α → List α → Bool
  | [], [] => true
  | x :: l, y :: m => e x y && eqL e l m
  | _, _ => false
theorem eqL_len {α : Type} (e : α → α → Bool) : ∀ {l m : List α}, l.length ≠ m.length → eqL e l m = false
  | [], [], h => absurd rfl h
  | [], _ :: _, _ => rfl
  | _ :: _, [], _ => rfl
  | x :: l, y :: m, h => by
    rw [eqL, eqL_len e (l := l) (m := m) (by simpa using h), Bool.and_false]
theorem eqL_refl {α : Type} {e : α → α → Bool} (h : ∀ x, e x x = true) : ∀ l : List α, eqL e l l = true
  | [] => rfl
  | x :: l => by rw [eqL, h, eqL_refl h l]; rfl
def intE (x y : Int) : Bool := x == y
theorem drew_below {B : Nat} {w wr : World} (h : ∃ q, wr = w.drewN q) : Below B w wr := by
  obtain ⟨q, rfl⟩ := h; exact below_drewN (Below.refl _ _) q
theorem drew_more {w wr : World} (h : ∃ q, wr = w.drewN q) (n : Nat) : ∃ q, wr.drewN n = w.drewN q := by
  obtain ⟨q, rfl⟩ := h; exact ⟨q + n, World.drewN_drewN _ _ _⟩
theorem intE_refl (x : Int) : intE x x = true := by simp [intE]
end Go.Proofs.YtilemieknfdjnaaGreat
namespace Go.Proofs.YtilemieknfdjnaaGreat
open Go Go.RowKit Go.Sort
set_option linter.unusedVariables false
theorem eqL_length {α : Type} {e : α → α → Bool} {l m : List α} (h : eqL e l m = true) : l.length = m.length := by
  by_cases hl : l.length = m.length
  · exact hl
  · rw [eqL_len e hl] at h; cases h
theorem eqL_snoc {α : Type} {e : α → α → Bool} {x y : α} : ∀ {l m : List α}, eqL e l m = true → e x y = true → eqL e (l ++ [x]) (m ++ [y]) = true
  | [], [], _, h => by simp [eqL, h]
  | [], _ :: _, h, _ => by simp [eqL] at h
  | _ :: _, [], h, _ => by simp [eqL] at h
  | a :: l, b :: m, h, h' => by
    rw [eqL, Bool.and_eq_true] at h
    rw [List.cons_append, List.cons_append, eqL, h.1, eqL_snoc h.2 h']; rfl
theorem ret_of_drew {w w' : World} {v : Value} {e : Ending} (h : DrewV w v e w') : Ret w v e w' := ⟨h.1, drew_below h.2⟩
/-- a slice of parts, each with lists of its own: l tells them with where their lists lie -/
structure GRow {γ : Type} (C : γ → List Value) (P : World → Nat → Nat → γ → Prop) (size : Nat) (w : World) (lo hi : Nat) (S : Sl) (l : List γ) : Prop where
  n : S.n = l.length
  row : Row w lo hi size S.A S.n S.c (l.flatMap C)
  all : ∀ g ∈ l, P w lo hi g
/-- what is kept by a world with more memory, and in wider bounds -/
structure Keep {γ : Type} (P : World → Nat → Nat → γ → Prop) : Prop where
  below : ∀ {w w' lo hi g}, P w lo hi g → Below hi w w' → P w' lo hi g
  mono : ∀ {w lo hi lo' hi' g}, P w lo hi g → lo' ≤ lo → hi ≤ hi' → P w lo' hi' g
section
variable {γ : Type} {C : γ → List Value} {P : World → Nat → Nat → γ → Prop} {size : Nat} {w w' : World} {lo hi : Nat} {S : Sl} {l : List γ}
theorem GRow.below (h : GRow C P size w lo hi S l) (hP : Keep P) (hb : Below hi w w') : GRow C P size w' lo hi S l := ⟨h.n, Row.below h.row hb, fun g hg => hP.below (h.all g hg) hb⟩
theorem GRow.mono (h : GRow C P size w lo hi S l) (hP : Keep P) {lo' hi' : Nat} (hl : lo' ≤ lo) (hh : hi ≤ hi') : GRow C P size w lo' hi' S l := ⟨h.n, Row.mono h.row hl hh, fun g hg => hP.mono (h.all g hg) hl hh⟩
theorem GRow.at_ (h : GRow C P size w lo hi S l) (hs : ∀ g, (C g).length = size) (hn : 0 < S.n) : ∃ b o, S.A = some ⟨b, o, none⟩ ∧ lo ≤ b ∧ b < hi ∧ ∀ i g, l[i]? = some g → P w lo hi g ∧ ∀ j u, j < size → (C g)[j]? = some u → w.cell? ⟨b, o + i * size + j, none⟩ = some u := by
  obtain ⟨b, o, e, h1, h2, hc⟩ := h.row.at_ hn
  refine ⟨b, o, e, h1, h2, fun i g hg => ⟨h.all g (List.mem_of_getElem? hg), fun j u hj hu => ?_⟩⟩
  have := hc (i * size + j) u (by rw [flatN_get hs l i g hg j hj]; exact hu)
  rw [← Nat.add_assoc] at this; exact this
end
structure ConD where
  name : ByteArray
  super : ByteArray
  abs : Bool
  props : List PropD
  kids : List KidD
  refs : List RefD
structure SideD where
  kind : Int
  name : ByteArray
  num : Int
  args : List Int
structure EqM where
  con : ByteArray
  L : Sl
  ls : List (SideD × Sl)
  R : Sl
  rs : List (SideD × Sl)
structure RowD where
  con : ByteArray
  cells : List CellD
structure LangM where
  name : ByteArray
  ver : Int
  U : Sl
  us : List ByteArray
  C : Sl
  cs : List (ConD × Leaf)
  N : Sl
  ru : List RuleD
  Q : Sl
  qs : List EqM
  E : Sl
  es : List (RowD × Sl)
  T : Sl
  ts : List (RowD × Sl)
def conC (x : ConD × Leaf) : List Value := [.string x.1.name, .string x.1.super, .bool x.1.abs, .slice x.2.p.A x.2.p.n x.2.p.c, .slice x.2.k.A x.2.k.n x.2.k.c, .slice x.2.r.A x.2.r.n x.2.r.c]
def sideC (x : SideD × Sl) : List Value := [.int .i64 x.1.kind, .string x.1.name, .int .i64 x.1.num, .slice x.2.A x.2.n x.2.c]
def eqC (x : EqM) : List Value := [.string x.con, .slice x.L.A x.L.n x.L.c, .slice x.R.A x.R.n x.R.c]
def rowC (x : RowD × Sl) : List Value := [.string x.1.con, .slice x.2.A x.2.n x.2.c]
def langC (x : LangM) : List Value := [.string x.name, .int .i64 x.ver, .slice x.U.A x.U.n x.U.c, .slice x.C.A x.C.n x.C.c, .slice x.N.A x.N.n x.N.c, .slice x.Q.A x.Q.n x.Q.c, .slice x.E.A x.E.n x.E.c, .slice x.T.A x.T.n x.T.c]
def conEM (x y : ConD × Leaf) : Bool := (x.1.name.toList == y.1.name.toList) && (x.1.super.toList == y.1.super.toList) && (x.1.abs == y.1.abs) && eqL pdE x.1.props y.1.props && eqL kdE x.1.kids y.1.kids && eqL rdE x.1.refs y.1.refs
def sideEM (x y : SideD × Sl) : Bool := (x.1.kind == y.1.kind) && (x.1.name.toList == y.1.name.toList) && (x.1.num == y.1.num) && eqL intE x.1.args y.1.args
def eqEM (x y : EqM) : Bool := (x.con.toList == y.con.toList) && eqL sideEM x.ls y.ls && eqL sideEM x.rs y.rs
def rowEM (x y : RowD × Sl) : Bool := (x.1.con.toList == y.1.con.toList) && eqL ceE x.1.cells y.1.cells
def langEM (x y : LangM) : Bool := (x.name.toList == y.name.toList) && (x.ver == y.ver) && eqL strE x.us y.us && eqL conEM x.cs y.cs && eqL ruE x.ru y.ru && eqL eqEM x.qs y.qs && eqL rowEM x.es y.es && eqL rowEM x.ts y.ts
structure ConIn (w : World) (lo hi : Nat) (x : ConD × Leaf) : Prop where
  pn : x.2.p.n = x.1.props.length
  kn : x.2.k.n = x.1.kids.length
  rn : x.2.r.n = x.1.refs.length
  p : Row w lo hi 2 x.2.p.A x.2.p.n x.2.p.c (pdCells x.1.props)
  k : Row w lo hi 4 x.2.k.A x.2.k.n x.2.k.c (kdCells x.1.kids)
  r : Row w lo hi 3 x.2.r.A x.2.r.n x.2.r.c (rdCells x.1.refs)
structure SideIn (w : World) (lo hi : Nat) (x : SideD × Sl) : Prop where
  an : x.2.n = x.1.args.length
  a : Row w lo hi 1 x.2.A x.2.n x.2.c (intCells x.1.args)
structure EqIn (w : World) (lo hi : Nat) (x : EqM) : Prop where
  l : GRow sideC SideIn 4 w lo hi x.L x.ls
  r : GRow sideC SideIn 4 w lo hi x.R x.rs
structure RowIn (w : World) (lo hi : Nat) (x : RowD × Sl) : Prop where
  qn : x.2.n = x.1.cells.length
  q : Row w lo hi 3 x.2.A x.2.n x.2.c (ceCells x.1.cells)
theorem conK : Keep ConIn := ⟨fun h hb => ⟨h.pn, h.kn, h.rn, Row.below h.p hb, Row.below h.k hb, Row.below h.r hb⟩, fun h hl hh => ⟨h.pn, h.kn, h.rn, Row.mono h.p hl hh, Row.mono h.k hl hh, Row.mono h.r hl hh⟩⟩
theorem sideK : Keep SideIn := ⟨fun h hb => ⟨h.an, Row.below h.a hb⟩, fun h hl hh => ⟨h.an, Row.mono h.a hl hh⟩⟩
theorem eqK : Keep EqIn := ⟨fun h hb => ⟨h.l.below sideK hb, h.r.below sideK hb⟩, fun h hl hh => ⟨h.l.mono sideK hl hh, h.r.mono sideK hl hh⟩⟩
theorem rowK : Keep RowIn := ⟨fun h hb => ⟨h.qn, Row.below h.q hb⟩, fun h hl hh => ⟨h.qn, Row.mono h.q hl hh⟩⟩
structure LangIn (w : World) (lo hi : Nat) (x : LangM) : Prop where
  un : x.U.n = x.us.length
  u : Row w lo hi 1 x.U.A x.U.n x.U.c (strCells x.us)
  c : GRow conC ConIn 6 w lo hi x.C x.cs
  nn : x.N.n = x.ru.length
  n : Row w lo hi 4 x.N.A x.N.n x.N.c (ruCells x.ru)
  q : GRow eqC EqIn 3 w lo hi x.Q x.qs
  e : GRow rowC RowIn 2 w lo hi x.E x.es
  t : GRow rowC RowIn 2 w lo hi x.T x.ts
theorem langK : Keep LangIn := ⟨fun h hb => ⟨h.un, Row.below h.u hb, h.c.below conK hb, h.nn, Row.below h.n hb, h.q.below eqK hb, h.e.below rowK hb, h.t.below rowK hb⟩,
  fun h hl hh => ⟨h.un, Row.mono h.u hl hh, h.c.mono conK hl hh, h.nn, Row.mono h.n hl hh, h.q.mono eqK hl hh, h.e.mono rowK hl hh, h.t.mono rowK hl hh⟩⟩
/-- two boxes of one type -/
structure B2 (w : World) (t : TypeId) (cs ds : Array Value) (wr : World) : Prop where
  a : Blk wr w.heap.size t cs
  b : Blk wr (w.heap.size + 1) t ds
  bel : Below w.heap.size w wr
section
variable {w wr w' : World} {t : TypeId} {cs ds : Array Value}
theorem B2.start (w : World) (t : TypeId) (cs ds : Array Value) : B2 w t cs ds ((w.alloc (.cells cs t)).alloc (.cells ds t)) := ⟨(Blk.new _ _ _).alloc _, Blk.new' (by simp), (below_box _ _).alloc (by simp) _⟩
theorem B2.after (h : B2 w t cs ds wr) (hb : Below wr.heap.size wr w') : B2 w t cs ds w' := ⟨h.a.after hb, h.b.after hb, h.bel.trans (hb.mono h.bel.size)⟩
theorem B2.drewN (h : B2 w t cs ds wr) (q : Nat) : B2 w t cs ds (wr.drewN q) := ⟨h.a, h.b, below_drewN h.bel q⟩
theorem B2.size (h : B2 w t cs ds wr) : w.heap.size + 1 < wr.heap.size := h.b.lt
end
end Go.Proofs.YtilemieknfdjnaaGreat
