/-
  MODELS OF THE CALL's OWN: nodes and their lists in memory that the call made; a cell of a node turned; copy of a whole row.
-/
import Derived.Test.YtmjkcbhkmkofjaaO
import Derived.Test.YtmjkcbhkmkofjaaP5
import Derived.Laws.OwnMore
import Derived.Laws.CopyRow
import Derived.Laws.IdiomCopy
namespace Go.Proofs.Ytmjkcbhkmkofjaa
open Go Go.RowKit Go.Sort
set_option linter.unusedVariables false

/-- the lists of a node, each in memory of its own -/
structure OwnLeaf (w : World) (B : Nat) (nd : Nd) (L : Leaf) : Prop where
  pn : L.p.n = nd.props.length
  kn : L.k.n = nd.kids.length
  rn : L.r.n = nd.refs.length
  p : w.ownsRow B 63 2 (.slice L.p.A L.p.n L.p.c) L.p.n (propCells nd.props)
  k : w.ownsRow B 3 1 (.slice L.k.A L.k.n L.k.c) L.k.n (intCells nd.kids)
  r : w.ownsRow B 65 2 (.slice L.r.A L.r.n L.r.c) L.r.n (refCells nd.refs)
  sz : SzN nd
section
variable {w w' : World} {B : Nat} {nd : Nd} {L : Leaf}
theorem OwnLeaf.leafIn (h : OwnLeaf w B nd L) : LeafIn w B w.heap.size nd L := ⟨h.pn, h.kn, h.rn, own_row h.p, own_row h.k, own_row h.r, h.sz⟩
theorem OwnLeaf.after (h : OwnLeaf w B nd L) (hb : Below w.heap.size w w') : OwnLeaf w' B nd L := ⟨h.pn, h.kn, h.rn, own_after h.p hb, own_after h.k hb, own_after h.r hb, h.sz⟩
theorem OwnLeaf.mono (h : OwnLeaf w B nd L) {B' : Nat} (hB : B' ≤ B) : OwnLeaf w B' nd L := ⟨h.pn, h.kn, h.rn, own_mono h.p hB, own_mono h.k hB, own_mono h.r hB, h.sz⟩
theorem OwnLeaf.other (h : OwnLeaf w B nd L) {g : Nat} {t : TypeId} {cs : Array Value} (hg : Blk w g t cs) (h1 : 63 ≠ t) (h2 : 3 ≠ t) (h3 : 65 ≠ t) (i : Nat) (u : Value) : OwnLeaf (w.setCell ⟨g, i, none⟩ u) B nd L :=
  ⟨h.pn, h.kn, h.rn, own_other h.p hg h1 i u, own_other h.k hg h2 i u, own_other h.r hg h3 i u, h.sz⟩
theorem own_kept {e e' : TypeId} {size size' n n' B' : Nat} {v v' : Value} {xs xs' : List Value} (h : w.ownsRow B e size v n xs) (h' : w.ownsRow B' e' size' v' n' xs') (hne : e ≠ e') (hg : w.grownBy w' v'.ownBlock) : w'.ownsRow B e size v n xs :=
  World.ownsRow.kept h hg (own_own_ne h h' hne)
theorem OwnLeaf.kept (h : OwnLeaf w B nd L) {B' size' n' : Nat} {v' : Value} {xs' : List Value} (h' : w.ownsRow B' 51 size' v' n' xs') (hg : w.grownBy w' v'.ownBlock) : OwnLeaf w' B nd L :=
  ⟨h.pn, h.kn, h.rn, own_kept h.p h' (by decide) hg, own_kept h.k h' (by decide) hg, own_kept h.r h' (by decide) hg, h.sz⟩
end

/-- a list of nodes of the call's own -/
structure OwnM (w : World) (B : Nat) (v : Value) (l : List (Nd × Leaf)) : Prop where
  own : OwnN w B v l
  leaf : ∀ p ∈ l, OwnLeaf w B p.1 p.2
section
variable {w w' : World} {B : Nat} {v : Value} {l : List (Nd × Leaf)}
theorem OwnM.after (h : OwnM w B v l) (hb : Below w.heap.size w w') : OwnM w' B v l := ⟨own_after h.own hb, fun p hp => (h.leaf p hp).after hb⟩
theorem OwnM.mono (h : OwnM w B v l) {B' : Nat} (hB : B' ≤ B) : OwnM w B' v l := ⟨own_mono h.own hB, fun p hp => (h.leaf p hp).mono hB⟩
theorem OwnM.other (h : OwnM w B v l) {g : Nat} {cs : Array Value} (hg : Blk w g 24 cs) (i : Nat) (u : Value) : OwnM (w.setCell ⟨g, i, none⟩ u) B v l :=
  ⟨own_other h.own hg (by decide) i u, fun p hp => (h.leaf p hp).other hg (by decide) (by decide) (by decide) i u⟩
theorem OwnM.nodesIn {A : Option Addr} {n c : Nat} (h : OwnM w B (.slice A n c) l) (hn : l.length = n) : NodesIn w B w.heap.size A n c (l.map (·.1)) :=
  OwnN.nodesIn h.own hn (fun p hp => (h.leaf p hp).leafIn) (Nat.le_refl _) (Nat.le_refl _)
theorem own_blk {e : TypeId} {size n c g : Nat} {xs : List Value} (h : w.ownsRow B e size (.slice (some ⟨g, 0, none⟩) n c) n xs) : ∃ cs, Blk w g e cs ∧ B ≤ g ∧ cs.size = c * size := by
  rcases h.2 with ⟨h', _⟩ | ⟨g', cap', cur, h', hb, hg, _, _, hs, _⟩
  · simp at h'
  · simp only [Value.slice.injEq, Option.some.injEq, Addr.mk.injEq, and_true, true_and] at h'
    obtain ⟨rfl, rfl⟩ := h'
    exact ⟨cur, hg, hb, hs⟩
/-- the cells of a list of nodes of which one has turned -/
theorem allCells_set {l : List (Nd × Leaf)} {i j : Nat} {p q : Nd × Leaf} {u : Value} (hp : l[i]? = some p) (hj : j < 7) (hq : (ndCells p).set j u = ndCells q) : (allCells l).set (i * 7 + j) u = allCells (l.set i q) := by
  induction l generalizing i with
  | nil => simp at hp
  | cons x l ih =>
    have hx := ndCells_len x
    match i, hp with
    | 0, hp =>
      obtain rfl : x = p := by simpa using hp
      simp only [allCells, List.flatMap_cons, List.set_cons_zero, Nat.zero_mul, Nat.zero_add]
      rw [List.set_append_left _ _ (by omega), hq]
    | i + 1, hp =>
      have := ih (i := i) (by simpa using hp)
      simp only [allCells, List.flatMap_cons, List.set_cons_succ] at this ⊢
      rw [List.set_append_right _ _ (by omega), hx, show (i + 1) * 7 + j - 7 = i * 7 + j from by omega, this]
/-- a cell of a node is stored -/
theorem OwnM.store {n c g i j : Nat} {p q : Nd × Leaf} {u : Value} (h : OwnM w B (.slice (some ⟨g, 0, none⟩) n c) l) (hn : l.length = n) (hp : l[i]? = some p) (hj : j < 7) (hq : (ndCells p).set j u = ndCells q) (hl : OwnLeaf w B q.1 q.2) :
    OwnM (w.setCell ⟨g, i * 7 + j, none⟩ u) B (.slice (some ⟨g, 0, none⟩) n c) (l.set i q) := by
  subst hn
  have h1 : w.ownsRow B 51 7 (.slice (some ⟨g, 0, none⟩) l.length c) l.length (allCells l) := h.own
  obtain ⟨cs, hg, _, _⟩ := own_blk h1
  have h2 := (World.ownsRow.stored h1 (i * 7 + j) u).1
  rw [allCells_set hp hj hq] at h2
  refine ⟨?_, fun x hx => ?_⟩
  · unfold OwnN
    rw [List.length_set]
    exact h2
  · rcases List.mem_or_eq_of_mem_set hx with hx | rfl
    · exact (h.leaf x hx).other hg (by decide) (by decide) (by decide) _ u
    · exact hl.other hg (by decide) (by decide) (by decide) _ u
/-- the world, where a cell of the call's own memory has turned -/
theorem below_set {W X : World} {g i : Nat} {u : Value} (h : Below W.heap.size W X) (hg : W.heap.size ≤ g) : Below W.heap.size W (X.setCell ⟨g, i, none⟩ u) := h.setCell (p := ⟨g, i, none⟩) hg u
end

section
variable {P : Program} (w : World)
/-- copy of a whole row into a block of the call's own -/
theorem run_copy_all (dT sT ty elem : TypeId) (i : TypeInfo) (size : Nat) (hu : P.underlying dT = some (.slice elem)) (hi : P.info? elem = some i) (hs : i.size = size)
    (g n c m : Nat) (A : Option Addr) (k : Nat) (cur : Array Value) (t : TypeId) (hg : w.heap[g]? = some (.cells cur t (0, 0))) (hcur : cur.size = n * size)
    (lo hi' : Nat) (news : List Value) (hr : Row w lo hi' size A n k news) (hn : 0 < n) (h1 : ∀ u ∈ news, u.oneCell' = true) :
    (Builtin.copy_ #[dT, sT] ty #[.slice (some ⟨g, 0, none⟩) n c, .slice A n k]).run P w = .ok (goInt n) (w.setRow g news.toArray) := by
  obtain ⟨b, o, rfl, _, _, hc⟩ := hr.2.2.2 hn
  have hl := run_loadCells_list (P := P) w ⟨b, o, none⟩ news (fun j u hj => by rw [Addr.add_lit]; exact hc j u hj)
  have hst := run_storeCells_at P g 0 t news 0 cur w hg (by rw [hr.1, hcur]; omega) h1
  have hd : cur.toList.drop (n * size) = [] := List.drop_eq_nil_of_le (by rw [Array.length_toList, hcur]; exact Nat.le_refl _)
  rw [hr.1] at hl
  simp only [Nat.zero_add, List.take_zero, List.nil_append, hr.1, hd, List.append_nil] at hst
  simp [Builtin.copy_, run_underlying hu, Builtin.lenOf, Builtin.firstCells, sizeOf, typeInfo, hi, hs, hl, hst]
/-- .. as the walk takes it -/
theorem wpList_copy_all {ops : Array Oper} {rest : List Oper} {o : Oper} {a : Act} {Q : Exit → Act → World → Prop} (hgd : o.guard = none) (d s : Operand) (dT sT : TypeId)
    (ho : o.op = .call { callee := .builtin .copy, args := #[d, s], argTypes := #[dT, sT] }) (elem : TypeId) (i : TypeInfo) (size : Nat) (hu : P.underlying dT = some (.slice elem)) (hi : P.info? elem = some i) (hs : i.size = size)
    (g n c : Nat) (A : Option Addr) (k : Nat) (cur : Array Value) (t : TypeId) (hd : a.eval d = .slice (some ⟨g, 0, none⟩) n c) (hx : a.eval s = .slice A n k) (hg : w.heap[g]? = some (.cells cur t (0, 0))) (hcur : cur.size = n * size)
    (lo hi' : Nat) (news : List Value) (hr : Row w lo hi' size A n k news) (hn : 0 < n) (h1 : ∀ u ∈ news, u.oneCell' = true)
    (h : wpList P ops Q rest (a.put o.dst (goInt n)) (w.setRow g news.toArray)) : wpList P ops Q (o :: rest) a w := by
  refine wpList_plain hgd fun K hK => ?_
  have hrun := run_copy_all (P := P) w dT sT o.type elem i size hu hi hs g n c 0 A k cur t hg hcur lo hi' news hr hn h1
  unfold Oper.wp
  simp [execOp, ho, resolve, invoke, builtin, hd, hx, hrun, Result.andThen]
  exact hK _ _ h
/-- a new block, filled whole -/
theorem own_filled {w X : World} {g n size B : Nat} {e : TypeId} {cur : Array Value} {news : List Value} (hg : X.heap[g]? = some (.cells cur e (0, 0))) (hB : B ≤ g) (hn : n ≤ maxLen) (hs : news.length = n * size) :
    (X.setRow g news.toArray).ownsRow B e size (.slice (some ⟨g, 0, none⟩) n n) n news :=
  ⟨hs, .inr ⟨g, n, news.toArray, rfl, hB, setRow_heap X g cur _ e _ hg, Nat.le_refl _, hn, by simpa using hs, by simp [← hs]⟩⟩
end
end Go.Proofs.Ytmjkcbhkmkofjaa
