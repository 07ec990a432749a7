/-
  WALKS: is a lent model as it was, with its marks?
  WALKS: great, check, New; and laws for a call and an alloc as steps of a region that draws its order.
  MODELS OF THE CALL's OWN: nodes and their lists in memory that the call made; a cell of a node turned; copy of a whole row.
  WALKS: the program's own: lists, nodes, models in memory of their own.
  WALKS: the program's own: a model in memory of its own.
-/
import Derived.Test.YtdeoblhdojbbbaaDoorZ20
import Derived.Laws.OwnMore
import Derived.Laws.CopyRow
import Derived.Laws.IdiomCopy
import Derived.Laws.CopyOwn
namespace Go.Proofs.YtdeoblhdojbbbaaDoor
open Go Go.RowKit Go.Sort
set_option linter.unusedVariables false
attribute [local go_sem ↓] Go.wp_at_zero Go.wp_at_succ
theorem MarkIn.row {w : World} {B : Nat} {e : TypeId} {size n : Nat} {s : Sl} {xs mark : List Value} (h : MarkIn w B e size s n xs mark) (hx : xs.length = n * size) : Row w B w.heap.size size s.A s.n s.c xs := by
  have h1 := own_row (own_take h.2.2 (Nat.le_succ n) h.2.1)
  rw [show (xs ++ mark).take (n * size) = xs from by rw [← hx]; simp] at h1
  rw [h.1]
  exact h1
/-- the mark behind the end: the room is there, and what lies in it -/
theorem MarkIn.mark {w : World} {B : Nat} {e : TypeId} {size n : Nat} {s : Sl} {xs : List Value} {m0 : Value} {ms : List Value} (h : MarkIn w B e size s n xs (m0 :: ms)) (hx : xs.length = n * size) :
    ∃ b o, s.A = some ⟨b, o, none⟩ ∧ b < w.heap.size ∧ s.n + 1 ≤ s.c ∧ s.c ≤ maxLen ∧ w.cell? ⟨b, o + s.n * size, none⟩ = some m0 := by
  have h1 := own_row h.2.2
  obtain ⟨b, o, hA, _, hb, hc⟩ := h1.2.2.2 (Nat.succ_pos _)
  refine ⟨b, o, hA, hb, ?_, h1.2.2.1, hc _ _ ?_⟩
  · rw [h.1]; exact h1.2.1
  · rw [h.1, ← hx]; simp
theorem LentLeaf.leafIn {w : World} {B : Nat} {nd : Nd} {L : Leaf} (h : LentLeaf w B nd L) : LeafIn w B w.heap.size nd L :=
  ⟨h.p.1, h.k.1, h.r.1, h.p.row (propCells_length _), h.k.row (by rw [intCells_length]; omega), h.r.row (refCells_length _), h.sz⟩
theorem LentAt.ownN {w : World} {B n c : Nat} {A : Option Addr} {nds : List Nd} {l : List (Nd × Leaf)} (h : LentAt w B A n c nds l) : OwnN w B (.slice A n c) l := by
  have h1 := own_take h.own (Nat.le_succ n) h.some_
  rw [show (allCells l ++ markNd).take (n * 7) = allCells l from by rw [← h.len, ← allCells_len]; simp] at h1
  unfold OwnN
  rw [h.len]
  exact h1
theorem LentAt.nodesIn {w : World} {B n c : Nat} {A : Option Addr} {nds : List Nd} {l : List (Nd × Leaf)} (h : LentAt w B A n c nds l) : NodesIn w B w.heap.size A n c nds := by
  rw [← h.nds_]
  exact h.ownN.nodesIn h.len (fun p hp => (h.leaf p hp).leafIn) (Nat.le_refl _) (Nat.le_refl _)
theorem LentAt.after {w w' : World} {B n c : Nat} {A : Option Addr} {nds : List Nd} {l : List (Nd × Leaf)} (h : LentAt w B A n c nds l) (hb : Below w.heap.size w w') : LentAt w' B A n c nds l :=
  ⟨h.nds_, h.len, fun p hp => (h.leaf p hp).after hb, h.some_, own_after h.own hb, h.le, h.max⟩
/-- where the nodes lie, each with its marks, and the last mark -/
theorem LentAt.all {w : World} {B n c : Nat} {A : Option Addr} {nds : List Nd} {l : List (Nd × Leaf)} (h : LentAt w B A n c nds l) :
    ∃ b o, A = some ⟨b, o, none⟩ ∧ b < w.heap.size ∧ w.cell? ⟨b, o + n * 7, none⟩ = some (.int .i64 (-7)) ∧ ∀ i p, l[i]? = some p → NodeAt w b (o + i * 7) p.1 p.2 ∧ LentLeaf w B p.1 p.2 := by
  have h1 := own_row h.own
  obtain ⟨b, o, hA, _, hb, hc⟩ := h1.2.2.2 (Nat.succ_pos _)
  refine ⟨b, o, hA, hb, hc _ _ (by rw [← h.len, ← allCells_len]; simp [markNd]), fun i p hp => ?_⟩
  have hi : i < l.length := (List.getElem?_eq_some_iff.1 hp).1
  have key : ∀ j u, j < 7 → (ndCells p)[j]? = some u → w.cell? ⟨b, o + i * 7 + j, none⟩ = some u := by
    intro j u hj hu
    have hlt : i * 7 + j < (allCells l).length := by rw [allCells_len]; omega
    have := hc (i * 7 + j) u (by rw [List.getElem?_append_left hlt]; unfold allCells; rw [flatN_get ndCells_len l i p hp j hj]; exact hu)
    rwa [Nat.add_assoc]
  exact ⟨⟨key 0 _ (by omega) rfl, key 1 _ (by omega) rfl, key 2 _ (by omega) rfl, key 3 _ (by omega) rfl, key 4 _ (by omega) rfl, key 5 _ (by omega) rfl, key 6 _ (by omega) rfl⟩, h.leaf p (List.mem_of_getElem? hp)⟩
end Go.Proofs.YtdeoblhdojbbbaaDoor
namespace Go.Proofs.YtdeoblhdojbbbaaDoor
open Go Go.RowKit Go.Sort
set_option linter.unusedVariables false
attribute [local go_sem ↓] Go.wp_at_zero Go.wp_at_succ
theorem step_call {P : Program} (w : World) {ops : Array Oper} {o : Oper} {a : Act} {K : Act → World → Prop} {Q : Exit → Act → World → Prop} {E : Prop} (hgd : o.guard = none) (f : FuncId) (vs : Array Value)
    (hrun : (execOp a.eval o).run P w = .ok (.enter f vs) w) {R : Ending → World → Prop} (h : Calls P f vs w R)
    (hK : ∀ e w', R e w' → ∃ u, e = .returned u ∧ K (a.put o.dst u) w') : if Region.wanted o (yielded ops a.tmps) = true then Oper.wp P o a w K Q else E := by
  have hw : Region.wanted o (yielded ops a.tmps) = true := by simp [Region.wanted, hgd]
  rw [if_pos hw]
  unfold Oper.wp
  rw [hrun]
  refine h.mono ?_
  intro e w' hR
  obtain ⟨u, rfl, hk⟩ := hK e w' hR
  exact hk
end Go.Proofs.YtdeoblhdojbbbaaDoor
namespace Go.Proofs.YtdeoblhdojbbbaaDoor
open Go Go.RowKit Go.Sort
set_option linter.unusedVariables false
/-- the lists of a node, each in memory of its own -/
structure OwnLeaf (w : World) (B : Nat) (nd : Nd) (L : Leaf) : Prop where
  pn : L.p.n = nd.props.length
  kn : L.k.n = nd.kids.length
  rn : L.r.n = nd.refs.length
  p : w.ownsRow B 56 2 (.slice L.p.A L.p.n L.p.c) L.p.n (propCells nd.props)
  k : w.ownsRow B 3 1 (.slice L.k.A L.k.n L.k.c) L.k.n (intCells nd.kids)
  r : w.ownsRow B 59 2 (.slice L.r.A L.r.n L.r.c) L.r.n (refCells nd.refs)
  sz : SzN nd
section
variable {w w' : World} {B : Nat} {nd : Nd} {L : Leaf}
theorem OwnLeaf.leafIn (h : OwnLeaf w B nd L) : LeafIn w B w.heap.size nd L := ⟨h.pn, h.kn, h.rn, own_row h.p, own_row h.k, own_row h.r, h.sz⟩
theorem OwnLeaf.after (h : OwnLeaf w B nd L) (hb : Below w.heap.size w w') : OwnLeaf w' B nd L := ⟨h.pn, h.kn, h.rn, own_after h.p hb, own_after h.k hb, own_after h.r hb, h.sz⟩
theorem OwnLeaf.mono (h : OwnLeaf w B nd L) {B' : Nat} (hB : B' ≤ B) : OwnLeaf w B' nd L := ⟨h.pn, h.kn, h.rn, own_mono h.p hB, own_mono h.k hB, own_mono h.r hB, h.sz⟩
theorem OwnLeaf.other (h : OwnLeaf w B nd L) {g : Nat} {t : TypeId} {cs : Array Value} (hg : Blk w g t cs) (h1 : 56 ≠ t) (h2 : 3 ≠ t) (h3 : 59 ≠ t) (i : Nat) (u : Value) : OwnLeaf (w.setCell ⟨g, i, none⟩ u) B nd L :=
  ⟨h.pn, h.kn, h.rn, own_other h.p hg h1 i u, own_other h.k hg h2 i u, own_other h.r hg h3 i u, h.sz⟩
theorem own_kept {e e' : TypeId} {size size' n n' B' : Nat} {v v' : Value} {xs xs' : List Value} (h : w.ownsRow B e size v n xs) (h' : w.ownsRow B' e' size' v' n' xs') (hne : e ≠ e') (hg : w.grownBy w' v'.ownBlock) : w'.ownsRow B e size v n xs :=
  World.ownsRow.kept h hg (own_own_ne h h' hne)
theorem OwnLeaf.kept (h : OwnLeaf w B nd L) {B' size' n' : Nat} {v' : Value} {xs' : List Value} (h' : w.ownsRow B' 37 size' v' n' xs') (hg : w.grownBy w' v'.ownBlock) : OwnLeaf w' B nd L :=
  ⟨h.pn, h.kn, h.rn, own_kept h.p h' (by decide) hg, own_kept h.k h' (by decide) hg, own_kept h.r h' (by decide) hg, h.sz⟩
end
/-- a list of nodes of the call's own -/
structure OwnM (w : World) (B : Nat) (v : Value) (l : List (Nd × Leaf)) : Prop where
  own : OwnN w B v l
  leaf : ∀ p ∈ l, OwnLeaf w B p.1 p.2
section
variable {w w' : World} {B : Nat} {v : Value} {l : List (Nd × Leaf)}
theorem OwnM.after (h : OwnM w B v l) (hb : Below w.heap.size w w') : OwnM w' B v l := ⟨own_after h.own hb, fun p hp => (h.leaf p hp).after hb⟩
theorem OwnM.mono (h : OwnM w B v l) {B' : Nat} (hB : B' ≤ B) : OwnM w B' v l := ⟨own_mono h.own hB, fun p hp => (h.leaf p hp).mono hB⟩
theorem OwnM.other (h : OwnM w B v l) {g : Nat} {cs : Array Value} (hg : Blk w g 24 cs) (i : Nat) (u : Value) : OwnM (w.setCell ⟨g, i, none⟩ u) B v l :=
  ⟨own_other h.own hg (by decide) i u, fun p hp => (h.leaf p hp).other hg (by decide) (by decide) (by decide) i u⟩
theorem OwnM.nodesIn {A : Option Addr} {n c : Nat} (h : OwnM w B (.slice A n c) l) (hn : l.length = n) : NodesIn w B w.heap.size A n c (l.map (·.1)) :=
  OwnN.nodesIn h.own hn (fun p hp => (h.leaf p hp).leafIn) (Nat.le_refl _) (Nat.le_refl _)
theorem own_blk {e : TypeId} {size n c g : Nat} {xs : List Value} (h : w.ownsRow B e size (.slice (some ⟨g, 0, none⟩) n c) n xs) : ∃ cs, Blk w g e cs ∧ B ≤ g ∧ cs.size = c * size := by
  rcases h.2 with ⟨h', _⟩ | ⟨g', cap', cur, h', hb, hg, _, _, hs, _⟩
  · simp at h'
  · simp only [Value.slice.injEq, Option.some.injEq, Addr.mk.injEq, and_true, true_and] at h'
    obtain ⟨rfl, rfl⟩ := h'
    exact ⟨cur, hg, hb, hs⟩
/-- the cells of a list of nodes of which one has turned -/
theorem allCells_set {l : List (Nd × Leaf)} {i j : Nat} {p q : Nd × Leaf} {u : Value} (hp : l[i]? = some p) (hj : j < 7) (hq : (ndCells p).set j u = ndCells q) : (allCells l).set (i * 7 + j) u = allCells (l.set i q) := by
  induction l generalizing i with
  | nil => simp at hp
  | cons x l ih =>
    have hx := ndCells_len x
    match i, hp with
    | 0, hp =>
      obtain rfl : x = p := by simpa using hp
      simp only [allCells, List.flatMap_cons, List.set_cons_zero, Nat.zero_mul, Nat.zero_add]
      rw [List.set_append_left _ _ (by omega), hq]
    | i + 1, hp =>
      have := ih (i := i) (by simpa using hp)
      simp only [allCells, List.flatMap_cons, List.set_cons_succ] at this ⊢
      rw [List.set_append_right _ _ (by omega), hx, show (i + 1) * 7 + j - 7 = i * 7 + j from by omega, this]
/-- a cell of a node is stored -/
theorem OwnM.store {n c g i j : Nat} {p q : Nd × Leaf} {u : Value} (h : OwnM w B (.slice (some ⟨g, 0, none⟩) n c) l) (hn : l.length = n) (hp : l[i]? = some p) (hj : j < 7) (hq : (ndCells p).set j u = ndCells q) (hl : OwnLeaf w B q.1 q.2) :
    OwnM (w.setCell ⟨g, i * 7 + j, none⟩ u) B (.slice (some ⟨g, 0, none⟩) n c) (l.set i q) := by
  subst hn
  have h1 : w.ownsRow B 37 7 (.slice (some ⟨g, 0, none⟩) l.length c) l.length (allCells l) := h.own
  obtain ⟨cs, hg, _, _⟩ := own_blk h1
  have h2 := (World.ownsRow.stored h1 (i * 7 + j) u).1
  rw [allCells_set hp hj hq] at h2
  refine ⟨?_, fun x hx => ?_⟩
  · unfold OwnN
    rw [List.length_set]
    exact h2
  · rcases List.mem_or_eq_of_mem_set hx with hx | rfl
    · exact (h.leaf x hx).other hg (by decide) (by decide) (by decide) _ u
    · exact hl.other hg (by decide) (by decide) (by decide) _ u
end
section
variable {P : Program} (w : World)
end
end Go.Proofs.YtdeoblhdojbbbaaDoor
namespace Go.Proofs.YtdeoblhdojbbbaaDoor
open Go Go.RowKit Go.Sort
set_option linter.unusedVariables false
attribute [local go_sem ↓] Go.wp_at_zero Go.wp_at_succ
/-- a node's own lists, and two boxes of nodes -/
structure NodeR (w : World) (nd : Nd) (M : Leaf) (g5 g6 : Nat) (X : World) : Prop where
  leaf : OwnLeaf X w.heap.size nd M
  b5 : ∃ cs, Blk X g5 37 cs
  b6 : ∃ cs, Blk X g6 37 cs
  bel : Below w.heap.size w X
theorem NodeR.s5 {w X : World} {nd : Nd} {M : Leaf} {g5 g6 : Nat} (h : NodeR w nd M g5 g6 X) (hg : w.heap.size ≤ g5) (i : Nat) (u : Value) : NodeR w nd M g5 g6 (X.setCell ⟨g5, i, none⟩ u) := by
  obtain ⟨h1, ⟨c5, h2⟩, ⟨c6, h3⟩, h4⟩ := h
  refine ⟨h1.other h2 (by decide) (by decide) (by decide) i u, ⟨_, h2.set_ i u⟩, ?_, h4.setCell (p := ⟨g5, i, none⟩) hg u⟩
  by_cases e : g6 = g5
  · subst e; exact ⟨_, h3.set_ i u⟩
  · exact ⟨_, h3.far (p := ⟨g5, i, none⟩) e u⟩
theorem NodeR.s6 {w X : World} {nd : Nd} {M : Leaf} {g5 g6 : Nat} (h : NodeR w nd M g5 g6 X) (hg : w.heap.size ≤ g6) (i : Nat) (u : Value) : NodeR w nd M g5 g6 (X.setCell ⟨g6, i, none⟩ u) := by
  obtain ⟨h1, h2, h3, h4⟩ := h
  have := NodeR.s5 ⟨h1, h3, h2, h4⟩ hg i u
  exact ⟨this.leaf, this.b6, this.b5, this.bel⟩
end Go.Proofs.YtdeoblhdojbbbaaDoor
namespace Go.Proofs.YtdeoblhdojbbbaaDoor
open Go Go.RowKit Go.Sort
set_option linter.unusedVariables false
attribute [local go_sem ↓] Go.wp_at_zero Go.wp_at_succ
theorem take_set7 {α : Type} {xs : List α} {k : Nat} {c0 c1 c2 c3 c4 c5 c6 : α} (h : k * 7 + 7 ≤ xs.length) :
    (((((((xs.set (k * 7) c0).set (k * 7 + 1) c1).set (k * 7 + 2) c2).set (k * 7 + 3) c3).set (k * 7 + 4) c4).set (k * 7 + 5) c5).set (k * 7 + 6) c6).take ((k + 1) * 7) = xs.take (k * 7) ++ [c0, c1, c2, c3, c4, c5, c6] := by
  apply List.ext_getElem?
  intro j
  rcases Nat.lt_or_ge j (k * 7) with hj | hj
  · rw [List.getElem?_take_of_lt (by omega), List.getElem?_append_left (by rw [List.length_take]; omega), List.getElem?_take_of_lt hj]
    repeat rw [List.getElem?_set_ne (by omega)]
  · obtain ⟨r, rfl⟩ : ∃ r, j = k * 7 + r := ⟨j - k * 7, by omega⟩
    rw [List.getElem?_append_right (by rw [List.length_take]; omega), List.length_take, Nat.min_eq_left (by omega), Nat.add_sub_cancel_left]
    match r with
    | 0 => simp [List.getElem?_take, List.getElem?_set]; omega
    | 1 => simp [List.getElem?_take, List.getElem?_set]; omega
    | 2 => simp [List.getElem?_take, List.getElem?_set]; omega
    | 3 => simp [List.getElem?_take, List.getElem?_set]; omega
    | 4 => simp [List.getElem?_take, List.getElem?_set]; omega
    | 5 => simp [List.getElem?_take, List.getElem?_set]; omega
    | 6 => simp [List.getElem?_take, List.getElem?_set]; omega
    | r + 7 => rw [List.getElem?_take_eq_none (by omega)]; simp
/-- a row of nodes, of which the first ones are filled -/
structure Filling (w : World) (next : Int) (A : Option Addr) (n c k g : Nat) (xs : List Value) (l : List (Nd × Leaf)) (wr : World) : Prop where
  md : Blk wr w.heap.size 24 #[.int .i64 next, .slice A n c]
  rs : Blk wr (w.heap.size + 1) 24 #[.int .i64 0, .slice none 0 0]
  row : wr.ownsRow w.heap.size 37 7 (.slice (some ⟨g, 0, none⟩) n n) n xs
  fill : xs.take (k * 7) = allCells l
  leaf : ∀ p ∈ l, OwnLeaf wr w.heap.size p.1 p.2
  bel : Below w.heap.size w wr
section
variable {w X X' : World} {next : Int} {A : Option Addr} {n c k g : Nat} {xs : List Value} {l : List (Nd × Leaf)}
theorem Filling.after (h : Filling w next A n c k g xs l X) (hb : Below X.heap.size X X') : Filling w next A n c k g xs l X' :=
  ⟨h.md.after hb, h.rs.after hb, own_after h.row hb, h.fill, fun p hp => (h.leaf p hp).after hb, h.bel.trans (hb.mono h.bel.size)⟩
/-- what a store into the row leaves, but for what is filled -/
structure Filled (w : World) (next : Int) (A : Option Addr) (n c g : Nat) (xs : List Value) (l : List (Nd × Leaf)) (wr : World) : Prop where
  md : Blk wr w.heap.size 24 #[.int .i64 next, .slice A n c]
  rs : Blk wr (w.heap.size + 1) 24 #[.int .i64 0, .slice none 0 0]
  row : wr.ownsRow w.heap.size 37 7 (.slice (some ⟨g, 0, none⟩) n n) n xs
  leaf : ∀ p ∈ l, OwnLeaf wr w.heap.size p.1 p.2
  bel : Below w.heap.size w wr
theorem Filled.set (h : Filled w next A n c g xs l X) (j : Nat) (u : Value) : Filled w next A n c g (xs.set j u) l (X.setCell ⟨g, j, none⟩ u) := by
  obtain ⟨cs, hg, hB, _⟩ := own_blk h.row
  have hs := World.ownsRow.stored h.row j u
  refine ⟨h.md.far ?_ u, h.rs.far ?_ u, hs.1, fun p hp => (h.leaf p hp).other hg (by decide) (by decide) (by decide) j u, h.bel.setCell (p := ⟨g, j, none⟩) hB u⟩
  · exact h.md.ne_ hg (by decide)
  · exact h.rs.ne_ hg (by decide)
theorem Filling.push {p : Nd × Leaf} (h : Filling w next A n c k g xs l X) (hk : k < n) (hl : l.length = k) (hp : OwnLeaf X w.heap.size p.1 p.2) {u0 u1 u2 u3 u4 u5 u6 : Value} (hu : ndCells p = [u0, u1, u2, u3, u4, u5, u6]) :
    ∃ xs', Filling w next A n c (k + 1) g xs' (l ++ [p]) (((((((X.setCell ⟨g, k * 7, none⟩ u0).setCell ⟨g, k * 7 + 1, none⟩ u1).setCell ⟨g, k * 7 + 2, none⟩ u2).setCell ⟨g, k * 7 + 3, none⟩ u3).setCell ⟨g, k * 7 + 4, none⟩ u4).setCell ⟨g, k * 7 + 5, none⟩ u5).setCell ⟨g, k * 7 + 6, none⟩ u6) := by
  have h0 : Filled w next A n c g xs (l ++ [p]) X := ⟨h.md, h.rs, h.row, fun q hq => by
    rcases List.mem_append.1 hq with hq | hq
    · exact h.leaf q hq
    · obtain rfl : q = p := by simpa using hq
      exact hp, h.bel⟩
  have h7 := ((((((h0.set (k * 7) u0).set (k * 7 + 1) u1).set (k * 7 + 2) u2).set (k * 7 + 3) u3).set (k * 7 + 4) u4).set (k * 7 + 5) u5).set (k * 7 + 6) u6
  refine ⟨_, h7.md, h7.rs, h7.row, ?_, h7.leaf, h7.bel⟩
  rw [take_set7 (by rw [h.row.1]; omega), h.fill, ← hu]
  simp [allCells]
theorem Filling.room (h : Filling w next A n c k g xs l X) (hk : k < n) :
    (∃ u, X.cell? ⟨g, k * 7, none⟩ = some u ∧ X.frozen? ⟨g, k * 7, none⟩ = false) ∧ (∃ u, X.cell? ⟨g, k * 7 + 1, none⟩ = some u ∧ X.frozen? ⟨g, k * 7 + 1, none⟩ = false) ∧
    (∃ u, X.cell? ⟨g, k * 7 + 2, none⟩ = some u ∧ X.frozen? ⟨g, k * 7 + 2, none⟩ = false) ∧ (∃ u, X.cell? ⟨g, k * 7 + 3, none⟩ = some u ∧ X.frozen? ⟨g, k * 7 + 3, none⟩ = false) ∧
    (∃ u, X.cell? ⟨g, k * 7 + 4, none⟩ = some u ∧ X.frozen? ⟨g, k * 7 + 4, none⟩ = false) ∧ (∃ u, X.cell? ⟨g, k * 7 + 5, none⟩ = some u ∧ X.frozen? ⟨g, k * 7 + 5, none⟩ = false) ∧
    (∃ u, X.cell? ⟨g, k * 7 + 6, none⟩ = some u ∧ X.frozen? ⟨g, k * 7 + 6, none⟩ = false) := by
  have key : ∀ j, j < n * 7 → ∃ u, X.cell? ⟨g, j, none⟩ = some u ∧ X.frozen? ⟨g, j, none⟩ = false := fun j hj => by
    have h1 := World.ownsRow.cellAt h.row j hj
    rw [List.getElem?_eq_getElem (by rw [h.row.1]; exact hj)] at h1
    exact ⟨_, h1, World.ownsRow.frozenAt h.row j⟩
  exact ⟨key _ (by omega), key _ (by omega), key _ (by omega), key _ (by omega), key _ (by omega), key _ (by omega), key _ (by omega)⟩
end
end Go.Proofs.YtdeoblhdojbbbaaDoor
