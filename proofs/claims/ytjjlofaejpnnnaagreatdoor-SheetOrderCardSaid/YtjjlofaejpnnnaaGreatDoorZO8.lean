/-
  MODELS OF THE CALL's OWN: nodes and their lists in memory that the call made; a cell of a node turned; copy of a whole row.
  NODES THAT GROW, in memory: a list of nodes of the call's own, each of their lists in a block of its own, and a row of numbers beside them; what is written into one leaves the others.
  A READER IN MEMORY: its box, the set of the numbers told, the nodes, the way.
  A NODE MORE, in plain mathematics, as the program lets it stand: whether it may, its parent's kids, the way, the last root.
-/
import Derived.Test.YtjjlofaejpnnnaaGreatDoorZO7
import Derived.Laws.OwnMore
import Derived.Laws.CopyRow
import Derived.Laws.IdiomCopy
import Derived.Maps.OwnSet
namespace Go.Proofs.YtjjlofaejpnnnaaGreatDoor
open Go Go.RowKit Go.Sort
set_option linter.unusedVariables false
/-- the lists of a node, each in memory of its own -/
structure OwnLeaf (w : World) (B : Nat) (nd : Nd) (L : Leaf) : Prop where
  pn : L.p.n = nd.props.length
  kn : L.k.n = nd.kids.length
  rn : L.r.n = nd.refs.length
  p : w.ownsRow B 60 2 (.slice L.p.A L.p.n L.p.c) L.p.n (propCells nd.props)
  k : w.ownsRow B 3 1 (.slice L.k.A L.k.n L.k.c) L.k.n (intCells nd.kids)
  r : w.ownsRow B 62 2 (.slice L.r.A L.r.n L.r.c) L.r.n (refCells nd.refs)
  sz : SzN nd
section
variable {w w' : World} {B : Nat} {nd : Nd} {L : Leaf}
theorem OwnLeaf.leafIn (h : OwnLeaf w B nd L) : LeafIn w B w.heap.size nd L := ⟨h.pn, h.kn, h.rn, own_row h.p, own_row h.k, own_row h.r, h.sz⟩
theorem OwnLeaf.after (h : OwnLeaf w B nd L) (hb : Below w.heap.size w w') : OwnLeaf w' B nd L := ⟨h.pn, h.kn, h.rn, own_after h.p hb, own_after h.k hb, own_after h.r hb, h.sz⟩
theorem OwnLeaf.mono (h : OwnLeaf w B nd L) {B' : Nat} (hB : B' ≤ B) : OwnLeaf w B' nd L := ⟨h.pn, h.kn, h.rn, own_mono h.p hB, own_mono h.k hB, own_mono h.r hB, h.sz⟩
theorem OwnLeaf.other (h : OwnLeaf w B nd L) {g : Nat} {t : TypeId} {cs : Array Value} (hg : Blk w g t cs) (h1 : 60 ≠ t) (h2 : 3 ≠ t) (h3 : 62 ≠ t) (i : Nat) (u : Value) : OwnLeaf (w.setCell ⟨g, i, none⟩ u) B nd L :=
  ⟨h.pn, h.kn, h.rn, own_other h.p hg h1 i u, own_other h.k hg h2 i u, own_other h.r hg h3 i u, h.sz⟩
theorem own_kept {e e' : TypeId} {size size' n n' B' : Nat} {v v' : Value} {xs xs' : List Value} (h : w.ownsRow B e size v n xs) (h' : w.ownsRow B' e' size' v' n' xs') (hne : e ≠ e') (hg : w.grownBy w' v'.ownBlock) : w'.ownsRow B e size v n xs :=
  World.ownsRow.kept h hg (own_own_ne h h' hne)
theorem OwnLeaf.kept (h : OwnLeaf w B nd L) {B' size' n' : Nat} {v' : Value} {xs' : List Value} (h' : w.ownsRow B' 55 size' v' n' xs') (hg : w.grownBy w' v'.ownBlock) : OwnLeaf w' B nd L :=
  ⟨h.pn, h.kn, h.rn, own_kept h.p h' (by decide) hg, own_kept h.k h' (by decide) hg, own_kept h.r h' (by decide) hg, h.sz⟩
end
/-- a list of nodes of the call's own -/
structure OwnM (w : World) (B : Nat) (v : Value) (l : List (Nd × Leaf)) : Prop where
  own : OwnN w B v l
  leaf : ∀ p ∈ l, OwnLeaf w B p.1 p.2
section
variable {w w' : World} {B : Nat} {v : Value} {l : List (Nd × Leaf)}
theorem OwnM.after (h : OwnM w B v l) (hb : Below w.heap.size w w') : OwnM w' B v l := ⟨own_after h.own hb, fun p hp => (h.leaf p hp).after hb⟩
theorem OwnM.mono (h : OwnM w B v l) {B' : Nat} (hB : B' ≤ B) : OwnM w B' v l := ⟨own_mono h.own hB, fun p hp => (h.leaf p hp).mono hB⟩
theorem OwnM.other (h : OwnM w B v l) {g : Nat} {cs : Array Value} (hg : Blk w g 25 cs) (i : Nat) (u : Value) : OwnM (w.setCell ⟨g, i, none⟩ u) B v l :=
  ⟨own_other h.own hg (by decide) i u, fun p hp => (h.leaf p hp).other hg (by decide) (by decide) (by decide) i u⟩
theorem own_blk {e : TypeId} {size n c g : Nat} {xs : List Value} (h : w.ownsRow B e size (.slice (some ⟨g, 0, none⟩) n c) n xs) : ∃ cs, Blk w g e cs ∧ B ≤ g ∧ cs.size = c * size := by
  rcases h.2 with ⟨h', _⟩ | ⟨g', cap', cur, h', hb, hg, _, _, hs, _⟩
  · simp at h'
  · simp only [Value.slice.injEq, Option.some.injEq, Addr.mk.injEq, and_true, true_and] at h'
    obtain ⟨rfl, rfl⟩ := h'
    exact ⟨cur, hg, hb, hs⟩
/-- the cells of a list of nodes of which one has turned -/
theorem allCells_set {l : List (Nd × Leaf)} {i j : Nat} {p q : Nd × Leaf} {u : Value} (hp : l[i]? = some p) (hj : j < 7) (hq : (ndCells p).set j u = ndCells q) : (allCells l).set (i * 7 + j) u = allCells (l.set i q) := by
  induction l generalizing i with
  | nil => simp at hp
  | cons x l ih =>
    have hx := ndCells_len x
    match i, hp with
    | 0, hp =>
      obtain rfl : x = p := by simpa using hp
      simp only [allCells, List.flatMap_cons, List.set_cons_zero, Nat.zero_mul, Nat.zero_add]
      rw [List.set_append_left _ _ (by omega), hq]
    | i + 1, hp =>
      have := ih (i := i) (by simpa using hp)
      simp only [allCells, List.flatMap_cons, List.set_cons_succ] at this ⊢
      rw [List.set_append_right _ _ (by omega), hx, show (i + 1) * 7 + j - 7 = i * 7 + j from by omega, this]
/-- a cell of a node is stored -/
theorem OwnM.store {n c g i j : Nat} {p q : Nd × Leaf} {u : Value} (h : OwnM w B (.slice (some ⟨g, 0, none⟩) n c) l) (hn : l.length = n) (hp : l[i]? = some p) (hj : j < 7) (hq : (ndCells p).set j u = ndCells q) (hl : OwnLeaf w B q.1 q.2) :
    OwnM (w.setCell ⟨g, i * 7 + j, none⟩ u) B (.slice (some ⟨g, 0, none⟩) n c) (l.set i q) := by
  subst hn
  have h1 : w.ownsRow B 55 7 (.slice (some ⟨g, 0, none⟩) l.length c) l.length (allCells l) := h.own
  obtain ⟨cs, hg, _, _⟩ := own_blk h1
  have h2 := (World.ownsRow.stored h1 (i * 7 + j) u).1
  rw [allCells_set hp hj hq] at h2
  refine ⟨?_, fun x hx => ?_⟩
  · unfold OwnN
    rw [List.length_set]
    exact h2
  · rcases List.mem_or_eq_of_mem_set hx with hx | rfl
    · exact (h.leaf x hx).other hg (by decide) (by decide) (by decide) _ u
    · exact hl.other hg (by decide) (by decide) (by decide) _ u
end
section
variable {P : Program} (w : World)
/-- copy of a whole row into a block of the call's own -/
theorem run_copy_all (dT sT ty elem : TypeId) (i : TypeInfo) (size : Nat) (hu : P.underlying dT = some (.slice elem)) (hi : P.info? elem = some i) (hs : i.size = size)
    (g n c m : Nat) (A : Option Addr) (k : Nat) (cur : Array Value) (t : TypeId) (hg : w.heap[g]? = some (.cells cur t (0, 0))) (hcur : cur.size = n * size)
    (lo hi' : Nat) (news : List Value) (hr : Row w lo hi' size A n k news) (hn : 0 < n) (h1 : ∀ u ∈ news, u.oneCell' = true) :
    (Builtin.copy_ #[dT, sT] ty #[.slice (some ⟨g, 0, none⟩) n c, .slice A n k]).run P w = .ok (goInt n) (w.setRow g news.toArray) := by
  obtain ⟨b, o, rfl, _, _, hc⟩ := hr.2.2.2 hn
  have hl := run_loadCells_list (P := P) w ⟨b, o, none⟩ news (fun j u hj => by rw [Addr.add_lit]; exact hc j u hj)
  have hst := run_storeCells_at P g 0 t news 0 cur w hg (by rw [hr.1, hcur]; omega) h1
  have hd : cur.toList.drop (n * size) = [] := List.drop_eq_nil_of_le (by rw [Array.length_toList, hcur]; exact Nat.le_refl _)
  rw [hr.1] at hl
  simp only [Nat.zero_add, List.take_zero, List.nil_append, hr.1, hd, List.append_nil] at hst
  simp [Builtin.copy_, run_underlying hu, Builtin.lenOf, Builtin.firstCells, sizeOf, typeInfo, hi, hs, hl, hst]
/-- a new block, filled whole -/
theorem own_filled {w X : World} {g n size B : Nat} {e : TypeId} {cur : Array Value} {news : List Value} (hg : X.heap[g]? = some (.cells cur e (0, 0))) (hB : B ≤ g) (hn : n ≤ maxLen) (hs : news.length = n * size) :
    (X.setRow g news.toArray).ownsRow B e size (.slice (some ⟨g, 0, none⟩) n n) n news :=
  ⟨hs, .inr ⟨g, n, news.toArray, rfl, hB, setRow_heap X g cur _ e _ hg, Nat.le_refl _, hn, by simpa using hs, by simp [← hs]⟩⟩
end
end Go.Proofs.YtjjlofaejpnnnaaGreatDoor
namespace Go.Proofs.YtjjlofaejpnnnaaGreatDoor
open Go Go.RowKit Go.Sort
set_option linter.unusedVariables false
/-- blocks, none of them twice -/
def ApB (bs : List (Option Nat)) : Prop := ∀ (i j : Nat) (a b : Option Nat), i ≠ j → bs[i]? = some a → bs[j]? = some b → b = none ∨ b ≠ a
theorem ApB.nil : ApB [] := fun i j a b _ h => by simp at h
theorem ApB.set {bs : List (Option Nat)} {i : Nat} {b b' : Option Nat} (h : ApB bs) (hi : bs[i]? = some b) (hb : b' = b ∨ ∀ x ∈ bs, x = none ∨ x ≠ b') : ApB (bs.set i b') := by
  have hlt : i < bs.length := (List.getElem?_eq_some_iff.1 hi).1
  intro p q x y hpq hp hq
  rw [List.getElem?_set] at hp hq
  by_cases hip : i = p
  · subst hip
    rw [if_neg hpq] at hq
    rw [if_pos rfl, if_pos hlt] at hp
    obtain rfl := Option.some.inj hp
    rcases hb with rfl | hb
    · exact h i q _ y hpq hi hq
    · exact hb y (List.mem_of_getElem? hq)
  · rw [if_neg hip] at hp
    by_cases hiq : i = q
    · subst hiq
      rw [if_pos rfl, if_pos hlt] at hq
      obtain rfl := Option.some.inj hq
      rcases hb with rfl | hb
      · exact h p i x _ hpq hp hi
      · rcases hb x (List.mem_of_getElem? hp) with rfl | hne
        · by_cases hn : b' = none
          · exact .inl hn
          · exact .inr hn
        · exact .inr (Ne.symm hne)
    · rw [if_neg hiq] at hq
      exact h p q x y hpq hp hq
theorem ApB.snoc {bs : List (Option Nat)} (h : ApB bs) : ApB (bs ++ [none]) := by
  have key : ∀ (k : Nat) (x : Option Nat), (bs ++ [none])[k]? = some x → bs[k]? = some x ∨ x = none := by
    intro k x hk
    rcases Nat.lt_or_ge k bs.length with hl | hl
    · rw [List.getElem?_append_left hl] at hk
      exact .inl hk
    · rw [List.getElem?_append_right hl] at hk
      right
      cases hkk : k - bs.length with
      | zero => rw [hkk] at hk; simpa using hk.symm
      | succ m => rw [hkk] at hk; simp at hk
  intro p q x y hpq hp hq
  rcases key q y hq with hq | rfl
  · rcases key p x hp with hp | rfl
    · exact h p q x y hpq hp hq
    · by_cases hn : y = none
      · exact .inl hn
      · exact .inr hn
  · exact .inl rfl
def pB (q : Nd × Leaf) : Option Nat := (Value.slice q.2.p.A q.2.p.n q.2.p.c).ownBlock
def kB (q : Nd × Leaf) : Option Nat := (Value.slice q.2.k.A q.2.k.n q.2.k.c).ownBlock
def rB (q : Nd × Leaf) : Option Nat := (Value.slice q.2.r.A q.2.r.n q.2.r.c).ownBlock
/-- nodes that grow, and a row of numbers -/
structure NP (B : Nat) (v vw : Value) (l : List (Nd × Leaf)) (ws : List Int) (w : World) : Prop where
  own : OwnN w B v l
  leaf : ∀ p ∈ l, OwnLeaf w B p.1 p.2
  way : w.ownsRow B 3 1 vw ws.length (intCells ws)
  ap : ApB (l.map pB)
  ak : ApB (vw.ownBlock :: l.map kB)
  ar : ApB (l.map rB)
  hB : B ≤ w.heap.size
section
variable {B : Nat} {v vw : Value} {l : List (Nd × Leaf)} {ws : List Int} {w w' : World}
theorem NP.nil (w : World) (hB : B ≤ w.heap.size) : NP B (.slice none 0 0) (.slice none 0 0) [] [] w :=
  ⟨World.ownsRow_nil _ _ _ _, by simp, World.ownsRow_nil _ _ _ _, ApB.nil, by
    intro i j a b hij hi hj
    cases i with
    | zero => cases j with
      | zero => exact absurd rfl hij
      | succ j => simp at hj
    | succ i => simp at hi, ApB.nil, hB⟩
theorem NP.after (h : NP B v vw l ws w) (hb : Below w.heap.size w w') : NP B v vw l ws w' :=
  ⟨own_after h.own hb, fun p hp => (h.leaf p hp).after hb, own_after h.way hb, h.ap, h.ak, h.ar, Nat.le_trans h.hB hb.size⟩
theorem NP.alloc (h : NP B v vw l ws w) (o : Obj) : NP B v vw l ws (w.alloc o) := h.after ((Below.refl _ _).alloc (Nat.le_refl _) o)
/-- a block of another type is written -/
theorem NP.other (h : NP B v vw l ws w) {g : Nat} {t : TypeId} {cs : Array Value} (hg : Blk w g t cs) (h0 : 55 ≠ t) (h1 : 60 ≠ t) (h2 : 3 ≠ t) (h3 : 62 ≠ t) (i : Nat) (u : Value) : NP B v vw l ws (w.setCell ⟨g, i, none⟩ u) :=
  ⟨own_other h.own hg h0 i u, fun p hp => (h.leaf p hp).other hg h1 h2 h3 i u, own_other h.way hg h2 i u, h.ap, h.ak, h.ar, by
    have := ((Below.refl 0 w).setCell (p := ⟨g, i, none⟩) (Nat.zero_le _) u).size
    exact Nat.le_trans h.hB this⟩
/-- something grows that is none of these rows -/
theorem own_row_kept {e : TypeId} {s n : Nat} {x : Value} {xs : List Value} {r : Option Nat} (h : w.ownsRow B e s x n xs) (hg : w.grownBy w' r) (hr : ∀ g cs, r = some g → w.heap[g]? ≠ some (.cells cs e (0, 0))) : w'.ownsRow B e s x n xs := by
  refine World.ownsRow.kept h hg ?_
  rcases h.2 with ⟨rfl, _⟩ | ⟨g, cap, cur, rfl, _, hh, _⟩
  · exact .inl rfl
  · right
    intro he
    exact hr g cur (by rw [← he]; rfl) hh
theorem NP.map (h : NP B v vw l ws w) {r : Option Nat} (hg : w.grownBy w' r) (hr : ∀ g cs t, r = some g → w.heap[g]? ≠ some (.cells cs t (0, 0))) : NP B v vw l ws w' :=
  ⟨own_row_kept h.own hg fun g cs e => hr g cs _ e, fun p hp => ⟨(h.leaf p hp).pn, (h.leaf p hp).kn, (h.leaf p hp).rn, own_row_kept (h.leaf p hp).p hg fun g cs e => hr g cs _ e, own_row_kept (h.leaf p hp).k hg fun g cs e => hr g cs _ e, own_row_kept (h.leaf p hp).r hg fun g cs e => hr g cs _ e, (h.leaf p hp).sz⟩,
   own_row_kept h.way hg fun g cs e => hr g cs _ e, h.ap, h.ak, h.ar, Nat.le_trans h.hB hg.size⟩
/-- a new block is none of the old ones -/
theorem fresh_ne {e : TypeId} {s n : Nat} {x : Value} {xs : List Value} (h : w.ownsRow B e s x n xs) : x.ownBlock = none ∨ x.ownBlock ≠ some w.heap.size := by
  cases hx : x.ownBlock with
  | none => exact .inl rfl
  | some k =>
    right
    intro he
    have := (World.ownsRow.lt h k hx).2
    have := Option.some.inj he
    omega
/-- the nodes' row itself has grown: a node more, without lists -/
theorem NP.node (h : NP B v vw l ws w) {v' : Value} {nd : Nd} {L : Leaf} (ho : OwnN w' B v' (l ++ [(nd, L)])) (hg : w.grownBy w' v.ownBlock) (hp : nd.props = []) (hk : nd.kids = []) (hr : nd.refs = []) (hL : L = ⟨⟨none, 0, 0⟩, ⟨none, 0, 0⟩, ⟨none, 0, 0⟩⟩) (hz : SzN nd) : NP B v' vw (l ++ [(nd, L)]) ws w' := by
  subst hL
  refine ⟨ho, fun p hpm => ?_, World.ownsRow.kept h.way hg (own_own_ne h.way h.own (by decide)), ?_, ?_, ?_, Nat.le_trans h.hB hg.size⟩
  · rcases List.mem_append.1 hpm with hpm | hpm
    · exact (h.leaf p hpm).kept h.own hg
    · obtain rfl : p = _ := by simpa using hpm
      exact ⟨by simp [hp], by simp [hk], by simp [hr], by simpa [hp, propCells] using World.ownsRow_nil _ _ _ _, by simpa [hk, intCells] using World.ownsRow_nil _ _ _ _, by simpa [hr, refCells] using World.ownsRow_nil _ _ _ _, hz⟩
  · rw [List.map_append]; exact h.ap.snoc
  · rw [List.map_append]; exact h.ak.snoc
  · rw [List.map_append]; exact h.ar.snoc
theorem getElem?_map_kB {i : Nat} {p : Nd × Leaf} (hp : l[i]? = some p) (x : Option Nat) : (x :: l.map kB)[i + 1]? = some (kB p) := by
  rw [List.getElem?_cons_succ, List.getElem?_map, hp]; rfl
theorem getElem?_map_f {i : Nat} {p : Nd × Leaf} (f : Nd × Leaf → Option Nat) (hp : l[i]? = some p) : (l.map f)[i]? = some (f p) := by
  rw [List.getElem?_map, hp]; rfl
theorem mem_set_cases {i : Nat} {p q x : Nd × Leaf} (hp : l[i]? = some p) (hx : x ∈ l.set i q) : x = q ∨ ∃ j, j ≠ i ∧ l[j]? = some x := by
  obtain ⟨j, hj⟩ := List.getElem?_of_mem hx
  rw [List.getElem?_set] at hj
  by_cases hij : i = j
  · rw [if_pos hij] at hj
    split at hj
    · exact .inl (Option.some.inj hj).symm
    · cases hj
  · rw [if_neg hij] at hj
    exact .inr ⟨j, fun e => hij e.symm, hj⟩
/-- a cell of a node is stored, where all rows but its own new one stand -/
theorem NP.store {X : World} {g n c i j : Nat} {p q : Nd × Leaf} {u : Value} (hl : l.length = n) (hown : OwnN X B (.slice (some ⟨g, 0, none⟩) n c) l) (hoth : ∀ k x, k ≠ i → l[k]? = some x → OwnLeaf X B x.1 x.2) (hq : OwnLeaf X B q.1 q.2) (hway : X.ownsRow B 3 1 vw ws.length (intCells ws))
    (hp : l[i]? = some p) (hj : j < 7) (hc : (ndCells p).set j u = ndCells q) (h1 : ApB ((l.set i q).map pB)) (h2 : ApB (vw.ownBlock :: (l.set i q).map kB)) (h3 : ApB ((l.set i q).map rB)) (hBs : B ≤ X.heap.size) :
    NP B (.slice (some ⟨g, 0, none⟩) n c) vw (l.set i q) ws (X.setCell ⟨g, i * 7 + j, none⟩ u) := by
  subst hl
  have ho : X.ownsRow B 55 7 (.slice (some ⟨g, 0, none⟩) l.length c) l.length (allCells l) := hown
  obtain ⟨cs, hgB, _, _⟩ := own_blk ho
  have hs := (World.ownsRow.stored ho (i * 7 + j) u).1
  rw [allCells_set hp hj hc] at hs
  refine ⟨?_, fun x hx => ?_, own_other hway hgB (by decide) _ u, h1, h2, h3, ?_⟩
  · unfold OwnN
    rw [List.length_set]
    exact hs
  · rcases mem_set_cases hp hx with rfl | ⟨k, hk, hkx⟩
    · exact hq.other hgB (by decide) (by decide) (by decide) _ u
    · exact (hoth k x hk hkx).other hgB (by decide) (by decide) (by decide) _ u
  · have := ((Below.refl 0 X).setCell (p := ⟨g, i * 7 + j, none⟩) (Nat.zero_le _) u).size
    exact Nat.le_trans hBs this
/-- a kid more below the node at place i -/
theorem NP.kid {n c g i : Nat} {nd : Nd} {P K R : Sl} {Ak : Option Addr} {ck : Nat} {y : Int} (h : NP B (.slice (some ⟨g, 0, none⟩) n c) vw l ws w) (hl : l.length = n) (hi : l[i]? = some (nd, ⟨P, K, R⟩))
    (ho : w'.ownsRow B 3 1 (.slice Ak (K.n + 1) ck) (K.n + 1) (intCells nd.kids ++ [.int .i64 y])) (hg : w.grownBy w' (Value.slice K.A K.n K.c).ownBlock) (hnew : (Value.slice Ak (K.n + 1) ck).ownBlock = (Value.slice K.A K.n K.c).ownBlock ∨ (Value.slice Ak (K.n + 1) ck).ownBlock = some w.heap.size) :
    NP B (.slice (some ⟨g, 0, none⟩) n c) vw (l.set i ({ nd with kids := nd.kids ++ [y] }, ⟨P, ⟨Ak, K.n + 1, ck⟩, R⟩)) ws (w'.setCell ⟨g, i * 7 + 5, none⟩ (.slice Ak (K.n + 1) ck)) := by
  have hp := h.leaf _ (List.mem_of_getElem? hi)
  have hkr : w.ownsRow B 3 1 (.slice K.A K.n K.c) K.n (intCells nd.kids) := hp.k
  refine NP.store hl (World.ownsRow.kept h.own hg (own_own_ne h.own hkr (by decide))) (fun k x hk hx => ?_) ⟨hp.pn, ?_, hp.rn, World.ownsRow.kept hp.p hg (own_own_ne hp.p hkr (by decide)), ?_, World.ownsRow.kept hp.r hg (own_own_ne hp.r hkr (by decide)), ⟨hp.sz.con, hp.sz.role, hp.sz.props, hp.sz.refs⟩⟩
    (World.ownsRow.kept h.way hg ?_) hi (by omega) rfl ?_ ?_ ?_ (Nat.le_trans h.hB hg.size)
  · have hx2 := h.leaf _ (List.mem_of_getElem? hx)
    refine ⟨hx2.pn, hx2.kn, hx2.rn, World.ownsRow.kept hx2.p hg (own_own_ne hx2.p hkr (by decide)), World.ownsRow.kept hx2.k hg ?_, World.ownsRow.kept hx2.r hg (own_own_ne hx2.r hkr (by decide)), hx2.sz⟩
    exact h.ak (i + 1) (k + 1) _ _ (by omega) (getElem?_map_kB hi _) (getElem?_map_kB hx _)
  · have := hp.kn
    simp only [List.length_append, List.length_singleton] at this ⊢
    omega
  · simpa [intCells] using ho
  · exact h.ak (i + 1) 0 _ _ (by omega) (getElem?_map_kB hi _) rfl
  · rw [List.map_set]
    have e : pB ({ nd with kids := nd.kids ++ [y] }, ⟨P, ⟨Ak, K.n + 1, ck⟩, R⟩) = pB (nd, ⟨P, K, R⟩) := rfl
    rw [e]
    exact h.ap.set (getElem?_map_f pB hi) (.inl rfl)
  · have e : (vw.ownBlock :: (l.set i ({ nd with kids := nd.kids ++ [y] }, ⟨P, ⟨Ak, K.n + 1, ck⟩, R⟩)).map kB) = (vw.ownBlock :: l.map kB).set (i + 1) (Value.slice Ak (K.n + 1) ck).ownBlock := by
      rw [List.set_cons_succ, List.map_set]; rfl
    rw [e]
    refine h.ak.set (getElem?_map_kB hi _) ?_
    rcases hnew with hn | hn
    · exact .inl hn
    · right
      intro x hx
      rw [hn]
      rcases List.mem_cons.1 hx with rfl | hx
      · exact fresh_ne h.way
      · obtain ⟨q, hq, rfl⟩ := List.mem_map.1 hx
        exact fresh_ne (h.leaf q hq).k
  · rw [List.map_set]
    have e : rB ({ nd with kids := nd.kids ++ [y] }, ⟨P, ⟨Ak, K.n + 1, ck⟩, R⟩) = rB (nd, ⟨P, K, R⟩) := rfl
    rw [e]
    exact h.ar.set (getElem?_map_f rB hi) (.inl rfl)
/-- a property more of the node at place i -/
theorem NP.prop {n c g i : Nat} {nd : Nd} {P K R : Sl} {Ap : Option Addr} {cp : Nat} {y : ByteArray × ByteArray} (h : NP B (.slice (some ⟨g, 0, none⟩) n c) vw l ws w) (hl : l.length = n) (hi : l[i]? = some (nd, ⟨P, K, R⟩)) (hy : y.1.size ≤ maxLen ∧ y.2.size ≤ maxLen)
    (ho : w'.ownsRow B 60 2 (.slice Ap (P.n + 1) cp) (P.n + 1) (propCells nd.props ++ [.string y.1, .string y.2])) (hg : w.grownBy w' (Value.slice P.A P.n P.c).ownBlock) (hnew : (Value.slice Ap (P.n + 1) cp).ownBlock = (Value.slice P.A P.n P.c).ownBlock ∨ (Value.slice Ap (P.n + 1) cp).ownBlock = some w.heap.size) :
    NP B (.slice (some ⟨g, 0, none⟩) n c) vw (l.set i ({ nd with props := nd.props ++ [y] }, ⟨⟨Ap, P.n + 1, cp⟩, K, R⟩)) ws (w'.setCell ⟨g, i * 7 + 4, none⟩ (.slice Ap (P.n + 1) cp)) := by
  have hp := h.leaf _ (List.mem_of_getElem? hi)
  have hkr : w.ownsRow B 60 2 (.slice P.A P.n P.c) P.n (propCells nd.props) := hp.p
  refine NP.store hl (World.ownsRow.kept h.own hg (own_own_ne h.own hkr (by decide))) (fun k x hk hx => ?_) ⟨?_, hp.kn, hp.rn, ?_, World.ownsRow.kept hp.k hg (own_own_ne hp.k hkr (by decide)), World.ownsRow.kept hp.r hg (own_own_ne hp.r hkr (by decide)), ⟨hp.sz.con, hp.sz.role, fun x hx => ?_, hp.sz.refs⟩⟩
    (World.ownsRow.kept h.way hg (own_own_ne h.way hkr (by decide))) hi (by omega) rfl ?_ ?_ ?_ (Nat.le_trans h.hB hg.size)
  · have hx2 := h.leaf _ (List.mem_of_getElem? hx)
    refine ⟨hx2.pn, hx2.kn, hx2.rn, World.ownsRow.kept hx2.p hg ?_, World.ownsRow.kept hx2.k hg (own_own_ne hx2.k hkr (by decide)), World.ownsRow.kept hx2.r hg (own_own_ne hx2.r hkr (by decide)), hx2.sz⟩
    exact h.ap i k _ _ (by omega) (getElem?_map_f pB hi) (getElem?_map_f pB hx)
  · have := hp.pn
    simp only [List.length_append, List.length_singleton] at this ⊢
    omega
  · simpa [propCells] using ho
  · rcases List.mem_append.1 hx with hx | hx
    · exact hp.sz.props x hx
    · obtain rfl : x = y := by simpa using hx
      exact hy
  · rw [List.map_set]
    refine h.ap.set (getElem?_map_f pB hi) ?_
    rcases hnew with hn | hn
    · exact .inl hn
    · right
      intro x hx
      obtain ⟨q, hq, rfl⟩ := List.mem_map.1 hx
      have := fresh_ne (h.leaf q hq).p
      rw [← hn] at this
      exact this
  · have e : (l.set i ({ nd with props := nd.props ++ [y] }, ⟨⟨Ap, P.n + 1, cp⟩, K, R⟩)).map kB = l.map kB := by
      rw [List.map_set]
      have e : kB ({ nd with props := nd.props ++ [y] }, ⟨⟨Ap, P.n + 1, cp⟩, K, R⟩) = kB (nd, ⟨P, K, R⟩) := rfl
      rw [e]
      obtain ⟨hlt, he⟩ := List.getElem?_eq_some_iff.1 (getElem?_map_f kB hi)
      rw [← he]
      exact List.set_getElem_self hlt
    rw [e]
    exact h.ak
  · rw [List.map_set]
    have e : rB ({ nd with props := nd.props ++ [y] }, ⟨⟨Ap, P.n + 1, cp⟩, K, R⟩) = rB (nd, ⟨P, K, R⟩) := rfl
    rw [e]
    exact h.ar.set (getElem?_map_f rB hi) (.inl rfl)
/-- a reference more of the node at place i -/
theorem NP.ref {n c g i : Nat} {nd : Nd} {P K R : Sl} {Ar : Option Addr} {cr : Nat} {y : ByteArray × Int} (h : NP B (.slice (some ⟨g, 0, none⟩) n c) vw l ws w) (hl : l.length = n) (hi : l[i]? = some (nd, ⟨P, K, R⟩)) (hy : y.1.size ≤ maxLen)
    (ho : w'.ownsRow B 62 2 (.slice Ar (R.n + 1) cr) (R.n + 1) (refCells nd.refs ++ [.string y.1, .int .i64 y.2])) (hg : w.grownBy w' (Value.slice R.A R.n R.c).ownBlock) (hnew : (Value.slice Ar (R.n + 1) cr).ownBlock = (Value.slice R.A R.n R.c).ownBlock ∨ (Value.slice Ar (R.n + 1) cr).ownBlock = some w.heap.size) :
    NP B (.slice (some ⟨g, 0, none⟩) n c) vw (l.set i ({ nd with refs := nd.refs ++ [y] }, ⟨P, K, ⟨Ar, R.n + 1, cr⟩⟩)) ws (w'.setCell ⟨g, i * 7 + 6, none⟩ (.slice Ar (R.n + 1) cr)) := by
  have hp := h.leaf _ (List.mem_of_getElem? hi)
  have hkr : w.ownsRow B 62 2 (.slice R.A R.n R.c) R.n (refCells nd.refs) := hp.r
  refine NP.store hl (World.ownsRow.kept h.own hg (own_own_ne h.own hkr (by decide))) (fun k x hk hx => ?_) ⟨hp.pn, hp.kn, ?_, World.ownsRow.kept hp.p hg (own_own_ne hp.p hkr (by decide)), World.ownsRow.kept hp.k hg (own_own_ne hp.k hkr (by decide)), ?_, ⟨hp.sz.con, hp.sz.role, hp.sz.props, fun x hx => ?_⟩⟩
    (World.ownsRow.kept h.way hg (own_own_ne h.way hkr (by decide))) hi (by omega) rfl ?_ ?_ ?_ (Nat.le_trans h.hB hg.size)
  · have hx2 := h.leaf _ (List.mem_of_getElem? hx)
    refine ⟨hx2.pn, hx2.kn, hx2.rn, World.ownsRow.kept hx2.p hg (own_own_ne hx2.p hkr (by decide)), World.ownsRow.kept hx2.k hg (own_own_ne hx2.k hkr (by decide)), World.ownsRow.kept hx2.r hg ?_, hx2.sz⟩
    exact h.ar i k _ _ (by omega) (getElem?_map_f rB hi) (getElem?_map_f rB hx)
  · have := hp.rn
    simp only [List.length_append, List.length_singleton] at this ⊢
    omega
  · simpa [refCells] using ho
  · rcases List.mem_append.1 hx with hx | hx
    · exact hp.sz.refs x hx
    · obtain rfl : x = y := by simpa using hx
      exact hy
  · rw [List.map_set]
    have e : pB ({ nd with refs := nd.refs ++ [y] }, ⟨P, K, ⟨Ar, R.n + 1, cr⟩⟩) = pB (nd, ⟨P, K, R⟩) := rfl
    rw [e]
    exact h.ap.set (getElem?_map_f pB hi) (.inl rfl)
  · have e : (l.set i ({ nd with refs := nd.refs ++ [y] }, ⟨P, K, ⟨Ar, R.n + 1, cr⟩⟩)).map kB = l.map kB := by
      rw [List.map_set]
      have e : kB ({ nd with refs := nd.refs ++ [y] }, ⟨P, K, ⟨Ar, R.n + 1, cr⟩⟩) = kB (nd, ⟨P, K, R⟩) := rfl
      rw [e]
      obtain ⟨hlt, he⟩ := List.getElem?_eq_some_iff.1 (getElem?_map_f kB hi)
      rw [← he]
      exact List.set_getElem_self hlt
    rw [e]
    exact h.ak
  · rw [List.map_set]
    refine h.ar.set (getElem?_map_f rB hi) ?_
    rcases hnew with hn | hn
    · exact .inl hn
    · right
      intro x hx
      obtain ⟨q, hq, rfl⟩ := List.mem_map.1 hx
      have := fresh_ne (h.leaf q hq).r
      rw [← hn] at this
      exact this
/-- the row of numbers: cut, and a number more -/
theorem NP.wayA {vw' : Value} {ws' : List Int} (h : NP B v vw l ws w) (ho : w'.ownsRow B 3 1 vw' ws'.length (intCells ws')) (hg : w.grownBy w' vw.ownBlock) (hnew : vw'.ownBlock = vw.ownBlock ∨ vw'.ownBlock = some w.heap.size) : NP B v vw' l ws' w' := by
  refine ⟨World.ownsRow.kept h.own hg (own_own_ne h.own h.way (by decide)), fun p hp => ?_, ho, h.ap, ?_, h.ar, Nat.le_trans h.hB hg.size⟩
  · have hx := h.leaf p hp
    refine ⟨hx.pn, hx.kn, hx.rn, World.ownsRow.kept hx.p hg (own_own_ne hx.p h.way (by decide)), World.ownsRow.kept hx.k hg ?_, World.ownsRow.kept hx.r hg (own_own_ne hx.r h.way (by decide)), hx.sz⟩
    obtain ⟨i, hi⟩ := List.getElem?_of_mem hp
    exact h.ak 0 (i + 1) _ _ (by omega) rfl (getElem?_map_kB hi _)
  · have e : (vw'.ownBlock :: l.map kB) = (vw.ownBlock :: l.map kB).set 0 vw'.ownBlock := rfl
    rw [e]
    refine h.ak.set (i := 0) rfl ?_
    rcases hnew with hn | hn
    · exact .inl hn
    · right
      intro x hx
      rw [hn]
      rcases List.mem_cons.1 hx with rfl | hx
      · exact fresh_ne h.way
      · obtain ⟨q, hq, rfl⟩ := List.mem_map.1 hx
        exact fresh_ne (h.leaf q hq).k
end
/-- what is left of a row of numbers when its end is cut off -/
theorem own_cut1 {w : World} {B n c k : Nat} {A : Option Addr} {ws : List Int} (h : w.ownsRow B 3 1 (.slice A n c) n (intCells ws)) (hk : k ≤ n) : w.ownsRow B 3 1 (.slice A k c) k (intCells (ws.take k)) := by
  by_cases hA : A = none
  · subst hA
    rcases h.2 with ⟨hv, hn⟩ | ⟨g, cap, cur, hv, _⟩
    · injection hv with _ _ hc
      subst hn hc
      obtain rfl : k = 0 := by omega
      rw [List.take_zero]
      exact World.ownsRow_nil _ _ _ _
    · injection hv with hv; cases hv
  · have := own_take h hk hA
    rw [Nat.mul_one] at this
    unfold intCells at this ⊢
    rw [List.map_take]
    exact this
end Go.Proofs.YtjjlofaejpnnnaaGreatDoor
namespace Go.Proofs.YtjjlofaejpnnnaaGreatDoor
open Go Go.RowKit Go.Sort
open Go.Maps (Keyed)
set_option linter.unusedVariables false
theorem intK : Keyed Tryz.prog 3 := Maps.int_keyed Tryz.underlying3
theorem wf64 {n : Int} (h : -9223372036854775808 ≤ n ∧ n ≤ 9223372036854775807) : (Lit.int .i64 n).wf = true := by
  have h1 : IntKind.i64.min = -9223372036854775808 := by decide
  have h2 : IntKind.i64.max = 9223372036854775807 := by decide
  simp only [Lit.wf, Bool.and_eq_true, decide_eq_true_eq, h1, h2]
  exact h
theorem intKey {n : Int} (h : -9223372036854775808 ≤ n ∧ n ≤ 9223372036854775807) : keyOf Tryz.prog 3 (.int .i64 n) = some (.int .i64 n) := Maps.keyOf_int_mk Tryz.underlying3 (wf64 h)
theorem unitZ (w : World) : (zeroValue 148).run Tryz.prog w = .ok (.agg #[]) w := by kernel_rfl
/-- block b is a set that holds just these numbers -/
structure SeenIs (w : World) (b m : Nat) (ids : List Int) : Prop where
  out : ∃ D : DataW Unit, w.ownsMap Tryz.prog 3 unitElem b m D ∧ ∀ n : Int, Maps.has D (.int .i64 n) = ids.contains n
section
variable {w w' : World} {b m : Nat} {ids : List Int}
theorem SeenIs.made (w : World) : SeenIs (w.alloc (.map #[] 0)) w.heap.size 0 [] := ⟨_, World.ownsMap_made _ _ _ _, fun n => rfl⟩
theorem SeenIs.same (h : SeenIs w b m ids) (hb : w'.heap[b]? = w.heap[b]?) : SeenIs w' b m ids := by
  obtain ⟨D, ⟨es, clock, h1, h3⟩, h2⟩ := h.out
  exact ⟨D, ⟨es, clock, hb.trans h1, h3⟩, h2⟩
theorem SeenIs.lt (h : SeenIs w b m ids) : b < w.heap.size := by
  obtain ⟨D, h1, h2⟩ := h.out
  exact h1.lt
theorem SeenIs.after (h : SeenIs w b m ids) (hb : Below w.heap.size w w') : SeenIs w' b m ids := h.same (hb.block _ h.lt)
theorem SeenIs.mono {m' : Nat} (h : SeenIs w b m ids) (hm : m ≤ m') : SeenIs w b m' ids := by
  obtain ⟨D, h1, h2⟩ := h.out
  exact ⟨D, h1.mono hm, h2⟩
theorem SeenIs.not_cells (h : SeenIs w b m ids) : ∀ (cs : Array Value) (t : TypeId) (fr : Nat × Nat), w.heap[b]? ≠ some (.cells cs t fr) := by
  obtain ⟨D, ⟨es, clock, h1, h3⟩, h2⟩ := h.out
  intro cs t fr he
  rw [h1] at he
  cases he
theorem SeenIs.own_ne (h : SeenIs w b m ids) {B s n : Nat} {e : TypeId} {v : Value} {xs : List Value} (ho : w.ownsRow B e s v n xs) : some b ≠ v.ownBlock := by
  rcases ho.2 with ⟨rfl, _⟩ | ⟨g, cap, cur, rfl, _, hh, _⟩
  · simp [Value.ownBlock]
  · intro he
    have : b = g := by simpa [Value.ownBlock] using he
    subst this
    exact h.not_cells _ _ _ hh
theorem SeenIs.grown (h : SeenIs w b m ids) {B s n : Nat} {e : TypeId} {v : Value} {xs : List Value} (ho : w.ownsRow B e s v n xs) (hg : w.grownBy w' v.ownBlock) : SeenIs w' b m ids :=
  h.same (hg.block b h.lt (h.own_ne ho))
theorem SeenIs.set (h : SeenIs w b m ids) {p : Addr} (hp : b ≠ p.block) (u : Value) : SeenIs (w.setCell p u) b m ids := h.same (Below.heap_setCell w p u b hp)
theorem SeenIs.blk_ne (h : SeenIs w b m ids) {g : Nat} {t : TypeId} {cs : Array Value} (hg : Blk w g t cs) : b ≠ g := by
  rintro rfl
  exact h.not_cells _ _ _ hg
/-- is a number told? -/
theorem SeenIs.look (h : SeenIs w b m ids) {n : Int} (hn : -9223372036854775808 ≤ n ∧ n ≤ 9223372036854775807) : (Instr.lookup 43 (.map (some b)) (.int .i64 n) true).run Tryz.prog w = .ok (.tuple #[.agg #[], .bool (ids.contains n)]) w := by
  obtain ⟨D, h1, h2⟩ := h.out
  obtain ⟨v, ps, hr, hv⟩ := h1.look_ok intK Tryz.underlying43 (unitZ w) unitElem_mk (intKey hn)
  obtain ⟨rfl, _⟩ := unitElem_inv hv
  rw [hr, h2]
/-- a number is told -/
theorem SeenIs.put (h : SeenIs w b m ids) {n : Int} (hn : -9223372036854775808 ≤ n ∧ n ≤ 9223372036854775807) (hm : m ≤ 1000000000) : ∃ w', (Instr.mapUpdate 43 (.map (some b)) (.int .i64 n) (.agg #[])).run Tryz.prog w = .ok () w' ∧ SeenIs w' b (m + 1) (ids ++ [n]) ∧ w.grownBy w' (some b) := by
  obtain ⟨D, h1, h2⟩ := h.out
  obtain ⟨w', hr, ho, hg⟩ := h1.update intK Tryz.underlying43 (by unfold maxLen; omega) (intKey hn) unitElem_mk
  refine ⟨w', hr, ⟨_, ho, fun k => ?_⟩, hg⟩
  by_cases hk : k = n
  · subst hk
    rw [Maps.has_put_same h1.isMap (intK.key (intKey hn))]
    simp
  · rw [Maps.has_put_other (by intro hc; injection hc with _ hc; exact hk hc), h2]
    simp [hk]
end
/-- the last root's number; 0: there is none -/
def rootI (deep : List Nat) (ids : List Int) : Int := match lastIx deep 1 with
  | some i => (ids[i]?).getD 0
  | none => 0
def rootV (st : RS) : Int := rootI st.deep (st.nds.map (·.id))
def wayI (deep : List Nat) : List Int := (wayV deep).map Int.ofNat
theorem wayI_len (deep : List Nat) : (wayI deep).length = deep.getLastD 0 := by unfold wayI; rw [List.length_map, wayV_len]
/-- a reader in memory -/
structure RIn (B gr gm k : Nat) (v vw : Value) (l : List (Nd × Leaf)) (st : RS) (w : World) : Prop where
  box : Blk w gr 45 #[.int .i64 st.next, v, .map (some gm), .int .i64 (rootV st), vw]
  np : NP B v vw l (wayI st.deep) w
  set : SeenIs w gm k (st.nds.map (·.id))
  nds : l.map (·.1) = st.nds
  ok : st.next ≠ 0 → RsOk st
  zr : st.next = 0 → st.nds = [] ∧ st.deep = []
  ln : ∀ nd ∈ st.nds, nd.props.length ≤ k ∧ nd.kids.length ≤ k ∧ nd.refs.length ≤ k
  lr : gr < B
  lm : gm < B
  k1 : k ≤ 4194304
section
variable {B gr gm k : Nat} {v vw : Value} {l : List (Nd × Leaf)} {st : RS} {w w' : World}
theorem RIn.after (h : RIn B gr gm k v vw l st w) (hb : Below w.heap.size w w') : RIn B gr gm k v vw l st w' :=
  ⟨h.box.after hb, h.np.after hb, h.set.after hb, h.nds, h.ok, h.zr, h.ln, h.lr, h.lm, h.k1⟩
theorem RIn.more (h : RIn B gr gm k v vw l st w) (hk : k + 1 ≤ 4194304) : RIn B gr gm (k + 1) v vw l st w :=
  ⟨h.box, h.np, h.set.mono (by omega), h.nds, h.ok, h.zr, fun nd hnd => by have := h.ln nd hnd; omega, h.lr, h.lm, hk⟩
theorem RIn.len (h : RIn B gr gm k v vw l st w) : l.length = st.nds.length := by rw [← h.nds, List.length_map]
theorem RIn.v_form (h : RIn B gr gm k v vw l st w) : ∃ A c, v = .slice A st.nds.length c ∧ st.nds.length ≤ c ∧ c ≤ maxLen := by
  have := h.np.own
  unfold OwnN at this
  rw [h.len] at this
  rcases this.2 with ⟨rfl, h0⟩ | ⟨g, cap, cur, rfl, hb, hg, h1, h2, _⟩
  · exact ⟨none, 0, by rw [h0], by omega, by unfold maxLen; omega⟩
  · exact ⟨_, _, rfl, h1, h2⟩
theorem RIn.w_form (h : RIn B gr gm k v vw l st w) : ∃ A c, vw = .slice A (st.deep.getLastD 0) c ∧ st.deep.getLastD 0 ≤ c ∧ c ≤ maxLen := by
  have := h.np.way
  rw [wayI_len] at this
  rcases this.2 with ⟨rfl, h0⟩ | ⟨g, cap, cur, rfl, hb, hg, h1, h2, _⟩
  · exact ⟨none, 0, by rw [h0], by omega, by unfold maxLen; omega⟩
  · exact ⟨_, _, rfl, h1, h2⟩
theorem RIn.at_ (h : RIn B gr gm k v vw l st w) {i : Nat} {nd : Nd} (hi : st.nds[i]? = some nd) : ∃ L, l[i]? = some (nd, L) := by
  rw [← h.nds, List.getElem?_map] at hi
  obtain ⟨⟨nd', L⟩, hq, rfl⟩ := Option.map_eq_some_iff.1 hi
  exact ⟨L, hq⟩
end
/-- the cells of the node at place i -/
theorem NP.cells {B n c g i : Nat} {vw : Value} {l : List (Nd × Leaf)} {ws : List Int} {w : World} {nd : Nd} {L : Leaf} (h : NP B (.slice (some ⟨g, 0, none⟩) n c) vw l ws w) (hl : l.length = n) (hi : l[i]? = some (nd, L)) : NodeAt w g (i * 7) nd L := by
  subst hl
  have ho : w.ownsRow B 55 7 (.slice (some ⟨g, 0, none⟩) l.length c) l.length (allCells l) := h.own
  have hlt : i < l.length := (List.getElem?_eq_some_iff.1 hi).1
  have key : ∀ j u, j < 7 → (ndCells (nd, L))[j]? = some u → w.cell? ⟨g, i * 7 + j, none⟩ = some u := by
    intro j u hj hu
    rw [World.ownsRow.cellAt ho (i * 7 + j) (by omega)]
    unfold allCells
    rw [flatN_get ndCells_len l i _ hi j hj]
    exact hu
  exact ⟨key 0 _ (by omega) rfl, key 1 _ (by omega) rfl, key 2 _ (by omega) rfl, key 3 _ (by omega) rfl, key 4 _ (by omega) rfl, key 5 _ (by omega) rfl, key 6 _ (by omega) rfl⟩
theorem NP.frozen {B n c g : Nat} {vw : Value} {l : List (Nd × Leaf)} {ws : List Int} {w : World} (h : NP B (.slice (some ⟨g, 0, none⟩) n c) vw l ws w) (hl : l.length = n) (j : Nat) : w.frozen? ⟨g, j, none⟩ = false := by
  subst hl
  have ho : w.ownsRow B 55 7 (.slice (some ⟨g, 0, none⟩) l.length c) l.length (allCells l) := h.own
  exact World.ownsRow.frozenAt ho j
/-- where a row is that isn't empty -/
theorem own_addrB {w : World} {B n c s : Nat} {e : TypeId} {A : Option Addr} {xs : List Value} (h : w.ownsRow B e s (.slice A n c) n xs) (hn : 0 < n) : ∃ g, A = some ⟨g, 0, none⟩ ∧ B ≤ g := by
  rcases h.2 with ⟨hv, h0⟩ | ⟨g, cap, cur, hv, hb, _⟩
  · omega
  · injection hv with h1
    exact ⟨g, h1, hb⟩
end Go.Proofs.YtjjlofaejpnnnaaGreatDoor
namespace Go.Proofs.YtjjlofaejpnnnaaGreatDoor
open Go Go.RowKit
set_option linter.unusedVariables false
def idsOf (st : RS) : List Int := st.nds.map (·.id)
/-- a node more stands -/
def stoodV (st : RS) (n : Nd) (d : Nat) : RS :=
  if d = 0 then ⟨st.next, st.nds ++ [n], st.deep ++ [1]⟩
  else match upV st d with
    | some u => ⟨st.next, st.nds.set u.1 { u.2 with kids := u.2.kids ++ [n.id] } ++ [{ n with par := u.2.id }], st.deep ++ [d + 1]⟩
    | none => st
/-- it may not -/
def noStand (st : RS) (id : Int) (d : Nat) : Prop := 4096 ≤ st.nds.length ∨ 64 ≤ d ∨ st.deep.getLastD 0 < d ∨ id ∈ idsOf st ∨ (d = 0 ∧ id ≤ rootV st)
instance (st : RS) (id : Int) (d : Nat) : Decidable (noStand st id d) := by unfold noStand; exact inferInstance
theorem up_some {st : RS} (hl : st.deep.length = st.nds.length) {d i : Nat} (h : lastIx st.deep d = some i) : ∃ nd, st.nds[i]? = some nd ∧ upV st d = some (i, nd) := by
  have hi := (lastIx_some h).1
  have hg : st.nds[i]? = some (st.nds[i]'(by omega)) := List.getElem?_eq_getElem _
  refine ⟨_, hg, ?_⟩
  rw [upV_is hl, h, Option.bind_some, hg]
  rfl
theorem up_none {st : RS} (hl : st.deep.length = st.nds.length) {d : Nat} (h : lastIx st.deep d = none) : upV st d = none := by
  rw [upV_is hl, h]
  rfl
theorem any_ids (st : RS) (id : Int) : st.nds.any (·.id == id) = true ↔ id ∈ idsOf st := by
  unfold idsOf
  rw [List.any_eq_true, List.mem_map]
  constructor
  · rintro ⟨x, hx, he⟩; exact ⟨x, hx, by simpa using he⟩
  · rintro ⟨x, hx, he⟩; exact ⟨x, hx, by simpa using he⟩
theorem standsV_is {st : RS} (hl : st.deep.length = st.nds.length) (hk : DeepOk st.deep) (n : Nd) (d : Nat) : standsV st n d = if noStand st n.id d then none else some (stoodV st n d) := by
  unfold standsV
  by_cases h1 : 4096 ≤ st.nds.length ∨ 64 ≤ d ∨ (0 < d ∧ st.deep.getLastD 0 < d) ∨ st.nds.any (·.id == n.id) = true
  · rw [if_pos h1, if_pos]
    unfold noStand
    rcases h1 with h | h | h | h
    · exact .inl h
    · exact .inr (.inl h)
    · exact .inr (.inr (.inl h.2))
    · exact .inr (.inr (.inr (.inl ((any_ids st n.id).1 h))))
  · rw [if_neg h1]
    have h2 : n.id ∉ idsOf st := fun h => h1 (.inr (.inr (.inr ((any_ids st n.id).2 h))))
    by_cases hd : d = 0
    · subst hd
      rw [if_pos rfl]
      unfold stoodV
      rw [if_pos rfl]
      have hno : noStand st n.id 0 ↔ n.id ≤ rootV st := by
        unfold noStand
        constructor
        · rintro (h | h | h | h | h)
          · omega
          · omega
          · omega
          · exact absurd h h2
          · exact h.2
        · intro h; exact .inr (.inr (.inr (.inr ⟨rfl, h⟩)))
      cases hu : lastIx st.deep 1 with
      | none =>
        have hr : rootV st = 0 := by unfold rootV rootI; rw [hu]
        rw [up_none hl hu]
        simp only
        rw [hr] at hno
        by_cases h0 : n.id ≤ 0
        · rw [if_pos h0, if_pos (hno.2 h0)]
        · rw [if_neg h0, if_neg (fun h => h0 (hno.1 h))]
      | some i =>
        obtain ⟨nd, hnd, hup⟩ := up_some hl hu
        have hr : rootV st = nd.id := by
          unfold rootV rootI
          rw [hu]
          simp only
          rw [List.getElem?_map, hnd]; rfl
        rw [hup]
        simp only
        rw [hr] at hno
        by_cases h0 : n.id ≤ nd.id
        · rw [if_pos h0, if_pos (hno.2 h0)]
        · rw [if_neg h0, if_neg (fun h => h0 (hno.1 h))]
    · rw [if_neg hd]
      have hlast : d ≤ st.deep.getLastD 0 := by omega
      obtain ⟨i, hi⟩ := hk.way d (by omega) hlast
      obtain ⟨nd, hnd, hup⟩ := up_some hl hi
      have hno : ¬ noStand st n.id d := by
        unfold noStand
        rintro (h | h | h | h | h)
        · omega
        · omega
        · omega
        · exact h2 h
        · exact hd h.1
      rw [if_neg hno]
      unfold stoodV
      rw [if_neg hd, hup]
/-- what a node more turns -/
structure StoodAt (st : RS) (n : Nd) (d i : Nat) (nd : Nd) (st' : RS) : Prop where
  up : lastIx st.deep d = some i
  at_ : st.nds[i]? = some nd
  is : st' = ⟨st.next, st.nds.set i { nd with kids := nd.kids ++ [n.id] } ++ [{ n with par := nd.id }], st.deep ++ [d + 1]⟩
  way : (wayI st.deep)[d - 1]? = some (i : Int)
theorem stood_at {st : RS} (hl : st.deep.length = st.nds.length) (hk : DeepOk st.deep) (n : Nd) {d : Nat} (h0 : 0 < d) (hd : d ≤ st.deep.getLastD 0) : ∃ i nd, StoodAt st n d i nd (stoodV st n d) := by
  obtain ⟨i, hi⟩ := hk.way d (by omega) hd
  obtain ⟨nd, hnd, hup⟩ := up_some hl hi
  refine ⟨i, nd, hi, hnd, ?_, ?_⟩
  · unfold stoodV
    rw [if_neg (by omega), hup]
  · unfold wayI
    rw [List.getElem?_map, wayV_at h0 hd, hi]
    rfl
theorem wayI_snoc {deep : List Nat} {d : Nat} (h : d ≤ deep.getLastD 0) : wayI (deep ++ [d + 1]) = (wayI deep).take d ++ [(deep.length : Int)] := by
  unfold wayI
  rw [wayV_snoc h, List.map_append, List.map_take]
  rfl
theorem rootI_new (deep : List Nat) (ids : List Int) (x : Int) (h : deep.length = ids.length) : rootI (deep ++ [1]) (ids ++ [x]) = x := by
  unfold rootI
  rw [lastIx_snoc_eq, h]
  simp
theorem rootI_old (deep : List Nat) (ids : List Int) (x : Int) {d : Nat} (hd : 0 < d) (h : deep.length = ids.length) : rootI (deep ++ [d + 1]) (ids ++ [x]) = rootI deep ids := by
  unfold rootI
  rw [lastIx_snoc_ne deep (by omega)]
  cases hu : lastIx deep 1 with
  | none => rfl
  | some i =>
    have := (lastIx_some hu).1
    simp only
    rw [List.getElem?_append_left (by omega)]
theorem ids_stood {st : RS} {n : Nd} {d i : Nat} {nd : Nd} {st' : RS} (h : StoodAt st n d i nd st') : idsOf st' = idsOf st ++ [n.id] := by
  rw [h.is]
  unfold idsOf
  rw [List.map_append, set_ids (nd' := { nd with kids := nd.kids ++ [n.id] }) h.at_ rfl]
  rfl
theorem rootV_last {st : RS} {nd nd' : Nd} (h : st.nds.getLast? = some nd) (hi : nd'.id = nd.id) : rootV (lastV st nd') = rootV st := by
  unfold rootV
  rw [lastV_ids h hi]
  rfl
theorem lastV_set {st : RS} {nd nd' : Nd} (h : st.nds.getLast? = some nd) : (lastV st nd').nds = st.nds.set (st.nds.length - 1) nd' := by
  have e := last_split h
  have hlen : st.nds.length = st.nds.dropLast.length + 1 := by
    have := congrArg List.length e
    simpa using this
  unfold lastV
  simp only
  conv => rhs; rw [e]
  rw [List.length_append, List.length_singleton, Nat.add_sub_cancel, List.set_append_right _ _ (Nat.le_refl _)]
  simp
theorem last_get {st : RS} {nd : Nd} (h : st.nds.getLast? = some nd) : 0 < st.nds.length ∧ st.nds[st.nds.length - 1]? = some nd := by
  rw [List.getLast?_eq_getElem?] at h
  refine ⟨?_, h⟩
  have := (List.getElem?_eq_some_iff.1 h).1
  omega
end Go.Proofs.YtjjlofaejpnnnaaGreatDoor
