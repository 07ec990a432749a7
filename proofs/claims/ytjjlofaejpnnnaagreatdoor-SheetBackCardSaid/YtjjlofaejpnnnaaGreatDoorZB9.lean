/-
  WHAT HOLDS of what has been read, in plain mathematics: numbers, depths, lengths.
  IN THE ORDER OF THEIR NUMBERS, in plain mathematics: one list alone is sorted and has these nodes.
  THE LEAST NUMBER ABOVE THE LAST ONE, in plain mathematics: what the document's selection finds is the next node of the sorted list.
  MODELS OF THE CALL's OWN: nodes and their lists in memory that the call made; a cell of a node turned; copy of a whole row.
  NODES THAT GROW, in memory: a list of nodes of the call's own, each of their lists in a block of its own, and a row of numbers beside them; what is written into one leaves the others.
-/
import Derived.Test.YtjjlofaejpnnnaaGreatDoorZB8
import Derived.Laws.OwnMore
import Derived.Laws.CopyRow
import Derived.Laws.IdiomCopy
import Derived.Maps.OwnSet
namespace Go.Proofs.YtjjlofaejpnnnaaGreatDoor
open Go Go.RowKit
set_option linter.unusedVariables false
structure RsOk (st : RS) : Prop where
  n1 : 1 ≤ st.next
  n2 : st.next ≤ 1048577
  dl : st.deep.length = st.nds.length
  dk : DeepOk st.deep
  ln : st.nds.length ≤ 4096
  id : ∀ x ∈ st.nds.map (·.id), 1 ≤ x ∧ x < st.next
  ds : (st.nds.map (·.id)).Nodup
theorem numberV_some {l : List UInt8} {b n : Int} (h : numberV l b = some n) : intT l = some n ∧ 1 ≤ n ∧ n < b := by
  unfold numberV at h
  cases hi : intT l with
  | none => rw [hi] at h; cases h
  | some v =>
    rw [hi] at h
    simp only at h
    split at h
    · obtain rfl := Option.some.inj h
      rename_i hh
      exact ⟨rfl, hh⟩
    · cases h
theorem last_split {l : List Nd} {nd : Nd} (h : l.getLast? = some nd) : l = l.dropLast ++ [nd] := by
  have hne : l ≠ [] := by rintro rfl; cases h
  rw [List.getLast?_eq_some_getLast hne] at h
  obtain rfl := Option.some.inj h
  exact (List.dropLast_concat_getLast hne).symm
theorem lastV_ids {st : RS} {nd nd' : Nd} (h : st.nds.getLast? = some nd) (hi : nd'.id = nd.id) : (lastV st nd').nds.map (·.id) = st.nds.map (·.id) := by
  have e := last_split h
  unfold lastV
  simp only
  rw [List.map_append, List.map_singleton, hi]
  conv => rhs; rw [e]
  simp
theorem lastV_len {st : RS} {nd nd' : Nd} (h : st.nds.getLast? = some nd) : (lastV st nd').nds.length = st.nds.length := by
  have e := congrArg List.length (last_split h)
  unfold lastV
  simp only [List.length_append, List.length_singleton] at e ⊢
  omega
theorem RsOk.last {st : RS} {nd nd' : Nd} (h : RsOk st) (hl : st.nds.getLast? = some nd) (hi : nd'.id = nd.id) : RsOk (lastV st nd') :=
  ⟨h.n1, h.n2, h.dl.trans (lastV_len hl).symm, h.dk, by rw [lastV_len hl]; exact h.ln, by rw [lastV_ids hl hi]; exact h.id, by rw [lastV_ids hl hi]; exact h.ds⟩
theorem hasV_ok {st st' : RS} {nd : Nd} {w v : List UInt8} (h : RsOk st) (hl : st.nds.getLast? = some nd) (hv : hasV st nd w v = some st') : RsOk st' := by
  unfold hasV at hv
  simp only at hv
  split at hv
  · obtain rfl := Option.some.inj hv
    exact h.last hl rfl
  · cases hv
theorem refersV_ok {st st' : RS} {nd : Nd} {w v : List UInt8} (h : RsOk st) (hl : st.nds.getLast? = some nd) (hv : refersV st nd w v = some st') : RsOk st' := by
  unfold refersV at hv
  cases hn : numberV v st.next with
  | none => rw [hn] at hv; cases hv
  | some n =>
    rw [hn] at hv
    simp only at hv
    split at hv
    · obtain rfl := Option.some.inj hv
      exact h.last hl rfl
    · cases hv
theorem set_ids {l : List Nd} {i : Nat} {nd nd' : Nd} (h : l[i]? = some nd) (hi : nd'.id = nd.id) : (l.set i nd').map (·.id) = l.map (·.id) := by
  rw [List.map_set]
  have h1 : (l.map (·.id))[i]? = some nd'.id := by rw [List.getElem?_map, h, hi]; rfl
  obtain ⟨hlt, e⟩ := List.getElem?_eq_some_iff.1 h1
  rw [← e]
  exact List.set_getElem_self hlt
/-- a node more: the ids grow by its own -/
structure Stood (st : RS) (n : Nd) (d : Nat) (st' : RS) : Prop where
  nx : st'.next = st.next
  dp : st'.deep = st.deep ++ [d + 1]
  ln : st.nds.length < 4096
  d64 : d < 64
  dle : d ≤ st.deep.getLastD 0
  nw : n.id ∉ st.nds.map (·.id)
  ids : st'.nds.map (·.id) = st.nds.map (·.id) ++ [n.id]
theorem standsV_stood {st st' : RS} {n : Nd} {d : Nat} (h : standsV st n d = some st') : Stood st n d st' := by
  unfold standsV at h
  split at h
  · cases h
  · rename_i hno
    have h1 : st.nds.length < 4096 := by omega
    have h2 : d < 64 := by omega
    have h3 : d ≤ st.deep.getLastD 0 := by omega
    have h4 : n.id ∉ st.nds.map (·.id) := by
      intro hm
      obtain ⟨x, hx, he⟩ := List.mem_map.1 hm
      exact hno (.inr (.inr (.inr (List.any_eq_true.2 ⟨x, hx, by simpa using he⟩))))
    split at h
    · rename_i hd
      subst hd
      have key : ∀ st'', some (⟨st.next, st.nds ++ [n], st.deep ++ [1]⟩ : RS) = some st'' → Stood st n 0 st'' := by
        intro st'' e
        obtain rfl := Option.some.inj e
        exact ⟨rfl, rfl, h1, h2, h3, h4, by simp⟩
      cases hu : upV st 1 with
      | none =>
        rw [hu] at h
        simp only at h
        split at h
        · cases h
        · exact key _ h
      | some r =>
        rw [hu] at h
        simp only at h
        split at h
        · cases h
        · exact key _ h
    · cases hu : upV st d with
      | none => rw [hu] at h; cases h
      | some u =>
        rw [hu] at h
        simp only at h
        obtain rfl := Option.some.inj h
        have hx : st.nds[u.1]? = some u.2 := by
          unfold upV at hu
          obtain ⟨i, _, hi⟩ := Option.bind_eq_some_iff.1 hu
          obtain ⟨nd, hnd, rfl⟩ := Option.map_eq_some_iff.1 hi
          exact hnd
        refine ⟨rfl, rfl, h1, h2, h3, h4, ?_⟩
        simp only
        rw [List.map_append, set_ids (nd' := { u.2 with kids := u.2.kids ++ [n.id] }) hx rfl]
        rfl
theorem RsOk.stood {st st' : RS} {n : Nd} {d : Nat} (h : RsOk st) (hs : Stood st n d st') (h1 : 1 ≤ n.id) (h2 : n.id < st.next) : RsOk st' := by
  have hlen : st'.nds.length = st.nds.length + 1 := by
    have := congrArg List.length hs.ids
    simpa using this
  refine ⟨by rw [hs.nx]; exact h.n1, by rw [hs.nx]; exact h.n2, by rw [hs.dp, hlen, List.length_append, h.dl]; rfl, by rw [hs.dp]; exact h.dk.snoc hs.dle hs.d64, by rw [hlen]; exact hs.ln, ?_, ?_⟩
  · rw [hs.ids, hs.nx]
    intro x hx
    rcases List.mem_append.1 hx with hx | hx
    · exact h.id x hx
    · obtain rfl : x = n.id := by simpa using hx
      exact ⟨h1, h2⟩
  · rw [hs.ids, List.nodup_append]
    refine ⟨h.ds, by simp, fun a ha b hb e => ?_⟩
    obtain rfl : b = n.id := by simpa using hb
    exact hs.nw (e ▸ ha)
theorem nodeP_stood {st st' : RS} {d : Nat} {s : List UInt8} (h : nodeP st d s = some st') : ∃ n : Nd, Stood st n d st' ∧ 1 ≤ n.id ∧ n.id < st.next := by
  unfold nodeP at h
  obtain ⟨id, hid, h⟩ := Option.bind_eq_some_iff.1 h
  obtain ⟨r, _, h⟩ := Option.bind_eq_some_iff.1 h
  split at h
  · exact ⟨_, standsV_stood h, (numberV_some hid).2⟩
  · cases h
theorem lastNd_some {st : RS} {d : Nat} {nd : Nd} (h : lastNd st d = some nd) : d = st.deep.getLastD 0 ∧ st.nds.getLast? = some nd := by
  unfold lastNd at h
  split at h
  · rename_i hd
    exact ⟨hd, h⟩
  · cases h
/-- a line read: the first one begins, each other one keeps -/
theorem line_ok {st st' : RS} {s : List UInt8} (h : st.next ≠ 0 → RsOk st) (hv : lineV st s = some st') : RsOk st' := by
  unfold lineV at hv
  split at hv
  · unfold firstP at hv
    split at hv
    · obtain ⟨n, hn, rfl⟩ := Option.map_eq_some_iff.1 hv
      obtain ⟨_, h1, h2⟩ := numberV_some hn
      exact ⟨h1, by simp only; omega, rfl, deepOk_nil, Nat.zero_le _, by simp, by simp⟩
    · cases hv
  · rename_i h0
    have hk := h h0
    simp only at hv
    split at hv
    · unfold propP at hv
      obtain ⟨nd, hnd, hv⟩ := Option.bind_eq_some_iff.1 hv
      split at hv
      · exact hasV_ok hk (lastNd_some hnd).2 hv
      · cases hv
    · unfold refP at hv
      obtain ⟨nd, hnd, hv⟩ := Option.bind_eq_some_iff.1 hv
      split at hv
      · exact refersV_ok hk (lastNd_some hnd).2 hv
      · cases hv
    · obtain ⟨n, hs, h1, h2⟩ := nodeP_stood hv
      exact hk.stood hs h1 h2
end Go.Proofs.YtjjlofaejpnnnaaGreatDoor
namespace Go.Proofs.YtjjlofaejpnnnaaGreatDoor
open Go Go.RowKit
set_option linter.unusedVariables false
def IdLt (a b : Nd) : Prop := a.id < b.id
theorem byId_perm (n : Nd) : ∀ l : List Nd, (byId n l).Perm (n :: l)
  | [] => .refl _
  | x :: l => by
    unfold byId
    split
    · exact .refl _
    · exact ((byId_perm n l).cons x).trans (.swap n x l)
theorem sortV_perm : ∀ l : List Nd, (l.foldr byId []).Perm l
  | [] => .refl _
  | x :: l => (byId_perm x _).trans ((sortV_perm l).cons x)
theorem byId_sorted {n : Nd} : ∀ {l : List Nd}, l.Pairwise IdLt → (∀ x ∈ l, x.id ≠ n.id) → (byId n l).Pairwise IdLt
  | [], _, _ => by simp [byId]
  | x :: l, h, hne => by
    rw [List.pairwise_cons] at h
    unfold byId
    split
    · rename_i hx
      rw [List.pairwise_cons, List.pairwise_cons]
      refine ⟨fun y hy => ?_, h⟩
      rcases List.mem_cons.1 hy with rfl | hy
      · exact hx
      · have := h.1 y hy
        unfold IdLt at this ⊢
        omega
    · rename_i hx
      have hxn := hne x (by simp)
      rw [List.pairwise_cons]
      refine ⟨fun y hy => ?_, byId_sorted h.2 fun y hy => hne y (by simp [hy])⟩
      rcases List.mem_cons.1 ((byId_perm n l).mem_iff.1 hy) with rfl | hy
      · unfold IdLt; omega
      · exact h.1 y hy
theorem sortV_sorted : ∀ {l : List Nd}, (l.map (·.id)).Nodup → (l.foldr byId []).Pairwise IdLt
  | [], _ => by simp
  | x :: l, h => by
    rw [List.map_cons, List.nodup_cons] at h
    rw [List.foldr_cons]
    refine byId_sorted (sortV_sorted h.2) fun y hy => ?_
    have hy2 := (sortV_perm l).mem_iff.1 hy
    intro e
    exact h.1 (e ▸ List.mem_map_of_mem hy2)
/-- sorted lists of the same nodes are the same -/
theorem sorted_one : ∀ {l m : List Nd}, l.Perm m → l.Pairwise IdLt → m.Pairwise IdLt → l = m
  | [], m, hp, _, _ => by rw [List.nil_perm.1 hp]
  | x :: l, [], hp, _, _ => by
    have := hp.length_eq
    simp at this
  | x :: l, y :: m, hp, hl, hm => by
    have hl1 := List.pairwise_cons.1 hl
    have hm1 := List.pairwise_cons.1 hm
    have e : x = y := by
      have hx : x ∈ y :: m := hp.mem_iff.1 (by simp)
      have hy : y ∈ x :: l := hp.mem_iff.2 (by simp)
      rcases List.mem_cons.1 hx with h | hx
      · exact h
      · rcases List.mem_cons.1 hy with h | hy
        · exact h.symm
        · have h1 := hm1.1 x hx
          have h2 := hl1.1 y hy
          unfold IdLt at h1 h2
          omega
    subst e
    rw [sorted_one (List.Perm.cons_inv hp) hl1.2 hm1.2]
/-- the nodes in the order of their numbers -/
def sortV (l : List Nd) : List Nd := l.foldr byId []
theorem sortV_is {l m : List Nd} (hd : (l.map (·.id)).Nodup) (hp : m.Perm l) (hm : m.Pairwise IdLt) : m = sortV l :=
  sorted_one (hp.trans (sortV_perm l).symm) hm (sortV_sorted hd)
end Go.Proofs.YtjjlofaejpnnnaaGreatDoor
namespace Go.Proofs.YtjjlofaejpnnnaaGreatDoor
open Go Go.RowKit
set_option linter.unusedVariables false
/-- where the selection stands ahead of place i: at -1 there is none above last; else the least of them -/
def Picked (ids : List Int) (last : Int) (i : Nat) (at_ : Int) : Prop :=
  (at_ = -1 ∧ ∀ j x, j < i → ids[j]? = some x → x ≤ last) ∨ (∃ (a : Nat) (y : Int), at_ = (a : Int) ∧ a < i ∧ ids[a]? = some y ∧ last < y ∧ ∀ j x, j < i → ids[j]? = some x → last < x → y ≤ x)
theorem Picked.start (ids : List Int) (last : Int) : Picked ids last 0 (-1) := .inl ⟨rfl, fun j x h => by omega⟩
theorem Picked.skip {ids : List Int} {last at_ x : Int} {i : Nat} (h : Picked ids last i at_) (hx : ids[i]? = some x) (hle : x ≤ last) : Picked ids last (i + 1) at_ := by
  rcases h with ⟨rfl, h⟩ | ⟨a, y, rfl, ha, hy, hl, h⟩
  · refine .inl ⟨rfl, fun j z hj hz => ?_⟩
    rcases Nat.lt_or_ge j i with h1 | h1
    · exact h j z h1 hz
    · obtain rfl : j = i := by omega
      rw [hx] at hz; obtain rfl := Option.some.inj hz; exact hle
  · refine .inr ⟨a, y, rfl, by omega, hy, hl, fun j z hj hz hlz => ?_⟩
    rcases Nat.lt_or_ge j i with h1 | h1
    · exact h j z h1 hz hlz
    · obtain rfl : j = i := by omega
      rw [hx] at hz; obtain rfl := Option.some.inj hz; omega
theorem Picked.less {ids : List Int} {last x y : Int} {i a : Nat} (h : Picked ids last i (a : Int)) (hy : ids[a]? = some y) (hx : ids[i]? = some x) (hlt : last < x) (hxy : x < y) : Picked ids last (i + 1) (i : Int) := by
  rcases h with ⟨e, _⟩ | ⟨b, z, e, hb, hz, hl, h⟩
  · omega
  · obtain rfl : a = b := by omega
    rw [hy] at hz; obtain rfl := Option.some.inj hz
    refine .inr ⟨i, x, rfl, by omega, hx, hlt, fun j u hj hu hlu => ?_⟩
    rcases Nat.lt_or_ge j i with h1 | h1
    · have := h j u h1 hu hlu; omega
    · obtain rfl : j = i := by omega
      rw [hx] at hu; obtain rfl := Option.some.inj hu; exact Int.le_refl _
theorem Picked.more {ids : List Int} {last x y : Int} {i a : Nat} (h : Picked ids last i (a : Int)) (hy : ids[a]? = some y) (hx : ids[i]? = some x) (hxy : ¬ x < y) : Picked ids last (i + 1) (a : Int) := by
  rcases h with ⟨e, _⟩ | ⟨b, z, e, hb, hz, hl, h⟩
  · omega
  · obtain rfl : a = b := by omega
    rw [hy] at hz; obtain rfl := Option.some.inj hz
    refine .inr ⟨a, y, rfl, by omega, hy, hl, fun j u hj hu hlu => ?_⟩
    rcases Nat.lt_or_ge j i with h1 | h1
    · exact h j u h1 hu hlu
    · obtain rfl : j = i := by omega
      rw [hx] at hu; obtain rfl := Option.some.inj hu; omega
theorem Picked.form {ids : List Int} {last at_ : Int} {i : Nat} (h : Picked ids last i at_) : at_ = -1 ∨ ∃ a : Nat, at_ = (a : Int) := by
  rcases h with ⟨e, _⟩ | ⟨b, z, e, _⟩
  · exact .inl e
  · exact .inr ⟨b, e⟩
theorem sortV_len (l : List Nd) : (sortV l).length = l.length := (sortV_perm l).length_eq
end Go.Proofs.YtjjlofaejpnnnaaGreatDoor
namespace Go.Proofs.YtjjlofaejpnnnaaGreatDoor
open Go Go.RowKit Go.Sort
set_option linter.unusedVariables false
/-- the lists of a node, each in memory of its own -/
structure OwnLeaf (w : World) (B : Nat) (nd : Nd) (L : Leaf) : Prop where
  pn : L.p.n = nd.props.length
  kn : L.k.n = nd.kids.length
  rn : L.r.n = nd.refs.length
  p : w.ownsRow B 60 2 (.slice L.p.A L.p.n L.p.c) L.p.n (propCells nd.props)
  k : w.ownsRow B 3 1 (.slice L.k.A L.k.n L.k.c) L.k.n (intCells nd.kids)
  r : w.ownsRow B 62 2 (.slice L.r.A L.r.n L.r.c) L.r.n (refCells nd.refs)
  sz : SzN nd
section
variable {w w' : World} {B : Nat} {nd : Nd} {L : Leaf}
theorem OwnLeaf.leafIn (h : OwnLeaf w B nd L) : LeafIn w B w.heap.size nd L := ⟨h.pn, h.kn, h.rn, own_row h.p, own_row h.k, own_row h.r, h.sz⟩
theorem OwnLeaf.after (h : OwnLeaf w B nd L) (hb : Below w.heap.size w w') : OwnLeaf w' B nd L := ⟨h.pn, h.kn, h.rn, own_after h.p hb, own_after h.k hb, own_after h.r hb, h.sz⟩
theorem OwnLeaf.mono (h : OwnLeaf w B nd L) {B' : Nat} (hB : B' ≤ B) : OwnLeaf w B' nd L := ⟨h.pn, h.kn, h.rn, own_mono h.p hB, own_mono h.k hB, own_mono h.r hB, h.sz⟩
theorem OwnLeaf.other (h : OwnLeaf w B nd L) {g : Nat} {t : TypeId} {cs : Array Value} (hg : Blk w g t cs) (h1 : 60 ≠ t) (h2 : 3 ≠ t) (h3 : 62 ≠ t) (i : Nat) (u : Value) : OwnLeaf (w.setCell ⟨g, i, none⟩ u) B nd L :=
  ⟨h.pn, h.kn, h.rn, own_other h.p hg h1 i u, own_other h.k hg h2 i u, own_other h.r hg h3 i u, h.sz⟩
theorem own_kept {e e' : TypeId} {size size' n n' B' : Nat} {v v' : Value} {xs xs' : List Value} (h : w.ownsRow B e size v n xs) (h' : w.ownsRow B' e' size' v' n' xs') (hne : e ≠ e') (hg : w.grownBy w' v'.ownBlock) : w'.ownsRow B e size v n xs :=
  World.ownsRow.kept h hg (own_own_ne h h' hne)
theorem OwnLeaf.kept (h : OwnLeaf w B nd L) {B' size' n' : Nat} {v' : Value} {xs' : List Value} (h' : w.ownsRow B' 55 size' v' n' xs') (hg : w.grownBy w' v'.ownBlock) : OwnLeaf w' B nd L :=
  ⟨h.pn, h.kn, h.rn, own_kept h.p h' (by decide) hg, own_kept h.k h' (by decide) hg, own_kept h.r h' (by decide) hg, h.sz⟩
end
/-- a list of nodes of the call's own -/
structure OwnM (w : World) (B : Nat) (v : Value) (l : List (Nd × Leaf)) : Prop where
  own : OwnN w B v l
  leaf : ∀ p ∈ l, OwnLeaf w B p.1 p.2
section
variable {w w' : World} {B : Nat} {v : Value} {l : List (Nd × Leaf)}
theorem OwnM.after (h : OwnM w B v l) (hb : Below w.heap.size w w') : OwnM w' B v l := ⟨own_after h.own hb, fun p hp => (h.leaf p hp).after hb⟩
theorem OwnM.mono (h : OwnM w B v l) {B' : Nat} (hB : B' ≤ B) : OwnM w B' v l := ⟨own_mono h.own hB, fun p hp => (h.leaf p hp).mono hB⟩
theorem OwnM.other (h : OwnM w B v l) {g : Nat} {cs : Array Value} (hg : Blk w g 25 cs) (i : Nat) (u : Value) : OwnM (w.setCell ⟨g, i, none⟩ u) B v l :=
  ⟨own_other h.own hg (by decide) i u, fun p hp => (h.leaf p hp).other hg (by decide) (by decide) (by decide) i u⟩
theorem own_blk {e : TypeId} {size n c g : Nat} {xs : List Value} (h : w.ownsRow B e size (.slice (some ⟨g, 0, none⟩) n c) n xs) : ∃ cs, Blk w g e cs ∧ B ≤ g ∧ cs.size = c * size := by
  rcases h.2 with ⟨h', _⟩ | ⟨g', cap', cur, h', hb, hg, _, _, hs, _⟩
  · simp at h'
  · simp only [Value.slice.injEq, Option.some.injEq, Addr.mk.injEq, and_true, true_and] at h'
    obtain ⟨rfl, rfl⟩ := h'
    exact ⟨cur, hg, hb, hs⟩
/-- the cells of a list of nodes of which one has turned -/
theorem allCells_set {l : List (Nd × Leaf)} {i j : Nat} {p q : Nd × Leaf} {u : Value} (hp : l[i]? = some p) (hj : j < 7) (hq : (ndCells p).set j u = ndCells q) : (allCells l).set (i * 7 + j) u = allCells (l.set i q) := by
  induction l generalizing i with
  | nil => simp at hp
  | cons x l ih =>
    have hx := ndCells_len x
    match i, hp with
    | 0, hp =>
      obtain rfl : x = p := by simpa using hp
      simp only [allCells, List.flatMap_cons, List.set_cons_zero, Nat.zero_mul, Nat.zero_add]
      rw [List.set_append_left _ _ (by omega), hq]
    | i + 1, hp =>
      have := ih (i := i) (by simpa using hp)
      simp only [allCells, List.flatMap_cons, List.set_cons_succ] at this ⊢
      rw [List.set_append_right _ _ (by omega), hx, show (i + 1) * 7 + j - 7 = i * 7 + j from by omega, this]
/-- a cell of a node is stored -/
theorem OwnM.store {n c g i j : Nat} {p q : Nd × Leaf} {u : Value} (h : OwnM w B (.slice (some ⟨g, 0, none⟩) n c) l) (hn : l.length = n) (hp : l[i]? = some p) (hj : j < 7) (hq : (ndCells p).set j u = ndCells q) (hl : OwnLeaf w B q.1 q.2) :
    OwnM (w.setCell ⟨g, i * 7 + j, none⟩ u) B (.slice (some ⟨g, 0, none⟩) n c) (l.set i q) := by
  subst hn
  have h1 : w.ownsRow B 55 7 (.slice (some ⟨g, 0, none⟩) l.length c) l.length (allCells l) := h.own
  obtain ⟨cs, hg, _, _⟩ := own_blk h1
  have h2 := (World.ownsRow.stored h1 (i * 7 + j) u).1
  rw [allCells_set hp hj hq] at h2
  refine ⟨?_, fun x hx => ?_⟩
  · unfold OwnN
    rw [List.length_set]
    exact h2
  · rcases List.mem_or_eq_of_mem_set hx with hx | rfl
    · exact (h.leaf x hx).other hg (by decide) (by decide) (by decide) _ u
    · exact hl.other hg (by decide) (by decide) (by decide) _ u
end
section
variable {P : Program} (w : World)
/-- copy of a whole row into a block of the call's own -/
theorem run_copy_all (dT sT ty elem : TypeId) (i : TypeInfo) (size : Nat) (hu : P.underlying dT = some (.slice elem)) (hi : P.info? elem = some i) (hs : i.size = size)
    (g n c m : Nat) (A : Option Addr) (k : Nat) (cur : Array Value) (t : TypeId) (hg : w.heap[g]? = some (.cells cur t (0, 0))) (hcur : cur.size = n * size)
    (lo hi' : Nat) (news : List Value) (hr : Row w lo hi' size A n k news) (hn : 0 < n) (h1 : ∀ u ∈ news, u.oneCell' = true) :
    (Builtin.copy_ #[dT, sT] ty #[.slice (some ⟨g, 0, none⟩) n c, .slice A n k]).run P w = .ok (goInt n) (w.setRow g news.toArray) := by
  obtain ⟨b, o, rfl, _, _, hc⟩ := hr.2.2.2 hn
  have hl := run_loadCells_list (P := P) w ⟨b, o, none⟩ news (fun j u hj => by rw [Addr.add_lit]; exact hc j u hj)
  have hst := run_storeCells_at P g 0 t news 0 cur w hg (by rw [hr.1, hcur]; omega) h1
  have hd : cur.toList.drop (n * size) = [] := List.drop_eq_nil_of_le (by rw [Array.length_toList, hcur]; exact Nat.le_refl _)
  rw [hr.1] at hl
  simp only [Nat.zero_add, List.take_zero, List.nil_append, hr.1, hd, List.append_nil] at hst
  simp [Builtin.copy_, run_underlying hu, Builtin.lenOf, Builtin.firstCells, sizeOf, typeInfo, hi, hs, hl, hst]
/-- a new block, filled whole -/
theorem own_filled {w X : World} {g n size B : Nat} {e : TypeId} {cur : Array Value} {news : List Value} (hg : X.heap[g]? = some (.cells cur e (0, 0))) (hB : B ≤ g) (hn : n ≤ maxLen) (hs : news.length = n * size) :
    (X.setRow g news.toArray).ownsRow B e size (.slice (some ⟨g, 0, none⟩) n n) n news :=
  ⟨hs, .inr ⟨g, n, news.toArray, rfl, hB, setRow_heap X g cur _ e _ hg, Nat.le_refl _, hn, by simpa using hs, by simp [← hs]⟩⟩
end
end Go.Proofs.YtjjlofaejpnnnaaGreatDoor
namespace Go.Proofs.YtjjlofaejpnnnaaGreatDoor
open Go Go.RowKit Go.Sort
set_option linter.unusedVariables false
/-- blocks, none of them twice -/
def ApB (bs : List (Option Nat)) : Prop := ∀ (i j : Nat) (a b : Option Nat), i ≠ j → bs[i]? = some a → bs[j]? = some b → b = none ∨ b ≠ a
theorem ApB.nil : ApB [] := fun i j a b _ h => by simp at h
theorem ApB.set {bs : List (Option Nat)} {i : Nat} {b b' : Option Nat} (h : ApB bs) (hi : bs[i]? = some b) (hb : b' = b ∨ ∀ x ∈ bs, x = none ∨ x ≠ b') : ApB (bs.set i b') := by
  have hlt : i < bs.length := (List.getElem?_eq_some_iff.1 hi).1
  intro p q x y hpq hp hq
  rw [List.getElem?_set] at hp hq
  by_cases hip : i = p
  · subst hip
    rw [if_neg hpq] at hq
    rw [if_pos rfl, if_pos hlt] at hp
    obtain rfl := Option.some.inj hp
    rcases hb with rfl | hb
    · exact h i q _ y hpq hi hq
    · exact hb y (List.mem_of_getElem? hq)
  · rw [if_neg hip] at hp
    by_cases hiq : i = q
    · subst hiq
      rw [if_pos rfl, if_pos hlt] at hq
      obtain rfl := Option.some.inj hq
      rcases hb with rfl | hb
      · exact h p i x _ hpq hp hi
      · rcases hb x (List.mem_of_getElem? hp) with rfl | hne
        · by_cases hn : b' = none
          · exact .inl hn
          · exact .inr hn
        · exact .inr (Ne.symm hne)
    · rw [if_neg hiq] at hq
      exact h p q x y hpq hp hq
theorem ApB.snoc {bs : List (Option Nat)} (h : ApB bs) : ApB (bs ++ [none]) := by
  have key : ∀ (k : Nat) (x : Option Nat), (bs ++ [none])[k]? = some x → bs[k]? = some x ∨ x = none := by
    intro k x hk
    rcases Nat.lt_or_ge k bs.length with hl | hl
    · rw [List.getElem?_append_left hl] at hk
      exact .inl hk
    · rw [List.getElem?_append_right hl] at hk
      right
      cases hkk : k - bs.length with
      | zero => rw [hkk] at hk; simpa using hk.symm
      | succ m => rw [hkk] at hk; simp at hk
  intro p q x y hpq hp hq
  rcases key q y hq with hq | rfl
  · rcases key p x hp with hp | rfl
    · exact h p q x y hpq hp hq
    · by_cases hn : y = none
      · exact .inl hn
      · exact .inr hn
  · exact .inl rfl
def pB (q : Nd × Leaf) : Option Nat := (Value.slice q.2.p.A q.2.p.n q.2.p.c).ownBlock
def kB (q : Nd × Leaf) : Option Nat := (Value.slice q.2.k.A q.2.k.n q.2.k.c).ownBlock
def rB (q : Nd × Leaf) : Option Nat := (Value.slice q.2.r.A q.2.r.n q.2.r.c).ownBlock
/-- nodes that grow, and a row of numbers -/
structure NP (B : Nat) (v vw : Value) (l : List (Nd × Leaf)) (ws : List Int) (w : World) : Prop where
  own : OwnN w B v l
  leaf : ∀ p ∈ l, OwnLeaf w B p.1 p.2
  way : w.ownsRow B 3 1 vw ws.length (intCells ws)
  ap : ApB (l.map pB)
  ak : ApB (vw.ownBlock :: l.map kB)
  ar : ApB (l.map rB)
  hB : B ≤ w.heap.size
section
variable {B : Nat} {v vw : Value} {l : List (Nd × Leaf)} {ws : List Int} {w w' : World}
theorem NP.nil (w : World) (hB : B ≤ w.heap.size) : NP B (.slice none 0 0) (.slice none 0 0) [] [] w :=
  ⟨World.ownsRow_nil _ _ _ _, by simp, World.ownsRow_nil _ _ _ _, ApB.nil, by
    intro i j a b hij hi hj
    cases i with
    | zero => cases j with
      | zero => exact absurd rfl hij
      | succ j => simp at hj
    | succ i => simp at hi, ApB.nil, hB⟩
theorem NP.after (h : NP B v vw l ws w) (hb : Below w.heap.size w w') : NP B v vw l ws w' :=
  ⟨own_after h.own hb, fun p hp => (h.leaf p hp).after hb, own_after h.way hb, h.ap, h.ak, h.ar, Nat.le_trans h.hB hb.size⟩
theorem NP.alloc (h : NP B v vw l ws w) (o : Obj) : NP B v vw l ws (w.alloc o) := h.after ((Below.refl _ _).alloc (Nat.le_refl _) o)
/-- a block of another type is written -/
theorem NP.other (h : NP B v vw l ws w) {g : Nat} {t : TypeId} {cs : Array Value} (hg : Blk w g t cs) (h0 : 55 ≠ t) (h1 : 60 ≠ t) (h2 : 3 ≠ t) (h3 : 62 ≠ t) (i : Nat) (u : Value) : NP B v vw l ws (w.setCell ⟨g, i, none⟩ u) :=
  ⟨own_other h.own hg h0 i u, fun p hp => (h.leaf p hp).other hg h1 h2 h3 i u, own_other h.way hg h2 i u, h.ap, h.ak, h.ar, by
    have := ((Below.refl 0 w).setCell (p := ⟨g, i, none⟩) (Nat.zero_le _) u).size
    exact Nat.le_trans h.hB this⟩
/-- something grows that is none of these rows -/
theorem own_row_kept {e : TypeId} {s n : Nat} {x : Value} {xs : List Value} {r : Option Nat} (h : w.ownsRow B e s x n xs) (hg : w.grownBy w' r) (hr : ∀ g cs, r = some g → w.heap[g]? ≠ some (.cells cs e (0, 0))) : w'.ownsRow B e s x n xs := by
  refine World.ownsRow.kept h hg ?_
  rcases h.2 with ⟨rfl, _⟩ | ⟨g, cap, cur, rfl, _, hh, _⟩
  · exact .inl rfl
  · right
    intro he
    exact hr g cur (by rw [← he]; rfl) hh
theorem NP.map (h : NP B v vw l ws w) {r : Option Nat} (hg : w.grownBy w' r) (hr : ∀ g cs t, r = some g → w.heap[g]? ≠ some (.cells cs t (0, 0))) : NP B v vw l ws w' :=
  ⟨own_row_kept h.own hg fun g cs e => hr g cs _ e, fun p hp => ⟨(h.leaf p hp).pn, (h.leaf p hp).kn, (h.leaf p hp).rn, own_row_kept (h.leaf p hp).p hg fun g cs e => hr g cs _ e, own_row_kept (h.leaf p hp).k hg fun g cs e => hr g cs _ e, own_row_kept (h.leaf p hp).r hg fun g cs e => hr g cs _ e, (h.leaf p hp).sz⟩,
   own_row_kept h.way hg fun g cs e => hr g cs _ e, h.ap, h.ak, h.ar, Nat.le_trans h.hB hg.size⟩
/-- a new block is none of the old ones -/
theorem fresh_ne {e : TypeId} {s n : Nat} {x : Value} {xs : List Value} (h : w.ownsRow B e s x n xs) : x.ownBlock = none ∨ x.ownBlock ≠ some w.heap.size := by
  cases hx : x.ownBlock with
  | none => exact .inl rfl
  | some k =>
    right
    intro he
    have := (World.ownsRow.lt h k hx).2
    have := Option.some.inj he
    omega
/-- the nodes' row itself has grown: a node more, without lists -/
theorem NP.node (h : NP B v vw l ws w) {v' : Value} {nd : Nd} {L : Leaf} (ho : OwnN w' B v' (l ++ [(nd, L)])) (hg : w.grownBy w' v.ownBlock) (hp : nd.props = []) (hk : nd.kids = []) (hr : nd.refs = []) (hL : L = ⟨⟨none, 0, 0⟩, ⟨none, 0, 0⟩, ⟨none, 0, 0⟩⟩) (hz : SzN nd) : NP B v' vw (l ++ [(nd, L)]) ws w' := by
  subst hL
  refine ⟨ho, fun p hpm => ?_, World.ownsRow.kept h.way hg (own_own_ne h.way h.own (by decide)), ?_, ?_, ?_, Nat.le_trans h.hB hg.size⟩
  · rcases List.mem_append.1 hpm with hpm | hpm
    · exact (h.leaf p hpm).kept h.own hg
    · obtain rfl : p = _ := by simpa using hpm
      exact ⟨by simp [hp], by simp [hk], by simp [hr], by simpa [hp, propCells] using World.ownsRow_nil _ _ _ _, by simpa [hk, intCells] using World.ownsRow_nil _ _ _ _, by simpa [hr, refCells] using World.ownsRow_nil _ _ _ _, hz⟩
  · rw [List.map_append]; exact h.ap.snoc
  · rw [List.map_append]; exact h.ak.snoc
  · rw [List.map_append]; exact h.ar.snoc
theorem getElem?_map_kB {i : Nat} {p : Nd × Leaf} (hp : l[i]? = some p) (x : Option Nat) : (x :: l.map kB)[i + 1]? = some (kB p) := by
  rw [List.getElem?_cons_succ, List.getElem?_map, hp]; rfl
theorem getElem?_map_f {i : Nat} {p : Nd × Leaf} (f : Nd × Leaf → Option Nat) (hp : l[i]? = some p) : (l.map f)[i]? = some (f p) := by
  rw [List.getElem?_map, hp]; rfl
theorem mem_set_cases {i : Nat} {p q x : Nd × Leaf} (hp : l[i]? = some p) (hx : x ∈ l.set i q) : x = q ∨ ∃ j, j ≠ i ∧ l[j]? = some x := by
  obtain ⟨j, hj⟩ := List.getElem?_of_mem hx
  rw [List.getElem?_set] at hj
  by_cases hij : i = j
  · rw [if_pos hij] at hj
    split at hj
    · exact .inl (Option.some.inj hj).symm
    · cases hj
  · rw [if_neg hij] at hj
    exact .inr ⟨j, fun e => hij e.symm, hj⟩
/-- a cell of a node is stored, where all rows but its own new one stand -/
theorem NP.store {X : World} {g n c i j : Nat} {p q : Nd × Leaf} {u : Value} (hl : l.length = n) (hown : OwnN X B (.slice (some ⟨g, 0, none⟩) n c) l) (hoth : ∀ k x, k ≠ i → l[k]? = some x → OwnLeaf X B x.1 x.2) (hq : OwnLeaf X B q.1 q.2) (hway : X.ownsRow B 3 1 vw ws.length (intCells ws))
    (hp : l[i]? = some p) (hj : j < 7) (hc : (ndCells p).set j u = ndCells q) (h1 : ApB ((l.set i q).map pB)) (h2 : ApB (vw.ownBlock :: (l.set i q).map kB)) (h3 : ApB ((l.set i q).map rB)) (hBs : B ≤ X.heap.size) :
    NP B (.slice (some ⟨g, 0, none⟩) n c) vw (l.set i q) ws (X.setCell ⟨g, i * 7 + j, none⟩ u) := by
  subst hl
  have ho : X.ownsRow B 55 7 (.slice (some ⟨g, 0, none⟩) l.length c) l.length (allCells l) := hown
  obtain ⟨cs, hgB, _, _⟩ := own_blk ho
  have hs := (World.ownsRow.stored ho (i * 7 + j) u).1
  rw [allCells_set hp hj hc] at hs
  refine ⟨?_, fun x hx => ?_, own_other hway hgB (by decide) _ u, h1, h2, h3, ?_⟩
  · unfold OwnN
    rw [List.length_set]
    exact hs
  · rcases mem_set_cases hp hx with rfl | ⟨k, hk, hkx⟩
    · exact hq.other hgB (by decide) (by decide) (by decide) _ u
    · exact (hoth k x hk hkx).other hgB (by decide) (by decide) (by decide) _ u
  · have := ((Below.refl 0 X).setCell (p := ⟨g, i * 7 + j, none⟩) (Nat.zero_le _) u).size
    exact Nat.le_trans hBs this
/-- a kid more below the node at place i -/
theorem NP.kid {n c g i : Nat} {nd : Nd} {P K R : Sl} {Ak : Option Addr} {ck : Nat} {y : Int} (h : NP B (.slice (some ⟨g, 0, none⟩) n c) vw l ws w) (hl : l.length = n) (hi : l[i]? = some (nd, ⟨P, K, R⟩))
    (ho : w'.ownsRow B 3 1 (.slice Ak (K.n + 1) ck) (K.n + 1) (intCells nd.kids ++ [.int .i64 y])) (hg : w.grownBy w' (Value.slice K.A K.n K.c).ownBlock) (hnew : (Value.slice Ak (K.n + 1) ck).ownBlock = (Value.slice K.A K.n K.c).ownBlock ∨ (Value.slice Ak (K.n + 1) ck).ownBlock = some w.heap.size) :
    NP B (.slice (some ⟨g, 0, none⟩) n c) vw (l.set i ({ nd with kids := nd.kids ++ [y] }, ⟨P, ⟨Ak, K.n + 1, ck⟩, R⟩)) ws (w'.setCell ⟨g, i * 7 + 5, none⟩ (.slice Ak (K.n + 1) ck)) := by
  have hp := h.leaf _ (List.mem_of_getElem? hi)
  have hkr : w.ownsRow B 3 1 (.slice K.A K.n K.c) K.n (intCells nd.kids) := hp.k
  refine NP.store hl (World.ownsRow.kept h.own hg (own_own_ne h.own hkr (by decide))) (fun k x hk hx => ?_) ⟨hp.pn, ?_, hp.rn, World.ownsRow.kept hp.p hg (own_own_ne hp.p hkr (by decide)), ?_, World.ownsRow.kept hp.r hg (own_own_ne hp.r hkr (by decide)), ⟨hp.sz.con, hp.sz.role, hp.sz.props, hp.sz.refs⟩⟩
    (World.ownsRow.kept h.way hg ?_) hi (by omega) rfl ?_ ?_ ?_ (Nat.le_trans h.hB hg.size)
  · have hx2 := h.leaf _ (List.mem_of_getElem? hx)
    refine ⟨hx2.pn, hx2.kn, hx2.rn, World.ownsRow.kept hx2.p hg (own_own_ne hx2.p hkr (by decide)), World.ownsRow.kept hx2.k hg ?_, World.ownsRow.kept hx2.r hg (own_own_ne hx2.r hkr (by decide)), hx2.sz⟩
    exact h.ak (i + 1) (k + 1) _ _ (by omega) (getElem?_map_kB hi _) (getElem?_map_kB hx _)
  · have := hp.kn
    simp only [List.length_append, List.length_singleton] at this ⊢
    omega
  · simpa [intCells] using ho
  · exact h.ak (i + 1) 0 _ _ (by omega) (getElem?_map_kB hi _) rfl
  · rw [List.map_set]
    have e : pB ({ nd with kids := nd.kids ++ [y] }, ⟨P, ⟨Ak, K.n + 1, ck⟩, R⟩) = pB (nd, ⟨P, K, R⟩) := rfl
    rw [e]
    exact h.ap.set (getElem?_map_f pB hi) (.inl rfl)
  · have e : (vw.ownBlock :: (l.set i ({ nd with kids := nd.kids ++ [y] }, ⟨P, ⟨Ak, K.n + 1, ck⟩, R⟩)).map kB) = (vw.ownBlock :: l.map kB).set (i + 1) (Value.slice Ak (K.n + 1) ck).ownBlock := by
      rw [List.set_cons_succ, List.map_set]; rfl
    rw [e]
    refine h.ak.set (getElem?_map_kB hi _) ?_
    rcases hnew with hn | hn
    · exact .inl hn
    · right
      intro x hx
      rw [hn]
      rcases List.mem_cons.1 hx with rfl | hx
      · exact fresh_ne h.way
      · obtain ⟨q, hq, rfl⟩ := List.mem_map.1 hx
        exact fresh_ne (h.leaf q hq).k
  · rw [List.map_set]
    have e : rB ({ nd with kids := nd.kids ++ [y] }, ⟨P, ⟨Ak, K.n + 1, ck⟩, R⟩) = rB (nd, ⟨P, K, R⟩) := rfl
    rw [e]
    exact h.ar.set (getElem?_map_f rB hi) (.inl rfl)
/-- a property more of the node at place i -/
theorem NP.prop {n c g i : Nat} {nd : Nd} {P K R : Sl} {Ap : Option Addr} {cp : Nat} {y : ByteArray × ByteArray} (h : NP B (.slice (some ⟨g, 0, none⟩) n c) vw l ws w) (hl : l.length = n) (hi : l[i]? = some (nd, ⟨P, K, R⟩)) (hy : y.1.size ≤ maxLen ∧ y.2.size ≤ maxLen)
    (ho : w'.ownsRow B 60 2 (.slice Ap (P.n + 1) cp) (P.n + 1) (propCells nd.props ++ [.string y.1, .string y.2])) (hg : w.grownBy w' (Value.slice P.A P.n P.c).ownBlock) (hnew : (Value.slice Ap (P.n + 1) cp).ownBlock = (Value.slice P.A P.n P.c).ownBlock ∨ (Value.slice Ap (P.n + 1) cp).ownBlock = some w.heap.size) :
    NP B (.slice (some ⟨g, 0, none⟩) n c) vw (l.set i ({ nd with props := nd.props ++ [y] }, ⟨⟨Ap, P.n + 1, cp⟩, K, R⟩)) ws (w'.setCell ⟨g, i * 7 + 4, none⟩ (.slice Ap (P.n + 1) cp)) := by
  have hp := h.leaf _ (List.mem_of_getElem? hi)
  have hkr : w.ownsRow B 60 2 (.slice P.A P.n P.c) P.n (propCells nd.props) := hp.p
  refine NP.store hl (World.ownsRow.kept h.own hg (own_own_ne h.own hkr (by decide))) (fun k x hk hx => ?_) ⟨?_, hp.kn, hp.rn, ?_, World.ownsRow.kept hp.k hg (own_own_ne hp.k hkr (by decide)), World.ownsRow.kept hp.r hg (own_own_ne hp.r hkr (by decide)), ⟨hp.sz.con, hp.sz.role, fun x hx => ?_, hp.sz.refs⟩⟩
    (World.ownsRow.kept h.way hg (own_own_ne h.way hkr (by decide))) hi (by omega) rfl ?_ ?_ ?_ (Nat.le_trans h.hB hg.size)
  · have hx2 := h.leaf _ (List.mem_of_getElem? hx)
    refine ⟨hx2.pn, hx2.kn, hx2.rn, World.ownsRow.kept hx2.p hg ?_, World.ownsRow.kept hx2.k hg (own_own_ne hx2.k hkr (by decide)), World.ownsRow.kept hx2.r hg (own_own_ne hx2.r hkr (by decide)), hx2.sz⟩
    exact h.ap i k _ _ (by omega) (getElem?_map_f pB hi) (getElem?_map_f pB hx)
  · have := hp.pn
    simp only [List.length_append, List.length_singleton] at this ⊢
    omega
  · simpa [propCells] using ho
  · rcases List.mem_append.1 hx with hx | hx
    · exact hp.sz.props x hx
    · obtain rfl : x = y := by simpa using hx
      exact hy
  · rw [List.map_set]
    refine h.ap.set (getElem?_map_f pB hi) ?_
    rcases hnew with hn | hn
    · exact .inl hn
    · right
      intro x hx
      obtain ⟨q, hq, rfl⟩ := List.mem_map.1 hx
      have := fresh_ne (h.leaf q hq).p
      rw [← hn] at this
      exact this
  · have e : (l.set i ({ nd with props := nd.props ++ [y] }, ⟨⟨Ap, P.n + 1, cp⟩, K, R⟩)).map kB = l.map kB := by
      rw [List.map_set]
      have e : kB ({ nd with props := nd.props ++ [y] }, ⟨⟨Ap, P.n + 1, cp⟩, K, R⟩) = kB (nd, ⟨P, K, R⟩) := rfl
      rw [e]
      obtain ⟨hlt, he⟩ := List.getElem?_eq_some_iff.1 (getElem?_map_f kB hi)
      rw [← he]
      exact List.set_getElem_self hlt
    rw [e]
    exact h.ak
  · rw [List.map_set]
    have e : rB ({ nd with props := nd.props ++ [y] }, ⟨⟨Ap, P.n + 1, cp⟩, K, R⟩) = rB (nd, ⟨P, K, R⟩) := rfl
    rw [e]
    exact h.ar.set (getElem?_map_f rB hi) (.inl rfl)
/-- a reference more of the node at place i -/
theorem NP.ref {n c g i : Nat} {nd : Nd} {P K R : Sl} {Ar : Option Addr} {cr : Nat} {y : ByteArray × Int} (h : NP B (.slice (some ⟨g, 0, none⟩) n c) vw l ws w) (hl : l.length = n) (hi : l[i]? = some (nd, ⟨P, K, R⟩)) (hy : y.1.size ≤ maxLen)
    (ho : w'.ownsRow B 62 2 (.slice Ar (R.n + 1) cr) (R.n + 1) (refCells nd.refs ++ [.string y.1, .int .i64 y.2])) (hg : w.grownBy w' (Value.slice R.A R.n R.c).ownBlock) (hnew : (Value.slice Ar (R.n + 1) cr).ownBlock = (Value.slice R.A R.n R.c).ownBlock ∨ (Value.slice Ar (R.n + 1) cr).ownBlock = some w.heap.size) :
    NP B (.slice (some ⟨g, 0, none⟩) n c) vw (l.set i ({ nd with refs := nd.refs ++ [y] }, ⟨P, K, ⟨Ar, R.n + 1, cr⟩⟩)) ws (w'.setCell ⟨g, i * 7 + 6, none⟩ (.slice Ar (R.n + 1) cr)) := by
  have hp := h.leaf _ (List.mem_of_getElem? hi)
  have hkr : w.ownsRow B 62 2 (.slice R.A R.n R.c) R.n (refCells nd.refs) := hp.r
  refine NP.store hl (World.ownsRow.kept h.own hg (own_own_ne h.own hkr (by decide))) (fun k x hk hx => ?_) ⟨hp.pn, hp.kn, ?_, World.ownsRow.kept hp.p hg (own_own_ne hp.p hkr (by decide)), World.ownsRow.kept hp.k hg (own_own_ne hp.k hkr (by decide)), ?_, ⟨hp.sz.con, hp.sz.role, hp.sz.props, fun x hx => ?_⟩⟩
    (World.ownsRow.kept h.way hg (own_own_ne h.way hkr (by decide))) hi (by omega) rfl ?_ ?_ ?_ (Nat.le_trans h.hB hg.size)
  · have hx2 := h.leaf _ (List.mem_of_getElem? hx)
    refine ⟨hx2.pn, hx2.kn, hx2.rn, World.ownsRow.kept hx2.p hg (own_own_ne hx2.p hkr (by decide)), World.ownsRow.kept hx2.k hg (own_own_ne hx2.k hkr (by decide)), World.ownsRow.kept hx2.r hg ?_, hx2.sz⟩
    exact h.ar i k _ _ (by omega) (getElem?_map_f rB hi) (getElem?_map_f rB hx)
  · have := hp.rn
    simp only [List.length_append, List.length_singleton] at this ⊢
    omega
  · simpa [refCells] using ho
  · rcases List.mem_append.1 hx with hx | hx
    · exact hp.sz.refs x hx
    · obtain rfl : x = y := by simpa using hx
      exact hy
  · rw [List.map_set]
    have e : pB ({ nd with refs := nd.refs ++ [y] }, ⟨P, K, ⟨Ar, R.n + 1, cr⟩⟩) = pB (nd, ⟨P, K, R⟩) := rfl
    rw [e]
    exact h.ap.set (getElem?_map_f pB hi) (.inl rfl)
  · have e : (l.set i ({ nd with refs := nd.refs ++ [y] }, ⟨P, K, ⟨Ar, R.n + 1, cr⟩⟩)).map kB = l.map kB := by
      rw [List.map_set]
      have e : kB ({ nd with refs := nd.refs ++ [y] }, ⟨P, K, ⟨Ar, R.n + 1, cr⟩⟩) = kB (nd, ⟨P, K, R⟩) := rfl
      rw [e]
      obtain ⟨hlt, he⟩ := List.getElem?_eq_some_iff.1 (getElem?_map_f kB hi)
      rw [← he]
      exact List.set_getElem_self hlt
    rw [e]
    exact h.ak
  · rw [List.map_set]
    refine h.ar.set (getElem?_map_f rB hi) ?_
    rcases hnew with hn | hn
    · exact .inl hn
    · right
      intro x hx
      obtain ⟨q, hq, rfl⟩ := List.mem_map.1 hx
      have := fresh_ne (h.leaf q hq).r
      rw [← hn] at this
      exact this
/-- the row of numbers: cut, and a number more -/
theorem NP.wayA {vw' : Value} {ws' : List Int} (h : NP B v vw l ws w) (ho : w'.ownsRow B 3 1 vw' ws'.length (intCells ws')) (hg : w.grownBy w' vw.ownBlock) (hnew : vw'.ownBlock = vw.ownBlock ∨ vw'.ownBlock = some w.heap.size) : NP B v vw' l ws' w' := by
  refine ⟨World.ownsRow.kept h.own hg (own_own_ne h.own h.way (by decide)), fun p hp => ?_, ho, h.ap, ?_, h.ar, Nat.le_trans h.hB hg.size⟩
  · have hx := h.leaf p hp
    refine ⟨hx.pn, hx.kn, hx.rn, World.ownsRow.kept hx.p hg (own_own_ne hx.p h.way (by decide)), World.ownsRow.kept hx.k hg ?_, World.ownsRow.kept hx.r hg (own_own_ne hx.r h.way (by decide)), hx.sz⟩
    obtain ⟨i, hi⟩ := List.getElem?_of_mem hp
    exact h.ak 0 (i + 1) _ _ (by omega) rfl (getElem?_map_kB hi _)
  · have e : (vw'.ownBlock :: l.map kB) = (vw.ownBlock :: l.map kB).set 0 vw'.ownBlock := rfl
    rw [e]
    refine h.ak.set (i := 0) rfl ?_
    rcases hnew with hn | hn
    · exact .inl hn
    · right
      intro x hx
      rw [hn]
      rcases List.mem_cons.1 hx with rfl | hx
      · exact fresh_ne h.way
      · obtain ⟨q, hq, rfl⟩ := List.mem_map.1 hx
        exact fresh_ne (h.leaf q hq).k
end
/-- what is left of a row of numbers when its end is cut off -/
theorem own_cut1 {w : World} {B n c k : Nat} {A : Option Addr} {ws : List Int} (h : w.ownsRow B 3 1 (.slice A n c) n (intCells ws)) (hk : k ≤ n) : w.ownsRow B 3 1 (.slice A k c) k (intCells (ws.take k)) := by
  by_cases hA : A = none
  · subst hA
    rcases h.2 with ⟨hv, hn⟩ | ⟨g, cap, cur, hv, _⟩
    · injection hv with _ _ hc
      subst hn hc
      obtain rfl : k = 0 := by omega
      rw [List.take_zero]
      exact World.ownsRow_nil _ _ _ _
    · injection hv with hv; cases hv
  · have := own_take h hk hA
    rw [Nat.mul_one] at this
    unfold intCells at this ⊢
    rw [List.map_take]
    exact this
end Go.Proofs.YtjjlofaejpnnnaaGreatDoor
