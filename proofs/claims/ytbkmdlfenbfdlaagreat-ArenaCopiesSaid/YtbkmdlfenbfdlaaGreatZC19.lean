/-
  PLAIN: which nodes are gone; the nodes that are left, one by one.
  PLAIN MATHEMATICS: copies of a part; a list of nodes with several more behind it.
  A node in the call's own memory, whose kids and targets are turned one by one; the map of new numbers.
  WALKS: the program's copies: what it holds.
-/
import Derived.Test.YtbkmdlfenbfdlaaGreatZC18
import Derived.Maps.OwnSet
import Derived.Maps.OwnOps
namespace Go.Proofs.YtbkmdlfenbfdlaaGreat
open Go Go.RowKit Go.Sort
set_option linter.unusedVariables false
/-- the document's marks: which nodes' numbers are among these -/
def goneB (nds : List Nd) (S : List Int) : List Bool := nds.map fun y => S.contains y.id
theorem goneB_set {nds : List Nd} (hr : Rise nds) {S : List Int} {j : Nat} {nd : Nd} (h : nds[j]? = some nd) : (goneB nds S).set j true = goneB nds (S ++ [nd.id]) := by
  unfold goneB
  apply List.ext_getElem?
  intro i
  rw [List.getElem?_set, List.getElem?_map, List.getElem?_map]
  by_cases e : j = i
  · subst e
    rw [if_pos rfl, if_pos (by rw [List.length_map]; exact (List.getElem?_eq_some_iff.1 h).1), h]
    simp
  · rw [if_neg e]
    cases hy : nds[i]? with
    | none => rfl
    | some y =>
      have hne : y.id ≠ nd.id := fun he => e (hr.inj h hy he.symm)
      simp [hne]
theorem pre_below {next : Int} {nds : List Nd} (hR : RightM next nds) {id : Int} {nd : Nd} (hx : ndOf nds id = some nd) : id :: belowV nds id = preI nds id := by
  unfold belowV
  rw [preI_eq hR hx, kidsV_of hx]
/-- the nodes that are left, of the first ones -/
def leftV (S : List Int) (t : List Nd) : List Nd := t.filter fun y => !S.contains y.id
theorem removeL_left (nds : List Nd) (id : Int) : removeL nds id = leftV (preI nds id) (takeL nds id) := rfl
/-- taking turns no number -/
theorem takeL_ids {nds : List Nd} {id : Int} {k : Nat} {nd : Nd} (h : nds[k]? = some nd) : (takeL nds id)[k]? = some (takeF (parV nds id) id nd) ∧ (takeF (parV nds id) id nd).id = nd.id := by
  unfold takeL
  rw [List.getElem?_map, h]
  exact ⟨rfl, takeF_id ..⟩
end Go.Proofs.YtbkmdlfenbfdlaaGreat
namespace Go.Proofs.YtbkmdlfenbfdlaaGreat
open Go Go.RowKit
set_option linter.unusedVariables false
def ndD (nds : List Nd) (y : Int) : Nd := (ndOf nds y).getD ⟨0, ⟨#[]⟩, 0, ⟨#[]⟩, [], [], []⟩
theorem ndD_of {nds : List Nd} {y : Int} {nd : Nd} (h : ndOf nds y = some nd) : ndD nds y = nd := by unfold ndD; rw [h]; rfl
/-- the new number of a node of the part -/
def freV (next : Int) (S : List Int) (y : Int) : Int := next + idxV S y
/-- .. and of a target -/
def freT (next : Int) (S : List Int) (y : Int) : Int := if S.contains y = true then freV next S y else y
def cpRefs (next : Int) (S : List Int) (l : List (ByteArray × Int)) : List (ByteArray × Int) := l.map fun r => (r.1, freT next S r.2)
def cpKids (next : Int) (S : List Int) (l : List Int) : List Int := l.map (freV next S)
def cpNd (next : Int) (S : List Int) (p0 : Int) (i : Nat) (nd : Nd) : Nd :=
  ⟨next + i, nd.con, if i = 0 then p0 else freV next S nd.par, nd.role, nd.props, cpKids next S nd.kids, cpRefs next S nd.refs⟩
/-- the copies of the first k of a part -/
def cpsV (next : Int) (nds : List Nd) (S : List Int) (p0 : Int) (k : Nat) : List Nd := (List.range k).map fun i => cpNd next S p0 i (ndD nds (S.getD i 0))
section
variable {next p0 : Int} {nds cs : List Nd} {S : List Int} {i k : Nat}
theorem cpsV_len (next : Int) (nds : List Nd) (S : List Int) (p0 : Int) (k : Nat) : (cpsV next nds S p0 k).length = k := by unfold cpsV; simp
theorem cpsV_succ {y : Int} {nd : Nd} (hy : S[k]? = some y) (hx : ndOf nds y = some nd) : cpsV next nds S p0 (k + 1) = cpsV next nds S p0 k ++ [cpNd next S p0 k nd] := by
  unfold cpsV
  rw [List.range_succ, List.map_append, List.map_cons, List.map_nil, List.getD_eq_getElem?_getD, hy, Option.getD_some, ndD_of hx]
theorem cpsV_id {x : Nd} (h : (cpsV next nds S p0 k)[i]? = some x) : x.id = next + i := by
  unfold cpsV at h
  rw [List.getElem?_map] at h
  rcases Nat.lt_or_ge i k with hi | hi
  · rw [List.getElem?_range hi] at h
    injection h with h
    rw [← h]; rfl
  · rw [List.getElem?_eq_none (by simpa using hi)] at h; cases h
theorem cpsV_head (hS : 0 < k) : ∃ cs, cpsV next nds S p0 k = cpNd next S p0 0 (ndD nds (S.getD 0 0)) :: cs ∧ ∀ q, cpsV next nds S q k = cpNd next S q 0 (ndD nds (S.getD 0 0)) :: cs := by
  obtain ⟨k, rfl⟩ : ∃ j, k = j + 1 := ⟨k - 1, by omega⟩
  refine ⟨(List.range k).map (fun i => cpNd next S p0 (i + 1) (ndD nds (S.getD (i + 1) 0))), ?_, fun q => ?_⟩
  · unfold cpsV; rw [List.range_succ_eq_map, List.map_cons, List.map_map]; rfl
  · unfold cpsV; rw [List.range_succ_eq_map, List.map_cons, List.map_map]
    congr 1
theorem idxV_nd {y : Int} (hn : S.Nodup) (h : S[i]? = some y) : idxV S y = i := by
  obtain ⟨hl, hx⟩ := List.getElem?_eq_some_iff.1 h
  have e : S = S.take i ++ y :: S.drop (i + 1) := by rw [← hx, ← List.drop_eq_getElem_cons hl, List.take_append_drop]
  have h1 := idx_nodup (pre := S.take i) (r := S.drop (i + 1)) (k := y) (by rw [← e]; exact hn)
  rw [← e] at h1
  rw [h1, List.length_take, Nat.min_eq_left (by omega)]
end
/-- nodes behind others, numbered on -/
structure Behind (next : Int) (nds cs : List Nd) : Prop where
  rise : Rise nds
  lo : 1 ≤ next
  lt : ∀ (i : Nat) x, nds[i]? = some x → x.id < next
  ids : ∀ (i : Nat) x, cs[i]? = some x → x.id = next + i
  len : nds.length + cs.length ≤ 4096
section
variable {next : Int} {nds cs : List Nd}
theorem Behind.key (h : Behind next nds cs) {i : Nat} {x : Nd} (hx : (nds ++ cs)[i]? = some x) : nds[i]? = some x ∨ (nds.length ≤ i ∧ x.id = next + (i - nds.length : Nat)) := by
  rcases Nat.lt_or_ge i nds.length with hi | hi
  · rw [List.getElem?_append_left hi] at hx; exact .inl hx
  · rw [List.getElem?_append_right hi] at hx; exact .inr ⟨hi, h.ids _ _ hx⟩
theorem Behind.riseA (h : Behind next nds cs) : Rise (nds ++ cs) := by
  have h1 := h.lo
  refine ⟨fun i x hx => ?_, fun i j x y hij hx hy => ?_⟩
  · rcases h.key hx with h2 | ⟨_, h2⟩
    · exact h.rise.pos i x h2
    · omega
  · rcases h.key hy with h2 | ⟨hj, h2⟩
    · rcases h.key hx with h3 | ⟨hi, h3⟩
      · exact h.rise.lt i j x y hij h3 h2
      · have := (List.getElem?_eq_some_iff.1 h2).1; omega
    · rcases h.key hx with h3 | ⟨hi, h3⟩
      · have := h.lt i x h3; omega
      · omega
theorem ixOf_app {k : Int} {i : Nat} (h : ixOf nds k = some i) : ixOf (nds ++ cs) k = some i := by
  unfold ixOf at h ⊢
  rw [List.findIdx?_append, h]; rfl
theorem ndOf_app {k : Int} {x : Nd} (h : ndOf nds k = some x) : ndOf (nds ++ cs) k = some x := by
  obtain ⟨i, h1, h2, _⟩ := ndOf_some h
  unfold ndOf
  rw [ixOf_app h1]
  show (nds ++ cs)[i]? = some x
  rw [List.getElem?_append_left (List.getElem?_eq_some_iff.1 h2).1]
  exact h2
theorem Behind.kOk (h : Behind next nds cs) {nd : Nd} (hk : KOk nds nd) : KOk (nds ++ cs) nd := by
  refine ⟨h.riseA, by rw [List.length_append]; exact h.len, hk.kl, fun k hk' => ?_⟩
  obtain ⟨x, hx⟩ := hk.kids k hk'
  exact ⟨x, ndOf_app hx⟩
end
/-- a kid more at a node -/
def inKid (nds : List Nd) (parent : Int) (a : Nat) (id : Int) : List Nd := if parent = 0 then nds else match ndOf nds parent with
  | none => nds
  | some x => nds.set ((ixOf nds parent).getD 0) { x with kids := insAt x.kids a id }
theorem inKid_len (nds : List Nd) (parent : Int) (a : Nat) (id : Int) : (inKid nds parent a id).length = nds.length := by
  unfold inKid
  split
  · rfl
  · split
    · rfl
    · rw [List.length_set]
section
variable (w : World) (B : Nat) (next parent at_ ri : Int) (role : ByteArray) (L M g n c : Nat) (l : List (Nd × Leaf)) (nds cs : List Nd) (c0 : Nd)
theorem set_mid (nds cs : List Nd) (c0 y : Nd) : (nds ++ c0 :: cs).set nds.length y = nds ++ y :: cs := by
  rw [List.set_append_right _ _ (Nat.le_refl _), Nat.sub_self, List.set_cons_zero]
theorem set_ahead (nds cs : List Nd) {j : Nat} (hj : j < nds.length) (y : Nd) : (nds ++ cs).set j y = nds.set j y ++ cs := List.set_append_left _ _ hj
/-- the program's put of a node that came with others -/
theorem put_cp (h : OwnM w B (.slice (some ⟨g, 0, none⟩) n c) l) (hn : l.length = n) (hm : l.map (·.1) = nds ++ c0 :: cs) (hT : LaxM next nds) (hB : Behind next nds (c0 :: cs)) (hs : role.size ≤ maxLen) (ha : admV next nds parent role at_ L M = (ri, 0)) (nx : Int) :
    Calls Tryz.prog 47 #[.agg #[.int .i64 nx, .slice (some ⟨g, 0, none⟩) n c], .int .i64 next, .agg #[.int .i64 parent, .string role, .int .i64 at_], .int .i64 ri] w (PutPost w B g n c (inKid nds parent ri.toNat next ++ { c0 with par := parent, role := role } :: cs)) := by
  have hrA := hB.riseA
  rw [← hm] at hrA
  have hn4 : n ≤ 4096 := by have := congrArg List.length hm; rw [List.length_map, List.length_append] at this; have := hB.len; omega
  have hc0 : c0.id = next := by have := hB.ids 0 c0 rfl; simpa using this
  have hi : (l.map (·.1))[nds.length]? = some c0 := by rw [hm, List.getElem?_append_right (Nat.le_refl _), Nat.sub_self]; rfl
  rw [List.getElem?_map] at hi
  cases hl : l[nds.length]? with
  | none => rw [hl] at hi; cases hi
  | some q =>
    rw [hl] at hi
    obtain rfl : q.1 = c0 := by simpa using hi
    by_cases h0 : parent = 0
    · refine put_any w B nx next ri parent at_ role g n c l h hn hn4 hrA nds.length q hl hc0 hs 0 0 q.1 q.2 (fun h => absurd h0 h) _ ?_
      rw [if_pos h0, hm, set_mid]; unfold inKid; rw [if_pos h0]
    · obtain ⟨_, _, _, _, hx⟩ := adm_lax hT ha
      obtain ⟨x, jj, a, j1, j2, j3, j4, j5, j6, j7, j8⟩ := hx h0
      have hjl := (List.getElem?_eq_some_iff.1 j3).1
      have j3' : (l.map (·.1))[jj]? = some x := by rw [hm, List.getElem?_append_left hjl]; exact j3
      rw [List.getElem?_map] at j3'
      cases hq : l[jj]? with
      | none => rw [hq] at j3'; cases j3'
      | some y =>
        rw [hq] at j3'
        obtain rfl : y.1 = x := by simpa using j3'
        refine put_any w B nx next ri parent at_ role g n c l h hn hn4 hrA nds.length q hl hc0 hs jj a y.1 y.2 (fun _ => ⟨hq, j4, by omega, j6, j7.kl, j5⟩) _ ?_
        rw [if_neg h0, hm, set_mid, set_ahead _ _ hjl]; unfold inKid; rw [if_neg h0, j1, j2, j5, Int.toNat_natCast]; rfl
end
section
variable {next : Int} {nds : List Nd}
/-- a part holds the kids of its nodes -/
theorem part_kids (hr : RightM next nds) : ∀ (f : Nat) (x : Int) (nd : Nd), ndOf nds x = some nd → depthV nds x + f = 65 → ∀ y ∈ preI nds x, ∀ nd', ndOf nds y = some nd' → ∀ k ∈ nd'.kids, k ∈ preI nds x
  | 0, x, nd, hx, hf, _, _, _, _, _, _ => by have := (hr.depth hx).2.2; omega
  | f + 1, x, nd, hx, hf, y, hy, nd', hy', k, hk => by
    rw [preI_eq hr hx, List.mem_cons, List.mem_flatMap] at hy
    rw [preI_eq hr hx, List.mem_cons, List.mem_flatMap]
    rcases hy with rfl | ⟨z, hz, hyz⟩
    · rw [hx] at hy'
      injection hy' with hy'
      subst hy'
      exact .inr ⟨k, hk, mem_self k⟩
    · obtain ⟨zn, hzn, _, hzd⟩ := kid_depth hr hx hz
      exact .inr ⟨z, hz, part_kids hr f z zn hzn (by omega) y hyz nd' hy' k hk⟩
/-- .. and the parents, but for its first one's -/
theorem part_par (hr : RightM next nds) : ∀ (f : Nat) (x : Int) (nd : Nd), ndOf nds x = some nd → depthV nds x + f = 65 → ∀ y ∈ preI nds x, y ≠ x → ∀ nd', ndOf nds y = some nd' → nd'.par ∈ preI nds x
  | 0, x, nd, hx, hf, _, _, _, _, _ => by have := (hr.depth hx).2.2; omega
  | f + 1, x, nd, hx, hf, y, hy, hne, nd', hy' => by
    have hy0 := hy
    rw [preI_eq hr hx, List.mem_cons, List.mem_flatMap] at hy
    rcases hy with rfl | ⟨z, hz, hyz⟩
    · exact absurd rfl hne
    · obtain ⟨zn, hzn, hzp, hzd⟩ := kid_depth hr hx hz
      by_cases h : y = z
      · subst h
        rw [hzn] at hy'
        injection hy' with hy'
        subst hy'
        rw [hzp]
        exact mem_self x
      · rw [preI_eq hr hx, List.mem_cons, List.mem_flatMap]
        exact .inr ⟨z, hz, part_par hr f z zn hzn (by omega) y hyz h nd' hy'⟩
end
/-- the error that Copy tells -/
def copyE (next : Int) (nds : List Nd) (id parent : Int) (role : ByteArray) (at_ : Int) : Int :=
  if rightB next nds = false then 29 else if (parent == 0 || wordB role) = false then 2 else if (ndOf nds id).isNone = true then 20
  else (admV next nds parent role at_ (hiV nds id) (preI nds id).length).2
/-- the nodes behind it -/
def copyL (next : Int) (nds : List Nd) (id parent : Int) (role : ByteArray) (at_ : Int) : List Nd :=
  match cpsV next nds (preI nds id) 0 (preI nds id).length with
  | [] => nds
  | c0 :: cs => inKid nds parent (admV next nds parent role at_ (hiV nds id) (preI nds id).length).1.toNat next ++ { c0 with par := parent, role := role } :: cs
/-- what Copy answers -/
def CopyPost (w : World) (next : Int) (nds : List Nd) (id parent : Int) (role : ByteArray) (at_ : Int) (e : Ending) (w' : World) : Prop :=
  ∃ (nx i : Int) (A : Option Addr) (m c : Nat), e = .returned (.tuple #[.agg #[.int .i64 nx, .slice A m c], .int .i64 i, .int .i64 (copyE next nds id parent role at_)]) ∧ Below w.heap.size w w' ∧
    (copyE next nds id parent role at_ ≠ 0 → nx = 0 ∧ i = 0 ∧ A = none ∧ m = 0 ∧ c = 0) ∧
    (copyE next nds id parent role at_ = 0 → nx = next + (preI nds id).length ∧ i = next ∧ ∃ l, OwnM w' w.heap.size (.slice A m c) l ∧ l.length = m ∧ l.map (·.1) = copyL next nds id parent role at_)
theorem copyL_of {next p0 : Int} {nds cs : List Nd} {c0 : Nd} {id parent ri : Int} {role : ByteArray} {at_ : Int} (h : cpsV next nds (preI nds id) p0 (preI nds id).length = c0 :: cs) (ha : (admV next nds parent role at_ (hiV nds id) (preI nds id).length).1 = ri) :
    copyL next nds id parent role at_ = inKid nds parent ri.toNat next ++ { c0 with par := parent, role := role } :: cs := by
  obtain ⟨k, hk⟩ : ∃ k, (preI nds id).length = k := ⟨_, rfl⟩
  have hk0 : 0 < k := by
    have h1 := congrArg List.length h
    rw [cpsV_len, hk, List.length_cons] at h1
    omega
  obtain ⟨cs', h1, h2⟩ := cpsV_head (next := next) (p0 := p0) (nds := nds) (S := preI nds id) hk0
  unfold copyL
  rw [hk] at h ha ⊢
  rw [h2 0, ha]
  rw [h1] at h
  injection h with h3 h4
  subst h3 h4
  rfl
end Go.Proofs.YtbkmdlfenbfdlaaGreat
namespace Go.Proofs.YtbkmdlfenbfdlaaGreat
open Go Go.RowKit Go.Maps
set_option linter.unusedVariables false
/-- a list of which the first q have turned -/
def mapTo {α : Type} (f : α → α) (l : List α) (q : Nat) : List α := (l.take q).map f ++ l.drop q
section
variable {α : Type} {f : α → α} {l : List α} {q : Nat} {x : α}
theorem mapTo_zero (f : α → α) (l : List α) : mapTo f l 0 = l := by unfold mapTo; simp
theorem mapTo_all (f : α → α) (l : List α) {q : Nat} (h : q = l.length) : mapTo f l q = l.map f := by unfold mapTo; subst h; simp
theorem mapTo_len (f : α → α) (l : List α) (q : Nat) : (mapTo f l q).length = l.length := by unfold mapTo; simp; omega
theorem mapTo_get (h : l[q]? = some x) : (mapTo f l q)[q]? = some x := by
  have hl := (List.getElem?_eq_some_iff.1 h).1
  unfold mapTo
  rw [List.getElem?_append_right (by simp; omega), List.length_map, List.length_take, Nat.min_eq_left (by omega), Nat.sub_self, List.getElem?_drop]
  exact h
theorem mapTo_set (h : l[q]? = some x) : (mapTo f l q).set q (f x) = mapTo f l (q + 1) := by
  obtain ⟨hl, hx⟩ := List.getElem?_eq_some_iff.1 h
  have hlt : ((l.take q).map f).length = q := by simp; omega
  unfold mapTo
  rw [List.set_append_right _ _ (by omega), hlt, Nat.sub_self, List.drop_eq_getElem_cons hl, List.set_cons_zero, List.take_add_one, h, List.map_append, List.append_assoc]
  rfl
theorem mapTo_same (h : l[q]? = some x) (hf : f x = x) : mapTo f l (q + 1) = mapTo f l q := by
  rw [← mapTo_set h, hf]
  obtain ⟨h1, h2⟩ := List.getElem?_eq_some_iff.1 (mapTo_get (f := f) h)
  rw [← h2, List.set_getElem_self]
end
theorem intCells_set (l : List Int) (q : Nat) (x : Int) : (intCells l).set q (.int .i64 x) = intCells (l.set q x) := by unfold intCells; rw [List.map_set]
theorem refCells_set {l : List (ByteArray × Int)} {q : Nat} {r : ByteArray × Int} (h : l[q]? = some r) (x : Int) : (refCells l).set (q * 2 + 1) (.int .i64 x) = refCells (l.set q (r.1, x)) := by
  obtain ⟨hl, hx⟩ := List.getElem?_eq_some_iff.1 h
  have e : l = l.take q ++ r :: l.drop (q + 1) := by rw [← hx, ← List.drop_eq_getElem_cons hl, List.take_append_drop]
  have hlt : (l.take q).length = q := by simp; omega
  have e2 : l.set q (r.1, x) = l.take q ++ (r.1, x) :: l.drop (q + 1) := by
    conv => lhs; rw [e]
    rw [List.set_append_right _ _ (by omega), hlt, Nat.sub_self, List.set_cons_zero]
  have hfl : ((l.take q).flatMap fun p => [Value.string p.1, Value.int .i64 p.2]).length = q * 2 := by
    have := refCells_length (l.take q); unfold refCells at this; rw [this, hlt]
  rw [e2]
  conv => lhs; rw [e]
  unfold refCells
  rw [List.flatMap_append, List.flatMap_append, List.set_append_right _ _ (by omega), hfl, show q * 2 + 1 - q * 2 = 1 from by omega]
  rfl
/-- a node in a box of the call's own, with lists of the call's own, all of them younger than a world -/
structure CN (wr : World) (gn : Nat) (nd : Nd) (L : Leaf) (X : World) : Prop where
  bel : Below wr.heap.size wr X
  box : Blk X gn 41 #[.int .i64 nd.id, .string nd.con, .int .i64 nd.par, .string nd.role, .slice L.p.A L.p.n L.p.c, .slice L.k.A L.k.n L.k.c, .slice L.r.A L.r.n L.r.c]
  leaf : OwnLeaf X wr.heap.size nd L
  le : wr.heap.size ≤ gn
section
variable {wr X X' : World} {gn : Nat} {nd : Nd} {L : Leaf}
theorem CN.after (h : CN wr gn nd L X) (hb : Below X.heap.size X X') : CN wr gn nd L X' := ⟨h.bel.trans (hb.mono h.bel.size), h.box.after hb, h.leaf.after hb, h.le⟩
theorem CN.setId (h : CN wr gn nd L X) (x : Int) : CN wr gn { nd with id := x } L (X.setCell ⟨gn, 0, none⟩ (.int .i64 x)) :=
  ⟨below_set h.bel h.le, h.box.set_ 0 _, h.leaf.other h.box (by decide) (by decide) (by decide) 0 _ |> fun l => ⟨l.pn, l.kn, l.rn, l.p, l.k, l.r, ⟨l.sz.con, l.sz.role, l.sz.props, l.sz.refs⟩⟩, h.le⟩
theorem CN.setPar (h : CN wr gn nd L X) (x : Int) : CN wr gn { nd with par := x } L (X.setCell ⟨gn, 2, none⟩ (.int .i64 x)) :=
  ⟨below_set h.bel h.le, h.box.set_ 2 _, h.leaf.other h.box (by decide) (by decide) (by decide) 2 _ |> fun l => ⟨l.pn, l.kn, l.rn, l.p, l.k, l.r, ⟨l.sz.con, l.sz.role, l.sz.props, l.sz.refs⟩⟩, h.le⟩
theorem own_stored_other {w : World} {B B' g c' n n' size size' : Nat} {e e' : TypeId} {v : Value} {xs xs' : List Value} (h : w.ownsRow B e size v n xs) (h' : w.ownsRow B' e' size' (.slice (some ⟨g, 0, none⟩) n' c') n' xs') (hne : e ≠ e') (j : Nat) (u : Value) : (w.setCell ⟨g, j, none⟩ u).ownsRow B e size v n xs := by
  obtain ⟨cs, hg, _, _⟩ := own_blk h'
  exact own_other h hg hne j u
theorem own_blk_far {w : World} {B' g c' n' size' g0 : Nat} {e' t : TypeId} {cs : Array Value} {xs' : List Value} (h : Blk w g0 t cs) (h' : w.ownsRow B' e' size' (.slice (some ⟨g, 0, none⟩) n' c') n' xs') (hne : t ≠ e') (j : Nat) (u : Value) : Blk (w.setCell ⟨g, j, none⟩ u) g0 t cs := by
  obtain ⟨cs', hg, _, _⟩ := own_blk h'
  exact h.far (p := ⟨g, j, none⟩) (h.ne_ hg hne) u
theorem CN.kid {q : Nat} (h : CN wr gn nd L X) (hq : q < nd.kids.length) : ∃ gk, L.k.A = some ⟨gk, 0, none⟩ ∧ L.k.n ≤ L.k.c ∧ L.k.c ≤ 9223372036854775807 ∧ wr.heap.size ≤ gk ∧
    (∀ x, nd.kids[q]? = some x → X.cell? ⟨gk, q, none⟩ = some (.int .i64 x)) ∧ X.frozen? ⟨gk, q, none⟩ = false ∧ ∀ x, CN wr gn { nd with kids := nd.kids.set q x } L (X.setCell ⟨gk, q, none⟩ (.int .i64 x)) := by
  obtain ⟨⟨Ap, np, cp⟩, ⟨Ak, nk, ck⟩, ⟨Ar, nr, cr⟩⟩ := L
  have hk := h.leaf.k
  have hkn := h.leaf.kn
  simp only at hk hkn ⊢
  rcases hk.2 with ⟨_, h0⟩ | ⟨g, cap, cur, hv, hB, hg, hnc, hcm, _, _⟩
  · omega
  · simp only [Value.slice.injEq, true_and] at hv
    obtain ⟨rfl, rfl⟩ := hv
    refine ⟨g, rfl, hnc, by unfold maxLen at hcm; omega, hB, fun x hx => ?_, World.ownsRow.frozenAt hk q, fun x => ⟨below_set h.bel hB, own_blk_far h.box hk (by decide) q _, ⟨h.leaf.pn, by simpa using hkn, h.leaf.rn, own_stored_other h.leaf.p hk (by decide) q _, ?_, own_stored_other h.leaf.r hk (by decide) q _, ⟨h.leaf.sz.con, h.leaf.sz.role, h.leaf.sz.props, h.leaf.sz.refs⟩⟩, h.le⟩⟩
    · rw [World.ownsRow.cellAt hk q (by omega)]
      exact intCells_get hx
    · have := (World.ownsRow.stored hk q (.int .i64 x)).1
      rw [intCells_set] at this
      exact this
theorem CN.ref {q : Nat} {r : ByteArray × Int} (h : CN wr gn nd L X) (hq : nd.refs[q]? = some r) : ∃ gk, L.r.A = some ⟨gk, 0, none⟩ ∧ L.r.n ≤ L.r.c ∧ L.r.c ≤ 9223372036854775807 ∧ wr.heap.size ≤ gk ∧
    X.cell? ⟨gk, q * 2, none⟩ = some (.string r.1) ∧ X.cell? ⟨gk, q * 2 + 1, none⟩ = some (.int .i64 r.2) ∧ X.frozen? ⟨gk, q * 2 + 1, none⟩ = false ∧ ∀ x, CN wr gn { nd with refs := nd.refs.set q (r.1, x) } L (X.setCell ⟨gk, q * 2 + 1, none⟩ (.int .i64 x)) := by
  obtain ⟨⟨Ap, np, cp⟩, ⟨Ak, nk, ck⟩, ⟨Ar, nr, cr⟩⟩ := L
  have hql := (List.getElem?_eq_some_iff.1 hq).1
  have hk := h.leaf.r
  have hkn := h.leaf.rn
  simp only at hk hkn ⊢
  rcases hk.2 with ⟨_, h0⟩ | ⟨g, cap, cur, hv, hB, hg, hnc, hcm, _, _⟩
  · omega
  · simp only [Value.slice.injEq, true_and] at hv
    obtain ⟨rfl, rfl⟩ := hv
    refine ⟨g, rfl, hnc, by unfold maxLen at hcm; omega, hB, ?_, ?_, World.ownsRow.frozenAt hk _, fun x => ⟨below_set h.bel hB, own_blk_far h.box hk (by decide) _ _, ⟨h.leaf.pn, h.leaf.kn, by simpa using hkn, own_stored_other h.leaf.p hk (by decide) _ _, own_stored_other h.leaf.k hk (by decide) _ _, ?_, ⟨h.leaf.sz.con, h.leaf.sz.role, h.leaf.sz.props, fun p hp => ?_⟩⟩, h.le⟩⟩
    · rw [World.ownsRow.cellAt hk _ (by omega)]
      exact (refCells_get hq).1
    · rw [World.ownsRow.cellAt hk _ (by omega)]
      exact (refCells_get hq).2
    · have := (World.ownsRow.stored hk (q * 2 + 1) (.int .i64 x)).1
      rw [refCells_set hq] at this
      exact this
    · rcases List.mem_or_eq_of_mem_set hp with hp | rfl
      · exact h.leaf.sz.refs p hp
      · exact h.leaf.sz.refs r (List.mem_of_getElem? hq)
end
/-- the map of the new numbers, behind k rounds -/
def DM (next : Int) (S : List Int) : Nat → DataW Unit
  | 0 => .map []
  | k + 1 => (DM next S k).put (.int .i64 (S.getD k 0)) (.lit (.int .i64 (next + k)))
theorem DM_map (next : Int) (S : List Int) : ∀ k, IsMap (DM next S k)
  | 0 => isMap_empty
  | k + 1 => (DM_map next S k).put _ _
theorem key_ne {x y : Int} (h : x ≠ y) : (Lit.int .i64 x) ≠ (Lit.int .i64 y) := fun e => h (by injection e)
theorem DM_has (next : Int) (S : List Int) (y : Int) : ∀ k, k ≤ S.length → has (DM next S k) (.int .i64 y) = (S.take k).contains y
  | 0, _ => by rw [List.take_zero]; rfl
  | k + 1, hk => by
    obtain ⟨x, hg⟩ : ∃ x, S[k]? = some x := ⟨S[k]'(by omega), List.getElem?_eq_getElem _⟩
    have hx : S.getD k 0 = x := by rw [List.getD_eq_getElem?_getD, hg]; rfl
    rw [DM, List.take_add_one, hg, hx]
    by_cases h : y = x
    · subst h
      rw [has_put_same (DM_map next S k) (by trivial)]
      simp
    · rw [has_put_other (key_ne h), DM_has next S y k (by omega), Bool.eq_iff_iff]
      simp [h]
theorem DM_at (next : Int) (S : List Int) (hn : S.Nodup) (y : Int) (z : DataW Unit) : ∀ k, k ≤ S.length → y ∈ S.take k → (DM next S k).atKey (.int .i64 y) z = .lit (.int .i64 (freV next S y))
  | 0, _, h => by simp at h
  | k + 1, hk, h => by
    obtain ⟨x, hg⟩ : ∃ x, S[k]? = some x := ⟨S[k]'(by omega), List.getElem?_eq_getElem _⟩
    have hx : S.getD k 0 = x := by rw [List.getD_eq_getElem?_getD, hg]; rfl
    rw [DM, hx]
    by_cases he : y = x
    · subst he
      rw [atKey_put_same (DM_map next S k) (by trivial)]
      unfold freV
      rw [idxV_nd hn hg]
    · rw [atKey_put_other (key_ne he)]
      rw [List.take_add_one, hg] at h
      exact DM_at next S hn y z k (by omega) (by simpa [he] using h)
/-- the block of a map of new numbers -/
def FMap (X : World) (b : Nat) (next : Int) (S : List Int) (k : Nat) : Prop := X.ownsMap (H := Unit) Tryz.prog 3 (plainElem Tryz.prog 3) b k (DM next S k)
theorem FMap.after {X X' : World} {b : Nat} {next : Int} {S : List Int} {k : Nat} (h : FMap X b next S k) (hb : Below X.heap.size X X') : FMap X' b next S k :=
  World.ownsMap.kept (row := none) h ⟨hb.os, hb.tape, hb.output, hb.size, fun j hj _ => hb.block j hj⟩ (by simp)
theorem FMap.lt {X : World} {b : Nat} {next : Int} {S : List Int} {k : Nat} (h : FMap X b next S k) : b < X.heap.size := World.ownsMap.lt h
end Go.Proofs.YtbkmdlfenbfdlaaGreat
namespace Go.Proofs.YtbkmdlfenbfdlaaGreat
open Go Go.RowKit Go.Sort Go.Maps
set_option linter.unusedVariables false
attribute [local go_sem ↓] Go.wp_at_zero Go.wp_at_succ
theorem zeroInt (w : World) : (zeroValue 3).run Tryz.prog w = .ok (.int .i64 0) w := by kernel_rfl
section
variable {ops : Array Oper} {rest : List Oper} {o : Oper} {a : Act} {Q : Exit → Act → World → Prop}
/-- a look-up of a node of the part -/
theorem look_any (w : World) (hg : o.guard = none) (m x : Operand) (hop : o.op = Op.lookup 120 m x false) (b : Nat) (next y : Int) (S : List Int) (hm : a.eval m = .map (some b)) (hF : FMap w b next S S.length) (hn : S.Nodup)
    (hx : a.eval x = .int .i64 y) (hw : (Lit.int .i64 y).wf = true) (hy : y ∈ S) (hK : wpList Tryz.prog ops Q rest (a.put o.dst (.int .i64 (freV next S y))) w) : wpList Tryz.prog ops Q (o :: rest) a w := by
  refine wpList_lookup_own_int (H := Unit) w hg m x 120 hop 3 3 .i64 (int_keyed Tryz.underlying3) Tryz.underlying120 Tryz.underlying3 (zeroInt _) b S.length _ hm hF _ _ hx (keyOf_int_mk Tryz.underlying3 hw) (fun c hat _ => ?_)
  rw [DM_at next S hn y _ S.length (Nat.le_refl _) (by rw [List.take_length]; exact hy)] at hat
  injection hat with hat
  injection hat with _ hat
  rw [← hat]
  exact hK
/-- a look-up of any number, and whether it is there -/
theorem look_ok_any (w : World) (hg : o.guard = none) (m x : Operand) (hop : o.op = Op.lookup 120 m x true) (b : Nat) (next y : Int) (S : List Int) (hm : a.eval m = .map (some b)) (hF : FMap w b next S S.length) (hn : S.Nodup)
    (hx : a.eval x = .int .i64 y) (hw : (Lit.int .i64 y).wf = true) (hK : ∀ v, (S.contains y = true → v = freV next S y) → wpList Tryz.prog ops Q rest (a.put o.dst (.tuple #[.int .i64 v, .bool (S.contains y)])) w) : wpList Tryz.prog ops Q (o :: rest) a w := by
  refine wpList_lookup_own_ok_int (H := Unit) w hg m x 120 hop 3 3 .i64 (int_keyed Tryz.underlying3) Tryz.underlying120 Tryz.underlying3 (zeroInt _) b S.length _ hm hF _ _ hx (keyOf_int_mk Tryz.underlying3 hw) (fun v hat _ => ?_)
  have hh := DM_has next S y S.length (Nat.le_refl _)
  rw [List.take_length] at hh
  rw [hh]
  refine hK v fun hc => ?_
  rw [DM_at next S hn y _ S.length (Nat.le_refl _) (by rw [List.take_length]; exact List.contains_iff_mem.1 hc)] at hat
  injection hat with hat
  injection hat with _ hat
  exact hat.symm
end
theorem FMap.ne {X : World} {b g k : Nat} {next : Int} {S : List Int} {t : TypeId} {cs : Array Value} (h : FMap X b next S k) (hg : Blk X g t cs) : b ≠ g := by
  rintro rfl
  obtain ⟨es, cl, h1, _⟩ := h
  unfold Blk at hg
  rw [h1] at hg
  injection hg with hg
  cases hg
theorem FMap.far {X : World} {b k : Nat} {next : Int} {S : List Int} (h : FMap X b next S k) {a : Addr} (ha : b ≠ a.block) (u : Value) : FMap (X.setCell a u) b next S k := World.ownsMap.setCell h ha u
/-- the boxes of copies, and its map -/
structure CMp (w : World) (next : Int) (A : Option Addr) (n c b : Nat) (S : List Int) (k : Nat) (X : World) : Prop where
  m : Blk X w.heap.size 26 #[.int .i64 next, .slice A n c]
  f : FMap X b next S k
  bel : Below w.heap.size w X
  le : w.heap.size ≤ b
section
variable {w X X' : World} {next : Int} {A : Option Addr} {n c b k : Nat} {S : List Int}
theorem CMp.after (h : CMp w next A n c b S k X) (hb : Below X.heap.size X X') : CMp w next A n c b S k X' := ⟨h.m.after hb, h.f.after hb, h.bel.trans (hb.mono h.bel.size), h.le⟩
theorem CMp.more (h : CMp w next A n c b S k X) {y : Int} (hy : S[k]? = some y) (hf : X'.ownsMap (H := Unit) Tryz.prog 3 (plainElem Tryz.prog 3) b (k + 1) ((DM next S k).put (.int .i64 y) (.lit (.int .i64 (next + k))))) (hg : X.grownBy X' (some b)) : CMp w next A n c b S (k + 1) X' :=
  ⟨h.m.grown hg (fun e => h.f.ne h.m (by injection e with e; exact e.symm)), by
    unfold FMap
    rw [DM, List.getD_eq_getElem?_getD, hy]
    exact hf, h.bel.grown hg h.bel.size (fun j hj => by injection hj with hj; rw [← hj]; exact h.le), h.le⟩
end
/-- .. and the list that it fills -/
structure CFl (w : World) (next : Int) (A : Option Addr) (n c b : Nat) (S : List Int) (g k : Nat) (xs : List Value) (l : List (Nd × Leaf)) (X : World) : Prop where
  b : CMp w next A n c b S S.length X
  row : X.ownsRow w.heap.size 41 7 (.slice (some ⟨g, 0, none⟩) S.length S.length) S.length xs
  fill : xs.take (k * 7) = allCells l
  leaf : ∀ p ∈ l, OwnLeaf X w.heap.size p.1 p.2
section
variable {w X X' : World} {next : Int} {A : Option Addr} {n c b g k : Nat} {S : List Int} {xs : List Value} {l : List (Nd × Leaf)}
theorem CFl.after (h : CFl w next A n c b S g k xs l X) (hb : Below X.heap.size X X') : CFl w next A n c b S g k xs l X' := ⟨h.b.after hb, own_after h.row hb, h.fill, fun p hp => (h.leaf p hp).after hb⟩
theorem CFl.set (h : CMp w next A n c b S S.length X ∧ X.ownsRow w.heap.size 41 7 (.slice (some ⟨g, 0, none⟩) S.length S.length) S.length xs ∧ ∀ p ∈ l, OwnLeaf X w.heap.size p.1 p.2) (j : Nat) (u : Value) :
    CMp w next A n c b S S.length (X.setCell ⟨g, j, none⟩ u) ∧ (X.setCell ⟨g, j, none⟩ u).ownsRow w.heap.size 41 7 (.slice (some ⟨g, 0, none⟩) S.length S.length) S.length (xs.set j u) ∧ ∀ p ∈ l, OwnLeaf (X.setCell ⟨g, j, none⟩ u) w.heap.size p.1 p.2 := by
  obtain ⟨h1, h2, h3⟩ := h
  obtain ⟨cs, hg, hB, _⟩ := own_blk h2
  exact ⟨⟨own_blk_far h1.m h2 (by decide) j u, h1.f.far (a := ⟨g, j, none⟩) (h1.f.ne hg) u, below_set h1.bel hB, h1.le⟩, (World.ownsRow.stored h2 j u).1, fun p hp => (h3 p hp).other hg (by decide) (by decide) (by decide) j u⟩
theorem CFl.push {p : Nd × Leaf} (h : CFl w next A n c b S g k xs l X) (hk : k < S.length) (hl : l.length = k) (hp : OwnLeaf X w.heap.size p.1 p.2) :
    ∃ xs', CFl w next A n c b S g (k + 1) xs' (l ++ [p]) (((((((X.setCell ⟨g, k * 7, none⟩ (.int .i64 p.1.id)).setCell ⟨g, k * 7 + 1, none⟩ (.string p.1.con)).setCell ⟨g, k * 7 + 2, none⟩ (.int .i64 p.1.par)).setCell ⟨g, k * 7 + 3, none⟩ (.string p.1.role)).setCell ⟨g, k * 7 + 4, none⟩ (.slice p.2.p.A p.2.p.n p.2.p.c)).setCell ⟨g, k * 7 + 5, none⟩ (.slice p.2.k.A p.2.k.n p.2.k.c)).setCell ⟨g, k * 7 + 6, none⟩ (.slice p.2.r.A p.2.r.n p.2.r.c)) := by
  have h0 : CMp w next A n c b S S.length X ∧ X.ownsRow w.heap.size 41 7 (.slice (some ⟨g, 0, none⟩) S.length S.length) S.length xs ∧ ∀ q ∈ l ++ [p], OwnLeaf X w.heap.size q.1 q.2 := ⟨h.b, h.row, fun q hq => by
    rcases List.mem_append.1 hq with hq | hq
    · exact h.leaf q hq
    · obtain rfl : q = p := by simpa using hq
      exact hp⟩
  have h7 := CFl.set (CFl.set (CFl.set (CFl.set (CFl.set (CFl.set (CFl.set h0 (k * 7) (.int .i64 p.1.id)) (k * 7 + 1) (.string p.1.con)) (k * 7 + 2) (.int .i64 p.1.par)) (k * 7 + 3) (.string p.1.role)) (k * 7 + 4) (.slice p.2.p.A p.2.p.n p.2.p.c)) (k * 7 + 5) (.slice p.2.k.A p.2.k.n p.2.k.c)) (k * 7 + 6) (.slice p.2.r.A p.2.r.n p.2.r.c)
  refine ⟨_, h7.1, h7.2.1, ?_, h7.2.2⟩
  rw [take_set7 (by rw [h.row.1]; omega), h.fill]
  simp [allCells, ndCells]
theorem CFl.room (h : CFl w next A n c b S g k xs l X) (hk : k < S.length) (j : Nat) (hj : j < 7) : (∃ u, X.cell? ⟨g, k * 7 + j, none⟩ = some u) ∧ X.frozen? ⟨g, k * 7 + j, none⟩ = false := by
  have h1 := World.ownsRow.cellAt h.row (k * 7 + j) (by omega)
  rw [List.getElem?_eq_getElem (by rw [h.row.1]; omega)] at h1
  exact ⟨⟨_, h1⟩, World.ownsRow.frozenAt h.row _⟩
theorem CFl.ownM (h : CFl w next A n c b S g k xs l X) (hk : k = S.length) (hl : l.length = k) : OwnM X w.heap.size (.slice (some ⟨g, 0, none⟩) S.length S.length) l := by
  refine ⟨?_, h.leaf⟩
  have h2 := h.fill
  rw [List.take_of_length_le (by rw [h.row.1, hk]; exact Nat.le_refl _)] at h2
  unfold OwnN
  rw [hl, hk, ← h2]
  exact h.row
end
theorem refs_rng {next : Int} : ∀ (l : List (ByteArray × Int)) (q : Option ByteArray), refsB next q l = true → ∀ r ∈ l, 1 ≤ r.2 ∧ r.2 < next
  | [], _, _, _, hr => by cases hr
  | p :: l, q, h, r, hr => by
    simp only [refsB, Bool.and_eq_true, decide_eq_true_eq] at h
    rcases List.mem_cons.1 hr with rfl | hr
    · exact ⟨h.1.1.1.2, h.1.1.2⟩
    · exact refs_rng l _ h.2 r hr
end Go.Proofs.YtbkmdlfenbfdlaaGreat
