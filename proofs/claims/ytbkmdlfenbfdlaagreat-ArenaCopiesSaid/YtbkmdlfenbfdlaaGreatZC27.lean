/-
  PLAIN: a node that was moved away comes back to its place.
  WALKS: whatever is done to a model, it stays a right one.
  WALKS: what is added and taken away again, and what is moved away and back, leaves the model as it was.
  PLAIN: a part's copy: its nodes stand in the same order, and each is what it was made of.
-/
import Derived.Test.YtbkmdlfenbfdlaaGreatZC26
import Derived.Deep.QuietTactic
import Derived.BigQuiet
import Derived.Deep.RegionHeld3
import Derived.Deep.CutBlock
namespace Go.Proofs.YtbkmdlfenbfdlaaGreat
open Go Go.RowKit
set_option linter.unusedVariables false
section
variable {next : Int} {nds z : List Nd} {id tgt : Int} {role : ByteArray} {nd : Nd}
theorem BackS.root (hT : TM next nds) (hx : ndOf nds id = some nd) (B : BackS next nds z id nd tgt role) (h0 : nd.par = 0) :
    moveE next z id 0 ⟨#[]⟩ 0 = 0 ∧ sortedV (moveL next z id 0 ⟨#[]⟩ 0) = sortedV nds := by
  obtain ⟨hm, hid⟩ := (ndOf_mem hT.riseR).1 hx
  have hr : nd.role = ⟨#[]⟩ := by
    rcases hT.par nd hm with ⟨_, h1⟩ | ⟨h1, _⟩
    · exact str_eq.1 (h1.trans (by rw [toList_data]))
    · exact absurd h0 h1
  have := B.ok hT hx (at' := 0) (by rw [h0, hr]; unfold amV; rw [if_pos rfl, toList_data]; rfl)
  rw [h0, hr] at this
  exact this
theorem kidsR_of (hT : TM next nds) {p : Int} {q : Nd} (hq : ndOf nds p = some q) (rl : ByteArray) : kidsR next nds p rl = q.kids.filter (inRoleB nds rl) := by
  obtain ⟨i, hi, _⟩ := ndOf_some hq
  unfold kidsR
  rw [hT.right, hi, kidsV_of hq]
  rfl
/-- a node stands among its parent's kids of its role, once -/
theorem among_kids (hT : TM next nds) (hx : ndOf nds id = some nd) (h0 : nd.par ≠ 0) : id ∈ kidsR next nds nd.par nd.role ∧ (kidsR next nds nd.par nd.role).Nodup := by
  have hR := rightM hT.right
  obtain ⟨q, hq, hk⟩ := in_kids hR hx h0
  rw [kidsR_of hT hq]
  obtain ⟨hqm, hqi⟩ := (ndOf_mem hR.rise).1 hq
  refine ⟨List.mem_filter.2 ⟨hk, ?_⟩, List.Sublist.nodup List.filter_sublist (hT.nod q hqm)⟩
  unfold inRoleB
  rw [hx]
  simp
theorem BackS.kids (hT : TM next nds) (hx : ndOf nds id = some nd) (B : BackS next nds z id nd tgt role) (h0 : nd.par ≠ 0) {was : Nat} (hw : (kidsR next nds nd.par nd.role)[was]? = some id) :
    moveE next z id nd.par nd.role was = 0 ∧ sortedV (moveL next z id nd.par nd.role was) = sortedV nds ∧ kidsR next (moveL next z id nd.par nd.role was) nd.par nd.role = kidsR next nds nd.par nd.role := by
  have hR := rightM hT.right
  obtain ⟨hm, hid⟩ := (ndOf_mem hR.rise).1 hx
  obtain ⟨q, hq, hk⟩ := in_kids hR hx h0
  obtain ⟨hqm, hqi⟩ := (ndOf_mem hR.rise).1 hq
  have hpid : nd.par ≠ id := by
    intro e
    have := (hR.step hm).1
    rw [hid, e] at this
    omega
  have hpv : parV nds id = nd.par := by unfold parV; rw [hx]
  have hln := (among_kids hT hx h0).2
  obtain ⟨b1, b2⟩ := back_list hln hw
  have hq2 : ndOf (takeL z id) nd.par = some { q with kids := lessI id q.kids } := by
    rw [B.tk, ndOf_map (fun y => orpF_id)]
    unfold takeL
    rw [ndOf_map (takeF_id _ _), hq]
    have e1 : takeF (parV nds id) id q = { q with kids := lessI id q.kids } := by unfold takeF; rw [if_pos (by rw [hqi, hpv])]
    have e2 : orpF id tgt role { q with kids := lessI id q.kids } = { q with kids := lessI id q.kids } := orpF_ne (by show q.id ≠ id; rw [hqi]; exact hpid)
    simp only [Option.map_some, e1, e2]
  have hf : ∀ k, k ≠ id → inRoleB (takeL z id) nd.role k = inRoleB nds nd.role k := fun k hk => by
    unfold inRoleB
    rw [B.tk, ndOf_map (fun y => orpF_id)]
    unfold takeL
    rw [ndOf_map (takeF_id _ _)]
    cases hy : ndOf nds k with
    | none => rfl
    | some y =>
      obtain ⟨_, hyi⟩ := (ndOf_mem hR.rise).1 hy
      have e2 : orpF id tgt role (takeF (parV nds id) id y) = takeF (parV nds id) id y := orpF_ne (by rw [takeF_id, hyi]; exact hk)
      have e3 : (takeF (parV nds id) id y).role = y.role := by unfold takeF; split <;> rfl
      simp only [Option.map_some, e2, e3]
  have hKn : (lessI id q.kids).Nodup := List.Sublist.nodup List.filter_sublist (hT.nod q hqm)
  have hKid : ∀ k ∈ lessI id q.kids, k ≠ id := fun k hk => by
    have := (List.mem_filter.1 hk).2
    exact bne_iff_ne.1 this
  have hKf : (lessI id q.kids).filter (inRoleB (takeL z id) nd.role) = lessI id (kidsR next nds nd.par nd.role) := by
    rw [List.filter_congr (fun k hk => hf k (hKid k hk)), kidsR_of hT hq]
    unfold lessI
    rw [List.filter_filter, List.filter_filter]
    refine List.filter_congr fun k _ => ?_
    rw [Bool.and_comm]
  obtain ⟨a, ha, s1, s2⟩ := before_split (f := inRoleB (takeL z id) nd.role) hKn (was := was) (by rw [hKf]; exact b2)
  obtain ⟨m1, m2⟩ := among_before (f := inRoleB (takeL z id) nd.role) (at_ := (was : Int)) hKn
  have hne : beforeV (inRoleB (takeL z id) nd.role) (was : Int) (lessI id q.kids) ≠ -1 := by rw [ha]; omega
  rw [decide_eq_true hne] at m1
  have hav : amV (takeL z id) nd.par nd.role (was : Int) = amongF (inRoleB (takeL z id) nd.role) (was : Int) 0 (lessI id q.kids).length 0 (lessI id q.kids) := by
    unfold amV
    rw [if_neg h0, hq2]
  have ham : (amV (takeL z id) nd.par nd.role (was : Int)).2 = true := by rw [hav]; exact m1
  obtain ⟨hE, hS⟩ := B.ok hT hx ham
  refine ⟨hE, hS, ?_⟩
  have hTb := B.tm.move hE
  obtain ⟨_, _, _, _, had⟩ := moveE_ok hE
  obtain ⟨_, _, _, _, _, a6⟩ := admV_ok (admV_pair had)
  have ha2 : (admV next (takeL z id) nd.par nd.role (was : Int) (hiV z id) 0).1.toNat = a := by
    rw [← a6, hav, m2 m1, ha]; omega
  rw [moveL_put B.tm hE, ha2] at hTb ⊢
  have hqb : ndOf ((takeL z id).map (putF id nd.par nd.role a)) nd.par = some (putF id nd.par nd.role a { q with kids := lessI id q.kids }) := by
    rw [ndOf_map (fun y => putF_same.1), hq2]; rfl
  rw [kidsR_of hTb hqb, putF_at (by show q.id ≠ id; rw [hqi]; exact hpid) (by show q.id = nd.par; exact hqi)]
  rw [ins_filter (f := inRoleB (takeL z id) nd.role), s1, s2, hKf]
  · exact b1
  · unfold inRoleB
    obtain ⟨x, hxz⟩ := B.nid
    have : ∃ y, ndOf (takeL z id) id = some y := by
      unfold takeL
      rw [ndOf_map (takeF_id _ _), hxz]
      exact ⟨_, rfl⟩
    obtain ⟨y, hy⟩ := this
    rw [ndOf_map (fun y => putF_same.1), hy]
    have hyi : y.id = id := by
      obtain ⟨_, _, _, e⟩ := ndOf_some hy
      exact e
    simp only [Option.map_some]
    rw [(putF_orp hyi).2.1]
    simp
  · intro k hk
    unfold inRoleB
    rw [ndOf_map (fun y => putF_same.1)]
    cases hy : ndOf (takeL z id) k with
    | none => rfl
    | some y =>
      have hyi : y.id = k := by
        obtain ⟨_, _, _, e⟩ := ndOf_some hy
        exact e
      simp only [Option.map_some]
      rw [(putF_par (by rw [hyi]; exact hKid k hk)).2]
end
end Go.Proofs.YtbkmdlfenbfdlaaGreat
namespace Go.Proofs.YtbkmdlfenbfdlaaGreat
open Go Go.RowKit Go.Sort
set_option linter.unusedVariables false
attribute [local go_sem ↓] Go.wp_at_zero Go.wp_at_succ
theorem list_at {X : World} {B c : Nat} {A : Option Addr} {L : List Int} {k : Nat} {y : Int} (h : X.ownsRow B 3 1 (.slice A L.length c) L.length (intCells L)) (hk : L[k]? = some y) :
    ∃ g, A = some ⟨g, 0, none⟩ ∧ L.length ≤ c ∧ c ≤ maxLen ∧ ∀ Y : World, Y.ownsRow B 3 1 (.slice (some ⟨g, 0, none⟩) L.length c) L.length (intCells L) → Y.cell? ⟨g, k, none⟩ = some (.int .i64 y) := by
  have hr := own_row h
  have hkl := (List.getElem?_eq_some_iff.1 hk).1
  rcases h.2 with ⟨hv, h0⟩ | ⟨g, cap, cur, hv, _⟩
  · omega
  · injection hv with hA _ _
    refine ⟨g, hA, hr.2.1, hr.2.2.1, fun Y hY => ?_⟩
    have := World.ownsRow.cellAt hY (k * 1) (by omega)
    rw [Nat.mul_one] at this
    rw [this]
    exact intCells_get hk
/-- what lies in memory while document order is gone through -/
structure RI (w : World) (gm N : Nat) (ql : List Nd) (A5 : Option Addr) (n5 c5 : Nat) (l5 : List (Nd × Leaf)) (AL : Option Addr) (cL : Nat) (L : List Int) (gb : Nat) (ids : List Int) (X : World) : Prop where
  bm : BM w gm (N : Int) ql A5 n5 c5 l5 X
  lr : X.ownsRow w.heap.size 3 1 (.slice AL L.length cL) L.length (intCells L)
  mrk : BBlk X gb (marksV N ids)
  le : w.heap.size ≤ gb
section
variable {w X X' : World} {gm N : Nat} {ql : List Nd} {A5 AL : Option Addr} {n5 c5 cL gb : Nat} {l5 : List (Nd × Leaf)} {L ids : List Int}
theorem RI.after (h : RI w gm N ql A5 n5 c5 l5 AL cL L gb ids X) (hb : Below X.heap.size X X') : RI w gm N ql A5 n5 c5 l5 AL cL L gb ids X' := ⟨h.bm.after hb, own_after h.lr hb, Blk.after h.mrk hb, h.le⟩
theorem RI.mark (h : RI w gm N ql A5 n5 c5 l5 AL cL L gb ids X) {y : Nat} (hy : y < N) : RI w gm N ql A5 n5 c5 l5 AL cL L gb (ids ++ [(y : Int)]) (X.setCell ⟨gb, y, none⟩ (.bool true)) := by
  have hm : Blk X gb 4 ((marksV N ids).map Value.bool).toArray := h.mrk
  refine ⟨⟨h.bm.m.far (p := ⟨gb, y, none⟩) (h.bm.m.ne_ hm (by decide)) _, ?_, h.bm.len, h.bm.map_, h.bm.bel.setCell (p := ⟨gb, y, none⟩) h.le _, h.bm.le⟩, own_other h.lr hm (by decide) _ _, by rw [← marksV_set hy]; exact h.mrk.set_ y true, h.le⟩
  exact ⟨own_other h.bm.own.own hm (by decide) _ _, fun p hp => (h.bm.own.leaf p hp).other hm (by decide) (by decide) (by decide) _ _⟩
end
section
variable {w X : World} {gm N : Nat} {ql : List Nd} {A5 AL : Option Addr} {n5 c5 cL gb : Nat} {l5 : List (Nd × Leaf)} {L ids : List Int}
/-- a box of a node is laid anew: what is in the way of the first store of it -/
theorem RI.box (h : RI w gm N ql A5 n5 c5 l5 AL cL L gb ids X) {g : Nat} {cs : Array Value} (hg : Blk X g 41 cs) (hle : w.heap.size ≤ g) (hno : ∀ g', A5 = some ⟨g', 0, none⟩ → g' ≠ g) (i : Nat) (u : Value) : RI w gm N ql A5 n5 c5 l5 AL cL L gb ids (X.setCell ⟨g, i, none⟩ u) := by
  refine ⟨⟨h.bm.m.far (p := ⟨g, i, none⟩) (h.bm.m.ne_ hg (by decide)) u, ?_, h.bm.len, h.bm.map_, h.bm.bel.setCell (p := ⟨g, i, none⟩) hle u, h.bm.le⟩, own_other h.lr hg (by decide) i u, Blk.far h.mrk (p := ⟨g, i, none⟩) (Blk.ne_ h.mrk hg (by decide)) u, h.le⟩
  refine ⟨?_, fun p hp => (h.bm.own.leaf p hp).other hg (by decide) (by decide) (by decide) i u⟩
  have ho : X.ownsRow w.heap.size 41 7 (.slice A5 n5 c5) l5.length (allCells l5) := h.bm.own.own
  show (X.setCell ⟨g, i, none⟩ u).ownsRow w.heap.size 41 7 (.slice A5 n5 c5) l5.length (allCells l5)
  rcases ho.2 with ⟨hv, h0⟩ | ⟨g', cap, cur, hv, hb, hg', rest⟩
  · exact ⟨ho.1, .inl ⟨hv, h0⟩⟩
  · refine ⟨ho.1, .inr ⟨g', cap, cur, hv, hb, ?_, rest⟩⟩
    injection hv with hA _ _
    rw [Below.heap_setCell _ ⟨g, i, none⟩ _ _ (hno g' hA)]
    exact hg'
end
end Go.Proofs.YtbkmdlfenbfdlaaGreat
namespace Go.Proofs.YtbkmdlfenbfdlaaGreat
open Go Go.RowKit Go.Sort
set_option linter.unusedVariables false
attribute [local go_sem ↓] Go.wp_at_zero Go.wp_at_succ
/-- the boxes of the act and of the model -/
structure F3 (w : World) (ac : Array Value) (g5 : Nat) (next : Int) (nds : List Nd) (A : Option Addr) (n c : Nat) (l : List (Nd × Leaf)) (X : World) : Prop where
  a : Blk X w.heap.size 32 ac
  m : Blk X g5 26 #[.int .i64 next, .slice A n c]
  om : OwnM X w.heap.size (.slice A n c) l
  lm : l.length = n
  mm : l.map (·.1) = nds
  bel : Below w.heap.size w X
section
variable {w X X' : World} {ac : Array Value} {g5 : Nat} {next : Int} {nds : List Nd} {A : Option Addr} {n c : Nat} {l : List (Nd × Leaf)}
theorem F3.after (h : F3 w ac g5 next nds A n c l X) (hb : Below X.heap.size X X') : F3 w ac g5 next nds A n c l X' := ⟨h.a.after hb, h.m.after hb, h.om.after hb, h.lm, h.mm, h.bel.trans (hb.mono h.bel.size)⟩
theorem F3.nm (h : F3 w ac g5 next nds A n c l X) : NodesIn X 0 X.heap.size A n c nds := by
  rw [← h.mm]; exact (h.om.nodesIn h.lm).mono (Nat.zero_le _) (Nat.le_refl _)
theorem F3.far (h : F3 w ac g5 next nds A n c l X) {g : Nat} {cs : Array Value} (hg : Blk X g 26 cs) (hne : g5 ≠ g) (hle : w.heap.size ≤ g) (i : Nat) (u : Value) : F3 w ac g5 next nds A n c l (X.setCell ⟨g, i, none⟩ u) :=
  ⟨h.a.far (p := ⟨g, i, none⟩) (h.a.ne_ hg (by decide)) u, h.m.far (p := ⟨g, i, none⟩) hne u, h.om.other hg i u, h.lm, h.mm, h.bel.setCell (p := ⟨g, i, none⟩) hle u⟩
end
/-- .. with the box of the node, its parent's kids, and the model that was moved in -/
structure BT (w : World) (ac : Array Value) (g5 : Nat) (next : Int) (nds : List Nd) (A : Option Addr) (n c : Nat) (l : List (Nd × Leaf)) (g15 : Nat) (cs15 : Array Value) (AL : Option Addr) (cL : Nat) (L : List Int) (g19 : Nat) (A7 : Option Addr) (n7 c7 : Nat) (z : List Nd) (X : World) : Prop where
  f : F3 w ac g5 next nds A n c l X
  nb : Blk X g15 41 cs15
  lr : X.ownsRow 0 3 1 (.slice AL L.length cL) L.length (intCells L)
  zb : Blk X g19 26 #[.int .i64 next, .slice A7 n7 c7]
  zn : ∃ l7, OwnM X 0 (.slice A7 n7 c7) l7 ∧ l7.length = n7 ∧ l7.map (·.1) = z
section
variable {w X X' : World} {ac : Array Value} {g5 : Nat} {next : Int} {nds : List Nd} {A : Option Addr} {n c : Nat} {l : List (Nd × Leaf)} {g15 : Nat} {cs15 : Array Value} {AL : Option Addr} {cL : Nat} {L : List Int} {g19 : Nat} {A7 : Option Addr} {n7 c7 : Nat} {z : List Nd}
theorem BT.after (h : BT w ac g5 next nds A n c l g15 cs15 AL cL L g19 A7 n7 c7 z X) (hb : Below X.heap.size X X') : BT w ac g5 next nds A n c l g15 cs15 AL cL L g19 A7 n7 c7 z X' := by
  obtain ⟨l7, z1, z2, z3⟩ := h.zn
  exact ⟨h.f.after hb, h.nb.after hb, own_after h.lr hb, h.zb.after hb, l7, z1.after hb, z2, z3⟩
theorem BT.far (h : BT w ac g5 next nds A n c l g15 cs15 AL cL L g19 A7 n7 c7 z X) {g : Nat} {cs : Array Value} (hg : Blk X g 26 cs) (hne : g5 ≠ g) (hne2 : g19 ≠ g) (hle : w.heap.size ≤ g) (i : Nat) (u : Value) : BT w ac g5 next nds A n c l g15 cs15 AL cL L g19 A7 n7 c7 z (X.setCell ⟨g, i, none⟩ u) := by
  obtain ⟨l7, z1, z2, z3⟩ := h.zn
  exact ⟨h.f.far hg hne hle i u, h.nb.far (p := ⟨g, i, none⟩) (h.nb.ne_ hg (by decide)) u, own_other h.lr hg (by decide) i u, h.zb.far (p := ⟨g, i, none⟩) hne2 u, l7, z1.other hg i u, z2, z3⟩
end
end Go.Proofs.YtbkmdlfenbfdlaaGreat
namespace Go.Proofs.YtbkmdlfenbfdlaaGreat
open Go Go.RowKit
set_option linter.unusedVariables false
theorem flatMap_eq {α β : Type} {f g : α → List β} : ∀ (l : List α), (∀ x ∈ l, f x = g x) → l.flatMap f = l.flatMap g
  | [], _ => rfl
  | x :: r, h => by rw [List.flatMap_cons, List.flatMap_cons, h x (List.mem_cons_self ..), flatMap_eq r fun y hy => h y (List.mem_cons_of_mem _ hy)]
section
variable {next : Int} {nds : List Nd}
/-- what is copied node for node is listed in the same order -/
theorem copy_pre (hR : RightM next nds) {m : Int} {X : List Nd} (hX : RightM m X) {fre : Int → Int} {S : List Int} (hk : ∀ y ∈ S, ∀ nd, ndOf nds y = some nd → (∀ k ∈ nd.kids, k ∈ S) ∧ ∃ q, ndOf X (fre y) = some q ∧ q.kids = nd.kids.map fre) : ∀ (f : Nat) (y : Int) (nd : Nd), ndOf nds y = some nd → depthV nds y + f = 65 → y ∈ S → preI X (fre y) = (preI nds y).map fre
  | 0, y, nd, hx, hf, hy => by have := (hR.depth hx).2.2; omega
  | f + 1, y, nd, hx, hf, hy => by
    obtain ⟨h1, q, hq, hqk⟩ := hk y hy nd hx
    rw [preI_eq hX hq, preI_eq hR hx, hqk, List.map_cons, List.flatMap_map, List.map_flatMap]
    congr 1
    exact flatMap_eq _ fun k hk' => by
      obtain ⟨z, hz, _, hd⟩ := kid_depth hR hx hk'
      exact copy_pre hR hX hk f k z hz (by omega) (h1 k hk')
theorem map_fre {S : List Int} (hn : S.Nodup) : S.map (freV next S) = (List.range S.length).map fun (i : Nat) => next + (i : Int) := by
  apply List.ext_getElem (by simp)
  intro i h1 h2
  rw [List.getElem_map, List.getElem_map, List.getElem_range]
  unfold freV
  rw [idxV_nd hn (List.getElem?_eq_getElem (by simpa using h1))]
/-- what a copy is -/
structure CopyS (next : Int) (nds : List Nd) (id parent : Int) (role : ByteArray) (S : List Int) (X : List Nd) : Prop where
  tm : TM (next + S.length) X
  len : X.length = nds.length + S.length
  most : S.length ≤ 4096
  hd : S[0]? = some id
  nod : S.Nodup
  all : ∀ y ∈ S, ∃ nd, ndOf nds y = some nd
  pre : id :: belowV nds id = S
  top : ∀ nd, ndOf nds id = some nd → ndOf X next = some ⟨next, nd.con, parent, role, nd.props, cpKids next S nd.kids, cpRefs next S nd.refs⟩
  sub : ∀ (i : Nat) (y : Int) (nd : Nd), i ≠ 0 → S[i]? = some y → ndOf nds y = some nd → ndOf X (next + i) = some (cpNd next S 0 i nd)
  ord : next :: belowV X next = (List.range S.length).map fun (i : Nat) => next + (i : Int)
  back : removeE (next + S.length) X next = 0 ∧ removeL X next = nds
theorem TM.copyS (h : TM next nds) {id parent : Int} {role : ByteArray} {at_ : Int} (he : copyE next nds id parent role at_ = 0) : CopyS next nds id parent role (preI nds id) (copyL next nds id parent role at_) := by
  have hC := h.copy he
  rw [copyL_put h he] at hC ⊢
  obtain ⟨hr, hw, ⟨nd, hx⟩, ha⟩ := copyE_ok he
  obtain ⟨a1, a2, a3, a4, a5, a6⟩ := admV_ok (admV_pair ha)
  generalize (admV next nds parent role at_ (hiV nds id) (preI nds id).length).1.toNat = a at hC ⊢
  have hR := rightM hr
  have hlo := h.lo
  have P := hR.part hx
  have hX := h.copyX P a4 a5
  have hpb := pre_below hR hx
  have hlt : parent < next := by
    by_cases h0 : parent = 0
    · omega
    · obtain ⟨x, hx⟩ := a1 h0
      obtain ⟨hm, hi⟩ := (ndOf_mem hR.rise).1 hx
      have := (h.ids x hm).2
      omega
  obtain ⟨S, hS⟩ : ∃ S, preI nds id = S := ⟨_, rfl⟩
  rw [hS] at hC P hX a4 a5 ⊢
  have hf : ∀ y, (putF next parent role a y).id = y.id := fun y => putF_same.1
  have hat : ∀ {i : Nat} {y : Int} {nd : Nd}, S[i]? = some y → ndOf nds y = some nd → ndOf ((nds ++ cpsV next nds S 0 S.length).map (putF next parent role a)) (next + i) = some (putF next parent role a (cpNd next S 0 i nd)) := fun {i y nd} hy hnd => by
    have hin : ndOf (nds ++ cpsV next nds S 0 S.length) (next + i) = some (cpNd next S 0 i nd) := (ndOf_mem hX.riseR).2 ⟨List.mem_append_right _ ((cps_mem P.all).2 ⟨i, y, nd, hy, hnd, rfl⟩), rfl⟩
    rw [ndOf_map hf, hin]
    rfl
  have htop : ∀ nd, ndOf nds id = some nd → ndOf ((nds ++ cpsV next nds S 0 S.length).map (putF next parent role a)) next = some ⟨next, nd.con, parent, role, nd.props, cpKids next S nd.kids, cpRefs next S nd.refs⟩ := fun nd hnd => by
    have h1 := hat P.hd hnd
    have e0 : next + ((0 : Nat) : Int) = next := by omega
    have e2 : putF next parent role a (cpNd next S 0 0 nd) = ⟨next, nd.con, parent, role, nd.props, cpKids next S nd.kids, cpRefs next S nd.refs⟩ := by
      unfold putF
      rw [if_pos (show (cpNd next S 0 0 nd).id = next from e0)]
      unfold cpNd
      rw [e0]
    rw [e0, e2] at h1
    exact h1
  have hsub : ∀ (i : Nat) (y : Int) (nd : Nd), i ≠ 0 → S[i]? = some y → ndOf nds y = some nd → ndOf ((nds ++ cpsV next nds S 0 S.length).map (putF next parent role a)) (next + i) = some (cpNd next S 0 i nd) := fun i y nd hi hy hnd => by
    have h1 := hat hy hnd
    have e1 : (cpNd next S 0 i nd).id = next + (i : Int) := rfl
    have e2 : putF next parent role a (cpNd next S 0 i nd) = cpNd next S 0 i nd := by
      unfold putF
      rw [if_neg (by rw [e1]; omega), if_neg (by rw [e1]; omega)]
    rw [e2] at h1
    exact h1
  have hf0 : freV next S id = next := by unfold freV; rw [idxV_nd P.nod P.hd]; omega
  refine ⟨hC, by rw [List.length_map, List.length_append, cpsV_len], by omega, P.hd, P.nod, P.all, by rw [← hS]; exact hpb, htop, hsub, ?_, ?_⟩
  · have hRC := rightM hC.right
    rw [pre_below hRC (htop nd hx)]
    have h1 := copy_pre hR hRC (fre := freV next S) (S := S) (fun y hy nd' hnd' => ⟨fun k hk => (P.kid y hy nd' hnd' k hk).1, by
      obtain ⟨i, hi, e⟩ := idxV_of P.nod hy
      have ef : freV next S y = next + (i : Int) := by unfold freV; rw [e]
      by_cases h0 : i = 0
      · subst h0
        have hyid : y = id := by
          have h2 := P.hd
          rw [hi] at h2
          injection h2
        subst hyid
        exact ⟨_, by rw [hf0]; exact htop nd' hnd', rfl⟩
      · exact ⟨_, by rw [ef]; exact hsub i y nd' h0 hi hnd', rfl⟩⟩) (65 - depthV nds id) id nd hx (by have := (hR.depth hx).2.2; omega) (List.mem_of_getElem? P.hd)
    rw [hf0, hS, map_fre P.nod] at h1
    exact h1
  · obtain ⟨b1, b2⟩ := hX.remove_put (a := a) (role := role) (by omega : parent ≠ next) hC
    refine ⟨b1, b2.trans ?_⟩
    rw [List.filter_append]
    have e1 : nds.filter (fun y => !decide (next ≤ y.id)) = nds := List.filter_eq_self.2 fun y hy => by
      have := (h.ids y hy).2
      simp; omega
    have e2 : (cpsV next nds S 0 S.length).filter (fun y => !decide (next ≤ y.id)) = [] := List.filter_eq_nil_iff.2 fun y hy => by
      obtain ⟨i, hi⟩ := List.getElem?_of_mem hy
      have := cpsV_id hi
      simp; omega
    rw [e1, e2, List.append_nil]
theorem CopyS.node {id parent : Int} {role : ByteArray} {S : List Int} {X : List Nd} (h : CopyS next nds id parent role S X) {i : Nat} {y : Int} (hy : S[i]? = some y) :
    ∃ nd q, ndOf nds y = some nd ∧ ndOf X (next + i) = some q ∧ q.con = nd.con ∧ q.kids.length = nd.kids.length ∧ q.refs = cpRefs next S nd.refs ∧ (i ≠ 0 → q.role = nd.role) ∧ (i = 0 → q.par = parent ∧ q.role = role) := by
  obtain ⟨nd, hnd⟩ := h.all y (List.mem_of_getElem? hy)
  by_cases h0 : i = 0
  · subst h0
    have hyid : y = id := by
      have h2 := h.hd
      rw [hy] at h2
      injection h2
    subst hyid
    exact ⟨nd, ⟨next, nd.con, parent, role, nd.props, cpKids next S nd.kids, cpRefs next S nd.refs⟩, hnd, by rw [show next + ((0 : Nat) : Int) = next from by omega]; exact h.top nd hnd, rfl, by simp [cpKids], rfl, fun h => absurd rfl h, fun _ => ⟨rfl, rfl⟩⟩
  · exact ⟨nd, _, hnd, h.sub i y nd h0 hy hnd, rfl, by simp [cpNd, cpKids], rfl, fun _ => rfl, fun h => absurd h h0⟩
/-- where a reference of the copy leads to, as far as it is told by the first j of the part -/
def wantV (next : Int) (S : List Int) (t : Int) (j : Nat) : Int := if (S.take j).contains t = true then freV next S t else t
theorem want_zero (next : Int) (S : List Int) (t : Int) : wantV next S t 0 = t := by unfold wantV; simp
theorem want_all (next : Int) (S : List Int) (t : Int) : wantV next S t S.length = freT next S t := by unfold wantV freT; rw [List.take_length]
theorem want_yes {S : List Int} (hn : S.Nodup) {t : Int} {j : Nat} (hj : S[j]? = some t) : wantV next S t (j + 1) = next + j := by
  unfold wantV freV
  rw [List.take_add_one, hj, idxV_nd hn hj]
  simp
theorem want_no {S : List Int} {t u : Int} {j : Nat} (hj : S[j]? = some u) (hne : u ≠ t) : wantV next S t (j + 1) = wantV next S t j := by
  unfold wantV
  have e : (S.take (j + 1)).contains t = (S.take j).contains t := by
    rw [List.take_add_one, hj, Bool.eq_iff_iff]
    simp [Ne.symm hne]
  rw [e]
end
end Go.Proofs.YtbkmdlfenbfdlaaGreat
