/-
  WHAT IS READ IS RIGHT, in plain mathematics, and its document order is the order read.
  A NODE LET STAND, step by step, in memory: the reader's box, the nodes, the set, the new node's own box.
  BYTES THAT A CONVERSION MADE, and append of a string's bytes to them (a conversion's block bears a mark behind its last cell).
  WALKS over package names: Unquote.
-/
import Derived.Test.YtjjlofaejpnnnaaGreatDoorZB11
import Derived.Laws.CopyRow
import Derived.WalkMore
namespace Go.Proofs.YtjjlofaejpnnnaaGreatDoor
open Go Go.RowKit
set_option linter.unusedVariables false
theorem WFE.at_ {E : List EE} (h : WFE E) {i : Nat} {e : EE} (he : E[i]? = some e) : e.2.1 = (FT e.1.2.1 ((E.drop (i + 1)).map (·.1))).map (·.1) ∧ ∀ x ∈ FT e.1.2.1 ((E.drop (i + 1)).map (·.1)), x.2.2 = e.1.1 := by
  obtain ⟨hi, he⟩ := List.getElem?_eq_some_iff.1 he
  have e0 : E = E.take i ++ e :: E.drop (i + 1) := by
    conv => lhs; rw [← List.take_append_drop i E]
    rw [List.drop_eq_getElem_cons hi, he]
  rw [e0] at h
  have := WFE.right h
  exact ⟨this.1, this.2.1⟩
section
variable {st : RS}
theorem ent_ids (hl : st.deep.length = st.nds.length) : (entE st).map (·.1.1) = idsOf st := by
  have key : ∀ (l : List Nd) (m : List Nat), m.length = l.length → (List.zipWith entF l m).map (·.1.1) = l.map (·.id) := by
    intro l
    induction l with
    | nil => intro m _; rfl
    | cons x l ih =>
      intro m hm
      cases m with
      | nil => simp at hm
      | cons y m =>
        rw [List.zipWith_cons_cons, List.map_cons, List.map_cons, ih m (by simpa using hm)]
        rfl
  exact key _ _ hl
theorem ent_of (hl : st.deep.length = st.nds.length) {nd : Nd} (h : nd ∈ st.nds) : ∃ i d : Nat, st.nds[i]? = some nd ∧ st.deep[i]? = some d ∧ (entE st)[i]? = some (entF nd d) := by
  obtain ⟨i, hi⟩ := List.getElem?_of_mem h
  have hlt := (List.getElem?_eq_some_iff.1 hi).1
  obtain ⟨d, hd⟩ : ∃ d, st.deep[i]? = some d := ⟨_, List.getElem?_eq_getElem (by omega)⟩
  exact ⟨i, d, hi, hd, entE_at hi hd⟩
theorem ent_mem {e : EE} (h : e ∈ entE st) : ∃ nd d, nd ∈ st.nds ∧ d ∈ st.deep ∧ e = entF nd d := by
  obtain ⟨i, hi⟩ := List.getElem?_of_mem h
  obtain ⟨nd, d, h1, h2, rfl⟩ := entE_get hi
  exact ⟨nd, d, List.mem_of_getElem? h1, List.mem_of_getElem? h2, rfl⟩
theorem find_ent : ∀ {E : List EE}, (E.map (·.1.1)).Nodup → ∀ {e : EE}, e ∈ E → E.find? (fun x => x.1.1 == e.1.1) = some e
  | [], _, e, h => nomatch h
  | x :: E, hn, e, h => by
    rw [List.map_cons, List.nodup_cons] at hn
    rw [List.find?_cons]
    by_cases hx : x.1.1 = e.1.1
    · rw [show (x.1.1 == e.1.1) = true from by simpa using hx]
      rcases List.mem_cons.1 h with rfl | h
      · rfl
      · exact absurd (by rw [hx]; exact List.mem_map_of_mem (f := (·.1.1)) h) hn.1
    · rw [show (x.1.1 == e.1.1) = false from by simpa using hx]
      rcases List.mem_cons.1 h with rfl | h
      · exact absurd rfl hx
      · exact find_ent hn.2 h
/-- how deep a number's node stands -/
def lvlE (E : List EE) (k : Int) : Nat := if k = 0 then 0 else match E.find? (fun x => x.1.1 == k) with
  | some e => e.1.2.1
  | none => 0
theorem mem_sort {l : List Nd} {nd : Nd} : nd ∈ sortV l ↔ nd ∈ l := (sortV_perm l).mem_iff
theorem tm_read (hok : RsOk st) (ht : RsTree st) : TM st.next (sortV st.nds) := by
  have hids := ent_ids hok.dl
  have hnod : ((entE st).map (·.1.1)).Nodup := by rw [hids]; exact hok.ds
  have hid : ∀ nd ∈ st.nds, 1 ≤ nd.id ∧ nd.id < st.next := fun nd h => hok.id nd.id (List.mem_map_of_mem h)
  have hlv : ∀ e ∈ entE st, lvlE (entE st) e.1.1 = e.1.2.1 := fun e he => by
    obtain ⟨nd, d, h1, _, rfl⟩ := ent_mem he
    unfold lvlE
    rw [if_neg (by have := (hid nd h1).1; show ¬ nd.id = 0; omega), find_ent hnod he]
  refine ⟨hok.n1, hok.n2, by rw [sortV_len]; exact hok.ln, ?_, fun nd h => hid nd (mem_sort.1 h), fun nd h => ht.sp nd (mem_sort.1 h), fun nd h => ?_, fun nd h k hk => ?_, fun nd h => ?_, lvlE (entE st), by unfold lvlE; rw [if_pos rfl], fun nd h => ?_⟩
  · rw [List.pairwise_map]
    exact sortV_sorted hok.ds
  · obtain ⟨i, d, _, _, he⟩ := ent_of hok.dl (mem_sort.1 h)
    have hk := (ht.wf.at_ he).1
    have hk2 : nd.kids = (FT d (((entE st).drop (i + 1)).map (·.1))).map (·.1) := hk
    rw [hk2]
    have hs : ((FT d (((entE st).drop (i + 1)).map (·.1))).map (·.1)).Sublist ((entE st).map (·.1.1)) := by
      have h1 := (FT_sub (k := d) (L := ((entE st).drop (i + 1)).map (·.1))).map (·.1)
      rw [List.map_map] at h1
      exact h1.trans ((List.drop_sublist (i + 1) (entE st)).map _)
    exact hs.nodup hnod
  · obtain ⟨i, d, _, _, he⟩ := ent_of hok.dl (mem_sort.1 h)
    obtain ⟨hk1, hk2⟩ := ht.wf.at_ he
    have hk1' : nd.kids = (FT d (((entE st).drop (i + 1)).map (·.1))).map (·.1) := hk1
    rw [hk1'] at hk
    obtain ⟨x, hx, rfl⟩ := List.mem_map.1 hk
    have hp := hk2 x hx
    obtain ⟨q, hq, rfl⟩ := List.mem_map.1 (FT_sub.mem hx)
    obtain ⟨nd2, d2, h1, _, rfl⟩ := ent_mem (List.mem_of_mem_drop hq)
    exact ⟨nd2, mem_sort.2 h1, rfl, hp⟩
  · obtain ⟨i, d, _, _, he⟩ := ent_of hok.dl (mem_sort.1 h)
    rcases ht.par _ (List.mem_of_getElem? he) with ⟨_, h2, h3⟩ | ⟨_, h2, q, hq, h3, h4, _⟩
    · exact .inl ⟨h2, h3⟩
    · obtain ⟨p, dp, hp, _, rfl⟩ := ent_mem hq
      have h3' : p.id = nd.par := h3
      exact .inr ⟨by have := (hid p hp).1; omega, h2, p, mem_sort.2 hp, h3', h4⟩
  · obtain ⟨i, d, _, hd, he⟩ := ent_of hok.dl (mem_sort.1 h)
    have hm := List.mem_of_getElem? he
    have h1 : lvlE (entE st) nd.id = d := hlv _ hm
    refine ⟨?_, by rw [h1]; exact (hok.dk.pos d (List.mem_of_getElem? hd)).2⟩
    rw [h1]
    rcases ht.par _ hm with ⟨h2, h3, _⟩ | ⟨_, _, q, hq, h3, _, h5⟩
    · have h2' : d = 1 := h2
      have h3' : nd.par = 0 := h3
      rw [h3', h2']
      unfold lvlE
      rw [if_pos rfl]
    · have h3' : q.1.1 = nd.par := h3
      have h5' : q.1.2.1 + 1 = d := h5
      rw [← h3', hlv q hq]
      omega
end
theorem split_seg (k : Nat) : ∀ L : List TE, ∃ j, segT (k + 1) L = L.take j ∧ ∀ x ∈ (L.drop j).head?, x.2.1 ≤ k + 1
  | [] => ⟨0, rfl, fun x hx => nomatch hx⟩
  | e :: L => by
    by_cases he : k + 1 < e.2.1
    · obtain ⟨j, h1, h2⟩ := split_seg k L
      exact ⟨j + 1, by rw [segT_cons_in he, h1]; rfl, h2⟩
    · exact ⟨0, by rw [segT_cons_out he]; rfl, fun x hx => by
        obtain rfl : e = x := by simpa using hx
        omega⟩
/-- what stands below a level, in document order -/
theorem flatF {next : Int} {N : List Nd} (hR : RightM next N) : ∀ (m : Nat) (L : List EE) (k : Nat), L.length ≤ m → WFE L → StepT (L.map (·.1)) → (∀ x ∈ (L.map (·.1)).head?, x.2.1 ≤ k + 1) → (∀ e ∈ L, ∃ nd, ndOf N e.1.1 = some nd ∧ nd.kids = e.2.1) →
    ((FT k (L.map (·.1))).map (·.1)).flatMap (preI N) = (segT k (L.map (·.1))).map (·.1)
  | _, [], k, _, _, _, _, _ => rfl
  | 0, e :: t, k, hm, _, _, _, _ => by simp at hm
  | m + 1, e :: t, k, hm, hw, hs, hh, hN => by
    have hlm : t.length ≤ m := by simpa using hm
    rw [List.map_cons] at hs hh ⊢
    by_cases hk : k < e.1.2.1
    · have hek : e.1.2.1 = k + 1 := by have := hh e.1 (by simp); omega
      obtain ⟨nd, hnd, hkd⟩ := hN e (by simp)
      have hw1 := hw.1
      rw [hek] at hw1
      have ih1 := flatF hR m t (k + 1) hlm hw.2.2 hs.2 (fun x hx => by have := hs.1 x hx; omega) (fun x hx => hN x (by simp [hx]))
      have hp : preI N e.1.1 = e.1.1 :: (segT (k + 1) (t.map (·.1))).map (·.1) := by
        rw [preI_eq hR hnd, hkd, hw1, ih1]
      obtain ⟨j, hj1, hj2⟩ := split_seg k (t.map (·.1))
      have ht : t.map (·.1) = segT (k + 1) (t.map (·.1)) ++ (t.drop j).map (·.1) := by
        rw [hj1, List.map_drop, List.take_append_drop]
      have hlow : ∀ x ∈ segT (k + 1) (t.map (·.1)), k < x.2.1 := fun x hx => by have := segT_lt x hx; omega
      have hseg : segT k (t.map (·.1)) = segT (k + 1) (t.map (·.1)) ++ segT k ((t.drop j).map (·.1)) := by
        conv => lhs; rw [ht]
        exact segT_app_in hlow
      have hft : FT k (t.map (·.1)) = FT k ((t.drop j).map (·.1)) := by
        unfold FT
        rw [hseg, List.filter_append, List.filter_eq_nil_iff.2 (fun x hx => by have := segT_lt x hx; simp; omega), List.nil_append]
      have hw2 : WFE (t.drop j) := by
        have := hw.2.2
        rw [← List.take_append_drop j t] at this
        exact WFE.right this
      have hs2 : StepT ((t.drop j).map (·.1)) := by
        have := hs.2
        rw [← List.take_append_drop j (t.map (·.1)), ← List.map_drop] at this
        exact StepT.right this
      have ih2 := flatF hR m (t.drop j) k (by rw [List.length_drop]; omega) hw2 hs2 (by rw [List.map_drop]; exact hj2) (fun x hx => hN x (by simp [List.mem_of_mem_drop hx]))
      have hF : FT k (e.1 :: t.map (·.1)) = e.1 :: FT k (t.map (·.1)) := by
        unfold FT
        rw [segT_cons_in hk, List.filter_cons_of_pos (by simpa using hek)]
      rw [hF, segT_cons_in hk, List.map_cons, List.flatMap_cons, hp, hft, ih2, hseg, List.map_cons, List.map_append, List.cons_append]
    · have hF : FT k (e.1 :: t.map (·.1)) = [] := by
        unfold FT
        rw [segT_cons_out hk]; rfl
      rw [hF, segT_cons_out hk]; rfl
theorem filt_zip : ∀ (l : List Nd) (m : List Nat), m.length = l.length → (∀ e ∈ List.zipWith entF l m, e.1.2.2 = 0 ↔ e.1.2.1 = 1) → (l.filter (fun nd => nd.par == 0)).map (·.id) = ((List.zipWith entF l m).filter fun e => e.1.2.1 == 1).map (·.1.1)
  | [], m, _, _ => by simp
  | x :: l, [], h, _ => by simp at h
  | x :: l, y :: m, h, hp => by
    have ih := filt_zip l m (by simpa using h) fun e he => hp e (by simp [he])
    have hx := hp (entF x y) (by simp)
    rw [List.zipWith_cons_cons]
    by_cases h1 : y = 1
    · have h2 : x.par = 0 := hx.2 h1
      rw [List.filter_cons_of_pos (by simpa using h2), List.filter_cons_of_pos (by simpa [entF] using h1), List.map_cons, List.map_cons, ih]; rfl
    · have h2 : ¬ x.par = 0 := fun e => h1 (hx.1 e)
      rw [List.filter_cons_of_neg (by simpa using h2), List.filter_cons_of_neg (by simpa [entF] using h1), ih]
theorem order_read {st : RS} (hok : RsOk st) (ht : RsTree st) : rightB st.next (sortV st.nds) = true ∧ orderV (sortV st.nds) = idsOf st := by
  have hT := tm_read hok ht
  have hB := hT.right
  refine ⟨hB, ?_⟩
  have hR := rightM hB
  have hids := ent_ids hok.dl
  have hid : ∀ nd ∈ st.nds, 1 ≤ nd.id := fun nd h => (hok.id nd.id (List.mem_map_of_mem h)).1
  have hpos : ∀ x ∈ (entE st).map (·.1), 0 < x.2.1 := fun x hx => by
    obtain ⟨e, he, rfl⟩ := List.mem_map.1 hx
    obtain ⟨nd, d, _, hd, rfl⟩ := ent_mem he
    exact (hok.dk.pos d hd).1
  have hpr : ∀ e ∈ entE st, e.1.2.2 = 0 ↔ e.1.2.1 = 1 := fun e he => by
    rcases ht.par e he with ⟨h1, h2, _⟩ | ⟨h1, _, q, hq, h3, _⟩
    · exact ⟨fun _ => h1, fun _ => h2⟩
    · obtain ⟨p, dp, hp, _, rfl⟩ := ent_mem hq
      have := hid p hp
      have h3' : p.id = e.1.2.2 := h3
      exact ⟨fun h => by omega, fun h => by omega⟩
  have hfz := filt_zip st.nds st.deep hok.dl hpr
  have hroots : (sortV st.nds).filter (fun nd => nd.par == 0) = st.nds.filter (fun nd => nd.par == 0) := by
    refine sorted_one ((sortV_perm st.nds).filter _) ((sortV_sorted hok.ds).sublist List.filter_sublist) ?_
    have h1 : ((st.nds.filter (fun nd => nd.par == 0)).map (·.id)).Pairwise (· < ·) := by
      rw [hfz, List.pairwise_map]
      exact ht.roots
    rw [List.pairwise_map] at h1
    exact h1
  have hF : (FT 0 ((entE st).map (·.1))).map (·.1) = rootsV (sortV st.nds) := by
    unfold FT rootsV
    rw [segT_all hpos, hroots, hfz, List.filter_map, List.map_map]
    rfl
  have key := flatF hR (entE st).length (entE st) 0 (Nat.le_refl _) ht.wf ht.step (fun x hx => by have := ht.head x hx; omega) (fun e he => by
    obtain ⟨nd, d, h1, _, rfl⟩ := ent_mem he
    exact ⟨nd, (ndOf_mem hR.rise).2 ⟨mem_sort.2 h1, rfl⟩, rfl⟩)
  unfold orderV
  rw [← hF, key, segT_all hpos, List.map_map]
  exact hids
end Go.Proofs.YtjjlofaejpnnnaaGreatDoor
namespace Go.Proofs.YtjjlofaejpnnnaaGreatDoor
open Go Go.RowKit Go.Sort
set_option linter.unusedVariables false
theorem drewS_below (w : World) : Below w.heap.size w w.drew := ⟨rfl, rfl, rfl, Nat.le_refl _, fun _ _ => rfl⟩
theorem below_own {B0 : Nat} {w W W' : World} {r : Option Nat} (h : Below B0 w W) (hs : B0 ≤ W.heap.size) (hg : W.grownBy W' r) (hr : ∀ g, r = some g → B0 ≤ g) : Below B0 w W' :=
  ⟨hg.os.trans h.os, hg.tape.trans h.tape, hg.output.trans h.output, Nat.le_trans h.size hg.size, fun g hb => (hg.block g (by omega) (fun he => by have := hr g he.symm; omega)).trans (h.block g hb)⟩
def ndBox (nd : Nd) : Array Value := #[.int .i64 nd.id, .string nd.con, .int .i64 nd.par, .string nd.role, .slice none 0 0, .slice none 0 0, .slice none 0 0]
def rdBox (next : Int) (v : Value) (gm : Nat) (root : Int) (vw : Value) : Array Value := #[.int .i64 next, v, .map (some gm), .int .i64 root, vw]
structure Mid (B0 B gr gm gn k : Nat) (next root : Int) (v vw : Value) (l : List (Nd × Leaf)) (ws ids : List Int) (nn : Nd) (w W : World) : Prop where
  bx : Blk W gr 45 (rdBox next v gm root vw)
  np : NP B v vw l ws W
  set : SeenIs W gm k ids
  nb : Blk W gn 55 (ndBox nn)
  bel : Below B0 w W
  l0 : B0 ≤ gr
  l1 : B0 ≤ gm
  l2 : gr < B
  l3 : gm < B
  lgn : B0 ≤ gn
  gv : v.ownBlock ≠ some gn
theorem NP.otherN {B g i : Nat} {v vw : Value} {l : List (Nd × Leaf)} {ws : List Int} {w : World} {cs : Array Value} {u : Value} (h : NP B v vw l ws w) (hg : Blk w g 55 cs) (hv : v.ownBlock ≠ some g) : NP B v vw l ws (w.setCell ⟨g, i, none⟩ u) := by
  refine ⟨?_, fun p hp => (h.leaf p hp).other hg (by decide) (by decide) (by decide) i u, own_other h.way hg (by decide) i u, h.ap, h.ak, h.ar, ?_⟩
  · exact World.ownsRow.kept h.own (row := some g) ⟨rfl, rfl, rfl, by simp, fun k _ hk => heap_setCell_other w ⟨g, i, none⟩ k u (fun e => hk (by simp [e]))⟩ (.inr hv)
  · have := ((Below.refl 0 w).setCell (p := ⟨g, i, none⟩) (Nat.zero_le _) u).size
    exact Nat.le_trans h.hB this
section
variable {B0 B gr gm gn k : Nat} {next root : Int} {v vw : Value} {l : List (Nd × Leaf)} {ws ids : List Int} {nn : Nd} {w W W' : World}
theorem Mid.hs (h : Mid B0 B gr gm gn k next root v vw l ws ids nn w W) : B0 ≤ W.heap.size := Nat.le_trans h.l0 (Nat.le_of_lt h.bx.lt)
theorem Mid.after (h : Mid B0 B gr gm gn k next root v vw l ws ids nn w W) (hb : Below W.heap.size W W') : Mid B0 B gr gm gn k next root v vw l ws ids nn w W' :=
  ⟨h.bx.after hb, h.np.after hb, h.set.after hb, h.nb.after hb, h.bel.trans (hb.mono h.hs), h.l0, h.l1, h.l2, h.l3, h.lgn, h.gv⟩
theorem Mid.drew (h : Mid B0 B gr gm gn k next root v vw l ws ids nn w W) : Mid B0 B gr gm gn k next root v vw l ws ids nn w W.drew := h.after (drewS_below _)
theorem Mid.alloc (h : Mid B0 B gr gm gn k next root v vw l ws ids nn w W) (o : Obj) : Mid B0 B gr gm gn k next root v vw l ws ids nn w (W.alloc o) := h.after ((Below.refl _ _).alloc (Nat.le_refl _) o)
theorem Mid.ne (h : Mid B0 B gr gm gn k next root v vw l ws ids nn w W) : gn ≠ gr := by
  rintro rfl
  exact absurd rfl (Blk.ne_ h.nb h.bx (by decide))
/-- the last root is another one -/
theorem Mid.rootS (h : Mid B0 B gr gm gn k next root v vw l ws ids nn w W) (r : Int) : Mid B0 B gr gm gn k next r v vw l ws ids nn w (W.setCell ⟨gr, 3, none⟩ (.int .i64 r)) :=
  ⟨by have := h.bx.set_ 3 (.int .i64 r); simpa [rdBox] using this, h.np.other h.bx (by decide) (by decide) (by decide) (by decide) _ _, h.set.set (p := ⟨gr, 3, none⟩) (h.set.blk_ne h.bx) _, h.nb.far (p := ⟨gr, 3, none⟩) h.ne _, h.bel.setCell (p := ⟨gr, 3, none⟩) h.l0 _, h.l0, h.l1, h.l2, h.l3, h.lgn, h.gv⟩
/-- the parent is known -/
theorem Mid.par (h : Mid B0 B gr gm gn k next root v vw l ws ids nn w W) (y : Int) : Mid B0 B gr gm gn k next root v vw l ws ids { nn with par := y } w (W.setCell ⟨gn, 2, none⟩ (.int .i64 y)) :=
  ⟨h.bx.far (p := ⟨gn, 2, none⟩) (Ne.symm h.ne) _, h.np.otherN h.nb h.gv, h.set.set (p := ⟨gn, 2, none⟩) (h.set.blk_ne h.nb) _, by have := h.nb.set_ 2 (.int .i64 y); simpa [ndBox] using this, h.bel.setCell (p := ⟨gn, 2, none⟩) h.lgn _, h.l0, h.l1, h.l2, h.l3, h.lgn, h.gv⟩
/-- a kid more -/
theorem Mid.kid {n c g i : Nat} {nd : Nd} {P K R : Sl} {Ak : Option Addr} {ck : Nat} {y : Int} (h : Mid B0 B gr gm gn k next root (.slice (some ⟨g, 0, none⟩) n c) vw l ws ids nn w W) (hB : B0 ≤ B) (hl : l.length = n) (hi : l[i]? = some (nd, ⟨P, K, R⟩))
    (ho : W'.ownsRow B 3 1 (.slice Ak (K.n + 1) ck) (K.n + 1) (intCells nd.kids ++ [.int .i64 y])) (hg : W.grownBy W' (Value.slice K.A K.n K.c).ownBlock) (hnew : (Value.slice Ak (K.n + 1) ck).ownBlock = (Value.slice K.A K.n K.c).ownBlock ∨ (Value.slice Ak (K.n + 1) ck).ownBlock = some W.heap.size) :
    Mid B0 B gr gm gn k next root (.slice (some ⟨g, 0, none⟩) n c) vw (l.set i ({ nd with kids := nd.kids ++ [y] }, ⟨P, ⟨Ak, K.n + 1, ck⟩, R⟩)) ws ids nn w (W'.setCell ⟨g, i * 7 + 5, none⟩ (.slice Ak (K.n + 1) ck)) := by
  have hkr : W.ownsRow B 3 1 (.slice K.A K.n K.c) K.n (intCells nd.kids) := (h.np.leaf _ (List.mem_of_getElem? hi)).k
  have hbx := h.bx.grown hg (Ne.symm (own_blk_ne hkr h.bx (by decide)))
  have hnb := h.nb.grown hg (Ne.symm (own_blk_ne hkr h.nb (by decide)))
  have hst := h.set.grown hkr hg
  have hgB : B ≤ g := (World.ownsRow.lt h.np.own g rfl).1
  have hgg : g ≠ gr := by have := h.l2; omega
  have hgn : g ≠ gn := fun e => h.gv (by rw [e]; rfl)
  have hgm : g ≠ gm := by have := h.l3; omega
  exact ⟨hbx.far (p := ⟨g, _, none⟩) (Ne.symm hgg) _, h.np.kid hl hi ho hg hnew, hst.set (p := ⟨g, _, none⟩) (Ne.symm hgm) _, hnb.far (p := ⟨g, _, none⟩) (Ne.symm hgn) _,
    (below_own h.bel h.hs hg fun x hx => by have := (World.ownsRow.lt hkr x hx).1; omega).setCell (p := ⟨g, _, none⟩) (by show B0 ≤ g; omega) _, h.l0, h.l1, h.l2, h.l3, h.lgn, h.gv⟩
/-- a number more is told -/
theorem Mid.put {y : Int} (h : Mid B0 B gr gm gn k next root v vw l ws ids nn w W) (hs : SeenIs W' gm (k + 1) (ids ++ [y])) (hg : W.grownBy W' (some gm)) : Mid B0 B gr gm gn (k + 1) next root v vw l ws (ids ++ [y]) nn w W' :=
  ⟨h.bx.grown hg (fun e => absurd (Option.some.inj e).symm (h.set.blk_ne h.bx)), h.np.map hg (fun g cs t e => by obtain rfl := Option.some.inj e; exact h.set.not_cells _ _ _), hs, h.nb.grown hg (fun e => absurd (Option.some.inj e).symm (h.set.blk_ne h.nb)),
    below_own h.bel h.hs hg fun x hx => by obtain rfl := Option.some.inj hx; exact h.l1, h.l0, h.l1, h.l2, h.l3, h.lgn, h.gv⟩
/-- the way: cut, and a place more -/
theorem Mid.wayA {vw' : Value} {ws' : List Int} (h : Mid B0 B gr gm gn k next root v vw l ws ids nn w W) (hB : B0 ≤ B) (ho : W'.ownsRow B 3 1 vw' ws'.length (intCells ws')) (hg : W.grownBy W' vw.ownBlock) (hnew : vw'.ownBlock = vw.ownBlock ∨ vw'.ownBlock = some W.heap.size) :
    Mid B0 B gr gm gn k next root v vw' l ws' ids nn w (W'.setCell ⟨gr, 4, none⟩ vw') := by
  have hbx := h.bx.grown hg (Ne.symm (own_blk_ne h.np.way h.bx (by decide)))
  have hnb := h.nb.grown hg (Ne.symm (own_blk_ne h.np.way h.nb (by decide)))
  have hst := h.set.grown h.np.way hg
  exact ⟨by have := hbx.set_ 4 vw'; simpa [rdBox] using this, (h.np.wayA ho hg hnew).other hbx (by decide) (by decide) (by decide) (by decide) _ _, hst.set (p := ⟨gr, 4, none⟩) (hst.blk_ne hbx) _, hnb.far (p := ⟨gr, 4, none⟩) h.ne _,
    (below_own h.bel h.hs hg fun x hx => by have := (World.ownsRow.lt h.np.way x hx).1; omega).setCell (p := ⟨gr, 4, none⟩) h.l0 _, h.l0, h.l1, h.l2, h.l3, h.lgn, h.gv⟩
/-- what there is behind the last step -/
structure MidE (B0 B gr gm k : Nat) (next root : Int) (v vw : Value) (l : List (Nd × Leaf)) (ws ids : List Int) (w W : World) : Prop where
  bx : Blk W gr 45 (rdBox next v gm root vw)
  np : NP B v vw l ws W
  set : SeenIs W gm k ids
  bel : Below B0 w W
theorem Mid.node {v' : Value} (h : Mid B0 B gr gm gn k next root v vw l ws ids nn w W) (hB : B0 ≤ B) (h1 : nn.props = []) (h2 : nn.kids = []) (h3 : nn.refs = []) (hz : SzN nn)
    (ho : OwnN W' B v' (l ++ [(nn, ⟨⟨none, 0, 0⟩, ⟨none, 0, 0⟩, ⟨none, 0, 0⟩⟩)])) (hg : W.grownBy W' v.ownBlock) :
    MidE B0 B gr gm k next root v' vw (l ++ [(nn, ⟨⟨none, 0, 0⟩, ⟨none, 0, 0⟩, ⟨none, 0, 0⟩⟩)]) ws ids w (W'.setCell ⟨gr, 1, none⟩ v') := by
  have hbx := h.bx.grown hg (Ne.symm (own_blk_ne h.np.own h.bx (by decide)))
  have hst := h.set.grown h.np.own hg
  exact ⟨by have := hbx.set_ 1 v'; simpa [rdBox] using this, (h.np.node ho hg h1 h2 h3 rfl hz).other hbx (by decide) (by decide) (by decide) (by decide) _ _, hst.set (p := ⟨gr, 1, none⟩) (hst.blk_ne hbx) _,
    (below_own h.bel h.hs hg fun x hx => by have := (World.ownsRow.lt h.np.own x hx).1; omega).setCell (p := ⟨gr, 1, none⟩) h.l0 _⟩
end
end Go.Proofs.YtjjlofaejpnnnaaGreatDoor
namespace Go.Proofs.YtjjlofaejpnnnaaGreatDoor
open Go Go.RowKit
set_option linter.unusedVariables false
/-- the slice v of bytes holds l, in a block of the call's own (from B on), none of its cells frozen -/
def ownF (w : World) (B : Nat) (v : Value) (l : List UInt8) : Prop :=
  ∃ (g cap : Nat) (cur : Array Value) (fr : Nat × Nat), v = .slice (some ⟨g, 0, none⟩) l.length cap ∧ B ≤ g ∧ w.heap[g]? = some (.cells cur 5 fr) ∧ (fr.2 = 0 ∨ cap ≤ fr.1) ∧ l.length ≤ cap ∧ cap ≤ maxLen ∧ cur.size = cap ∧ cur.toList.take l.length = l.map enc
theorem ownF.below {w w' : World} {B : Nat} {v : Value} {l : List UInt8} (h : ownF w B v l) (hb : Below w.heap.size w w') : ownF w' B v l := by
  obtain ⟨g, cap, cur, fr, h1, h2, h3, rest⟩ := h
  exact ⟨g, cap, cur, fr, h1, h2, (hb.block g (Array.getElem?_eq_some_iff.1 h3).1).trans h3, rest⟩
theorem ownF.lt {w : World} {B : Nat} {v : Value} {l : List UInt8} (h : ownF w B v l) : ∀ k, v.ownBlock = some k → B ≤ k ∧ k < w.heap.size := by
  obtain ⟨g, cap, cur, fr, rfl, h2, h3, rest⟩ := h
  intro k hk
  obtain rfl : g = k := Option.some.inj hk
  exact ⟨h2, (Array.getElem?_eq_some_iff.1 h3).1⟩
theorem ownF.form {w : World} {B : Nat} {v : Value} {l : List UInt8} (h : ownF w B v l) : ∃ A m c, v = .slice A m c ∧ m = l.length ∧ m ≤ 9223372036854775807 := by
  obtain ⟨g, cap, cur, fr, rfl, h2, h3, h4, h5, h6, _⟩ := h
  unfold maxLen at h6
  exact ⟨_, _, _, rfl, rfl, by omega⟩
/-- []byte(s) -/
theorem conv_bytes (w : World) (s : ByteArray) (hs : s.size ≤ 140737488355328) : ∃ v w', (convert 9 63 (.string s)).run Tryz.prog w = .ok v w' ∧ ownF w' w.heap.size v s.data.toList ∧ Below w.heap.size w w' := by
  have h0 := Lib.run_convert_string_bytes (P := Tryz.prog) w 9 63 5 s Tryz.underlying9 Tryz.underlying63 Tryz.underlying5
  have hge := grownCap_ge w s.size 0 5
  have hcm : grownCap w s.size 0 5 ≤ maxLen := grownCap_le_maxLen w s.size 0 5 (by unfold maxLen; omega)
  have hsl : s.data.toList.length = s.size := by rw [Array.length_toList]; rfl
  have hcs : (Lib.bytesCells w 5 s).size = grownCap w s.size 0 5 := by
    unfold Lib.bytesCells
    rw [Array.size_append, Array.size_map, Array.size_replicate]
    have : s.data.size = s.size := rfl
    omega
  refine ⟨_, _, h0, ⟨w.heap.size, _, _, _, by rw [hsl], Nat.le_refl _, Lib.bytesWorld_at_new w _ s, .inr (by rw [hcs]; exact Nat.le_refl _), by rw [hsl]; exact hge, hcm, hcs, ?_⟩, Joins.below_bytesWorld _ _ _ _ (Nat.le_refl _)⟩
  unfold Lib.bytesCells
  rw [Array.toList_append, Array.toList_map]
  have e : s.data.toList.length = (s.data.toList.map fun b => Value.int .u8 b.toNat).length := by rw [List.length_map]
  rw [e]
  exact List.take_left
/-- string(b) of such a slice -/
theorem conv_F {w : World} {B : Nat} {v : Value} {l : List UInt8} (h : ownF w B v l) : (convert 63 9 v).run Tryz.prog w = .ok (.string ⟨l.toArray⟩) w := by
  obtain ⟨g, cap, cur, fr, rfl, hbg, hg, hfr, hnc, hcm, hcs, htake⟩ := h
  rw [run_convert_bytes_string w _ _ _ _ _ _ Tryz.underlying63 Tryz.underlying5 Tryz.underlying9]
  have hc : ∀ j u, (l.map enc)[j]? = some u → w.cell? ((⟨g, 0, none⟩ : Addr).add j) = some u := by
    intro j u hj
    have hjl : j < l.length := by have := (List.getElem?_eq_some_iff.1 hj).1; simpa using this
    have e : (⟨g, 0, none⟩ : Addr).add j = ⟨g, j, none⟩ := by simp [Addr.add]; exact fun h => h.symm
    rw [e, cell_of_row w g j cur _ fr hg, ← Array.getElem?_toList]
    rw [← htake, List.getElem?_take, if_pos hjl] at hj
    exact hj
  have hload := run_loadCells_list (P := Tryz.prog) w ⟨g, 0, none⟩ (l.map enc) hc
  rw [List.length_map] at hload
  have := run_bytesToString (P := Tryz.prog) w ⟨g, 0, none⟩ l.length cap (l.map fun c => (c.toNat : Int)) (by rw [hload]; congr 2; simp [enc])
  rw [this, fold_push]
  simp
end Go.Proofs.YtjjlofaejpnnnaaGreatDoor
namespace Go.Proofs.YtjjlofaejpnnnaaGreatDoor
open Go Go.RowKit
set_option linter.unusedVariables false
def Unq (w : World) (r : List UInt8 × Int × Int) (e : Ending) (w' : World) : Prop := e = .returned (.tuple #[.string ⟨r.1.toArray⟩, .int .i64 r.2.1, .int .i64 r.2.2]) ∧ Below w.heap.size w w'
theorem unq_some {s : ByteArray} {t n : Nat} {L : List UInt8} (ht : t < s.size) (hq : s[t].toNat = 34) (h : scan s (t + 1) = (some L, n)) : unq s t = (L, (n : Int), 0) := by
  unfold unq
  rw [if_neg (by omega)]
  simp only [Int.toNat_natCast]
  rw [dif_pos ht, if_pos hq, h]
theorem unq_none {s : ByteArray} {t n : Nat} (ht : t < s.size) (hq : s[t].toNat = 34) (h : scan s (t + 1) = (none, n)) : unq s t = ([], (n : Int), 10) := by
  unfold unq
  rw [if_neg (by omega)]
  simp only [Int.toNat_natCast]
  rw [dif_pos ht, if_pos hq, h]
theorem unq_fin {w w' : World} {s : ByteArray} {t n : Int} {L : List UInt8} {c : Int} (h : unq s t = (L, n, c)) (hb : Below w.heap.size w w') :
    Unq w (unq s t) (.returned (.tuple #[.string ⟨L.toArray⟩, .int .i64 n, .int .i64 c])) w' := by
  rw [h]; exact ⟨rfl, hb⟩
def UnqRel (s : ByteArray) (t : Nat) (w : World) (v i : Value) (wr : World) : Prop :=
  ∃ (k : Nat) (l : List UInt8), k ≤ s.size ∧ i = .int .i64 k ∧ ownB wr w.heap.size v l ∧ l.length ≤ k ∧ Below w.heap.size w wr ∧ scan s (t + 1) = ((scan s k).1.map (l ++ ·), (scan s k).2)
theorem enc_ofNat {b : Nat} (h : b < 256) : (UInt8.ofNat b).toNat = b := by simp; omega
set_option maxHeartbeats 400000 in
theorem unquote_in (s : ByteArray) (t : Nat) (w : World) (hs : s.size + 8 ≤ 140737488355328) (ht : t < s.size) (hq : s[t].toNat = 34) :
    Calls Tryz.prog 84 #[.string s, .int .i64 t] w (Unq w (unq s t)) := by
  have h0 : ((s[t].toNat : Int) != 34) = false := by simp [hq]
  have h1 : ((t : Int) == (s.size : Int)) = false := by rw [beq_eq_false_iff_ne]; omega
  have h2 : decide ((t : Int) < 0) = false := by simp
  have h3 : decide (s.size < t) = false := by simp; omega
  have HQ := Lib.hid hq
  clear hq
  go_enter Tryz.func84, Tryz.ntmps84
  go_wp2_with fail
  go_step3
  go_wp2_with fail
  go_step3
  go_wp2_with fail
  go_loopw [7, 8] (fun v i wr => UnqRel s t w v i wr) (fun _ i _ => s.size - (intOf i).toNat)
  case atStart => exact ⟨t + 1, [], by omega, by go_num, ownB.nil _ _, by simp, Below.refl _ _, by simp⟩
  case round =>
    obtain ⟨k, l, hk, rfl, hown, hlen, hb, hs0⟩ := hrel
    have HS := Lib.hid hs0
    clear hs0
    have hszr : w.heap.size ≤ wr.heap.size := hb.size
    by_cases hlt : k < s.size
    · by_cases c1 : s[k].toNat = 34
      · have d1 : ((s[k].toNat : Int) == 34) = true := by rw [beq_iff_eq]; omega
        have HE := Lib.hid (scan_quote hlt c1)
        clear c1
        have hcv := conv_own hown
        go_wp2_with fail
        rw [Exit.noGoto_ret]
        go_ret3
        exact unq_fin (unq_some ht HQ.out (by rw [HS.out, HE.out]; simp)) hb
      · have d1 : ((s[k].toNat : Int) == 34) = false := by rw [beq_eq_false_iff_ne]; omega
        by_cases c2 : s[k].toNat = 92
        · have d2 : ((s[k].toNat : Int) == 92) = true := by rw [beq_iff_eq]; omega
          rcases hq : stepEsc s (k + 1) with ⟨n, r⟩
          have hst : stepAt s k hlt = (1 + n, r) := by unfold stepAt; rw [if_pos c2, hq]
          have hle := stepEsc_le (by omega) hq
          have H : Hid (stepEsc s ((k : Int) + 1).toNat = (n, r)) := Lib.hid (by rw [show ((k : Int) + 1).toNat = k + 1 from by omega]; exact hq)
          have hn := hle.1
          cases r with
          | none =>
            have HE := Lib.hid (scan_stop hlt c1 hst)
            clear c1 c2 hq hst hle
            go_wp2_with (go_at_call 110; refine (escaped_any s _ n none _ (by omega) (by omega) (by unfold maxLen; omega) H.out).mono ?_; rintro e w' ⟨rfl, rfl⟩)
            rw [Exit.noGoto_ret]
            go_ret3
            exact unq_fin (unq_none ht HQ.out (by rw [HS.out, HE.out]; simp; omega)) hb
          | some b =>
            have hb256 : b < 256 := hle.2 b rfl
            have HE := Lib.hid (scan_step hlt c1 hst)
            clear c1 c2 hq hst hle
            go_wp2_with (first | (go_at_call 110; refine (escaped_any s _ n (some b) _ (by omega) (by omega) (by unfold maxLen; omega) H.out).mono ?_; rintro e w' ⟨rfl, rfl⟩) | (at_builtin; refine app_bytes rfl _ _ rfl w.heap.size _ _ rfl (hown.alloc _) ⟨wr.heap.size, 0, none⟩ 1 1 [UInt8.ofNat b] rfl rfl (cells_new wr _ _ _ (by simp [enc, enc_ofNat hb256])) (by omega) (by simp; omega) ?_; intro v2 w2 hown2 hb2))
            go_roundw
            case rel => exact ⟨k + (1 + n), l ++ [UInt8.ofNat b], by omega, by go_num, hown2, by simp; omega, (hb.alloc hszr _).trans hb2, by rw [HS.out, HE.out]; simp [Option.map_map, Function.comp_def]⟩
            case measure => simp [intOf]; omega
        · have d2 : ((s[k].toNat : Int) == 92) = false := by rw [beq_eq_false_iff_ne]; omega
          cases hn : numBQ (s[k].toNat : Int) with
          | true =>
            have hst : stepAt s k hlt = (0, none) := by unfold stepAt; rw [if_neg c2, if_pos (Or.inl hn)]
            have HE := Lib.hid (scan_stop hlt c1 hst)
            have HN := Lib.hid hn
            clear c1 c2 hst hn
            go_wp2_with (go_at_call 111; refine (numbered_yes _ _ HN.out).mono ?_; rintro e w' ⟨rfl, rfl⟩)
            rw [Exit.noGoto_ret]
            go_ret3
            exact unq_fin (unq_none ht HQ.out (by rw [HS.out, HE.out]; simp)) hb
          | false =>
            have HN := Lib.hid hn
            by_cases c3 : s[k].toNat = 10
            · have d3 : ((s[k].toNat : Int) == 10) = true := by rw [beq_iff_eq]; omega
              have hst : stepAt s k hlt = (0, none) := by unfold stepAt; rw [if_neg c2, if_pos (Or.inr c3)]
              have HE := Lib.hid (scan_stop hlt c1 hst)
              clear c1 c2 c3 hst hn
              go_wp2_with (go_at_call 111; refine (numbered_no _ _ HN.out).mono ?_; rintro e w' ⟨rfl, rfl⟩)
              rw [Exit.noGoto_ret]
              go_ret3
              exact unq_fin (unq_none ht HQ.out (by rw [HS.out, HE.out]; simp)) hb
            · have d3 : ((s[k].toNat : Int) == 10) = false := by rw [beq_eq_false_iff_ne]; omega
              have hst : stepAt s k hlt = (1, some s[k].toNat) := by unfold stepAt; rw [if_neg c2, if_neg (by rw [hn]; simp [c3])]
              have HE := Lib.hid (scan_step hlt c1 hst)
              clear c1 c2 c3 hst hn
              go_wp2_with (first | (go_at_call 111; refine (numbered_no _ _ HN.out).mono ?_; rintro e w' ⟨rfl, rfl⟩) | (at_builtin; refine app_bytes rfl _ _ rfl w.heap.size _ _ rfl (hown.alloc _) ⟨wr.heap.size, 0, none⟩ 1 1 [s[k]] rfl rfl (cells_new wr _ _ _ rfl) (by omega) (by simp; omega) ?_; intro v2 w2 hown2 hb2))
              go_roundw
              case rel => exact ⟨k + 1, l ++ [s[k]], by omega, by go_num, hown2, by simp; omega, (hb.alloc hszr _).trans hb2, by rw [HS.out, HE.out]; simp [Option.map_map, Function.comp_def]⟩
              case measure => simp [intOf]; omega
    · have HE := Lib.hid (scan_end hlt)
      go_wp2_with fail
      rw [Exit.noGoto_ret]
      go_ret3
      exact unq_fin (unq_none ht HQ.out (by rw [HS.out, HE.out]; rfl)) hb
set_option maxHeartbeats 400000 in
theorem unquote_any (s : ByteArray) (t : Int) (w : World) (hs : s.size + 8 ≤ 140737488355328) :
    Calls Tryz.prog 84 #[.string s, .int .i64 t] w (Unq w (unq s t)) := by
  by_cases h0 : t < 0 ∨ (s.size : Int) < t
  · have hu : unq s t = ([], 0, 2) := by unfold unq; rw [if_pos h0]
    have HU := Lib.hid hu
    clear hu
    rcases h0 with h0 | h0
    · go_enter Tryz.func84, Tryz.ntmps84
      go_wp2_with fail
      go_step3
      go_wp2_with fail
      rw [Exit.noGoto_ret]
      go_ret3
      exact unq_fin HU.out (Below.refl _ _)
    · have h1 : ¬ t < 0 := by omega
      go_enter Tryz.func84, Tryz.ntmps84
      go_wp2_with fail
      go_step3
      go_wp2_with fail
      rw [Exit.noGoto_ret]
      go_ret3
      exact unq_fin HU.out (Below.refl _ _)
  · obtain ⟨t, rfl⟩ := Int.eq_ofNat_of_zero_le (show 0 ≤ t by omega)
    by_cases ht : t < s.size
    · by_cases hq : s[t].toNat = 34
      · exact unquote_in s t w hs ht hq
      · have hu : unq s t = ([], (t : Int), 10) := by
          unfold unq; rw [if_neg h0]; simp only [Int.toNat_natCast]; rw [dif_pos ht, if_neg hq]
        have HU := Lib.hid hu
        have h4 : ((s[t].toNat : Int) != 34) = true := by rw [bne_iff_ne]; omega
        have h1 : ((t : Int) == (s.size : Int)) = false := by rw [beq_eq_false_iff_ne]; omega
        have h2 : decide ((t : Int) < 0) = false := by simp
        have h3 : decide (s.size < t) = false := by simp; omega
        clear hu hq h0
        go_enter Tryz.func84, Tryz.ntmps84
        go_wp2_with fail
        go_step3
        go_wp2_with fail
        rw [Exit.noGoto_ret]
        go_ret3
        exact unq_fin HU.out (Below.refl _ _)
    · have hu : unq s t = ([], (t : Int), 10) := by
        unfold unq; rw [if_neg h0]; simp only [Int.toNat_natCast]; rw [dif_neg ht]
      have HU := Lib.hid hu
      have h1 : ((t : Int) == (s.size : Int)) = true := by rw [beq_iff_eq]; omega
      have h2 : decide ((t : Int) < 0) = false := by simp
      have h3 : decide (s.size < t) = false := by simp; omega
      clear hu h0
      go_enter Tryz.func84, Tryz.ntmps84
      go_wp2_with fail
      go_step3
      go_wp2_with fail
      rw [Exit.noGoto_ret]
      go_ret3
      exact unq_fin HU.out (Below.refl _ _)
end Go.Proofs.YtjjlofaejpnnnaaGreatDoor
