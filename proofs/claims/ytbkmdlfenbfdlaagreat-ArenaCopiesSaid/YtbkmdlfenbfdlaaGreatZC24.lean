/-
  PLAIN: what a right model is, told by its nodes alone; there and back.
  PLAIN: a model with a part that hangs nowhere; it is put somewhere, or left out.
  PLAIN: what is done to a right model leaves a right one.
  PLAIN: a part's copies hang nowhere; they are put somewhere.
-/
import Derived.Test.YtbkmdlfenbfdlaaGreatZC23
namespace Go.Proofs.YtbkmdlfenbfdlaaGreat
open Go Go.RowKit
set_option linter.unusedVariables false
/-- a node's words -/
structure SpN (next : Int) (nd : Nd) : Prop where
  con : wordB nd.con = true
  props : propsB none nd.props = true
  refs : refsB next none nd.refs = true
/-- where a node hangs -/
def ParN (nds : List Nd) (nd : Nd) : Prop := (nd.par = 0 ∧ nd.role.toList = []) ∨ (nd.par ≠ 0 ∧ wordB nd.role = true ∧ ∃ p ∈ nds, p.id = nd.par ∧ nd.id ∈ p.kids)
/-- a right model -/
structure TM (next : Int) (nds : List Nd) : Prop where
  lo : 1 ≤ next
  hi : next ≤ 1048577
  len : nds.length ≤ 4096
  rise : (nds.map (·.id)).Pairwise (· < ·)
  ids : ∀ nd ∈ nds, 1 ≤ nd.id ∧ nd.id < next
  sp : ∀ nd ∈ nds, SpN next nd
  nod : ∀ nd ∈ nds, nd.kids.Nodup
  kid : ∀ nd ∈ nds, ∀ k ∈ nd.kids, ∃ x ∈ nds, x.id = k ∧ x.par = nd.id
  par : ∀ nd ∈ nds, ParN nds nd
  dep : ∃ d : Int → Nat, d 0 = 0 ∧ ∀ nd ∈ nds, d nd.id = d nd.par + 1 ∧ d nd.id ≤ 64
theorem pw_rise {nds : List Nd} (h : (nds.map (·.id)).Pairwise (· < ·)) (h1 : ∀ nd ∈ nds, 1 ≤ nd.id) : Rise nds := by
  rw [List.pairwise_map, List.pairwise_iff_getElem] at h
  refine ⟨fun i nd hi => h1 nd (List.mem_of_getElem? hi), fun i j a b hij ha hb => ?_⟩
  obtain ⟨hi, rfl⟩ := List.getElem?_eq_some_iff.1 ha
  obtain ⟨hj, rfl⟩ := List.getElem?_eq_some_iff.1 hb
  exact h i j hi hj hij
theorem rise_pw {nds : List Nd} (h : Rise nds) : (nds.map (·.id)).Pairwise (· < ·) := by
  rw [List.pairwise_map, List.pairwise_iff_getElem]
  intro i j hi hj hij
  exact h.lt i j _ _ hij (List.getElem?_eq_getElem hi) (List.getElem?_eq_getElem hj)
theorem nd_uniq {nds : List Nd} (h : Rise nds) {x y : Nd} (hx : x ∈ nds) (hy : y ∈ nds) (e : x.id = y.id) : x = y := by
  obtain ⟨i, hi⟩ := List.getElem?_of_mem hx
  obtain ⟨j, hj⟩ := List.getElem?_of_mem hy
  have := h.inj hi hj e
  subst this
  rw [hi] at hj
  injection hj
theorem ndOf_mem {nds : List Nd} (h : Rise nds) {k : Int} {x : Nd} : ndOf nds k = some x ↔ x ∈ nds ∧ x.id = k := by
  constructor
  · intro hx
    obtain ⟨i, _, hi, e⟩ := ndOf_some hx
    exact ⟨List.mem_of_getElem? hi, e⟩
  · rintro ⟨hx, rfl⟩
    obtain ⟨i, hi⟩ := List.getElem?_of_mem hx
    exact ndOf_is h hi
theorem idsB_mk {next : Int} : ∀ {last : Int} {nds : List Nd}, (∀ nd ∈ nds, last < nd.id ∧ nd.id < next) → (nds.map (·.id)).Pairwise (· < ·) → idsB next last nds = true
  | _, [], _, _ => rfl
  | last, x :: r, h, hp => by
    rw [List.map_cons, List.pairwise_cons] at hp
    have hx := h x (List.mem_cons_self ..)
    rw [idsB, idsB_mk (fun nd hnd => ⟨hp.1 _ (List.mem_map_of_mem hnd), (h nd (List.mem_cons_of_mem _ hnd)).2⟩) hp.2]
    simp [hx.1, hx.2]
section
variable {next : Int} {nds : List Nd}
theorem TM.riseR (h : TM next nds) : Rise nds := pw_rise h.rise fun nd hnd => (h.ids nd hnd).1
theorem TM.below_mk (h : TM next nds) {d : Int → Nat} (hd : ∀ nd ∈ nds, d nd.id = d nd.par + 1 ∧ d nd.id ≤ 64) : ∀ (f : Nat) (nd : Nd), nd ∈ nds → d nd.id ≤ f → belowB nds f nd = true
  | 0, nd, hnd, hf => by have := (hd nd hnd).1; omega
  | f + 1, nd, hnd, hf => by
    rw [belowB]
    rcases h.par nd hnd with ⟨hp, hr⟩ | ⟨hp, hw, p, hpm, hpi, hk⟩
    · rw [if_pos hp, hr]; rfl
    · rw [if_neg hp, (ndOf_mem h.riseR).2 ⟨hpm, hpi⟩]
      have h1 := (hd nd hnd).1
      rw [← hpi] at h1
      simp only [hw, Bool.true_and, Bool.and_eq_true]
      exact ⟨by simpa using hk, TM.below_mk h hd f p hpm (by omega)⟩
theorem TM.kl (h : TM next nds) {nd : Nd} (hnd : nd ∈ nds) : nd.kids.length ≤ nds.length := by
  have := nodup_le (m := nds.map (·.id)) (h.nod nd hnd) (fun k hk => by
    obtain ⟨x, hx, rfl, _⟩ := h.kid nd hnd k hk
    exact List.mem_map_of_mem hx)
  rwa [List.length_map] at this
theorem TM.right (h : TM next nds) : rightB next nds = true := by
  obtain ⟨d, h0, hd⟩ := h.dep
  have hi : idsB next 0 nds = true := idsB_mk (fun nd hnd => ⟨by have := (h.ids nd hnd).1; omega, (h.ids nd hnd).2⟩) h.rise
  have hn : ∀ nd ∈ nds, (plainB next nds nd && belowB nds 64 nd) = true := by
    intro nd hnd
    have hs := h.sp nd hnd
    have hkl := h.kl hnd
    have hk : kidsB nds nd.id [] nd.kids = true := kidsB_spec.2 ⟨fun k hk => ⟨by
      obtain ⟨x, hx, e, hp⟩ := h.kid nd hnd k hk
      exact ⟨x, (ndOf_mem h.riseR).2 ⟨hx, e⟩, hp⟩, by simp⟩, h.nod nd hnd⟩
    rw [h.below_mk hd 64 nd hnd (hd nd hnd).2, Bool.and_true]
    unfold plainB
    rw [hs.con, hs.props, hs.refs, hk, decide_eq_true hkl]
    rfl
  unfold rightB numB headB
  rw [hi, decide_eq_true h.lo, decide_eq_true h.hi, decide_eq_true h.len, List.all_eq_true.2 hn]
  rfl
theorem RightM.step (hR : RightM next nds) {nd : Nd} (hnd : nd ∈ nds) : depthV nds nd.id = depthV nds nd.par + 1 ∧ depthV nds nd.id ≤ 64 := by
  have hx := (ndOf_mem hR.rise).2 ⟨hnd, rfl⟩
  obtain ⟨D, D1, D2⟩ := hR.depth hx
  refine ⟨?_, D2⟩
  have hid : nd.id ≠ 0 := by
    obtain ⟨i, hi⟩ := List.getElem?_of_mem hnd
    have := hR.rise.pos i nd hi
    omega
  by_cases h0 : nd.par = 0
  · have h1 : DepthIs nds nd.par (depthV nds nd.par) := by rw [h0]; exact depth_root.1
    exact D.eq (h1.succ hx hid)
  · have hb := hR.below nd hnd
    rw [show (64 : Nat) = 63 + 1 from rfl, belowB, if_neg h0] at hb
    cases hp : ndOf nds nd.par with
    | none => rw [hp] at hb; cases hb
    | some p => exact D.eq ((hR.depth hp).1.succ hx hid)
theorem TM.map_sp {f : Nd → Nd} (h : TM next nds) (f1 : ∀ y, (f y).id = y.id ∧ (f y).par = y.par ∧ (f y).role = y.role ∧ (f y).kids = y.kids) (f2 : ∀ y ∈ nds, SpN next (f y)) : TM next (nds.map f) := by
  have e1 : (nds.map f).map (·.id) = nds.map (·.id) := by
    rw [List.map_map]
    exact List.map_congr_left fun y _ => (f1 y).1
  obtain ⟨d, h0, hd⟩ := h.dep
  refine ⟨h.lo, h.hi, by rw [List.length_map]; exact h.len, by rw [e1]; exact h.rise, ?_, ?_, ?_, ?_, ?_, d, h0, ?_⟩ <;> intro nd hnd <;> obtain ⟨y, hy, rfl⟩ := List.mem_map.1 hnd <;> obtain ⟨g1, g2, g3, g4⟩ := f1 y
  · rw [g1]; exact h.ids y hy
  · exact f2 y hy
  · rw [g4]; exact h.nod y hy
  · intro k hk
    rw [g4] at hk
    obtain ⟨x, hx, e, hp⟩ := h.kid y hy k hk
    exact ⟨f x, List.mem_map_of_mem hx, by rw [(f1 x).1]; exact e, by rw [(f1 x).2.1, g1]; exact hp⟩
  · unfold ParN
    rw [g2, g3, g1]
    rcases h.par y hy with hr | ⟨hp, hw, p, hpm, hpi, hk⟩
    · exact .inl hr
    · exact .inr ⟨hp, hw, f p, List.mem_map_of_mem hpm, by rw [(f1 p).1]; exact hpi, by rw [(f1 p).2.2.2]; exact hk⟩
  · rw [g1, g2]; exact hd y hy
/-- what is below a node's kids is below the node -/
theorem preI_kids (hR : RightM next nds) : ∀ (f : Nat) (x : Int) (nd : Nd), ndOf nds x = some nd → depthV nds x + f = 65 → ∀ y ∈ preI nds x, ∀ p, ndOf nds y = some p → ∀ k ∈ p.kids, k ∈ preI nds x
  | 0, x, nd, hx, hf, _, _, _, _, _, _ => by have := depthV_le nds x; omega
  | f + 1, x, nd, hx, hf, y, hy, p, hp, k, hk => by
    rw [preI_eq hR hx] at hy ⊢
    rw [List.mem_cons] at hy ⊢
    refine .inr ?_
    rw [List.mem_flatMap]
    rcases hy with rfl | hy
    · rw [hx] at hp
      injection hp with hp
      subst hp
      obtain ⟨r, hr⟩ := preI_cons nds k
      exact ⟨k, hk, by rw [hr]; exact List.mem_cons_self ..⟩
    · obtain ⟨c, hc, hy⟩ := List.mem_flatMap.1 hy
      obtain ⟨z, hz, _, hd⟩ := kid_depth hR hx hc
      exact ⟨c, hc, preI_kids hR f c z hz (by omega) y hy p hp k hk⟩
theorem preI_kid (hR : RightM next nds) {x y : Int} {nd p : Nd} (hx : ndOf nds x = some nd) (hy : y ∈ preI nds x) (hp : ndOf nds y = some p) {k : Int} (hk : k ∈ p.kids) : k ∈ preI nds x := by
  have := depthV_le nds x
  exact preI_kids hR (65 - depthV nds x) x nd hx (by omega) y hy p hp k hk
end
end Go.Proofs.YtbkmdlfenbfdlaaGreat
namespace Go.Proofs.YtbkmdlfenbfdlaaGreat
open Go Go.RowKit
set_option linter.unusedVariables false
/-- the part: S its nodes, id the first; d tells levels, of the part as if it hung at the top; hh its height -/
structure TX (next : Int) (t : List Nd) (id : Int) (S : Int → Bool) (d : Int → Nat) (hh : Nat) : Prop where
  lo : 1 ≤ next
  hi : next ≤ 1048577
  len : t.length ≤ 4096
  rise : (t.map (·.id)).Pairwise (· < ·)
  ids : ∀ nd ∈ t, 1 ≤ nd.id ∧ nd.id < next
  sp : ∀ nd ∈ t, SpN next nd
  nod : ∀ nd ∈ t, nd.kids.Nodup
  kid : ∀ nd ∈ t, ∀ k ∈ nd.kids, k ≠ id ∧ ∃ x ∈ t, x.id = k ∧ x.par = nd.id
  orp : ∃ o ∈ t, o.id = id
  par : ∀ nd ∈ t, nd.id ≠ id → ParN t nd
  d0 : d 0 = 0
  s0 : S 0 = false
  d1 : d id = 1
  s1 : S id = true
  dep : ∀ nd ∈ t, nd.id ≠ id → d nd.id = d nd.par + 1 ∧ S nd.id = S nd.par
  ds : ∀ nd ∈ t, S nd.id = true → d nd.id ≤ hh
  dn : ∀ nd ∈ t, S nd.id = false → d nd.id ≤ 64
theorem insAt_perm {α : Type} (l : List α) (a : Nat) (x : α) : (insAt l a x).Perm (x :: l) := by
  unfold insAt
  have := List.perm_middle (a := x) (l₁ := l.take a) (l₂ := l.drop a)
  rwa [List.take_append_drop] at this
theorem insAt_mem {α : Type} {l : List α} {a : Nat} {x k : α} : k ∈ insAt l a x ↔ k = x ∨ k ∈ l := by rw [(insAt_perm l a x).mem_iff, List.mem_cons]
theorem insAt_nodup {l : List Int} {a : Nat} {x : Int} (h : x ∉ l) (hn : l.Nodup) : (insAt l a x).Nodup := (insAt_perm l a x).nodup_iff.2 (List.nodup_cons.2 ⟨h, hn⟩)
/-- the part's first node is put below a parent -/
def putF (id parent : Int) (role : ByteArray) (a : Nat) (y : Nd) : Nd :=
  if y.id = id then { y with par := parent, role := role } else if y.id = parent then { y with kids := insAt y.kids a id } else y
section
variable {id parent : Int} {role : ByteArray} {a : Nat} {y : Nd}
theorem putF_same : (putF id parent role a y).id = y.id ∧ (putF id parent role a y).con = y.con ∧ (putF id parent role a y).props = y.props ∧ (putF id parent role a y).refs = y.refs := by
  unfold putF
  split
  · exact ⟨rfl, rfl, rfl, rfl⟩
  · split <;> exact ⟨rfl, rfl, rfl, rfl⟩
theorem putF_orp (h : y.id = id) : (putF id parent role a y).par = parent ∧ (putF id parent role a y).role = role ∧ (putF id parent role a y).kids = y.kids := by
  unfold putF
  rw [if_pos h]
  exact ⟨rfl, rfl, rfl⟩
theorem putF_par (h : y.id ≠ id) : (putF id parent role a y).par = y.par ∧ (putF id parent role a y).role = y.role := by
  unfold putF
  rw [if_neg h]
  split <;> exact ⟨rfl, rfl⟩
theorem putF_at (h : y.id ≠ id) (hp : y.id = parent) : (putF id parent role a y).kids = insAt y.kids a id := by
  unfold putF
  rw [if_neg h, if_pos hp]
theorem putF_kids (hp : y.id ≠ parent) : (putF id parent role a y).kids = y.kids := by
  unfold putF
  rw [if_neg hp]
  split <;> rfl
theorem putF_kid_in {k : Int} (h : k ∈ (putF id parent role a y).kids) : k ∈ y.kids ∨ (k = id ∧ y.id = parent) := by
  unfold putF at h
  split at h
  · exact .inl h
  · split at h
    · rename_i hp
      rcases insAt_mem.1 h with rfl | h
      · exact .inr ⟨rfl, hp⟩
      · exact .inl h
    · exact .inl h
theorem putF_kid_of {k : Int} (h : k ∈ y.kids) : k ∈ (putF id parent role a y).kids := by
  unfold putF
  split
  · exact h
  · split
    · exact insAt_mem.2 (.inr h)
    · exact h
end
section
variable {next : Int} {t : List Nd} {id parent : Int} {S : Int → Bool} {d : Int → Nat} {hh : Nat}
theorem TX.riseR (h : TX next t id S d hh) : Rise t := pw_rise h.rise fun nd hnd => (h.ids nd hnd).1
theorem TX.put (h : TX next t id S d hh) {role : ByteArray} (a : Nat) (hS : S parent = false) (hd : d parent + hh ≤ 64) (hp : (parent = 0 ∧ role.toList = []) ∨ (parent ≠ 0 ∧ wordB role = true ∧ ∃ p ∈ t, p.id = parent)) :
    TM next (t.map (putF id parent role a)) := by
  have hne : parent ≠ id := by
    intro e
    rw [e, h.s1] at hS
    cases hS
  have e1 : (t.map (putF id parent role a)).map (·.id) = t.map (·.id) := by
    rw [List.map_map]
    exact List.map_congr_left fun y _ => putF_same.1
  refine ⟨h.lo, h.hi, by rw [List.length_map]; exact h.len, by rw [e1]; exact h.rise, ?_, ?_, ?_, ?_, ?_, fun x => if S x = true then d x + d parent else d x, by simp [h.s0, h.d0], ?_⟩ <;> intro nd hnd <;> obtain ⟨y, hy, rfl⟩ := List.mem_map.1 hnd <;> obtain ⟨g1, g2, g3, g4⟩ := putF_same (id := id) (parent := parent) (role := role) (a := a) (y := y)
  · rw [g1]; exact h.ids y hy
  · have := h.sp y hy
    exact ⟨by rw [g2]; exact this.con, by rw [g3]; exact this.props, by rw [g4]; exact this.refs⟩
  · by_cases hpy : y.id = parent
    · rw [putF_at (fun e => hne (hpy ▸ e)) hpy]
      exact insAt_nodup (fun hm => (h.kid y hy id hm).1 rfl) (h.nod y hy)
    · rw [putF_kids hpy]; exact h.nod y hy
  · intro k hk
    rw [g1]
    rcases putF_kid_in hk with hk | ⟨rfl, hpy⟩
    · obtain ⟨hki, x, hx, e, hxp⟩ := h.kid y hy k hk
      exact ⟨_, List.mem_map_of_mem hx, by rw [putF_same.1]; exact e, by rw [(putF_par (by rw [e]; exact hki)).1]; exact hxp⟩
    · obtain ⟨o, ho, hoi⟩ := h.orp
      exact ⟨_, List.mem_map_of_mem ho, by rw [putF_same.1]; exact hoi, by rw [(putF_orp hoi).1]; exact hpy.symm⟩
  · unfold ParN
    rw [g1]
    by_cases hyi : y.id = id
    · obtain ⟨o1, o2, _⟩ := putF_orp (parent := parent) (role := role) (a := a) hyi
      rw [o1, o2]
      rcases hp with h0 | ⟨h0, hw, p, hpm, hpi⟩
      · exact .inl h0
      · exact .inr ⟨h0, hw, _, List.mem_map_of_mem hpm, by rw [putF_same.1]; exact hpi, by rw [putF_at (by rw [hpi]; exact hne) hpi, hyi]; exact insAt_mem.2 (.inl rfl)⟩
    · obtain ⟨o1, o2⟩ := putF_par (parent := parent) (role := role) (a := a) hyi
      rw [o1, o2]
      rcases h.par y hy hyi with h0 | ⟨h0, hw, p, hpm, hpi, hk⟩
      · exact .inl h0
      · exact .inr ⟨h0, hw, _, List.mem_map_of_mem hpm, by rw [putF_same.1]; exact hpi, putF_kid_of hk⟩
  · show (if S _ = true then _ else _) = (if S _ = true then _ else _) + 1 ∧ (if S _ = true then _ else _) ≤ 64
    rw [g1]
    by_cases hyi : y.id = id
    · obtain ⟨o1, _, _⟩ := putF_orp (parent := parent) (role := role) (a := a) hyi
      have := h.ds y hy (by rw [hyi]; exact h.s1)
      rw [hyi, h.d1] at this
      rw [o1, hyi, h.s1, hS, h.d1]
      simp only [if_true, Bool.false_eq_true, if_false]
      omega
    · obtain ⟨o1, _⟩ := putF_par (parent := parent) (role := role) (a := a) hyi
      obtain ⟨e2, e3⟩ := h.dep y hy hyi
      rw [o1, ← e3]
      cases hs : S y.id with
      | true =>
        have := h.ds y hy hs
        simp only [if_true]
        omega
      | false =>
        have := h.dn y hy hs
        simp only [Bool.false_eq_true, if_false]
        omega
/-- without the part -/
theorem TX.drop (h : TX next t id S d hh) : TM next (t.filter fun y => !S y.id) := by
  have hsub : (t.filter fun y => !S y.id).Sublist t := List.filter_sublist
  refine ⟨h.lo, h.hi, Nat.le_trans hsub.length_le h.len, h.rise.sublist (hsub.map _), ?_, ?_, ?_, ?_, ?_, d, h.d0, ?_⟩ <;> intro nd hnd <;> obtain ⟨hm, hs⟩ := List.mem_filter.1 hnd <;> replace hs : S nd.id = false := by simpa using hs
  · exact h.ids nd hm
  · exact h.sp nd hm
  · exact h.nod nd hm
  · intro k hk
    obtain ⟨hki, x, hx, e, hxp⟩ := h.kid nd hm k hk
    exact ⟨x, List.mem_filter.2 ⟨hx, by rw [(h.dep x hx (by rw [e]; exact hki)).2, hxp, hs]; rfl⟩, e, hxp⟩
  · have hni : nd.id ≠ id := by
      intro e
      rw [e, h.s1] at hs
      cases hs
    rcases h.par nd hm hni with h0 | ⟨h0, hw, p, hpm, hpi, hk⟩
    · exact .inl h0
    · exact .inr ⟨h0, hw, p, List.mem_filter.2 ⟨hpm, by rw [hpi, ← (h.dep nd hm hni).2, hs]; rfl⟩, hpi, hk⟩
  · have hni : nd.id ≠ id := by
      intro e
      rw [e, h.s1] at hs
      cases hs
    exact ⟨(h.dep nd hm hni).1, h.dn nd hm hs⟩
end
section
variable {next : Int} {nds : List Nd}
theorem fold_ge {α : Type} (f : α → Nat) : ∀ (L : List α) (a : Nat), a ≤ L.foldl (fun a y => max a (f y)) a ∧ ∀ y ∈ L, f y ≤ L.foldl (fun a y => max a (f y)) a
  | [], a => ⟨Nat.le_refl _, by simp⟩
  | x :: L, a => by
    obtain ⟨h1, h2⟩ := fold_ge f L (max a (f x))
    rw [List.foldl_cons]
    refine ⟨Nat.le_trans (Nat.le_max_left ..) h1, fun y hy => ?_⟩
    rcases List.mem_cons.1 hy with rfl | hy
    · exact Nat.le_trans (Nat.le_max_right ..) h1
    · exact h2 y hy
theorem hi_ge {x y : Int} (hy : y ∈ preI nds x) : depthV nds y - depthV nds x + 1 ≤ hiV nds x := (fold_ge (fun y => depthV nds y - depthV nds x + 1) (preI nds x) 0).2 y hy
theorem preI_up (hR : RightM next nds) {x y : Int} {nd : Nd} (hx : ndOf nds x = some nd) (hy : y ∈ preI nds x) : depthV nds x ≤ depthV nds y := by
  rw [← pre_below hR hx] at hy
  rcases List.mem_cons.1 hy with rfl | hy
  · exact Nat.le_refl _
  · exact (below_up hR hx hy).2
theorem preI_par (hR : RightM next nds) {x : Int} {nd y : Nd} (hx : ndOf nds x = some nd) (hy : y ∈ nds) (hne : y.id ≠ x) : y.id ∈ preI nds x ↔ y.par ∈ preI nds x := by
  have hyo := (ndOf_mem hR.rise).2 ⟨hy, rfl⟩
  constructor
  · intro h
    have := (hR.depth hx).2
    exact part_par hR (65 - depthV nds x) x nd hx (by omega) _ h hne y hyo
  · intro h
    obtain ⟨p, hp⟩ := preI_mem hR hx h
    have h0 : y.par ≠ 0 := by
      intro e
      obtain ⟨hpm, hpi⟩ := (ndOf_mem hR.rise).1 hp
      obtain ⟨i, hi⟩ := List.getElem?_of_mem hpm
      have := hR.rise.pos i p hi
      omega
    obtain ⟨q, hq, hk⟩ := in_kids hR hyo h0
    exact preI_kid hR hx h hq hk
/-- the part of a node is what leads up to it -/
theorem preI_is (hR : RightM next nds) {x : Int} {nd : Nd} (hx : ndOf nds x = some nd) {S : Int → Bool} (s0 : S 0 = false) (s1 : S x = true) (hS : ∀ y ∈ nds, y.id ≠ x → S y.id = S y.par) : ∀ (f : Nat) (y : Nd), y ∈ nds → depthV nds y.id ≤ f → (preI nds x).contains y.id = S y.id
  | 0, y, hy, hf => by have := (hR.step hy).1; omega
  | f + 1, y, hy, hf => by
    by_cases hyx : y.id = x
    · rw [hyx, s1]
      simpa using mem_self x
    · rw [hS y hy hyx]
      have e1 : (preI nds x).contains y.id = (preI nds x).contains y.par := by
        rw [Bool.eq_iff_iff, List.contains_iff_mem, List.contains_iff_mem]
        exact preI_par hR hx hy hyx
      rw [e1]
      by_cases h0 : y.par = 0
      · rw [h0, s0]
        cases hc : (preI nds x).contains 0 with
        | false => rfl
        | true =>
          obtain ⟨p, hp⟩ := preI_mem hR hx (List.contains_iff_mem.1 hc)
          obtain ⟨hpm, hpi⟩ := (ndOf_mem hR.rise).1 hp
          obtain ⟨i, hi⟩ := List.getElem?_of_mem hpm
          have := hR.rise.pos i p hi
          omega
      · obtain ⟨q, hq, hk⟩ := in_kids hR ((ndOf_mem hR.rise).2 ⟨hy, rfl⟩) h0
        obtain ⟨hqm, hqi⟩ := (ndOf_mem hR.rise).1 hq
        have hd := (hR.step hy).1
        rw [← hqi] at hd ⊢
        exact preI_is hR hx s0 s1 hS f q hqm (by omega)
/-- a node is taken away: its part hangs nowhere -/
theorem RightM.takeX (hR : RightM next nds) (hT : TM next nds) {id : Int} {nd : Nd} (hx : ndOf nds id = some nd) :
    TX next (takeL nds id) id (fun x => (preI nds id).contains x) (fun x => if (preI nds id).contains x = true then depthV nds x - depthV nds id + 1 else depthV nds x) (hiV nds id) := by
  obtain ⟨hm, hid⟩ := (ndOf_mem hR.rise).1 hx
  have hpv : parV nds id = nd.par := by unfold parV; rw [hx]
  have e1 : (takeL nds id).map (·.id) = nds.map (·.id) := by
    unfold takeL
    rw [List.map_map]
    exact List.map_congr_left fun y _ => takeF_id _ _ y
  have hs0 : (preI nds id).contains 0 = false := by
    cases hc : (preI nds id).contains 0 with
    | false => rfl
    | true =>
      obtain ⟨p, hp⟩ := preI_mem hR hx (List.contains_iff_mem.1 hc)
      obtain ⟨hpm, hpi⟩ := (ndOf_mem hR.rise).1 hp
      have := (hT.ids p hpm).1
      omega
  have hs1 : (preI nds id).contains id = true := by simpa using mem_self id
  have same : ∀ y : Nd, (takeF nd.par id y).con = y.con ∧ (takeF nd.par id y).role = y.role ∧ (takeF nd.par id y).props = y.props ∧ (takeF nd.par id y).refs = y.refs := by
    intro y
    unfold takeF
    split <;> exact ⟨rfl, rfl, rfl, rfl⟩
  unfold takeL at e1 ⊢
  rw [hpv] at e1 ⊢
  refine ⟨hT.lo, hT.hi, by rw [List.length_map]; exact hT.len, by rw [e1]; exact hT.rise, ?_, ?_, ?_, ?_, ⟨_, List.mem_map_of_mem hm, by rw [takeF_id]; exact hid⟩, ?_, ?_, hs0, ?_, hs1, ?_, ?_, ?_⟩
  · intro z hz
    obtain ⟨y, hy, rfl⟩ := List.mem_map.1 hz
    rw [takeF_id]; exact hT.ids y hy
  · intro z hz
    obtain ⟨y, hy, rfl⟩ := List.mem_map.1 hz
    have h1 := hT.sp y hy
    obtain ⟨s1, _, s2, s3⟩ := same y
    exact ⟨by rw [s1]; exact h1.con, by rw [s2]; exact h1.props, by rw [s3]; exact h1.refs⟩
  · intro z hz
    obtain ⟨y, hy, rfl⟩ := List.mem_map.1 hz
    unfold takeF
    split
    · exact List.Sublist.nodup List.filter_sublist (hT.nod y hy)
    · exact hT.nod y hy
  · intro z hz k hk
    obtain ⟨y, hy, rfl⟩ := List.mem_map.1 hz
    have hk' := takeF_kids _ _ _ k hk
    obtain ⟨x, hxm, e, hxp⟩ := hT.kid y hy k hk'
    refine ⟨?_, _, List.mem_map_of_mem hxm, by rw [takeF_id]; exact e, by rw [takeF_par, takeF_id]; exact hxp⟩
    rintro rfl
    have := nd_uniq hR.rise hxm hm (by rw [e, hid])
    subst this
    unfold takeF at hk
    rw [if_pos hxp.symm] at hk
    have := (List.mem_filter.1 hk).2
    simp at this
  · intro z hz hne
    obtain ⟨y, hy, rfl⟩ := List.mem_map.1 hz
    rw [takeF_id] at hne
    unfold ParN
    rw [takeF_id, takeF_par, (same y).2.1]
    rcases hT.par y hy with h0 | ⟨h0, hw, p, hpm, hpi, hk⟩
    · exact .inl h0
    · refine .inr ⟨h0, hw, _, List.mem_map_of_mem hpm, by rw [takeF_id]; exact hpi, ?_⟩
      unfold takeF
      split
      · exact List.mem_filter.2 ⟨hk, by simpa using hne⟩
      · exact hk
  · show (if (preI nds id).contains 0 = true then _ else _) = 0
    rw [hs0, if_neg (by decide)]
    exact depth_root.2
  · show (if (preI nds id).contains id = true then _ else _) = 1
    rw [hs1, if_pos rfl]
    omega
  · intro z hz hne
    obtain ⟨y, hy, rfl⟩ := List.mem_map.1 hz
    rw [takeF_id] at hne ⊢
    rw [takeF_par]
    have e2 : (preI nds id).contains y.id = (preI nds id).contains y.par := by
      rw [Bool.eq_iff_iff, List.contains_iff_mem, List.contains_iff_mem]
      exact preI_par hR hx hy hne
    refine ⟨?_, e2⟩
    show (if (preI nds id).contains _ = true then _ else _) = (if (preI nds id).contains _ = true then _ else _) + 1
    rw [e2]
    have hd := (hR.step hy).1
    cases hc : (preI nds id).contains y.par with
    | true =>
      have := preI_up hR hx (List.contains_iff_mem.1 hc)
      simp only [if_true]
      omega
    | false =>
      simp only [Bool.false_eq_true, if_false]
      exact hd
  · intro z hz hs
    show (if (preI nds id).contains _ = true then _ else _) ≤ _
    rw [hs, if_pos rfl]
    exact hi_ge (List.contains_iff_mem.1 hs)
  · intro z hz hs
    obtain ⟨y, hy, rfl⟩ := List.mem_map.1 hz
    show (if (preI nds id).contains _ = true then _ else _) ≤ _
    rw [hs, if_neg (by decide), takeF_id]
    exact (hR.step hy).2
end
end Go.Proofs.YtbkmdlfenbfdlaaGreat
namespace Go.Proofs.YtbkmdlfenbfdlaaGreat
open Go Go.RowKit
set_option linter.unusedVariables false
theorem set_map {t : List Nd} (hr : Rise t) {i : Nat} {p : Nd} (hp : t[i]? = some p) (f : Nd → Nd) : t.set i (f p) = t.map (fun u => if u.id = p.id then f u else u) := by
  apply List.ext_getElem?
  intro j
  rw [List.getElem?_map, List.getElem?_set]
  by_cases e : i = j
  · subst e
    rw [if_pos rfl, if_pos (List.getElem?_eq_some_iff.1 hp).1, hp]
    simp
  · rw [if_neg e]
    cases hy : t[j]? with
    | none => rfl
    | some y =>
      have hne : y.id ≠ p.id := fun he => e (hr.inj hp hy he.symm)
      simp [hne]
theorem modify_map {t : List Nd} (hr : Rise t) {i : Nat} {p : Nd} (hp : t[i]? = some p) (f : Nd → Nd) : t.modify i f = t.map (fun u => if u.id = p.id then f u else u) := by
  apply List.ext_getElem?
  intro j
  rw [List.getElem?_map, List.getElem?_modify]
  by_cases e : i = j
  · subst e
    rw [hp]
    simp
  · cases hy : t[j]? with
    | none => rfl
    | some y =>
      have hne : y.id ≠ p.id := fun he => e (hr.inj hp hy he.symm)
      simp [hne, e]
theorem chL_map {nds : List Nd} (hr : Rise nds) (id : Int) (f : Nd → Nd) : chL nds id f = nds.map (fun u => if u.id = id then f u else u) := by
  unfold chL
  cases hi : ixOf nds id with
  | none =>
    have h1 := ixOf_none hi
    conv => lhs; rw [← List.map_id nds]
    refine List.map_congr_left fun u hu => ?_
    obtain ⟨j, hj⟩ := List.getElem?_of_mem hu
    rw [if_neg (h1 j u hj)]; rfl
  | some i =>
    obtain ⟨p, hp, e⟩ := ixOf_some hi
    simp only
    rw [modify_map hr hp, e]
theorem putL_map {t : List Nd} (hr : Rise t) {id parent : Int} {role : ByteArray} {a : Nat} {p : Nd} (hp : ndOf t id = some p) (hne : parent ≠ id) (hx : parent ≠ 0 → ∃ x, ndOf t parent = some x) :
    putL t id parent role a = t.map (putF id parent role a) := by
  obtain ⟨i, hi, hip, hpi⟩ := ndOf_some hp
  by_cases h0 : parent = 0
  · rw [putL_root hp hi h0, set_map hr hip (fun u => { u with par := parent, role := role })]
    refine List.map_congr_left fun u hu => ?_
    unfold putF
    rw [hpi]
    by_cases hu' : u.id = id
    · rw [if_pos hu', if_pos hu']
    · obtain ⟨j, hj⟩ := List.getElem?_of_mem hu
      have := hr.pos j u hj
      rw [if_neg hu', if_neg hu', if_neg (by omega)]
  · obtain ⟨x, hx⟩ := hx h0
    obtain ⟨jj, hj, hjx, hxi⟩ := ndOf_some hx
    rw [putL_below hp hi h0 hx hj, set_map hr hip (fun u => { u with par := parent, role := role })]
    have hij : i ≠ jj := by
      rintro rfl
      rw [hip] at hjx
      injection hjx with e
      rw [e, hxi] at hpi
      exact hne hpi
    have hf : ∀ u : Nd, (if u.id = p.id then { u with par := parent, role := role } else u : Nd).id = u.id := fun u => by split <;> rfl
    have hjx' : (t.map (fun u => if u.id = p.id then { u with par := parent, role := role } else u))[jj]? = some x := by
      rw [List.getElem?_map, hjx]
      have : x.id ≠ p.id := by rw [hxi, hpi]; exact hne
      simp [this]
    rw [set_map (rise_map hf hr) hjx' (fun u => { u with kids := insAt u.kids a id }), List.map_map]
    refine List.map_congr_left fun u hu => ?_
    simp only [Function.comp_apply, hpi, hxi]
    unfold putF
    by_cases hu' : u.id = id
    · simp [hu', Ne.symm hne]
    · simp [hu']
theorem refsB_map {next next' : Int} {f : Int → Int} : ∀ (l : List (ByteArray × Int)) (q : Option ByteArray), refsB next q l = true → (∀ r ∈ l, 1 ≤ f r.2 ∧ f r.2 < next') → refsB next' q (l.map fun r => (r.1, f r.2)) = true
  | [], _, _, _ => rfl
  | p :: r, q, h, hf => by
    simp only [refsB, Bool.and_eq_true, decide_eq_true_eq, List.map_cons] at h ⊢
    have := hf p (List.mem_cons_self ..)
    exact ⟨⟨⟨⟨h.1.1.1.1, this.1⟩, this.2⟩, h.1.2⟩, refsB_map r _ h.2 fun r' hr' => hf r' (List.mem_cons_of_mem _ hr')⟩
theorem refs_bounds {next : Int} : ∀ (l : List (ByteArray × Int)) (q : Option ByteArray), refsB next q l = true → ∀ r ∈ l, 1 ≤ r.2 ∧ r.2 < next
  | [], _, _, _, hr => by cases hr
  | p :: l, q, h, r, hr => by
    simp only [refsB, Bool.and_eq_true, decide_eq_true_eq] at h
    rcases List.mem_cons.1 hr with rfl | hr
    · exact ⟨h.1.1.1.2, h.1.1.2⟩
    · exact refs_bounds l _ h.2 r hr
theorem SpN.mono {next next' : Int} {nd : Nd} (h : SpN next nd) (hn : next ≤ next') : SpN next' nd := by
  refine ⟨h.con, h.props, ?_⟩
  have := refsB_map (f := fun x => x) (next' := next') nd.refs none h.refs (fun r hr => by have := refs_bounds _ _ h.refs r hr; exact ⟨this.1, by omega⟩)
  simpa using this
theorem less_of {a b : ByteArray} (h : ltS a b = false) (hne : (a.toList == b.toList) = false) : ltS b a = true := by
  rcases less_tri a.toList b.toList with h1 | h1 | h1
  · unfold ltS at h; rw [h] at h1; cases h1
  · rw [h1] at hne; simp at hne
  · exact h1
theorem props_lay {name val : ByteArray} (hw : wordB name = true) (hv : val.size ≤ 4096) : ∀ (l : List (ByteArray × ByteArray)) (q : Option ByteArray), propsB q l = true → aboveB q name = true → propsB q (layV name val false l) = true
  | [], q, _, hq => by
    show propsB q [(name, val)] = true
    simp [propsB, hw, hv, hq]
  | p :: r, q, h, hq => by
    simp only [propsB, Bool.and_eq_true, decide_eq_true_eq] at h
    obtain ⟨⟨⟨h1, h2⟩, h3⟩, h4⟩ := h
    cases hlt : ltS p.1 name with
    | true =>
      have hL : layV name val false (p :: r) = p :: layV name val false r := by simp [layV, hlt, lt_ne hlt]
      rw [hL]
      simp only [propsB, Bool.and_eq_true, decide_eq_true_eq]
      exact ⟨⟨⟨h1, h2⟩, h3⟩, props_lay hw hv r (some p.1) h4 hlt⟩
    | false =>
      have hs := (props_sort r (some p.1) h4).2 p.1 rfl
      have hl := layV_laid name val r (fun x hx => (beyond hs hlt).2 x.1 (List.mem_map_of_mem hx))
      cases he : p.1.toList == name.toList with
      | true =>
        have hL : layV name val false (p :: r) = (name, val) :: r := by simp [layV, hlt, he, hl]
        rw [hL]
        simp only [propsB, Bool.and_eq_true, decide_eq_true_eq]
        have e : p.1 = name := str_eq.1 (beq_iff_eq.1 he)
        exact ⟨⟨⟨hw, hv⟩, hq⟩, e ▸ h4⟩
      | false =>
        have hL : layV name val false (p :: r) = (name, val) :: p :: r := by simp [layV, hlt, he, hl]
        rw [hL]
        simp only [propsB, Bool.and_eq_true, decide_eq_true_eq]
        exact ⟨⟨⟨hw, hv⟩, hq⟩, ⟨⟨⟨h1, h2⟩, less_of hlt he⟩, h4⟩⟩
theorem refs_lay {next : Int} {name : ByteArray} {val : Int} (hw : wordB name = true) (hv : 1 ≤ val ∧ val < next) : ∀ (l : List (ByteArray × Int)) (q : Option ByteArray), refsB next q l = true → aboveB q name = true → refsB next q (layV name val false l) = true
  | [], q, _, hq => by
    show refsB next q [(name, val)] = true
    simp [refsB, hw, hv, hq]
  | p :: r, q, h, hq => by
    simp only [refsB, Bool.and_eq_true, decide_eq_true_eq] at h
    obtain ⟨⟨⟨⟨h1, h2⟩, h2'⟩, h3⟩, h4⟩ := h
    cases hlt : ltS p.1 name with
    | true =>
      have hL : layV name val false (p :: r) = p :: layV name val false r := by simp [layV, hlt, lt_ne hlt]
      rw [hL]
      simp only [refsB, Bool.and_eq_true, decide_eq_true_eq]
      exact ⟨⟨⟨⟨h1, h2⟩, h2'⟩, h3⟩, refs_lay hw hv r (some p.1) h4 hlt⟩
    | false =>
      have hs := (refs_sort r (some p.1) h4).2 p.1 rfl
      have hl := layV_laid name val r (fun x hx => (beyond hs hlt).2 x.1 (List.mem_map_of_mem hx))
      cases he : p.1.toList == name.toList with
      | true =>
        have hL : layV name val false (p :: r) = (name, val) :: r := by simp [layV, hlt, he, hl]
        rw [hL]
        simp only [refsB, Bool.and_eq_true, decide_eq_true_eq]
        have e : p.1 = name := str_eq.1 (beq_iff_eq.1 he)
        exact ⟨⟨⟨⟨hw, hv.1⟩, hv.2⟩, hq⟩, e ▸ h4⟩
      | false =>
        have hL : layV name val false (p :: r) = (name, val) :: p :: r := by simp [layV, hlt, he, hl]
        rw [hL]
        simp only [refsB, Bool.and_eq_true, decide_eq_true_eq]
        exact ⟨⟨⟨⟨hw, hv.1⟩, hv.2⟩, hq⟩, ⟨⟨⟨⟨h1, h2⟩, h2'⟩, less_of hlt he⟩, h4⟩⟩
theorem SpN.put {next : Int} {nd : Nd} (h : SpN next nd) {name val : ByteArray} (hw : wordB name = true) (hv : val.size ≤ 4096) : SpN next (putN nd name val) := by
  refine ⟨h.con, ?_, h.refs⟩
  have := props_lay hw hv nd.props none h.props rfl
  rw [layV_eq name val nd.props (props_sort _ _ h.props).1] at this
  exact this
theorem SpN.aim {next : Int} {nd : Nd} (h : SpN next nd) {name : ByteArray} {val : Int} (hw : wordB name = true) (hv : 1 ≤ val ∧ val < next) : SpN next (aimN nd name val) := by
  refine ⟨h.con, h.props, ?_⟩
  have := refs_lay hw hv nd.refs none h.refs rfl
  rw [layV_eq name val nd.refs (refs_sort _ _ h.refs).1] at this
  exact this
section
variable {next : Int} {nds : List Nd}
theorem TM.change (h : TM next nds) (id : Int) {f : Nd → Nd} (f1 : ∀ y, (f y).id = y.id ∧ (f y).par = y.par ∧ (f y).role = y.role ∧ (f y).kids = y.kids) (f2 : ∀ y ∈ nds, SpN next (f y)) : TM next (chL nds id f) := by
  rw [chL_map h.riseR]
  refine h.map_sp (fun y => ?_) (fun y hy => ?_)
  · split
    · exact f1 y
    · exact ⟨rfl, rfl, rfl, rfl⟩
  · split
    · exact f2 y hy
    · exact h.sp y hy
theorem chE_zero {told : Int} {id : Int} (h : chE told nds id = 0) : told = 0 ∧ ∃ i, ixOf nds id = some i := by
  unfold chE at h
  split at h
  · rename_i h0; exact absurd h h0
  · rename_i h0
    split at h
    · rename_i h1
      exact ⟨by omega, Option.isSome_iff_exists.1 h1⟩
    · omega
theorem nameE_ok {name : ByteArray} (h : nameE next nds name = 0) : rightB next nds = true ∧ wordB name = true := by
  unfold nameE at h
  split at h
  · split at h
    · exact ⟨by assumption, by assumption⟩
    · omega
  · omega
theorem TM.put_ (h : TM next nds) {id : Int} {name val : ByteArray} (he : chE (putE next nds name val) nds id = 0) : TM next (chL nds id fun nd => putN nd name val) := by
  obtain ⟨h1, _⟩ := chE_zero he
  unfold putE at h1
  split at h1
  · rename_i h2
    split at h1
    · omega
    · exact h.change id (fun y => ⟨rfl, rfl, rfl, rfl⟩) fun y hy => (h.sp y hy).put (nameE_ok h2).2 (by omega)
  · rename_i h2; exact absurd h1 h2
theorem TM.aim_ (h : TM next nds) {id : Int} {name : ByteArray} {val : Int} (he : chE (aimE next nds name val) nds id = 0) : TM next (chL nds id fun nd => aimN nd name val) := by
  obtain ⟨h1, _⟩ := chE_zero he
  unfold aimE at h1
  split at h1
  · rename_i h2
    split at h1
    · rename_i h3
      obtain ⟨i, hi⟩ := Option.isSome_iff_exists.1 h3
      obtain ⟨x, hx, hxi⟩ := ixOf_some hi
      have := h.ids x (List.mem_of_getElem? hx)
      exact h.change id (fun y => ⟨rfl, rfl, rfl, rfl⟩) fun y hy => (h.sp y hy).aim (nameE_ok h2).2 (by omega)
    · omega
  · rename_i h2; exact absurd h1 h2
theorem removeE_ok {id : Int} (h : removeE next nds id = 0) : rightB next nds = true ∧ ∃ nd, ndOf nds id = some nd := by
  unfold removeE at h
  split at h
  · omega
  · rename_i h1
    split at h
    · omega
    · rename_i h2
      refine ⟨by simpa using h1, ?_⟩
      cases hx : ndOf nds id with
      | none => rw [hx] at h2; exact absurd rfl h2
      | some nd => exact ⟨nd, rfl⟩
theorem TM.remove (h : TM next nds) {id : Int} (he : removeE next nds id = 0) : TM next (removeL nds id) := by
  obtain ⟨hr, nd, hx⟩ := removeE_ok he
  exact ((rightM hr).takeX h hx).drop
/-- what admits a place -/
theorem admV_ok {t : List Nd} {parent : Int} {role : ByteArray} {at_ ri : Int} {L M : Nat} (h : admV next t parent role at_ L M = (ri, 0)) :
    (parent ≠ 0 → ∃ x, ndOf t parent = some x) ∧ (amV t parent role at_).2 = true ∧ depthV t parent + L ≤ 64 ∧ t.length + M ≤ 4096 ∧ next - 1 + M ≤ 1048576 ∧ (amV t parent role at_).1 = ri := by
  unfold admV at h
  split at h
  · cases h
  · rename_i h1
    split at h
    · cases h
    · rename_i h2
      split at h
      · cases h
      · split at h
        · cases h
        · split at h
          · cases h
          · injection h with h3 _
            refine ⟨fun h0 => ?_, by simpa using h2, by omega, by omega, by omega, h3⟩
            cases hx : ndOf t parent with
            | none => exact absurd ⟨h0, by rw [hx]; rfl⟩ h1
            | some x => exact ⟨x, rfl⟩
theorem admV_pair {t : List Nd} {parent : Int} {role : ByteArray} {at_ : Int} {L M : Nat} (h : (admV next t parent role at_ L M).2 = 0) : admV next t parent role at_ L M = ((admV next t parent role at_ L M).1, 0) := by
  rw [← h]
theorem am_root {t : List Nd} {role : ByteArray} {at_ : Int} (h : (amV t 0 role at_).2 = true) : role.toList = [] := by
  unfold amV at h
  rw [if_pos rfl] at h
  simp only [Bool.and_eq_true] at h
  simpa using h.1
theorem moveE_ok {id parent : Int} {role : ByteArray} {at_ : Int} (h : moveE next nds id parent role at_ = 0) :
    rightB next nds = true ∧ (parent = 0 ∨ wordB role = true) ∧ (∃ nd, ndOf nds id = some nd) ∧ (preI nds id).contains parent = false ∧ (admV next (takeL nds id) parent role at_ (hiV nds id) 0).2 = 0 := by
  unfold moveE at h
  split at h
  · omega
  · rename_i h1
    split at h
    · omega
    · rename_i h2
      split at h
      · omega
      · rename_i h3
        split at h
        · omega
        · rename_i h4
          refine ⟨by simpa using h1, ?_, ?_, by simpa using h4, h⟩
          · simp only [Bool.not_eq_false, Bool.or_eq_true, beq_iff_eq] at h2
            exact h2
          · cases hx : ndOf nds id with
            | none => rw [hx] at h3; exact absurd rfl h3
            | some nd => exact ⟨nd, rfl⟩
theorem takeL_depth (nds : List Nd) (id x : Int) : depthV (takeL nds id) x = depthV nds x := depthV_map (takeF_id _ _) (takeF_par _ _) x
theorem moveL_put (hT : TM next nds) {id parent : Int} {role : ByteArray} {at_ : Int} (he : moveE next nds id parent role at_ = 0) :
    moveL next nds id parent role at_ = (takeL nds id).map (putF id parent role (admV next (takeL nds id) parent role at_ (hiV nds id) 0).1.toNat) := by
  obtain ⟨hr, hw, ⟨nd, hx⟩, hl, ha⟩ := moveE_ok he
  obtain ⟨a1, a2, a3, a4, a5, a6⟩ := admV_ok (admV_pair ha)
  unfold moveL
  exact putL_map ((rightM hr).takeX hT hx).riseR (p := takeF (parV nds id) id nd) (by unfold takeL; rw [ndOf_map (takeF_id _ _), hx]; rfl) (not_self hl) a1
theorem TM.move (hT : TM next nds) {id parent : Int} {role : ByteArray} {at_ : Int} (he : moveE next nds id parent role at_ = 0) : TM next (moveL next nds id parent role at_) := by
  rw [moveL_put hT he]
  obtain ⟨hr, hw, ⟨nd, hx⟩, hl, ha⟩ := moveE_ok he
  obtain ⟨a1, a2, a3, a4, a5, a6⟩ := admV_ok (admV_pair ha)
  rw [takeL_depth] at a3
  refine ((rightM hr).takeX hT hx).put _ hl ?_ ?_
  · show (if (preI nds id).contains parent = true then _ else _) + _ ≤ 64
    rw [hl, if_neg (by decide)]
    exact a3
  · by_cases h0 : parent = 0
    · subst h0
      exact .inl ⟨rfl, am_root a2⟩
    · obtain ⟨x, hxp⟩ := a1 h0
      exact .inr ⟨h0, hw.resolve_left h0, x, (ndOf_mem ((rightM hr).takeX hT hx).riseR).1 hxp⟩
/-- a new node hangs nowhere -/
theorem TM.addX (h : TM next nds) {con : ByteArray} (hw : wordB con = true) (hl : nds.length + 1 ≤ 4096) (hn : next ≤ 1048576) :
    TX (next + 1) (nds ++ [newNd next con]) next (fun x => x == next) (fun x => if x = next then 1 else depthV nds x) 1 := by
  have hR := rightM h.right
  have hlo := h.lo
  have hmem : ∀ nd, nd ∈ nds ++ [newNd next con] → nd ∈ nds ∨ nd = newNd next con := fun nd hnd => by simpa using hnd
  have hnn : newNd next con ∈ nds ++ [newNd next con] := by simp
  refine ⟨by omega, by omega, by simpa using hl, ?_, ?_, ?_, ?_, ?_, ⟨_, hnn, rfl⟩, ?_, ?_, ?_, ?_, ?_, ?_, ?_, ?_⟩
  · rw [List.map_append, List.pairwise_append]
    refine ⟨h.rise, by simp, fun a ha b hb => ?_⟩
    obtain ⟨y, hy, rfl⟩ := List.mem_map.1 ha
    obtain rfl : b = next := by simpa [newNd] using hb
    exact (h.ids y hy).2
  · intro nd hnd
    rcases hmem nd hnd with hnd | rfl
    · have := h.ids nd hnd; omega
    · exact ⟨by show 1 ≤ next; omega, by show next < next + 1; omega⟩
  · intro nd hnd
    rcases hmem nd hnd with hnd | rfl
    · exact (h.sp nd hnd).mono (by omega)
    · exact ⟨hw, rfl, rfl⟩
  · intro nd hnd
    rcases hmem nd hnd with hnd | rfl
    · exact h.nod nd hnd
    · exact List.nodup_nil
  · intro nd hnd k hk
    rcases hmem nd hnd with hnd | rfl
    · obtain ⟨x, hx, e, hp⟩ := h.kid nd hnd k hk
      have := (h.ids x hx).2
      exact ⟨by omega, x, List.mem_append_left _ hx, e, hp⟩
    · cases hk
  · intro nd hnd hne
    rcases hmem nd hnd with hnd | rfl
    · rcases h.par nd hnd with h0 | ⟨h0, hw, p, hpm, hpi, hk⟩
      · exact .inl h0
      · exact .inr ⟨h0, hw, p, List.mem_append_left _ hpm, hpi, hk⟩
    · exact absurd rfl hne
  · show (if (0 : Int) = next then _ else _) = 0
    rw [if_neg (by omega)]
    exact depth_root.2
  · show ((0 : Int) == next) = false
    rw [beq_eq_false_iff_ne]; omega
  · show (if next = next then _ else _) = 1
    rw [if_pos rfl]
  · show (next == next) = true
    simp
  · intro nd hnd hne
    rcases hmem nd hnd with hnd | rfl
    · have hi := (h.ids nd hnd).2
      have hp : nd.par < next := by
        rcases h.par nd hnd with ⟨h0, _⟩ | ⟨h0, hw, p, hpm, hpi, hk⟩
        · omega
        · have := (h.ids p hpm).2; omega
      show (if nd.id = next then _ else _) = (if nd.par = next then _ else _) + 1 ∧ (nd.id == next) = (nd.par == next)
      rw [if_neg (by omega), if_neg (by omega), beq_eq_false_iff_ne.2 (by omega), beq_eq_false_iff_ne.2 (by omega)]
      exact ⟨(hR.step hnd).1, rfl⟩
    · exact absurd rfl hne
  · intro nd hnd hs
    have e : nd.id = next := by simpa using hs
    show (if nd.id = next then _ else _) ≤ 1
    rw [if_pos e]; exact Nat.le_refl _
  · intro nd hnd hs
    have e : nd.id ≠ next := by simpa using hs
    show (if nd.id = next then _ else _) ≤ 64
    rw [if_neg e]
    rcases hmem nd hnd with hnd | rfl
    · exact (hR.step hnd).2
    · exact absurd rfl e
theorem addE_ok {parent : Int} {role con : ByteArray} {at_ : Int} (h : addE next nds parent role at_ con = 0) :
    rightB next nds = true ∧ wordB con = true ∧ (parent = 0 ∨ wordB role = true) ∧ (admV next nds parent role at_ 1 1).2 = 0 := by
  unfold addE at h
  split at h
  · omega
  · rename_i h1
    split at h
    · omega
    · rename_i h2
      simp only [Bool.not_eq_false, Bool.and_eq_true, Bool.or_eq_true, beq_iff_eq] at h2
      exact ⟨by simpa using h1, h2.1, h2.2, h⟩
theorem ndOf_new (h : TM next nds) {con : ByteArray} : ndOf (nds ++ [newNd next con]) next = some (newNd next con) ∧ ixOf (nds ++ [newNd next con]) next = some nds.length := by
  have hr : Rise (nds ++ [newNd next con]) := rise_more h.riseR h.lo fun i x hx => (h.ids x (List.mem_of_getElem? hx)).2
  have hg : (nds ++ [newNd next con])[nds.length]? = some (newNd next con) := by simp
  exact ⟨ndOf_is hr hg, ixOf_is hr hg rfl⟩
theorem addL_put (h : TM next nds) {parent : Int} {role con : ByteArray} {a : Nat} (hx : parent ≠ 0 → ∃ x, ndOf nds parent = some x) :
    addL next nds parent role con a = (nds ++ [newNd next con]).map (putF next parent role a) := by
  have hr : Rise (nds ++ [newNd next con]) := rise_more h.riseR h.lo fun i x hx => (h.ids x (List.mem_of_getElem? hx)).2
  obtain ⟨n1, n2⟩ := ndOf_new h (con := con)
  have hlo := h.lo
  have hne : parent ≠ next := by
    intro e
    obtain ⟨x, hx⟩ := hx (by omega)
    obtain ⟨hm, hi⟩ := (ndOf_mem h.riseR).1 hx
    have := (h.ids x hm).2
    omega
  rw [← putL_map hr n1 hne (fun h0 => by obtain ⟨x, hx⟩ := hx h0; exact ⟨x, ndOf_more hx⟩)]
  unfold addL
  by_cases h0 : parent = 0
  · rw [if_pos h0, putL_root n1 n2 h0]
  · obtain ⟨x, hx⟩ := hx h0
    obtain ⟨jj, hj, _, _⟩ := ndOf_some hx
    rw [if_neg h0, putL_below n1 n2 h0 (ndOf_more hx) (ixOf_more hj), hx, hj]
    rfl
theorem TM.add (h : TM next nds) {parent : Int} {role con : ByteArray} {at_ : Int} (he : addE next nds parent role at_ con = 0) :
    TM (next + 1) (addL next nds parent role con (admV next nds parent role at_ 1 1).1.toNat) := by
  obtain ⟨hr, hc, hw, ha⟩ := addE_ok he
  obtain ⟨a1, a2, a3, a4, a5, a6⟩ := admV_ok (admV_pair ha)
  have hlo := h.lo
  have hpn : parent ≠ next := by
    intro e
    obtain ⟨x, hx⟩ := a1 (by omega)
    obtain ⟨hm, hi⟩ := (ndOf_mem h.riseR).1 hx
    have := (h.ids x hm).2
    omega
  rw [addL_put h a1]
  refine (h.addX hc a4 (by omega)).put _ (by rw [beq_eq_false_iff_ne]; exact hpn) ?_ ?_
  · show (if parent = next then _ else _) + 1 ≤ 64
    rw [if_neg hpn]; exact a3
  · by_cases h0 : parent = 0
    · subst h0
      exact .inl ⟨rfl, am_root a2⟩
    · obtain ⟨x, hx⟩ := a1 h0
      obtain ⟨hm, hi⟩ := (ndOf_mem h.riseR).1 hx
      exact .inr ⟨h0, hw.resolve_left h0, x, List.mem_append_left _ hm, hi⟩
end
end Go.Proofs.YtbkmdlfenbfdlaaGreat
namespace Go.Proofs.YtbkmdlfenbfdlaaGreat
open Go Go.RowKit
set_option linter.unusedVariables false
section
variable {next : Int} {nds : List Nd}
theorem idxV_of {S : List Int} (hn : S.Nodup) {y : Int} (hy : y ∈ S) : ∃ i : Nat, S[i]? = some y ∧ idxV S y = i := by
  obtain ⟨i, hi⟩ := List.getElem?_of_mem hy
  exact ⟨i, hi, idxV_nd hn hi⟩
theorem cps_mem {S : List Int} {p0 : Int} (hall : ∀ y ∈ S, ∃ nd, ndOf nds y = some nd) {x : Nd} : x ∈ cpsV next nds S p0 S.length ↔ ∃ (i : Nat) (y : Int) (nd : Nd), S[i]? = some y ∧ ndOf nds y = some nd ∧ x = cpNd next S p0 i nd := by
  unfold cpsV
  rw [List.mem_map]
  constructor
  · rintro ⟨i, hi, rfl⟩
    have hi := List.mem_range.1 hi
    have hg := List.getElem?_eq_getElem hi
    obtain ⟨nd, hnd⟩ := hall S[i] (List.getElem_mem hi)
    refine ⟨i, S[i], nd, hg, hnd, ?_⟩
    rw [List.getD_eq_getElem?_getD, hg, Option.getD_some, ndD_of hnd]
  · rintro ⟨i, y, nd, hy, hnd, rfl⟩
    refine ⟨i, List.mem_range.2 (List.getElem?_eq_some_iff.1 hy).1, ?_⟩
    rw [List.getD_eq_getElem?_getD, hy, Option.getD_some, ndD_of hnd]
/-- what a part is -/
structure PartS (nds : List Nd) (id : Int) (S : List Int) : Prop where
  nod : S.Nodup
  all : ∀ y ∈ S, ∃ nd, ndOf nds y = some nd
  hd : S[0]? = some id
  kid : ∀ y ∈ S, ∀ nd, ndOf nds y = some nd → ∀ k ∈ nd.kids, k ∈ S ∧ k ≠ id
  par : ∀ y ∈ S, y ≠ id → ∀ nd, ndOf nds y = some nd → nd.par ∈ S
  up : ∀ y ∈ S, depthV nds id ≤ depthV nds y
  hi : ∀ y ∈ S, depthV nds y - depthV nds id + 1 ≤ hiV nds id
theorem RightM.part (hR : RightM next nds) {id : Int} {nd0 : Nd} (hx : ndOf nds id = some nd0) : PartS nds id (preI nds id) := by
  refine ⟨preI_nodup hR hx, fun y hy => preI_mem hR hx hy, ?_, fun y hy nd hnd k hk => ⟨preI_kid hR hx hy hnd hk, ?_⟩, fun y hy hne nd hnd => ?_, fun y hy => preI_up hR hx hy, fun y hy => hi_ge hy⟩
  · obtain ⟨r, hr⟩ := preI_cons nds id
    rw [hr]; rfl
  · rintro rfl
    obtain ⟨z, _, _, hd⟩ := kid_depth hR hnd hk
    have := preI_up hR hx hy
    omega
  · obtain ⟨hm, hi⟩ := (ndOf_mem hR.rise).1 hnd
    subst hi
    exact (preI_par hR hx hm hne).1 hy
theorem TM.copyX (h : TM next nds) {id : Int} {S : List Int} (P : PartS nds id S) (hl : nds.length + S.length ≤ 4096) (hn : next - 1 + S.length ≤ 1048576) :
    TX (next + S.length) (nds ++ cpsV next nds S 0 S.length) next (fun x => decide (next ≤ x)) (fun x => if next ≤ x then depthV nds (S.getD (x - next).toNat 0) - depthV nds id + 1 else depthV nds x) (hiV nds id) := by
  have hR := rightM h.right
  have hlo := h.lo
  have hi0 := h.hi
  have hS0 : 0 < S.length := (List.getElem?_eq_some_iff.1 P.hd).1
  have hmem : ∀ x, x ∈ nds ++ cpsV next nds S 0 S.length → x ∈ nds ∨ ∃ (i : Nat) (y : Int) (nd : Nd), S[i]? = some y ∧ ndOf nds y = some nd ∧ x = cpNd next S 0 i nd := fun x hx => by
    rcases List.mem_append.1 hx with hx | hx
    · exact .inl hx
    · exact .inr ((cps_mem P.all).1 hx)
  have hin : ∀ {i : Nat} {y : Int} {nd : Nd}, S[i]? = some y → ndOf nds y = some nd → cpNd next S 0 i nd ∈ nds ++ cpsV next nds S 0 S.length := fun hy hnd => List.mem_append_right _ ((cps_mem P.all).2 ⟨_, _, _, hy, hnd, rfl⟩)
  have hgd : ∀ {i : Nat} {y : Int}, S[i]? = some y → S.getD (next + (i : Int) - next).toNat 0 = y := fun {i y} hy => by
    rw [show (next + (i : Int) - next).toNat = i from by omega, List.getD_eq_getElem?_getD, hy]; rfl
  have hplt : ∀ nd ∈ nds, nd.par < next := fun nd hnd => by
    rcases h.par nd hnd with ⟨h0, _⟩ | ⟨h0, hw, p, hpm, hpi, hk⟩
    · omega
    · have := (h.ids p hpm).2; omega
  have hof : ∀ {y : Int} {nd : Nd}, ndOf nds y = some nd → nd ∈ nds ∧ nd.id = y := fun hy => (ndOf_mem hR.rise).1 hy
  have hi1 : ∀ {i : Nat} {y : Int}, S[i]? = some y → i ≠ 0 → y ≠ id := fun {i y} hy hne e => by
    subst e
    have h1 := idxV_nd P.nod hy
    have h2 := idxV_nd P.nod P.hd
    omega
  obtain ⟨nd0, hx0⟩ := P.all id (List.mem_of_getElem? P.hd)
  have hB : Behind next nds (cpsV next nds S 0 S.length) := ⟨hR.rise, hlo, hR.lt, fun i x hx => cpsV_id hx, by rw [cpsV_len]; exact hl⟩
  refine ⟨by omega, by omega, by rw [List.length_append, cpsV_len]; exact hl, rise_pw hB.riseA, ?_, ?_, ?_, ?_, ⟨_, hin P.hd hx0, by show next + ((0 : Nat) : Int) = next; omega⟩, ?_, ?_, ?_, ?_, ?_, ?_, ?_, ?_⟩
  · intro x hx
    rcases hmem x hx with hx | ⟨i, y, nd, hy, hnd, rfl⟩
    · have := h.ids x hx; omega
    · have := (List.getElem?_eq_some_iff.1 hy).1
      show 1 ≤ next + (i : Int) ∧ next + (i : Int) < next + (S.length : Int)
      omega
  · intro x hx
    rcases hmem x hx with hx | ⟨i, y, nd, hy, hnd, rfl⟩
    · exact (h.sp x hx).mono (by omega)
    · have hs := h.sp nd (hof hnd).1
      refine ⟨hs.con, hs.props, refsB_map nd.refs none hs.refs fun r hr => ?_⟩
      have hb := refs_bounds _ _ hs.refs r hr
      unfold freT
      split
      · rename_i hc
        obtain ⟨j, hj, e⟩ := idxV_of P.nod (List.contains_iff_mem.1 hc)
        have := (List.getElem?_eq_some_iff.1 hj).1
        unfold freV
        rw [e]
        omega
      · omega
  · intro x hx
    rcases hmem x hx with hx | ⟨i, y, nd, hy, hnd, rfl⟩
    · exact h.nod x hx
    · show (nd.kids.map (freV next S)).Nodup
      have hk := P.kid y (List.mem_of_getElem? hy) nd hnd
      unfold List.Nodup
      rw [List.pairwise_map]
      refine List.Pairwise.imp_of_mem (fun {a b} ha hb hab => ?_) (h.nod nd (hof hnd).1)
      obtain ⟨j, hj, e1⟩ := idxV_of P.nod (hk a ha).1
      obtain ⟨j', hj', e2⟩ := idxV_of P.nod (hk b hb).1
      unfold freV
      rw [e1, e2]
      intro e
      have : j = j' := by omega
      subst this
      rw [hj] at hj'
      injection hj' with e
      exact hab e
  · intro x hx k hk
    rcases hmem x hx with hx | ⟨i, y, nd, hy, hnd, rfl⟩
    · obtain ⟨z, hz, e, hp⟩ := h.kid x hx k hk
      have := (h.ids z hz).2
      exact ⟨by omega, z, List.mem_append_left _ hz, e, hp⟩
    · obtain ⟨k0, hk0, rfl⟩ := List.mem_map.1 hk
      obtain ⟨h1, h2⟩ := P.kid y (List.mem_of_getElem? hy) nd hnd k0 hk0
      obtain ⟨j, hj, e⟩ := idxV_of P.nod h1
      have hj0 : j ≠ 0 := by
        rintro rfl
        rw [P.hd] at hj
        injection hj with e'
        exact h2 e'.symm
      obtain ⟨z, hz, hzi, hzp⟩ := h.kid nd (hof hnd).1 k0 hk0
      have hzo : ndOf nds k0 = some z := (ndOf_mem hR.rise).2 ⟨hz, hzi⟩
      unfold freV
      rw [e]
      refine ⟨by omega, _, hin hj hzo, rfl, ?_⟩
      show (if j = 0 then (0 : Int) else freV next S z.par) = next + (i : Int)
      rw [if_neg hj0, hzp, (hof hnd).2]
      unfold freV
      rw [idxV_nd P.nod hy]
  · intro x hx hne
    rcases hmem x hx with hx | ⟨i, y, nd, hy, hnd, rfl⟩
    · rcases h.par x hx with h0 | ⟨h0, hw, p, hpm, hpi, hk⟩
      · exact .inl h0
      · exact .inr ⟨h0, hw, p, List.mem_append_left _ hpm, hpi, hk⟩
    · have hi0 : i ≠ 0 := by
        rintro rfl
        exact hne (by show next + ((0 : Nat) : Int) = next; omega)
      have hpS := P.par y (List.mem_of_getElem? hy) (hi1 hy hi0) nd hnd
      obtain ⟨j, hj, e⟩ := idxV_of P.nod hpS
      rcases h.par nd (hof hnd).1 with ⟨h0, _⟩ | ⟨h0, hw, p, hpm, hpi, hk⟩
      · obtain ⟨q, hq⟩ := P.all _ hpS
        have := (h.ids q (hof hq).1).1
        have := (hof hq).2
        omega
      · have hpo : ndOf nds nd.par = some p := (ndOf_mem hR.rise).2 ⟨hpm, hpi⟩
        have e1 : (cpNd next S 0 i nd).par = next + (j : Int) := by
          show (if i = 0 then (0 : Int) else freV next S nd.par) = _
          rw [if_neg hi0]
          unfold freV
          rw [e]
        refine .inr ⟨by rw [e1]; omega, hw, _, hin hj hpo, by rw [e1]; rfl, ?_⟩
        show next + (i : Int) ∈ p.kids.map (freV next S)
        refine List.mem_map.2 ⟨nd.id, hk, ?_⟩
        unfold freV
        rw [(hof hnd).2, idxV_nd P.nod hy]
  · show (if next ≤ 0 then _ else _) = 0
    rw [if_neg (by omega)]
    exact depth_root.2
  · show decide (next ≤ 0) = false
    exact decide_eq_false (by omega)
  · show (if next ≤ next then _ else _) = 1
    have := hgd P.hd
    rw [if_pos (Int.le_refl _), show (next - next).toNat = 0 from by omega, List.getD_eq_getElem?_getD, P.hd, Option.getD_some]
    omega
  · show decide (next ≤ next) = true
    exact decide_eq_true (Int.le_refl _)
  · intro x hx hne
    rcases hmem x hx with hx | ⟨i, y, nd, hy, hnd, rfl⟩
    · have h1 := (h.ids x hx).2
      have h2 := hplt x hx
      show (if next ≤ x.id then _ else _) = (if next ≤ x.par then _ else _) + 1 ∧ decide (next ≤ x.id) = decide (next ≤ x.par)
      rw [if_neg (by omega), if_neg (by omega), decide_eq_false (by omega), decide_eq_false (by omega)]
      exact ⟨(hR.step hx).1, rfl⟩
    · have hi0 : i ≠ 0 := by
        rintro rfl
        exact hne (by show next + ((0 : Nat) : Int) = next; omega)
      have hpS := P.par y (List.mem_of_getElem? hy) (hi1 hy hi0) nd hnd
      obtain ⟨j, hj, e⟩ := idxV_of P.nod hpS
      have e1 : (cpNd next S 0 i nd).par = next + (j : Int) := by
        show (if i = 0 then (0 : Int) else freV next S nd.par) = _
        rw [if_neg hi0]
        unfold freV
        rw [e]
      have e2 : (cpNd next S 0 i nd).id = next + (i : Int) := rfl
      rw [e1, e2]
      show (if next ≤ next + (i : Int) then _ else _) = (if next ≤ next + (j : Int) then _ else _) + 1 ∧ decide (next ≤ next + (i : Int)) = decide (next ≤ next + (j : Int))
      rw [if_pos (by omega), if_pos (by omega), decide_eq_true (by omega), decide_eq_true (by omega), hgd hy, hgd hj]
      have hs := (hR.step (hof hnd).1).1
      rw [(hof hnd).2] at hs
      have := P.up _ hpS
      exact ⟨by omega, rfl⟩
  · intro x hx hs
    have hge : next ≤ x.id := of_decide_eq_true hs
    rcases hmem x hx with hx | ⟨i, y, nd, hy, hnd, rfl⟩
    · have := (h.ids x hx).2; omega
    · have e2 : (cpNd next S 0 i nd).id = next + (i : Int) := rfl
      show (if next ≤ (cpNd next S 0 i nd).id then _ else _) ≤ _
      rw [e2, if_pos (by omega), hgd hy]
      exact P.hi y (List.mem_of_getElem? hy)
  · intro x hx hs
    have hge : ¬ next ≤ x.id := of_decide_eq_false hs
    show (if next ≤ x.id then _ else _) ≤ 64
    rw [if_neg hge]
    rcases hmem x hx with hx | ⟨i, y, nd, hy, hnd, rfl⟩
    · exact (hR.step hx).2
    · exact absurd (by show next ≤ next + (i : Int); omega) hge
theorem copyE_ok {id parent : Int} {role : ByteArray} {at_ : Int} (h : copyE next nds id parent role at_ = 0) :
    rightB next nds = true ∧ (parent = 0 ∨ wordB role = true) ∧ (∃ nd, ndOf nds id = some nd) ∧ (admV next nds parent role at_ (hiV nds id) (preI nds id).length).2 = 0 := by
  unfold copyE at h
  split at h
  · omega
  · rename_i h1
    split at h
    · omega
    · rename_i h2
      split at h
      · omega
      · rename_i h3
        refine ⟨by simpa using h1, ?_, ?_, h⟩
        · simp only [Bool.not_eq_false, Bool.or_eq_true, beq_iff_eq] at h2
          exact h2
        · cases hx : ndOf nds id with
          | none => rw [hx] at h3; exact absurd rfl h3
          | some nd => exact ⟨nd, rfl⟩
theorem copyL_put (h : TM next nds) {id parent : Int} {role : ByteArray} {at_ : Int} (he : copyE next nds id parent role at_ = 0) :
    copyL next nds id parent role at_ = (nds ++ cpsV next nds (preI nds id) 0 (preI nds id).length).map (putF next parent role (admV next nds parent role at_ (hiV nds id) (preI nds id).length).1.toNat) := by
  obtain ⟨hr, hw, ⟨nd, hx⟩, ha⟩ := copyE_ok he
  obtain ⟨a1, a2, a3, a4, a5, a6⟩ := admV_ok (admV_pair ha)
  have hR := rightM hr
  have hlo := h.lo
  have P := hR.part hx
  have hS0 : 0 < (preI nds id).length := (List.getElem?_eq_some_iff.1 P.hd).1
  have hX := h.copyX P a4 a5
  obtain ⟨cs, hcs, _⟩ := cpsV_head (next := next) (p0 := 0) (nds := nds) (S := preI nds id) hS0
  rw [copyL_of hcs rfl]
  rw [hcs] at hX ⊢
  obtain ⟨c0, hc0⟩ : ∃ c0, cpNd next (preI nds id) 0 0 (ndD nds ((preI nds id).getD 0 0)) = c0 := ⟨_, rfl⟩
  have hci : c0.id = next := by rw [← hc0]; show next + ((0 : Nat) : Int) = next; omega
  rw [hc0] at hX ⊢
  have hr' := hX.riseR
  have hg : (nds ++ c0 :: cs)[nds.length]? = some c0 := by rw [List.getElem?_append_right (Nat.le_refl _), Nat.sub_self]; rfl
  have n1 : ndOf (nds ++ c0 :: cs) next = some c0 := by rw [← hci]; exact ndOf_is hr' hg
  have n2 : ixOf (nds ++ c0 :: cs) next = some nds.length := ixOf_is hr' hg hci
  have hne : parent ≠ next := by
    intro e
    obtain ⟨x, hx⟩ := a1 (by omega)
    obtain ⟨hm, hi⟩ := (ndOf_mem hR.rise).1 hx
    have := (h.ids x hm).2
    omega
  rw [← putL_map hr' n1 hne (fun h0 => by obtain ⟨x, hx⟩ := a1 h0; exact ⟨x, ndOf_app hx⟩)]
  by_cases h0 : parent = 0
  · rw [putL_root n1 n2 h0, set_mid]
    unfold inKid
    rw [if_pos h0]
  · obtain ⟨x, hxp⟩ := a1 h0
    obtain ⟨jj, hj, hjx, _⟩ := ndOf_some hxp
    rw [putL_below n1 n2 h0 (ndOf_app hxp) (ixOf_app hj), set_mid, set_ahead _ _ (List.getElem?_eq_some_iff.1 hjx).1]
    unfold inKid
    rw [if_neg h0, hxp, hj]
    rfl
theorem TM.copy (h : TM next nds) {id parent : Int} {role : ByteArray} {at_ : Int} (he : copyE next nds id parent role at_ = 0) : TM (next + (preI nds id).length) (copyL next nds id parent role at_) := by
  rw [copyL_put h he]
  obtain ⟨hr, hw, ⟨nd, hx⟩, ha⟩ := copyE_ok he
  obtain ⟨a1, a2, a3, a4, a5, a6⟩ := admV_ok (admV_pair ha)
  have hR := rightM hr
  have hlo := h.lo
  have hlt : parent < next := by
    by_cases h0 : parent = 0
    · omega
    · obtain ⟨x, hx⟩ := a1 h0
      obtain ⟨hm, hi⟩ := (ndOf_mem hR.rise).1 hx
      have := (h.ids x hm).2
      omega
  refine (h.copyX (hR.part hx) a4 a5).put _ (decide_eq_false (by omega)) ?_ ?_
  · show (if next ≤ parent then _ else _) + _ ≤ 64
    rw [if_neg (by omega)]
    exact a3
  · by_cases h0 : parent = 0
    · subst h0
      exact .inl ⟨rfl, am_root a2⟩
    · obtain ⟨x, hxp⟩ := a1 h0
      obtain ⟨hm, hi⟩ := (ndOf_mem hR.rise).1 hxp
      exact .inr ⟨h0, hw.resolve_left h0, x, List.mem_append_left _ hm, hi⟩
end
end Go.Proofs.YtbkmdlfenbfdlaaGreat
