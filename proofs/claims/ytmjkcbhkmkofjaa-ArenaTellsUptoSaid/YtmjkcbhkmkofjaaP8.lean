/-
  PLAIN MATHEMATICS: document order.
-/
import Derived.Test.YtmjkcbhkmkofjaaP6
namespace Go.Proofs.Ytmjkcbhkmkofjaa
open Go Go.RowKit
set_option linter.unusedVariables false

def kidsV (nds : List Nd) (x : Int) : List Int := match ndOf nds x with
  | some nd => nd.kids
  | none => []
theorem kidsV_of {nds : List Nd} {x : Int} {nd : Nd} (h : ndOf nds x = some nd) : kidsV nds x = nd.kids := by unfold kidsV; rw [h]
/-- nodes with all that is below them, in document order, each with how deep it stands -/
def pre (nds : List Nd) : Nat → Nat → List Int → List (Int × Nat)
  | 0, _, _ => []
  | f + 1, d, ids => ids.flatMap fun x => (x, d) :: pre nds f (d + 1) (kidsV nds x)
theorem pre_nil (nds : List Nd) (f d : Nat) : pre nds f d [] = [] := by cases f <;> simp [pre]
theorem pre_cons (nds : List Nd) (f d : Nat) (x : Int) (r : List Int) : pre nds (f + 1) d (x :: r) = ((x, d) :: pre nds f (d + 1) (kidsV nds x)) ++ pre nds (f + 1) d r := by
  simp only [pre, List.flatMap_cons]
theorem pre_append (nds : List Nd) (f d : Nat) (a b : List Int) : pre nds f d (a ++ b) = pre nds f d a ++ pre nds f d b := by
  cases f <;> simp [pre]
/-- so many levels are enough -/
def OkF (nds : List Nd) : Nat → List Int → Prop
  | 0, ids => ids = []
  | f + 1, ids => ∀ x ∈ ids, (∃ nd, ndOf nds x = some nd) ∧ OkF nds f (kidsV nds x)
/-- all of them are nodes that stand so deep -/
def AtD (nds : List Nd) (D : Nat) (ids : List Int) : Prop := ∀ x ∈ ids, (∃ nd, ndOf nds x = some nd) ∧ depthV nds x = D

section
variable {next : Int} {nds : List Nd}
theorem kid_depth (hr : RightM next nds) {x k : Int} {nd : Nd} (hx : ndOf nds x = some nd) (hk : k ∈ nd.kids) : ∃ y, ndOf nds k = some y ∧ y.par = x ∧ depthV nds k = depthV nds x + 1 := by
  obtain ⟨i, _, hi, he⟩ := ndOf_some hx
  obtain ⟨y, hy, hp⟩ := (hr.kids (List.mem_of_getElem? hi)).1 k hk
  rw [he] at hp
  obtain ⟨j, _, hj, hje⟩ := ndOf_some hy
  have h0 : k ≠ 0 := by have := hr.rise.pos j y hj; omega
  have h1 := (show DepthIs nds y.par (depthV nds x) from by rw [hp]; exact (hr.depth hx).1).succ hy h0
  exact ⟨y, hy, hp, (hr.depth hy).1.eq h1⟩
theorem AtD.kids (hr : RightM next nds) {D : Nat} {x : Int} (h : (∃ nd, ndOf nds x = some nd) ∧ depthV nds x = D) : AtD nds (D + 1) (kidsV nds x) := by
  obtain ⟨⟨nd, hx⟩, hd⟩ := h
  rw [kidsV_of hx]
  intro k hk
  obtain ⟨y, h1, _, h2⟩ := kid_depth hr hx hk
  exact ⟨⟨y, h1⟩, by omega⟩
theorem AtD.le (hr : RightM next nds) {D : Nat} {ids : List Int} (h : AtD nds D ids) (h0 : 65 ≤ D) : ids = [] := by
  cases ids with
  | nil => rfl
  | cons x r =>
    obtain ⟨⟨nd, hx⟩, hd⟩ := h x (by simp)
    have := (hr.depth hx).2.2
    omega
theorem ok_of (hr : RightM next nds) : ∀ (f D : Nat) (ids : List Int), f + D = 65 → AtD nds D ids → OkF nds f ids
  | 0, D, ids, he, h => h.le hr (by omega)
  | f + 1, D, ids, he, h => fun x hx => ⟨(h x hx).1, ok_of hr f (D + 1) _ (by omega) (AtD.kids hr (h x hx))⟩
theorem pre_mem (hr : RightM next nds) : ∀ (f d D : Nat) (ids : List Int), AtD nds D ids → ∀ p ∈ pre nds f d ids, (∃ nd, ndOf nds p.1 = some nd) ∧ d ≤ p.2 ∧ depthV nds p.1 + d = D + p.2 ∧ upI nds p.1 (p.2 - d) ∈ ids
  | 0, d, D, ids, h, p, hp => by simp [pre] at hp
  | f + 1, d, D, ids, h, p, hp => by
    simp only [pre, List.mem_flatMap, List.mem_cons] at hp
    obtain ⟨x, hx, rfl | hp⟩ := hp
    · exact ⟨(h x hx).1, Nat.le_refl _, by have := (h x hx).2; simp only; omega, by rw [show (x, d).2 - d = 0 from by simp, upI]; exact hx⟩
    · obtain ⟨h1, h2, h3, h4⟩ := pre_mem hr f (d + 1) (D + 1) _ (AtD.kids hr (h x hx)) p hp
      refine ⟨h1, by omega, by omega, ?_⟩
      obtain ⟨nd, hnd⟩ := (h x hx).1
      rw [kidsV_of hnd] at h4
      obtain ⟨y, hy, hyp, _⟩ := kid_depth hr hnd h4
      rw [show p.2 - d = (p.2 - (d + 1)) + 1 from by omega, upI_succ hy, hyp]
      exact hx
theorem pre_nodup (hr : RightM next nds) : ∀ (f d D : Nat) (ids : List Int), ids.Nodup → AtD nds D ids → ((pre nds f d ids).map (·.1)).Nodup
  | 0, d, D, ids, _, _ => by simp [pre]
  | f + 1, d, D, [], _, _ => by rw [pre_nil]; simp
  | f + 1, d, D, x :: r, hn, h => by
    have hx := h x (by simp)
    have hrD : AtD nds D r := fun y hy => h y (by simp [hy])
    rw [pre_cons, List.map_append, List.nodup_append]
    refine ⟨?_, pre_nodup hr (f + 1) d D r (List.nodup_cons.1 hn).2 hrD, ?_⟩
    · rw [List.map_cons, List.nodup_cons]
      refine ⟨?_, ?_⟩
      · intro hm
        obtain ⟨p, hp, he⟩ := List.mem_map.1 hm
        obtain ⟨_, h2, h3, _⟩ := pre_mem hr f (d + 1) (D + 1) _ (AtD.kids hr hx) p hp
        have h4 := hx.2
        rw [he] at h3
        simp only at h3
        omega
      · obtain ⟨nd, hnd⟩ := hx.1
        refine pre_nodup hr f (d + 1) (D + 1) _ ?_ (AtD.kids hr hx)
        rw [kidsV_of hnd]
        obtain ⟨i, _, hi, _⟩ := ndOf_some hnd
        exact (hr.kids (List.mem_of_getElem? hi)).2
    · intro a ha b hb hab
      obtain ⟨p, hp, rfl⟩ := List.mem_map.1 ha
      obtain ⟨q, hq, rfl⟩ := List.mem_map.1 hb
      have hp' : p ∈ pre nds (f + 1) d [x] := by rw [pre_cons, pre_nil, List.append_nil]; exact hp
      obtain ⟨_, p2, p3, p4⟩ := pre_mem hr (f + 1) d D [x] (fun y hy => by rw [List.mem_singleton.1 hy]; exact hx) p hp'
      obtain ⟨_, q2, q3, q4⟩ := pre_mem hr (f + 1) d D r hrD q hq
      rw [← hab] at q3 q4
      have e : q.2 = p.2 := by omega
      rw [e, List.mem_singleton.1 p4] at q4
      exact (List.nodup_cons.1 hn).1 q4
termination_by f _ _ ids => (f, ids.length)
theorem pre_len (hr : RightM next nds) {f d D : Nat} {ids : List Int} (hn : ids.Nodup) (h : AtD nds D ids) : (pre nds f d ids).length ≤ nds.length := by
  have h1 := nodup_le (m := nds.map (·.id)) (pre_nodup hr f d D ids hn h) (fun x hx => by
    obtain ⟨p, hp, rfl⟩ := List.mem_map.1 hx
    obtain ⟨nd, hnd⟩ := (pre_mem hr f d D ids h p hp).1
    obtain ⟨i, _, hi, he⟩ := ndOf_some hnd
    exact List.mem_map.2 ⟨nd, List.mem_of_getElem? hi, he⟩)
  rwa [List.length_map, List.length_map] at h1

/-- the same without how deep they stand -/
def pl (nds : List Nd) : Nat → List Int → List Int
  | 0, _ => []
  | f + 1, ids => ids.flatMap fun x => x :: pl nds f (kidsV nds x)
theorem pre_pl : ∀ (f d : Nat) (ids : List Int), (pre nds f d ids).map (·.1) = pl nds f ids
  | 0, d, ids => rfl
  | f + 1, d, ids => by
    simp only [pre, pl, List.map_flatMap, List.map_cons]
    congr 1
    funext x
    rw [pre_pl f]
/-- a node and all below it, in document order -/
def preI (nds : List Nd) (x : Int) : List Int := pl nds (65 - depthV nds x) [x]
theorem depthV_le (nds : List Nd) (x : Int) : depthV nds x ≤ 64 := by
  unfold depthV
  cases h : (List.range 65).find? (fun k => upI nds x k == 0) with
  | none => simp
  | some k =>
    have := List.mem_of_find?_eq_some h
    simp at this ⊢
    omega
theorem preI_cons (nds : List Nd) (x : Int) : ∃ r, preI nds x = x :: r := by
  unfold preI
  have := depthV_le nds x
  rw [show 65 - depthV nds x = (64 - depthV nds x) + 1 from by omega]
  exact ⟨pl nds (64 - depthV nds x) (kidsV nds x), by simp [pl]⟩
theorem pl_flat (hr : RightM next nds) : ∀ (f D : Nat) (ids : List Int), f + D = 65 → AtD nds D ids → pl nds f ids = ids.flatMap (preI nds)
  | 0, D, ids, he, h => by rw [h.le hr (by omega)]; rfl
  | f + 1, D, ids, he, h => by
    rw [pl]
    have : ∀ x ∈ ids, (x :: pl nds f (kidsV nds x)) = preI nds x := fun x hx => by
      unfold preI
      rw [(h x hx).2, show 65 - D = f + 1 from by omega]
      simp [pl]
    clear he h
    induction ids with
    | nil => rfl
    | cons y r ih =>
      rw [List.flatMap_cons, List.flatMap_cons, this y (by simp), ih fun x hx => this x (by simp [hx])]
theorem preI_eq (hr : RightM next nds) {x : Int} {nd : Nd} (hx : ndOf nds x = some nd) : preI nds x = x :: nd.kids.flatMap (preI nds) := by
  have hd := hr.depth hx
  have hk := AtD.kids hr (x := x) ⟨⟨nd, hx⟩, rfl⟩
  rw [kidsV_of hx] at hk
  rw [← pl_flat hr (64 - depthV nds x) _ nd.kids (by omega) hk]
  unfold preI
  rw [show 65 - depthV nds x = (64 - depthV nds x) + 1 from by omega]
  simp [pl, kidsV_of hx]
theorem preI_pre (hr : RightM next nds) {x : Int} {nd : Nd} (hx : ndOf nds x = some nd) : AtD nds (depthV nds x) [x] := fun y hy => by
  rw [List.mem_singleton.1 hy]; exact ⟨⟨nd, hx⟩, rfl⟩
theorem preI_nodup (hr : RightM next nds) {x : Int} {nd : Nd} (hx : ndOf nds x = some nd) : (preI nds x).Nodup := by
  unfold preI
  rw [← pre_pl _ 0]
  exact pre_nodup hr _ _ _ _ (by simp) (preI_pre hr hx)
theorem preI_mem (hr : RightM next nds) {x y : Int} {nd : Nd} (hx : ndOf nds x = some nd) (hy : y ∈ preI nds x) : ∃ nd', ndOf nds y = some nd' := by
  unfold preI at hy
  rw [← pre_pl _ 0] at hy
  obtain ⟨p, hp, rfl⟩ := List.mem_map.1 hy
  exact (pre_mem hr _ _ _ _ (preI_pre hr hx) p hp).1
theorem preI_len (hr : RightM next nds) {x : Int} {nd : Nd} (hx : ndOf nds x = some nd) : (preI nds x).length ≤ nds.length := by
  unfold preI
  rw [← pre_pl _ 0, List.length_map]
  exact pre_len hr (by simp) (preI_pre hr hx)
theorem preI_rest (hr : RightM next nds) {x : Int} {nd : Nd} (hx : ndOf nds x = some nd) : (preI nds x).filter (fun y => y != x) = nd.kids.flatMap (preI nds) := by
  have h1 := preI_nodup hr hx
  rw [preI_eq hr hx] at h1 ⊢
  rw [List.filter_cons_of_neg (by simp)]
  rw [List.filter_eq_self]
  intro y hy
  rw [bne_iff_ne]
  rintro rfl
  exact (List.nodup_cons.1 h1).1 hy

/-- the roots -/
def rootsV (nds : List Nd) : List Int := (nds.filter (fun nd => nd.par == 0)).map (·.id)
theorem roots_at (hr : RightM next nds) : AtD nds 1 (rootsV nds) := by
  intro x hx
  obtain ⟨nd, hnd, rfl⟩ := List.mem_map.1 hx
  obtain ⟨h1, h2⟩ := List.mem_filter.1 hnd
  obtain ⟨i, hi⟩ := List.getElem?_of_mem h1
  have hnd := ndOf_is hr.rise hi
  have h0 : nd.id ≠ 0 := by have := hr.rise.pos i nd hi; omega
  have h3 := (show DepthIs nds nd.par 0 from by rw [show nd.par = 0 from by simpa using h2]; exact depth_zero nds).succ hnd h0
  exact ⟨⟨nd, hnd⟩, (hr.depth hnd).1.eq h3⟩
theorem ids_nodup (hr : Rise nds) : (nds.map (·.id)).Nodup := by
  rw [List.nodup_iff_pairwise_ne, List.pairwise_iff_getElem]
  intro i j hi hj hij e
  rw [List.getElem_map, List.getElem_map] at e
  rw [List.length_map] at hi hj
  have := hr.inj (List.getElem?_eq_getElem hi) (List.getElem?_eq_getElem hj) e
  omega
theorem roots_nodup (hr : Rise nds) : (rootsV nds).Nodup := by
  unfold rootsV
  exact List.Sublist.nodup (List.Sublist.map _ List.filter_sublist) (ids_nodup hr)
/-- document order -/
def orderV (nds : List Nd) : List Int := (rootsV nds).flatMap (preI nds)
theorem order_pre (hr : RightM next nds) : (pre nds 64 1 (rootsV nds)).map (·.1) = orderV nds := by
  rw [pre_pl, pl_flat hr 64 1 _ (by omega) (roots_at hr)]
  rfl
theorem order_len (hr : RightM next nds) : (orderV nds).length ≤ nds.length := by
  rw [← order_pre hr, List.length_map]
  exact pre_len hr (roots_nodup hr.rise) (roots_at hr)
theorem order_mem (hr : RightM next nds) {y : Int} (hy : y ∈ orderV nds) : ∃ nd, ndOf nds y = some nd := by
  rw [← order_pre hr] at hy
  obtain ⟨p, hp, rfl⟩ := List.mem_map.1 hy
  exact (pre_mem hr _ _ _ _ (roots_at hr) p hp).1
/-- what is below a node -/
def belowV (nds : List Nd) (x : Int) : List Int := (kidsV nds x).flatMap (preI nds)
theorem below_pre (hr : RightM next nds) {x : Int} {nd : Nd} (hx : ndOf nds x = some nd) : (pre nds (64 - depthV nds x) 1 nd.kids).map (·.1) = belowV nds x := by
  have hd := hr.depth hx
  have hk := AtD.kids hr (x := x) ⟨⟨nd, hx⟩, rfl⟩
  unfold belowV
  rw [kidsV_of hx] at hk ⊢
  rw [pre_pl, pl_flat hr _ _ _ (by omega) hk]
theorem below_len (hr : RightM next nds) {x : Int} {nd : Nd} (hx : ndOf nds x = some nd) : (belowV nds x).length ≤ nds.length := by
  have := preI_len hr hx
  rw [preI_eq hr hx] at this
  unfold belowV
  rw [kidsV_of hx]
  simp only [List.length_cons] at this
  omega
end
end Go.Proofs.Ytmjkcbhkmkofjaa
