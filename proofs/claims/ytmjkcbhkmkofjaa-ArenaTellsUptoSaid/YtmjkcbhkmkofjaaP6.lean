/-
  PLAIN MATHEMATICS: places among kids, depths, and what a model is behind a node that is added.
-/
import Derived.Test.YtmjkcbhkmkofjaaP4
import Derived.Test.YtmjkcbhkmkofjaaW11
namespace Go.Proofs.Ytmjkcbhkmkofjaa
open Go Go.RowKit
set_option linter.unusedVariables false

/-- what a right model is -/
structure RightM (next : Int) (nds : List Nd) : Prop where
  rise : Rise nds
  lo : 1 ≤ next
  hi : next ≤ 1048577
  len : nds.length ≤ 4096
  lt : ∀ (i : Nat) nd, nds[i]? = some nd → nd.id < next
  plain : ∀ nd ∈ nds, plainB next nds nd = true
  below : ∀ nd ∈ nds, belowB nds 64 nd = true
theorem rightM {next : Int} {nds : List Nd} (h : rightB next nds = true) : RightM next nds := by
  unfold rightB numB headB at h
  simp only [Bool.and_eq_true, decide_eq_true_eq, List.all_eq_true] at h
  obtain ⟨⟨⟨⟨h1, h2⟩, h3⟩, h4⟩, h5⟩ := h
  exact ⟨Rise.of h4, h1, h2, h3, fun i nd hi => ((idsB_rise (by omega) h4).1 i nd hi).2, fun nd hnd => (h5 nd hnd).1, fun nd hnd => (h5 nd hnd).2⟩
theorem RightM.kids {next : Int} {nds : List Nd} (h : RightM next nds) {nd : Nd} (hnd : nd ∈ nds) : (∀ k ∈ nd.kids, ∃ x, ndOf nds k = some x ∧ x.par = nd.id) ∧ nd.kids.Nodup := by
  have h1 := h.plain nd hnd
  unfold plainB at h1
  simp only [Bool.and_eq_true] at h1
  have h2 := kidsB_spec.1 h1.2
  exact ⟨fun k hk => (h2.1 k hk).1, h2.2⟩

/-- the kids of a node are nodes of the list, and not too many -/
structure KOk (nds : List Nd) (nd : Nd) : Prop where
  rise : Rise nds
  len : nds.length ≤ 4096
  kl : nd.kids.length ≤ 4096
  kids : ∀ k ∈ nd.kids, ∃ x, ndOf nds k = some x
theorem RightM.kOk {next : Int} {nds : List Nd} (h : RightM next nds) {nd : Nd} (hnd : nd ∈ nds) : KOk nds nd := by
  refine ⟨h.rise, h.len, ?_, fun k hk => ?_⟩
  · have h1 := h.plain nd hnd
    unfold plainB at h1
    simp only [Bool.and_eq_true, decide_eq_true_eq] at h1
    have := h.len
    omega
  · obtain ⟨x, hx, _⟩ := (h.kids hnd).1 k hk
    exact ⟨x, hx⟩

/-- the k-th one up from a node -/
def upI (nds : List Nd) (id : Int) : Nat → Int
  | 0 => id
  | k + 1 => match ndOf nds (upI nds id k) with
    | some nd => nd.par
    | none => 0
/-- so many nodes stand on the way from a node up -/
structure DepthIs (nds : List Nd) (id : Int) (K : Nat) : Prop where
  top : upI nds id K = 0
  way : ∀ k, k < K → upI nds id k ≠ 0 ∧ ∃ nd, ndOf nds (upI nds id k) = some nd
theorem upI_succ {nds : List Nd} {id : Int} {k : Nat} {nd : Nd} (h : ndOf nds (upI nds id k) = some nd) : upI nds id (k + 1) = nd.par := by
  rw [upI, h]
theorem upI_shift {nds : List Nd} {id : Int} {nd : Nd} (h : ndOf nds id = some nd) : ∀ k, upI nds id (k + 1) = upI nds nd.par k
  | 0 => by rw [upI, upI, upI, h]
  | k + 1 => by rw [upI, upI_shift h k, upI]
theorem depth_zero (nds : List Nd) : DepthIs nds 0 0 := ⟨rfl, fun k hk => absurd hk (Nat.not_lt_zero _)⟩
theorem DepthIs.succ {nds : List Nd} {id : Int} {nd : Nd} {K : Nat} (h : DepthIs nds nd.par K) (hnd : ndOf nds id = some nd) (h0 : id ≠ 0) : DepthIs nds id (K + 1) := by
  refine ⟨by rw [upI_shift hnd]; exact h.top, fun k hk => ?_⟩
  cases k with
  | zero => exact ⟨h0, nd, hnd⟩
  | succ k => rw [upI_shift hnd]; exact h.way k (by omega)
theorem DepthIs.eq {nds : List Nd} {id : Int} {K K' : Nat} (h : DepthIs nds id K) (h' : DepthIs nds id K') : K = K' := by
  rcases Nat.lt_trichotomy K K' with k | k | k
  · exact absurd h.top (h'.way K k).1
  · exact k
  · exact absurd h'.top (h.way K' k).1
theorem depth_of {next : Int} {nds : List Nd} (hr : RightM next nds) : ∀ (f : Nat) (nd : Nd), nd ∈ nds → belowB nds f nd = true → ∃ K, 1 ≤ K ∧ K ≤ f ∧ DepthIs nds nd.id K
  | 0, nd, _, h => by simp [belowB] at h
  | f + 1, nd, hm, h => by
    obtain ⟨i, hi⟩ := List.getElem?_of_mem hm
    have hnd := ndOf_is hr.rise hi
    have h0 : nd.id ≠ 0 := by have := hr.rise.pos i nd hi; omega
    rw [belowB] at h
    split at h
    · rename_i hp
      exact ⟨1, by omega, by omega, (show DepthIs nds nd.par 0 from by rw [hp]; exact depth_zero nds).succ hnd h0⟩
    · split at h
      · cases h
      · rename_i p hp
        simp only [Bool.and_eq_true] at h
        obtain ⟨j, _, hj, he⟩ := ndOf_some hp
        obtain ⟨K, h1, h2, h3⟩ := depth_of hr f p (List.mem_of_getElem? hj) h.2
        rw [he] at h3
        exact ⟨K + 1, by omega, by omega, h3.succ hnd h0⟩
/-- how deep a node stands; 0: there is none -/
def depthV (nds : List Nd) (id : Int) : Nat := ((List.range 65).find? (fun k => upI nds id k == 0)).getD 0
theorem DepthIs.val {nds : List Nd} {id : Int} {K : Nat} (h : DepthIs nds id K) (hK : K ≤ 64) : depthV nds id = K := by
  unfold depthV
  have : (List.range 65).find? (fun k => upI nds id k == 0) = some K := by
    rw [List.find?_range_eq_some]
    refine ⟨by simpa using h.top, by simp; omega, fun j hj => ?_⟩
    simpa using (h.way j hj).1
  rw [this]; rfl
theorem RightM.depth {next : Int} {nds : List Nd} (hr : RightM next nds) {id : Int} {nd : Nd} (h : ndOf nds id = some nd) : DepthIs nds id (depthV nds id) ∧ 1 ≤ depthV nds id ∧ depthV nds id ≤ 64 := by
  obtain ⟨i, _, hi, he⟩ := ndOf_some h
  have hm := List.mem_of_getElem? hi
  obtain ⟨K, h1, h2, h3⟩ := depth_of hr 64 nd hm (hr.below nd hm)
  rw [he] at h3
  rw [h3.val h2]
  exact ⟨h3, h1, h2⟩
theorem depth_root {nds : List Nd} : DepthIs nds 0 (depthV nds 0) ∧ depthV nds 0 = 0 := by
  rw [(depth_zero nds).val (by omega)]; exact ⟨depth_zero nds, rfl⟩

/-- the program's search for a place among kids: the index, and whether there is that place -/
def amongF (f : Int → Bool) (at_ : Int) : Nat → Nat → Nat → List Int → Int × Bool
  | _, behind, places, [] => ((behind : Int), (places : Int) == at_)
  | i, behind, places, k :: r => if f k then (if (places : Int) = at_ then ((i : Int), true) else amongF f at_ (i + 1) (i + 1) (places + 1) r) else amongF f at_ (i + 1) behind places r
/-- the document's: the number of the one ahead of which the place is; -1: there is none -/
def beforeV (f : Int → Bool) (at_ : Int) (all : List Int) : Int :=
  if at_ < 0 ∨ ((all.filter f).length : Int) < at_ then -1
  else match (all.filter f)[at_.toNat]? with
    | some k => idxV all k
    | none => match (all.filter f).getLast? with
      | some k => idxV all k + 1
      | none => all.length
theorem idx_nodup {pre r : List Int} {k : Int} (h : (pre ++ k :: r).Nodup) : idxV (pre ++ k :: r) k = pre.length := by
  refine idxV_at (fun i y hi hy => ?_) (by simp)
  rw [List.getElem?_append_left hi] at hy
  have hm := List.mem_of_getElem? hy
  rw [List.nodup_append] at h
  exact h.2.2 y hm k (by simp)
/-- 'behind' as the search has it -/
def behindV (f : Int → Bool) (all pre : List Int) : Int := match (pre.filter f).getLast? with
  | some k => idxV all k + 1
  | none => all.length
theorem among_spec {f : Int → Bool} {at_ : Int} {all : List Int} (hn : all.Nodup) : ∀ (r pre : List Int) (behind : Nat), all = pre ++ r → (behind : Int) = behindV f all pre → (at_ < 0 ∨ ((pre.filter f).length : Int) ≤ at_) →
    (amongF f at_ pre.length behind (pre.filter f).length r).2 = decide (beforeV f at_ all ≠ -1) ∧
    ((amongF f at_ pre.length behind (pre.filter f).length r).2 = true → (amongF f at_ pre.length behind (pre.filter f).length r).1 = beforeV f at_ all)
  | [], pre, behind, he, hb, ha => by
    rw [List.append_nil] at he
    subst he
    simp only [amongF]
    unfold behindV at hb
    by_cases h1 : at_ < 0
    · have hv : beforeV f at_ all = -1 := by unfold beforeV; rw [if_pos (.inl h1)]
      have h2 : ((all.filter f).length : Int) ≠ at_ := by omega
      have h3 : (((all.filter f).length : Int) == at_) = false := by rw [beq_eq_false_iff_ne]; exact h2
      rw [hv, h3]; simp
    · by_cases h2 : ((all.filter f).length : Int) < at_
      · have hv : beforeV f at_ all = -1 := by unfold beforeV; rw [if_pos (.inr h2)]
        have h3 : (((all.filter f).length : Int) == at_) = false := by rw [beq_eq_false_iff_ne]; omega
        rw [hv, h3]; simp
      · have e : at_ = ((all.filter f).length : Int) := by omega
        have e2 : (all.filter f)[at_.toNat]? = none := by rw [List.getElem?_eq_none]; omega
        have hv : beforeV f at_ all = behind := by unfold beforeV; rw [if_neg (by omega), e2]; exact hb.symm
        have h3 : (((all.filter f).length : Int) == at_) = true := by rw [beq_iff_eq]; exact e.symm
        have h4 : (behind : Int) ≠ -1 := by omega
        rw [hv, h3]; simp [h4]
  | k :: r, pre, behind, he, hb, ha => by
    have hsplit : pre ++ k :: r = (pre ++ [k]) ++ r := by simp
    rw [amongF]
    by_cases hk : f k = true
    · rw [if_pos hk]
      by_cases hp : ((pre.filter f).length : Int) = at_
      · rw [if_pos hp]
        have hl : all.filter f = pre.filter f ++ k :: r.filter f := by rw [he, List.filter_append, List.filter_cons_of_pos hk]
        have hv : beforeV f at_ all = pre.length := by
          unfold beforeV
          rw [if_neg (by rw [hl, List.length_append, List.length_cons]; omega), hl, ← hp, Int.toNat_natCast, List.getElem?_append_right (Nat.le_refl _), Nat.sub_self]
          simp only [List.getElem?_cons_zero]
          rw [he]
          exact idx_nodup (he ▸ hn)
        rw [hv]
        have : ((pre.length : Nat) : Int) ≠ -1 := by omega
        simp [this]
      · rw [if_neg hp]
        have hf : (pre ++ [k]).filter f = pre.filter f ++ [k] := by rw [List.filter_append, List.filter_cons_of_pos hk, List.filter_nil]
        have := among_spec (f := f) (at_ := at_) hn r (pre ++ [k]) (pre.length + 1) (by rw [he, hsplit]) (by
          unfold behindV
          rw [hf, List.getLast?_append]
          simp only [List.getLast?_singleton, Option.some_or]
          rw [he, idx_nodup (he ▸ hn)]; omega) (by rw [hf, List.length_append, List.length_singleton]; omega)
        rw [hf, List.length_append, List.length_append, List.length_singleton] at this
        exact this
    · have hk' : f k = false := by simpa using hk
      rw [hk']
      simp only [Bool.false_eq_true, if_false]
      have hf : (pre ++ [k]).filter f = pre.filter f := by rw [List.filter_append, List.filter_cons_of_neg (by simp [hk']), List.filter_nil, List.append_nil]
      have := among_spec (f := f) (at_ := at_) hn r (pre ++ [k]) behind (by rw [he, hsplit]) (by rw [hb]; unfold behindV; rw [hf]) (by rw [hf]; exact ha)
      rw [hf, List.length_append, List.length_singleton] at this
      exact this
theorem among_before {f : Int → Bool} {at_ : Int} {all : List Int} (hn : all.Nodup) : (amongF f at_ 0 all.length 0 all).2 = decide (beforeV f at_ all ≠ -1) ∧ ((amongF f at_ 0 all.length 0 all).2 = true → (amongF f at_ 0 all.length 0 all).1 = beforeV f at_ all) :=
  among_spec (f := f) (at_ := at_) hn all [] all.length rfl rfl (by simp; omega)
end Go.Proofs.Ytmjkcbhkmkofjaa
