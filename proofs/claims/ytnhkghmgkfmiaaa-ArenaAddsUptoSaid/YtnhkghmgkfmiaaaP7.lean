/-
  PLAIN MATHEMATICS: a list of nodes with one more behind it; the place ahead of which a place is.
-/
import Derived.Test.YtnhkghmgkfmiaaaW34
namespace Go.Proofs.Ytnhkghmgkfmiaaa
open Go Go.RowKit
set_option linter.unusedVariables false

theorem ixOf_more {nds : List Nd} {new : Nd} {k : Int} {i : Nat} (h : ixOf nds k = some i) : ixOf (nds ++ [new]) k = some i := by
  unfold ixOf at h ⊢
  rw [List.findIdx?_append, h]; rfl
theorem ndOf_more {nds : List Nd} {new : Nd} {k : Int} {x : Nd} (h : ndOf nds k = some x) : ndOf (nds ++ [new]) k = some x := by
  obtain ⟨i, h1, h2, _⟩ := ndOf_some h
  unfold ndOf
  rw [ixOf_more h1]
  show (nds ++ [new])[i]? = some x
  rw [List.getElem?_append_left (List.getElem?_eq_some_iff.1 h2).1]
  exact h2
theorem rise_more {nds : List Nd} {new : Nd} (h : Rise nds) (h1 : 1 ≤ new.id) (hl : ∀ (i : Nat) x, nds[i]? = some x → x.id < new.id) : Rise (nds ++ [new]) := by
  have key : ∀ (i : Nat) x, (nds ++ [new])[i]? = some x → nds[i]? = some x ∨ (i = nds.length ∧ x = new) := by
    intro i x hx
    rcases Nat.lt_or_ge i nds.length with hi | hi
    · rw [List.getElem?_append_left hi] at hx; exact .inl hx
    · rw [List.getElem?_append_right hi] at hx
      have : i - nds.length = 0 := by
        rcases Nat.eq_zero_or_pos (i - nds.length) with e | e
        · exact e
        · rw [List.getElem?_eq_none (by simp; omega)] at hx; cases hx
      rw [this] at hx
      exact .inr ⟨by omega, by simpa using hx.symm⟩
  refine ⟨fun i x hx => ?_, fun i j x y hij hx hy => ?_⟩
  · rcases key i x hx with h2 | ⟨_, rfl⟩
    · exact h.pos i x h2
    · exact h1
  · rcases key j y hy with h2 | ⟨hj, rfl⟩
    · rcases key i x hx with h3 | ⟨hi, rfl⟩
      · exact h.lt i j x y hij h3 h2
      · have := (List.getElem?_eq_some_iff.1 h2).1; omega
    · rcases key i x hx with h3 | ⟨hi, rfl⟩
      · exact hl i x h3
      · omega
theorem kOk_more {nds : List Nd} {new nd : Nd} (h : KOk nds nd) (h1 : 1 ≤ new.id) (hl : ∀ (i : Nat) x, nds[i]? = some x → x.id < new.id) (hn : nds.length + 1 ≤ 4096) : KOk (nds ++ [new]) nd := by
  refine ⟨rise_more h.rise h1 hl, by rw [List.length_append, List.length_singleton]; exact hn, h.kl, fun k hk => ?_⟩
  obtain ⟨x, hx⟩ := h.kids k hk
  exact ⟨x, ndOf_more hx⟩
theorem inRole_more {nds : List Nd} {new nd : Nd} (h : KOk nds nd) (role : ByteArray) : ∀ k ∈ nd.kids, inRoleB (nds ++ [new]) role k = inRoleB nds role k := by
  intro k hk
  obtain ⟨x, hx⟩ := h.kids k hk
  unfold inRoleB
  rw [hx, ndOf_more hx]
theorem before_congr {f f' : Int → Bool} {at_ : Int} {all : List Int} (h : ∀ k ∈ all, f k = f' k) : beforeV f at_ all = beforeV f' at_ all := by
  unfold beforeV
  rw [List.filter_congr h]
theorem idxV_le (l : List Int) (x : Int) : -1 ≤ idxV l x ∧ idxV l x < l.length := by
  unfold idxV
  split
  · rename_i i hi
    have := (List.findIdx?_eq_some_iff_getElem.1 hi).1
    omega
  · omega
theorem idxV_mem {l : List Int} {x : Int} (h : x ∈ l) : 0 ≤ idxV l x := by
  have := idxV_ge l x
  rw [List.contains_iff_mem.2 h] at this
  exact of_decide_eq_true this
/-- the place is -1, or one of the list, or its end -/
theorem before_range (f : Int → Bool) (at_ : Int) (all : List Int) : beforeV f at_ all = -1 ∨ ∃ a : Nat, beforeV f at_ all = a ∧ a ≤ all.length := by
  unfold beforeV
  split
  · exact .inl rfl
  · refine .inr ?_
    split
    · rename_i k hk
      have hm := (List.mem_filter.1 (List.mem_of_getElem? hk)).1
      have h1 := idxV_mem hm
      have h2 := idxV_le all k
      exact ⟨(idxV all k).toNat, by omega, by omega⟩
    · split
      · rename_i k hk
        have hm := (List.mem_filter.1 (List.mem_of_getLast? hk)).1
        have h1 := idxV_mem hm
        have h2 := idxV_le all k
        exact ⟨(idxV all k + 1).toNat, by omega, by omega⟩
      · exact ⟨all.length, rfl, Nat.le_refl _⟩
end Go.Proofs.Ytnhkghmgkfmiaaa
