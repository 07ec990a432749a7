/-
  WALKS: what is asked of a node that is added; may it stand there?
-/
import Derived.Test.YtnhkghmgkfmiaaaP7
namespace Go.Proofs.Ytnhkghmgkfmiaaa
open Go Go.RowKit Go.Sort
set_option linter.unusedVariables false
attribute [local go_sem ↓] Go.wp_at_zero Go.wp_at_succ

/-- the program's search for a place, of a root too -/
def amV (nds : List Nd) (parent : Int) (role : ByteArray) (at_ : Int) : Int × Bool :=
  if parent = 0 then (0, role.toList.isEmpty && at_ == 0) else match ndOf nds parent with
    | some nd => amongF (inRoleB nds role) at_ 0 nd.kids.length 0 nd.kids
    | none => (0, false)
/-- the index and the error of a branch of L levels and M nodes more at a spot -/
def admV (next : Int) (nds : List Nd) (parent : Int) (role : ByteArray) (at_ : Int) (L M : Nat) : Int × Int :=
  if parent ≠ 0 ∧ (ndOf nds parent).isNone = true then (0, 20)
  else if (amV nds parent role at_).2 = false then (0, 22)
  else if 64 < depthV nds parent + L then (0, 23)
  else if 4096 < nds.length + M then (0, 4)
  else if 1048576 < next - 1 + M then (0, 4)
  else ((amV nds parent role at_).1, 0)
theorem has_ndOf {nds : List Nd} {id : Int} : (ixOf nds id).isSome = (ndOf nds id).isSome := by
  unfold ndOf
  cases h : ixOf nds id with
  | none => rfl
  | some i =>
    obtain ⟨nd, h1, _⟩ := ixOf_some h
    show true = (nds[i]?).isSome
    rw [h1]; rfl

theorem admits_any (w : World) (hi : Nat) (next parent at_ : Int) (role : ByteArray) (L M : Nat) (A : Option Addr) (n c : Nat) (nds : List Nd) (h : NodesIn w 0 hi A n c nds) (hh : hi ≤ w.heap.size) (hr : RightM next nds) (hL : L ≤ 65) (hM : M ≤ 8192) :
    Calls Try.prog 59 #[.agg #[.int .i64 parent, .string role, .int .i64 at_], .agg #[.int .i64 next, .slice A n c], .int .i64 L, .int .i64 M] w (Ret w (.tuple #[.int .i64 (admV next nds parent role at_ L M).1, .int .i64 (admV next nds parent role at_ L M).2])) := by
  have hn : n ≤ 4096 := by rw [← h.1]; exact hr.len
  by_cases h1 : parent ≠ 0 ∧ (ndOf nds parent).isNone = true
  · have e : admV next nds parent role at_ L M = (0, 20) := by unfold admV; rw [if_pos h1]
    rw [e]
    exact admits_none w hi next parent at_ role L M A n c nds h hh hr.rise hn (Option.isNone_iff_eq_none.1 h1.2) h1.1
  · have e : admV next nds parent role at_ L M = (if (amV nds parent role at_).2 = false then (0, 22) else if 64 < depthV nds parent + L then (0, 23) else if 4096 < n + M then (0, 4) else if 1048576 < next - 1 + M then (0, 4) else ((amV nds parent role at_).1, 0)) := by
      unfold admV; rw [if_neg h1, h.1]
    have hDep : DepthIs nds parent (depthV nds parent) ∧ depthV nds parent ≤ 64 := by
      by_cases h0 : parent = 0
      · subst h0
        exact ⟨depth_root.1, by rw [depth_root.2]; omega⟩
      · cases hx : ndOf nds parent with
        | none => exact absurd ⟨h0, by rw [hx]; rfl⟩ h1
        | some nd => exact ⟨(hr.depth hx).1, (hr.depth hx).2.2⟩
    refine admits_some w next parent at_ role L M (depthV nds parent) A n c h.2.2.1 hn hr.lo hr.hi hL hM hDep.2 (amV nds parent role at_).1 (amV nds parent role at_).2 ?_ ?_ ?_ _ e.symm
    · refine Lib.hid fun X hX => ?_
      have h2 := has_any X hi next parent A n c nds (h.below (hX.mono hh)) (Nat.le_trans hh hX.size) hr.rise hn
      rw [has_ndOf] at h2
      have e2 : (parent != 0) = (ndOf nds parent).isSome := by
        by_cases h0 : parent = 0
        · subst h0
          have : ndOf nds 0 = none := by
            cases hx : ndOf nds 0 with
            | none => rfl
            | some nd =>
              obtain ⟨i, _, h3, h4⟩ := ndOf_some hx
              have := hr.rise.pos i nd h3
              omega
          rw [this]; rfl
        · cases hx : ndOf nds parent with
          | none => exact absurd ⟨h0, by rw [hx]; rfl⟩ h1
          | some nd => show (parent != 0) = true; rw [bne_iff_ne]; exact h0
      rw [e2]
      exact h2
    · refine Lib.hid fun X hX => ?_
      by_cases h0 : parent = 0
      · subst h0
        have e2 : amV nds 0 role at_ = (0, role.toList.isEmpty && at_ == 0) := by unfold amV; rw [if_pos rfl]
        rw [e2]
        exact among_root X next at_ role A n c _ rfl
      · cases hx : ndOf nds parent with
        | none => exact absurd ⟨h0, by rw [hx]; rfl⟩ h1
        | some nd =>
          obtain ⟨i, _, h3, _⟩ := ndOf_some hx
          have e2 : amV nds parent role at_ = amongF (inRoleB nds role) at_ 0 nd.kids.length 0 nd.kids := by unfold amV; rw [if_neg h0, hx]
          exact among_any X hi next parent at_ role A n c nds (h.below (hX.mono hh)) (Nat.le_trans hh hX.size) nd (hr.kOk (List.mem_of_getElem? h3)) hx h0 _ e2.symm
    · exact Lib.hid fun X hX => depth_any X hi next parent A n c nds (h.below (hX.mono hh)) (Nat.le_trans hh hX.size) hr.rise hn _ hDep.1 (by omega)
end Go.Proofs.Ytnhkghmgkfmiaaa
