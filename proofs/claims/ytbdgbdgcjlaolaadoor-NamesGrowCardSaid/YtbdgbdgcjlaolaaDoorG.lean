/-
  PLAIN: names grow byte by byte; which texts fit which types. No program stands in it.
-/
import Derived.Test.YtbdgbdgcjlaolaaDoorI
namespace Go.Proofs.YtbdgbdgcjlaolaaDoor
open Go
set_option linter.unusedVariables false

theorem right_cons {c : UInt8} {r : List UInt8} (h : right (c :: r) = true) : r.length < 32 ∧ letB (c.toNat : Int) = true ∧ r.all innC = true := by
  simp only [right, Bool.and_eq_true, decide_eq_true_eq] at h
  exact ⟨h.1.1, h.1.2, h.2⟩
theorem right_mk {c : UInt8} {r : List UInt8} (h1 : r.length < 32) (h2 : letB (c.toNat : Int) = true) (h3 : r.all innC = true) : right (c :: r) = true := by
  simp only [right, Bool.and_eq_true, decide_eq_true_eq]
  exact ⟨⟨h1, h2⟩, h3⟩
theorem right_take {l : List UInt8} (h : right l = true) (k : Nat) (h1 : 1 ≤ k) : right (l.take k) = true := by
  cases l with
  | nil => cases h
  | cons c r =>
    obtain ⟨k, rfl⟩ : ∃ j, k = j + 1 := ⟨k - 1, by omega⟩
    obtain ⟨a, b, d⟩ := right_cons h
    rw [List.take_succ_cons]
    refine right_mk ?_ b ?_
    · have := List.length_take_le k r
      rw [List.length_take]; omega
    · rw [List.all_eq_true] at d ⊢
      intro x hx
      exact d x (List.mem_of_mem_take hx)
theorem right_snoc {l : List UInt8} (h : right l = true) (m : UInt8) : right (l ++ [m]) = (innB (m.toNat : Int) && decide (l.length < 32)) := by
  cases l with
  | nil => cases h
  | cons c r =>
    obtain ⟨a, b, d⟩ := right_cons h
    show right (c :: (r ++ [m])) = _
    simp only [right, List.all_append, d, List.all_cons, List.all_nil, b, List.length_append, List.length_cons, List.length_nil]
    unfold innC
    rw [Bool.eq_iff_iff]
    simp only [Bool.and_true, Bool.true_and, Bool.and_eq_true, decide_eq_true_eq]
    constructor
    · rintro ⟨x, y⟩; exact ⟨y, by omega⟩
    · rintro ⟨x, y⟩; exact ⟨by omega, x⟩
theorem own_q (l : List UInt8) : ownN (63 :: l) = right l := by simp [ownN]
theorem right_own {l : List UInt8} (h : right l = true) : ownN l = false := by
  cases l with
  | nil => cases h
  | cons c r =>
    obtain ⟨a, b, d⟩ := right_cons h
    have hc : (c == 63) = false := by
      rw [beq_eq_false_iff_ne]
      rintro rfl
      revert b; decide
    simp [ownN, hc]
theorem fits1 (l : List UInt8) : fitsT 1 l = decide (l.length ≤ 4096) := by simp [fitsT]
theorem fits2 (l : List UInt8) : fitsT 2 l = (intT l).isSome := by simp [fitsT]
theorem fits3 (l : List UInt8) : fitsT 3 l = (decide (l = [116, 114, 117, 101]) || decide (l = [102, 97, 108, 115, 101])) := by simp [fitsT]
theorem fits4 (l : List UInt8) : fitsT 4 l = right l := by simp [fitsT]
theorem number_no {l : List UInt8} (h : right l = true) : fitsT 2 l = false := by
  rw [fits2, ← refI_eq]
  cases l with
  | nil => cases h
  | cons c r =>
    obtain ⟨_, b, _⟩ := right_cons h
    have hb : (65 ≤ (c.toNat : Int) ∧ (c.toNat : Int) ≤ 90) ∨ (97 ≤ (c.toNat : Int) ∧ (c.toNat : Int) ≤ 122) := by simpa [letB] using b
    cases hr : refI (c :: r) with
    | none => rfl
    | some v =>
      exfalso
      simp only [refI] at hr
      rw [if_neg (by omega)] at hr
      obtain ⟨x, q, e, _, ha, _⟩ := refD_some hr
      rw [List.all_cons, Bool.and_eq_true] at ha
      have : 48 ≤ c.toNat ∧ c.toNat ≤ 57 := by simpa [isDg] using ha.1
      omega
theorem text_yes {l : List UInt8} (h : right l = true) : fitsT 1 l = true := by
  rw [fits1]
  cases l with
  | nil => rfl
  | cons c r =>
    obtain ⟨a, _, _⟩ := right_cons h
    simp; omega
theorem truth_no {l : List UInt8} (h : right l = false) : fitsT 3 l = false := by
  rw [fits3]
  cases h' : (decide (l = [116, 114, 117, 101]) || decide (l = [102, 97, 108, 115, 101])) with
  | false => rfl
  | true =>
    exfalso
    simp only [Bool.or_eq_true, decide_eq_true_eq] at h'
    rcases h' with rfl | rfl <;> (revert h; decide)
theorem number_text {l : List UInt8} (h : fitsT 2 l = true) : fitsT 1 l = true := by
  rw [fits2, ← refI_eq] at h
  rw [fits1]
  cases l with
  | nil => rfl
  | cons c r =>
    simp only [refI] at h
    split at h
    · obtain ⟨v, hv⟩ := Option.isSome_iff_exists.1 h
      obtain ⟨_, _, _, hl, _⟩ := refD_some hv
      simp; omega
    · obtain ⟨v, hv⟩ := Option.isSome_iff_exists.1 h
      obtain ⟨_, _, _, hl, _⟩ := refD_some hv
      simp at hl ⊢; omega
end Go.Proofs.YtbdgbdgcjlaolaaDoor
