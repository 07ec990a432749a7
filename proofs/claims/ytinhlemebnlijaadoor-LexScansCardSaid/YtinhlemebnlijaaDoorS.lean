/-
  PLAIN: how a text in quotes is scanned, in lists: there and back, and where it stops. No program stands in it.
-/
import Derived.Test.YtinhlemebnlijaaDoorQ
namespace Go.Proofs.YtinhlemebnlijaaDoor
open Go
set_option linter.unusedVariables false
theorem stepL_some {r : List UInt8} {m b : Nat} (h : stepL r = (m, some b)) : 1 ≤ m ∧ r ≠ [] := by
  cases r with
  | nil => simp [stepL] at h
  | cons x t =>
    simp only [stepL] at h
    split at h
    · simp only [Prod.mk.injEq] at h; exact ⟨by omega, by simp⟩
    · split at h
      · simp at h
      · simp only [Prod.mk.injEq] at h; exact ⟨by omega, by simp⟩
def scanL (r : List UInt8) : Option (List UInt8) × Nat :=
  if r = [] then (none, 0)
  else if r.head? = some 34 then (some [], 1)
  else match hs : stepL r with
    | (m, some b) => ((scanL (r.drop m)).1.map (UInt8.ofNat b :: ·), m + (scanL (r.drop m)).2)
    | (m, none) => (none, m)
termination_by r.length
decreasing_by all_goals (have h := stepL_some hs; rw [List.length_drop]; have : 0 < r.length := List.length_pos_iff.2 h.2; omega)
theorem scanL_nil : scanL [] = (none, 0) := by rw [scanL, if_pos rfl]
theorem scanL_quote (v : List UInt8) : scanL (34 :: v) = (some [], 1) := by rw [scanL, if_neg (by simp), if_pos (by simp)]
theorem scanL_some {r : List UInt8} {m b : Nat} (h34 : r.head? ≠ some 34) (h : stepL r = (m, some b)) : scanL r = ((scanL (r.drop m)).1.map (UInt8.ofNat b :: ·), m + (scanL (r.drop m)).2) := by
  rw [scanL, if_neg (stepL_some h).2, if_neg h34]
  split
  · rename_i m' b' hq
    rw [h] at hq
    simp only [Prod.mk.injEq, Option.some.injEq] at hq
    obtain ⟨rfl, rfl⟩ := hq
    rfl
  · rename_i m' hq
    rw [h] at hq; simp at hq
theorem scanL_stop {r : List UInt8} {m : Nat} (hne : r ≠ []) (h34 : r.head? ≠ some 34) (h : stepL r = (m, none)) : scanL r = (none, m) := by
  rw [scanL, if_neg hne, if_neg h34]
  split
  · rename_i m' b' hq
    rw [h] at hq; simp at hq
  · rename_i m' hq
    rw [h] at hq
    simp only [Prod.mk.injEq] at hq
    rw [hq.1]
theorem form_head (c : UInt8) (v : List UInt8) : (form c ++ v).head? ≠ some 34 := by
  rcases form_cases c with ⟨h, e⟩ | ⟨h, e⟩ | ⟨h, e⟩ | ⟨h1, h2, h3, h4, e⟩
  · rw [e]; simp
  · rw [e]; simp
  · rw [e]; simp
  · rw [e]; simp; intro hc; exact h1 (by rw [hc]; rfl)
theorem scanL_form (c : UInt8) (v : List UInt8) : scanL (form c ++ v) = ((scanL v).1.map (c :: ·), (form c).length + (scanL v).2) := by
  have h := scanL_some (form_head c v) (step_of_form c v)
  rw [h, List.drop_left]
  have e : UInt8.ofNat c.toNat = c := by simp
  rw [e]
/-- each text begins in one of four ways -/
theorem scan_ways (r : List UInt8) : r = [] ∨ (∃ v, r = 34 :: v) ∨ (∃ c v, r = form c ++ v) ∨ (r ≠ [] ∧ r.head? ≠ some 34 ∧ ∃ m, stepL r = (m, none)) := by
  by_cases h0 : r = []
  · exact .inl h0
  · by_cases h34 : r.head? = some 34
    · right; left
      cases r with
      | nil => exact absurd rfl h0
      | cons x t => simp at h34; exact ⟨t, by rw [h34]⟩
    · right; right
      rcases hs : stepL r with ⟨m, o⟩
      cases o with
      | none => exact .inr ⟨h0, h34, m, rfl⟩
      | some b =>
        left
        obtain ⟨t, ht⟩ := form_of_step (fun x t e => by
          rw [e] at h34; simp at h34
          intro hx; exact h34 (UInt8.toNat_inj.1 hx)) hs
        exact ⟨_, t, ht⟩
/-- what is put in quotes is read back, whatever stands behind -/
theorem scanL_back (l v : List UInt8) : scanL (l.flatMap form ++ 34 :: v) = (some l, (l.flatMap form).length + 1) := by
  induction l with
  | nil => simpa using scanL_quote v
  | cons c l ih =>
    rw [List.flatMap_cons, List.append_assoc, scanL_form, ih, List.length_append]
    simp; omega
/-- what is read has just those quotes -/
theorem scanL_is : ∀ (k : Nat) (r l : List UInt8) (n : Nat), r.length ≤ k → scanL r = (some l, n) → r.take n = l.flatMap form ++ [34] ∧ n ≤ r.length := by
  intro k
  induction k with
  | zero =>
    intro r l n hk h
    obtain rfl : r = [] := List.length_eq_zero_iff.1 (by omega)
    rw [scanL_nil] at h; simp at h
  | succ k ih =>
    intro r l n hk h
    rcases scan_ways r with rfl | ⟨v, rfl⟩ | ⟨c, v, rfl⟩ | ⟨h0, h34, m, hm⟩
    · rw [scanL_nil] at h; simp at h
    · rw [scanL_quote] at h
      simp only [Prod.mk.injEq, Option.some.injEq] at h
      obtain ⟨rfl, rfl⟩ := h
      exact ⟨by simp, by simp⟩
    · rw [scanL_form] at h
      simp only [Prod.mk.injEq, Option.map_eq_some_iff] at h
      obtain ⟨⟨l', hl', rfl⟩, rfl⟩ := h
      have hf := form_length c
      have := ih v l' (scanL v).2 (by rw [List.length_append] at hk; omega) (by rw [← hl'])
      refine ⟨?_, by rw [List.length_append]; omega⟩
      rw [List.take_length_add_append, this.1]; simp
    · rw [scanL_stop h0 h34 hm] at h; simp at h
def endsL : List (List UInt8) := [[34], [34, 34], [110, 34], [102, 102, 34], [102, 34]]
theorem hex15 : hexOf 15 = 102 := by decide
theorem stop_take {r : List UInt8} {m : Nat} (h0 : r ≠ []) (h34 : r.head? ≠ some 34) (h : stepL r = (m, none)) :
    scanL (r.take m) = (none, m) ∧ m ≤ r.length ∧ ∃ x ∈ endsL, ∃ l, scanL (r.take m ++ x) = (some l, m + x.length) := by
  cases r with
  | nil => exact absurd rfl h0
  | cons x t =>
    simp only [stepL] at h
    split at h
    · rename_i hx
      obtain rfl : x = 92 := UInt8.toNat_inj.1 hx
      simp only [Prod.mk.injEq] at h
      obtain ⟨rfl, h⟩ := h
      have one : ∀ t : List UInt8, (escL t).1 = 0 → scanL (((92 : UInt8) :: t).take (1 + (escL t).1)) = (none, 1 + (escL t).1) ∧ ∃ x ∈ endsL, ∃ l, scanL (((92 : UInt8) :: t).take (1 + (escL t).1) ++ x) = (some l, 1 + (escL t).1 + x.length) := by
        intro t e
        rw [e]
        refine ⟨?_, [34, 34], by decide, [34], ?_⟩
        · exact scanL_stop (r := [92]) (by simp) (by simp) (by decide)
        · have := scanL_form 34 [34]
          rw [scanL_quote] at this
          exact this
      cases t with
      | nil => obtain ⟨a, b⟩ := one [] rfl; exact ⟨a, by simp [escL], b⟩
      | cons y u =>
        by_cases hy : y.toNat = 34 ∨ y.toNat = 92
        · simp only [escL] at h; rw [if_pos hy] at h; simp at h
        · by_cases hy2 : y.toNat = 110
          · simp only [escL] at h; rw [if_neg hy, if_pos hy2] at h; simp at h
          · by_cases hy3 : y.toNat = 120
            · obtain rfl : y = 120 := UInt8.toNat_inj.1 hy3
              have eE : escL (120 :: u) = (1 + (numL u).1, (numL u).2) := by simp [escL]
              rw [eE] at h ⊢
              simp only at h ⊢
              have zero : (numL u).1 = 0 → scanL (((92 : UInt8) :: 120 :: u).take (1 + (1 + (numL u).1))) = (none, 1 + (1 + (numL u).1)) ∧ ∃ x ∈ endsL, ∃ l, scanL (((92 : UInt8) :: 120 :: u).take (1 + (1 + (numL u).1)) ++ x) = (some l, 1 + (1 + (numL u).1) + x.length) := by
                intro e
                rw [e]
                refine ⟨?_, [102, 102, 34], by decide, [255], ?_⟩
                · exact scanL_stop (r := [92, 120]) (by simp) (by simp) (by decide)
                · have := scanL_form 255 [34]
                  rw [scanL_quote, show form 255 = [92, 120, 102, 102] by decide] at this
                  exact this
              cases g1 : digL u with
              | none =>
                have e0 : (numL u).1 = 0 := by unfold numL; rw [g1]
                obtain ⟨a, b⟩ := zero e0
                exact ⟨a, by rw [e0]; simp, b⟩
              | some a =>
                obtain ⟨ha, v, rfl⟩ := digL_some g1
                cases hn : numB (16 * (a : Int) + 15) with
                | false =>
                  have e0 : (numL (hexOf a :: v)).1 = 0 := by unfold numL; rw [g1]; simp only; rw [if_neg (by rw [hn]; simp)]
                  obtain ⟨p, q⟩ := zero e0
                  exact ⟨p, by rw [e0]; simp, q⟩
                | true =>
                  have e1 : (numL (hexOf a :: v)).1 = 1 := by
                    unfold numL at h ⊢
                    rw [g1] at h ⊢
                    simp only [List.tail_cons] at h ⊢
                    rw [if_pos hn] at h ⊢
                    cases g2 : digL v with
                    | none => rfl
                    | some l =>
                      rw [g2] at h
                      simp only at h ⊢
                      split at h
                      · simp at h
                      · rename_i hm; rw [if_neg hm]
                  rw [e1]
                  have ef := num_form a ha hn
                  refine ⟨?_, by simp, [102, 34], by decide, [UInt8.ofNat (16 * a + 15)], ?_⟩
                  · have hl : numL [hexOf a] = (1, none) := by
                      unfold numL
                      rw [digL_of a ha]
                      simp only [List.tail_cons]
                      rw [if_pos hn]
                      rfl
                    exact scanL_stop (r := [92, 120, hexOf a]) (by simp) (by simp) (by simp [stepL, escL, hl])
                  · have := scanL_form (UInt8.ofNat (16 * a + 15)) [34]
                    rw [scanL_quote, ef, hex15] at this
                    exact this
            · have e0 : (escL (y :: u)).1 = 0 := by simp only [escL]; rw [if_neg hy, if_neg hy2, if_neg hy3]
              obtain ⟨a, b⟩ := one (y :: u) e0
              exact ⟨a, by rw [e0]; simp, b⟩
    · split at h
      · simp only [Prod.mk.injEq] at h
        obtain ⟨rfl, _⟩ := h
        exact ⟨by simpa using scanL_nil, by simp, [34], by decide, [], by simpa using scanL_quote []⟩
      · simp at h
/-- where it stops it was right up to there, and something makes it right -/
theorem scanL_stops : ∀ (k : Nat) (r : List UInt8) (n : Nat), r.length ≤ k → scanL r = (none, n) →
    scanL (r.take n) = (none, n) ∧ n ≤ r.length ∧ ∃ x ∈ endsL, ∃ l, scanL (r.take n ++ x) = (some l, n + x.length) := by
  intro k
  induction k with
  | zero =>
    intro r n hk h
    obtain rfl : r = [] := List.length_eq_zero_iff.1 (by omega)
    rw [scanL_nil] at h
    simp only [Prod.mk.injEq, true_and] at h
    subst h
    exact ⟨by simpa using scanL_nil, by simp, [34], by decide, [], by simpa using scanL_quote []⟩
  | succ k ih =>
    intro r n hk h
    rcases scan_ways r with rfl | ⟨v, rfl⟩ | ⟨c, v, rfl⟩ | ⟨h0, h34, m, hm⟩
    · rw [scanL_nil] at h
      simp only [Prod.mk.injEq, true_and] at h
      subst h
      exact ⟨by simpa using scanL_nil, by simp, [34], by decide, [], by simpa using scanL_quote []⟩
    · rw [scanL_quote] at h; simp at h
    · rw [scanL_form] at h
      simp only [Prod.mk.injEq, Option.map_eq_none_iff] at h
      obtain ⟨hl', rfl⟩ := h
      have hf := form_length c
      obtain ⟨a, b, x, hx, l, e⟩ := ih v (scanL v).2 (by rw [List.length_append] at hk; omega) (by rw [← hl'])
      rw [List.take_length_add_append]
      refine ⟨by rw [scanL_form, a]; rfl, by rw [List.length_append]; omega, x, hx, c :: l, ?_⟩
      rw [List.append_assoc, scanL_form, e]
      simp; omega
    · rw [scanL_stop h0 h34 hm] at h
      simp only [Prod.mk.injEq, true_and] at h
      subst h
      exact stop_take h0 h34 hm
theorem scan_list (s : ByteArray) : ∀ (k i : Nat), s.size - i ≤ k → i ≤ s.size → scan s i = ((scanL (s.data.toList.drop i)).1, i + (scanL (s.data.toList.drop i)).2) := by
  intro k
  induction k with
  | zero =>
    intro i hk hi
    have hlt : ¬ i < s.size := by omega
    rw [scan_end hlt, drop_none s i hlt, scanL_nil]; rfl
  | succ k ih =>
    intro i hk hi
    by_cases hlt : i < s.size
    · have hd := drop_get s i hlt
      by_cases h34 : s[i].toNat = 34
      · have e : s[i] = 34 := UInt8.toNat_inj.1 h34
        rw [scan_quote hlt h34, hd, e, scanL_quote]
      · have hh : (s.data.toList.drop i).head? ≠ some 34 := by
          rw [hd]; simp; intro e; exact h34 (by rw [e]; rfl)
        rcases hst : stepAt s i hlt with ⟨n, o⟩
        have hL := stepAt_eq s i hlt
        rw [hst] at hL
        cases o with
        | none =>
          rw [scan_stop hlt h34 hst, scanL_stop (by rw [hd]; simp) hh hL.symm]
        | some b =>
          have hle := stepAt_le hst
          rw [scan_step hlt h34 hst, scanL_some hh hL.symm, ih (i + n) (by have := (hle.2 b rfl).2; omega) hle.1, List.drop_drop]
          simp only [Prod.mk.injEq]
          exact ⟨trivial, by omega⟩
    · rw [scan_end hlt, drop_none s i hlt, scanL_nil]; rfl
theorem scan_at (s : ByteArray) (i : Nat) (hi : i ≤ s.size) : scan s i = ((scanL (s.data.toList.drop i)).1, i + (scanL (s.data.toList.drop i)).2) := scan_list s _ i (Nat.le_refl _) hi
theorem unq_quote {s : ByteArray} {t : Nat} {r : List UInt8} (h : s.data.toList.drop t = 34 :: r) : unq s t = (match scanL r with | (some l, n) => (l, ((t + 1 + n : Nat) : Int), 0) | (none, n) => ([], ((t + 1 + n : Nat) : Int), 10)) := by
  have ht : t < s.size := by
    by_cases hlt : t < s.size
    · exact hlt
    · rw [drop_none s t hlt] at h; cases h
  have hd := drop_get s t ht
  rw [h] at hd
  obtain ⟨e1, e2⟩ := List.cons.inj hd
  have hq : s[t].toNat = 34 := by rw [← e1]; rfl
  have hsc := scan_at s (t + 1) (by omega)
  rw [← e2] at hsc
  unfold unq
  rw [if_neg (by omega)]
  simp only [Int.toNat_natCast]
  rw [dif_pos ht, if_pos hq, hsc]
  rcases scanL r with ⟨o, n⟩
  cases o <;> rfl
theorem unq_other {s : ByteArray} {t : Nat} (ht : t ≤ s.size) (h : (s.data.toList.drop t).head? ≠ some 34) : unq s t = ([], (t : Int), 10) := by
  unfold unq
  rw [if_neg (by omega)]
  simp only [Int.toNat_natCast]
  split
  · rename_i hlt
    rw [if_neg]
    intro e
    apply h
    rw [drop_get s t hlt]
    simp
    exact UInt8.toNat_inj.1 e
  · rfl
end Go.Proofs.YtinhlemebnlijaaDoor
