/-
  PLAIN LISTS: the search over all 256 forms finds what the two digits' reading finds. No program stands in it.
-/
import Derived.Test.YtckfcpiedainfaaGreatDoorZE1
namespace Go.Proofs.YtckfcpiedainfaaGreatDoor
open Go
set_option linter.unusedVariables false
def common : List UInt8 → List UInt8 → Nat
  | a :: l, b :: r => if a = b then common l r + 1 else 0
  | _, _ => 0
theorem common_nil_right (l : List UInt8) : common l [] = 0 := by cases l <;> rfl
theorem common_le_left : ∀ (l r : List UInt8), common l r ≤ l.length
  | [], r => by simp [common]
  | a :: l, [] => by simp [common]
  | a :: l, b :: r => by
    simp only [common]
    split
    · have := common_le_left l r; simp; omega
    · simp
theorem common_le_right : ∀ (l r : List UInt8), common l r ≤ r.length
  | [], r => by simp [common]
  | a :: l, [] => by simp [common]
  | a :: l, b :: r => by
    simp only [common]
    split
    · have := common_le_right l r; simp; omega
    · simp
theorem common_take : ∀ (l r : List UInt8) (m : Nat), l.length ≤ m → common l (r.take m) = common l r
  | [], r, m, _ => by simp [common]
  | a :: l, [], m, _ => by simp
  | a :: l, b :: r, 0, h => by simp at h
  | a :: l, b :: r, m + 1, h => by
    simp only [List.take_succ_cons, common]
    rw [common_take l r m (by simpa using h)]
theorem common_step {A B : List UInt8} {k : Nat} (h : common A B = k + common (A.drop k) (B.drop k)) (ha : k < A.length) (hb : k < B.length) (e : A[k] = B[k]) :
    common A B = k + 1 + common (A.drop (k + 1)) (B.drop (k + 1)) := by
  rw [List.drop_eq_getElem_cons ha, List.drop_eq_getElem_cons hb, common, if_pos e] at h
  omega
theorem common_stop {A B : List UInt8} {k : Nat} (h : common A B = k + common (A.drop k) (B.drop k)) (hs : ¬ (k < A.length ∧ k < B.length) ∨ ∃ (ha : k < A.length) (hb : k < B.length), A[k] ≠ B[k]) : common A B = k := by
  rcases hs with hs | ⟨ha, hb, hne⟩
  · by_cases ha : k < A.length
    · have : B.drop k = [] := List.drop_eq_nil_of_le (by omega)
      rw [this, common_nil_right] at h; omega
    · have : A.drop k = [] := List.drop_eq_nil_of_le (by omega)
      rw [this] at h; simpa [common] using h
  · rw [List.drop_eq_getElem_cons ha, List.drop_eq_getElem_cons hb, common, if_neg hne] at h
    omega
def digL : List UInt8 → Option Nat
  | [] => none
  | x :: _ => if hexIx x < 0 then none else some (hexIx x).toNat
def numL (t : List UInt8) : Nat × Option Nat :=
  match digL t with
  | none => (0, none)
  | some h => if numB (16 * h + 15) then
      match digL t.tail with
      | none => (1, none)
      | some l => if numB (16 * h + l) then (2, some (16 * h + l)) else (1, none)
    else (0, none)
def escL : List UInt8 → Nat × Option Nat
  | [] => (0, none)
  | x :: t =>
    if x.toNat = 34 ∨ x.toNat = 92 then (1, some x.toNat)
    else if x.toNat = 110 then (1, some 10)
    else if x.toNat = 120 then (1 + (numL t).1, (numL t).2)
    else (0, none)
def stepL : List UInt8 → Nat × Option Nat
  | [] => (0, none)
  | x :: t =>
    if x.toNat = 92 then (1 + (escL t).1, (escL t).2)
    else if numB (x.toNat : Int) = true ∨ x.toNat = 10 then (0, none)
    else (1, some x.toNat)
theorem drop_get (s : ByteArray) (k : Nat) (h : k < s.size) : s.data.toList.drop k = s[k] :: s.data.toList.drop (k + 1) := by
  rw [List.drop_eq_getElem_cons (by simpa using h)]; rfl
theorem drop_none (s : ByteArray) (k : Nat) (h : ¬ k < s.size) : s.data.toList.drop k = [] :=
  List.drop_eq_nil_of_le (by rw [Array.length_toList]; exact Nat.le_of_not_lt h)
theorem digS_eq (s : ByteArray) (k : Nat) : digS s k = digL (s.data.toList.drop k) := by
  unfold digS
  split
  · rename_i h; rw [drop_get s k h]; rfl
  · rename_i h; rw [drop_none s k h]; rfl
theorem stepNum_eq (s : ByteArray) (k : Nat) : stepNum s k = numL (s.data.toList.drop k) := by
  unfold stepNum numL
  rw [digS_eq, digS_eq, List.tail_drop]
  cases digL (s.data.toList.drop k) <;> rfl
theorem stepEsc_eq (s : ByteArray) (k : Nat) : stepEsc s k = escL (s.data.toList.drop k) := by
  unfold stepEsc
  split
  · rename_i h; rw [drop_get s k h, escL, stepNum_eq]
  · rename_i h; rw [drop_none s k h]; rfl
theorem stepAt_eq (s : ByteArray) (k : Nat) (h : k < s.size) : stepAt s k h = stepL (s.data.toList.drop k) := by
  unfold stepAt
  rw [drop_get s k h, stepL, stepEsc_eq]
theorem hexIx_of (h : Nat) (a : h < 16) : hexIx (hexOf h) = h := by
  have : ∀ h : Fin 16, hexIx (hexOf h.val) = h.val := by decide +kernel
  exact this ⟨h, a⟩
theorem hexOf_ix (x : UInt8) : 0 ≤ hexIx x → x = hexOf (hexIx x).toNat := by
  revert x; apply all256; decide +kernel
theorem digL_of (h : Nat) (a : h < 16) (t : List UInt8) : digL (hexOf h :: t) = some h := by
  simp only [digL]; rw [hexIx_of h a, if_neg (by omega)]; simp
theorem digL_some {t : List UInt8} {h : Nat} (e : digL t = some h) : h < 16 ∧ ∃ r, t = hexOf h :: r := by
  cases t with
  | nil => simp [digL] at e
  | cons x r =>
    simp only [digL] at e
    by_cases hx : hexIx x < 0
    · rw [if_pos hx] at e; cases e
    · rw [if_neg hx] at e
      have e' := Option.some.inj e
      have := hexIx_lt x
      exact ⟨by omega, r, by rw [hexOf_ix x (by omega), e']⟩
theorem digL_none {x : UInt8} {r : List UInt8} (e : digL (x :: r) = none) (h : Nat) (a : h < 16) : hexOf h ≠ x := by
  rintro rfl
  rw [digL_of h a] at e; cases e
theorem num_15 (c : UInt8) : numB (c.toNat : Int) = true → numB (16 * ((c.toNat / 16 : Nat) : Int) + 15) = true := by
  revert c; apply all256; decide +kernel
theorem num_qr (c : UInt8) : 16 * ((c.toNat / 16 : Nat) : Int) + ((c.toNat % 16 : Nat) : Int) = c.toNat := by omega
theorem hexOf_inj {a b : Nat} (ha : a < 16) (hb : b < 16) (h : hexOf a = hexOf b) : a = b := by
  have e := hexIx_of a ha
  rw [h, hexIx_of b hb] at e
  omega
/-- the forms, case by case -/
theorem form_cases (c : UInt8) : ((c.toNat = 34 ∨ c.toNat = 92) ∧ form c = [92, c]) ∨ (c.toNat = 10 ∧ form c = [92, 110]) ∨
    (numB (c.toNat : Int) = true ∧ form c = [92, 120, hexOf (c.toNat / 16), hexOf (c.toNat % 16)]) ∨ (c.toNat ≠ 34 ∧ c.toNat ≠ 92 ∧ c.toNat ≠ 10 ∧ numB (c.toNat : Int) = false ∧ form c = [c]) := by
  unfold form
  split
  · exact .inl ⟨by assumption, rfl⟩
  · split
    · exact .inr (.inl ⟨by assumption, rfl⟩)
    · split
      · exact .inr (.inr (.inl ⟨by assumption, rfl⟩))
      · rename_i h1 h2 h3
        exact .inr (.inr (.inr ⟨by omega, by omega, h2, by simpa using h3, rfl⟩))
/-- A FORM THAT STANDS THERE is what is read. -/
theorem step_of_form (c : UInt8) (t : List UInt8) : stepL (form c ++ t) = ((form c).length, some c.toNat) := by
  rcases form_cases c with ⟨h, e⟩ | ⟨h, e⟩ | ⟨h, e⟩ | ⟨h1, h2, h3, h4, e⟩
  · rw [e]
    show stepL (92 :: c :: t) = _
    simp [stepL, escL, h]
  · rw [e]
    show stepL (92 :: 110 :: t) = _
    simp [stepL, escL, h]
  · rw [e]
    show stepL (92 :: 120 :: hexOf (c.toNat / 16) :: hexOf (c.toNat % 16) :: t) = _
    have hc := c.toNat_lt
    have n15 := num_15 c h
    have nqr := num_qr c
    have hn : numL (hexOf (c.toNat / 16) :: hexOf (c.toNat % 16) :: t) = (2, some c.toNat) := by
      unfold numL
      rw [digL_of _ (by omega)]
      simp only [List.tail_cons]
      rw [digL_of _ (by omega)]
      simp only
      rw [if_pos n15, nqr, if_pos h]
      congr 2
      omega
    simp [stepL, escL, hn]
  · rw [e]
    show stepL (c :: t) = _
    simp [stepL, h2, h3, h4]
/-- WHAT IS READ is a form that stands there. -/
theorem form_of_step {r : List UInt8} {n b : Nat} (hq : ∀ x t, r = x :: t → x.toNat ≠ 34) (h : stepL r = (n, some b)) : ∃ t, r = form (UInt8.ofNat b) ++ t := by
  cases r with
  | nil => simp [stepL] at h
  | cons x t =>
    simp only [stepL] at h
    split at h
    · rename_i hx
      obtain rfl : x = 92 := UInt8.toNat_inj.1 hx
      cases t with
      | nil => simp [escL] at h
      | cons y u =>
        simp only [escL] at h
        split at h
        · rename_i hy
          simp only [Prod.mk.injEq, Option.some.injEq] at h
          obtain ⟨_, rfl⟩ := h
          refine ⟨u, ?_⟩
          have : UInt8.ofNat y.toNat = y := by simp
          rw [this]; unfold form; rw [if_pos hy]; rfl
        · split at h
          · rename_i hy
            obtain rfl : y = 110 := UInt8.toNat_inj.1 hy
            simp only [Prod.mk.injEq, Option.some.injEq] at h
            obtain ⟨_, rfl⟩ := h
            exact ⟨u, rfl⟩
          · split at h
            · rename_i hy
              obtain rfl : y = 120 := UInt8.toNat_inj.1 hy
              simp only [Prod.mk.injEq] at h
              obtain ⟨_, h⟩ := h
              unfold numL at h
              cases h1 : digL u with
              | none => rw [h1] at h; simp at h
              | some a =>
                rw [h1] at h
                obtain ⟨ha, v, rfl⟩ := digL_some h1
                simp only [List.tail_cons] at h
                split at h
                · cases h2 : digL v with
                  | none => rw [h2] at h; simp at h
                  | some l =>
                    rw [h2] at h
                    obtain ⟨hl, z, rfl⟩ := digL_some h2
                    simp only at h
                    split at h
                    · rename_i hnum
                      simp only [Option.some.injEq] at h
                      subst h
                      refine ⟨z, ?_⟩
                      have e1 : (UInt8.ofNat (16 * a + l)).toNat = 16 * a + l := by simp; omega
                      have hn : numB ((UInt8.ofNat (16 * a + l)).toNat : Int) = true := by rw [e1]; simpa using hnum
                      rcases form_cases (UInt8.ofNat (16 * a + l)) with ⟨h, e⟩ | ⟨h, e⟩ | ⟨h, e⟩ | ⟨k1, k2, k3, k4, e⟩
                      · exfalso; rw [e1] at h hn; rcases h with h | h <;> (rw [h] at hn; revert hn; decide)
                      · exfalso; rw [e1] at h hn; rw [h] at hn; revert hn; decide
                      · rw [e, e1]
                        have q : (16 * a + l) / 16 = a := by omega
                        have r : (16 * a + l) % 16 = l := by omega
                        rw [q, r]; rfl
                      · rw [k4] at hn; cases hn
                    · simp at h
                · simp at h
            · simp at h
    · split at h
      · simp at h
      · rename_i h1 h2
        simp only [Prod.mk.injEq, Option.some.injEq] at h
        obtain ⟨_, rfl⟩ := h
        have e : UInt8.ofNat x.toNat = x := by simp
        rw [e]
        rcases form_cases x with ⟨h, e⟩ | ⟨h, e⟩ | ⟨h, e⟩ | ⟨k1, k2, k3, k4, e⟩
        · exact absurd h (by rintro (h | h); exact hq x t rfl h; exact h1 h)
        · exact absurd (Or.inr h) h2
        · exact absurd (Or.inl h) h2
        · exact ⟨t, by rw [e]; rfl⟩
theorem common_ne {a b : UInt8} {l r : List UInt8} (h : a ≠ b) : common (a :: l) (b :: r) = 0 := by simp only [common]; rw [if_neg h]
theorem common_eq (a : UInt8) (l r : List UInt8) : common (a :: l) (a :: r) = common l r + 1 := by simp [common]
theorem ne_of_toNat {a b : UInt8} (h : a.toNat ≠ b.toNat) : a ≠ b := fun e => h (by rw [e])
/-- NO FORM GOES FARTHER than the reading does. -/
theorem far_le {r : List UInt8} {n : Nat} (h : stepL r = (n, none)) (c : UInt8) : common (form c) r ≤ n := by
  cases r with
  | nil => rw [common_nil_right]; omega
  | cons x t =>
    simp only [stepL] at h
    split at h
    · rename_i hx
      obtain rfl : x = 92 := UInt8.toNat_inj.1 hx
      simp only [Prod.mk.injEq] at h
      obtain ⟨rfl, h⟩ := h
      have key : ∀ l, form c = 92 :: l → common l t ≤ (escL t).1 → common (form c) (92 :: t) ≤ 1 + (escL t).1 := by
        intro l e hl; rw [e, common_eq]; omega
      cases t with
      | nil =>
        have := common_le_right (form c) [92]
        simp at this; omega
      | cons y u =>
        simp only [escL] at h ⊢
        split at h
        · simp at h
        · rename_i hy
          split at h
          · simp at h
          · rename_i hy2
            simp only [escL, if_neg hy, if_neg hy2] at key
            rw [if_neg hy, if_neg hy2]
            have hnine : common [92, c] (92 :: y :: u) ≤ 1 ∨ c = y := by
              by_cases e : c = y
              · exact .inr e
              · left; rw [common_eq, common_ne e]; omega
            rcases form_cases c with ⟨h1, e⟩ | ⟨h1, e⟩ | ⟨h1, e⟩ | ⟨k1, k2, k3, k4, e⟩
            · rw [e]
              rcases hnine with h | rfl
              · split <;> omega
              · exact absurd h1 hy
            · rw [e, common_eq, common_ne (ne_of_toNat (fun e => hy2 (by rw [← e]; rfl)))]; omega
            · split at h
              · rename_i hy3
                obtain rfl : y = 120 := UInt8.toNat_inj.1 hy3
                simp only at h
                rw [e, common_eq, common_eq, if_pos hy3]
                simp only
                have hc := c.toNat_lt
                have n15 := num_15 c h1
                unfold numL at h ⊢
                cases g1 : digL u with
                | none =>
                  simp only
                  cases u with
                  | nil => rw [common_nil_right]; omega
                  | cons z v => rw [common_ne (digL_none g1 _ (by omega))]; omega
                | some a =>
                  obtain ⟨ha, v, rfl⟩ := digL_some g1
                  rw [g1] at h
                  simp only [List.tail_cons] at h ⊢
                  by_cases e1 : c.toNat / 16 = a
                  · rw [e1] at n15 ⊢
                    rw [if_pos n15] at h ⊢
                    rw [common_eq]
                    cases g2 : digL v with
                    | none =>
                      simp only
                      cases v with
                      | nil => rw [common_nil_right]; omega
                      | cons z v => rw [common_ne (digL_none g2 _ (by omega))]; omega
                    | some l =>
                      obtain ⟨hl, v, rfl⟩ := digL_some g2
                      rw [g2] at h
                      simp only at h ⊢
                      by_cases e2 : c.toNat % 16 = l
                      · have e3 : 16 * (a : Int) + l = c.toNat := by omega
                        rw [e3, if_pos h1] at h
                        simp at h
                      · rw [common_ne (fun e => e2 (hexOf_inj (by omega) hl e))]
                        split <;> simp only <;> omega
                  · rw [common_ne (fun e => e1 (hexOf_inj (by omega) ha e))]
                    split
                    · split
                      · simp only; omega
                      · split <;> simp only <;> omega
                    · simp only; omega
              · rename_i hy3
                rw [e, common_eq, common_ne (ne_of_toNat (fun e => hy3 (by rw [← e]; rfl)))]; omega
            · rw [e, common_ne (ne_of_toNat k2)]; omega
    · split at h
      · rename_i hx hx2
        rcases form_cases c with ⟨h1, e⟩ | ⟨h1, e⟩ | ⟨h1, e⟩ | ⟨k1, k2, k3, k4, e⟩
        · rw [e, common_ne (ne_of_toNat (fun e => hx (by rw [← e]; rfl)))]; omega
        · rw [e, common_ne (ne_of_toNat (fun e => hx (by rw [← e]; rfl)))]; omega
        · rw [e, common_ne (ne_of_toNat (fun e => hx (by rw [← e]; rfl)))]; omega
        · rw [e]
          by_cases hcx : c = x
          · subst hcx
            rcases hx2 with h | h
            · rw [k4] at h; cases h
            · exact absurd h k3
          · rw [common_ne hcx]; omega
      · simp at h
theorem num_form (h : Nat) (a : h < 16) (hn : numB (16 * (h : Int) + 15) = true) : form (UInt8.ofNat (16 * h + 15)) = [92, 120, hexOf h, hexOf 15] := by
  have : ∀ h : Fin 16, numB (16 * (h.val : Int) + 15) = true → form (UInt8.ofNat (16 * h.val + 15)) = [92, 120, hexOf h.val, hexOf 15] := by decide +kernel
  exact this ⟨h, a⟩ hn
/-- SOME FORM GOES AS FAR as the reading does. -/
theorem far_ge {r : List UInt8} {n : Nat} (h : stepL r = (n, none)) : ∃ c : UInt8, n ≤ common (form c) r := by
  cases r with
  | nil => simp [stepL] at h; subst h; exact ⟨0, by omega⟩
  | cons x t =>
    simp only [stepL] at h
    split at h
    · rename_i hx
      obtain rfl : x = 92 := UInt8.toNat_inj.1 hx
      simp only [Prod.mk.injEq] at h
      obtain ⟨rfl, h⟩ := h
      cases t with
      | nil => exact ⟨34, by decide⟩
      | cons y u =>
        simp only [escL] at h ⊢
        by_cases hy : y.toNat = 34 ∨ y.toNat = 92
        · rw [if_pos hy] at h; simp at h
        · rw [if_neg hy] at h ⊢
          by_cases hy2 : y.toNat = 110
          · rw [if_pos hy2] at h; simp at h
          · rw [if_neg hy2] at h ⊢
            by_cases hy3 : y.toNat = 120
            · rw [if_pos hy3] at h ⊢
              obtain rfl : y = 120 := UInt8.toNat_inj.1 hy3
              simp only at h ⊢
              have e0 : form 0 = [92, 120, 48, 48] := by decide
              unfold numL at h ⊢
              cases g1 : digL u with
              | none => exact ⟨0, by simp only; rw [e0, common_eq, common_eq]; omega⟩
              | some a =>
                obtain ⟨ha, v, rfl⟩ := digL_some g1
                rw [g1] at h
                simp only [List.tail_cons] at h ⊢
                cases hn : numB (16 * (a : Int) + 15) with
                | false => exact ⟨0, by rw [e0, common_eq, common_eq]; simp⟩
                | true =>
                  rw [hn] at h
                  have ef := num_form a ha hn
                  refine ⟨UInt8.ofNat (16 * a + 15), ?_⟩
                  rw [ef, common_eq, common_eq, common_eq]
                  simp only [if_true] at h ⊢
                  cases g2 : digL v with
                  | none => simp only; omega
                  | some l =>
                    rw [g2] at h
                    simp only at h ⊢
                    split at h
                    · simp at h
                    · rename_i hm; rw [if_neg hm]; simp only; omega
            · rw [if_neg hy3]
              refine ⟨34, ?_⟩
              have e34 : form 34 = [92, 34] := by decide
              rw [e34, common_eq]; simp only; omega
    · split at h
      · simp only [Prod.mk.injEq] at h; obtain ⟨rfl, _⟩ := h; exact ⟨0, by omega⟩
      · simp at h
/-- the farthest of the first m bytes' forms -/
def maxFar (r : List UInt8) : Nat → Nat
  | 0 => 0
  | m + 1 => max (maxFar r m) (common (form (UInt8.ofNat m)) r)
theorem maxFar_ge (r : List UInt8) : ∀ (m c : Nat), c < m → common (form (UInt8.ofNat c)) r ≤ maxFar r m
  | 0, _, h => by omega
  | m + 1, c, h => by
    simp only [maxFar]
    by_cases e : c = m
    · subst e; omega
    · have := maxFar_ge r m c (by omega); omega
theorem maxFar_le (r : List UInt8) (n : Nat) (h : ∀ c : UInt8, common (form c) r ≤ n) : ∀ m, maxFar r m ≤ n
  | 0 => by simp [maxFar]
  | m + 1 => by
    simp only [maxFar]
    have := maxFar_le r n h m
    have := h (UInt8.ofNat m)
    omega
theorem maxFar_all {r : List UInt8} {n : Nat} (h : stepL r = (n, none)) : maxFar r 256 = n := by
  have a := maxFar_le r n (far_le h) 256
  obtain ⟨c, hc⟩ := far_ge h
  have b := maxFar_ge r 256 c.toNat (by have := c.toNat_lt; omega)
  have e : UInt8.ofNat c.toNat = c := by simp
  rw [e] at b
  omega
theorem maxFar_small (r : List UInt8) : ∀ m, maxFar r m ≤ 4
  | 0 => by simp [maxFar]
  | m + 1 => by
    simp only [maxFar]
    have := maxFar_small r m
    have := common_le_left (form (UInt8.ofNat m)) r
    have := form_length (UInt8.ofNat m)
    omega
/-- all of a form is common: the form stands there -/
theorem common_all : ∀ (l r : List UInt8), common l r = l.length → ∃ t, r = l ++ t
  | [], r, _ => ⟨r, rfl⟩
  | a :: l, [], h => by simp [common] at h
  | a :: l, b :: r, h => by
    simp only [common] at h
    split at h
    · rename_i e
      subst e
      obtain ⟨t, ht⟩ := common_all l r (by simpa using h)
      exact ⟨t, by rw [ht]; rfl⟩
    · simp at h
theorem common_self : ∀ (l t : List UInt8), common l (l ++ t) = l.length
  | [], t => by simp [common]
  | a :: l, t => by simp [common, common_self l t]
end Go.Proofs.YtckfcpiedainfaaGreatDoor
