/-
  PLAIN LISTS AND NUMBERS for layer 1: hex digits, the forms of bytes. No program stands in it.
  PLAIN: names, letters, digits. No program stands in it.
  PLAIN LISTS: the search over all 256 forms finds what the two digits' reading finds. No program stands in it.
  PLAIN: how a text in quotes is scanned, in lists: there and back, and where it stops. No program stands in it.
  PLAIN: tokens: how far a shape goes, one token at a time, a text's tokens. No program stands in it.
-/
import Derived.Lib.Bytealg
import Derived.Lib.Hide
import Derived.Lib.Strings
import Derived.Lib.ItoaNum
import Derived.Lib.ParseIntB
import Derived.Lib.ItoaMem
import Derived.Lib.ParseIntBTie
namespace Go.Proofs.YtjlpoigcalfdlaaDoor
open Go
set_option linter.unusedVariables false
def hexes : List UInt8 := [48, 49, 50, 51, 52, 53, 54, 55, 56, 57, 97, 98, 99, 100, 101, 102]
/-- the place of a byte among the hex digits, or -1 -/
def hexIx (c : UInt8) : Int := Lib.indexByte hexes c
/-- is a byte's form by its number? -/
def numB (n : Int) : Bool := (decide (n < 32) || decide (126 < n)) && n != 10
/-- a hex digit's byte -/
def hexOf (n : Nat) : UInt8 := hexes.getD n 0
/-- a byte's form -/
def form (c : UInt8) : List UInt8 :=
  if c.toNat = 34 ∨ c.toNat = 92 then [92, c]
  else if c.toNat = 10 then [92, 110]
  else if numB (c.toNat : Int) then [92, 120, hexOf (c.toNat / 16), hexOf (c.toNat % 16)]
  else [c]
/-- a text in quotes -/
def quote (l : List UInt8) : List UInt8 := 34 :: l.flatMap form ++ [34]
theorem form_length (c : UInt8) : 1 ≤ (form c).length ∧ (form c).length ≤ 4 := by
  unfold form
  split
  · simp
  · split
    · simp
    · split <;> simp
theorem flat_length (l : List UInt8) : (l.flatMap form).length ≤ 4 * l.length := by
  induction l with
  | nil => simp
  | cons c l ih =>
    rw [List.flatMap_cons, List.length_append, List.length_cons]
    have := form_length c
    omega
theorem all256 {P : UInt8 → Prop} (h : ∀ n : Fin 256, P (UInt8.ofNat n.val)) (c : UInt8) : P c := by
  have := h ⟨c.toNat, c.toNat_lt⟩
  simpa using this
theorem hexIx_lt (c : UInt8) : hexIx c < 16 := by
  revert c; apply all256; decide +kernel
end Go.Proofs.YtjlpoigcalfdlaaDoor
namespace Go.Proofs.YtjlpoigcalfdlaaDoor
open Go
set_option linter.unusedVariables false
def letB (n : Int) : Bool := decide (65 ≤ n ∧ n ≤ 90) || decide (97 ≤ n ∧ n ≤ 122)
def innB (n : Int) : Bool := letB n || decide (48 ≤ n ∧ n ≤ 57) || n == 95
def innC (c : UInt8) : Bool := innB (c.toNat : Int)
/-- a name -/
def right : List UInt8 → Bool
  | [] => false
  | c :: r => decide (r.length < 32) && letB (c.toNat : Int) && r.all innC
/-- the number that a text is of, if it is an int's text -/
def intT (l : List UInt8) : Option Int :=
  match Lib.parseIntB 64 l with
  | .ok v => if Lib.itoa v = l then some v else none
  | _ => none
end Go.Proofs.YtjlpoigcalfdlaaDoor
namespace Go.Proofs.YtjlpoigcalfdlaaDoor
open Go
set_option linter.unusedVariables false
def common : List UInt8 → List UInt8 → Nat
  | a :: l, b :: r => if a = b then common l r + 1 else 0
  | _, _ => 0
theorem common_nil_right (l : List UInt8) : common l [] = 0 := by cases l <;> rfl
theorem common_le_left : ∀ (l r : List UInt8), common l r ≤ l.length
  | [], r => by simp [common]
  | a :: l, [] => by simp [common]
  | a :: l, b :: r => by
    simp only [common]
    split
    · have := common_le_left l r; simp; omega
    · simp
theorem common_take : ∀ (l r : List UInt8) (m : Nat), l.length ≤ m → common l (r.take m) = common l r
  | [], r, m, _ => by simp [common]
  | a :: l, [], m, _ => by simp
  | a :: l, b :: r, 0, h => by simp at h
  | a :: l, b :: r, m + 1, h => by
    simp only [List.take_succ_cons, common]
    rw [common_take l r m (by simpa using h)]
theorem common_step {A B : List UInt8} {k : Nat} (h : common A B = k + common (A.drop k) (B.drop k)) (ha : k < A.length) (hb : k < B.length) (e : A[k] = B[k]) :
    common A B = k + 1 + common (A.drop (k + 1)) (B.drop (k + 1)) := by
  rw [List.drop_eq_getElem_cons ha, List.drop_eq_getElem_cons hb, common, if_pos e] at h
  omega
theorem common_stop {A B : List UInt8} {k : Nat} (h : common A B = k + common (A.drop k) (B.drop k)) (hs : ¬ (k < A.length ∧ k < B.length) ∨ ∃ (ha : k < A.length) (hb : k < B.length), A[k] ≠ B[k]) : common A B = k := by
  rcases hs with hs | ⟨ha, hb, hne⟩
  · by_cases ha : k < A.length
    · have : B.drop k = [] := List.drop_eq_nil_of_le (by omega)
      rw [this, common_nil_right] at h; omega
    · have : A.drop k = [] := List.drop_eq_nil_of_le (by omega)
      rw [this] at h; simpa [common] using h
  · rw [List.drop_eq_getElem_cons ha, List.drop_eq_getElem_cons hb, common, if_neg hne] at h
    omega
def digL : List UInt8 → Option Nat
  | [] => none
  | x :: _ => if hexIx x < 0 then none else some (hexIx x).toNat
def numL (t : List UInt8) : Nat × Option Nat :=
  match digL t with
  | none => (0, none)
  | some h => if numB (16 * h + 15) then
      match digL t.tail with
      | none => (1, none)
      | some l => if numB (16 * h + l) then (2, some (16 * h + l)) else (1, none)
    else (0, none)
def escL : List UInt8 → Nat × Option Nat
  | [] => (0, none)
  | x :: t =>
    if x.toNat = 34 ∨ x.toNat = 92 then (1, some x.toNat)
    else if x.toNat = 110 then (1, some 10)
    else if x.toNat = 120 then (1 + (numL t).1, (numL t).2)
    else (0, none)
def stepL : List UInt8 → Nat × Option Nat
  | [] => (0, none)
  | x :: t =>
    if x.toNat = 92 then (1 + (escL t).1, (escL t).2)
    else if numB (x.toNat : Int) = true ∨ x.toNat = 10 then (0, none)
    else (1, some x.toNat)
theorem drop_get (s : ByteArray) (k : Nat) (h : k < s.size) : s.data.toList.drop k = s[k] :: s.data.toList.drop (k + 1) := by
  rw [List.drop_eq_getElem_cons (by simpa using h)]; rfl
theorem drop_none (s : ByteArray) (k : Nat) (h : ¬ k < s.size) : s.data.toList.drop k = [] :=
  List.drop_eq_nil_of_le (by rw [Array.length_toList]; exact Nat.le_of_not_lt h)
theorem hexIx_of (h : Nat) (a : h < 16) : hexIx (hexOf h) = h := by
  have : ∀ h : Fin 16, hexIx (hexOf h.val) = h.val := by decide +kernel
  exact this ⟨h, a⟩
theorem hexOf_ix (x : UInt8) : 0 ≤ hexIx x → x = hexOf (hexIx x).toNat := by
  revert x; apply all256; decide +kernel
theorem digL_of (h : Nat) (a : h < 16) (t : List UInt8) : digL (hexOf h :: t) = some h := by
  simp only [digL]; rw [hexIx_of h a, if_neg (by omega)]; simp
theorem digL_some {t : List UInt8} {h : Nat} (e : digL t = some h) : h < 16 ∧ ∃ r, t = hexOf h :: r := by
  cases t with
  | nil => simp [digL] at e
  | cons x r =>
    simp only [digL] at e
    by_cases hx : hexIx x < 0
    · rw [if_pos hx] at e; cases e
    · rw [if_neg hx] at e
      have e' := Option.some.inj e
      have := hexIx_lt x
      exact ⟨by omega, r, by rw [hexOf_ix x (by omega), e']⟩
theorem num_15 (c : UInt8) : numB (c.toNat : Int) = true → numB (16 * ((c.toNat / 16 : Nat) : Int) + 15) = true := by
  revert c; apply all256; decide +kernel
theorem num_qr (c : UInt8) : 16 * ((c.toNat / 16 : Nat) : Int) + ((c.toNat % 16 : Nat) : Int) = c.toNat := by omega
/-- the forms, case by case -/
theorem form_cases (c : UInt8) : ((c.toNat = 34 ∨ c.toNat = 92) ∧ form c = [92, c]) ∨ (c.toNat = 10 ∧ form c = [92, 110]) ∨
    (numB (c.toNat : Int) = true ∧ form c = [92, 120, hexOf (c.toNat / 16), hexOf (c.toNat % 16)]) ∨ (c.toNat ≠ 34 ∧ c.toNat ≠ 92 ∧ c.toNat ≠ 10 ∧ numB (c.toNat : Int) = false ∧ form c = [c]) := by
  unfold form
  split
  · exact .inl ⟨by assumption, rfl⟩
  · split
    · exact .inr (.inl ⟨by assumption, rfl⟩)
    · split
      · exact .inr (.inr (.inl ⟨by assumption, rfl⟩))
      · rename_i h1 h2 h3
        exact .inr (.inr (.inr ⟨by omega, by omega, h2, by simpa using h3, rfl⟩))
/-- A FORM THAT STANDS THERE is what is read. -/
theorem step_of_form (c : UInt8) (t : List UInt8) : stepL (form c ++ t) = ((form c).length, some c.toNat) := by
  rcases form_cases c with ⟨h, e⟩ | ⟨h, e⟩ | ⟨h, e⟩ | ⟨h1, h2, h3, h4, e⟩
  · rw [e]
    show stepL (92 :: c :: t) = _
    simp [stepL, escL, h]
  · rw [e]
    show stepL (92 :: 110 :: t) = _
    simp [stepL, escL, h]
  · rw [e]
    show stepL (92 :: 120 :: hexOf (c.toNat / 16) :: hexOf (c.toNat % 16) :: t) = _
    have hc := c.toNat_lt
    have n15 := num_15 c h
    have nqr := num_qr c
    have hn : numL (hexOf (c.toNat / 16) :: hexOf (c.toNat % 16) :: t) = (2, some c.toNat) := by
      unfold numL
      rw [digL_of _ (by omega)]
      simp only [List.tail_cons]
      rw [digL_of _ (by omega)]
      simp only
      rw [if_pos n15, nqr, if_pos h]
      congr 2
      omega
    simp [stepL, escL, hn]
  · rw [e]
    show stepL (c :: t) = _
    simp [stepL, h2, h3, h4]
/-- WHAT IS READ is a form that stands there. -/
theorem form_of_step {r : List UInt8} {n b : Nat} (hq : ∀ x t, r = x :: t → x.toNat ≠ 34) (h : stepL r = (n, some b)) : ∃ t, r = form (UInt8.ofNat b) ++ t := by
  cases r with
  | nil => simp [stepL] at h
  | cons x t =>
    simp only [stepL] at h
    split at h
    · rename_i hx
      obtain rfl : x = 92 := UInt8.toNat_inj.1 hx
      cases t with
      | nil => simp [escL] at h
      | cons y u =>
        simp only [escL] at h
        split at h
        · rename_i hy
          simp only [Prod.mk.injEq, Option.some.injEq] at h
          obtain ⟨_, rfl⟩ := h
          refine ⟨u, ?_⟩
          have : UInt8.ofNat y.toNat = y := by simp
          rw [this]; unfold form; rw [if_pos hy]; rfl
        · split at h
          · rename_i hy
            obtain rfl : y = 110 := UInt8.toNat_inj.1 hy
            simp only [Prod.mk.injEq, Option.some.injEq] at h
            obtain ⟨_, rfl⟩ := h
            exact ⟨u, rfl⟩
          · split at h
            · rename_i hy
              obtain rfl : y = 120 := UInt8.toNat_inj.1 hy
              simp only [Prod.mk.injEq] at h
              obtain ⟨_, h⟩ := h
              unfold numL at h
              cases h1 : digL u with
              | none => rw [h1] at h; simp at h
              | some a =>
                rw [h1] at h
                obtain ⟨ha, v, rfl⟩ := digL_some h1
                simp only [List.tail_cons] at h
                split at h
                · cases h2 : digL v with
                  | none => rw [h2] at h; simp at h
                  | some l =>
                    rw [h2] at h
                    obtain ⟨hl, z, rfl⟩ := digL_some h2
                    simp only at h
                    split at h
                    · rename_i hnum
                      simp only [Option.some.injEq] at h
                      subst h
                      refine ⟨z, ?_⟩
                      have e1 : (UInt8.ofNat (16 * a + l)).toNat = 16 * a + l := by simp; omega
                      have hn : numB ((UInt8.ofNat (16 * a + l)).toNat : Int) = true := by rw [e1]; simpa using hnum
                      rcases form_cases (UInt8.ofNat (16 * a + l)) with ⟨h, e⟩ | ⟨h, e⟩ | ⟨h, e⟩ | ⟨k1, k2, k3, k4, e⟩
                      · exfalso; rw [e1] at h hn; rcases h with h | h <;> (rw [h] at hn; revert hn; decide)
                      · exfalso; rw [e1] at h hn; rw [h] at hn; revert hn; decide
                      · rw [e, e1]
                        have q : (16 * a + l) / 16 = a := by omega
                        have r : (16 * a + l) % 16 = l := by omega
                        rw [q, r]; rfl
                      · rw [k4] at hn; cases hn
                    · simp at h
                · simp at h
            · simp at h
    · split at h
      · simp at h
      · rename_i h1 h2
        simp only [Prod.mk.injEq, Option.some.injEq] at h
        obtain ⟨_, rfl⟩ := h
        have e : UInt8.ofNat x.toNat = x := by simp
        rw [e]
        rcases form_cases x with ⟨h, e⟩ | ⟨h, e⟩ | ⟨h, e⟩ | ⟨k1, k2, k3, k4, e⟩
        · exact absurd h (by rintro (h | h); exact hq x t rfl h; exact h1 h)
        · exact absurd (Or.inr h) h2
        · exact absurd (Or.inl h) h2
        · exact ⟨t, by rw [e]; rfl⟩
theorem common_ne {a b : UInt8} {l r : List UInt8} (h : a ≠ b) : common (a :: l) (b :: r) = 0 := by simp only [common]; rw [if_neg h]
end Go.Proofs.YtjlpoigcalfdlaaDoor
namespace Go.Proofs.YtjlpoigcalfdlaaDoor
open Go
set_option linter.unusedVariables false
theorem stepL_some {r : List UInt8} {m b : Nat} (h : stepL r = (m, some b)) : 1 ≤ m ∧ r ≠ [] := by
  cases r with
  | nil => simp [stepL] at h
  | cons x t =>
    simp only [stepL] at h
    split at h
    · simp only [Prod.mk.injEq] at h; exact ⟨by omega, by simp⟩
    · split at h
      · simp at h
      · simp only [Prod.mk.injEq] at h; exact ⟨by omega, by simp⟩
def scanL (r : List UInt8) : Option (List UInt8) × Nat :=
  if r = [] then (none, 0)
  else if r.head? = some 34 then (some [], 1)
  else match hs : stepL r with
    | (m, some b) => ((scanL (r.drop m)).1.map (UInt8.ofNat b :: ·), m + (scanL (r.drop m)).2)
    | (m, none) => (none, m)
termination_by r.length
decreasing_by all_goals (have h := stepL_some hs; rw [List.length_drop]; have : 0 < r.length := List.length_pos_iff.2 h.2; omega)
theorem scanL_nil : scanL [] = (none, 0) := by rw [scanL, if_pos rfl]
theorem scanL_quote (v : List UInt8) : scanL (34 :: v) = (some [], 1) := by rw [scanL, if_neg (by simp), if_pos (by simp)]
theorem scanL_some {r : List UInt8} {m b : Nat} (h34 : r.head? ≠ some 34) (h : stepL r = (m, some b)) : scanL r = ((scanL (r.drop m)).1.map (UInt8.ofNat b :: ·), m + (scanL (r.drop m)).2) := by
  rw [scanL, if_neg (stepL_some h).2, if_neg h34]
  split
  · rename_i m' b' hq
    rw [h] at hq
    simp only [Prod.mk.injEq, Option.some.injEq] at hq
    obtain ⟨rfl, rfl⟩ := hq
    rfl
  · rename_i m' hq
    rw [h] at hq; simp at hq
theorem scanL_stop {r : List UInt8} {m : Nat} (hne : r ≠ []) (h34 : r.head? ≠ some 34) (h : stepL r = (m, none)) : scanL r = (none, m) := by
  rw [scanL, if_neg hne, if_neg h34]
  split
  · rename_i m' b' hq
    rw [h] at hq; simp at hq
  · rename_i m' hq
    rw [h] at hq
    simp only [Prod.mk.injEq] at hq
    rw [hq.1]
theorem form_head (c : UInt8) (v : List UInt8) : (form c ++ v).head? ≠ some 34 := by
  rcases form_cases c with ⟨h, e⟩ | ⟨h, e⟩ | ⟨h, e⟩ | ⟨h1, h2, h3, h4, e⟩
  · rw [e]; simp
  · rw [e]; simp
  · rw [e]; simp
  · rw [e]; simp; intro hc; exact h1 (by rw [hc]; rfl)
theorem scanL_form (c : UInt8) (v : List UInt8) : scanL (form c ++ v) = ((scanL v).1.map (c :: ·), (form c).length + (scanL v).2) := by
  have h := scanL_some (form_head c v) (step_of_form c v)
  rw [h, List.drop_left]
  have e : UInt8.ofNat c.toNat = c := by simp
  rw [e]
/-- each text begins in one of four ways -/
theorem scan_ways (r : List UInt8) : r = [] ∨ (∃ v, r = 34 :: v) ∨ (∃ c v, r = form c ++ v) ∨ (r ≠ [] ∧ r.head? ≠ some 34 ∧ ∃ m, stepL r = (m, none)) := by
  by_cases h0 : r = []
  · exact .inl h0
  · by_cases h34 : r.head? = some 34
    · right; left
      cases r with
      | nil => exact absurd rfl h0
      | cons x t => simp at h34; exact ⟨t, by rw [h34]⟩
    · right; right
      rcases hs : stepL r with ⟨m, o⟩
      cases o with
      | none => exact .inr ⟨h0, h34, m, rfl⟩
      | some b =>
        left
        obtain ⟨t, ht⟩ := form_of_step (fun x t e => by
          rw [e] at h34; simp at h34
          intro hx; exact h34 (UInt8.toNat_inj.1 hx)) hs
        exact ⟨_, t, ht⟩
/-- what is read has just those quotes -/
theorem scanL_is : ∀ (k : Nat) (r l : List UInt8) (n : Nat), r.length ≤ k → scanL r = (some l, n) → r.take n = l.flatMap form ++ [34] ∧ n ≤ r.length := by
  intro k
  induction k with
  | zero =>
    intro r l n hk h
    obtain rfl : r = [] := List.length_eq_zero_iff.1 (by omega)
    rw [scanL_nil] at h; simp at h
  | succ k ih =>
    intro r l n hk h
    rcases scan_ways r with rfl | ⟨v, rfl⟩ | ⟨c, v, rfl⟩ | ⟨h0, h34, m, hm⟩
    · rw [scanL_nil] at h; simp at h
    · rw [scanL_quote] at h
      simp only [Prod.mk.injEq, Option.some.injEq] at h
      obtain ⟨rfl, rfl⟩ := h
      exact ⟨by simp, by simp⟩
    · rw [scanL_form] at h
      simp only [Prod.mk.injEq, Option.map_eq_some_iff] at h
      obtain ⟨⟨l', hl', rfl⟩, rfl⟩ := h
      have hf := form_length c
      have := ih v l' (scanL v).2 (by rw [List.length_append] at hk; omega) (by rw [← hl'])
      refine ⟨?_, by rw [List.length_append]; omega⟩
      rw [List.take_length_add_append, this.1]; simp
    · rw [scanL_stop h0 h34 hm] at h; simp at h
end Go.Proofs.YtjlpoigcalfdlaaDoor
namespace Go.Proofs.YtjlpoigcalfdlaaDoor
open Go
set_option linter.unusedVariables false
def farN (P : List UInt8 → Bool) (r : List UInt8) (n : Nat) : Nat :=
  if n < r.length ∧ P (r.take (n + 1)) = true then farN P r (n + 1) else n
termination_by r.length - n
decreasing_by omega
def far (P : List UInt8 → Bool) (r : List UInt8) : Nat := farN P r 0
structure FarIs (P : List UInt8 → Bool) (r : List UInt8) (n : Nat) : Prop where
  le : n ≤ r.length
  yes : ∀ k, k < n → P (r.take (k + 1)) = true
  no : n < r.length → P (r.take (n + 1)) = false
theorem farN_go {P : List UInt8 → Bool} {r : List UInt8} {n : Nat} (h : n < r.length) (hp : P (r.take (n + 1)) = true) : farN P r n = farN P r (n + 1) := by
  rw [farN, if_pos ⟨h, hp⟩]
theorem farN_end {P : List UInt8 → Bool} {r : List UInt8} {n : Nat} (h : ¬ n < r.length) : farN P r n = n := by
  rw [farN, if_neg (fun hc => h hc.1)]
theorem farN_no {P : List UInt8 → Bool} {r : List UInt8} {n : Nat} (h : P (r.take (n + 1)) = false) : farN P r n = n := by
  rw [farN, if_neg (fun hc => by rw [h] at hc; exact absurd hc.2 (by simp))]
theorem farN_is (P : List UInt8 → Bool) (r : List UInt8) : ∀ (d n : Nat), r.length - n ≤ d → n ≤ r.length → (∀ k, k < n → P (r.take (k + 1)) = true) → FarIs P r (farN P r n) := by
  intro d
  induction d with
  | zero =>
    intro n hd hn hy
    rw [farN_end (by omega)]
    exact ⟨hn, hy, fun h => absurd h (by omega)⟩
  | succ d ih =>
    intro n hd hn hy
    by_cases h : n < r.length
    · cases hp : P (r.take (n + 1)) with
      | true =>
        rw [farN_go h hp]
        refine ih (n + 1) (by omega) (by omega) fun k hk => ?_
        by_cases e : k = n
        · rw [e]; exact hp
        · exact hy k (by omega)
      | false => rw [farN_no hp]; exact ⟨hn, hy, fun _ => hp⟩
    · rw [farN_end h]; exact ⟨hn, hy, fun h' => absurd h' h⟩
theorem far_is (P : List UInt8 → Bool) (r : List UInt8) : FarIs P r (far P r) := farN_is P r _ 0 (Nat.le_refl _) (Nat.zero_le _) (fun k h => absurd h (by omega))
theorem FarIs.le_of {P : List UInt8 → Bool} {r : List UInt8} {n m : Nat} (h : FarIs P r n) (g : FarIs P r m) : m ≤ n := by
  by_cases hlt : n < m
  · have a := g.yes n hlt
    have b := h.no (by have := g.le; omega)
    rw [a] at b; cases b
  · omega
theorem FarIs.eq {P : List UInt8 → Bool} {r : List UInt8} {n : Nat} (h : FarIs P r n) : far P r = n := by
  have a := h.le_of (far_is P r)
  have b := (far_is P r).le_of h
  omega
def blank (c : UInt8) : Bool := c == 32 || c == 10
/-- r' begins with the first n bytes of r; behind them stands nothing, a blank, or what stands there in r -/
structure Ext (r r' : List UInt8) (n : Nat) : Prop where
  le : n ≤ r.length
  len : n ≤ r'.length
  front : r'.take n = r.take n
  next : ∀ c, (r'.drop n).head? = some c → blank c = true ∨ (r.drop n).head? = some c
theorem Ext.take {r r' : List UInt8} {n k : Nat} (h : Ext r r' n) (hk : k ≤ n) : r'.take k = r.take k := by
  have := congrArg (List.take k) h.front
  rwa [List.take_take, List.take_take, Nat.min_eq_left hk] at this
theorem Ext.app (a v : List UInt8) (r : List UInt8) (n : Nat) (ha : r.take n = a) (hn : n ≤ r.length) (hv : ∀ c, v.head? = some c → blank c = true ∨ (r.drop n).head? = some c) : Ext r (a ++ v) n := by
  have hl : a.length = n := by rw [← ha, List.length_take]; omega
  refine ⟨hn, by rw [List.length_append]; omega, ?_, ?_⟩
  · rw [← hl, List.take_left, hl, ha]
  · rw [← hl, List.drop_left, hl]; exact hv
def ba (l : List UInt8) : ByteArray := ⟨l.toArray⟩
def wordsL : List (List UInt8) := [[97, 110, 100], [97, 110, 121], [99, 111, 110, 99, 101, 112, 116], [101, 108, 115, 101], [101, 110, 100], [101, 118, 101, 114, 121], [102, 97, 108, 115, 101], [102, 105, 114, 115, 116], [105, 100], [105, 102], [105, 110], [105, 110, 116], [110, 111, 110, 101], [110, 111, 116], [111, 110, 108, 121], [111, 114], [115, 101, 108, 102], [115, 105, 122, 101], [115, 117, 109], [116, 101, 120, 116], [116, 104, 101, 110], [116, 114, 117, 101]]
def marksL : List (List UInt8) := [[46], [35], [45, 62], [94], [63], [33, 33], [40], [41], [43], [45], [42], [61, 61], [33, 61], [60], [60, 61], [58]]
def wordB (l : List UInt8) : Bool := wordsL.contains l
def markB (l : List UInt8) : Bool := marksL.contains l
def digP (l : List UInt8) : Bool := (intT l).isSome
def begM (l : List UInt8) : Bool := marksL.any (fun m => l.isPrefixOf m)
def apart : List UInt8 → Bool
  | [] => true
  | c :: _ => !innC c
def kindOf (l : List UInt8) : Int := if wordB l then 4 else 3
structure Tok where
  kind : Int
  text : ByteArray
  int : Int
  place : Int
def nameT (r : List UInt8) (n : Nat) : Option Tok × Nat := if apart (r.drop n) then (some ⟨kindOf (r.take n), ba (r.take n), 0, 0⟩, n) else (none, n)
def intTk (r : List UInt8) (n : Nat) : Option Tok × Nat := if apart (r.drop n) then (some ⟨1, ba [], (intT (r.take n)).getD 0, 0⟩, n) else (none, n)
def textT (t : List UInt8) : Option Tok × Nat :=
  match scanL t with
  | (some l, n) => (some ⟨2, ba l, 0, 0⟩, n + 1)
  | (none, n) => (none, n + 1)
def markT (r : List UInt8) (n : Nat) : Option Tok × Nat := if markB (r.take n) then (some ⟨5, ba (r.take n), 0, 0⟩, n) else (none, n)
/-- the token with which r begins, and its length; or none, and the place of the first wrong byte -/
def lexT (r : List UInt8) : Option Tok × Nat :=
  if 0 < far right r then nameT r (far right r)
  else if 0 < far digP r then intTk r (far digP r)
  else if r.head? = some 34 then textT r.tail
  else markT r (far begM r)
inductive Way (r : List UInt8) : Option Tok × Nat → Prop
  | name (n : Nat) : FarIs right r n → 0 < n → Way r (nameT r n)
  | int (n : Nat) : FarIs right r 0 → FarIs digP r n → 0 < n → Way r (intTk r n)
  | text (t : List UInt8) : FarIs right r 0 → FarIs digP r 0 → r = 34 :: t → Way r (textT t)
  | mark (n : Nat) : FarIs right r 0 → FarIs digP r 0 → r.head? ≠ some 34 → FarIs begM r n → Way r (markT r n)
theorem far_is0 {P : List UInt8 → Bool} {r : List UInt8} (h : ¬ 0 < far P r) : FarIs P r 0 := by
  have := far_is P r
  rwa [show far P r = 0 by omega] at this
theorem lexT_way (r : List UInt8) : Way r (lexT r) := by
  unfold lexT
  split
  · rename_i h; exact .name _ (far_is _ _) h
  · rename_i h1
    split
    · rename_i h; exact .int _ (far_is0 h1) (far_is _ _) h
    · rename_i h2
      split
      · rename_i h
        cases r with
        | nil => simp at h
        | cons c t => simp at h; subst h; exact .text t (far_is0 h1) (far_is0 h2) rfl
      · rename_i h; exact .mark _ (far_is0 h1) (far_is0 h2) h (far_is _ _)
theorem lexT_len {r : List UInt8} {k : Tok} {n : Nat} (h : lexT r = (some k, n)) : 0 < n ∧ n ≤ r.length := by
  have hw := lexT_way r
  generalize hq : lexT r = x at hw
  rw [hq] at h
  clear hq
  cases hw with
  | name m h1 h2 =>
    unfold nameT at h
    split at h
    · simp only [Prod.mk.injEq] at h; obtain ⟨_, rfl⟩ := h; exact ⟨h2, h1.le⟩
    · simp at h
  | int m h1 h2 h3 =>
    unfold intTk at h
    split at h
    · simp only [Prod.mk.injEq] at h; obtain ⟨_, rfl⟩ := h; exact ⟨h3, h2.le⟩
    · simp at h
  | text t h1 h2 h3 =>
    unfold textT at h
    split at h
    · rename_i l m hs
      simp only [Prod.mk.injEq] at h
      obtain ⟨_, rfl⟩ := h
      have := (scanL_is t.length t l m (Nat.le_refl _) hs).2
      rw [h3]; exact ⟨by omega, by simp; omega⟩
    · simp at h
  | mark m h1 h2 h3 h4 =>
    unfold markT at h
    split at h
    · rename_i hm
      simp only [Prod.mk.injEq] at h
      obtain ⟨_, rfl⟩ := h
      refine ⟨?_, h4.le⟩
      by_cases h0 : m = 0
      · subst h0; rw [List.take_zero] at hm; exact absurd hm (by decide)
      · omega
    · simp at h
def Tok.at (k : Tok) (p : Nat) : Tok := { k with place := (p : Int) }
theorem scanT_dec {c : UInt8} {t : List UInt8} {k : Tok} {n : Nat} (h : lexT (c :: t) = (some k, n)) : ((c :: t).drop n).length < (c :: t).length := by
  have := lexT_len h
  rw [List.length_drop]; omega
def scanT (p : Nat) (r : List UInt8) : Option (List Tok) × Nat :=
  match r with
  | [] => (some [], 0)
  | c :: t =>
    if blank c then scanT (p + 1) t
    else match h : lexT (c :: t) with
      | (some k, n) => match scanT (p + n) ((c :: t).drop n) with
        | (some l, _) => (some (k.at p :: l), 0)
        | (none, e) => (none, e)
      | (none, n) => (none, p + n)
termination_by r.length
decreasing_by
  · simp
  · exact scanT_dec h
theorem scanT_nil (p : Nat) : scanT p [] = (some [], 0) := by rw [scanT]
theorem scanT_blank {p : Nat} {c : UInt8} {t : List UInt8} (h : blank c = true) : scanT p (c :: t) = scanT (p + 1) t := by rw [scanT, if_pos h]
theorem scanT_bad {p n : Nat} {c : UInt8} {t : List UInt8} (hb : blank c = false) (h : lexT (c :: t) = (none, n)) : scanT p (c :: t) = (none, p + n) := by
  rw [scanT, if_neg (by rw [hb]; simp)]
  split
  · rename_i k m hq; rw [h] at hq; simp at hq
  · rename_i m hq; rw [h] at hq; simp at hq; rw [hq]
end Go.Proofs.YtjlpoigcalfdlaaDoor
