/-
  PLAIN LISTS AND NUMBERS for layer 1: hex digits, the forms of bytes. No program stands in it.
-/
import Derived.Lib.Bytealg
import Derived.Lib.Hide
namespace Go.Proofs.YtinhlemebnlijaaDoor
open Go
set_option linter.unusedVariables false
def hexes : List UInt8 := [48, 49, 50, 51, 52, 53, 54, 55, 56, 57, 97, 98, 99, 100, 101, 102]
/-- the place of a byte among the hex digits, or -1 -/
def hexIx (c : UInt8) : Int := Lib.indexByte hexes c
/-- what the digit at the place k of s is, if one is there -/
def digS (s : ByteArray) (k : Nat) : Option Nat :=
  if h : k < s.size then (if hexIx s[k] < 0 then none else some (hexIx s[k]).toNat) else none
/-- is a byte's form by its number? -/
def numB (n : Int) : Bool := (decide (n < 32) || decide (126 < n)) && n != 10
/-- the two digits of a form: how far they go, and the byte -/
def stepNum (s : ByteArray) (k : Nat) : Nat × Option Nat :=
  match digS s k with
  | none => (0, none)
  | some h => if numB (16 * h + 15) then
      match digS s (k + 1) with
      | none => (1, none)
      | some l => if numB (16 * h + l) then (2, some (16 * h + l)) else (1, none)
    else (0, none)
/-- a form from behind its backslash on: how far it goes, and the byte -/
def stepEsc (s : ByteArray) (k : Nat) : Nat × Option Nat :=
  if h : k < s.size then
    if s[k].toNat = 34 ∨ s[k].toNat = 92 then (1, some s[k].toNat)
    else if s[k].toNat = 110 then (1, some 10)
    else if s[k].toNat = 120 then (1 + (stepNum s (k + 1)).1, (stepNum s (k + 1)).2)
    else (0, none)
  else (0, none)
/-- a hex digit's byte -/
def hexOf (n : Nat) : UInt8 := hexes.getD n 0
/-- a byte's form -/
def form (c : UInt8) : List UInt8 :=
  if c.toNat = 34 ∨ c.toNat = 92 then [92, c]
  else if c.toNat = 10 then [92, 110]
  else if numB (c.toNat : Int) then [92, 120, hexOf (c.toNat / 16), hexOf (c.toNat % 16)]
  else [c]
/-- a text in quotes -/
def quote (l : List UInt8) : List UInt8 := 34 :: l.flatMap form ++ [34]
theorem form_length (c : UInt8) : 1 ≤ (form c).length ∧ (form c).length ≤ 4 := by
  unfold form
  split
  · simp
  · split
    · simp
    · split <;> simp
theorem flat_length (l : List UInt8) : (l.flatMap form).length ≤ 4 * l.length := by
  induction l with
  | nil => simp
  | cons c l ih =>
    rw [List.flatMap_cons, List.length_append, List.length_cons]
    have := form_length c
    omega
theorem all256 {P : UInt8 → Prop} (h : ∀ n : Fin 256, P (UInt8.ofNat n.val)) (c : UInt8) : P c := by
  have := h ⟨c.toNat, c.toNat_lt⟩
  simpa using this
theorem hexIx_lt (c : UInt8) : hexIx c < 16 := by
  revert c; apply all256; decide +kernel
theorem hexIx_ge (c : UInt8) : -1 ≤ hexIx c := Lib.indexByte_ge _ _
theorem digS_lt {s : ByteArray} {k n : Nat} (h : digS s k = some n) : n < 16 ∧ k < s.size := by
  unfold digS at h
  split at h
  · split at h
    · cases h
    · rename_i h1 h2
      have := hexIx_lt s[k]
      have e := Option.some.inj h
      omega
  · cases h
/-- one byte's form, or a byte itself, at the place i: how far it goes, and the byte -/
def stepAt (s : ByteArray) (i : Nat) (h : i < s.size) : Nat × Option Nat :=
  if s[i].toNat = 92 then (1 + (stepEsc s (i + 1)).1, (stepEsc s (i + 1)).2)
  else if numB (s[i].toNat : Int) = true ∨ s[i].toNat = 10 then (0, none)
  else (1, some s[i].toNat)
theorem stepNum_le {s : ByteArray} {k n : Nat} {r : Option Nat} (hk : k ≤ s.size) (h : stepNum s k = (n, r)) : k + n ≤ s.size ∧ (∀ b, r = some b → b < 256) := by
  unfold stepNum at h
  cases h1 : digS s k with
  | none => rw [h1] at h; simp only [Prod.mk.injEq] at h; obtain ⟨rfl, rfl⟩ := h; exact ⟨by omega, by simp⟩
  | some a =>
    rw [h1] at h
    have b1 := digS_lt h1
    simp only at h
    cases hn : numB (16 * (a : Int) + 15) with
    | false => rw [hn] at h; simp only [Bool.false_eq_true, if_false, Prod.mk.injEq] at h; obtain ⟨rfl, rfl⟩ := h; exact ⟨by omega, by simp⟩
    | true =>
      rw [hn] at h
      simp only [if_true] at h
      cases h2 : digS s (k + 1) with
      | none => rw [h2] at h; simp only [Prod.mk.injEq] at h; obtain ⟨rfl, rfl⟩ := h; exact ⟨by omega, by simp⟩
      | some b =>
        rw [h2] at h
        have b2 := digS_lt h2
        simp only at h
        cases hm : numB (16 * (a : Int) + b) with
        | false => rw [hm] at h; simp only [Bool.false_eq_true, if_false, Prod.mk.injEq] at h; obtain ⟨rfl, rfl⟩ := h; exact ⟨by omega, by simp⟩
        | true =>
          rw [hm] at h; simp only [if_true, Prod.mk.injEq] at h; obtain ⟨rfl, rfl⟩ := h
          refine ⟨by omega, ?_⟩
          intro x hx
          have := Option.some.inj hx
          omega
theorem stepEsc_le {s : ByteArray} {k n : Nat} {r : Option Nat} (hk : k ≤ s.size) (h : stepEsc s k = (n, r)) : k + n ≤ s.size ∧ (∀ b, r = some b → b < 256) := by
  unfold stepEsc at h
  split at h
  · rename_i hlt
    have := s[k].toNat_lt
    split at h
    · simp only [Prod.mk.injEq] at h; obtain ⟨rfl, rfl⟩ := h
      exact ⟨by omega, by intro x hx; have := Option.some.inj hx; omega⟩
    · split at h
      · simp only [Prod.mk.injEq] at h; obtain ⟨rfl, rfl⟩ := h
        exact ⟨by omega, by intro x hx; have := Option.some.inj hx; omega⟩
      · split at h
        · rcases hq : stepNum s (k + 1) with ⟨m, q⟩
          rw [hq] at h
          have b := stepNum_le (by omega) hq
          simp only [Prod.mk.injEq] at h; obtain ⟨rfl, rfl⟩ := h
          exact ⟨by omega, b.2⟩
        · simp only [Prod.mk.injEq] at h; obtain ⟨rfl, rfl⟩ := h
          exact ⟨by omega, by simp⟩
  · simp only [Prod.mk.injEq] at h; obtain ⟨rfl, rfl⟩ := h
    exact ⟨by omega, by simp⟩
theorem stepAt_le {s : ByteArray} {i n : Nat} {r : Option Nat} {hi : i < s.size} (h : stepAt s i hi = (n, r)) : i + n ≤ s.size ∧ (∀ b, r = some b → b < 256 ∧ 1 ≤ n) := by
  unfold stepAt at h
  have := s[i].toNat_lt
  split at h
  · rcases hq : stepEsc s (i + 1) with ⟨m, q⟩
    rw [hq] at h
    have := stepEsc_le (by omega) hq
    simp only [Prod.mk.injEq] at h; obtain ⟨rfl, rfl⟩ := h
    exact ⟨by omega, fun b hb => ⟨this.2 b hb, by omega⟩⟩
  · split at h
    · simp only [Prod.mk.injEq] at h; obtain ⟨rfl, rfl⟩ := h
      exact ⟨by omega, by simp⟩
    · simp only [Prod.mk.injEq] at h; obtain ⟨rfl, rfl⟩ := h
      exact ⟨by omega, by intro x hx; have := Option.some.inj hx; omega⟩
/-- what stands from the place i on, up to the closing sign: the text, and the place behind it; or the first wrong place -/
def scan (s : ByteArray) (i : Nat) : Option (List UInt8) × Nat :=
  if h : i < s.size then
    if s[i].toNat = 34 then (some [], i + 1)
    else match hq : stepAt s i h with
      | (n, some b) => ((scan s (i + n)).1.map (UInt8.ofNat b :: ·), (scan s (i + n)).2)
      | (n, none) => (none, i + n)
  else (none, i)
termination_by s.size - i
decreasing_by all_goals (have := (stepAt_le hq).2 _ rfl; omega)
/-- Unquote's three answers -/
def unq (s : ByteArray) (t : Int) : List UInt8 × Int × Int :=
  if t < 0 ∨ (s.size : Int) < t then ([], 0, 2)
  else if h : t.toNat < s.size then
    if s[t.toNat].toNat = 34 then
      match scan s (t.toNat + 1) with
      | (some l, n) => (l, n, 0)
      | (none, n) => ([], n, 10)
    else ([], t, 10)
  else ([], t, 10)
theorem scan_end {s : ByteArray} {i : Nat} (h : ¬ i < s.size) : scan s i = (none, i) := by rw [scan, dif_neg h]
theorem scan_quote {s : ByteArray} {i : Nat} (h : i < s.size) (hc : s[i].toNat = 34) : scan s i = (some [], i + 1) := by rw [scan, dif_pos h, if_pos hc]
theorem scan_step {s : ByteArray} {i n b : Nat} (h : i < s.size) (hc : ¬ s[i].toNat = 34) (hs : stepAt s i h = (n, some b)) :
    scan s i = ((scan s (i + n)).1.map (UInt8.ofNat b :: ·), (scan s (i + n)).2) := by
  rw [scan, dif_pos h, if_neg hc]
  split
  · rename_i n' b' hq
    rw [hs] at hq
    simp only [Prod.mk.injEq, Option.some.injEq] at hq
    obtain ⟨rfl, rfl⟩ := hq
    rfl
  · rename_i n' hq
    rw [hs] at hq
    simp at hq
theorem scan_stop {s : ByteArray} {i n : Nat} (h : i < s.size) (hc : ¬ s[i].toNat = 34) (hs : stepAt s i h = (n, none)) : scan s i = (none, i + n) := by
  rw [scan, dif_pos h, if_neg hc]
  split
  · rename_i n' b' hq
    rw [hs] at hq
    simp at hq
  · rename_i n' hq
    rw [hs] at hq
    simp only [Prod.mk.injEq] at hq
    rw [hq.1]
end Go.Proofs.YtinhlemebnlijaaDoor
