/-
  PLAIN LISTS AND NUMBERS for layer 1: hex digits, the forms of bytes. No program stands in it.
  PLAIN: names, letters, digits. No program stands in it.
  PLAIN: the document's way to read a number is the library's, where the text is the number's own. No program stands in it.
-/
import Derived.Lib.Bytealg
import Derived.Lib.Hide
import Derived.Lib.Strings
import Derived.Lib.ItoaNum
import Derived.Lib.ParseIntB
import Derived.Lib.ItoaMem
import Derived.Lib.ParseIntBTie
namespace Go.Proofs.YtckfcpiedainfaaGreatDoor
open Go
set_option linter.unusedVariables false
def hexes : List UInt8 := [48, 49, 50, 51, 52, 53, 54, 55, 56, 57, 97, 98, 99, 100, 101, 102]
/-- the place of a byte among the hex digits, or -1 -/
def hexIx (c : UInt8) : Int := Lib.indexByte hexes c
/-- what the digit at the place k of s is, if one is there -/
def digS (s : ByteArray) (k : Nat) : Option Nat :=
  if h : k < s.size then (if hexIx s[k] < 0 then none else some (hexIx s[k]).toNat) else none
/-- is a byte's form by its number? -/
def numB (n : Int) : Bool := (decide (n < 32) || decide (126 < n)) && n != 10
/-- the two digits of a form: how far they go, and the byte -/
def stepNum (s : ByteArray) (k : Nat) : Nat × Option Nat :=
  match digS s k with
  | none => (0, none)
  | some h => if numB (16 * h + 15) then
      match digS s (k + 1) with
      | none => (1, none)
      | some l => if numB (16 * h + l) then (2, some (16 * h + l)) else (1, none)
    else (0, none)
/-- a form from behind its backslash on: how far it goes, and the byte -/
def stepEsc (s : ByteArray) (k : Nat) : Nat × Option Nat :=
  if h : k < s.size then
    if s[k].toNat = 34 ∨ s[k].toNat = 92 then (1, some s[k].toNat)
    else if s[k].toNat = 110 then (1, some 10)
    else if s[k].toNat = 120 then (1 + (stepNum s (k + 1)).1, (stepNum s (k + 1)).2)
    else (0, none)
  else (0, none)
/-- a hex digit's byte -/
def hexOf (n : Nat) : UInt8 := hexes.getD n 0
/-- a byte's form -/
def form (c : UInt8) : List UInt8 :=
  if c.toNat = 34 ∨ c.toNat = 92 then [92, c]
  else if c.toNat = 10 then [92, 110]
  else if numB (c.toNat : Int) then [92, 120, hexOf (c.toNat / 16), hexOf (c.toNat % 16)]
  else [c]
theorem form_length (c : UInt8) : 1 ≤ (form c).length ∧ (form c).length ≤ 4 := by
  unfold form
  split
  · simp
  · split
    · simp
    · split <;> simp
theorem all256 {P : UInt8 → Prop} (h : ∀ n : Fin 256, P (UInt8.ofNat n.val)) (c : UInt8) : P c := by
  have := h ⟨c.toNat, c.toNat_lt⟩
  simpa using this
theorem hexIx_lt (c : UInt8) : hexIx c < 16 := by
  revert c; apply all256; decide +kernel
theorem digS_lt {s : ByteArray} {k n : Nat} (h : digS s k = some n) : n < 16 ∧ k < s.size := by
  unfold digS at h
  split at h
  · split at h
    · cases h
    · rename_i h1 h2
      have := hexIx_lt s[k]
      have e := Option.some.inj h
      omega
  · cases h
/-- one byte's form, or a byte itself, at the place i: how far it goes, and the byte -/
def stepAt (s : ByteArray) (i : Nat) (h : i < s.size) : Nat × Option Nat :=
  if s[i].toNat = 92 then (1 + (stepEsc s (i + 1)).1, (stepEsc s (i + 1)).2)
  else if numB (s[i].toNat : Int) = true ∨ s[i].toNat = 10 then (0, none)
  else (1, some s[i].toNat)
theorem stepNum_le {s : ByteArray} {k n : Nat} {r : Option Nat} (hk : k ≤ s.size) (h : stepNum s k = (n, r)) : k + n ≤ s.size ∧ (∀ b, r = some b → b < 256) := by
  unfold stepNum at h
  cases h1 : digS s k with
  | none => rw [h1] at h; simp only [Prod.mk.injEq] at h; obtain ⟨rfl, rfl⟩ := h; exact ⟨by omega, by simp⟩
  | some a =>
    rw [h1] at h
    have b1 := digS_lt h1
    simp only at h
    cases hn : numB (16 * (a : Int) + 15) with
    | false => rw [hn] at h; simp only [Bool.false_eq_true, if_false, Prod.mk.injEq] at h; obtain ⟨rfl, rfl⟩ := h; exact ⟨by omega, by simp⟩
    | true =>
      rw [hn] at h
      simp only [if_true] at h
      cases h2 : digS s (k + 1) with
      | none => rw [h2] at h; simp only [Prod.mk.injEq] at h; obtain ⟨rfl, rfl⟩ := h; exact ⟨by omega, by simp⟩
      | some b =>
        rw [h2] at h
        have b2 := digS_lt h2
        simp only at h
        cases hm : numB (16 * (a : Int) + b) with
        | false => rw [hm] at h; simp only [Bool.false_eq_true, if_false, Prod.mk.injEq] at h; obtain ⟨rfl, rfl⟩ := h; exact ⟨by omega, by simp⟩
        | true =>
          rw [hm] at h; simp only [if_true, Prod.mk.injEq] at h; obtain ⟨rfl, rfl⟩ := h
          refine ⟨by omega, ?_⟩
          intro x hx
          have := Option.some.inj hx
          omega
theorem stepEsc_le {s : ByteArray} {k n : Nat} {r : Option Nat} (hk : k ≤ s.size) (h : stepEsc s k = (n, r)) : k + n ≤ s.size ∧ (∀ b, r = some b → b < 256) := by
  unfold stepEsc at h
  split at h
  · rename_i hlt
    have := s[k].toNat_lt
    split at h
    · simp only [Prod.mk.injEq] at h; obtain ⟨rfl, rfl⟩ := h
      exact ⟨by omega, by intro x hx; have := Option.some.inj hx; omega⟩
    · split at h
      · simp only [Prod.mk.injEq] at h; obtain ⟨rfl, rfl⟩ := h
        exact ⟨by omega, by intro x hx; have := Option.some.inj hx; omega⟩
      · split at h
        · rcases hq : stepNum s (k + 1) with ⟨m, q⟩
          rw [hq] at h
          have b := stepNum_le (by omega) hq
          simp only [Prod.mk.injEq] at h; obtain ⟨rfl, rfl⟩ := h
          exact ⟨by omega, b.2⟩
        · simp only [Prod.mk.injEq] at h; obtain ⟨rfl, rfl⟩ := h
          exact ⟨by omega, by simp⟩
  · simp only [Prod.mk.injEq] at h; obtain ⟨rfl, rfl⟩ := h
    exact ⟨by omega, by simp⟩
theorem stepAt_le {s : ByteArray} {i n : Nat} {r : Option Nat} {hi : i < s.size} (h : stepAt s i hi = (n, r)) : i + n ≤ s.size ∧ (∀ b, r = some b → b < 256 ∧ 1 ≤ n) := by
  unfold stepAt at h
  have := s[i].toNat_lt
  split at h
  · rcases hq : stepEsc s (i + 1) with ⟨m, q⟩
    rw [hq] at h
    have := stepEsc_le (by omega) hq
    simp only [Prod.mk.injEq] at h; obtain ⟨rfl, rfl⟩ := h
    exact ⟨by omega, fun b hb => ⟨this.2 b hb, by omega⟩⟩
  · split at h
    · simp only [Prod.mk.injEq] at h; obtain ⟨rfl, rfl⟩ := h
      exact ⟨by omega, by simp⟩
    · simp only [Prod.mk.injEq] at h; obtain ⟨rfl, rfl⟩ := h
      exact ⟨by omega, by intro x hx; have := Option.some.inj hx; omega⟩
/-- what stands from the place i on, up to the closing sign: the text, and the place behind it; or the first wrong place -/
def scan (s : ByteArray) (i : Nat) : Option (List UInt8) × Nat :=
  if h : i < s.size then
    if s[i].toNat = 34 then (some [], i + 1)
    else match hq : stepAt s i h with
      | (n, some b) => ((scan s (i + n)).1.map (UInt8.ofNat b :: ·), (scan s (i + n)).2)
      | (n, none) => (none, i + n)
  else (none, i)
termination_by s.size - i
decreasing_by all_goals (have := (stepAt_le hq).2 _ rfl; omega)
/-- Unquote's three answers -/
def unq (s : ByteArray) (t : Int) : List UInt8 × Int × Int :=
  if t < 0 ∨ (s.size : Int) < t then ([], 0, 2)
  else if h : t.toNat < s.size then
    if s[t.toNat].toNat = 34 then
      match scan s (t.toNat + 1) with
      | (some l, n) => (l, n, 0)
      | (none, n) => ([], n, 10)
    else ([], t, 10)
  else ([], t, 10)
theorem scan_end {s : ByteArray} {i : Nat} (h : ¬ i < s.size) : scan s i = (none, i) := by rw [scan, dif_neg h]
theorem scan_quote {s : ByteArray} {i : Nat} (h : i < s.size) (hc : s[i].toNat = 34) : scan s i = (some [], i + 1) := by rw [scan, dif_pos h, if_pos hc]
theorem scan_step {s : ByteArray} {i n b : Nat} (h : i < s.size) (hc : ¬ s[i].toNat = 34) (hs : stepAt s i h = (n, some b)) :
    scan s i = ((scan s (i + n)).1.map (UInt8.ofNat b :: ·), (scan s (i + n)).2) := by
  rw [scan, dif_pos h, if_neg hc]
  split
  · rename_i n' b' hq
    rw [hs] at hq
    simp only [Prod.mk.injEq, Option.some.injEq] at hq
    obtain ⟨rfl, rfl⟩ := hq
    rfl
  · rename_i n' hq
    rw [hs] at hq
    simp at hq
theorem scan_stop {s : ByteArray} {i n : Nat} (h : i < s.size) (hc : ¬ s[i].toNat = 34) (hs : stepAt s i h = (n, none)) : scan s i = (none, i + n) := by
  rw [scan, dif_pos h, if_neg hc]
  split
  · rename_i n' b' hq
    rw [hs] at hq
    simp at hq
  · rename_i n' hq
    rw [hs] at hq
    simp only [Prod.mk.injEq] at hq
    rw [hq.1]
end Go.Proofs.YtckfcpiedainfaaGreatDoor
namespace Go.Proofs.YtckfcpiedainfaaGreatDoor
open Go
set_option linter.unusedVariables false
def letB (n : Int) : Bool := decide (65 ≤ n ∧ n ≤ 90) || decide (97 ≤ n ∧ n ≤ 122)
def innB (n : Int) : Bool := letB n || decide (48 ≤ n ∧ n ≤ 57) || n == 95
def innC (c : UInt8) : Bool := innB (c.toNat : Int)
/-- a name -/
def right : List UInt8 → Bool
  | [] => false
  | c :: r => decide (r.length < 32) && letB (c.toNat : Int) && r.all innC
/-- the number that a text is of, if it is an int's text -/
def intT (l : List UInt8) : Option Int :=
  match Lib.parseIntB 64 l with
  | .ok v => if Lib.itoa v = l then some v else none
  | _ => none
end Go.Proofs.YtckfcpiedainfaaGreatDoor
namespace Go.Proofs.YtckfcpiedainfaaGreatDoor
open Go
set_option linter.unusedVariables false
def isDg (c : UInt8) : Bool := decide (48 ≤ c.toNat ∧ c.toNat ≤ 57)
def valD (acc : Nat) (l : List UInt8) : Nat := l.foldl (fun a c => a * 10 + (c.toNat - 48)) acc
theorem valD_nil (acc : Nat) : valD acc [] = acc := List.foldl_nil ..
theorem valD_cons (acc : Nat) (c : UInt8) (r : List UInt8) : valD acc (c :: r) = valD (acc * 10 + (c.toNat - 48)) r := List.foldl_cons ..
theorem valD_ge (l : List UInt8) : ∀ acc : Nat, acc ≤ valD acc l := by
  induction l with
  | nil => intro acc; simp only [valD_nil]; omega
  | cons c r ih =>
    intro acc
    have := ih (acc * 10 + (c.toNat - 48))
    simp only [valD_cons]; omega
theorem valD_snoc (l : List UInt8) (acc : Nat) (c : UInt8) : valD acc (l ++ [c]) = valD acc l * 10 + (c.toNat - 48) := by
  unfold valD; rw [List.foldl_append]; rfl
theorem parse_of_val (l : List UInt8) : ∀ (acc : Nat), l.all isDg = true → valD acc l < 18446744073709551616 → Lib.parseUint10 acc l = .ok (valD acc l) := by
  induction l with
  | nil => intro acc _ _; simp only [valD_nil, Lib.parseUint10]
  | cons c r ih =>
    intro acc h hv
    rw [List.all_cons, Bool.and_eq_true] at h
    have hc : 48 ≤ c.toNat ∧ c.toNat ≤ 57 := by simpa [isDg] using h.1
    have hg := valD_ge r (acc * 10 + (c.toNat - 48))
    simp only [valD_cons] at hv ⊢
    simp only [Lib.parseUint10]
    rw [if_pos hc, if_neg (by omega), if_neg (by omega)]
    exact ih _ h.2 hv
theorem dg_toNat (d : Nat) (h : d < 10) : (UInt8.ofNat (48 + d)).toNat = 48 + d := by simp; omega
theorem dec_val (u : Nat) : valD 0 (Lib.decDigits u) = u ∧ (Lib.decDigits u).all isDg = true := by
  induction u using Nat.strongRecOn with
  | _ u ih =>
    by_cases h : u < 10
    · rw [Lib.decDigits, dif_pos h]
      have := dg_toNat u h
      constructor
      · simp only [valD_cons, valD_nil]; omega
      · simp only [List.all_cons, List.all_nil, Bool.and_true, isDg, this]; simp; omega
    · rw [Lib.decDigits, dif_neg h]
      have i := ih (u / 10) (by omega)
      have := dg_toNat (u % 10) (by omega)
      constructor
      · rw [valD_snoc, i.1]; omega
      · rw [List.all_append, i.2]; simp only [List.all_cons, List.all_nil, Bool.and_true, isDg, this]; simp; omega
theorem dec_ne (u : Nat) : Lib.decDigits u ≠ [] := by
  rw [Lib.decDigits]; split <;> simp
theorem dec_head (u : Nat) (h1 : 1 ≤ u) : ∃ c r, Lib.decDigits u = c :: r ∧ c.toNat ≠ 48 := by
  induction u using Nat.strongRecOn with
  | _ u ih =>
    by_cases h : u < 10
    · rw [Lib.decDigits, dif_pos h]
      exact ⟨_, _, rfl, by rw [dg_toNat u h]; omega⟩
    · rw [Lib.decDigits, dif_neg h]
      obtain ⟨c, r, e, hc⟩ := ih (u / 10) (by omega) (by omega)
      rw [e]
      exact ⟨c, _, rfl, hc⟩
theorem dec_len : ∀ (k u : Nat), u < 10 ^ (k + 1) → (Lib.decDigits u).length ≤ k + 1
  | 0, u, h => by
    rw [Lib.decDigits, dif_pos (by simpa using h)]; simp
  | k + 1, u, h => by
    by_cases hu : u < 10
    · rw [Lib.decDigits, dif_pos hu]; simp
    · rw [Lib.decDigits, dif_neg hu, List.length_append]
      have := dec_len k (u / 10) (by rw [Nat.pow_succ] at h; omega)
      simp; omega
theorem valD_pos {c : UInt8} {r : List UInt8} (hc : isDg c = true) (h48 : c.toNat ≠ 48) : 1 ≤ valD 0 (c :: r) := by
  have : 48 ≤ c.toNat ∧ c.toNat ≤ 57 := by simpa [isDg] using hc
  have := valD_ge r (0 * 10 + (c.toNat - 48))
  simp only [valD_cons]; omega
theorem dec_snoc (v d : Nat) (hv : 1 ≤ v) (hd : d < 10) : Lib.decDigits (v * 10 + d) = Lib.decDigits v ++ [UInt8.ofNat (48 + d)] := by
  rw [Lib.decDigits, dif_neg (by omega)]
  have a : (v * 10 + d) / 10 = v := by omega
  have b : (v * 10 + d) % 10 = d := by omega
  rw [a, b]
/-- digits without noughts ahead are those of their number -/
theorem dec_canon : ∀ (n : Nat) (c : UInt8) (r : List UInt8), r.length = n → (c :: r).all isDg = true → (c.toNat ≠ 48 ∨ r = []) → Lib.decDigits (valD 0 (c :: r)) = c :: r := by
  intro n
  induction n with
  | zero =>
    intro c r hr h _
    obtain rfl : r = [] := List.length_eq_zero_iff.1 hr
    have hc : 48 ≤ c.toNat ∧ c.toNat ≤ 57 := by simpa [isDg] using h
    simp only [valD_cons, valD_nil]
    rw [Lib.decDigits, dif_pos (by omega)]
    have : 48 + (0 * 10 + (c.toNat - 48)) = c.toNat := by omega
    rw [this]; simp
  | succ n ih =>
    intro c r hr h hh
    have hne : r ≠ [] := by intro e; rw [e] at hr; simp at hr
    have h48 : c.toNat ≠ 48 := by rcases hh with h | h; exact h; exact absurd h hne
    obtain ⟨r', x, rfl⟩ : ∃ r' x, r = r' ++ [x] := ⟨r.dropLast, r.getLast hne, (List.dropLast_concat_getLast hne).symm⟩
    have e : c :: (r' ++ [x]) = (c :: r') ++ [x] := rfl
    rw [e] at h ⊢
    rw [List.all_append, Bool.and_eq_true] at h
    have hx : 48 ≤ x.toNat ∧ x.toNat ≤ 57 := by have := h.2; simpa [isDg] using this
    have hv := valD_pos (r := r') (by have := h.1; rw [List.all_cons, Bool.and_eq_true] at this; exact this.1) h48
    rw [valD_snoc, dec_snoc _ _ hv (by omega), ih c r' (by simp at hr; omega) h.1 (.inl h48)]
    have : 48 + (x.toNat - 48) = x.toNat := by omega
    rw [this]; simp
/-- the document's way -/
def refD (neg : Bool) (d : List UInt8) : Option Int :=
  match d with
  | [] => none
  | c :: r =>
    if 19 < (c :: r).length then none
    else if c.toNat = 48 ∧ (neg = true ∨ r ≠ []) then none
    else if (c :: r).all isDg = true then
      if (if neg then 9223372036854775808 else 9223372036854775807) < valD 0 (c :: r) then none
      else some (if neg then -(valD 0 (c :: r) : Int) else valD 0 (c :: r))
    else none
def refI : List UInt8 → Option Int
  | [] => none
  | c :: r => if c.toNat = 45 then refD true r else refD false (c :: r)
theorem refD_some {neg : Bool} {d : List UInt8} {v : Int} (h : refD neg d = some v) :
    ∃ c r, d = c :: r ∧ d.length ≤ 19 ∧ d.all isDg = true ∧ (c.toNat ≠ 48 ∨ (neg = false ∧ r = [])) ∧ valD 0 d ≤ (if neg then 9223372036854775808 else 9223372036854775807) ∧ v = (if neg then -(valD 0 d : Int) else valD 0 d) := by
  cases d with
  | nil => cases h
  | cons c r =>
    simp only [refD] at h
    by_cases h1 : 19 < (c :: r).length
    · rw [if_pos h1] at h; cases h
    · rw [if_neg h1] at h
      by_cases h2 : c.toNat = 48 ∧ (neg = true ∨ r ≠ [])
      · rw [if_pos h2] at h; cases h
      · rw [if_neg h2] at h
        by_cases h3 : (c :: r).all isDg = true
        · rw [if_pos h3] at h
          by_cases h4 : (if neg then 9223372036854775808 else 9223372036854775807) < valD 0 (c :: r)
          · rw [if_pos h4] at h; cases h
          · rw [if_neg h4] at h
            refine ⟨c, r, rfl, by omega, h3, ?_, by omega, (Option.some.inj h).symm⟩
            by_cases e : c.toNat = 48
            · right
              constructor
              · cases neg with
                | false => rfl
                | true => exact absurd ⟨e, .inl rfl⟩ h2
              · by_cases er : r = []
                · exact er
                · exact absurd ⟨e, .inr er⟩ h2
            · exact .inl e
        · rw [if_neg h3] at h; cases h
theorem atoi_neg (d : List UInt8) (hne : d ≠ []) (ha : d.all isDg = true) (hv : valD 0 d ≤ 9223372036854775808) : Lib.atoiAll (45 :: d) = .ok (-(valD 0 d : Int)) := by
  have hp := parse_of_val d 0 ha (by omega)
  unfold Lib.atoiAll
  have e : (45 : UInt8).toNat = 45 := rfl
  simp only [e]
  rw [if_pos (.inr trivial), Lib.parseMag, if_neg hne, hp]
  simp only
  rw [if_neg (by simp), if_neg (by omega)]
  rfl
theorem atoi_pos (c : UInt8) (r : List UInt8) (ha : (c :: r).all isDg = true) (hv : valD 0 (c :: r) ≤ 9223372036854775807) : Lib.atoiAll (c :: r) = .ok (valD 0 (c :: r) : Int) := by
  have hp := parse_of_val (c :: r) 0 ha (by omega)
  have hc : 48 ≤ c.toNat ∧ c.toNat ≤ 57 := by rw [List.all_cons, Bool.and_eq_true] at ha; simpa [isDg] using ha.1
  unfold Lib.atoiAll
  simp only
  rw [if_neg (by omega), Lib.parseMag, if_neg (by simp), hp]
  simp only
  rw [if_neg (by omega), if_neg (by omega), if_neg (by omega)]
theorem intT_some {l : List UInt8} {v : Int} (h1 : Lib.atoiAll l = .ok v) (h2 : Lib.itoa v = l) : intT l = some v := by
  unfold intT
  rw [Lib.parseIntB_64, h1]
  simp only
  rw [if_pos h2]
theorem intT_out {l : List UInt8} {v : Int} (h : intT l = some v) : Lib.itoa v = l ∧ -9223372036854775808 ≤ v ∧ v ≤ 9223372036854775807 ∧ Lib.parseIntB 64 l = .ok v := by
  unfold intT at h
  cases hp : Lib.parseIntB 64 l with
  | ok u =>
    rw [hp] at h
    simp only at h
    split at h
    · rename_i e
      have := Option.some.inj h
      subst this
      have b := Lib.parseIntB_bounds hp
      simp at b
      exact ⟨e, by omega, by omega, rfl⟩
    · cases h
  | «syntax» => rw [hp] at h; cases h
  | range => rw [hp] at h; cases h
theorem itoa_of_nat (u : Nat) : Lib.itoa (u : Int) = Lib.decDigits u := Lib.itoa_nonneg u
theorem intT_of_ref {l : List UInt8} {v : Int} (h : refI l = some v) : intT l = some v := by
  cases l with
  | nil => cases h
  | cons c r =>
    simp only [refI] at h
    split at h
    · rename_i hc
      obtain rfl : c = 45 := UInt8.toNat_inj.1 hc
      obtain ⟨x, q, rfl, hlen, ha, hx, hv, rfl⟩ := refD_some h
      simp only [if_true] at hv ⊢
      have h48 : x.toNat ≠ 48 := by rcases hx with h | h; exact h; exact absurd h.1 (by simp)
      have hpos := valD_pos (r := q) (by rw [List.all_cons, Bool.and_eq_true] at ha; exact ha.1) h48
      refine intT_some (atoi_neg _ (by simp) ha hv) ?_
      rw [Lib.itoa_neg _ hpos, dec_canon _ x q rfl ha (.inl h48)]
    · obtain ⟨x, q, e, hlen, ha, hx, hv, rfl⟩ := refD_some h
      obtain ⟨rfl, rfl⟩ := List.cons.inj e
      simp only [Bool.false_eq_true, if_false] at hv ⊢
      refine intT_some (atoi_pos c r ha hv) ?_
      rw [itoa_of_nat, dec_canon _ c r rfl ha (hx.imp id fun h => h.2)]
theorem refD_mk (neg : Bool) (u : Nat) (h1 : neg = true → 1 ≤ u) (hu : u ≤ (if neg then 9223372036854775808 else 9223372036854775807)) : refD neg (Lib.decDigits u) = some (if neg then -(u : Int) else u) := by
  have hl := dec_len 18 u (by cases neg <;> simp at hu <;> omega)
  have hv := dec_val u
  rcases hd : Lib.decDigits u with _ | ⟨c, r⟩
  · exact absurd hd (dec_ne u)
  · rw [hd] at hl hv
    simp only [refD]
    rw [if_neg (by omega), if_neg, if_pos hv.2, hv.1, if_neg (by omega)]
    rintro ⟨hc, hr⟩
    by_cases hu0 : 1 ≤ u
    · obtain ⟨x, q, e, hx⟩ := dec_head u hu0
      rw [hd] at e
      exact hx (by rw [← (List.cons.inj e).1]; exact hc)
    · have : u = 0 := by omega
      subst this
      have e0 : Lib.decDigits 0 = [48] := by rw [Lib.decDigits, dif_pos (by omega)]; rfl
      rw [e0] at hd
      rcases hr with hr | hr
      · exact absurd (h1 hr) (by omega)
      · exact hr (List.cons.inj hd).2.symm
theorem ref_of_intT {l : List UInt8} {v : Int} (h : intT l = some v) : refI l = some v := by
  obtain ⟨e, b1, b2, _⟩ := intT_out h
  by_cases hn : v < 0
  · obtain ⟨u, rfl⟩ : ∃ u : Nat, v = -(u : Int) := ⟨v.natAbs, by omega⟩
    rw [Lib.itoa_neg u (by omega)] at e
    subst e
    simp only [refI]
    rw [if_pos (by rfl)]
    have := refD_mk true u (by omega) (by simp; omega)
    simpa using this
  · obtain ⟨u, rfl⟩ : ∃ u : Nat, v = (u : Int) := ⟨v.toNat, by omega⟩
    rw [itoa_of_nat] at e
    have := refD_mk false u (by simp) (by simp; omega)
    rw [e] at this
    cases l with
    | nil => exact absurd e (dec_ne u)
    | cons c r =>
      simp only [refI]
      rw [if_neg]
      · simpa using this
      · intro hc
        have := (dec_val u).2
        rw [e, List.all_cons, Bool.and_eq_true] at this
        have : 48 ≤ c.toNat ∧ c.toNat ≤ 57 := by simpa [isDg] using this.1
        omega
theorem refI_eq (l : List UInt8) : refI l = intT l := by
  cases h : intT l with
  | some v => exact ref_of_intT h
  | none =>
    cases h' : refI l with
    | none => rfl
    | some v => rw [intT_of_ref h'] at h; cases h
end Go.Proofs.YtckfcpiedainfaaGreatDoor
