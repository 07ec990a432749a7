/-
  PLAIN LISTS AND NUMBERS for layer 1: hex digits, the forms of bytes. No program stands in it.
  PLAIN: names, letters, digits. No program stands in it.
  WALKS over package names: numbered, digit. What each call answers.
  BYTES IN A SLICE OF THE CALL's OWN: append of bytes, append of a string, a string made of them: each as the walk takes it.
  PLAIN: the document's way to read a number is the library's, where the text is the number's own. No program stands in it.
  WALKS: Show and Int of package names. Condition of these: the library's variables hold what its text lays.
-/
import Derived.Lib.Bytealg
import Derived.Lib.Hide
import Derived.Lib.Strings
import Derived.Lib.ItoaNum
import Derived.Lib.ParseIntB
import Derived.Test.YtjjlofaejpnnnaaGreatDoorRows
import Derived.Test.YtjjlofaejpnnnaaGreatDoorShelf
import Derived.WalkKit
import Derived.WalkSpells
import Derived.WalkLawsBesides
import Derived.Lib.AppendStr
import Derived.Deep.RegionLaw
import Derived.RegionTactic
import Derived.BigRegion
import Derived.Deep.QuietTactic
import Derived.BigQuiet
import Derived.Lib.BufferRead
import Derived.Lib.ItoaMem
import Derived.Lib.ParseIntBTie
import Derived.Lib.LaidTab
import Derived.Lib.SmallJoins
import Derived.Shelf.SlSorted.Search
namespace Go.Proofs.YtjjlofaejpnnnaaGreatDoor
open Go
set_option linter.unusedVariables false
def hexes : List UInt8 := [48, 49, 50, 51, 52, 53, 54, 55, 56, 57, 97, 98, 99, 100, 101, 102]
/-- the place of a byte among the hex digits, or -1 -/
def hexIx (c : UInt8) : Int := Lib.indexByte hexes c
/-- what the digit at the place k of s is, if one is there -/
def digS (s : ByteArray) (k : Nat) : Option Nat :=
  if h : k < s.size then (if hexIx s[k] < 0 then none else some (hexIx s[k]).toNat) else none
/-- is a byte's form by its number? -/
def numBQ (n : Int) : Bool := (decide (n < 32) || decide (126 < n)) && n != 10
/-- the two digits of a form: how far they go, and the byte -/
def stepNum (s : ByteArray) (k : Nat) : Nat × Option Nat :=
  match digS s k with
  | none => (0, none)
  | some h => if numBQ (16 * h + 15) then
      match digS s (k + 1) with
      | none => (1, none)
      | some l => if numBQ (16 * h + l) then (2, some (16 * h + l)) else (1, none)
    else (0, none)
/-- a form from behind its backslash on: how far it goes, and the byte -/
def stepEsc (s : ByteArray) (k : Nat) : Nat × Option Nat :=
  if h : k < s.size then
    if s[k].toNat = 34 ∨ s[k].toNat = 92 then (1, some s[k].toNat)
    else if s[k].toNat = 110 then (1, some 10)
    else if s[k].toNat = 120 then (1 + (stepNum s (k + 1)).1, (stepNum s (k + 1)).2)
    else (0, none)
  else (0, none)
/-- a hex digit's byte -/
def hexOf (n : Nat) : UInt8 := hexes.getD n 0
/-- a byte's form -/
def form (c : UInt8) : List UInt8 :=
  if c.toNat = 34 ∨ c.toNat = 92 then [92, c]
  else if c.toNat = 10 then [92, 110]
  else if numBQ (c.toNat : Int) then [92, 120, hexOf (c.toNat / 16), hexOf (c.toNat % 16)]
  else [c]
/-- a text in quotes -/
def quote (l : List UInt8) : List UInt8 := 34 :: l.flatMap form ++ [34]
theorem form_length (c : UInt8) : 1 ≤ (form c).length ∧ (form c).length ≤ 4 := by
  unfold form
  split
  · simp
  · split
    · simp
    · split <;> simp
theorem all256 {P : UInt8 → Prop} (h : ∀ n : Fin 256, P (UInt8.ofNat n.val)) (c : UInt8) : P c := by
  have := h ⟨c.toNat, c.toNat_lt⟩
  simpa using this
theorem hexIx_lt (c : UInt8) : hexIx c < 16 := by
  revert c; apply all256; decide +kernel
theorem digS_lt {s : ByteArray} {k n : Nat} (h : digS s k = some n) : n < 16 ∧ k < s.size := by
  unfold digS at h
  split at h
  · split at h
    · cases h
    · rename_i h1 h2
      have := hexIx_lt s[k]
      have e := Option.some.inj h
      omega
  · cases h
/-- one byte's form, or a byte itself, at the place i: how far it goes, and the byte -/
def stepAt (s : ByteArray) (i : Nat) (h : i < s.size) : Nat × Option Nat :=
  if s[i].toNat = 92 then (1 + (stepEsc s (i + 1)).1, (stepEsc s (i + 1)).2)
  else if numBQ (s[i].toNat : Int) = true ∨ s[i].toNat = 10 then (0, none)
  else (1, some s[i].toNat)
theorem stepNum_le {s : ByteArray} {k n : Nat} {r : Option Nat} (hk : k ≤ s.size) (h : stepNum s k = (n, r)) : k + n ≤ s.size ∧ (∀ b, r = some b → b < 256) := by
  unfold stepNum at h
  cases h1 : digS s k with
  | none => rw [h1] at h; simp only [Prod.mk.injEq] at h; obtain ⟨rfl, rfl⟩ := h; exact ⟨by omega, by simp⟩
  | some a =>
    rw [h1] at h
    have b1 := digS_lt h1
    simp only at h
    cases hn : numBQ (16 * (a : Int) + 15) with
    | false => rw [hn] at h; simp only [Bool.false_eq_true, if_false, Prod.mk.injEq] at h; obtain ⟨rfl, rfl⟩ := h; exact ⟨by omega, by simp⟩
    | true =>
      rw [hn] at h
      simp only [if_true] at h
      cases h2 : digS s (k + 1) with
      | none => rw [h2] at h; simp only [Prod.mk.injEq] at h; obtain ⟨rfl, rfl⟩ := h; exact ⟨by omega, by simp⟩
      | some b =>
        rw [h2] at h
        have b2 := digS_lt h2
        simp only at h
        cases hm : numBQ (16 * (a : Int) + b) with
        | false => rw [hm] at h; simp only [Bool.false_eq_true, if_false, Prod.mk.injEq] at h; obtain ⟨rfl, rfl⟩ := h; exact ⟨by omega, by simp⟩
        | true =>
          rw [hm] at h; simp only [if_true, Prod.mk.injEq] at h; obtain ⟨rfl, rfl⟩ := h
          refine ⟨by omega, ?_⟩
          intro x hx
          have := Option.some.inj hx
          omega
theorem stepEsc_le {s : ByteArray} {k n : Nat} {r : Option Nat} (hk : k ≤ s.size) (h : stepEsc s k = (n, r)) : k + n ≤ s.size ∧ (∀ b, r = some b → b < 256) := by
  unfold stepEsc at h
  split at h
  · rename_i hlt
    have := s[k].toNat_lt
    split at h
    · simp only [Prod.mk.injEq] at h; obtain ⟨rfl, rfl⟩ := h
      exact ⟨by omega, by intro x hx; have := Option.some.inj hx; omega⟩
    · split at h
      · simp only [Prod.mk.injEq] at h; obtain ⟨rfl, rfl⟩ := h
        exact ⟨by omega, by intro x hx; have := Option.some.inj hx; omega⟩
      · split at h
        · rcases hq : stepNum s (k + 1) with ⟨m, q⟩
          rw [hq] at h
          have b := stepNum_le (by omega) hq
          simp only [Prod.mk.injEq] at h; obtain ⟨rfl, rfl⟩ := h
          exact ⟨by omega, b.2⟩
        · simp only [Prod.mk.injEq] at h; obtain ⟨rfl, rfl⟩ := h
          exact ⟨by omega, by simp⟩
  · simp only [Prod.mk.injEq] at h; obtain ⟨rfl, rfl⟩ := h
    exact ⟨by omega, by simp⟩
theorem stepAt_le {s : ByteArray} {i n : Nat} {r : Option Nat} {hi : i < s.size} (h : stepAt s i hi = (n, r)) : i + n ≤ s.size ∧ (∀ b, r = some b → b < 256 ∧ 1 ≤ n) := by
  unfold stepAt at h
  have := s[i].toNat_lt
  split at h
  · rcases hq : stepEsc s (i + 1) with ⟨m, q⟩
    rw [hq] at h
    have := stepEsc_le (by omega) hq
    simp only [Prod.mk.injEq] at h; obtain ⟨rfl, rfl⟩ := h
    exact ⟨by omega, fun b hb => ⟨this.2 b hb, by omega⟩⟩
  · split at h
    · simp only [Prod.mk.injEq] at h; obtain ⟨rfl, rfl⟩ := h
      exact ⟨by omega, by simp⟩
    · simp only [Prod.mk.injEq] at h; obtain ⟨rfl, rfl⟩ := h
      exact ⟨by omega, by intro x hx; have := Option.some.inj hx; omega⟩
/-- what stands from the place i on, up to the closing sign: the text, and the place behind it; or the first wrong place -/
def scan (s : ByteArray) (i : Nat) : Option (List UInt8) × Nat :=
  if h : i < s.size then
    if s[i].toNat = 34 then (some [], i + 1)
    else match hq : stepAt s i h with
      | (n, some b) => ((scan s (i + n)).1.map (UInt8.ofNat b :: ·), (scan s (i + n)).2)
      | (n, none) => (none, i + n)
  else (none, i)
termination_by s.size - i
decreasing_by all_goals (have := (stepAt_le hq).2 _ rfl; omega)
/-- Unquote's three answers -/
def unq (s : ByteArray) (t : Int) : List UInt8 × Int × Int :=
  if t < 0 ∨ (s.size : Int) < t then ([], 0, 2)
  else if h : t.toNat < s.size then
    if s[t.toNat].toNat = 34 then
      match scan s (t.toNat + 1) with
      | (some l, n) => (l, n, 0)
      | (none, n) => ([], n, 10)
    else ([], t, 10)
  else ([], t, 10)
theorem scan_end {s : ByteArray} {i : Nat} (h : ¬ i < s.size) : scan s i = (none, i) := by rw [scan, dif_neg h]
theorem scan_quote {s : ByteArray} {i : Nat} (h : i < s.size) (hc : s[i].toNat = 34) : scan s i = (some [], i + 1) := by rw [scan, dif_pos h, if_pos hc]
theorem scan_step {s : ByteArray} {i n b : Nat} (h : i < s.size) (hc : ¬ s[i].toNat = 34) (hs : stepAt s i h = (n, some b)) :
    scan s i = ((scan s (i + n)).1.map (UInt8.ofNat b :: ·), (scan s (i + n)).2) := by
  rw [scan, dif_pos h, if_neg hc]
  split
  · rename_i n' b' hq
    rw [hs] at hq
    simp only [Prod.mk.injEq, Option.some.injEq] at hq
    obtain ⟨rfl, rfl⟩ := hq
    rfl
  · rename_i n' hq
    rw [hs] at hq
    simp at hq
theorem scan_stop {s : ByteArray} {i n : Nat} (h : i < s.size) (hc : ¬ s[i].toNat = 34) (hs : stepAt s i h = (n, none)) : scan s i = (none, i + n) := by
  rw [scan, dif_pos h, if_neg hc]
  split
  · rename_i n' b' hq
    rw [hs] at hq
    simp at hq
  · rename_i n' hq
    rw [hs] at hq
    simp only [Prod.mk.injEq] at hq
    rw [hq.1]
end Go.Proofs.YtjjlofaejpnnnaaGreatDoor
namespace Go.Proofs.YtjjlofaejpnnnaaGreatDoor
open Go
set_option linter.unusedVariables false
def letBQ (n : Int) : Bool := decide (65 ≤ n ∧ n ≤ 90) || decide (97 ≤ n ∧ n ≤ 122)
def innBQ (n : Int) : Bool := letBQ n || decide (48 ≤ n ∧ n ≤ 57) || n == 95
def innCQ (c : UInt8) : Bool := innBQ (c.toNat : Int)
/-- a name -/
def right : List UInt8 → Bool
  | [] => false
  | c :: r => decide (r.length < 32) && letBQ (c.toNat : Int) && r.all innCQ
/-- the number that a text is of, if it is an int's text -/
def intT (l : List UInt8) : Option Int :=
  match Lib.parseIntB 64 l with
  | .ok v => if Lib.itoa v = l then some v else none
  | _ => none
end Go.Proofs.YtjjlofaejpnnnaaGreatDoor
namespace Go.Proofs.YtjjlofaejpnnnaaGreatDoor
open Go.RowKit
set_option linter.unusedVariables false
theorem ret_boolQ {a b : Bool} (h : a = b) : Ending.returned (.bool a) = .returned (.bool b) := by rw [h]
set_option maxHeartbeats 400000 in
theorem numbered_anyQ (n : Int) (w : World) :
    Calls Tryz.prog 111 #[.int .u8 n] w fun e w' => e = .returned (.bool (numBQ n)) ∧ w = w' := by
  go_enter Tryz.func111, Tryz.ntmps111
  go_wp2
  all_goals go_ret
  all_goals refine ⟨ret_boolQ ?_, rfl⟩
  all_goals (unfold numBQ; simp [*])
theorem numbered_yes (n : Int) (w : World) (h : numBQ n = true) :
    Calls Tryz.prog 111 #[.int .u8 n] w fun e w' => e = .returned (.bool true) ∧ w = w' := by
  rw [← h]; exact numbered_anyQ n w
theorem numbered_no (n : Int) (w : World) (h : numBQ n = false) :
    Calls Tryz.prog 111 #[.int .u8 n] w fun e w' => e = .returned (.bool false) ∧ w = w' := by
  rw [← h]; exact numbered_anyQ n w
theorem index_hexes (c : UInt8) (w : World) :
    Calls Tryz.prog 151 #[.string ⟨#[48, 49, 50, 51, 52, 53, 54, 55, 56, 57, 97, 98, 99, 100, 101, 102]⟩, .int .u8 c.toNat] w fun e w' => e = .returned (.int .i64 (hexIx c)) ∧ w = w' := by
  refine (Tryz.strings_IndexByte _ _ w).mono ?_
  rintro e w' ⟨rfl, rfl⟩
  refine ⟨?_, rfl⟩
  have e : ((c.toNat : Int)).toNat.toUInt8 = c := by simp
  rw [e]
  rfl
set_option maxHeartbeats 400000 in
theorem digit_none (s : ByteArray) (k : Int) (w : World) (h0 : 0 ≤ k) (hs : s.size ≤ maxLen) (h : digS s k.toNat = none) :
    Calls Tryz.prog 153 #[.string s, .int .i64 k] w fun e w' => e = .returned (.tuple #[.int .u8 0, .bool false]) ∧ w = w' := by
  obtain ⟨k, rfl⟩ := Int.eq_ofNat_of_zero_le h0
  rw [Int.toNat_natCast] at h
  unfold maxLen at hs
  by_cases hk : k < s.size
  · have hi : hexIx s[k] < 0 := by
      unfold digS at h
      rw [dif_pos hk] at h
      by_cases hh : hexIx s[k] < 0
      · exact hh
      · rw [if_neg hh] at h; cases h
    clear h
    go_enter Tryz.func153, Tryz.ntmps153
    go_wp2_with (go_at_call 151; refine (index_hexes _ _).mono ?_; rintro e w' ⟨rfl, rfl⟩)
    go_ret2
    exact ⟨rfl, rfl⟩
  · clear h
    go_enter Tryz.func153, Tryz.ntmps153
    go_wp2
    go_ret2
    exact ⟨rfl, rfl⟩
set_option maxHeartbeats 400000 in
theorem digit_some (s : ByteArray) (k : Int) (n : Nat) (w : World) (h0 : 0 ≤ k) (hs : s.size ≤ maxLen) (h : digS s k.toNat = some n) :
    Calls Tryz.prog 153 #[.string s, .int .i64 k] w fun e w' => e = .returned (.tuple #[.int .u8 n, .bool true]) ∧ w = w' := by
  obtain ⟨k, rfl⟩ := Int.eq_ofNat_of_zero_le h0
  rw [Int.toNat_natCast] at h
  unfold maxLen at hs
  have hb := digS_lt h
  obtain ⟨hn, hk⟩ := hb
  have hi : 0 ≤ hexIx s[k] ∧ hexIx s[k] = n := by
    unfold digS at h
    rw [dif_pos hk] at h
    by_cases hh : hexIx s[k] < 0
    · rw [if_pos hh] at h; cases h
    · rw [if_neg hh] at h
      have := Option.some.inj h
      omega
  clear h
  obtain ⟨hi0, hi1⟩ := hi
  have hi2 := hexIx_lt s[k]
  have H := Lib.hid hi1
  clear hi1
  go_enter Tryz.func153, Tryz.ntmps153
  go_wp2_with (go_at_call 151; refine (index_hexes _ _).mono ?_; rintro e w' ⟨rfl, rfl⟩)
  go_ret2
  rw [H.out]
  exact ⟨rfl, rfl⟩
theorem or_low (h l : Nat) (a : h < 16) (b : l < 16) : bits BinOp.or IntKind.u8 ((h : Int) * 16) l = 16 * (h : Int) + l := by
  have : ∀ (h l : Fin 16), bits BinOp.or IntKind.u8 ((h.val : Int) * 16) (l.val : Int) = 16 * (h.val : Int) + l.val := by decide +kernel
  exact this ⟨h, a⟩ ⟨l, b⟩
theorem or_15 (h : Nat) (a : h < 16) : bits BinOp.or IntKind.u8 ((h : Int) * 16) 15 = 16 * (h : Int) + 15 := or_low h 15 a (by omega)
set_option maxHeartbeats 400000 in
theorem byNumber_any (s : ByteArray) (k : Int) (n : Nat) (r : Option Nat) (w : World) (h0 : 0 ≤ k) (hs : s.size ≤ maxLen) (h : stepNum s k.toNat = (n, r)) :
    Calls Tryz.prog 136 #[.string s, .int .i64 k] w fun e w' => e = .returned (.tuple #[.int .u8 ((r.getD 0 : Nat) : Int), .int .i64 (k + n), .bool r.isSome]) ∧ w = w' := by
  obtain ⟨k, rfl⟩ := Int.eq_ofNat_of_zero_le h0
  rw [Int.toNat_natCast] at h
  have hs' := hs
  unfold maxLen at hs'
  unfold stepNum at h
  cases h1 : digS s k with
  | none =>
    rw [h1] at h
    simp only [Prod.mk.injEq] at h
    obtain ⟨rfl, rfl⟩ := h
    have H1 := Lib.hid h1
    clear h1
    go_enter Tryz.func136, Tryz.ntmps136
    go_wp2_with (go_at_call 153; refine (digit_none s k _ (by omega) hs H1.out).mono ?_; rintro e w' ⟨rfl, rfl⟩)
    go_ret3
    exact ⟨by simp, rfl⟩
  | some a =>
    rw [h1] at h
    simp only at h
    obtain ⟨a1, a2⟩ := digS_lt h1
    have H1 := Lib.hid h1
    have e15 := or_15 a a1
    clear h1
    cases hn : numBQ (16 * (a : Int) + 15) with
    | false =>
      rw [hn] at h
      simp only [Bool.false_eq_true, if_false, Prod.mk.injEq] at h
      obtain ⟨rfl, rfl⟩ := h
      have HN := Lib.hid hn
      clear hn
      go_enter Tryz.func136, Tryz.ntmps136
      go_wp2_with (first | (go_at_call 153; refine (digit_some s k a _ (by omega) hs H1.out).mono ?_; rintro e w' ⟨rfl, rfl⟩) | (go_at_call 111; refine (numbered_no _ _ HN.out).mono ?_; rintro e w' ⟨rfl, rfl⟩))
      go_ret3
      exact ⟨by simp, rfl⟩
    | true =>
      rw [hn] at h
      simp only [if_true] at h
      have HN := Lib.hid hn
      clear hn
      cases h2 : digS s (k + 1) with
      | none =>
        rw [h2] at h
        simp only [Prod.mk.injEq] at h
        obtain ⟨rfl, rfl⟩ := h
        have H2 : Hid (digS s ((k : Int) + 1).toNat = none) := Lib.hid (by rw [show ((k : Int) + 1).toNat = k + 1 from by omega]; exact h2)
        clear h2
        go_enter Tryz.func136, Tryz.ntmps136
        go_wp2_with fail
        refine (digit_some s k a _ (by omega) hs H1.out).mono ?_
        rintro e w' ⟨rfl, rfl⟩
        go_wp2_with (go_at_call 111; refine (numbered_yes _ _ HN.out).mono ?_; rintro e w' ⟨rfl, rfl⟩)
        refine (digit_none s (k + 1) _ (by omega) hs H2.out).mono ?_
        rintro e w' ⟨rfl, rfl⟩
        go_wp2
        go_ret3
        exact ⟨by simp, rfl⟩
      | some b =>
        rw [h2] at h
        simp only at h
        obtain ⟨b1, b2⟩ := digS_lt h2
        have H2 : Hid (digS s ((k : Int) + 1).toNat = some b) := Lib.hid (by rw [show ((k : Int) + 1).toNat = k + 1 from by omega]; exact h2)
        have el := or_low a b a1 b1
        clear h2
        cases hm : numBQ (16 * (a : Int) + b) with
        | false =>
          rw [hm] at h
          simp only [Bool.false_eq_true, if_false, Prod.mk.injEq] at h
          obtain ⟨rfl, rfl⟩ := h
          have HM := Lib.hid hm
          clear hm
          go_enter Tryz.func136, Tryz.ntmps136
          go_wp2_with fail
          refine (digit_some s k a _ (by omega) hs H1.out).mono ?_
          rintro e w' ⟨rfl, rfl⟩
          go_wp2_with (go_at_call 111; refine (numbered_yes _ _ HN.out).mono ?_; rintro e w' ⟨rfl, rfl⟩)
          refine (digit_some s (k + 1) b _ (by omega) hs H2.out).mono ?_
          rintro e w' ⟨rfl, rfl⟩
          go_wp2_with (go_at_call 111; refine (numbered_no _ _ HM.out).mono ?_; rintro e w' ⟨rfl, rfl⟩)
          go_ret3
          exact ⟨by simp, rfl⟩
        | true =>
          rw [hm] at h
          simp only [if_true, Prod.mk.injEq] at h
          obtain ⟨rfl, rfl⟩ := h
          have HM := Lib.hid hm
          clear hm
          go_enter Tryz.func136, Tryz.ntmps136
          go_wp2_with fail
          refine (digit_some s k a _ (by omega) hs H1.out).mono ?_
          rintro e w' ⟨rfl, rfl⟩
          go_wp2_with (go_at_call 111; refine (numbered_yes _ _ HN.out).mono ?_; rintro e w' ⟨rfl, rfl⟩)
          refine (digit_some s (k + 1) b _ (by omega) hs H2.out).mono ?_
          rintro e w' ⟨rfl, rfl⟩
          go_wp2_with (go_at_call 111; refine (numbered_yes _ _ HM.out).mono ?_; rintro e w' ⟨rfl, rfl⟩)
          go_ret3
          exact ⟨by simp, rfl⟩
set_option maxHeartbeats 400000 in
theorem escaped_any (s : ByteArray) (k : Int) (n : Nat) (r : Option Nat) (w : World) (h0 : 0 ≤ k) (hk : k ≤ s.size) (hs : s.size ≤ maxLen) (h : stepEsc s k.toNat = (n, r)) :
    Calls Tryz.prog 110 #[.string s, .int .i64 k] w fun e w' => e = .returned (.tuple #[.int .u8 ((r.getD 0 : Nat) : Int), .int .i64 (k + n), .bool r.isSome]) ∧ w = w' := by
  obtain ⟨k, rfl⟩ := Int.eq_ofNat_of_zero_le h0
  rw [Int.toNat_natCast] at h
  have hs' := hs
  unfold maxLen at hs'
  unfold stepEsc at h
  by_cases hlt : k < s.size
  · rw [dif_pos hlt] at h
    have hne : ((k : Int) == (s.size : Int)) = false := by rw [beq_eq_false_iff_ne]; omega
    by_cases c1 : s[k].toNat = 34 ∨ s[k].toNat = 92
    · rw [if_pos c1] at h
      simp only [Prod.mk.injEq] at h
      obtain ⟨rfl, rfl⟩ := h
      go_enter Tryz.func110, Tryz.ntmps110
      go_wp2
      all_goals go_ret3
      all_goals exact ⟨by simp, rfl⟩
    · rw [if_neg c1] at h
      have d1 : ((s[k].toNat : Int) == 34) = false := by rw [beq_eq_false_iff_ne]; omega
      have d2 : ((s[k].toNat : Int) == 92) = false := by rw [beq_eq_false_iff_ne]; omega
      by_cases c2 : s[k].toNat = 110
      · rw [if_pos c2] at h
        simp only [Prod.mk.injEq] at h
        obtain ⟨rfl, rfl⟩ := h
        have d3 : ((s[k].toNat : Int) == 110) = true := by rw [beq_iff_eq]; omega
        clear c1 c2
        go_enter Tryz.func110, Tryz.ntmps110
        go_wp2
        all_goals go_ret3
        all_goals exact ⟨by simp, rfl⟩
      · rw [if_neg c2] at h
        have d3 : ((s[k].toNat : Int) == 110) = false := by rw [beq_eq_false_iff_ne]; omega
        by_cases c3 : s[k].toNat = 120
        · rw [if_pos c3] at h
          have d4 : ((s[k].toNat : Int) == 120) = true := by rw [beq_iff_eq]; omega
          rcases hq : stepNum s (k + 1) with ⟨m, x⟩
          rw [hq] at h
          simp only [Prod.mk.injEq] at h
          obtain ⟨rfl, rfl⟩ := h
          have H : Hid (stepNum s ((k : Int) + 1).toNat = (m, x)) := Lib.hid (by rw [show ((k : Int) + 1).toNat = k + 1 from by omega]; exact hq)
          clear c1 c2 c3 hq
          go_enter Tryz.func110, Tryz.ntmps110
          go_wp2_with (go_at_call 136; refine (byNumber_any s _ m x _ (by omega) hs H.out).mono ?_; rintro e w' ⟨rfl, rfl⟩)
          go_ret3
          exact ⟨by simp; omega, rfl⟩
        · rw [if_neg c3] at h
          simp only [Prod.mk.injEq] at h
          obtain ⟨rfl, rfl⟩ := h
          have d4 : ((s[k].toNat : Int) == 120) = false := by rw [beq_eq_false_iff_ne]; omega
          clear c1 c2 c3
          go_enter Tryz.func110, Tryz.ntmps110
          go_wp2
          all_goals go_ret3
          all_goals exact ⟨by simp, rfl⟩
  · rw [dif_neg hlt] at h
    simp only [Prod.mk.injEq] at h
    obtain ⟨rfl, rfl⟩ := h
    have hne : ((k : Int) == (s.size : Int)) = true := by rw [beq_iff_eq]; omega
    go_enter Tryz.func110, Tryz.ntmps110
    go_wp2
    all_goals go_ret3
    all_goals exact ⟨by simp, rfl⟩
end Go.Proofs.YtjjlofaejpnnnaaGreatDoor
namespace Go.Proofs.YtjjlofaejpnnnaaGreatDoor
open Go Go.RowKit
set_option linter.unusedVariables false
def enc (c : UInt8) : Value := .int .u8 (c.toNat : Int)
theorem enc_one (l : List UInt8) : ∀ u ∈ l.map enc, u.oneCell' = true := by
  intro u hu
  rw [List.mem_map] at hu
  obtain ⟨b, _, rfl⟩ := hu
  rfl
/-- the slice v of bytes holds l, in a block of the call's own (from B on), or is nil -/
def ownB (w : World) (B : Nat) (v : Value) (l : List UInt8) : Prop := w.ownsRow B 5 1 v l.length (l.map enc)
theorem byteInfo : (Tryz.prog.info? 5).map (fun i => (i.zero, i.size, i.bytes)) = some (some (.int .u8 0), 1, 1) := by kernel_rfl
theorem ownB.alloc {w : World} {B : Nat} {v : Value} {l : List UInt8} (h : ownB w B v l) (o : Obj) : ownB (w.alloc o) B v l := World.ownsRow.alloc h o
theorem ownB.nil (w : World) (B : Nat) : ownB w B (.slice none 0 0) [] := World.ownsRow_nil w B _ _
theorem ownB.below {w w' : World} {B : Nat} {v : Value} {l : List UInt8} (h : ownB w B v l) (hb : Below w.heap.size w w') : ownB w' B v l := by
  refine ⟨h.1, ?_⟩
  rcases h.2 with hn | ⟨g, cap, cur, rfl, hbg, hgg, rest⟩
  · exact .inl hn
  · refine .inr ⟨g, cap, cur, rfl, hbg, ?_, rest⟩
    rw [hb.block g (Array.getElem?_eq_some_iff.1 hgg).1]
    exact hgg
theorem ownB.grown {w w' : World} {B : Nat} {v : Value} {l : List UInt8} (h : ownB w B v l) (hB : B ≤ w.heap.size) (hg : w.grownBy w' v.ownBlock) : Below B w w' :=
  (Below.refl _ _).grown hg hB (fun k hk => (World.ownsRow.lt h k hk).1)
/-- append of bytes that lie in memory -/
theorem app_bytes {w : World} {ops : Array Oper} {rest : List Oper} {o : Oper} {a : Act} {Q : Exit → Act → World → Prop} (hgd : o.guard = none) (s x : Operand)
    (ho : o.op = .call { callee := .builtin .append, args := #[s, x], argTypes := #[63, 63] })
    (B : Nat) (v : Value) (l : List UInt8) (hs : a.eval s = v) (hown : ownB w B v l) (ad : Addr) (m c : Nat) (news : List UInt8) (hx : a.eval x = .slice (some ad) m c) (hl : news.length = m)
    (hnews : ∀ j u, (news.map enc)[j]? = some u → w.cell? (ad.add j) = some u) (hroom : l.length + m ≤ 140737488355328) (hB : B ≤ w.heap.size)
    (h : ∀ v' w', ownB w' B v' (l ++ news) → Below B w w' → wpList Tryz.prog ops Q rest (a.put o.dst v') w') : wpList Tryz.prog ops Q (o :: rest) a w := by
  obtain ⟨i0, hi, hz0, hz1, hz2⟩ := info_parts byteInfo
  refine wpList_append_own w hgd s x _ ho B 5 i0 (.int .u8 0) 1 1 Tryz.underlying63 hi hz0 hz1 hz2 rfl (by decide) v l.length (l.map enc) hs hown ad m c (news.map enc) hx (by simp [hl]) hnews (enc_one _) (by unfold maxLen; omega) (by omega) hB ?_
  intro v' w' hown' hg _
  refine h v' w' ?_ (ownB.grown hown hB hg)
  unfold ownB
  rw [List.length_append, List.map_append, hl]
  exact hown'
/-- the same, as a step of a region that draws its order -/
theorem step_app_bytes {w : World} {ops : Array Oper} {o : Oper} {a : Act} {K : Act → World → Prop} {Q : Exit → Act → World → Prop} {E : Prop} (hgd : o.guard = none) (s x : Operand)
    (ho : o.op = .call { callee := .builtin .append, args := #[s, x], argTypes := #[63, 63] })
    (B : Nat) (v : Value) (l : List UInt8) (hs : a.eval s = v) (hown : ownB w B v l) (ad : Addr) (m c : Nat) (news : List UInt8) (hx : a.eval x = .slice (some ad) m c) (hl : news.length = m)
    (hnews : ∀ j u, (news.map enc)[j]? = some u → w.cell? (ad.add j) = some u) (hroom : l.length + m ≤ 140737488355328) (hB : B ≤ w.heap.size)
    (h : ∀ v' w', ownB w' B v' (l ++ news) → Below B w w' → K (a.put o.dst v') w') : if Region.wanted o (yielded ops a.tmps) = true then Oper.wp Tryz.prog o a w K Q else E := by
  have hw : Region.wanted o (yielded ops a.tmps) = true := by simp [Region.wanted, hgd]
  rw [if_pos hw]
  obtain ⟨i0, hi, hz0, hz1, hz2⟩ := info_parts byteInfo
  refine wp_append_own w s x _ ho B 5 i0 (.int .u8 0) 1 1 Tryz.underlying63 hi hz0 hz1 hz2 rfl (by decide) v l.length (l.map enc) hs hown ad m c (news.map enc) hx (by simp [hl]) hnews (enc_one _) (by unfold maxLen; omega) (by omega) hB ?_
  intro v' w' hown' hg _
  refine h v' w' ?_ (ownB.grown hown hB hg)
  unfold ownB
  rw [List.length_append, List.map_append, hl]
  exact hown'
theorem fold_push (l : List UInt8) : ∀ r : ByteArray, (l.map fun c => (c.toNat : Int)).foldl (fun r n => r.push (UInt8.ofNat n.toNat)) r = ⟨r.data ++ l.toArray⟩ := by
  induction l with
  | nil => intro r; simp
  | cons c l ih =>
    intro r
    rw [List.map_cons, List.foldl_cons, ih]
    simp [ByteArray.push]
/-- string(b) of such a slice -/
theorem conv_own {w : World} {B : Nat} {v : Value} {l : List UInt8} (h : ownB w B v l) : (convert 63 9 v).run Tryz.prog w = .ok (.string ⟨l.toArray⟩) w := by
  rcases h.2 with ⟨rfl, h0⟩ | ⟨g, cap, cur, rfl, hbg, hgg, hle, hmax, hsz, htk⟩
  · obtain rfl : l = [] := List.length_eq_zero_iff.1 h0
    exact Lib.run_convert_nil_bytes w _ _ _ _ Tryz.underlying63 Tryz.underlying5 Tryz.underlying9
  · rw [run_convert_bytes_string w _ _ _ _ _ _ Tryz.underlying63 Tryz.underlying5 Tryz.underlying9]
    have hc := World.ownsRow.cells h (g := g) rfl
    have hload := run_loadCells_list (P := Tryz.prog) w ⟨g, 0, none⟩ (l.map enc) hc
    rw [List.length_map] at hload
    have := run_bytesToString (P := Tryz.prog) w ⟨g, 0, none⟩ l.length cap (l.map fun c => (c.toNat : Int)) (by rw [hload]; congr 2; simp [enc])
    rw [this, fold_push]
    simp
end Go.Proofs.YtjjlofaejpnnnaaGreatDoor
namespace Go.Proofs.YtjjlofaejpnnnaaGreatDoor
open Go
set_option linter.unusedVariables false
def isDg (c : UInt8) : Bool := decide (48 ≤ c.toNat ∧ c.toNat ≤ 57)
def valD (acc : Nat) (l : List UInt8) : Nat := l.foldl (fun a c => a * 10 + (c.toNat - 48)) acc
theorem valD_nil (acc : Nat) : valD acc [] = acc := List.foldl_nil ..
theorem valD_cons (acc : Nat) (c : UInt8) (r : List UInt8) : valD acc (c :: r) = valD (acc * 10 + (c.toNat - 48)) r := List.foldl_cons ..
theorem valD_ge (l : List UInt8) : ∀ acc : Nat, acc ≤ valD acc l := by
  induction l with
  | nil => intro acc; simp only [valD_nil]; omega
  | cons c r ih =>
    intro acc
    have := ih (acc * 10 + (c.toNat - 48))
    simp only [valD_cons]; omega
theorem valD_snoc (l : List UInt8) (acc : Nat) (c : UInt8) : valD acc (l ++ [c]) = valD acc l * 10 + (c.toNat - 48) := by
  unfold valD; rw [List.foldl_append]; rfl
theorem parse_of_val (l : List UInt8) : ∀ (acc : Nat), l.all isDg = true → valD acc l < 18446744073709551616 → Lib.parseUint10 acc l = .ok (valD acc l) := by
  induction l with
  | nil => intro acc _ _; simp only [valD_nil, Lib.parseUint10]
  | cons c r ih =>
    intro acc h hv
    rw [List.all_cons, Bool.and_eq_true] at h
    have hc : 48 ≤ c.toNat ∧ c.toNat ≤ 57 := by simpa [isDg] using h.1
    have hg := valD_ge r (acc * 10 + (c.toNat - 48))
    simp only [valD_cons] at hv ⊢
    simp only [Lib.parseUint10]
    rw [if_pos hc, if_neg (by omega), if_neg (by omega)]
    exact ih _ h.2 hv
theorem dg_toNat (d : Nat) (h : d < 10) : (UInt8.ofNat (48 + d)).toNat = 48 + d := by simp; omega
theorem dec_val (u : Nat) : valD 0 (Lib.decDigits u) = u ∧ (Lib.decDigits u).all isDg = true := by
  induction u using Nat.strongRecOn with
  | _ u ih =>
    by_cases h : u < 10
    · rw [Lib.decDigits, dif_pos h]
      have := dg_toNat u h
      constructor
      · simp only [valD_cons, valD_nil]; omega
      · simp only [List.all_cons, List.all_nil, Bool.and_true, isDg, this]; simp; omega
    · rw [Lib.decDigits, dif_neg h]
      have i := ih (u / 10) (by omega)
      have := dg_toNat (u % 10) (by omega)
      constructor
      · rw [valD_snoc, i.1]; omega
      · rw [List.all_append, i.2]; simp only [List.all_cons, List.all_nil, Bool.and_true, isDg, this]; simp; omega
theorem dec_ne (u : Nat) : Lib.decDigits u ≠ [] := by
  rw [Lib.decDigits]; split <;> simp
theorem dec_head (u : Nat) (h1 : 1 ≤ u) : ∃ c r, Lib.decDigits u = c :: r ∧ c.toNat ≠ 48 := by
  induction u using Nat.strongRecOn with
  | _ u ih =>
    by_cases h : u < 10
    · rw [Lib.decDigits, dif_pos h]
      exact ⟨_, _, rfl, by rw [dg_toNat u h]; omega⟩
    · rw [Lib.decDigits, dif_neg h]
      obtain ⟨c, r, e, hc⟩ := ih (u / 10) (by omega) (by omega)
      rw [e]
      exact ⟨c, _, rfl, hc⟩
theorem dec_len : ∀ (k u : Nat), u < 10 ^ (k + 1) → (Lib.decDigits u).length ≤ k + 1
  | 0, u, h => by
    rw [Lib.decDigits, dif_pos (by simpa using h)]; simp
  | k + 1, u, h => by
    by_cases hu : u < 10
    · rw [Lib.decDigits, dif_pos hu]; simp
    · rw [Lib.decDigits, dif_neg hu, List.length_append]
      have := dec_len k (u / 10) (by rw [Nat.pow_succ] at h; omega)
      simp; omega
theorem valD_pos {c : UInt8} {r : List UInt8} (hc : isDg c = true) (h48 : c.toNat ≠ 48) : 1 ≤ valD 0 (c :: r) := by
  have : 48 ≤ c.toNat ∧ c.toNat ≤ 57 := by simpa [isDg] using hc
  have := valD_ge r (0 * 10 + (c.toNat - 48))
  simp only [valD_cons]; omega
theorem dec_snoc (v d : Nat) (hv : 1 ≤ v) (hd : d < 10) : Lib.decDigits (v * 10 + d) = Lib.decDigits v ++ [UInt8.ofNat (48 + d)] := by
  rw [Lib.decDigits, dif_neg (by omega)]
  have a : (v * 10 + d) / 10 = v := by omega
  have b : (v * 10 + d) % 10 = d := by omega
  rw [a, b]
/-- digits without noughts ahead are those of their number -/
theorem dec_canon : ∀ (n : Nat) (c : UInt8) (r : List UInt8), r.length = n → (c :: r).all isDg = true → (c.toNat ≠ 48 ∨ r = []) → Lib.decDigits (valD 0 (c :: r)) = c :: r := by
  intro n
  induction n with
  | zero =>
    intro c r hr h _
    obtain rfl : r = [] := List.length_eq_zero_iff.1 hr
    have hc : 48 ≤ c.toNat ∧ c.toNat ≤ 57 := by simpa [isDg] using h
    simp only [valD_cons, valD_nil]
    rw [Lib.decDigits, dif_pos (by omega)]
    have : 48 + (0 * 10 + (c.toNat - 48)) = c.toNat := by omega
    rw [this]; simp
  | succ n ih =>
    intro c r hr h hh
    have hne : r ≠ [] := by intro e; rw [e] at hr; simp at hr
    have h48 : c.toNat ≠ 48 := by rcases hh with h | h; exact h; exact absurd h hne
    obtain ⟨r', x, rfl⟩ : ∃ r' x, r = r' ++ [x] := ⟨r.dropLast, r.getLast hne, (List.dropLast_concat_getLast hne).symm⟩
    have e : c :: (r' ++ [x]) = (c :: r') ++ [x] := rfl
    rw [e] at h ⊢
    rw [List.all_append, Bool.and_eq_true] at h
    have hx : 48 ≤ x.toNat ∧ x.toNat ≤ 57 := by have := h.2; simpa [isDg] using this
    have hv := valD_pos (r := r') (by have := h.1; rw [List.all_cons, Bool.and_eq_true] at this; exact this.1) h48
    rw [valD_snoc, dec_snoc _ _ hv (by omega), ih c r' (by simp at hr; omega) h.1 (.inl h48)]
    have : 48 + (x.toNat - 48) = x.toNat := by omega
    rw [this]; simp
/-- the document's way -/
def refD (neg : Bool) (d : List UInt8) : Option Int :=
  match d with
  | [] => none
  | c :: r =>
    if 19 < (c :: r).length then none
    else if c.toNat = 48 ∧ (neg = true ∨ r ≠ []) then none
    else if (c :: r).all isDg = true then
      if (if neg then 9223372036854775808 else 9223372036854775807) < valD 0 (c :: r) then none
      else some (if neg then -(valD 0 (c :: r) : Int) else valD 0 (c :: r))
    else none
def refI : List UInt8 → Option Int
  | [] => none
  | c :: r => if c.toNat = 45 then refD true r else refD false (c :: r)
theorem refD_some {neg : Bool} {d : List UInt8} {v : Int} (h : refD neg d = some v) :
    ∃ c r, d = c :: r ∧ d.length ≤ 19 ∧ d.all isDg = true ∧ (c.toNat ≠ 48 ∨ (neg = false ∧ r = [])) ∧ valD 0 d ≤ (if neg then 9223372036854775808 else 9223372036854775807) ∧ v = (if neg then -(valD 0 d : Int) else valD 0 d) := by
  cases d with
  | nil => cases h
  | cons c r =>
    simp only [refD] at h
    by_cases h1 : 19 < (c :: r).length
    · rw [if_pos h1] at h; cases h
    · rw [if_neg h1] at h
      by_cases h2 : c.toNat = 48 ∧ (neg = true ∨ r ≠ [])
      · rw [if_pos h2] at h; cases h
      · rw [if_neg h2] at h
        by_cases h3 : (c :: r).all isDg = true
        · rw [if_pos h3] at h
          by_cases h4 : (if neg then 9223372036854775808 else 9223372036854775807) < valD 0 (c :: r)
          · rw [if_pos h4] at h; cases h
          · rw [if_neg h4] at h
            refine ⟨c, r, rfl, by omega, h3, ?_, by omega, (Option.some.inj h).symm⟩
            by_cases e : c.toNat = 48
            · right
              constructor
              · cases neg with
                | false => rfl
                | true => exact absurd ⟨e, .inl rfl⟩ h2
              · by_cases er : r = []
                · exact er
                · exact absurd ⟨e, .inr er⟩ h2
            · exact .inl e
        · rw [if_neg h3] at h; cases h
theorem atoi_neg (d : List UInt8) (hne : d ≠ []) (ha : d.all isDg = true) (hv : valD 0 d ≤ 9223372036854775808) : Lib.atoiAll (45 :: d) = .ok (-(valD 0 d : Int)) := by
  have hp := parse_of_val d 0 ha (by omega)
  unfold Lib.atoiAll
  have e : (45 : UInt8).toNat = 45 := rfl
  simp only [e]
  rw [if_pos (.inr trivial), Lib.parseMag, if_neg hne, hp]
  simp only
  rw [if_neg (by simp), if_neg (by omega)]
  rfl
theorem atoi_pos (c : UInt8) (r : List UInt8) (ha : (c :: r).all isDg = true) (hv : valD 0 (c :: r) ≤ 9223372036854775807) : Lib.atoiAll (c :: r) = .ok (valD 0 (c :: r) : Int) := by
  have hp := parse_of_val (c :: r) 0 ha (by omega)
  have hc : 48 ≤ c.toNat ∧ c.toNat ≤ 57 := by rw [List.all_cons, Bool.and_eq_true] at ha; simpa [isDg] using ha.1
  unfold Lib.atoiAll
  simp only
  rw [if_neg (by omega), Lib.parseMag, if_neg (by simp), hp]
  simp only
  rw [if_neg (by omega), if_neg (by omega), if_neg (by omega)]
theorem intT_some {l : List UInt8} {v : Int} (h1 : Lib.atoiAll l = .ok v) (h2 : Lib.itoa v = l) : intT l = some v := by
  unfold intT
  rw [Lib.parseIntB_64, h1]
  simp only
  rw [if_pos h2]
theorem intT_out {l : List UInt8} {v : Int} (h : intT l = some v) : Lib.itoa v = l ∧ -9223372036854775808 ≤ v ∧ v ≤ 9223372036854775807 ∧ Lib.parseIntB 64 l = .ok v := by
  unfold intT at h
  cases hp : Lib.parseIntB 64 l with
  | ok u =>
    rw [hp] at h
    simp only at h
    split at h
    · rename_i e
      have := Option.some.inj h
      subst this
      have b := Lib.parseIntB_bounds hp
      simp at b
      exact ⟨e, by omega, by omega, rfl⟩
    · cases h
  | «syntax» => rw [hp] at h; cases h
  | range => rw [hp] at h; cases h
theorem itoa_of_nat (u : Nat) : Lib.itoa (u : Int) = Lib.decDigits u := Lib.itoa_nonneg u
theorem intT_of_ref {l : List UInt8} {v : Int} (h : refI l = some v) : intT l = some v := by
  cases l with
  | nil => cases h
  | cons c r =>
    simp only [refI] at h
    split at h
    · rename_i hc
      obtain rfl : c = 45 := UInt8.toNat_inj.1 hc
      obtain ⟨x, q, rfl, hlen, ha, hx, hv, rfl⟩ := refD_some h
      simp only [if_true] at hv ⊢
      have h48 : x.toNat ≠ 48 := by rcases hx with h | h; exact h; exact absurd h.1 (by simp)
      have hpos := valD_pos (r := q) (by rw [List.all_cons, Bool.and_eq_true] at ha; exact ha.1) h48
      refine intT_some (atoi_neg _ (by simp) ha hv) ?_
      rw [Lib.itoa_neg _ hpos, dec_canon _ x q rfl ha (.inl h48)]
    · obtain ⟨x, q, e, hlen, ha, hx, hv, rfl⟩ := refD_some h
      obtain ⟨rfl, rfl⟩ := List.cons.inj e
      simp only [Bool.false_eq_true, if_false] at hv ⊢
      refine intT_some (atoi_pos c r ha hv) ?_
      rw [itoa_of_nat, dec_canon _ c r rfl ha (hx.imp id fun h => h.2)]
theorem refD_mk (neg : Bool) (u : Nat) (h1 : neg = true → 1 ≤ u) (hu : u ≤ (if neg then 9223372036854775808 else 9223372036854775807)) : refD neg (Lib.decDigits u) = some (if neg then -(u : Int) else u) := by
  have hl := dec_len 18 u (by cases neg <;> simp at hu <;> omega)
  have hv := dec_val u
  rcases hd : Lib.decDigits u with _ | ⟨c, r⟩
  · exact absurd hd (dec_ne u)
  · rw [hd] at hl hv
    simp only [refD]
    rw [if_neg (by omega), if_neg, if_pos hv.2, hv.1, if_neg (by omega)]
    rintro ⟨hc, hr⟩
    by_cases hu0 : 1 ≤ u
    · obtain ⟨x, q, e, hx⟩ := dec_head u hu0
      rw [hd] at e
      exact hx (by rw [← (List.cons.inj e).1]; exact hc)
    · have : u = 0 := by omega
      subst this
      have e0 : Lib.decDigits 0 = [48] := by rw [Lib.decDigits, dif_pos (by omega)]; rfl
      rw [e0] at hd
      rcases hr with hr | hr
      · exact absurd (h1 hr) (by omega)
      · exact hr (List.cons.inj hd).2.symm
theorem intT_show (n : Int) (h0 : -9223372036854775808 ≤ n) (h1 : n ≤ 9223372036854775807) : intT (Lib.itoa n) = some n := by
  apply intT_of_ref
  by_cases hn : n < 0
  · obtain ⟨u, rfl⟩ : ∃ u : Nat, n = -(u : Int) := ⟨n.natAbs, by omega⟩
    rw [Lib.itoa_neg u (by omega)]
    simp only [refI]
    rw [if_pos (by rfl)]
    have := refD_mk true u (by omega) (by simp; omega)
    simpa using this
  · obtain ⟨u, rfl⟩ : ∃ u : Nat, n = (u : Int) := ⟨n.toNat, by omega⟩
    rw [itoa_of_nat]
    have := refD_mk false u (by simp) (by simp; omega)
    rcases hd : Lib.decDigits u with _ | ⟨c, r⟩
    · exact absurd hd (dec_ne u)
    · rw [hd] at this
      simp only [refI]
      rw [if_neg]
      · simpa using this
      · intro hc
        have := (dec_val u).2
        rw [hd, List.all_cons, Bool.and_eq_true] at this
        have : 48 ≤ c.toNat ∧ c.toNat ≤ 57 := by simpa [isDg] using this.1
        omega
end Go.Proofs.YtjjlofaejpnnnaaGreatDoor
namespace Go.Proofs.YtjjlofaejpnnnaaGreatDoor
open Go Go.RowKit
set_option linter.unusedVariables false
/-- what the library's variables hold -/
structure Env (w : World) : Prop where
  syn : ∃ tp p, w.var? Tryz.prog "strconv.ErrSyntax" = some #[.iface tp p]
  rng : ∃ tp p, w.var? Tryz.prog "strconv.ErrRange" = some #[.iface tp p]
  tab : Lib.TabIs Tryz.prog w "internal/strconv.uint64pow10" .u64 Lib.pow10Tab
theorem gSyn : Tryz.prog.globalNamed "strconv.ErrSyntax" = some 1 := by kernel_rfl
theorem gRng : Tryz.prog.globalNamed "strconv.ErrRange" = some 2 := by kernel_rfl
theorem gTab : Tryz.prog.globalNamed "internal/strconv.uint64pow10" = some 5 := by kernel_rfl
theorem var_lt {w : World} {n : String} {g : Nat} {cs : Array Value} (hg : Tryz.prog.globalNamed n = some g) (h : w.var? Tryz.prog n = some cs) : g < w.heap.size := by
  unfold World.var? at h
  simp only [hg, Option.bind_some] at h
  by_cases hl : g < w.heap.size
  · exact hl
  · rw [Array.getElem?_eq_none (by omega)] at h; simp at h
theorem Env.below {w w' : World} (h : Env w) (hb : Below w.heap.size w w') : Env w' := by
  obtain ⟨⟨t1, p1, h1⟩, ⟨t2, p2, h2⟩, h3⟩ := h
  exact ⟨⟨t1, p1, var?_below hb gSyn (var_lt gSyn h1) h1⟩, ⟨t2, p2, var?_below hb gRng (var_lt gRng h2) h2⟩, var?_below hb gTab (var_lt gTab h3) h3⟩
/-- a string told, memory at most grown -/
def Tells (w : World) (l : List UInt8) (e : Ending) (w' : World) : Prop := e = .returned (.string ⟨l.toArray⟩) ∧ Below w.heap.size w w'
set_option maxHeartbeats 400000 in
theorem show_any (n : Int) (w : World) (h0 : -9223372036854775808 ≤ n) (h1 : n ≤ 9223372036854775807) (hE : Env w) : Calls Tryz.prog 60 #[.int .i64 n] w (Tells w (Lib.itoa n)) := by
  have H : Hid (Calls Tryz.prog 95 #[.int .i64 n, .int .i64 10] w (Tells w (Lib.itoa n))) :=
    (Tryz.strconv_FormatInt_10 n h0 h1 w hE.tab).mono fun e w' ⟨he, k, os, hw⟩ => ⟨he, by rw [hw]; exact below_grown_sl _ _ _ _ (Nat.le_refl _)⟩
  clear h0 h1 hE
  go_enter Tryz.func60, Tryz.ntmps60
  go_wp2_with (go_at_call 95; refine H.out.mono ?_; rintro e w' ⟨rfl, hb⟩)
  go_ret
  exact ⟨rfl, hb⟩
/-- a number told, or none -/
def Numbers (w : World) (r : Option Int) (e : Ending) (w' : World) : Prop := e = .returned (.tuple #[.int .i64 (r.getD 0), .int .i64 (if r.isSome then 0 else 2)]) ∧ Below w.heap.size w w'
/-- what ParseInt tells: no error and the number, or an error -/
def Parses (w : World) (l : List UInt8) (e : Ending) (w' : World) : Prop :=
  ∃ (n : Int) (v : Value), e = .returned (.tuple #[.int .i64 n, v]) ∧ Below w.heap.size w w' ∧
    ((v = .nilIface ∧ Lib.parseIntB 64 l = .ok n) ∨ (∃ t p, v = .iface t p) ∧ ∀ u, Lib.parseIntB 64 l ≠ .ok u)
theorem parse_any (s : ByteArray) (w : World) (hs : s.size ≤ 281474976710656) (hE : Env w) : Calls Tryz.prog 74 #[.string s, .int .i64 10, .int .i64 64] w (Parses w s.data.toList) := by
  obtain ⟨⟨t1, p1, h1⟩, ⟨t2, p2, h2⟩, _⟩ := hE
  cases h : Lib.parseIntB 64 s.data.toList with
  | ok v =>
    refine (Tryz.strconv_ParseInt_10_at64_ok s (by omega) v h w).mono fun e w' ⟨he, hw⟩ => ⟨v, .nilIface, he, ?_, .inl ⟨rfl, h⟩⟩
    rcases hw with rfl | ⟨t, rfl⟩
    · exact Below.refl _ _
    · exact Joins.below_bytesWorld _ _ _ _ (Nat.le_refl _)
  | «syntax» =>
    exact (Tryz.strconv_ParseInt_10_at64_syntax_var s hs h t1 p1 w h1).mono fun e w' ⟨N, he, _, _, hb⟩ => ⟨0, _, he, hb, .inr ⟨⟨_, _, rfl⟩, by rw [h]; simp⟩⟩
  | range =>
    exact (Tryz.strconv_ParseInt_10_at64_range_var s hs h t2 p2 w h2).mono fun e w' ⟨N, he, _, _, hb⟩ => ⟨_, _, he, hb, .inr ⟨⟨_, _, rfl⟩, by rw [h]; simp⟩⟩
theorem intT_err {l : List UInt8} (h : ∀ u, Lib.parseIntB 64 l ≠ .ok u) : intT l = none := by
  unfold intT
  cases hp : Lib.parseIntB 64 l with
  | ok u => exact absurd hp (h u)
  | «syntax» => rfl
  | range => rfl
theorem intT_yes {l : List UInt8} {n : Int} (h : Lib.parseIntB 64 l = .ok n) (e : Lib.itoa n = l) : intT l = some n := by
  unfold intT; rw [h]; simp only; rw [if_pos e]
theorem intT_no {l : List UInt8} {n : Int} (h : Lib.parseIntB 64 l = .ok n) (e : ¬ Lib.itoa n = l) : intT l = none := by
  unfold intT; rw [h]; simp only; rw [if_neg e]
set_option maxHeartbeats 400000 in
theorem int_any (s : ByteArray) (w : World) (hs : s.size ≤ 281474976710656) (hE : Env w) : Calls Tryz.prog 39 #[.string s] w (Numbers w (intT s.data.toList)) := by
  have HE := Lib.hid hE
  clear hE
  go_enter Tryz.func39, Tryz.ntmps39
  go_wp2_with fail
  refine (parse_any s w hs HE.out).mono ?_
  rintro e w1 ⟨n, v, rfl, hb, hv⟩
  rcases hv with ⟨rfl, hp⟩ | ⟨⟨t, p, rfl⟩, hno⟩
  · have hbd := Lib.parseIntB_bounds hp
    simp at hbd
    have HS : Hid (Calls Tryz.prog 60 #[.int .i64 n] w1 (Tells w1 (Lib.itoa n))) := show_any n w1 (by omega) (by omega) (HE.out.below hb)
    have HP := Lib.hid hp
    clear hbd hp
    by_cases he : Lib.itoa n = s.data.toList
    · have d1 : (Lib.itoa n == s.toList) = true := by rw [Lib.toList_data, he]; simp
      have HR : Hid (intT s.data.toList = some n) := Lib.hid (intT_yes HP.out he)
      clear he
      go_wp2_with (go_at_call 60; refine HS.out.mono ?_; rintro e w2 ⟨rfl, hb2⟩)
      go_ret2
      exact ⟨by rw [HR.out]; rfl, hb.trans (hb2.mono hb.size)⟩
    · have d1 : (Lib.itoa n == s.toList) = false := by rw [Lib.toList_data]; simpa using he
      have HR : Hid (intT s.data.toList = none) := Lib.hid (intT_no HP.out he)
      clear he
      go_wp2_with (go_at_call 60; refine HS.out.mono ?_; rintro e w2 ⟨rfl, hb2⟩)
      go_ret2
      exact ⟨by rw [HR.out]; rfl, hb.trans (hb2.mono hb.size)⟩
  · have HR : Hid (intT s.data.toList = none) := Lib.hid (intT_err hno)
    clear hno
    go_wp2_with fail
    go_ret2
    exact ⟨by rw [HR.out]; rfl, hb⟩
end Go.Proofs.YtjjlofaejpnnnaaGreatDoor
