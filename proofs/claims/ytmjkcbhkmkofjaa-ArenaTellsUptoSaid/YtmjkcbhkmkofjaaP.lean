/-
  PLAIN VALUES: what a word is, what a model is. No program stands in it.
-/
import Derived.Test.YtmjkcbhkmkofjaaM
namespace Go.Proofs.Ytmjkcbhkmkofjaa
open Go Go.RowKit
set_option linter.unusedVariables false

/-! ### words -/
def letB (n : Int) : Bool := decide (65 ≤ n ∧ n ≤ 90) || decide (97 ≤ n ∧ n ≤ 122)
def innB (n : Int) : Bool := letB n || decide (48 ≤ n ∧ n ≤ 57) || n == 95
def innC (c : UInt8) : Bool := innB (c.toNat : Int)
def nameL : List UInt8 → Bool
  | [] => false
  | c :: r => decide (r.length < 32) && letB (c.toNat : Int) && r.all innC
def stripL : List UInt8 → List UInt8
  | [] => []
  | c :: r => if c = 63 then r else c :: r
def wordL (l : List UInt8) : Bool := nameL (stripL l)
def wordB (s : ByteArray) : Bool := wordL s.data.toList

theorem toList_eq (s : ByteArray) : s.data.toList.length = s.size := by rw [Array.length_toList]; rfl
theorem drop_get' (s : ByteArray) (k : Nat) (h : k < s.size) : s.data.toList.drop k = s[k] :: s.data.toList.drop (k + 1) := by
  rw [List.drop_eq_getElem_cons (by simpa using h)]; rfl
theorem drop_nil' (s : ByteArray) (k : Nat) (h : ¬ k < s.size) : s.data.toList.drop k = [] := List.drop_eq_nil_of_le (by rw [toList_eq]; omega)
theorem behind1 (s : ByteArray) : (s.extract 1 s.size).data.toList = s.data.toList.drop 1 := by
  rw [Lib.extract_data, List.take_of_length_le (by rw [List.length_drop, toList_eq]; omega)]
theorem behind1_size (s : ByteArray) (h : 0 < s.size) : (s.extract 1 s.size).size + 1 = s.size := by
  rw [← toList_eq, behind1, List.length_drop, toList_eq]; omega
theorem name_eq (s : ByteArray) (h : 0 < s.size) : nameL s.data.toList = (decide (s.size ≤ 32) && letB (s[0].toNat : Int) && (s.data.toList.drop 1).all innC) := by
  have e : s.data.toList = s[0] :: s.data.toList.drop 1 := by have := drop_get' s 0 h; simpa using this
  have hl := toList_eq s
  rw [e] at hl
  rw [e, nameL]
  simp only [List.length_cons, List.drop_succ_cons, List.drop_zero] at hl ⊢
  congr 2
  rw [Bool.eq_iff_iff]; simp; omega
theorem name_nil (s : ByteArray) (h : ¬ 0 < s.size) : nameL s.data.toList = false := by
  rw [List.length_eq_zero_iff.1 (by rw [toList_eq]; omega : s.data.toList.length = 0)]; rfl
theorem word_q (s : ByteArray) (h : 0 < s.size) (hc : s[0].toNat = 63) : wordB s = nameL (s.extract 1 s.size).data.toList := by
  have e : s.data.toList = s[0] :: s.data.toList.drop 1 := by have := drop_get' s 0 h; simpa using this
  rw [behind1]
  unfold wordB wordL
  conv => lhs; rw [e]
  rw [stripL, if_pos (UInt8.toNat_inj.1 hc)]
theorem word_p (s : ByteArray) (h : ∀ h : 0 < s.size, s[0].toNat ≠ 63) : wordB s = nameL s.data.toList := by
  unfold wordB wordL
  by_cases h0 : 0 < s.size
  · have e : s.data.toList = s[0] :: s.data.toList.drop 1 := by have := drop_get' s 0 h0; simpa using this
    have : stripL s.data.toList = s.data.toList := by
      conv => lhs; rw [e]
      rw [stripL, if_neg (fun hc => h h0 (by rw [hc]; rfl)), ← e]
    rw [this]
  · rw [List.length_eq_zero_iff.1 (by rw [toList_eq]; omega : s.data.toList.length = 0)]; rfl

theorem letB_inn {n : Int} (h : letB n = true) : innB n = true := by unfold innB; rw [h]; rfl
theorem all_inn (s : ByteArray) (h : 0 < s.size) (hl : letB (s[0].toNat : Int) = true) : (s.data.toList.drop 1).all innC = s.data.toList.all innC := by
  have e : s.data.toList = s[0] :: s.data.toList.drop 1 := by have := drop_get' s 0 h; simpa using this
  conv => rhs; rw [e]
  rw [List.all_cons]
  simp [innC, letB_inn hl]
theorem ret_bool {a b : Bool} (h : a = b) : Ending.returned (.bool a) = .returned (.bool b) := by rw [h]
theorem ret_int {k : IntKind} {a b : Int} (h : a = b) : Ending.returned (.int k a) = .returned (.int k b) := by rw [h]
end Go.Proofs.Ytmjkcbhkmkofjaa
