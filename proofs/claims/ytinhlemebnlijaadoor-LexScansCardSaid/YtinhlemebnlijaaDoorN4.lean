/-
  WALKS: the document's Show and Int.
-/
import Derived.Test.YtinhlemebnlijaaDoorN3
namespace Go.Proofs.YtinhlemebnlijaaDoor
open Go Go.RowKit
set_option linter.unusedVariables false
/-- the digits of a number, none of nought -/
def decN (m : Nat) : List UInt8 := if m = 0 then [] else Lib.decDigits m
theorem decN_step (m : Nat) (h : m ≠ 0) : decN m = decN (m / 10) ++ [UInt8.ofNat (48 + m % 10)] := by
  unfold decN
  rw [if_neg h]
  by_cases h10 : m < 10
  · rw [if_pos (by omega), Lib.decDigits, dif_pos h10, Nat.mod_eq_of_lt h10]; rfl
  · rw [if_neg (by omega), Lib.decDigits, dif_neg h10]
theorem figure_at (k : Nat) (h : k < 10) : ((⟨#[48, 49, 50, 51, 52, 53, 54, 55, 56, 57]⟩ : ByteArray).extract k (k + 1)).data.toList = [UInt8.ofNat (48 + k)] := by
  rw [Lib.extract_data]
  have : ∀ k : Fin 10, ((([48, 49, 50, 51, 52, 53, 54, 55, 56, 57] : List UInt8).drop k.val).take (k.val + 1 - k.val)) = [UInt8.ofNat (48 + k.val)] := by decide
  exact this ⟨k, h⟩
def ShowRel (w : World) (U : List UInt8) (m s : Value) (wr : World) : Prop :=
  ∃ (M : Nat) (S : ByteArray), m = .int .u64 M ∧ (M : Int) < 18446744073709551616 ∧ s = .string S ∧ decN M ++ S.data.toList = U ∧ wr = w
theorem cat_list (a b : ByteArray) : (a ++ b).data.toList = a.data.toList ++ b.data.toList := by rw [ByteArray.data_append, Array.toList_append]
theorem piece (M : Nat) (S : ByteArray) : (((⟨#[48, 49, 50, 51, 52, 53, 54, 55, 56, 57]⟩ : ByteArray).extract (M % 10) (M % 10 + 1)) ++ S).data.toList = UInt8.ofNat (48 + M % 10) :: S.data.toList := by
  rw [cat_list, figure_at _ (by omega)]; rfl
structure InU64 (M : Nat) : Prop where
  out : (M : Int) < 18446744073709551616
structure UpTo63 (U : Nat) : Prop where
  out : U ≤ 9223372036854775808
theorem wrap_tenth {M : Nat} (h : InU64 M) : IntKind.u64.wrap ((M : Int) / 10) = ((M / 10 : Nat) : Int) := by
  have h := h.out
  rw [IntWalk.u64_in _ (by omega)]; omega
theorem size_of_digits {U M : Nat} {S : ByteArray} (hU : UpTo63 U) (h : decN M ++ S.data.toList = Lib.decDigits U) : S.size ≤ 19 := by
  have hU := hU.out
  have a := dec_len 18 U (by omega)
  rw [← h, List.length_append, toList_eq] at a
  omega
theorem ret_str {x : ByteArray} {l : List UInt8} (h : x.data.toList = l) : Ending.returned (.string x) = .returned (.string ⟨l.toArray⟩) := by
  have : x = ⟨l.toArray⟩ := by apply ByteArray.ext; rw [← h]
  rw [this]
set_option maxHeartbeats 800000 in
theorem refShow_any (n : Int) (w : World) (h0 : -9223372036854775808 ≤ n) (h1 : n ≤ 9223372036854775807) : Calls Tryd.prog 50 #[.int .i64 n] w (Tells w (Lib.itoa n)) := by
  by_cases hn : n = 0
  · subst hn
    have e : Lib.itoa 0 = [48] := by unfold Lib.itoa; rw [if_neg (by omega)]; rw [Lib.decDigits, dif_pos (by decide)]; rfl
    rw [e]
    go_enter Tryd.func50, Tryd.ntmps50
    go_wp2_with fail
    go_ret
    exact ⟨rfl, Below.refl _ _⟩
  · have d0 : (n == 0) = false := by rw [beq_eq_false_iff_ne]; exact hn
    by_cases hneg : n < 0
    · obtain ⟨U, hU⟩ : ∃ U : Nat, -(n + 1) + 1 = (U : Int) := ⟨n.natAbs, by omega⟩
      have hU1 : 1 ≤ U := by omega
      have HU : UpTo63 U := ⟨by omega⟩
      have UX : Hid (Lib.itoa n = 45 :: Lib.decDigits U) := Lib.hid (by
        have e : n = -(U : Int) := by omega
        rw [e, Lib.itoa_neg U hU1])
      go_enter Tryd.func50, Tryd.ntmps50
      go_wp2_with fail
      go_loopw [3, 5] (fun m s wr => ShowRel w (Lib.decDigits U) m s wr) (fun m _ _ => (intOf m).toNat)
      case atStart => exact ⟨U, ⟨#[]⟩, by first | rfl | (congr 1; omega), by omega, rfl, by unfold decN; rw [if_neg (by omega)]; simp, rfl⟩
      case round =>
        obtain ⟨M, S, rfl, hM, rfl, hd, rfl⟩ := hrel
        have HM : InU64 M := ⟨hM⟩
        clear hM h0 h1
        have HS20 := Lib.hid (size_of_digits HU hd)
        have HD := Lib.hid hd
        clear hd
        by_cases hm : M = 0
        · have hS := HD.out
          rw [hm] at hS
          have HS : Hid (S.data.toList = Lib.decDigits U) := Lib.hid (by simpa [decN] using hS)
          clear hS
          have d1 : ¬ (0 : Int) < (M : Int) := by omega
          go_wp2_with fail
          · exfalso; have := HS20.out; omega
          go_ret
          exact ⟨ret_str (by rw [cat_list, HS.out, UX.out]; rfl), Below.refl _ _⟩
        · have d1 : (0 : Int) < (M : Int) := by omega
          have HX : Hid (decN (M / 10) ++ (((⟨#[48, 49, 50, 51, 52, 53, 54, 55, 56, 57]⟩ : ByteArray).extract (M % 10) (M % 10 + 1)) ++ S).data.toList = Lib.decDigits U) := Lib.hid (by rw [piece, ← HD.out, decN_step M hm]; simp)
          have hr : M % 10 < 10 := by omega
          go_wp2_with fail
          · exfalso; have := HS20.out; omega
          exact ⟨⟨M / 10, _, by rw [wrap_tenth HM], by have := HM.out; omega, rfl, HX.out, rfl⟩, by rw [wrap_tenth HM]; simp [intOf]; omega⟩
    · obtain ⟨U, rfl⟩ : ∃ U : Nat, n = (U : Int) := ⟨n.toNat, by omega⟩
      have hU1 : 1 ≤ U := by omega
      have HU : UpTo63 U := ⟨by omega⟩
      have UX : Hid (Lib.itoa (U : Int) = Lib.decDigits U) := Lib.hid (itoa_of_nat U)
      go_enter Tryd.func50, Tryd.ntmps50
      go_wp2_with fail
      go_loopw [3, 5] (fun m s wr => ShowRel w (Lib.decDigits U) m s wr) (fun m _ _ => (intOf m).toNat)
      case atStart => exact ⟨U, ⟨#[]⟩, by first | rfl | (congr 1; omega), by omega, rfl, by unfold decN; rw [if_neg (by omega)]; simp, rfl⟩
      case round =>
        obtain ⟨M, S, rfl, hM, rfl, hd, rfl⟩ := hrel
        have HM : InU64 M := ⟨hM⟩
        clear hM h0 h1
        have HS20 := Lib.hid (size_of_digits HU hd)
        have HD := Lib.hid hd
        clear hd
        by_cases hm : M = 0
        · have hS := HD.out
          rw [hm] at hS
          have HS : Hid (S.data.toList = Lib.decDigits U) := Lib.hid (by simpa [decN] using hS)
          clear hS
          have d1 : ¬ (0 : Int) < (M : Int) := by omega
          go_wp2_with fail
          · exfalso; have := HS20.out; omega
          go_ret
          exact ⟨ret_str (by rw [cat_list, HS.out, UX.out]; rfl), Below.refl _ _⟩
        · have d1 : (0 : Int) < (M : Int) := by omega
          have HX : Hid (decN (M / 10) ++ (((⟨#[48, 49, 50, 51, 52, 53, 54, 55, 56, 57]⟩ : ByteArray).extract (M % 10) (M % 10 + 1)) ++ S).data.toList = Lib.decDigits U) := Lib.hid (by rw [piece, ← HD.out, decN_step M hm]; simp)
          have hr : M % 10 < 10 := by omega
          go_wp2_with fail
          · exfalso; have := HS20.out; omega
          exact ⟨⟨M / 10, _, by rw [wrap_tenth HM], by have := HM.out; omega, rfl, HX.out, rfl⟩, by rw [wrap_tenth HM]; simp [intOf]; omega⟩
end Go.Proofs.YtinhlemebnlijaaDoor
