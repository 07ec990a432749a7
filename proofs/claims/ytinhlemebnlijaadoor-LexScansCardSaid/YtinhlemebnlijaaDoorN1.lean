/-
  WALKS: letter, inName, Right, Own, and the document's among, Right, Own.
-/
import Derived.Test.YtinhlemebnlijaaDoorN
import Derived.Test.YtinhlemebnlijaaDoorW1
import Derived.Test.YtinhlemebnlijaaDoorB
namespace Go.Proofs.YtinhlemebnlijaaDoor
open Go Go.RowKit
set_option linter.unusedVariables false
/-- a yes or no, the world as it was -/
def Says (w : World) (b : Bool) (e : Ending) (w' : World) : Prop := e = .returned (.bool b) ∧ w = w'
set_option maxHeartbeats 400000 in
theorem letter_any (n : Int) (w : World) : Calls Tryd.prog 52 #[.int .u8 n] w (Says w (letB n)) := by
  go_enter Tryd.func52, Tryd.ntmps52
  go_wp2
  all_goals go_ret
  all_goals refine ⟨ret_bool ?_, rfl⟩
  all_goals (unfold letB; first | (simp [*]; done) | (simp; omega) | (rw [Bool.eq_iff_iff]; simp; omega) | (rw [Bool.eq_iff_iff]; simp [*]; omega))
set_option maxHeartbeats 400000 in
theorem inName_any (n : Int) (w : World) : Calls Tryd.prog 53 #[.int .u8 n] w (Says w (innB n)) := by
  cases hl : letB n with
  | true =>
    have H := Lib.hid hl
    clear hl
    go_enter Tryd.func53, Tryd.ntmps53
    go_wp2_with (go_at_call 52; refine (letter_any n _).mono ?_; rintro e w' ⟨rfl, rfl⟩; rw [H.out])
    all_goals go_ret
    all_goals refine ⟨ret_bool ?_, rfl⟩
    all_goals (unfold innB; rw [H.out]; simp)
  | false =>
    have H := Lib.hid hl
    clear hl
    go_enter Tryd.func53, Tryd.ntmps53
    go_wp2_with (go_at_call 52; refine (letter_any n _).mono ?_; rintro e w' ⟨rfl, rfl⟩; rw [H.out])
    all_goals go_ret
    all_goals refine ⟨ret_bool ?_, rfl⟩
    all_goals (unfold innB; rw [H.out]; first | (simp [*]; done) | (simp; omega))
theorem toList_eq (s : ByteArray) : s.data.toList.length = s.size := by rw [Array.length_toList]; rfl
theorem drop_get' (s : ByteArray) (k : Nat) (h : k < s.size) : s.data.toList.drop k = s[k] :: s.data.toList.drop (k + 1) := by
  rw [List.drop_eq_getElem_cons (by simpa using h)]; rfl
theorem drop_nil' (s : ByteArray) (k : Nat) (h : ¬ k < s.size) : s.data.toList.drop k = [] := List.drop_eq_nil_of_le (by rw [toList_eq]; omega)
theorem right_eq (s : ByteArray) (h : 0 < s.size) : right s.data.toList = (decide (s.size ≤ 32) && letB (s[0].toNat : Int) && (s.data.toList.drop 1).all innC) := by
  have e : s.data.toList = s[0] :: s.data.toList.drop 1 := by have := drop_get' s 0 h; simpa using this
  have hl := toList_eq s
  rw [e] at hl
  rw [e, right]
  simp only [List.length_cons, List.drop_succ_cons, List.drop_zero] at hl ⊢
  congr 2
  rw [Bool.eq_iff_iff]; simp; omega
set_option maxHeartbeats 800000 in
theorem right_any (s : ByteArray) (w : World) (hs : s.size ≤ maxLen) : Calls Tryd.prog 31 #[.string s] w (Says w (right s.data.toList)) := by
  unfold maxLen at hs
  by_cases h0 : 0 < s.size
  · have hR := right_eq s h0
    have d0 : ((s.size : Int) == 0) = false := by rw [beq_eq_false_iff_ne]; omega
    by_cases h1 : s.size ≤ 32
    · have d1 : decide ((32 : Int) < (s.size : Int)) = false := by simp; omega
      cases hl : letB (s[0].toNat : Int) with
      | false =>
        have H := Lib.hid hl
        have HR : Hid (right s.data.toList = false) := Lib.hid (by rw [hR, hl]; simp)
        clear hR hl
        go_enter Tryd.func31, Tryd.ntmps31
        go_wp2_with (go_at_call 52; refine (letter_any _ _).mono ?_; rintro e w' ⟨rfl, rfl⟩; rw [H.out])
        go_ret
        exact ⟨ret_bool HR.out.symm, rfl⟩
      | true =>
        have H := Lib.hid hl
        have HR : Hid (right s.data.toList = (s.data.toList.drop 1).all innC) := Lib.hid (by rw [hR, hl]; simp [h1])
        clear hR hl
        go_enter Tryd.func31, Tryd.ntmps31
        go_wp2_with (go_at_call 52; refine (letter_any _ _).mono ?_; rintro e w' ⟨rfl, rfl⟩; rw [H.out])
        go_loop [3] (fun i => ∃ k : Nat, 1 ≤ k ∧ k ≤ s.size ∧ i = .int .i64 k ∧ Hid (right s.data.toList = (s.data.toList.drop k).all innC)) (fun i => s.size - (intOf i).toNat)
        case atStart => exact ⟨1, by omega, by omega, rfl, HR⟩
        case round =>
          obtain ⟨k, hk1, hk, rfl, HK⟩ := hrel
          by_cases hlt : k < s.size
          · cases hn : innB (s[k].toNat : Int) with
            | true =>
              have HN := Lib.hid hn
              have HX : Hid (right s.data.toList = (s.data.toList.drop (k + 1)).all innC) := Lib.hid (by rw [HK.out, drop_get' s k hlt, List.all_cons]; simp [innC, hn])
              clear hn
              go_wp2_with (go_at_call 53; refine (inName_any _ _).mono ?_; rintro e w' ⟨rfl, rfl⟩; rw [HN.out])
              go_round
              case rel => exact ⟨k + 1, by omega, by omega, by go_num, HX⟩
              case measure => simp [intOf]; omega
            | false =>
              have HN := Lib.hid hn
              have HX : Hid (right s.data.toList = false) := Lib.hid (by rw [HK.out, drop_get' s k hlt, List.all_cons]; simp [innC, hn])
              clear hn
              go_wp2_with (go_at_call 53; refine (inName_any _ _).mono ?_; rintro e w' ⟨rfl, rfl⟩; rw [HN.out])
              go_ret
              exact ⟨ret_bool HX.out.symm, rfl⟩
          · have HX : Hid (right s.data.toList = true) := Lib.hid (by rw [HK.out, drop_nil' s k hlt]; rfl)
            go_wp2
            go_ret
            exact ⟨ret_bool HX.out.symm, rfl⟩
    · have d1 : decide ((32 : Int) < (s.size : Int)) = true := by simp; omega
      have HR : Hid (right s.data.toList = false) := Lib.hid (by rw [hR]; simp [h1])
      clear hR
      go_enter Tryd.func31, Tryd.ntmps31
      go_wp2_with fail
      go_ret
      exact ⟨ret_bool HR.out.symm, rfl⟩
  · have hnil : s.data.toList = [] := List.length_eq_zero_iff.1 (by rw [toList_eq]; omega)
    have HR : Hid (right s.data.toList = false) := Lib.hid (by rw [hnil]; rfl)
    have d0 : ((s.size : Int) == 0) = true := by rw [beq_iff_eq]; omega
    clear hnil
    go_enter Tryd.func31, Tryd.ntmps31
    go_wp2_with fail
    go_ret
    exact ⟨ret_bool HR.out.symm, rfl⟩
end Go.Proofs.YtinhlemebnlijaaDoor
