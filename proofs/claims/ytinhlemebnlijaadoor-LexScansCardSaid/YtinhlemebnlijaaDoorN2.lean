/-
  WALKS: the document's among and Right; Own, both.
-/
import Derived.Test.YtinhlemebnlijaaDoorN1
namespace Go.Proofs.YtinhlemebnlijaaDoor
open Go Go.RowKit
set_option linter.unusedVariables false
def hasB (l : List UInt8) (c : UInt8) : Bool := l.contains c
set_option maxHeartbeats 400000 in
theorem among_any (c : UInt8) (s : ByteArray) (w : World) (hs : s.size ≤ maxLen) : Calls Tryd.prog 59 #[.int .u8 c.toNat, .string s] w (Says w (hasB s.data.toList c)) := by
  unfold maxLen at hs
  have hc := c.toNat_lt
  go_enter Tryd.func59, Tryd.ntmps59
  go_wp2_with fail
  go_loop [5] (fun i => ∃ k : Nat, k ≤ s.size ∧ i = .int .i64 k ∧ Hid (hasB s.data.toList c = (s.data.toList.drop k).contains c)) (fun i => s.size - (intOf i).toNat)
  case atStart => exact ⟨0, by omega, rfl, Lib.hid (by simp [hasB])⟩
  case round =>
    obtain ⟨k, hk, rfl, HK⟩ := hrel
    by_cases hlt : k < s.size
    · by_cases he : s[k] = c
      · have d1 : ((s[k].toNat : Int) == (c.toNat : Int)) = true := by rw [beq_iff_eq, he]
        have HX : Hid (hasB s.data.toList c = true) := Lib.hid (by rw [HK.out, drop_get' s k hlt, he]; simp)
        clear he
        go_wp2
        go_ret
        exact ⟨ret_bool HX.out.symm, rfl⟩
      · have hne : s[k].toNat ≠ c.toNat := fun e => he (UInt8.toNat_inj.1 e)
        have d1 : ((s[k].toNat : Int) == (c.toNat : Int)) = false := by rw [beq_eq_false_iff_ne]; omega
        have HX : Hid (hasB s.data.toList c = (s.data.toList.drop (k + 1)).contains c) := Lib.hid (by rw [HK.out, drop_get' s k hlt]; simp; exact fun e => absurd e.symm he)
        clear he hne
        go_wp2
        go_round
        case rel => exact ⟨k + 1, by omega, by go_num, HX⟩
        case measure => simp [intOf]; omega
    · have HX : Hid (hasB s.data.toList c = false) := Lib.hid (by rw [HK.out, drop_nil' s k hlt]; rfl)
      go_wp2
      go_ret
      exact ⟨ret_bool HX.out.symm, rfl⟩
theorem letters_are (c : UInt8) : (⟨#[65, 66, 67, 68, 69, 70, 71, 72, 73, 74, 75, 76, 77, 78, 79, 80, 81, 82, 83, 84, 85, 86, 87, 88, 89, 90, 97, 98, 99, 100, 101, 102, 103, 104, 105, 106, 107, 108, 109, 110, 111, 112, 113, 114, 115, 116, 117, 118, 119, 120, 121, 122]⟩ : ByteArray).data.toList.contains c = letB (c.toNat : Int) := by
  revert c; apply all256; decide +kernel
theorem names_are (c : UInt8) : (⟨#[65, 66, 67, 68, 69, 70, 71, 72, 73, 74, 75, 76, 77, 78, 79, 80, 81, 82, 83, 84, 85, 86, 87, 88, 89, 90, 97, 98, 99, 100, 101, 102, 103, 104, 105, 106, 107, 108, 109, 110, 111, 112, 113, 114, 115, 116, 117, 118, 119, 120, 121, 122, 48, 49, 50, 51, 52, 53, 54, 55, 56, 57, 95]⟩ : ByteArray).data.toList.contains c = innB (c.toNat : Int) := by
  revert c; apply all256; decide +kernel
def digB (n : Int) : Bool := decide (48 ≤ n ∧ n ≤ 57)
theorem figures_are (c : UInt8) : (⟨#[48, 49, 50, 51, 52, 53, 54, 55, 56, 57]⟩ : ByteArray).data.toList.contains c = digB (c.toNat : Int) := by
  revert c; apply all256; decide +kernel
theorem among_letters (c : UInt8) (w : World) : Calls Tryd.prog 59 #[.int .u8 c.toNat, .string ⟨#[65, 66, 67, 68, 69, 70, 71, 72, 73, 74, 75, 76, 77, 78, 79, 80, 81, 82, 83, 84, 85, 86, 87, 88, 89, 90, 97, 98, 99, 100, 101, 102, 103, 104, 105, 106, 107, 108, 109, 110, 111, 112, 113, 114, 115, 116, 117, 118, 119, 120, 121, 122]⟩] w (Says w (letB (c.toNat : Int))) := by
  have h := among_any c ⟨#[65, 66, 67, 68, 69, 70, 71, 72, 73, 74, 75, 76, 77, 78, 79, 80, 81, 82, 83, 84, 85, 86, 87, 88, 89, 90, 97, 98, 99, 100, 101, 102, 103, 104, 105, 106, 107, 108, 109, 110, 111, 112, 113, 114, 115, 116, 117, 118, 119, 120, 121, 122]⟩ w (by decide)
  unfold hasB at h; rwa [letters_are] at h
theorem among_names (c : UInt8) (w : World) : Calls Tryd.prog 59 #[.int .u8 c.toNat, .string ⟨#[65, 66, 67, 68, 69, 70, 71, 72, 73, 74, 75, 76, 77, 78, 79, 80, 81, 82, 83, 84, 85, 86, 87, 88, 89, 90, 97, 98, 99, 100, 101, 102, 103, 104, 105, 106, 107, 108, 109, 110, 111, 112, 113, 114, 115, 116, 117, 118, 119, 120, 121, 122, 48, 49, 50, 51, 52, 53, 54, 55, 56, 57, 95]⟩] w (Says w (innB (c.toNat : Int))) := by
  have h := among_any c ⟨#[65, 66, 67, 68, 69, 70, 71, 72, 73, 74, 75, 76, 77, 78, 79, 80, 81, 82, 83, 84, 85, 86, 87, 88, 89, 90, 97, 98, 99, 100, 101, 102, 103, 104, 105, 106, 107, 108, 109, 110, 111, 112, 113, 114, 115, 116, 117, 118, 119, 120, 121, 122, 48, 49, 50, 51, 52, 53, 54, 55, 56, 57, 95]⟩ w (by decide)
  unfold hasB at h; rwa [names_are] at h
theorem among_figures (c : UInt8) (w : World) : Calls Tryd.prog 59 #[.int .u8 c.toNat, .string ⟨#[48, 49, 50, 51, 52, 53, 54, 55, 56, 57]⟩] w (Says w (digB (c.toNat : Int))) := by
  have h := among_any c ⟨#[48, 49, 50, 51, 52, 53, 54, 55, 56, 57]⟩ w (by decide)
  unfold hasB at h; rwa [figures_are] at h
set_option maxHeartbeats 800000 in
theorem refRight_any (s : ByteArray) (w : World) (hs : s.size ≤ maxLen) : Calls Tryd.prog 41 #[.string s] w (Says w (right s.data.toList)) := by
  unfold maxLen at hs
  by_cases h0 : 0 < s.size
  · have hR := right_eq s h0
    have d0 : decide ((s.size : Int) < 1) = false := by simp; omega
    by_cases h1 : s.size ≤ 32
    · have d1 : decide ((32 : Int) < (s.size : Int)) = false := by simp; omega
      cases hl : letB (s[0].toNat : Int) with
      | false =>
        have H := Lib.hid hl
        have HR : Hid (right s.data.toList = false) := Lib.hid (by rw [hR, hl]; simp)
        clear hR hl
        go_enter Tryd.func41, Tryd.ntmps41
        go_wp2_with (go_at_call 59; refine (among_letters _ _).mono ?_; rintro e w' ⟨rfl, rfl⟩; rw [H.out])
        go_ret
        exact ⟨ret_bool HR.out.symm, rfl⟩
      | true =>
        have H := Lib.hid hl
        have HR : Hid (right s.data.toList = (s.data.toList.drop 1).all innC) := Lib.hid (by rw [hR, hl]; simp [h1])
        clear hR hl
        go_enter Tryd.func41, Tryd.ntmps41
        go_wp2_with (go_at_call 59; refine (among_letters _ _).mono ?_; rintro e w' ⟨rfl, rfl⟩; rw [H.out])
        go_loop [3] (fun i => ∃ k : Nat, 1 ≤ k ∧ k ≤ s.size ∧ i = .int .i64 k ∧ Hid (right s.data.toList = (s.data.toList.drop k).all innC)) (fun i => s.size - (intOf i).toNat)
        case atStart => exact ⟨1, by omega, by omega, rfl, HR⟩
        case round =>
          obtain ⟨k, hk1, hk, rfl, HK⟩ := hrel
          by_cases hlt : k < s.size
          · cases hn : innB (s[k].toNat : Int) with
            | true =>
              have HN := Lib.hid hn
              have HX : Hid (right s.data.toList = (s.data.toList.drop (k + 1)).all innC) := Lib.hid (by rw [HK.out, drop_get' s k hlt, List.all_cons]; simp [innC, hn])
              clear hn
              go_wp2_with (go_at_call 59; refine (among_names _ _).mono ?_; rintro e w' ⟨rfl, rfl⟩; rw [HN.out])
              go_round
              case rel => exact ⟨k + 1, by omega, by omega, by go_num, HX⟩
              case measure => simp [intOf]; omega
            | false =>
              have HN := Lib.hid hn
              have HX : Hid (right s.data.toList = false) := Lib.hid (by rw [HK.out, drop_get' s k hlt, List.all_cons]; simp [innC, hn])
              clear hn
              go_wp2_with (go_at_call 59; refine (among_names _ _).mono ?_; rintro e w' ⟨rfl, rfl⟩; rw [HN.out])
              go_ret
              exact ⟨ret_bool HX.out.symm, rfl⟩
          · have HX : Hid (right s.data.toList = true) := Lib.hid (by rw [HK.out, drop_nil' s k hlt]; rfl)
            go_wp2
            go_ret
            exact ⟨ret_bool HX.out.symm, rfl⟩
    · have d1 : decide ((32 : Int) < (s.size : Int)) = true := by simp; omega
      have HR : Hid (right s.data.toList = false) := Lib.hid (by rw [hR]; simp [h1])
      clear hR
      go_enter Tryd.func41, Tryd.ntmps41
      go_wp2_with fail
      go_ret
      exact ⟨ret_bool HR.out.symm, rfl⟩
  · have hnil : s.data.toList = [] := List.length_eq_zero_iff.1 (by rw [toList_eq]; omega)
    have HR : Hid (right s.data.toList = false) := Lib.hid (by rw [hnil]; rfl)
    have d0 : decide ((s.size : Int) < 1) = true := by simp; omega
    clear hnil
    go_enter Tryd.func41, Tryd.ntmps41
    go_wp2_with fail
    go_ret
    exact ⟨ret_bool HR.out.symm, rfl⟩
theorem own_eq (s : ByteArray) (h : 0 < s.size) : ownN s.data.toList = (s[0] == 63 && right (s.data.toList.drop 1)) := by
  have e : s.data.toList = s[0] :: s.data.toList.drop 1 := by have := drop_get' s 0 h; simpa using this
  rw [e]; rfl
theorem behind1 (s : ByteArray) : (s.extract 1 s.size).data.toList = s.data.toList.drop 1 := by
  rw [Lib.extract_data, List.take_of_length_le (by rw [List.length_drop, toList_eq]; omega)]
theorem right_is (s : ByteArray) (b : Bool) (w : World) (hs : s.size ≤ maxLen) (h : right s.data.toList = b) : Calls Tryd.prog 31 #[.string s] w (Says w b) := h ▸ right_any s w hs
theorem refRight_is (s : ByteArray) (b : Bool) (w : World) (hs : s.size ≤ maxLen) (h : right s.data.toList = b) : Calls Tryd.prog 41 #[.string s] w (Says w b) := h ▸ refRight_any s w hs
theorem behind1_size (s : ByteArray) (hs : s.size ≤ maxLen) : (s.extract 1 s.size).size ≤ maxLen := by
  rw [← toList_eq, behind1, List.length_drop, toList_eq]; omega
end Go.Proofs.YtinhlemebnlijaaDoor
