/-
  WALKS: Word, of the program and of the document.
-/
import Derived.Test.YtmjkcbhkmkofjaaRows
import Derived.Test.YtmjkcbhkmkofjaaP
import Derived.WalkSpells
import Derived.WalkLawsBesides
import Derived.Test.YtmjkcbhkmkofjaaShelf
namespace Go.Proofs.Ytmjkcbhkmkofjaa
open Go Go.RowKit
set_option linter.unusedVariables false

/-- a yes or no, the world as it was -/
def Says (w : World) (b : Bool) (e : Ending) (w' : World) : Prop := e = .returned (.bool b) ∧ w = w'
theorem says_ret {b : Bool} {w : World} {P : Program} {f : FuncId} {args : Array Value} (h : Calls P f args w (Says w b)) : Calls P f args w (Ret w (.bool b)) :=
  h.mono fun e w' ⟨he, hw⟩ => ⟨he, by rw [← hw]; exact Below.refl _ _⟩

set_option maxHeartbeats 400000 in
theorem letter_any (n : Int) (w : World) : Calls Try.prog 127 #[.int .u8 n] w (Says w (letB n)) := by
  go_enter Try.func127, Try.ntmps127
  go_wp2
  all_goals go_ret
  all_goals refine ⟨ret_bool ?_, rfl⟩
  all_goals (unfold letB; first | (simp [*]; done) | (simp; omega) | (rw [Bool.eq_iff_iff]; simp; omega) | (rw [Bool.eq_iff_iff]; simp [*]; omega))

/-- a text without a sign of the workbench's own ahead of it -/
def strip (s : ByteArray) : ByteArray := if h : 0 < s.size then (if s[0].toNat = 63 then s.extract 1 s.size else s) else s
theorem strip_word (s : ByteArray) : wordB s = nameL (strip s).data.toList := by
  unfold strip
  by_cases h : 0 < s.size
  · rw [dif_pos h]
    by_cases hc : s[0].toNat = 63
    · rw [if_pos hc]; exact word_q s h hc
    · rw [if_neg hc]; exact word_p s (fun _ => hc)
  · rw [dif_neg h]; exact word_p s (fun h' => absurd h' h)
theorem strip_le (s : ByteArray) : (strip s).size ≤ s.size := by
  unfold strip
  split
  · split
    · have := behind1_size s ‹_›; omega
    · exact Nat.le_refl _
  · exact Nat.le_refl _
theorem trim_strip (s : ByteArray) : (⟨(Lib.trimPrefix s.data.toList [63]).toArray⟩ : ByteArray) = strip s := by
  apply ByteArray.ext
  unfold Lib.trimPrefix Lib.hasPrefix strip
  by_cases h : 0 < s.size
  · have e : s.data.toList = s[0] :: s.data.toList.drop 1 := by have := drop_get' s 0 h; simpa using this
    rw [dif_pos h]
    by_cases hc : s[0].toNat = 63
    · have e63 : s[0] = 63 := UInt8.toNat_inj.1 hc
      rw [if_pos hc, if_pos (by rw [e, e63]; simp [List.isPrefixOf])]
      apply Array.toList_inj.1
      rw [behind1]
      simp
    · have e63 : ¬ s[0] = 63 := fun e => hc (by rw [e]; rfl)
      rw [if_neg hc, if_neg (by rw [e]; simp only [List.isPrefixOf, Bool.and_eq_true, beq_iff_eq]; exact fun h => e63 h.1.symm)]
  · have h0 : s.data.toList = [] := List.length_eq_zero_iff.1 (by rw [toList_eq]; omega)
    rw [dif_neg h, if_neg (by rw [h0]; simp [List.isPrefixOf])]
theorem trim_q (s : ByteArray) (w : World) : Calls Try.prog 126 #[.string s, .string ⟨#[63]⟩] w fun e w' => e = .returned (.string (strip s)) ∧ w = w' := by
  refine (Try.strings_TrimPrefix s ⟨#[63]⟩ w).mono ?_
  rintro e w' ⟨rfl, rfl⟩
  exact ⟨by rw [← trim_strip s], rfl⟩

set_option maxHeartbeats 800000 in
theorem name_walk (s x : ByteArray) (w : World) (hx : strip s = x) (hs : x.size ≤ maxLen) : Calls Try.prog 94 #[.string s] w (Says w (nameL x.data.toList)) := by
  unfold maxLen at hs
  have HX := Lib.hid hx
  clear hx
  by_cases h0 : 0 < x.size
  · have hR := name_eq x h0
    have d0 : ((x.size : Int) == 0) = false := by rw [beq_eq_false_iff_ne]; omega
    by_cases h1 : x.size ≤ 32
    · have d1 : decide ((32 : Int) < (x.size : Int)) = false := by simp; omega
      cases hl : letB (x[0].toNat : Int) with
      | false =>
        have H := Lib.hid hl
        have HR : Hid (nameL x.data.toList = false) := Lib.hid (by rw [hR, hl]; simp)
        clear hR hl
        go_enter Try.func94, Try.ntmps94
        go_wp2_with (first | (go_at_call 126; refine (trim_q _ _).mono ?_; rintro e w' ⟨rfl, rfl⟩; rw [HX.out]) | (go_at_call 127; refine (letter_any _ _).mono ?_; rintro e w' ⟨rfl, rfl⟩; rw [H.out]))
        go_ret
        exact ⟨ret_bool HR.out.symm, rfl⟩
      | true =>
        have H := Lib.hid hl
        have HR : Hid (nameL x.data.toList = (x.data.toList.drop 1).all innC) := Lib.hid (by rw [hR, hl]; simp [h1])
        clear hR hl
        go_enter Try.func94, Try.ntmps94
        go_wp2_with (first | (go_at_call 126; refine (trim_q _ _).mono ?_; rintro e w' ⟨rfl, rfl⟩; rw [HX.out]) | (go_at_call 127; refine (letter_any _ _).mono ?_; rintro e w' ⟨rfl, rfl⟩; rw [H.out]))
        go_loop [3] (fun i => ∃ k : Nat, 1 ≤ k ∧ k ≤ x.size ∧ i = .int .i64 k ∧ Hid (nameL x.data.toList = (x.data.toList.drop k).all innC)) (fun i => x.size - (intOf i).toNat)
        case atStart => exact ⟨1, by omega, by omega, rfl, HR⟩
        case round =>
          obtain ⟨k, hk1, hk, rfl, HK⟩ := hrel
          by_cases hlt : k < x.size
          · cases hn : letB (x[k].toNat : Int) with
            | true =>
              have HN := Lib.hid hn
              have HY : Hid (nameL x.data.toList = (x.data.toList.drop (k + 1)).all innC) := Lib.hid (by rw [HK.out, drop_get' x k hlt, List.all_cons]; simp [innC, innB, hn])
              clear hn
              go_wp2_with (go_at_call 127; refine (letter_any _ _).mono ?_; rintro e w' ⟨rfl, rfl⟩; rw [HN.out])
              go_round
              case rel => exact ⟨k + 1, by omega, by omega, by go_num, HY⟩
              case measure => simp [intOf]; omega
            | false =>
              have HN := Lib.hid hn
              have HY : Hid (nameL x.data.toList = ((decide (48 ≤ (x[k].toNat : Int) ∧ (x[k].toNat : Int) ≤ 57) || (x[k].toNat : Int) == 95) && (x.data.toList.drop (k + 1)).all innC)) := Lib.hid (by rw [HK.out, drop_get' x k hlt, List.all_cons]; simp [innC, innB, hn])
              clear hn
              by_cases h48 : (x[k].toNat : Int) < 48
              · by_cases h95 : (x[k].toNat : Int) = 95
                · omega
                · have d95 : ((x[k].toNat : Int) == 95) = false := by rw [beq_eq_false_iff_ne]; exact h95
                  have HZ : Hid (nameL x.data.toList = false) := Lib.hid (by rw [HY.out, d95, decide_eq_false (by omega)]; rfl)
                  go_wp2_with (go_at_call 127; refine (letter_any _ _).mono ?_; rintro e w' ⟨rfl, rfl⟩; rw [HN.out])
                  go_ret
                  exact ⟨ret_bool HZ.out.symm, rfl⟩
              · have d48 : decide ((x[k].toNat : Int) < 48) = false := by simp; omega
                by_cases h57 : (x[k].toNat : Int) ≤ 57
                · have d57 : decide ((57 : Int) < (x[k].toNat : Int)) = false := by simp; omega
                  have HZ : Hid (nameL x.data.toList = (x.data.toList.drop (k + 1)).all innC) := Lib.hid (by rw [HY.out, decide_eq_true (by omega)]; rfl)
                  go_wp2_with (go_at_call 127; refine (letter_any _ _).mono ?_; rintro e w' ⟨rfl, rfl⟩; rw [HN.out])
                  go_round
                  case rel => exact ⟨k + 1, by omega, by omega, by go_num, HZ⟩
                  case measure => simp [intOf]; omega
                · have d57 : decide ((57 : Int) < (x[k].toNat : Int)) = true := by simp; omega
                  by_cases h95 : (x[k].toNat : Int) = 95
                  · have d95 : ((x[k].toNat : Int) == 95) = true := by rw [beq_iff_eq]; exact h95
                    have HZ : Hid (nameL x.data.toList = (x.data.toList.drop (k + 1)).all innC) := Lib.hid (by rw [HY.out, d95]; simp)
                    clear h95
                    go_wp2_with (go_at_call 127; refine (letter_any _ _).mono ?_; rintro e w' ⟨rfl, rfl⟩; rw [HN.out])
                    go_round
                    case rel => exact ⟨k + 1, by omega, by omega, by go_num, HZ⟩
                    case measure => simp [intOf]; omega
                  · have d95 : ((x[k].toNat : Int) == 95) = false := by rw [beq_eq_false_iff_ne]; exact h95
                    have HZ : Hid (nameL x.data.toList = false) := Lib.hid (by rw [HY.out, d95, decide_eq_false (by omega)]; rfl)
                    go_wp2_with (go_at_call 127; refine (letter_any _ _).mono ?_; rintro e w' ⟨rfl, rfl⟩; rw [HN.out])
                    go_ret
                    exact ⟨ret_bool HZ.out.symm, rfl⟩
          · have HY : Hid (nameL x.data.toList = true) := Lib.hid (by rw [HK.out, drop_nil' x k hlt]; rfl)
            go_wp2
            go_ret
            exact ⟨ret_bool HY.out.symm, rfl⟩
    · have d1 : decide ((32 : Int) < (x.size : Int)) = true := by simp; omega
      have HR : Hid (nameL x.data.toList = false) := Lib.hid (by rw [hR]; simp [h1])
      clear hR
      go_enter Try.func94, Try.ntmps94
      go_wp2_with (go_at_call 126; refine (trim_q _ _).mono ?_; rintro e w' ⟨rfl, rfl⟩; rw [HX.out])
      go_ret
      exact ⟨ret_bool HR.out.symm, rfl⟩
  · have HR : Hid (nameL x.data.toList = false) := Lib.hid (name_nil x h0)
    have d0 : ((x.size : Int) == 0) = true := by rw [beq_iff_eq]; omega
    go_enter Try.func94, Try.ntmps94
    go_wp2_with (go_at_call 126; refine (trim_q _ _).mono ?_; rintro e w' ⟨rfl, rfl⟩; rw [HX.out])
    go_ret
    exact ⟨ret_bool HR.out.symm, rfl⟩
theorem word_any (s : ByteArray) (w : World) (hs : s.size ≤ maxLen) : Calls Try.prog 94 #[.string s] w (Says w (wordB s)) := by
  rw [strip_word]
  exact name_walk s _ w rfl (Nat.le_trans (strip_le s) hs)
theorem word_is (s : ByteArray) (b : Bool) (w : World) (hs : s.size ≤ maxLen) (h : wordB s = b) : Calls Try.prog 94 #[.string s] w (Says w b) := h ▸ word_any s w hs
end Go.Proofs.Ytmjkcbhkmkofjaa
