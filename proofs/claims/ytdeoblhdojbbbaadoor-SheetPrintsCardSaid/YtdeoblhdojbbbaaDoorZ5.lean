/-
  WALKS: Word, of the program and of the document.
  WALKS: the document's Word.
-/
import Derived.Test.YtdeoblhdojbbbaaDoorZ4
import Derived.Test.YtdeoblhdojbbbaaDoorRows
import Derived.WalkSpells
import Derived.WalkLawsBesides
import Derived.Test.YtdeoblhdojbbbaaDoorShelf
namespace Go.Proofs.YtdeoblhdojbbbaaDoor
open Go Go.RowKit
set_option linter.unusedVariables false
/-- a yes or no, the world as it was -/
def Says (w : World) (b : Bool) (e : Ending) (w' : World) : Prop := e = .returned (.bool b) ∧ w = w'
theorem says_ret {b : Bool} {w : World} {P : Program} {f : FuncId} {args : Array Value} (h : Calls P f args w (Says w b)) : Calls P f args w (Ret w (.bool b)) :=
  h.mono fun e w' ⟨he, hw⟩ => ⟨he, by rw [← hw]; exact Below.refl _ _⟩
set_option maxHeartbeats 400000 in
theorem letter_any (n : Int) (w : World) : Calls Tryd.prog 57 #[.int .u8 n] w (Says w (letB n)) := by
  go_enter Tryd.func57, Tryd.ntmps57
  go_wp2
  all_goals go_ret
  all_goals refine ⟨ret_bool ?_, rfl⟩
  all_goals (unfold letB; first | (simp [*]; done) | (simp; omega) | (rw [Bool.eq_iff_iff]; simp; omega) | (rw [Bool.eq_iff_iff]; simp [*]; omega))
/-- a text without a sign of the workbench's own ahead of it -/
def strip (s : ByteArray) : ByteArray := if h : 0 < s.size then (if s[0].toNat = 63 then s.extract 1 s.size else s) else s
theorem strip_word (s : ByteArray) : wordB s = nameL (strip s).data.toList := by
  unfold strip
  by_cases h : 0 < s.size
  · rw [dif_pos h]
    by_cases hc : s[0].toNat = 63
    · rw [if_pos hc]; exact word_q s h hc
    · rw [if_neg hc]; exact word_p s (fun _ => hc)
  · rw [dif_neg h]; exact word_p s (fun h' => absurd h' h)
theorem strip_le (s : ByteArray) : (strip s).size ≤ s.size := by
  unfold strip
  split
  · split
    · have := behind1_size s ‹_›; omega
    · exact Nat.le_refl _
  · exact Nat.le_refl _
theorem trim_strip (s : ByteArray) : (⟨(Lib.trimPrefix s.data.toList [63]).toArray⟩ : ByteArray) = strip s := by
  apply ByteArray.ext
  unfold Lib.trimPrefix Lib.hasPrefix strip
  by_cases h : 0 < s.size
  · have e : s.data.toList = s[0] :: s.data.toList.drop 1 := by have := drop_get' s 0 h; simpa using this
    rw [dif_pos h]
    by_cases hc : s[0].toNat = 63
    · have e63 : s[0] = 63 := UInt8.toNat_inj.1 hc
      rw [if_pos hc, if_pos (by rw [e, e63]; simp [List.isPrefixOf])]
      apply Array.toList_inj.1
      rw [behind1]
      simp
    · have e63 : ¬ s[0] = 63 := fun e => hc (by rw [e]; rfl)
      rw [if_neg hc, if_neg (by rw [e]; simp only [List.isPrefixOf, Bool.and_eq_true, beq_iff_eq]; exact fun h => e63 h.1.symm)]
  · have h0 : s.data.toList = [] := List.length_eq_zero_iff.1 (by rw [toList_eq]; omega)
    rw [dif_neg h, if_neg (by rw [h0]; simp [List.isPrefixOf])]
theorem trim_q (s : ByteArray) (w : World) : Calls Tryd.prog 56 #[.string s, .string ⟨#[63]⟩] w fun e w' => e = .returned (.string (strip s)) ∧ w = w' := by
  refine (Tryd.strings_TrimPrefix s ⟨#[63]⟩ w).mono ?_
  rintro e w' ⟨rfl, rfl⟩
  exact ⟨by rw [← trim_strip s], rfl⟩
set_option maxHeartbeats 800000 in
theorem name_walk (s x : ByteArray) (w : World) (hx : strip s = x) (hs : x.size ≤ maxLen) : Calls Tryd.prog 44 #[.string s] w (Says w (nameL x.data.toList)) := by
  unfold maxLen at hs
  have HX := Lib.hid hx
  clear hx
  by_cases h0 : 0 < x.size
  · have hR := name_eq x h0
    have d0 : ((x.size : Int) == 0) = false := by rw [beq_eq_false_iff_ne]; omega
    by_cases h1 : x.size ≤ 32
    · have d1 : decide ((32 : Int) < (x.size : Int)) = false := by simp; omega
      cases hl : letB (x[0].toNat : Int) with
      | false =>
        have H := Lib.hid hl
        have HR : Hid (nameL x.data.toList = false) := Lib.hid (by rw [hR, hl]; simp)
        clear hR hl
        go_enter Tryd.func44, Tryd.ntmps44
        go_wp2_with (first | (go_at_call 56; refine (trim_q _ _).mono ?_; rintro e w' ⟨rfl, rfl⟩; rw [HX.out]) | (go_at_call 57; refine (letter_any _ _).mono ?_; rintro e w' ⟨rfl, rfl⟩; rw [H.out]))
        go_ret
        exact ⟨ret_bool HR.out.symm, rfl⟩
      | true =>
        have H := Lib.hid hl
        have HR : Hid (nameL x.data.toList = (x.data.toList.drop 1).all innC) := Lib.hid (by rw [hR, hl]; simp [h1])
        clear hR hl
        go_enter Tryd.func44, Tryd.ntmps44
        go_wp2_with (first | (go_at_call 56; refine (trim_q _ _).mono ?_; rintro e w' ⟨rfl, rfl⟩; rw [HX.out]) | (go_at_call 57; refine (letter_any _ _).mono ?_; rintro e w' ⟨rfl, rfl⟩; rw [H.out]))
        go_loop [3] (fun i => ∃ k : Nat, 1 ≤ k ∧ k ≤ x.size ∧ i = .int .i64 k ∧ Hid (nameL x.data.toList = (x.data.toList.drop k).all innC)) (fun i => x.size - (intOf i).toNat)
        case atStart => exact ⟨1, by omega, by omega, rfl, HR⟩
        case round =>
          obtain ⟨k, hk1, hk, rfl, HK⟩ := hrel
          by_cases hlt : k < x.size
          · cases hn : letB (x[k].toNat : Int) with
            | true =>
              have HN := Lib.hid hn
              have HY : Hid (nameL x.data.toList = (x.data.toList.drop (k + 1)).all innC) := Lib.hid (by rw [HK.out, drop_get' x k hlt, List.all_cons]; simp [innC, innB, hn])
              clear hn
              go_wp2_with (go_at_call 57; refine (letter_any _ _).mono ?_; rintro e w' ⟨rfl, rfl⟩; rw [HN.out])
              go_round
              case rel => exact ⟨k + 1, by omega, by omega, by go_num, HY⟩
              case measure => simp [intOf]; omega
            | false =>
              have HN := Lib.hid hn
              have HY : Hid (nameL x.data.toList = ((decide (48 ≤ (x[k].toNat : Int) ∧ (x[k].toNat : Int) ≤ 57) || (x[k].toNat : Int) == 95) && (x.data.toList.drop (k + 1)).all innC)) := Lib.hid (by rw [HK.out, drop_get' x k hlt, List.all_cons]; simp [innC, innB, hn])
              clear hn
              by_cases h48 : (x[k].toNat : Int) < 48
              · by_cases h95 : (x[k].toNat : Int) = 95
                · omega
                · have d95 : ((x[k].toNat : Int) == 95) = false := by rw [beq_eq_false_iff_ne]; exact h95
                  have HZ : Hid (nameL x.data.toList = false) := Lib.hid (by rw [HY.out, d95, decide_eq_false (by omega)]; rfl)
                  go_wp2_with (go_at_call 57; refine (letter_any _ _).mono ?_; rintro e w' ⟨rfl, rfl⟩; rw [HN.out])
                  go_ret
                  exact ⟨ret_bool HZ.out.symm, rfl⟩
              · have d48 : decide ((x[k].toNat : Int) < 48) = false := by simp; omega
                by_cases h57 : (x[k].toNat : Int) ≤ 57
                · have d57 : decide ((57 : Int) < (x[k].toNat : Int)) = false := by simp; omega
                  have HZ : Hid (nameL x.data.toList = (x.data.toList.drop (k + 1)).all innC) := Lib.hid (by rw [HY.out, decide_eq_true (by omega)]; rfl)
                  go_wp2_with (go_at_call 57; refine (letter_any _ _).mono ?_; rintro e w' ⟨rfl, rfl⟩; rw [HN.out])
                  go_round
                  case rel => exact ⟨k + 1, by omega, by omega, by go_num, HZ⟩
                  case measure => simp [intOf]; omega
                · have d57 : decide ((57 : Int) < (x[k].toNat : Int)) = true := by simp; omega
                  by_cases h95 : (x[k].toNat : Int) = 95
                  · have d95 : ((x[k].toNat : Int) == 95) = true := by rw [beq_iff_eq]; exact h95
                    have HZ : Hid (nameL x.data.toList = (x.data.toList.drop (k + 1)).all innC) := Lib.hid (by rw [HY.out, d95]; simp)
                    clear h95
                    go_wp2_with (go_at_call 57; refine (letter_any _ _).mono ?_; rintro e w' ⟨rfl, rfl⟩; rw [HN.out])
                    go_round
                    case rel => exact ⟨k + 1, by omega, by omega, by go_num, HZ⟩
                    case measure => simp [intOf]; omega
                  · have d95 : ((x[k].toNat : Int) == 95) = false := by rw [beq_eq_false_iff_ne]; exact h95
                    have HZ : Hid (nameL x.data.toList = false) := Lib.hid (by rw [HY.out, d95, decide_eq_false (by omega)]; rfl)
                    go_wp2_with (go_at_call 57; refine (letter_any _ _).mono ?_; rintro e w' ⟨rfl, rfl⟩; rw [HN.out])
                    go_ret
                    exact ⟨ret_bool HZ.out.symm, rfl⟩
          · have HY : Hid (nameL x.data.toList = true) := Lib.hid (by rw [HK.out, drop_nil' x k hlt]; rfl)
            go_wp2
            go_ret
            exact ⟨ret_bool HY.out.symm, rfl⟩
    · have d1 : decide ((32 : Int) < (x.size : Int)) = true := by simp; omega
      have HR : Hid (nameL x.data.toList = false) := Lib.hid (by rw [hR]; simp [h1])
      clear hR
      go_enter Tryd.func44, Tryd.ntmps44
      go_wp2_with (go_at_call 56; refine (trim_q _ _).mono ?_; rintro e w' ⟨rfl, rfl⟩; rw [HX.out])
      go_ret
      exact ⟨ret_bool HR.out.symm, rfl⟩
  · have HR : Hid (nameL x.data.toList = false) := Lib.hid (name_nil x h0)
    have d0 : ((x.size : Int) == 0) = true := by rw [beq_iff_eq]; omega
    go_enter Tryd.func44, Tryd.ntmps44
    go_wp2_with (go_at_call 56; refine (trim_q _ _).mono ?_; rintro e w' ⟨rfl, rfl⟩; rw [HX.out])
    go_ret
    exact ⟨ret_bool HR.out.symm, rfl⟩
theorem word_any (s : ByteArray) (w : World) (hs : s.size ≤ maxLen) : Calls Tryd.prog 44 #[.string s] w (Says w (wordB s)) := by
  rw [strip_word]
  exact name_walk s _ w rfl (Nat.le_trans (strip_le s) hs)
theorem word_is (s : ByteArray) (b : Bool) (w : World) (hs : s.size ≤ maxLen) (h : wordB s = b) : Calls Tryd.prog 44 #[.string s] w (Says w b) := h ▸ word_any s w hs
end Go.Proofs.YtdeoblhdojbbbaaDoor
namespace Go.Proofs.YtdeoblhdojbbbaaDoor
open Go Go.RowKit
set_option linter.unusedVariables false
theorem all_drop0 (x : ByteArray) (h : 0 < x.size) (hl : letB (x[0].toNat : Int) = true) (hs : x.size ≤ 32) : nameL x.data.toList = (x.data.toList.drop 1).all innC := by
  rw [name_eq x h, hl]; simp [hs]
theorem name_no0 (x : ByteArray) (h : 0 < x.size) (hl : letB (x[0].toNat : Int) = false) : nameL x.data.toList = false := by
  rw [name_eq x h, hl]; simp
def RefRel (x : ByteArray) (i : Value) : Prop := ∃ k : Nat, k ≤ x.size ∧ i = .int .i64 k ∧ (0 < k → Hid (nameL x.data.toList = (x.data.toList.drop k).all innC))
theorem let_parts {n : Int} (h : letB n = true) : (97 ≤ n ∧ n ≤ 122) ∨ (decide (97 ≤ n) = false ∧ 65 ≤ n ∧ n ≤ 90) := by
  have : (97 ≤ n ∧ n ≤ 122) ∨ (n < 97 ∧ 65 ≤ n ∧ n ≤ 90) := by unfold letB at h; simp at h; omega
  rcases this with g | g
  · exact .inl g
  · exact .inr ⟨by simp; omega, g.2⟩
theorem let_not {n : Int} (h : letB n = false) : (n < 65 ∧ decide (97 ≤ n) = false ∧ decide (65 ≤ n) = false) ∨ (90 < n ∧ n < 97 ∧ decide (97 ≤ n) = false ∧ decide (n ≤ 90) = false) ∨ (122 < n ∧ decide (n ≤ 122) = false ∧ decide (n ≤ 90) = false) := by
  have : n < 65 ∨ (90 < n ∧ n < 97) ∨ 122 < n := by unfold letB at h; simp at h; omega
  rcases this with g | g | g
  · exact .inl ⟨g, by simp; omega, by simp; omega⟩
  · exact .inr (.inl ⟨g.1, g.2, by simp; omega, by simp; omega⟩)
  · exact .inr (.inr ⟨g, by simp; omega, by simp; omega⟩)
set_option maxHeartbeats 1600000 in
theorem refWord_q (w : World) (s x : ByteArray) (hs : s.size ≤ 9223372036854775807) (h : 0 < s.size) (hc : s[0].toNat = 63) (hx : s.extract 1 s.size = x) (hb : x.size ≤ 9223372036854775807) (h1 : 0 < x.size) (hsz : x.size ≤ 32) : Calls Tryd.prog 53 #[.string s] w (Says w (nameL x.data.toList)) := by
  have d63 : ((s[0].toNat : Int) == 63) = true := by rw [beq_iff_eq]; omega
  have hp : (0 : Int) < (s.size : Int) := by omega
  have hss : s.size - 1 = x.size := by have := behind1_size s h; rw [hx] at this; omega
  have d1 : decide ((x.size : Int) < 1) = false := by simp; omega
  have d2 : decide ((32 : Int) < (x.size : Int)) = false := by simp; omega
  · go_enter Tryd.func53, Tryd.ntmps53
    go_wp2_with fail
    go_loop [3] (fun i => RefRel x i) (fun i => x.size - (intOf i).toNat)
    case atStart => exact ⟨0, by omega, rfl, fun h => absurd h (by omega)⟩
    case round =>
      obtain ⟨k, hk, rfl, HK⟩ := hrel
      by_cases hlt : k < x.size
      · cases hl : letB (x[k].toNat : Int) with
        | true =>
          have HY : Hid (nameL x.data.toList = (x.data.toList.drop (k + 1)).all innC) := Lib.hid (by
            by_cases h0 : k = 0
            · subst h0; exact all_drop0 x hlt hl hsz
            · rw [(HK (by omega)).out, drop_get' x k hlt, List.all_cons]; simp [innC, innB, hl])
          have hp := let_parts hl
          clear hl HK
          rcases hp with hp | hp
          all_goals
            obtain ⟨g1, g2⟩ := hp
            go_wp2_with fail
            go_round
            case rel => exact ⟨k + 1, by omega, by go_num, fun _ => HY⟩
            case measure => simp [intOf]; omega
        | false =>
          have hp := let_not hl
          by_cases h0 : k = 0
          · subst h0
            have HY : Hid (nameL x.data.toList = false) := Lib.hid (name_no0 x hlt hl)
            clear hl HK
            rcases hp with ⟨p1, p2, p3⟩ | ⟨p1, p2, p3, p4⟩ | ⟨p1, p2, p3⟩
            all_goals
              go_wp2_with fail
              go_ret
              exact ⟨ret_bool HY.out.symm, rfl⟩
          · have hk0 : ((k : Int) == 0) = false := by rw [beq_eq_false_iff_ne]; omega
            have HY : Hid (nameL x.data.toList = ((decide (48 ≤ (x[k].toNat : Int) ∧ (x[k].toNat : Int) ≤ 57) || (x[k].toNat : Int) == 95) && (x.data.toList.drop (k + 1)).all innC)) := Lib.hid (by rw [(HK (by omega)).out, drop_get' x k hlt, List.all_cons]; simp [innC, innB, hl])
            clear hl HK h0
            rcases hp with ⟨p1, p2, p3⟩ | ⟨p1, p2, p3, p4⟩ | ⟨p1, p2, p3⟩
            all_goals
              by_cases h95 : (x[k].toNat : Int) = 95
              · have d95 : ((x[k].toNat : Int) == 95) = true := by rw [beq_iff_eq]; exact h95
                have n95 : ((x[k].toNat : Int) != 95) = false := by rw [bne_eq_false_iff_eq]; exact h95
                have HZ : Hid (nameL x.data.toList = (x.data.toList.drop (k + 1)).all innC) := Lib.hid (by rw [HY.out, d95]; simp)
                first
                | (exfalso; omega)
                | (clear h95
                   go_wp2_with fail
                   go_round
                   case rel => exact ⟨k + 1, by omega, by go_num, fun _ => HZ⟩
                   case measure => simp [intOf]; omega)
              · have d95 : ((x[k].toNat : Int) == 95) = false := by rw [beq_eq_false_iff_ne]; exact h95
                have n95 : ((x[k].toNat : Int) != 95) = true := by rw [bne_iff_ne]; exact h95
                by_cases h48 : 48 ≤ (x[k].toNat : Int)
                · have f48 : decide ((x[k].toNat : Int) < 48) = false := by simp; omega
                  by_cases h57 : (x[k].toNat : Int) ≤ 57
                  · have f57 : decide ((57 : Int) < (x[k].toNat : Int)) = false := by simp; omega
                    have HZ : Hid (nameL x.data.toList = (x.data.toList.drop (k + 1)).all innC) := Lib.hid (by rw [HY.out, decide_eq_true (by omega)]; rfl)
                    first
                    | (exfalso; omega)
                    | (go_wp2_with fail
                       go_round
                       case rel => exact ⟨k + 1, by omega, by go_num, fun _ => HZ⟩
                       case measure => simp [intOf]; omega)
                  · have f57 : (57 : Int) < (x[k].toNat : Int) := by omega
                    have HZ : Hid (nameL x.data.toList = false) := Lib.hid (by rw [HY.out, d95, decide_eq_false (by omega)]; rfl)
                    go_wp2_with fail
                    go_ret
                    exact ⟨ret_bool HZ.out.symm, rfl⟩
                · have HZ : Hid (nameL x.data.toList = false) := Lib.hid (by rw [HY.out, d95, decide_eq_false (by omega)]; rfl)
                  first
                  | (exfalso; omega)
                  | (go_wp2_with fail
                     go_ret
                     exact ⟨ret_bool HZ.out.symm, rfl⟩)
      · have HY : Hid (nameL x.data.toList = true) := Lib.hid (by rw [(HK (by omega)).out, drop_nil' x k hlt]; rfl)
        go_wp2
        go_ret
        exact ⟨ret_bool HY.out.symm, rfl⟩
set_option maxHeartbeats 1600000 in
theorem refWord_p (w : World) (x : ByteArray) (h : 0 < x.size) (hc : x[0].toNat ≠ 63) (hb : x.size ≤ 9223372036854775807) (h1 : 0 < x.size) (hsz : x.size ≤ 32) : Calls Tryd.prog 53 #[.string x] w (Says w (nameL x.data.toList)) := by
  have d63 : ((x[0].toNat : Int) == 63) = false := by rw [beq_eq_false_iff_ne]; omega
  have hp : (0 : Int) < (x.size : Int) := by omega
  have d1 : decide ((x.size : Int) < 1) = false := by simp; omega
  have d2 : decide ((32 : Int) < (x.size : Int)) = false := by simp; omega
  · go_enter Tryd.func53, Tryd.ntmps53
    go_wp2_with fail
    go_loop [3] (fun i => RefRel x i) (fun i => x.size - (intOf i).toNat)
    case atStart => exact ⟨0, by omega, rfl, fun h => absurd h (by omega)⟩
    case round =>
      obtain ⟨k, hk, rfl, HK⟩ := hrel
      by_cases hlt : k < x.size
      · cases hl : letB (x[k].toNat : Int) with
        | true =>
          have HY : Hid (nameL x.data.toList = (x.data.toList.drop (k + 1)).all innC) := Lib.hid (by
            by_cases h0 : k = 0
            · subst h0; exact all_drop0 x hlt hl hsz
            · rw [(HK (by omega)).out, drop_get' x k hlt, List.all_cons]; simp [innC, innB, hl])
          have hp := let_parts hl
          clear hl HK
          rcases hp with hp | hp
          all_goals
            obtain ⟨g1, g2⟩ := hp
            go_wp2_with fail
            go_round
            case rel => exact ⟨k + 1, by omega, by go_num, fun _ => HY⟩
            case measure => simp [intOf]; omega
        | false =>
          have hp := let_not hl
          by_cases h0 : k = 0
          · subst h0
            have HY : Hid (nameL x.data.toList = false) := Lib.hid (name_no0 x hlt hl)
            clear hl HK
            rcases hp with ⟨p1, p2, p3⟩ | ⟨p1, p2, p3, p4⟩ | ⟨p1, p2, p3⟩
            all_goals
              go_wp2_with fail
              go_ret
              exact ⟨ret_bool HY.out.symm, rfl⟩
          · have hk0 : ((k : Int) == 0) = false := by rw [beq_eq_false_iff_ne]; omega
            have HY : Hid (nameL x.data.toList = ((decide (48 ≤ (x[k].toNat : Int) ∧ (x[k].toNat : Int) ≤ 57) || (x[k].toNat : Int) == 95) && (x.data.toList.drop (k + 1)).all innC)) := Lib.hid (by rw [(HK (by omega)).out, drop_get' x k hlt, List.all_cons]; simp [innC, innB, hl])
            clear hl HK h0
            rcases hp with ⟨p1, p2, p3⟩ | ⟨p1, p2, p3, p4⟩ | ⟨p1, p2, p3⟩
            all_goals
              by_cases h95 : (x[k].toNat : Int) = 95
              · have d95 : ((x[k].toNat : Int) == 95) = true := by rw [beq_iff_eq]; exact h95
                have n95 : ((x[k].toNat : Int) != 95) = false := by rw [bne_eq_false_iff_eq]; exact h95
                have HZ : Hid (nameL x.data.toList = (x.data.toList.drop (k + 1)).all innC) := Lib.hid (by rw [HY.out, d95]; simp)
                first
                | (exfalso; omega)
                | (clear h95
                   go_wp2_with fail
                   go_round
                   case rel => exact ⟨k + 1, by omega, by go_num, fun _ => HZ⟩
                   case measure => simp [intOf]; omega)
              · have d95 : ((x[k].toNat : Int) == 95) = false := by rw [beq_eq_false_iff_ne]; exact h95
                have n95 : ((x[k].toNat : Int) != 95) = true := by rw [bne_iff_ne]; exact h95
                by_cases h48 : 48 ≤ (x[k].toNat : Int)
                · have f48 : decide ((x[k].toNat : Int) < 48) = false := by simp; omega
                  by_cases h57 : (x[k].toNat : Int) ≤ 57
                  · have f57 : decide ((57 : Int) < (x[k].toNat : Int)) = false := by simp; omega
                    have HZ : Hid (nameL x.data.toList = (x.data.toList.drop (k + 1)).all innC) := Lib.hid (by rw [HY.out, decide_eq_true (by omega)]; rfl)
                    first
                    | (exfalso; omega)
                    | (go_wp2_with fail
                       go_round
                       case rel => exact ⟨k + 1, by omega, by go_num, fun _ => HZ⟩
                       case measure => simp [intOf]; omega)
                  · have f57 : (57 : Int) < (x[k].toNat : Int) := by omega
                    have HZ : Hid (nameL x.data.toList = false) := Lib.hid (by rw [HY.out, d95, decide_eq_false (by omega)]; rfl)
                    go_wp2_with fail
                    go_ret
                    exact ⟨ret_bool HZ.out.symm, rfl⟩
                · have HZ : Hid (nameL x.data.toList = false) := Lib.hid (by rw [HY.out, d95, decide_eq_false (by omega)]; rfl)
                  first
                  | (exfalso; omega)
                  | (go_wp2_with fail
                     go_ret
                     exact ⟨ret_bool HZ.out.symm, rfl⟩)
      · have HY : Hid (nameL x.data.toList = true) := Lib.hid (by rw [(HK (by omega)).out, drop_nil' x k hlt]; rfl)
        go_wp2
        go_ret
        exact ⟨ret_bool HY.out.symm, rfl⟩
set_option maxHeartbeats 400000 in
theorem refWord_q0 (s x : ByteArray) (w : World) (hs : s.size ≤ 9223372036854775807) (h : 0 < s.size) (hc : s[0].toNat = 63) (hx : s.extract 1 s.size = x) (hsz : x.size < 1 ∨ 32 < x.size) : Calls Tryd.prog 53 #[.string s] w (Says w false) := by
  have d63 : ((s[0].toNat : Int) == 63) = true := by rw [beq_iff_eq]; omega
  have hp : (0 : Int) < (s.size : Int) := by omega
  have hss : s.size - 1 = x.size := by have := behind1_size s h; rw [hx] at this; omega
  go_enter Tryd.func53, Tryd.ntmps53
  rcases hsz with hsz | hsz
  all_goals
    go_wp2_with fail
    go_ret
    exact ⟨rfl, rfl⟩
set_option maxHeartbeats 400000 in
theorem refWord_p0 (x : ByteArray) (w : World) (hb : x.size ≤ 9223372036854775807) (h : 0 < x.size) (hc : x[0].toNat ≠ 63) (hsz : 32 < x.size) : Calls Tryd.prog 53 #[.string x] w (Says w false) := by
  have d63 : ((x[0].toNat : Int) == 63) = false := by rw [beq_eq_false_iff_ne]; omega
  have hp : (0 : Int) < (x.size : Int) := by omega
  go_enter Tryd.func53, Tryd.ntmps53
  go_wp2_with fail
  go_ret
  exact ⟨rfl, rfl⟩
set_option maxHeartbeats 400000 in
theorem refWord_0 (x : ByteArray) (w : World) (h : ¬ 0 < x.size) : Calls Tryd.prog 53 #[.string x] w (Says w false) := by
  have d0 : decide ((0 : Int) < (x.size : Int)) = false := decide_eq_false (by omega)
  have d1 : (x.size : Int) < 1 := by omega
  go_enter Tryd.func53, Tryd.ntmps53
  go_wp2_with fail
  go_ret
  exact ⟨rfl, rfl⟩
theorem refWord_any (s : ByteArray) (w : World) (hs : s.size ≤ maxLen) : Calls Tryd.prog 53 #[.string s] w (Says w (wordB s)) := by
  unfold maxLen at hs
  by_cases h : 0 < s.size
  · by_cases hc : s[0].toNat = 63
    · rw [word_q s h hc]
      have hb := behind1_size s h
      by_cases hsz : (s.extract 1 s.size).size < 1 ∨ 32 < (s.extract 1 s.size).size
      · have : nameL (s.extract 1 s.size).data.toList = false := by
          rcases hsz with h' | h'
          · exact name_nil _ (by omega)
          · rw [name_eq _ (Nat.lt_of_le_of_lt (Nat.zero_le _) h'), decide_eq_false (by omega)]; rfl
        rw [this]
        exact refWord_q0 s _ w (by omega) h hc rfl hsz
      · exact refWord_q w s _ (by omega) h hc rfl (by omega) (by omega) (by omega)
    · rw [word_p s (fun _ => hc)]
      by_cases hsz : 32 < s.size
      · have : nameL s.data.toList = false := by rw [name_eq s h, decide_eq_false (by omega)]; rfl
        rw [this]
        exact refWord_p0 s w (by omega) h hc hsz
      · exact refWord_p w s h hc (by omega) h (by omega)
  · rw [word_p s (fun h' => absurd h' h), name_nil s h]
    exact refWord_0 s w h
end Go.Proofs.YtdeoblhdojbbbaaDoor
