/-
  WALKS: Fits, both.
-/
import Derived.Test.YtbdgbdgcjlaolaaDoorN5
namespace Go.Proofs.YtbdgbdgcjlaolaaDoor
open Go Go.RowKit
set_option linter.unusedVariables false

/-- a yes or no, memory at most grown -/
def SaysB (w : World) (b : Bool) (e : Ending) (w' : World) : Prop := e = .returned (.bool b) ∧ Below w.heap.size w w'
theorem saysB_of {w : World} {a b : Bool} (h : a = b) : SaysB w b (.returned (.bool a)) w := by rw [h]; exact ⟨rfl, Below.refl _ _⟩

theorem isSome_code (r : Option Int) : (((if r.isSome then 0 else 2 : Int)) == 0) = r.isSome := by cases r <;> rfl
theorem refRight_say (s : ByteArray) (b : Bool) (w : World) (hs : s.size ≤ maxLen) (h : right s.data.toList = b) : Calls Tryd.prog 9 #[.string s] w (Says w b) := h ▸ refRight_any s w hs
theorem ba_lit (s : ByteArray) (l : List UInt8) : (s.toList == l) = decide (s.data.toList = l) := by
  rw [Lib.toList_data, Bool.eq_iff_iff]; simp

set_option maxHeartbeats 800000 in
theorem fits_any (t : Int) (s : ByteArray) (w : World) (hs : s.size ≤ 281474976710656) (hE : Env w) : Calls Tryd.prog 12 #[.int .i64 t, .string s] w (SaysB w (fitsT t s.data.toList)) := by
  have hm : s.size ≤ maxLen := by unfold maxLen; omega
  by_cases h1 : t = 1
  · subst h1
    have HR : Hid (fitsT 1 s.data.toList = decide (s.size ≤ 4096)) := Lib.hid (by unfold fitsT; rw [if_pos rfl, toList_eq])
    clear hE
    go_enter Tryd.func12, Tryd.ntmps12
    go_wp2_with fail
    go_ret
    refine saysB_of ?_
    rw [HR.out]
    all_goals (first | rfl | (simp; done) | (simp; omega))
  · by_cases h2 : t = 2
    · subst h2
      have HR : Hid (fitsT 2 s.data.toList = (intT s.data.toList).isSome) := Lib.hid (by unfold fitsT; rw [if_neg (by omega), if_pos rfl])
      have HC : Hid (Calls Tryd.prog 14 #[.string s] w (Numbers w (intT s.data.toList))) := int_any s w hs hE
      cases hi : intT s.data.toList with
      | none =>
        have HI := Lib.hid hi
        clear hE hi h1
        go_enter Tryd.func12, Tryd.ntmps12
        go_wp2_with (go_at_call 14; refine HC.out.mono ?_; rintro e w1 ⟨rfl, hb⟩; rw [HI.out])
        go_ret
        exact ⟨by rw [HR.out, HI.out]; rfl, hb⟩
      | some v =>
        have HI := Lib.hid hi
        clear hE hi h1
        go_enter Tryd.func12, Tryd.ntmps12
        go_wp2_with (go_at_call 14; refine HC.out.mono ?_; rintro e w1 ⟨rfl, hb⟩; rw [HI.out])
        go_ret
        exact ⟨by rw [HR.out, HI.out]; rfl, hb⟩
    · by_cases h3 : t = 3
      · subst h3
        have HR : Hid (fitsT 3 s.data.toList = (s.toList == [116, 114, 117, 101] || s.toList == [102, 97, 108, 115, 101])) := Lib.hid (by unfold fitsT; rw [if_neg (by omega), if_neg (by omega), if_pos rfl, ba_lit, ba_lit])
        clear hE h1 h2
        go_enter Tryd.func12, Tryd.ntmps12
        go_wp2_with fail
        all_goals go_ret
        all_goals refine saysB_of ?_
        all_goals rw [HR.out]
        all_goals simp [*]
      · by_cases h4 : t = 4
        · subst h4
          have HR : Hid (right s.data.toList = fitsT 4 s.data.toList) := Lib.hid (by unfold fitsT; rw [if_neg (by omega), if_neg (by omega), if_neg (by omega), if_pos rfl])
          clear hE h1 h2 h3
          go_enter Tryd.func12, Tryd.ntmps12
          go_wp2_with (go_at_call 8; refine (right_is s _ _ hm HR.out).mono ?_; rintro e w1 ⟨rfl, rfl⟩)
          go_ret
          exact saysB_of rfl
        · have HR : Hid (fitsT t s.data.toList = false) := Lib.hid (by unfold fitsT; rw [if_neg h1, if_neg h2, if_neg h3, if_neg h4])
          have e1 : (t == 1) = false := by rw [beq_eq_false_iff_ne]; exact h1
          have e2 : (t == 2) = false := by rw [beq_eq_false_iff_ne]; exact h2
          have e3 : (t == 3) = false := by rw [beq_eq_false_iff_ne]; exact h3
          have e4 : (t == 4) = false := by rw [beq_eq_false_iff_ne]; exact h4
          clear hE h1 h2 h3 h4
          go_enter Tryd.func12, Tryd.ntmps12
          go_wp2_with fail
          go_ret
          exact saysB_of HR.out.symm

set_option maxHeartbeats 800000 in
theorem refFits_any (t : Int) (s : ByteArray) (w : World) (hs : s.size ≤ 281474976710656) : Calls Tryd.prog 13 #[.int .i64 t, .string s] w (SaysB w (fitsT t s.data.toList)) := by
  have hm : s.size ≤ maxLen := by unfold maxLen; omega
  by_cases h1 : t = 1
  · subst h1
    have HR : Hid (fitsT 1 s.data.toList = decide (s.size ≤ 4096)) := Lib.hid (by unfold fitsT; rw [if_pos rfl, toList_eq])
    go_enter Tryd.func13, Tryd.ntmps13
    go_wp2_with fail
    go_ret
    refine saysB_of ?_
    rw [HR.out]
    all_goals (first | rfl | (simp; done) | (simp; omega))
  · by_cases h2 : t = 2
    · subst h2
      have HR : Hid (fitsT 2 s.data.toList = (intT s.data.toList).isSome) := Lib.hid (by unfold fitsT; rw [if_neg (by omega), if_pos rfl])
      have HC : Hid (Calls Tryd.prog 15 #[.string s] w (NumSame w (intT s.data.toList))) := refInt_any s w hm
      cases hi : intT s.data.toList with
      | none =>
        have HI := Lib.hid hi
        clear hi h1
        go_enter Tryd.func13, Tryd.ntmps13
        go_wp2_with (go_at_call 15; refine HC.out.mono ?_; rintro e w1 ⟨rfl, rfl⟩; rw [HI.out])
        go_ret
        exact saysB_of (by rw [HR.out, HI.out]; rfl)
      | some v =>
        have HI := Lib.hid hi
        clear hi h1
        go_enter Tryd.func13, Tryd.ntmps13
        go_wp2_with (go_at_call 15; refine HC.out.mono ?_; rintro e w1 ⟨rfl, rfl⟩; rw [HI.out])
        go_ret
        exact saysB_of (by rw [HR.out, HI.out]; rfl)
    · by_cases h3 : t = 3
      · subst h3
        have HR : Hid (fitsT 3 s.data.toList = (s.toList == [116, 114, 117, 101] || s.toList == [102, 97, 108, 115, 101])) := Lib.hid (by unfold fitsT; rw [if_neg (by omega), if_neg (by omega), if_pos rfl, ba_lit, ba_lit])
        clear h1 h2
        go_enter Tryd.func13, Tryd.ntmps13
        go_wp2_with fail
        all_goals go_ret
        all_goals refine saysB_of ?_
        all_goals rw [HR.out]
        all_goals simp [*]
      · by_cases h4 : t = 4
        · subst h4
          have HR : Hid (right s.data.toList = fitsT 4 s.data.toList) := Lib.hid (by unfold fitsT; rw [if_neg (by omega), if_neg (by omega), if_neg (by omega), if_pos rfl])
          clear h1 h2 h3
          go_enter Tryd.func13, Tryd.ntmps13
          go_wp2_with (go_at_call 9; refine (refRight_is s _ _ hm HR.out).mono ?_; rintro e w1 ⟨rfl, rfl⟩)
          go_ret
          exact saysB_of rfl
        · have HR : Hid (fitsT t s.data.toList = false) := Lib.hid (by unfold fitsT; rw [if_neg h1, if_neg h2, if_neg h3, if_neg h4])
          have e1 : (t == 1) = false := by rw [beq_eq_false_iff_ne]; exact h1
          have e2 : (t == 2) = false := by rw [beq_eq_false_iff_ne]; exact h2
          have e3 : (t == 3) = false := by rw [beq_eq_false_iff_ne]; exact h3
          have e4 : (t == 4) = false := by rw [beq_eq_false_iff_ne]; exact h4
          clear h1 h2 h3 h4
          go_enter Tryd.func13, Tryd.ntmps13
          go_wp2_with fail
          go_ret
          exact saysB_of HR.out.symm
end Go.Proofs.YtbdgbdgcjlaolaaDoor
