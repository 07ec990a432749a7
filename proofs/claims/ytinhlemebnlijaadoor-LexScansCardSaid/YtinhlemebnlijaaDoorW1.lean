/-
  WALKS over package names: numbered, digit. What each call answers.
-/
import Derived.Test.YtinhlemebnlijaaDoorRows
import Derived.Test.YtinhlemebnlijaaDoorP
import Derived.Test.YtinhlemebnlijaaDoorShelf
import Derived.WalkKit
import Derived.WalkSpells
import Derived.WalkLawsBesides
namespace Go.Proofs.YtinhlemebnlijaaDoor
open Go.RowKit
set_option linter.unusedVariables false
theorem ret_bool {a b : Bool} (h : a = b) : Ending.returned (.bool a) = .returned (.bool b) := by rw [h]
set_option maxHeartbeats 400000 in
theorem numbered_any (n : Int) (w : World) :
    Calls Tryd.prog 56 #[.int .u8 n] w fun e w' => e = .returned (.bool (numB n)) ∧ w = w' := by
  go_enter Tryd.func56, Tryd.ntmps56
  go_wp2
  all_goals go_ret
  all_goals refine ⟨ret_bool ?_, rfl⟩
  all_goals (unfold numB; simp [*])
theorem numbered_yes (n : Int) (w : World) (h : numB n = true) :
    Calls Tryd.prog 56 #[.int .u8 n] w fun e w' => e = .returned (.bool true) ∧ w = w' := by
  rw [← h]; exact numbered_any n w
theorem numbered_no (n : Int) (w : World) (h : numB n = false) :
    Calls Tryd.prog 56 #[.int .u8 n] w fun e w' => e = .returned (.bool false) ∧ w = w' := by
  rw [← h]; exact numbered_any n w
theorem index_hexes (c : UInt8) (w : World) :
    Calls Tryd.prog 81 #[.string ⟨#[48, 49, 50, 51, 52, 53, 54, 55, 56, 57, 97, 98, 99, 100, 101, 102]⟩, .int .u8 c.toNat] w fun e w' => e = .returned (.int .i64 (hexIx c)) ∧ w = w' := by
  refine (Tryd.strings_IndexByte _ _ w).mono ?_
  rintro e w' ⟨rfl, rfl⟩
  refine ⟨?_, rfl⟩
  have e : ((c.toNat : Int)).toNat.toUInt8 = c := by simp
  rw [e]
  rfl
set_option maxHeartbeats 400000 in
theorem digit_none (s : ByteArray) (k : Int) (w : World) (h0 : 0 ≤ k) (hs : s.size ≤ maxLen) (h : digS s k.toNat = none) :
    Calls Tryd.prog 71 #[.string s, .int .i64 k] w fun e w' => e = .returned (.tuple #[.int .u8 0, .bool false]) ∧ w = w' := by
  obtain ⟨k, rfl⟩ := Int.eq_ofNat_of_zero_le h0
  rw [Int.toNat_natCast] at h
  unfold maxLen at hs
  by_cases hk : k < s.size
  · have hi : hexIx s[k] < 0 := by
      unfold digS at h
      rw [dif_pos hk] at h
      by_cases hh : hexIx s[k] < 0
      · exact hh
      · rw [if_neg hh] at h; cases h
    clear h
    go_enter Tryd.func71, Tryd.ntmps71
    go_wp2_with (go_at_call 81; refine (index_hexes _ _).mono ?_; rintro e w' ⟨rfl, rfl⟩)
    go_ret2
    exact ⟨rfl, rfl⟩
  · clear h
    go_enter Tryd.func71, Tryd.ntmps71
    go_wp2
    go_ret2
    exact ⟨rfl, rfl⟩
set_option maxHeartbeats 400000 in
theorem digit_some (s : ByteArray) (k : Int) (n : Nat) (w : World) (h0 : 0 ≤ k) (hs : s.size ≤ maxLen) (h : digS s k.toNat = some n) :
    Calls Tryd.prog 71 #[.string s, .int .i64 k] w fun e w' => e = .returned (.tuple #[.int .u8 n, .bool true]) ∧ w = w' := by
  obtain ⟨k, rfl⟩ := Int.eq_ofNat_of_zero_le h0
  rw [Int.toNat_natCast] at h
  unfold maxLen at hs
  have hb := digS_lt h
  obtain ⟨hn, hk⟩ := hb
  have hi : 0 ≤ hexIx s[k] ∧ hexIx s[k] = n := by
    unfold digS at h
    rw [dif_pos hk] at h
    by_cases hh : hexIx s[k] < 0
    · rw [if_pos hh] at h; cases h
    · rw [if_neg hh] at h
      have := Option.some.inj h
      omega
  clear h
  obtain ⟨hi0, hi1⟩ := hi
  have hi2 := hexIx_lt s[k]
  have H := Lib.hid hi1
  clear hi1
  go_enter Tryd.func71, Tryd.ntmps71
  go_wp2_with (go_at_call 81; refine (index_hexes _ _).mono ?_; rintro e w' ⟨rfl, rfl⟩)
  go_ret2
  rw [H.out]
  exact ⟨rfl, rfl⟩
theorem or_low (h l : Nat) (a : h < 16) (b : l < 16) : bits BinOp.or IntKind.u8 ((h : Int) * 16) l = 16 * (h : Int) + l := by
  have : ∀ (h l : Fin 16), bits BinOp.or IntKind.u8 ((h.val : Int) * 16) (l.val : Int) = 16 * (h.val : Int) + l.val := by decide +kernel
  exact this ⟨h, a⟩ ⟨l, b⟩
theorem or_15 (h : Nat) (a : h < 16) : bits BinOp.or IntKind.u8 ((h : Int) * 16) 15 = 16 * (h : Int) + 15 := or_low h 15 a (by omega)
set_option maxHeartbeats 400000 in
theorem byNumber_any (s : ByteArray) (k : Int) (n : Nat) (r : Option Nat) (w : World) (h0 : 0 ≤ k) (hs : s.size ≤ maxLen) (h : stepNum s k.toNat = (n, r)) :
    Calls Tryd.prog 64 #[.string s, .int .i64 k] w fun e w' => e = .returned (.tuple #[.int .u8 ((r.getD 0 : Nat) : Int), .int .i64 (k + n), .bool r.isSome]) ∧ w = w' := by
  obtain ⟨k, rfl⟩ := Int.eq_ofNat_of_zero_le h0
  rw [Int.toNat_natCast] at h
  have hs' := hs
  unfold maxLen at hs'
  unfold stepNum at h
  cases h1 : digS s k with
  | none =>
    rw [h1] at h
    simp only [Prod.mk.injEq] at h
    obtain ⟨rfl, rfl⟩ := h
    have H1 := Lib.hid h1
    clear h1
    go_enter Tryd.func64, Tryd.ntmps64
    go_wp2_with (go_at_call 71; refine (digit_none s k _ (by omega) hs H1.out).mono ?_; rintro e w' ⟨rfl, rfl⟩)
    go_ret3
    exact ⟨by simp, rfl⟩
  | some a =>
    rw [h1] at h
    simp only at h
    obtain ⟨a1, a2⟩ := digS_lt h1
    have H1 := Lib.hid h1
    have e15 := or_15 a a1
    clear h1
    cases hn : numB (16 * (a : Int) + 15) with
    | false =>
      rw [hn] at h
      simp only [Bool.false_eq_true, if_false, Prod.mk.injEq] at h
      obtain ⟨rfl, rfl⟩ := h
      have HN := Lib.hid hn
      clear hn
      go_enter Tryd.func64, Tryd.ntmps64
      go_wp2_with (first | (go_at_call 71; refine (digit_some s k a _ (by omega) hs H1.out).mono ?_; rintro e w' ⟨rfl, rfl⟩) | (go_at_call 56; refine (numbered_no _ _ HN.out).mono ?_; rintro e w' ⟨rfl, rfl⟩))
      go_ret3
      exact ⟨by simp, rfl⟩
    | true =>
      rw [hn] at h
      simp only [if_true] at h
      have HN := Lib.hid hn
      clear hn
      cases h2 : digS s (k + 1) with
      | none =>
        rw [h2] at h
        simp only [Prod.mk.injEq] at h
        obtain ⟨rfl, rfl⟩ := h
        have H2 : Hid (digS s ((k : Int) + 1).toNat = none) := Lib.hid (by rw [show ((k : Int) + 1).toNat = k + 1 from by omega]; exact h2)
        clear h2
        go_enter Tryd.func64, Tryd.ntmps64
        go_wp2_with fail
        refine (digit_some s k a _ (by omega) hs H1.out).mono ?_
        rintro e w' ⟨rfl, rfl⟩
        go_wp2_with (go_at_call 56; refine (numbered_yes _ _ HN.out).mono ?_; rintro e w' ⟨rfl, rfl⟩)
        refine (digit_none s (k + 1) _ (by omega) hs H2.out).mono ?_
        rintro e w' ⟨rfl, rfl⟩
        go_wp2
        go_ret3
        exact ⟨by simp, rfl⟩
      | some b =>
        rw [h2] at h
        simp only at h
        obtain ⟨b1, b2⟩ := digS_lt h2
        have H2 : Hid (digS s ((k : Int) + 1).toNat = some b) := Lib.hid (by rw [show ((k : Int) + 1).toNat = k + 1 from by omega]; exact h2)
        have el := or_low a b a1 b1
        clear h2
        cases hm : numB (16 * (a : Int) + b) with
        | false =>
          rw [hm] at h
          simp only [Bool.false_eq_true, if_false, Prod.mk.injEq] at h
          obtain ⟨rfl, rfl⟩ := h
          have HM := Lib.hid hm
          clear hm
          go_enter Tryd.func64, Tryd.ntmps64
          go_wp2_with fail
          refine (digit_some s k a _ (by omega) hs H1.out).mono ?_
          rintro e w' ⟨rfl, rfl⟩
          go_wp2_with (go_at_call 56; refine (numbered_yes _ _ HN.out).mono ?_; rintro e w' ⟨rfl, rfl⟩)
          refine (digit_some s (k + 1) b _ (by omega) hs H2.out).mono ?_
          rintro e w' ⟨rfl, rfl⟩
          go_wp2_with (go_at_call 56; refine (numbered_no _ _ HM.out).mono ?_; rintro e w' ⟨rfl, rfl⟩)
          go_ret3
          exact ⟨by simp, rfl⟩
        | true =>
          rw [hm] at h
          simp only [if_true, Prod.mk.injEq] at h
          obtain ⟨rfl, rfl⟩ := h
          have HM := Lib.hid hm
          clear hm
          go_enter Tryd.func64, Tryd.ntmps64
          go_wp2_with fail
          refine (digit_some s k a _ (by omega) hs H1.out).mono ?_
          rintro e w' ⟨rfl, rfl⟩
          go_wp2_with (go_at_call 56; refine (numbered_yes _ _ HN.out).mono ?_; rintro e w' ⟨rfl, rfl⟩)
          refine (digit_some s (k + 1) b _ (by omega) hs H2.out).mono ?_
          rintro e w' ⟨rfl, rfl⟩
          go_wp2_with (go_at_call 56; refine (numbered_yes _ _ HM.out).mono ?_; rintro e w' ⟨rfl, rfl⟩)
          go_ret3
          exact ⟨by simp, rfl⟩
set_option maxHeartbeats 400000 in
theorem escaped_any (s : ByteArray) (k : Int) (n : Nat) (r : Option Nat) (w : World) (h0 : 0 ≤ k) (hk : k ≤ s.size) (hs : s.size ≤ maxLen) (h : stepEsc s k.toNat = (n, r)) :
    Calls Tryd.prog 55 #[.string s, .int .i64 k] w fun e w' => e = .returned (.tuple #[.int .u8 ((r.getD 0 : Nat) : Int), .int .i64 (k + n), .bool r.isSome]) ∧ w = w' := by
  obtain ⟨k, rfl⟩ := Int.eq_ofNat_of_zero_le h0
  rw [Int.toNat_natCast] at h
  have hs' := hs
  unfold maxLen at hs'
  unfold stepEsc at h
  by_cases hlt : k < s.size
  · rw [dif_pos hlt] at h
    have hne : ((k : Int) == (s.size : Int)) = false := by rw [beq_eq_false_iff_ne]; omega
    by_cases c1 : s[k].toNat = 34 ∨ s[k].toNat = 92
    · rw [if_pos c1] at h
      simp only [Prod.mk.injEq] at h
      obtain ⟨rfl, rfl⟩ := h
      go_enter Tryd.func55, Tryd.ntmps55
      go_wp2
      all_goals go_ret3
      all_goals exact ⟨by simp, rfl⟩
    · rw [if_neg c1] at h
      have d1 : ((s[k].toNat : Int) == 34) = false := by rw [beq_eq_false_iff_ne]; omega
      have d2 : ((s[k].toNat : Int) == 92) = false := by rw [beq_eq_false_iff_ne]; omega
      by_cases c2 : s[k].toNat = 110
      · rw [if_pos c2] at h
        simp only [Prod.mk.injEq] at h
        obtain ⟨rfl, rfl⟩ := h
        have d3 : ((s[k].toNat : Int) == 110) = true := by rw [beq_iff_eq]; omega
        clear c1 c2
        go_enter Tryd.func55, Tryd.ntmps55
        go_wp2
        all_goals go_ret3
        all_goals exact ⟨by simp, rfl⟩
      · rw [if_neg c2] at h
        have d3 : ((s[k].toNat : Int) == 110) = false := by rw [beq_eq_false_iff_ne]; omega
        by_cases c3 : s[k].toNat = 120
        · rw [if_pos c3] at h
          have d4 : ((s[k].toNat : Int) == 120) = true := by rw [beq_iff_eq]; omega
          rcases hq : stepNum s (k + 1) with ⟨m, x⟩
          rw [hq] at h
          simp only [Prod.mk.injEq] at h
          obtain ⟨rfl, rfl⟩ := h
          have H : Hid (stepNum s ((k : Int) + 1).toNat = (m, x)) := Lib.hid (by rw [show ((k : Int) + 1).toNat = k + 1 from by omega]; exact hq)
          clear c1 c2 c3 hq
          go_enter Tryd.func55, Tryd.ntmps55
          go_wp2_with (go_at_call 64; refine (byNumber_any s _ m x _ (by omega) hs H.out).mono ?_; rintro e w' ⟨rfl, rfl⟩)
          go_ret3
          exact ⟨by simp; omega, rfl⟩
        · rw [if_neg c3] at h
          simp only [Prod.mk.injEq] at h
          obtain ⟨rfl, rfl⟩ := h
          have d4 : ((s[k].toNat : Int) == 120) = false := by rw [beq_eq_false_iff_ne]; omega
          clear c1 c2 c3
          go_enter Tryd.func55, Tryd.ntmps55
          go_wp2
          all_goals go_ret3
          all_goals exact ⟨by simp, rfl⟩
  · rw [dif_neg hlt] at h
    simp only [Prod.mk.injEq] at h
    obtain ⟨rfl, rfl⟩ := h
    have hne : ((k : Int) == (s.size : Int)) = true := by rw [beq_iff_eq]; omega
    go_enter Tryd.func55, Tryd.ntmps55
    go_wp2
    all_goals go_ret3
    all_goals exact ⟨by simp, rfl⟩
end Go.Proofs.YtinhlemebnlijaaDoor
