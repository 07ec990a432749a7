/-
  WALKS over the document's answers for layer 9: one, two.
-/
import Derived.Test.YtjlpoigcalfdlaaDoorZA15
namespace Go.Proofs.YtjlpoigcalfdlaaDoor
open Go Go.RowKit Go.Sort
set_option linter.unusedVariables false
theorem one_8 (o : Int) (w : World) : Calls Tryd.prog 32 #[.int .i64 8, .int .i64 o] w (SaysI w (oneK 8 o)) := by
  by_cases h : o = 4
  · have hv : Hid (oneK 8 o = 2) := Lib.hid (by unfold oneK; repeat (first | rw [if_pos (by omega)] | rw [if_neg (by omega)]))
    subst h
    go_enter Tryd.func32, Tryd.ntmps32
    go_wp2_with fail
    go_ret
    exact saysI hv.out.symm rfl
  · have hv : Hid (oneK 8 o = 0) := Lib.hid (by unfold oneK; repeat (first | rw [if_pos (by omega)] | rw [if_neg (by omega)]))
    have f1 : (o == 4) = false := by rw [beq_eq_false_iff_ne]; exact h
    clear h
    go_enter Tryd.func32, Tryd.ntmps32
    go_wp2_with fail
    go_ret
    exact saysI hv.out.symm rfl
theorem one_9 (o : Int) (w : World) : Calls Tryd.prog 32 #[.int .i64 9, .int .i64 o] w (SaysI w (oneK 9 o)) := by
  by_cases h : o = 4
  · have hv : Hid (oneK 9 o = 5) := Lib.hid (by unfold oneK; repeat (first | rw [if_pos (by omega)] | rw [if_neg (by omega)]))
    subst h
    go_enter Tryd.func32, Tryd.ntmps32
    go_wp2_with fail
    go_ret
    exact saysI hv.out.symm rfl
  · have hv : Hid (oneK 9 o = 0) := Lib.hid (by unfold oneK; repeat (first | rw [if_pos (by omega)] | rw [if_neg (by omega)]))
    have f1 : (o == 4) = false := by rw [beq_eq_false_iff_ne]; exact h
    clear h
    go_enter Tryd.func32, Tryd.ntmps32
    go_wp2_with fail
    go_ret
    exact saysI hv.out.symm rfl
theorem one_10 (o : Int) (w : World) : Calls Tryd.prog 32 #[.int .i64 10, .int .i64 o] w (SaysI w (oneK 10 o)) := by
  by_cases h : o = 4
  · have hv : Hid (oneK 10 o = 4) := Lib.hid (by unfold oneK; repeat (first | rw [if_pos (by omega)] | rw [if_neg (by omega)]))
    subst h
    go_enter Tryd.func32, Tryd.ntmps32
    go_wp2_with fail
    go_ret
    exact saysI hv.out.symm rfl
  · have hv : Hid (oneK 10 o = 0) := Lib.hid (by unfold oneK; repeat (first | rw [if_pos (by omega)] | rw [if_neg (by omega)]))
    have f1 : (o == 4) = false := by rw [beq_eq_false_iff_ne]; exact h
    clear h
    go_enter Tryd.func32, Tryd.ntmps32
    go_wp2_with fail
    go_ret
    exact saysI hv.out.symm rfl
theorem one_11 (o : Int) (w : World) : Calls Tryd.prog 32 #[.int .i64 11, .int .i64 o] w (SaysI w (oneK 11 o)) := by
  by_cases h : o = 4
  · have hv : Hid (oneK 11 o = 4) := Lib.hid (by unfold oneK; repeat (first | rw [if_pos (by omega)] | rw [if_neg (by omega)]))
    subst h
    go_enter Tryd.func32, Tryd.ntmps32
    go_wp2_with fail
    go_ret
    exact saysI hv.out.symm rfl
  · have hv : Hid (oneK 11 o = 0) := Lib.hid (by unfold oneK; repeat (first | rw [if_pos (by omega)] | rw [if_neg (by omega)]))
    have f1 : (o == 4) = false := by rw [beq_eq_false_iff_ne]; exact h
    clear h
    go_enter Tryd.func32, Tryd.ntmps32
    go_wp2_with fail
    go_ret
    exact saysI hv.out.symm rfl
theorem one_12 (o : Int) (w : World) : Calls Tryd.prog 32 #[.int .i64 12, .int .i64 o] w (SaysI w (oneK 12 o)) := by
  by_cases h : o = 4
  · have hv : Hid (oneK 12 o = 3) := Lib.hid (by unfold oneK; repeat (first | rw [if_pos (by omega)] | rw [if_neg (by omega)]))
    subst h
    go_enter Tryd.func32, Tryd.ntmps32
    go_wp2_with fail
    go_ret
    exact saysI hv.out.symm rfl
  · have hv : Hid (oneK 12 o = 0) := Lib.hid (by unfold oneK; repeat (first | rw [if_pos (by omega)] | rw [if_neg (by omega)]))
    have f1 : (o == 4) = false := by rw [beq_eq_false_iff_ne]; exact h
    clear h
    go_enter Tryd.func32, Tryd.ntmps32
    go_wp2_with fail
    go_ret
    exact saysI hv.out.symm rfl
theorem one_13 (o : Int) (w : World) : Calls Tryd.prog 32 #[.int .i64 13, .int .i64 o] w (SaysI w (oneK 13 o)) := by
  by_cases h : o = 4
  · have hv : Hid (oneK 13 o = 5) := Lib.hid (by unfold oneK; repeat (first | rw [if_pos (by omega)] | rw [if_neg (by omega)]))
    subst h
    go_enter Tryd.func32, Tryd.ntmps32
    go_wp2_with fail
    go_ret
    exact saysI hv.out.symm rfl
  · have hv : Hid (oneK 13 o = 0) := Lib.hid (by unfold oneK; repeat (first | rw [if_pos (by omega)] | rw [if_neg (by omega)]))
    have f1 : (o == 4) = false := by rw [beq_eq_false_iff_ne]; exact h
    clear h
    go_enter Tryd.func32, Tryd.ntmps32
    go_wp2_with fail
    go_ret
    exact saysI hv.out.symm rfl
theorem one_14 (o : Int) (w : World) : Calls Tryd.prog 32 #[.int .i64 14, .int .i64 o] w (SaysI w (oneK 14 o)) := by
  by_cases h : o = 5
  · have hv : Hid (oneK 14 o = 1) := Lib.hid (by unfold oneK; repeat (first | rw [if_pos (by omega)] | rw [if_neg (by omega)]))
    subst h
    go_enter Tryd.func32, Tryd.ntmps32
    go_wp2_with fail
    go_ret
    exact saysI hv.out.symm rfl
  · have hv : Hid (oneK 14 o = 0) := Lib.hid (by unfold oneK; repeat (first | rw [if_pos (by omega)] | rw [if_neg (by omega)]))
    have f1 : (o == 5) = false := by rw [beq_eq_false_iff_ne]; exact h
    clear h
    go_enter Tryd.func32, Tryd.ntmps32
    go_wp2_with fail
    go_ret
    exact saysI hv.out.symm rfl
theorem one_15 (o : Int) (w : World) : Calls Tryd.prog 32 #[.int .i64 15, .int .i64 o] w (SaysI w (oneK 15 o)) := by
  by_cases h : o = 5
  · have hv : Hid (oneK 15 o = 4) := Lib.hid (by unfold oneK; repeat (first | rw [if_pos (by omega)] | rw [if_neg (by omega)]))
    subst h
    go_enter Tryd.func32, Tryd.ntmps32
    go_wp2_with fail
    go_ret
    exact saysI hv.out.symm rfl
  · have hv : Hid (oneK 15 o = 0) := Lib.hid (by unfold oneK; repeat (first | rw [if_pos (by omega)] | rw [if_neg (by omega)]))
    have f1 : (o == 5) = false := by rw [beq_eq_false_iff_ne]; exact h
    clear h
    go_enter Tryd.func32, Tryd.ntmps32
    go_wp2_with fail
    go_ret
    exact saysI hv.out.symm rfl
theorem one_16 (o : Int) (w : World) : Calls Tryd.prog 32 #[.int .i64 16, .int .i64 o] w (SaysI w (oneK 16 o)) := by
  by_cases h : o = 1
  · have hv : Hid (oneK 16 o = 2) := Lib.hid (by unfold oneK; repeat (first | rw [if_pos (by omega)] | rw [if_neg (by omega)]))
    subst h
    go_enter Tryd.func32, Tryd.ntmps32
    go_wp2_with fail
    go_ret
    exact saysI hv.out.symm rfl
  · have hv : Hid (oneK 16 o = 0) := Lib.hid (by unfold oneK; repeat (first | rw [if_pos (by omega)] | rw [if_neg (by omega)]))
    have f1 : (o == 1) = false := by rw [beq_eq_false_iff_ne]; exact h
    clear h
    go_enter Tryd.func32, Tryd.ntmps32
    go_wp2_with fail
    go_ret
    exact saysI hv.out.symm rfl
theorem one_17 (o : Int) (w : World) : Calls Tryd.prog 32 #[.int .i64 17, .int .i64 o] w (SaysI w (oneK 17 o)) := by
  by_cases h : o = 4
  · have hv : Hid (oneK 17 o = 2) := Lib.hid (by unfold oneK; repeat (first | rw [if_pos (by omega)] | rw [if_neg (by omega)]))
    subst h
    go_enter Tryd.func32, Tryd.ntmps32
    go_wp2_with fail
    go_ret
    exact saysI hv.out.symm rfl
  · have hv : Hid (oneK 17 o = 0) := Lib.hid (by unfold oneK; repeat (first | rw [if_pos (by omega)] | rw [if_neg (by omega)]))
    have f1 : (o == 4) = false := by rw [beq_eq_false_iff_ne]; exact h
    clear h
    go_enter Tryd.func32, Tryd.ntmps32
    go_wp2_with fail
    go_ret
    exact saysI hv.out.symm rfl
theorem one_18 (o : Int) (w : World) : Calls Tryd.prog 32 #[.int .i64 18, .int .i64 o] w (SaysI w (oneK 18 o)) := by
  by_cases h : o = 4
  · have hv : Hid (oneK 18 o = 1) := Lib.hid (by unfold oneK; repeat (first | rw [if_pos (by omega)] | rw [if_neg (by omega)]))
    subst h
    go_enter Tryd.func32, Tryd.ntmps32
    go_wp2_with fail
    go_ret
    exact saysI hv.out.symm rfl
  · have hv : Hid (oneK 18 o = 0) := Lib.hid (by unfold oneK; repeat (first | rw [if_pos (by omega)] | rw [if_neg (by omega)]))
    have f1 : (o == 4) = false := by rw [beq_eq_false_iff_ne]; exact h
    clear h
    go_enter Tryd.func32, Tryd.ntmps32
    go_wp2_with fail
    go_ret
    exact saysI hv.out.symm rfl
theorem one_19 (o : Int) (w : World) : Calls Tryd.prog 32 #[.int .i64 19, .int .i64 o] w (SaysI w (oneK 19 o)) := by
  by_cases h : o = 2
  · have hv : Hid (oneK 19 o = 1) := Lib.hid (by unfold oneK; repeat (first | rw [if_pos (by omega)] | rw [if_neg (by omega)]))
    subst h
    go_enter Tryd.func32, Tryd.ntmps32
    go_wp2_with fail
    go_ret
    exact saysI hv.out.symm rfl
  · have hv : Hid (oneK 19 o = 0) := Lib.hid (by unfold oneK; repeat (first | rw [if_pos (by omega)] | rw [if_neg (by omega)]))
    have f1 : (o == 2) = false := by rw [beq_eq_false_iff_ne]; exact h
    clear h
    go_enter Tryd.func32, Tryd.ntmps32
    go_wp2_with fail
    go_ret
    exact saysI hv.out.symm rfl
theorem one_29 (o : Int) (w : World) : Calls Tryd.prog 32 #[.int .i64 29, .int .i64 o] w (SaysI w (oneK 29 o)) := by
  by_cases h : o = 3
  · have hv : Hid (oneK 29 o = 3) := Lib.hid (by unfold oneK; repeat (first | rw [if_pos (by omega)] | rw [if_neg (by omega)]))
    subst h
    go_enter Tryd.func32, Tryd.ntmps32
    go_wp2_with fail
    go_ret
    exact saysI hv.out.symm rfl
  · have hv : Hid (oneK 29 o = 0) := Lib.hid (by unfold oneK; repeat (first | rw [if_pos (by omega)] | rw [if_neg (by omega)]))
    have f1 : (o == 3) = false := by rw [beq_eq_false_iff_ne]; exact h
    clear h
    go_enter Tryd.func32, Tryd.ntmps32
    go_wp2_with fail
    go_ret
    exact saysI hv.out.symm rfl
theorem one_any (k o : Int) (w : World) (h : (8 ≤ k ∧ k ≤ 19) ∨ k = 29) : Calls Tryd.prog 32 #[.int .i64 k, .int .i64 o] w (SaysI w (oneK k o)) := by
  have hc : k = 8 ∨ k = 9 ∨ k = 10 ∨ k = 11 ∨ k = 12 ∨ k = 13 ∨ k = 14 ∨ k = 15 ∨ k = 16 ∨ k = 17 ∨ k = 18 ∨ k = 19 ∨ k = 29 := by omega
  rcases hc with rfl | rfl | rfl | rfl | rfl | rfl | rfl | rfl | rfl | rfl | rfl | rfl | rfl
  · exact one_8 o w
  · exact one_9 o w
  · exact one_10 o w
  · exact one_11 o w
  · exact one_12 o w
  · exact one_13 o w
  · exact one_14 o w
  · exact one_15 o w
  · exact one_16 o w
  · exact one_17 o w
  · exact one_18 o w
  · exact one_19 o w
  · exact one_29 o w
set_option maxHeartbeats 800000 in
theorem two_20 (a b : Int) (w : World) : Calls Tryd.prog 33 #[.int .i64 20, .int .i64 a, .int .i64 b] w (SaysI w (twoK 20 a b)) := by
  by_cases h1 : a = b
  · have f1 : (a == b) = true := by rw [h1]; simp
    by_cases h2 : a = 1
    · have f2 : (a == 1) = true := by rw [h2]; rfl
      have hv : Hid (twoK 20 a b = a) := Lib.hid (by unfold twoK; repeat (first | rw [if_pos (by omega)] | rw [if_neg (by omega)]))
      clear h1 h2
      go_enter Tryd.func33, Tryd.ntmps33
      go_wp2_with fail
      go_ret
      exact saysI hv.out.symm rfl
    · have f2 : (a == 1) = false := by rw [beq_eq_false_iff_ne]; exact h2
      by_cases h3 : a = 2
      · have f3 : (a == 2) = true := by rw [h3]; rfl
        have hv : Hid (twoK 20 a b = a) := Lib.hid (by unfold twoK; repeat (first | rw [if_pos (by omega)] | rw [if_neg (by omega)]))
        clear h1 h2 h3
        go_enter Tryd.func33, Tryd.ntmps33
        go_wp2_with fail
        go_ret
        exact saysI hv.out.symm rfl
      · have f3 : (a == 2) = false := by rw [beq_eq_false_iff_ne]; exact h3
        have hv : Hid (twoK 20 a b = 0) := Lib.hid (by unfold twoK; repeat (first | rw [if_pos (by omega)] | rw [if_neg (by omega)]))
        clear h1 h2 h3
        go_enter Tryd.func33, Tryd.ntmps33
        go_wp2_with fail
        go_ret
        exact saysI hv.out.symm rfl
  · have f1 : (a == b) = false := by rw [beq_eq_false_iff_ne]; exact h1
    have hv : Hid (twoK 20 a b = 0) := Lib.hid (by unfold twoK; repeat (first | rw [if_pos (by omega)] | rw [if_neg (by omega)]))
    clear h1
    go_enter Tryd.func33, Tryd.ntmps33
    go_wp2_with fail
    go_ret
    exact saysI hv.out.symm rfl
set_option maxHeartbeats 800000 in
theorem two_21 (a b : Int) (w : World) : Calls Tryd.prog 33 #[.int .i64 21, .int .i64 a, .int .i64 b] w (SaysI w (twoK 21 a b)) := by
  by_cases h1 : a = 1
  · have f1 : (a == 1) = true := by rw [h1]; rfl
    by_cases h2 : b = 1
    · have f2 : (b == 1) = true := by rw [h2]; rfl
      have hv : Hid (twoK 21 a b = 1) := Lib.hid (by unfold twoK; repeat (first | rw [if_pos (by omega)] | rw [if_neg (by omega)]))
      clear h1 h2
      go_enter Tryd.func33, Tryd.ntmps33
      go_wp2_with fail
      go_ret
      exact saysI hv.out.symm rfl
    · have f2 : (b == 1) = false := by rw [beq_eq_false_iff_ne]; exact h2
      have hv : Hid (twoK 21 a b = 0) := Lib.hid (by unfold twoK; repeat (first | rw [if_pos (by omega)] | rw [if_neg (by omega)]))
      clear h1 h2
      go_enter Tryd.func33, Tryd.ntmps33
      go_wp2_with fail
      go_ret
      exact saysI hv.out.symm rfl
  · have f1 : (a == 1) = false := by rw [beq_eq_false_iff_ne]; exact h1
    have hv : Hid (twoK 21 a b = 0) := Lib.hid (by unfold twoK; repeat (first | rw [if_pos (by omega)] | rw [if_neg (by omega)]))
    clear h1
    go_enter Tryd.func33, Tryd.ntmps33
    go_wp2_with fail
    go_ret
    exact saysI hv.out.symm rfl
set_option maxHeartbeats 800000 in
theorem two_22 (a b : Int) (w : World) : Calls Tryd.prog 33 #[.int .i64 22, .int .i64 a, .int .i64 b] w (SaysI w (twoK 22 a b)) := by
  by_cases h1 : a = 1
  · have f1 : (a == 1) = true := by rw [h1]; rfl
    by_cases h2 : b = 1
    · have f2 : (b == 1) = true := by rw [h2]; rfl
      have hv : Hid (twoK 22 a b = 1) := Lib.hid (by unfold twoK; repeat (first | rw [if_pos (by omega)] | rw [if_neg (by omega)]))
      clear h1 h2
      go_enter Tryd.func33, Tryd.ntmps33
      go_wp2_with fail
      go_ret
      exact saysI hv.out.symm rfl
    · have f2 : (b == 1) = false := by rw [beq_eq_false_iff_ne]; exact h2
      have hv : Hid (twoK 22 a b = 0) := Lib.hid (by unfold twoK; repeat (first | rw [if_pos (by omega)] | rw [if_neg (by omega)]))
      clear h1 h2
      go_enter Tryd.func33, Tryd.ntmps33
      go_wp2_with fail
      go_ret
      exact saysI hv.out.symm rfl
  · have f1 : (a == 1) = false := by rw [beq_eq_false_iff_ne]; exact h1
    have hv : Hid (twoK 22 a b = 0) := Lib.hid (by unfold twoK; repeat (first | rw [if_pos (by omega)] | rw [if_neg (by omega)]))
    clear h1
    go_enter Tryd.func33, Tryd.ntmps33
    go_wp2_with fail
    go_ret
    exact saysI hv.out.symm rfl
set_option maxHeartbeats 800000 in
theorem two_23 (a b : Int) (w : World) : Calls Tryd.prog 33 #[.int .i64 23, .int .i64 a, .int .i64 b] w (SaysI w (twoK 23 a b)) := by
  by_cases h1 : a = b
  · have f1 : (a == b) = true := by rw [h1]; simp
    by_cases h2 : a = 5
    · have f2 : (a != 5) = false := by rw [h2]; rfl
      have hv : Hid (twoK 23 a b = 0) := Lib.hid (by unfold twoK; repeat (first | rw [if_pos (by omega)] | rw [if_neg (by omega)]))
      clear h1 h2
      go_enter Tryd.func33, Tryd.ntmps33
      go_wp2_with fail
      go_ret
      exact saysI hv.out.symm rfl
    · have f2 : (a != 5) = true := by rw [bne_iff_ne]; exact h2
      have hv : Hid (twoK 23 a b = 3) := Lib.hid (by unfold twoK; repeat (first | rw [if_pos (by omega)] | rw [if_neg (by omega)]))
      clear h1 h2
      go_enter Tryd.func33, Tryd.ntmps33
      go_wp2_with fail
      go_ret
      exact saysI hv.out.symm rfl
  · have f1 : (a == b) = false := by rw [beq_eq_false_iff_ne]; exact h1
    have hv : Hid (twoK 23 a b = 0) := Lib.hid (by unfold twoK; repeat (first | rw [if_pos (by omega)] | rw [if_neg (by omega)]))
    clear h1
    go_enter Tryd.func33, Tryd.ntmps33
    go_wp2_with fail
    go_ret
    exact saysI hv.out.symm rfl
set_option maxHeartbeats 800000 in
theorem two_24 (a b : Int) (w : World) : Calls Tryd.prog 33 #[.int .i64 24, .int .i64 a, .int .i64 b] w (SaysI w (twoK 24 a b)) := by
  by_cases h1 : a = b
  · have f1 : (a == b) = true := by rw [h1]; simp
    by_cases h2 : a = 5
    · have f2 : (a != 5) = false := by rw [h2]; rfl
      have hv : Hid (twoK 24 a b = 0) := Lib.hid (by unfold twoK; repeat (first | rw [if_pos (by omega)] | rw [if_neg (by omega)]))
      clear h1 h2
      go_enter Tryd.func33, Tryd.ntmps33
      go_wp2_with fail
      go_ret
      exact saysI hv.out.symm rfl
    · have f2 : (a != 5) = true := by rw [bne_iff_ne]; exact h2
      have hv : Hid (twoK 24 a b = 3) := Lib.hid (by unfold twoK; repeat (first | rw [if_pos (by omega)] | rw [if_neg (by omega)]))
      clear h1 h2
      go_enter Tryd.func33, Tryd.ntmps33
      go_wp2_with fail
      go_ret
      exact saysI hv.out.symm rfl
  · have f1 : (a == b) = false := by rw [beq_eq_false_iff_ne]; exact h1
    have hv : Hid (twoK 24 a b = 0) := Lib.hid (by unfold twoK; repeat (first | rw [if_pos (by omega)] | rw [if_neg (by omega)]))
    clear h1
    go_enter Tryd.func33, Tryd.ntmps33
    go_wp2_with fail
    go_ret
    exact saysI hv.out.symm rfl
set_option maxHeartbeats 800000 in
theorem two_25 (a b : Int) (w : World) : Calls Tryd.prog 33 #[.int .i64 25, .int .i64 a, .int .i64 b] w (SaysI w (twoK 25 a b)) := by
  by_cases h1 : a = b
  · have f1 : (a == b) = true := by rw [h1]; simp
    by_cases h2 : a = 1
    · have f2 : (a == 1) = true := by rw [h2]; rfl
      have hv : Hid (twoK 25 a b = 3) := Lib.hid (by unfold twoK; repeat (first | rw [if_pos (by omega)] | rw [if_neg (by omega)]))
      clear h1 h2
      go_enter Tryd.func33, Tryd.ntmps33
      go_wp2_with fail
      go_ret
      exact saysI hv.out.symm rfl
    · have f2 : (a == 1) = false := by rw [beq_eq_false_iff_ne]; exact h2
      by_cases h3 : a = 2
      · have f3 : (a == 2) = true := by rw [h3]; rfl
        have hv : Hid (twoK 25 a b = 3) := Lib.hid (by unfold twoK; repeat (first | rw [if_pos (by omega)] | rw [if_neg (by omega)]))
        clear h1 h2 h3
        go_enter Tryd.func33, Tryd.ntmps33
        go_wp2_with fail
        go_ret
        exact saysI hv.out.symm rfl
      · have f3 : (a == 2) = false := by rw [beq_eq_false_iff_ne]; exact h3
        have hv : Hid (twoK 25 a b = 0) := Lib.hid (by unfold twoK; repeat (first | rw [if_pos (by omega)] | rw [if_neg (by omega)]))
        clear h1 h2 h3
        go_enter Tryd.func33, Tryd.ntmps33
        go_wp2_with fail
        go_ret
        exact saysI hv.out.symm rfl
  · have f1 : (a == b) = false := by rw [beq_eq_false_iff_ne]; exact h1
    have hv : Hid (twoK 25 a b = 0) := Lib.hid (by unfold twoK; repeat (first | rw [if_pos (by omega)] | rw [if_neg (by omega)]))
    clear h1
    go_enter Tryd.func33, Tryd.ntmps33
    go_wp2_with fail
    go_ret
    exact saysI hv.out.symm rfl
set_option maxHeartbeats 800000 in
theorem two_26 (a b : Int) (w : World) : Calls Tryd.prog 33 #[.int .i64 26, .int .i64 a, .int .i64 b] w (SaysI w (twoK 26 a b)) := by
  by_cases h1 : a = b
  · have f1 : (a == b) = true := by rw [h1]; simp
    by_cases h2 : a = 1
    · have f2 : (a == 1) = true := by rw [h2]; rfl
      have hv : Hid (twoK 26 a b = 3) := Lib.hid (by unfold twoK; repeat (first | rw [if_pos (by omega)] | rw [if_neg (by omega)]))
      clear h1 h2
      go_enter Tryd.func33, Tryd.ntmps33
      go_wp2_with fail
      go_ret
      exact saysI hv.out.symm rfl
    · have f2 : (a == 1) = false := by rw [beq_eq_false_iff_ne]; exact h2
      by_cases h3 : a = 2
      · have f3 : (a == 2) = true := by rw [h3]; rfl
        have hv : Hid (twoK 26 a b = 3) := Lib.hid (by unfold twoK; repeat (first | rw [if_pos (by omega)] | rw [if_neg (by omega)]))
        clear h1 h2 h3
        go_enter Tryd.func33, Tryd.ntmps33
        go_wp2_with fail
        go_ret
        exact saysI hv.out.symm rfl
      · have f3 : (a == 2) = false := by rw [beq_eq_false_iff_ne]; exact h3
        have hv : Hid (twoK 26 a b = 0) := Lib.hid (by unfold twoK; repeat (first | rw [if_pos (by omega)] | rw [if_neg (by omega)]))
        clear h1 h2 h3
        go_enter Tryd.func33, Tryd.ntmps33
        go_wp2_with fail
        go_ret
        exact saysI hv.out.symm rfl
  · have f1 : (a == b) = false := by rw [beq_eq_false_iff_ne]; exact h1
    have hv : Hid (twoK 26 a b = 0) := Lib.hid (by unfold twoK; repeat (first | rw [if_pos (by omega)] | rw [if_neg (by omega)]))
    clear h1
    go_enter Tryd.func33, Tryd.ntmps33
    go_wp2_with fail
    go_ret
    exact saysI hv.out.symm rfl
set_option maxHeartbeats 800000 in
theorem two_27 (a b : Int) (w : World) : Calls Tryd.prog 33 #[.int .i64 27, .int .i64 a, .int .i64 b] w (SaysI w (twoK 27 a b)) := by
  by_cases h1 : a = 3
  · have f1 : (a == 3) = true := by rw [h1]; rfl
    by_cases h2 : b = 3
    · have f2 : (b == 3) = true := by rw [h2]; rfl
      have hv : Hid (twoK 27 a b = 3) := Lib.hid (by unfold twoK; repeat (first | rw [if_pos (by omega)] | rw [if_neg (by omega)]))
      clear h1 h2
      go_enter Tryd.func33, Tryd.ntmps33
      go_wp2_with fail
      go_ret
      exact saysI hv.out.symm rfl
    · have f2 : (b == 3) = false := by rw [beq_eq_false_iff_ne]; exact h2
      have hv : Hid (twoK 27 a b = 0) := Lib.hid (by unfold twoK; repeat (first | rw [if_pos (by omega)] | rw [if_neg (by omega)]))
      clear h1 h2
      go_enter Tryd.func33, Tryd.ntmps33
      go_wp2_with fail
      go_ret
      exact saysI hv.out.symm rfl
  · have f1 : (a == 3) = false := by rw [beq_eq_false_iff_ne]; exact h1
    have hv : Hid (twoK 27 a b = 0) := Lib.hid (by unfold twoK; repeat (first | rw [if_pos (by omega)] | rw [if_neg (by omega)]))
    clear h1
    go_enter Tryd.func33, Tryd.ntmps33
    go_wp2_with fail
    go_ret
    exact saysI hv.out.symm rfl
set_option maxHeartbeats 800000 in
theorem two_28 (a b : Int) (w : World) : Calls Tryd.prog 33 #[.int .i64 28, .int .i64 a, .int .i64 b] w (SaysI w (twoK 28 a b)) := by
  by_cases h1 : a = 3
  · have f1 : (a == 3) = true := by rw [h1]; rfl
    by_cases h2 : b = 3
    · have f2 : (b == 3) = true := by rw [h2]; rfl
      have hv : Hid (twoK 28 a b = 3) := Lib.hid (by unfold twoK; repeat (first | rw [if_pos (by omega)] | rw [if_neg (by omega)]))
      clear h1 h2
      go_enter Tryd.func33, Tryd.ntmps33
      go_wp2_with fail
      go_ret
      exact saysI hv.out.symm rfl
    · have f2 : (b == 3) = false := by rw [beq_eq_false_iff_ne]; exact h2
      have hv : Hid (twoK 28 a b = 0) := Lib.hid (by unfold twoK; repeat (first | rw [if_pos (by omega)] | rw [if_neg (by omega)]))
      clear h1 h2
      go_enter Tryd.func33, Tryd.ntmps33
      go_wp2_with fail
      go_ret
      exact saysI hv.out.symm rfl
  · have f1 : (a == 3) = false := by rw [beq_eq_false_iff_ne]; exact h1
    have hv : Hid (twoK 28 a b = 0) := Lib.hid (by unfold twoK; repeat (first | rw [if_pos (by omega)] | rw [if_neg (by omega)]))
    clear h1
    go_enter Tryd.func33, Tryd.ntmps33
    go_wp2_with fail
    go_ret
    exact saysI hv.out.symm rfl
set_option maxHeartbeats 800000 in
theorem two_31 (a b : Int) (w : World) : Calls Tryd.prog 33 #[.int .i64 31, .int .i64 a, .int .i64 b] w (SaysI w (twoK 31 a b)) := by
  by_cases h1 : a = 5
  · have f1 : (a == 5) = true := by rw [h1]; rfl
    by_cases h2 : b = 3
    · have f2 : (b == 3) = true := by rw [h2]; rfl
      have hv : Hid (twoK 31 a b = 3) := Lib.hid (by unfold twoK; repeat (first | rw [if_pos (by omega)] | rw [if_neg (by omega)]))
      clear h1 h2
      go_enter Tryd.func33, Tryd.ntmps33
      go_wp2_with fail
      go_ret
      exact saysI hv.out.symm rfl
    · have f2 : (b == 3) = false := by rw [beq_eq_false_iff_ne]; exact h2
      have hv : Hid (twoK 31 a b = 0) := Lib.hid (by unfold twoK; repeat (first | rw [if_pos (by omega)] | rw [if_neg (by omega)]))
      clear h1 h2
      go_enter Tryd.func33, Tryd.ntmps33
      go_wp2_with fail
      go_ret
      exact saysI hv.out.symm rfl
  · have f1 : (a == 5) = false := by rw [beq_eq_false_iff_ne]; exact h1
    have hv : Hid (twoK 31 a b = 0) := Lib.hid (by unfold twoK; repeat (first | rw [if_pos (by omega)] | rw [if_neg (by omega)]))
    clear h1
    go_enter Tryd.func33, Tryd.ntmps33
    go_wp2_with fail
    go_ret
    exact saysI hv.out.symm rfl
set_option maxHeartbeats 800000 in
theorem two_32 (a b : Int) (w : World) : Calls Tryd.prog 33 #[.int .i64 32, .int .i64 a, .int .i64 b] w (SaysI w (twoK 32 a b)) := by
  by_cases h1 : a = 5
  · have f1 : (a == 5) = true := by rw [h1]; rfl
    by_cases h2 : b = 3
    · have f2 : (b == 3) = true := by rw [h2]; rfl
      have hv : Hid (twoK 32 a b = 3) := Lib.hid (by unfold twoK; repeat (first | rw [if_pos (by omega)] | rw [if_neg (by omega)]))
      clear h1 h2
      go_enter Tryd.func33, Tryd.ntmps33
      go_wp2_with fail
      go_ret
      exact saysI hv.out.symm rfl
    · have f2 : (b == 3) = false := by rw [beq_eq_false_iff_ne]; exact h2
      have hv : Hid (twoK 32 a b = 0) := Lib.hid (by unfold twoK; repeat (first | rw [if_pos (by omega)] | rw [if_neg (by omega)]))
      clear h1 h2
      go_enter Tryd.func33, Tryd.ntmps33
      go_wp2_with fail
      go_ret
      exact saysI hv.out.symm rfl
  · have f1 : (a == 5) = false := by rw [beq_eq_false_iff_ne]; exact h1
    have hv : Hid (twoK 32 a b = 0) := Lib.hid (by unfold twoK; repeat (first | rw [if_pos (by omega)] | rw [if_neg (by omega)]))
    clear h1
    go_enter Tryd.func33, Tryd.ntmps33
    go_wp2_with fail
    go_ret
    exact saysI hv.out.symm rfl
set_option maxHeartbeats 800000 in
theorem two_33 (a b : Int) (w : World) : Calls Tryd.prog 33 #[.int .i64 33, .int .i64 a, .int .i64 b] w (SaysI w (twoK 33 a b)) := by
  by_cases h1 : a = 5
  · have f1 : (a == 5) = true := by rw [h1]; rfl
    by_cases h2 : b = 3
    · have f2 : (b == 3) = true := by rw [h2]; rfl
      have hv : Hid (twoK 33 a b = 5) := Lib.hid (by unfold twoK; repeat (first | rw [if_pos (by omega)] | rw [if_neg (by omega)]))
      clear h1 h2
      go_enter Tryd.func33, Tryd.ntmps33
      go_wp2_with fail
      go_ret
      exact saysI hv.out.symm rfl
    · have f2 : (b == 3) = false := by rw [beq_eq_false_iff_ne]; exact h2
      have hv : Hid (twoK 33 a b = 0) := Lib.hid (by unfold twoK; repeat (first | rw [if_pos (by omega)] | rw [if_neg (by omega)]))
      clear h1 h2
      go_enter Tryd.func33, Tryd.ntmps33
      go_wp2_with fail
      go_ret
      exact saysI hv.out.symm rfl
  · have f1 : (a == 5) = false := by rw [beq_eq_false_iff_ne]; exact h1
    have hv : Hid (twoK 33 a b = 0) := Lib.hid (by unfold twoK; repeat (first | rw [if_pos (by omega)] | rw [if_neg (by omega)]))
    clear h1
    go_enter Tryd.func33, Tryd.ntmps33
    go_wp2_with fail
    go_ret
    exact saysI hv.out.symm rfl
set_option maxHeartbeats 800000 in
theorem two_34 (a b : Int) (w : World) : Calls Tryd.prog 33 #[.int .i64 34, .int .i64 a, .int .i64 b] w (SaysI w (twoK 34 a b)) := by
  by_cases h1 : a = 5
  · have f1 : (a == 5) = true := by rw [h1]; rfl
    by_cases h2 : b = 1
    · have f2 : (b == 1) = true := by rw [h2]; rfl
      have hv : Hid (twoK 34 a b = 1) := Lib.hid (by unfold twoK; repeat (first | rw [if_pos (by omega)] | rw [if_neg (by omega)]))
      clear h1 h2
      go_enter Tryd.func33, Tryd.ntmps33
      go_wp2_with fail
      go_ret
      exact saysI hv.out.symm rfl
    · have f2 : (b == 1) = false := by rw [beq_eq_false_iff_ne]; exact h2
      have hv : Hid (twoK 34 a b = 0) := Lib.hid (by unfold twoK; repeat (first | rw [if_pos (by omega)] | rw [if_neg (by omega)]))
      clear h1 h2
      go_enter Tryd.func33, Tryd.ntmps33
      go_wp2_with fail
      go_ret
      exact saysI hv.out.symm rfl
  · have f1 : (a == 5) = false := by rw [beq_eq_false_iff_ne]; exact h1
    have hv : Hid (twoK 34 a b = 0) := Lib.hid (by unfold twoK; repeat (first | rw [if_pos (by omega)] | rw [if_neg (by omega)]))
    clear h1
    go_enter Tryd.func33, Tryd.ntmps33
    go_wp2_with fail
    go_ret
    exact saysI hv.out.symm rfl
theorem two_any (k a b : Int) (w : World) (h : (20 ≤ k ∧ k ≤ 28) ∨ (31 ≤ k ∧ k ≤ 34)) : Calls Tryd.prog 33 #[.int .i64 k, .int .i64 a, .int .i64 b] w (SaysI w (twoK k a b)) := by
  have hc : k = 20 ∨ k = 21 ∨ k = 22 ∨ k = 23 ∨ k = 24 ∨ k = 25 ∨ k = 26 ∨ k = 27 ∨ k = 28 ∨ k = 31 ∨ k = 32 ∨ k = 33 ∨ k = 34 := by omega
  rcases hc with rfl | rfl | rfl | rfl | rfl | rfl | rfl | rfl | rfl | rfl | rfl | rfl | rfl
  · exact two_20 a b w
  · exact two_21 a b w
  · exact two_22 a b w
  · exact two_23 a b w
  · exact two_24 a b w
  · exact two_25 a b w
  · exact two_26 a b w
  · exact two_27 a b w
  · exact two_28 a b w
  · exact two_31 a b w
  · exact two_32 a b w
  · exact two_33 a b w
  · exact two_34 a b w
end Go.Proofs.YtjlpoigcalfdlaaDoor
