/-
  WALKS: the document's: may a node be put there?
-/
import Derived.Test.YtnhkghmgkfmiaaaW30
namespace Go.Proofs.Ytnhkghmgkfmiaaa
open Go Go.RowKit Go.Sort
set_option linter.unusedVariables false
attribute [local go_sem ↓] Go.wp_at_zero Go.wp_at_succ

set_option maxHeartbeats 1600000 in
theorem mayRoot_any (w : World) (next at_ : Int) (role : ByteArray) (L : Nat) (A : Option Addr) (n c : Nat) (v : Int) (hv : (if (role.toList.isEmpty && at_ == 0) = true then 0 else 22) = v) :
    Calls Try.prog 63 #[.agg #[.int .i64 next, .slice A n c], .int .i64 0, .string role, .int .i64 at_, .int .i64 L] w (Ret w (.int .i64 v)) := by
  have HM0 := Lib.hid (M1.start w next A n c)
  cases d1 : role.toList.isEmpty with
  | true =>
    have d2 : (role.toList == ([] : List UInt8)) = true := by rw [beq_iff_eq]; exact List.isEmpty_iff.1 d1
    rw [d1] at hv
    cases d3 : (at_ == 0) with
    | true =>
      have e3 : (at_ != 0) = false := by rw [bne_eq_false_iff_eq]; exact beq_iff_eq.1 d3
      have HX : Hid (v = 0) := Lib.hid (by rw [← hv, d3]; rfl)
      clear hv d1 d3
      go_enter Try.func63, Try.ntmps63
      go_wp2_with fail
      go_ret
      obtain rfl := HX.out
      exact ret_mk rfl HM0.out.bel
    | false =>
      have e3 : (at_ != 0) = true := by rw [bne_iff_ne]; exact beq_eq_false_iff_ne.1 d3
      have HX : Hid (v = 22) := Lib.hid (by rw [← hv, d3]; rfl)
      clear hv d1 d3
      go_enter Try.func63, Try.ntmps63
      go_wp2_with fail
      go_ret
      obtain rfl := HX.out
      exact ret_mk rfl HM0.out.bel
  | false =>
    have d2 : (role.toList == ([] : List UInt8)) = false := by rw [beq_eq_false_iff_ne]; intro e; rw [e] at d1; cases d1
    have HX : Hid (v = 22) := Lib.hid (by rw [← hv, d1]; rfl)
    clear hv d1
    go_enter Try.func63, Try.ntmps63
    go_wp2_with fail
    go_ret
    obtain rfl := HX.out
    exact ret_mk rfl HM0.out.bel

set_option maxHeartbeats 1600000 in
theorem may_any (w : World) (next parent at_ : Int) (role : ByteArray) (L K : Nat) (A : Option Addr) (n c : Nat) (hL : L ≤ 65) (hK : K ≤ 64) (h0 : parent ≠ 0) (q : Int)
    (HBe : Hid (∀ X, Below w.heap.size w X → Calls Try.prog 118 #[.agg #[.int .i64 next, .slice A n c], .int .i64 parent, .string role, .int .i64 at_] X (Ret X (.int .i64 q))))
    (HDe : Hid (∀ X, Below w.heap.size w X → Calls Try.prog 97 #[.agg #[.int .i64 next, .slice A n c], .int .i64 parent] X (Ret X (.int .i64 K))))
    (v : Int) (hv : (if q < 0 then 22 else if 64 < K + L then 23 else 0) = v) :
    Calls Try.prog 63 #[.agg #[.int .i64 next, .slice A n c], .int .i64 parent, .string role, .int .i64 at_, .int .i64 L] w (Ret w (.int .i64 v)) := by
  have HM0 := Lib.hid (M1.start w next A n c)
  have d0 : (parent == 0) = false := by rw [beq_eq_false_iff_ne]; exact h0
  by_cases e1 : q < 0
  · have d1 : decide (q < 0) = true := by rw [decide_eq_true_eq]; exact e1
    have HX : Hid (v = 22) := Lib.hid (by rw [← hv, if_pos e1])
    clear hv e1 h0
    go_enter Try.func63, Try.ntmps63
    go_wp2_with (go_at_call 118; go_must (refine (HBe.out _ HM0.out.bel).mono ?_; rintro e w1 ⟨rfl, hb1⟩; have hm1 := HM0.out.after hb1; have m0 := hm1.a.cell 0; have m1 := hm1.a.cell 1; simp at m0 m1; have HM1 := Lib.hid hm1; clear hm1 hb1))
    go_ret
    obtain rfl := HX.out
    exact ret_mk rfl HM1.out.bel
  · have d1 : decide (q < 0) = false := by rw [decide_eq_false_iff_not]; exact e1
    by_cases e2 : 64 < K + L
    · have d2 : decide ((64 : Int) < (K : Int) + (L : Int)) = true := by rw [decide_eq_true_eq]; omega
      have HX : Hid (v = 23) := Lib.hid (by rw [← hv, if_neg e1, if_pos e2])
      clear hv e1 h0 e2
      go_enter Try.func63, Try.ntmps63
      go_wp2_with (first | (go_at_call 118; go_must (refine (HBe.out _ HM0.out.bel).mono ?_; rintro e w1 ⟨rfl, hb1⟩; have hm1 := HM0.out.after hb1; have m0 := hm1.a.cell 0; have m1 := hm1.a.cell 1; simp at m0 m1; have HM1 := Lib.hid hm1; clear hm1 hb1)) | (go_at_call 97; go_must (refine (HDe.out _ HM1.out.bel).mono ?_; rintro e w2 ⟨rfl, hb2⟩; have HM2 := Lib.hid (HM1.out.after hb2); clear hb2)))
      go_ret
      obtain rfl := HX.out
      exact ret_mk rfl HM2.out.bel
    · have d2 : decide ((64 : Int) < (K : Int) + (L : Int)) = false := by rw [decide_eq_false_iff_not]; omega
      have HX : Hid (v = 0) := Lib.hid (by rw [← hv, if_neg e1, if_neg e2])
      clear hv e1 h0 e2
      go_enter Try.func63, Try.ntmps63
      go_wp2_with (first | (go_at_call 118; go_must (refine (HBe.out _ HM0.out.bel).mono ?_; rintro e w1 ⟨rfl, hb1⟩; have hm1 := HM0.out.after hb1; have m0 := hm1.a.cell 0; have m1 := hm1.a.cell 1; simp at m0 m1; have HM1 := Lib.hid hm1; clear hm1 hb1)) | (go_at_call 97; go_must (refine (HDe.out _ HM1.out.bel).mono ?_; rintro e w2 ⟨rfl, hb2⟩; have HM2 := Lib.hid (HM1.out.after hb2); clear hb2)))
      go_ret
      obtain rfl := HX.out
      exact ret_mk rfl HM2.out.bel
end Go.Proofs.Ytnhkghmgkfmiaaa
