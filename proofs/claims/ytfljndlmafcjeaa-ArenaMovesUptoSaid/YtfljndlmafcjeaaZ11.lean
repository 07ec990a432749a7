/-
  WALKS: may a branch stand at a spot?
  WALKS: the document's: the place ahead of which a place of a role is; may a node be put there?
  WALKS: the document's: may a node be put there?
-/
import Derived.Test.YtfljndlmafcjeaaZ10
namespace Go.Proofs.Ytfljndlmafcjeaa
open Go Go.RowKit Go.Sort
set_option linter.unusedVariables false
attribute [local go_sem ↓] Go.wp_at_zero Go.wp_at_succ
set_option maxHeartbeats 800000 in
theorem named_any (w : World) (parent at_ : Int) (role : ByteArray) (hs : role.size ≤ maxLen) (v : Bool) (hv : (parent == 0 || wordB role) = v) :
    Calls Try.prog 15 #[.agg #[.int .i64 parent, .string role, .int .i64 at_]] w (Ret w (.bool v)) := by
  have HB := Lib.hid (below_box w (.cells #[.int .i64 parent, .string role, .int .i64 at_] 51))
  cases d0 : (parent == 0) with
  | true =>
    have HX : Hid (v = true) := Lib.hid (by rw [← hv, d0]; rfl)
    clear hv hs
    go_enter Try.func15, Try.ntmps15
    go_wp2_with fail
    go_ret
    exact ret_b HX.out rfl HB.out
  | false =>
    have HX : Hid (wordB role = v) := Lib.hid (by rw [← hv, d0]; rfl)
    have HS := Lib.hid hs
    clear hv hs
    go_enter Try.func15, Try.ntmps15
    go_wp2_with (go_at_call 46; go_must (refine (word_is _ _ _ HS.out HX.out).mono ?_; rintro e w' ⟨rfl, rfl⟩))
    go_ret
    exact ret_b rfl rfl HB.out
set_option maxHeartbeats 1600000 in
/-- where the parent is no node -/
theorem admits_none (w : World) (hi : Nat) (next parent at_ : Int) (role : ByteArray) (L M : Nat) (A : Option Addr) (n c : Nat) (nds : List Nd) (h : NodesIn w 0 hi A n c nds) (hh : hi ≤ w.heap.size) (hr : Rise nds) (hn : n ≤ 4096) (hp : ndOf nds parent = none) (h0 : parent ≠ 0) :
    Calls Try.prog 21 #[.agg #[.int .i64 parent, .string role, .int .i64 at_], .agg #[.int .i64 next, .slice A n c], .int .i64 L, .int .i64 M] w (Ret w (.tuple #[.int .i64 0, .int .i64 20])) := by
  have HM0 := Lib.hid (SM.start w parent role at_ next A n c)
  have hx : (ixOf nds parent).isSome = false := by
    cases hx : ixOf nds parent with
    | none => rfl
    | some i =>
      obtain ⟨nd, h1, _⟩ := ixOf_some hx
      unfold ndOf at hp
      rw [hx] at hp
      rw [show (some i).bind (fun x => nds[x]?) = nds[i]? from rfl, h1] at hp
      cases hp
  have hha := has_any _ hi next parent A n c nds (h.below (HM0.out.bel.mono hh)) (Nat.le_trans hh HM0.out.bel.size) hr hn
  rw [hx] at hha
  have HHas := Lib.hid hha
  have d0 : (parent != 0) = true := by rw [bne_iff_ne]; exact h0
  clear h hx hp h0 hha
  go_enter Try.func21, Try.ntmps21
  go_wp2_with (go_at_call 16; go_must (refine HHas.out.mono ?_; rintro e w1 ⟨rfl, hb1⟩; have HM1 := Lib.hid (HM0.out.after hb1); clear hb1))
  go_ret2
  exact ret_mk rfl HM1.out.bel
set_option maxRecDepth 20000 in
set_option maxHeartbeats 3200000 in
/-- .. where it is one, or where a root is to stand -/
theorem admits_some (w : World) (next parent at_ : Int) (role : ByteArray) (L M K : Nat) (A : Option Addr) (n c : Nat) (hc : c ≤ maxLen) (hn : n ≤ 4096) (hn1 : 1 ≤ next) (hn2 : next ≤ 1048577) (hL : L ≤ 65) (hM : M ≤ 8192) (hK : K ≤ 64) (a : Int) (ok : Bool)
    (HHas : Hid (∀ X, Below w.heap.size w X → Calls Try.prog 16 #[.agg #[.int .i64 next, .slice A n c], .int .i64 parent] X (Ret X (.bool (parent != 0)))))
    (HAm : Hid (∀ X, Below w.heap.size w X → Calls Try.prog 53 #[.agg #[.int .i64 parent, .string role, .int .i64 at_], .agg #[.int .i64 next, .slice A n c]] X (Ret X (.tuple #[.int .i64 a, .bool ok]))))
    (HDe : Hid (∀ X, Below w.heap.size w X → Calls Try.prog 54 #[.agg #[.int .i64 next, .slice A n c], .int .i64 parent] X (Ret X (.int .i64 K))))
    (r : Int × Int) (hr : (if ok = false then (0, 22) else if 64 < K + L then (0, 23) else if 4096 < n + M then (0, 4) else if 1048576 < next - 1 + M then (0, 4) else (a, 0)) = r) :
    Calls Try.prog 21 #[.agg #[.int .i64 parent, .string role, .int .i64 at_], .agg #[.int .i64 next, .slice A n c], .int .i64 L, .int .i64 M] w (Ret w (.tuple #[.int .i64 r.1, .int .i64 r.2])) := by
  unfold maxLen at hc
  have HM0 := Lib.hid (SM.start w parent role at_ next A n c)
  cases d0 : (parent != 0) with
  | true =>
    rw [d0] at HHas
    cases hok : ok with
    | false =>
      have HE : Hid ((0, 22) = r) := Lib.hid (by rw [← hr, hok]; rfl)
      subst hok
      clear hr
      go_enter Try.func21, Try.ntmps21
      go_wp2_with (first | (go_at_call 16; go_must (refine (HHas.out _ HM0.out.bel).mono ?_; rintro e w1 ⟨rfl, hb1⟩; have hm1 := HM0.out.after hb1; have s10 := hm1.s.cell 0; have s11 := hm1.s.cell 1; have s12 := hm1.s.cell 2; have m10 := hm1.m.cell 0; have m11 := hm1.m.cell 1; simp at s10 s11 s12 m10 m11; have HM1 := Lib.hid hm1; clear hm1 hb1)) | (go_at_call 53; go_must (refine (HAm.out _ HM1.out.bel).mono ?_; rintro e w2 ⟨rfl, hb2⟩; have hm2 := HM1.out.after hb2; have s20 := hm2.s.cell 0; have s21 := hm2.s.cell 1; have s22 := hm2.s.cell 2; have m20 := hm2.m.cell 0; have m21 := hm2.m.cell 1; simp at s20 s21 s22 m20 m21; have HM2 := Lib.hid hm2; clear hm2 hb2)))
      go_ret2
      obtain rfl := HE.out
      exact ret_mk rfl HM2.out.bel
    | true =>
      subst hok
      by_cases e3 : 64 < K + L
      · have HE : Hid ((0, 23) = r) := Lib.hid (by rw [← hr]; simp [e3])
        have d3 : decide ((64 : Int) < (K : Int) + (L : Int)) = true := by rw [decide_eq_true_eq]; omega
        clear hr
        go_enter Try.func21, Try.ntmps21
        go_wp2_with (first | (go_at_call 16; go_must (refine (HHas.out _ HM0.out.bel).mono ?_; rintro e w1 ⟨rfl, hb1⟩; have hm1 := HM0.out.after hb1; have s10 := hm1.s.cell 0; have s11 := hm1.s.cell 1; have s12 := hm1.s.cell 2; have m10 := hm1.m.cell 0; have m11 := hm1.m.cell 1; simp at s10 s11 s12 m10 m11; have HM1 := Lib.hid hm1; clear hm1 hb1)) | (go_at_call 53; go_must (refine (HAm.out _ HM1.out.bel).mono ?_; rintro e w2 ⟨rfl, hb2⟩; have hm2 := HM1.out.after hb2; have s20 := hm2.s.cell 0; have s21 := hm2.s.cell 1; have s22 := hm2.s.cell 2; have m20 := hm2.m.cell 0; have m21 := hm2.m.cell 1; simp at s20 s21 s22 m20 m21; have HM2 := Lib.hid hm2; clear hm2 hb2)) | (go_at_call 54; go_must (refine (HDe.out _ HM2.out.bel).mono ?_; rintro e w3 ⟨rfl, hb3⟩; have hm3 := HM2.out.after hb3; have s30 := hm3.s.cell 0; have s31 := hm3.s.cell 1; have s32 := hm3.s.cell 2; have m30 := hm3.m.cell 0; have m31 := hm3.m.cell 1; simp at s30 s31 s32 m30 m31; have HM3 := Lib.hid hm3; clear hm3 hb3)))
        go_ret2
        obtain rfl := HE.out
        exact ret_mk rfl HM3.out.bel
      · have d3 : decide ((64 : Int) < (K : Int) + (L : Int)) = false := by rw [decide_eq_false_iff_not]; omega
        by_cases e4 : 4096 < n + M
        · have HE : Hid ((0, 4) = r) := Lib.hid (by rw [← hr]; simp [e3, e4])
          have d4 : decide ((4096 : Int) < (n : Int) + (M : Int)) = true := by rw [decide_eq_true_eq]; omega
          clear hr
          go_enter Try.func21, Try.ntmps21
          go_wp2_with (first | (go_at_call 16; go_must (refine (HHas.out _ HM0.out.bel).mono ?_; rintro e w1 ⟨rfl, hb1⟩; have hm1 := HM0.out.after hb1; have s10 := hm1.s.cell 0; have s11 := hm1.s.cell 1; have s12 := hm1.s.cell 2; have m10 := hm1.m.cell 0; have m11 := hm1.m.cell 1; simp at s10 s11 s12 m10 m11; have HM1 := Lib.hid hm1; clear hm1 hb1)) | (go_at_call 53; go_must (refine (HAm.out _ HM1.out.bel).mono ?_; rintro e w2 ⟨rfl, hb2⟩; have hm2 := HM1.out.after hb2; have s20 := hm2.s.cell 0; have s21 := hm2.s.cell 1; have s22 := hm2.s.cell 2; have m20 := hm2.m.cell 0; have m21 := hm2.m.cell 1; simp at s20 s21 s22 m20 m21; have HM2 := Lib.hid hm2; clear hm2 hb2)) | (go_at_call 54; go_must (refine (HDe.out _ HM2.out.bel).mono ?_; rintro e w3 ⟨rfl, hb3⟩; have hm3 := HM2.out.after hb3; have s30 := hm3.s.cell 0; have s31 := hm3.s.cell 1; have s32 := hm3.s.cell 2; have m30 := hm3.m.cell 0; have m31 := hm3.m.cell 1; simp at s30 s31 s32 m30 m31; have HM3 := Lib.hid hm3; clear hm3 hb3)))
          go_ret2
          obtain rfl := HE.out
          exact ret_mk rfl HM3.out.bel
        · have d4 : decide ((4096 : Int) < (n : Int) + (M : Int)) = false := by rw [decide_eq_false_iff_not]; omega
          by_cases e5 : 1048576 < next - 1 + M
          · have HE : Hid ((0, 4) = r) := Lib.hid (by rw [← hr]; simp [e3, e4, e5])
            have d5 : decide ((1048576 : Int) < next - 1 + (M : Int)) = true := by rw [decide_eq_true_eq]; omega
            clear hr
            go_enter Try.func21, Try.ntmps21
            go_wp2_with (first | (go_at_call 16; go_must (refine (HHas.out _ HM0.out.bel).mono ?_; rintro e w1 ⟨rfl, hb1⟩; have hm1 := HM0.out.after hb1; have s10 := hm1.s.cell 0; have s11 := hm1.s.cell 1; have s12 := hm1.s.cell 2; have m10 := hm1.m.cell 0; have m11 := hm1.m.cell 1; simp at s10 s11 s12 m10 m11; have HM1 := Lib.hid hm1; clear hm1 hb1)) | (go_at_call 53; go_must (refine (HAm.out _ HM1.out.bel).mono ?_; rintro e w2 ⟨rfl, hb2⟩; have hm2 := HM1.out.after hb2; have s20 := hm2.s.cell 0; have s21 := hm2.s.cell 1; have s22 := hm2.s.cell 2; have m20 := hm2.m.cell 0; have m21 := hm2.m.cell 1; simp at s20 s21 s22 m20 m21; have HM2 := Lib.hid hm2; clear hm2 hb2)) | (go_at_call 54; go_must (refine (HDe.out _ HM2.out.bel).mono ?_; rintro e w3 ⟨rfl, hb3⟩; have hm3 := HM2.out.after hb3; have s30 := hm3.s.cell 0; have s31 := hm3.s.cell 1; have s32 := hm3.s.cell 2; have m30 := hm3.m.cell 0; have m31 := hm3.m.cell 1; simp at s30 s31 s32 m30 m31; have HM3 := Lib.hid hm3; clear hm3 hb3)))
            go_ret2
            obtain rfl := HE.out
            exact ret_mk rfl HM3.out.bel
          · have HE : Hid ((a, 0) = r) := Lib.hid (by rw [← hr]; simp [e3, e4, e5])
            have d5 : decide ((1048576 : Int) < next - 1 + (M : Int)) = false := by rw [decide_eq_false_iff_not]; omega
            clear hr
            go_enter Try.func21, Try.ntmps21
            go_wp2_with (first | (go_at_call 16; go_must (refine (HHas.out _ HM0.out.bel).mono ?_; rintro e w1 ⟨rfl, hb1⟩; have hm1 := HM0.out.after hb1; have s10 := hm1.s.cell 0; have s11 := hm1.s.cell 1; have s12 := hm1.s.cell 2; have m10 := hm1.m.cell 0; have m11 := hm1.m.cell 1; simp at s10 s11 s12 m10 m11; have HM1 := Lib.hid hm1; clear hm1 hb1)) | (go_at_call 53; go_must (refine (HAm.out _ HM1.out.bel).mono ?_; rintro e w2 ⟨rfl, hb2⟩; have hm2 := HM1.out.after hb2; have s20 := hm2.s.cell 0; have s21 := hm2.s.cell 1; have s22 := hm2.s.cell 2; have m20 := hm2.m.cell 0; have m21 := hm2.m.cell 1; simp at s20 s21 s22 m20 m21; have HM2 := Lib.hid hm2; clear hm2 hb2)) | (go_at_call 54; go_must (refine (HDe.out _ HM2.out.bel).mono ?_; rintro e w3 ⟨rfl, hb3⟩; have hm3 := HM2.out.after hb3; have s30 := hm3.s.cell 0; have s31 := hm3.s.cell 1; have s32 := hm3.s.cell 2; have m30 := hm3.m.cell 0; have m31 := hm3.m.cell 1; simp at s30 s31 s32 m30 m31; have HM3 := Lib.hid hm3; clear hm3 hb3)))
            go_ret2
            obtain rfl := HE.out
            exact ret_mk rfl HM3.out.bel
  | false =>
    clear HHas
    cases hok : ok with
    | false =>
      have HE : Hid ((0, 22) = r) := Lib.hid (by rw [← hr, hok]; rfl)
      subst hok
      clear hr
      go_enter Try.func21, Try.ntmps21
      go_wp2_with (first | (go_at_call 53; go_must (refine (HAm.out _ HM0.out.bel).mono ?_; rintro e w2 ⟨rfl, hb2⟩; have hm2 := HM0.out.after hb2; have s20 := hm2.s.cell 0; have s21 := hm2.s.cell 1; have s22 := hm2.s.cell 2; have m20 := hm2.m.cell 0; have m21 := hm2.m.cell 1; simp at s20 s21 s22 m20 m21; have HM2 := Lib.hid hm2; clear hm2 hb2)))
      go_ret2
      obtain rfl := HE.out
      exact ret_mk rfl HM2.out.bel
    | true =>
      subst hok
      by_cases e3 : 64 < K + L
      · have HE : Hid ((0, 23) = r) := Lib.hid (by rw [← hr]; simp [e3])
        have d3 : decide ((64 : Int) < (K : Int) + (L : Int)) = true := by rw [decide_eq_true_eq]; omega
        clear hr
        go_enter Try.func21, Try.ntmps21
        go_wp2_with (first | (go_at_call 53; go_must (refine (HAm.out _ HM0.out.bel).mono ?_; rintro e w2 ⟨rfl, hb2⟩; have hm2 := HM0.out.after hb2; have s20 := hm2.s.cell 0; have s21 := hm2.s.cell 1; have s22 := hm2.s.cell 2; have m20 := hm2.m.cell 0; have m21 := hm2.m.cell 1; simp at s20 s21 s22 m20 m21; have HM2 := Lib.hid hm2; clear hm2 hb2)) | (go_at_call 54; go_must (refine (HDe.out _ HM2.out.bel).mono ?_; rintro e w3 ⟨rfl, hb3⟩; have hm3 := HM2.out.after hb3; have s30 := hm3.s.cell 0; have s31 := hm3.s.cell 1; have s32 := hm3.s.cell 2; have m30 := hm3.m.cell 0; have m31 := hm3.m.cell 1; simp at s30 s31 s32 m30 m31; have HM3 := Lib.hid hm3; clear hm3 hb3)))
        go_ret2
        obtain rfl := HE.out
        exact ret_mk rfl HM3.out.bel
      · have d3 : decide ((64 : Int) < (K : Int) + (L : Int)) = false := by rw [decide_eq_false_iff_not]; omega
        by_cases e4 : 4096 < n + M
        · have HE : Hid ((0, 4) = r) := Lib.hid (by rw [← hr]; simp [e3, e4])
          have d4 : decide ((4096 : Int) < (n : Int) + (M : Int)) = true := by rw [decide_eq_true_eq]; omega
          clear hr
          go_enter Try.func21, Try.ntmps21
          go_wp2_with (first | (go_at_call 53; go_must (refine (HAm.out _ HM0.out.bel).mono ?_; rintro e w2 ⟨rfl, hb2⟩; have hm2 := HM0.out.after hb2; have s20 := hm2.s.cell 0; have s21 := hm2.s.cell 1; have s22 := hm2.s.cell 2; have m20 := hm2.m.cell 0; have m21 := hm2.m.cell 1; simp at s20 s21 s22 m20 m21; have HM2 := Lib.hid hm2; clear hm2 hb2)) | (go_at_call 54; go_must (refine (HDe.out _ HM2.out.bel).mono ?_; rintro e w3 ⟨rfl, hb3⟩; have hm3 := HM2.out.after hb3; have s30 := hm3.s.cell 0; have s31 := hm3.s.cell 1; have s32 := hm3.s.cell 2; have m30 := hm3.m.cell 0; have m31 := hm3.m.cell 1; simp at s30 s31 s32 m30 m31; have HM3 := Lib.hid hm3; clear hm3 hb3)))
          go_ret2
          obtain rfl := HE.out
          exact ret_mk rfl HM3.out.bel
        · have d4 : decide ((4096 : Int) < (n : Int) + (M : Int)) = false := by rw [decide_eq_false_iff_not]; omega
          by_cases e5 : 1048576 < next - 1 + M
          · have HE : Hid ((0, 4) = r) := Lib.hid (by rw [← hr]; simp [e3, e4, e5])
            have d5 : decide ((1048576 : Int) < next - 1 + (M : Int)) = true := by rw [decide_eq_true_eq]; omega
            clear hr
            go_enter Try.func21, Try.ntmps21
            go_wp2_with (first | (go_at_call 53; go_must (refine (HAm.out _ HM0.out.bel).mono ?_; rintro e w2 ⟨rfl, hb2⟩; have hm2 := HM0.out.after hb2; have s20 := hm2.s.cell 0; have s21 := hm2.s.cell 1; have s22 := hm2.s.cell 2; have m20 := hm2.m.cell 0; have m21 := hm2.m.cell 1; simp at s20 s21 s22 m20 m21; have HM2 := Lib.hid hm2; clear hm2 hb2)) | (go_at_call 54; go_must (refine (HDe.out _ HM2.out.bel).mono ?_; rintro e w3 ⟨rfl, hb3⟩; have hm3 := HM2.out.after hb3; have s30 := hm3.s.cell 0; have s31 := hm3.s.cell 1; have s32 := hm3.s.cell 2; have m30 := hm3.m.cell 0; have m31 := hm3.m.cell 1; simp at s30 s31 s32 m30 m31; have HM3 := Lib.hid hm3; clear hm3 hb3)))
            go_ret2
            obtain rfl := HE.out
            exact ret_mk rfl HM3.out.bel
          · have HE : Hid ((a, 0) = r) := Lib.hid (by rw [← hr]; simp [e3, e4, e5])
            have d5 : decide ((1048576 : Int) < next - 1 + (M : Int)) = false := by rw [decide_eq_false_iff_not]; omega
            clear hr
            go_enter Try.func21, Try.ntmps21
            go_wp2_with (first | (go_at_call 53; go_must (refine (HAm.out _ HM0.out.bel).mono ?_; rintro e w2 ⟨rfl, hb2⟩; have hm2 := HM0.out.after hb2; have s20 := hm2.s.cell 0; have s21 := hm2.s.cell 1; have s22 := hm2.s.cell 2; have m20 := hm2.m.cell 0; have m21 := hm2.m.cell 1; simp at s20 s21 s22 m20 m21; have HM2 := Lib.hid hm2; clear hm2 hb2)) | (go_at_call 54; go_must (refine (HDe.out _ HM2.out.bel).mono ?_; rintro e w3 ⟨rfl, hb3⟩; have hm3 := HM2.out.after hb3; have s30 := hm3.s.cell 0; have s31 := hm3.s.cell 1; have s32 := hm3.s.cell 2; have m30 := hm3.m.cell 0; have m31 := hm3.m.cell 1; simp at s30 s31 s32 m30 m31; have HM3 := Lib.hid hm3; clear hm3 hb3)))
            go_ret2
            obtain rfl := HE.out
            exact ret_mk rfl HM3.out.bel
end Go.Proofs.Ytfljndlmafcjeaa
namespace Go.Proofs.Ytfljndlmafcjeaa
open Go Go.RowKit Go.Sort
set_option linter.unusedVariables false
attribute [local go_sem ↓] Go.wp_at_zero Go.wp_at_succ
set_option maxRecDepth 20000 in
set_option maxHeartbeats 3200000 in
theorem refBefore_any (w : World) (hi : Nat) (next id at_ : Int) (role : ByteArray) (A : Option Addr) (n c : Nat) (nds : List Nd) (h : NodesIn w 0 hi A n c nds) (hh : hi ≤ w.heap.size)
    (nd : Nd) (hr : KOk nds nd) (hnd : ndOf nds id = some nd) (v : Int) (hv : beforeV (inRoleB nds role) at_ nd.kids = v) :
    Calls Try.prog 59 #[.agg #[.int .i64 next, .slice A n c], .int .i64 id, .string role, .int .i64 at_] w (Ret w (.int .i64 v)) := by
  have hc := h.2.2.1
  have hnc := h.2.1
  have HL := Lib.hid h.1
  have hn : n ≤ 4096 := by rw [← h.1]; exact hr.len
  unfold maxLen at hc
  have HM0 := Lib.hid (M1.start w next A n c)
  have HKi := Lib.hid (refKids_any _ hi next id role A n c nds (h.below (HM0.out.bel.mono hh)) (Nat.le_trans hh HM0.out.bel.size) nd hr hnd)
  obtain ⟨i, hix, hgi⟩ := ixOf_of_ndOf hnd
  have hin := ixOf_lt hix
  rw [HL.out] at hin
  have hkl := hr.kl
  obtain ⟨b, o, hA, _, hb, V, hV⟩ := h.all (by omega)
  have hat0 := (hV i nd hgi).1.c5
  have hlf := (hV i nd hgi).2
  generalize V i = L at hat0 hlf
  obtain ⟨_, ⟨Ak, nk, ck⟩, _⟩ := L
  have hkn : nk = nd.kids.length := hlf.kn
  have hrow := hlf.k
  simp only at hat0 hrow
  subst hA
  have hnk := hrow.2.1
  have hck := hrow.2.2.1
  unfold maxLen at hck
  have HAts : Hid (∀ wr, Below w.heap.size w wr → ∀ y j, ixOf nds y = some j → ∀ d os, Calls Try.prog 26 #[.agg #[.int .i64 next, .slice (some ⟨b, o, none⟩) n c], .int .i64 y] (grow (redrawn wr d) os) (Ret (grow (redrawn wr d) os) (.int .i64 j))) := Lib.hid fun wr hbr y j hy d os => by
    have hz := hbr.trans ((below_regrown wr d os).mono hbr.size)
    have := refAt_any _ hi next y _ n c nds (h.below (hz.mono hh)) (Nat.le_trans hh hz.size) hr.rise hn
    rw [show atV nds y = j from by unfold atV; rw [hy]] at this
    exact this
  have HROW := Lib.hid hrow
  have HKN := Lib.hid hkn
  have HAT : Hid (∀ X, Below w.heap.size w X → X.cell? ⟨b, o + i * 7 + 5, none⟩ = some (.slice Ak nk ck)) := Lib.hid fun X hX => (hX.cell (p := ⟨b, _, none⟩) (Nat.lt_of_lt_of_le hb hh)).trans hat0
  have HIX := Lib.hid hix
  have hnk4 : nk ≤ 4096 := by omega
  obtain ⟨l, hl⟩ : ∃ l, nd.kids.filter (inRoleB nds role) = l := ⟨_, rfl⟩
  have hll : l.length ≤ 4096 := by
    have h2 := List.length_filter_le (inRoleB nds role) nd.kids
    rw [hl] at h2
    omega
  have hbv := hv
  unfold beforeV at hbv
  rw [hl] at hbv
  rw [hl] at HKi
  have HBV := Lib.hid hbv
  have hidx : ∀ (X : World) (y : Int), Below w.heap.size w X → Calls Try.prog 36 #[.slice Ak nk ck, .int .i64 y] X fun e w' => e = .returned (.int .i64 (idxV nd.kids y)) ∧ X = w' := fun X y hX => refIndex_any X 0 hi Ak nk ck nd.kids y (HROW.out.below (hX.mono hh))
  have HID := Lib.hid hidx
  clear hat0 hlf hrow hkn hnd hix hgi hv hbv hV h hl hidx
  go_enter Try.func59, Try.ntmps59
  go_wp2_with (go_at_call 79; go_must (refine HKi.out.mono ?_; rintro e w1 ⟨v1, rfl, ho1, hb1⟩; have hm1 := HM0.out.after hb1; obtain ⟨A1, c1, rfl⟩ := own_form ho1; have HM1 := Lib.hid hm1; have HO1 := Lib.hid (own_mono ho1 HM0.out.bel.size); clear ho1 hm1 hb1))
  have HAt := Lib.hid (HAts.out w1 HM1.out.bel id i HIX.out)
  have q0 := cell_regrown ((HM1.out.a.cell 0).trans (show _ = some (.int .i64 next) from rfl))
  have q1 := cell_regrown ((HM1.out.a.cell 1).trans (show _ = some (.slice (some ⟨b, o, none⟩) n c) from rfl))
  have q2 := cell_regrown (HAT.out w1 HM1.out.bel)
  refine wp_region_quiet_below (by kernel_rfl) (by kernel_rfl) ?_
  repeat (go_big_quiet_step ((go_at_call 26; exact regrown_ret (HAt.out _ _))))
  refine wpQuiet_nil ?_
  intro _ hw'
  obtain ⟨⟨dq, osq⟩, hw''⟩ := hw'
  subst hw''
  have HM2 := Lib.hid (HM1.out.after (below_regrown w1 dq osq))
  have HO2 := Lib.hid (own_after HO1.out (below_regrown w1 dq osq))
  generalize grow (redrawn w1 dq) osq = w2 at HM2 HO2 ⊢
  clear q0 q1 q2
  by_cases c0 : at_ < 0
  · have d0 : decide (at_ < 0) = true := by rw [decide_eq_true_eq]; exact c0
    have HX : Hid (v = -1) := Lib.hid (by rw [← HBV.out, if_pos (.inl c0)])
    clear c0
    go_wp2_with fail
    go_ret
    obtain rfl := HX.out
    exact ret_mk rfl HM2.out.bel
  · obtain ⟨a, rfl⟩ : ∃ a : Nat, at_ = a := ⟨at_.toNat, by omega⟩
    have d0 : decide ((a : Int) < 0) = false := by rw [decide_eq_false_iff_not]; omega
    by_cases c2 : l.length < a
    · have d1 : decide (l.length < a) = true := by rw [decide_eq_true_eq]; omega
      have HX : Hid (v = -1) := Lib.hid (by rw [← HBV.out, if_pos (.inr (by omega))])
      clear c0 c2
      go_wp2_with fail
      go_ret
      obtain rfl := HX.out
      exact ret_mk rfl HM2.out.bel
    · have d1 : decide (l.length < a) = false := by rw [decide_eq_false_iff_not]; omega
      by_cases c3 : a < l.length
      · have d2 : decide (a < l.length) = true := by rw [decide_eq_true_eq]; omega
        obtain ⟨y, hy⟩ : ∃ y, l[a]? = some y := ⟨l[a], List.getElem?_eq_getElem c3⟩
        have HX : Hid (v = idxV nd.kids y) := Lib.hid (by rw [← HBV.out, if_neg (by omega), Int.toNat_natCast, hy])
        obtain ⟨b1, o1, rfl, _, hb1, hc1⟩ := (own_row HO2.out).at_ (by omega)
        have k1 := hc1 a _ (intCells_get hy)
        have k2 := (own_row HO2.out).2.1
        have k3 := (own_row HO2.out).2.2.1
        unfold maxLen at k3
        clear c0 c2 hc1 hy
        go_wp2_with (go_at_call 36; go_must (refine (HID.out _ _ HM2.out.bel).mono ?_; rintro e w3 ⟨rfl, rfl⟩))
        go_ret
        obtain rfl := HX.out
        exact ret_mk rfl HM2.out.bel
      · have ha : a = l.length := by omega
        subst ha
        by_cases c4 : 0 < l.length
        · have d3 : decide (0 < l.length) = true := by rw [decide_eq_true_eq]; omega
          obtain ⟨y, hy⟩ : ∃ y, l[l.length - 1]? = some y := ⟨l[l.length - 1], List.getElem?_eq_getElem (by omega)⟩
          have hg : l.getLast? = some y := by rw [List.getLast?_eq_getElem?]; exact hy
          have HX : Hid (v = idxV nd.kids y + 1) := Lib.hid (by rw [← HBV.out, if_neg (by omega), Int.toNat_natCast, List.getElem?_eq_none (Nat.le_refl _), hg])
          obtain ⟨b1, o1, rfl, _, hb1, hc1⟩ := (own_row HO2.out).at_ (by omega)
          have k1 := hc1 (l.length - 1) _ (intCells_get hy)
          have k2 := (own_row HO2.out).2.1
          have k3 := (own_row HO2.out).2.2.1
          unfold maxLen at k3
          have hge : -1 ≤ idxV nd.kids y ∧ idxV nd.kids y ≤ 4096 := by
            unfold idxV
            split
            · rename_i i' hi'
              have := (List.findIdx?_eq_some_iff_getElem.1 hi').1
              omega
            · omega
          have e1 : ((l.length : Int) - 1) = ((l.length - 1 : Nat) : Int) := by omega
          clear c0 c2 c3 hc1 hy hg
          go_wp2_with (go_at_call 36; go_must (refine (HID.out _ _ HM2.out.bel).mono ?_; rintro e w3 ⟨rfl, rfl⟩))
          go_ret
          obtain rfl := HX.out
          exact ret_mk rfl HM2.out.bel
        · have d3 : decide (0 < l.length) = false := by rw [decide_eq_false_iff_not]; omega
          have h0 : l.length = 0 := by omega
          have hl0 : l = [] := List.eq_nil_of_length_eq_zero h0
          have HX : Hid (v = nk) := Lib.hid (by rw [← HBV.out, hl0]; simp [HKN.out])
          clear c0 c2 c3
          go_wp2_with fail
          go_ret
          obtain rfl := HX.out
          exact ret_mk rfl HM2.out.bel
end Go.Proofs.Ytfljndlmafcjeaa
namespace Go.Proofs.Ytfljndlmafcjeaa
open Go Go.RowKit Go.Sort
set_option linter.unusedVariables false
attribute [local go_sem ↓] Go.wp_at_zero Go.wp_at_succ
set_option maxHeartbeats 1600000 in
theorem mayRoot_any (w : World) (next at_ : Int) (role : ByteArray) (L : Nat) (A : Option Addr) (n c : Nat) (v : Int) (hv : (if (role.toList.isEmpty && at_ == 0) = true then 0 else 22) = v) :
    Calls Try.prog 32 #[.agg #[.int .i64 next, .slice A n c], .int .i64 0, .string role, .int .i64 at_, .int .i64 L] w (Ret w (.int .i64 v)) := by
  have HM0 := Lib.hid (M1.start w next A n c)
  cases d1 : role.toList.isEmpty with
  | true =>
    have d2 : (role.toList == ([] : List UInt8)) = true := by rw [beq_iff_eq]; exact List.isEmpty_iff.1 d1
    rw [d1] at hv
    cases d3 : (at_ == 0) with
    | true =>
      have e3 : (at_ != 0) = false := by rw [bne_eq_false_iff_eq]; exact beq_iff_eq.1 d3
      have HX : Hid (v = 0) := Lib.hid (by rw [← hv, d3]; rfl)
      clear hv d1 d3
      go_enter Try.func32, Try.ntmps32
      go_wp2_with fail
      go_ret
      obtain rfl := HX.out
      exact ret_mk rfl HM0.out.bel
    | false =>
      have e3 : (at_ != 0) = true := by rw [bne_iff_ne]; exact beq_eq_false_iff_ne.1 d3
      have HX : Hid (v = 22) := Lib.hid (by rw [← hv, d3]; rfl)
      clear hv d1 d3
      go_enter Try.func32, Try.ntmps32
      go_wp2_with fail
      go_ret
      obtain rfl := HX.out
      exact ret_mk rfl HM0.out.bel
  | false =>
    have d2 : (role.toList == ([] : List UInt8)) = false := by rw [beq_eq_false_iff_ne]; intro e; rw [e] at d1; cases d1
    have HX : Hid (v = 22) := Lib.hid (by rw [← hv, d1]; rfl)
    clear hv d1
    go_enter Try.func32, Try.ntmps32
    go_wp2_with fail
    go_ret
    obtain rfl := HX.out
    exact ret_mk rfl HM0.out.bel
set_option maxHeartbeats 1600000 in
theorem may_any (w : World) (next parent at_ : Int) (role : ByteArray) (L K : Nat) (A : Option Addr) (n c : Nat) (hL : L ≤ 65) (hK : K ≤ 64) (h0 : parent ≠ 0) (q : Int)
    (HBe : Hid (∀ X, Below w.heap.size w X → Calls Try.prog 59 #[.agg #[.int .i64 next, .slice A n c], .int .i64 parent, .string role, .int .i64 at_] X (Ret X (.int .i64 q))))
    (HDe : Hid (∀ X, Below w.heap.size w X → Calls Try.prog 58 #[.agg #[.int .i64 next, .slice A n c], .int .i64 parent] X (Ret X (.int .i64 K))))
    (v : Int) (hv : (if q < 0 then 22 else if 64 < K + L then 23 else 0) = v) :
    Calls Try.prog 32 #[.agg #[.int .i64 next, .slice A n c], .int .i64 parent, .string role, .int .i64 at_, .int .i64 L] w (Ret w (.int .i64 v)) := by
  have HM0 := Lib.hid (M1.start w next A n c)
  have d0 : (parent == 0) = false := by rw [beq_eq_false_iff_ne]; exact h0
  by_cases e1 : q < 0
  · have d1 : decide (q < 0) = true := by rw [decide_eq_true_eq]; exact e1
    have HX : Hid (v = 22) := Lib.hid (by rw [← hv, if_pos e1])
    clear hv e1 h0
    go_enter Try.func32, Try.ntmps32
    go_wp2_with (go_at_call 59; go_must (refine (HBe.out _ HM0.out.bel).mono ?_; rintro e w1 ⟨rfl, hb1⟩; have hm1 := HM0.out.after hb1; have m0 := hm1.a.cell 0; have m1 := hm1.a.cell 1; simp at m0 m1; have HM1 := Lib.hid hm1; clear hm1 hb1))
    go_ret
    obtain rfl := HX.out
    exact ret_mk rfl HM1.out.bel
  · have d1 : decide (q < 0) = false := by rw [decide_eq_false_iff_not]; exact e1
    by_cases e2 : 64 < K + L
    · have d2 : decide ((64 : Int) < (K : Int) + (L : Int)) = true := by rw [decide_eq_true_eq]; omega
      have HX : Hid (v = 23) := Lib.hid (by rw [← hv, if_neg e1, if_pos e2])
      clear hv e1 h0 e2
      go_enter Try.func32, Try.ntmps32
      go_wp2_with (first | (go_at_call 59; go_must (refine (HBe.out _ HM0.out.bel).mono ?_; rintro e w1 ⟨rfl, hb1⟩; have hm1 := HM0.out.after hb1; have m0 := hm1.a.cell 0; have m1 := hm1.a.cell 1; simp at m0 m1; have HM1 := Lib.hid hm1; clear hm1 hb1)) | (go_at_call 58; go_must (refine (HDe.out _ HM1.out.bel).mono ?_; rintro e w2 ⟨rfl, hb2⟩; have HM2 := Lib.hid (HM1.out.after hb2); clear hb2)))
      go_ret
      obtain rfl := HX.out
      exact ret_mk rfl HM2.out.bel
    · have d2 : decide ((64 : Int) < (K : Int) + (L : Int)) = false := by rw [decide_eq_false_iff_not]; omega
      have HX : Hid (v = 0) := Lib.hid (by rw [← hv, if_neg e1, if_neg e2])
      clear hv e1 h0 e2
      go_enter Try.func32, Try.ntmps32
      go_wp2_with (first | (go_at_call 59; go_must (refine (HBe.out _ HM0.out.bel).mono ?_; rintro e w1 ⟨rfl, hb1⟩; have hm1 := HM0.out.after hb1; have m0 := hm1.a.cell 0; have m1 := hm1.a.cell 1; simp at m0 m1; have HM1 := Lib.hid hm1; clear hm1 hb1)) | (go_at_call 58; go_must (refine (HDe.out _ HM1.out.bel).mono ?_; rintro e w2 ⟨rfl, hb2⟩; have HM2 := Lib.hid (HM1.out.after hb2); clear hb2)))
      go_ret
      obtain rfl := HX.out
      exact ret_mk rfl HM2.out.bel
end Go.Proofs.Ytfljndlmafcjeaa
