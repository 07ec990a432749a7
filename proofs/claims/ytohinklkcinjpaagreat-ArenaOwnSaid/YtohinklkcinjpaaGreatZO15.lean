/-
  WALKS: may a branch stand at a spot?
-/
import Derived.Test.YtohinklkcinjpaaGreatZO14
namespace Go.Proofs.YtohinklkcinjpaaGreat
open Go Go.RowKit Go.Sort
set_option linter.unusedVariables false
attribute [local go_sem ↓] Go.wp_at_zero Go.wp_at_succ
set_option maxHeartbeats 800000 in
theorem named_any (w : World) (parent at_ : Int) (role : ByteArray) (hs : role.size ≤ maxLen) (v : Bool) (hv : (parent == 0 || wordB role) = v) :
    Calls Tryz.prog 44 #[.agg #[.int .i64 parent, .string role, .int .i64 at_]] w (Ret w (.bool v)) := by
  have HB := Lib.hid (below_box w (.cells #[.int .i64 parent, .string role, .int .i64 at_] 78))
  cases d0 : (parent == 0) with
  | true =>
    have HX : Hid (v = true) := Lib.hid (by rw [← hv, d0]; rfl)
    clear hv hs
    go_enter Tryz.func44, Tryz.ntmps44
    go_wp2_with fail
    go_ret
    exact ret_b HX.out rfl HB.out
  | false =>
    have HX : Hid (wordB role = v) := Lib.hid (by rw [← hv, d0]; rfl)
    have HS := Lib.hid hs
    clear hv hs
    go_enter Tryz.func44, Tryz.ntmps44
    go_wp2_with (go_at_call 43; go_must (refine (word_is _ _ _ HS.out HX.out).mono ?_; rintro e w' ⟨rfl, rfl⟩))
    go_ret
    exact ret_b rfl rfl HB.out
set_option maxHeartbeats 1600000 in
/-- where the parent is no node -/
theorem admits_none (w : World) (hi : Nat) (next parent at_ : Int) (role : ByteArray) (L M : Nat) (A : Option Addr) (n c : Nat) (nds : List Nd) (h : NodesIn w 0 hi A n c nds) (hh : hi ≤ w.heap.size) (hr : Rise nds) (hn : n ≤ 4096) (hp : ndOf nds parent = none) (h0 : parent ≠ 0) :
    Calls Tryz.prog 45 #[.agg #[.int .i64 parent, .string role, .int .i64 at_], .agg #[.int .i64 next, .slice A n c], .int .i64 L, .int .i64 M] w (Ret w (.tuple #[.int .i64 0, .int .i64 20])) := by
  have HM0 := Lib.hid (SM.start w parent role at_ next A n c)
  have hx : (ixOf nds parent).isSome = false := by
    cases hx : ixOf nds parent with
    | none => rfl
    | some i =>
      obtain ⟨nd, h1, _⟩ := ixOf_some hx
      unfold ndOf at hp
      rw [hx] at hp
      rw [show (some i).bind (fun x => nds[x]?) = nds[i]? from rfl, h1] at hp
      cases hp
  have hha := has_any _ hi next parent A n c nds (h.below (HM0.out.bel.mono hh)) (Nat.le_trans hh HM0.out.bel.size) hr hn
  rw [hx] at hha
  have HHas := Lib.hid hha
  have d0 : (parent != 0) = true := by rw [bne_iff_ne]; exact h0
  clear h hx hp h0 hha
  go_enter Tryz.func45, Tryz.ntmps45
  go_wp2_with (go_at_call 40; go_must (refine HHas.out.mono ?_; rintro e w1 ⟨rfl, hb1⟩; have HM1 := Lib.hid (HM0.out.after hb1); clear hb1))
  go_ret2
  exact ret_mk rfl HM1.out.bel
set_option maxRecDepth 20000 in
set_option maxHeartbeats 3200000 in
/-- .. where it is one, or where a root is to stand -/
theorem admits_some (w : World) (next parent at_ : Int) (role : ByteArray) (L M K : Nat) (A : Option Addr) (n c : Nat) (hc : c ≤ maxLen) (hn : n ≤ 4096) (hn1 : 1 ≤ next) (hn2 : next ≤ 1048577) (hL : L ≤ 65) (hM : M ≤ 8192) (hK : K ≤ 64) (a : Int) (ok : Bool)
    (HHas : Hid (∀ X, Below w.heap.size w X → Calls Tryz.prog 40 #[.agg #[.int .i64 next, .slice A n c], .int .i64 parent] X (Ret X (.bool (parent != 0)))))
    (HAm : Hid (∀ X, Below w.heap.size w X → Calls Tryz.prog 83 #[.agg #[.int .i64 parent, .string role, .int .i64 at_], .agg #[.int .i64 next, .slice A n c]] X (Ret X (.tuple #[.int .i64 a, .bool ok]))))
    (HDe : Hid (∀ X, Below w.heap.size w X → Calls Tryz.prog 60 #[.agg #[.int .i64 next, .slice A n c], .int .i64 parent] X (Ret X (.int .i64 K))))
    (r : Int × Int) (hr : (if ok = false then (0, 22) else if 64 < K + L then (0, 23) else if 4096 < n + M then (0, 4) else if 1048576 < next - 1 + M then (0, 4) else (a, 0)) = r) :
    Calls Tryz.prog 45 #[.agg #[.int .i64 parent, .string role, .int .i64 at_], .agg #[.int .i64 next, .slice A n c], .int .i64 L, .int .i64 M] w (Ret w (.tuple #[.int .i64 r.1, .int .i64 r.2])) := by
  unfold maxLen at hc
  have HM0 := Lib.hid (SM.start w parent role at_ next A n c)
  cases d0 : (parent != 0) with
  | true =>
    rw [d0] at HHas
    cases hok : ok with
    | false =>
      have HE : Hid ((0, 22) = r) := Lib.hid (by rw [← hr, hok]; rfl)
      subst hok
      clear hr
      go_enter Tryz.func45, Tryz.ntmps45
      go_wp2_with (first | (go_at_call 40; go_must (refine (HHas.out _ HM0.out.bel).mono ?_; rintro e w1 ⟨rfl, hb1⟩; have hm1 := HM0.out.after hb1; have s10 := hm1.s.cell 0; have s11 := hm1.s.cell 1; have s12 := hm1.s.cell 2; have m10 := hm1.m.cell 0; have m11 := hm1.m.cell 1; simp at s10 s11 s12 m10 m11; have HM1 := Lib.hid hm1; clear hm1 hb1)) | (go_at_call 83; go_must (refine (HAm.out _ HM1.out.bel).mono ?_; rintro e w2 ⟨rfl, hb2⟩; have hm2 := HM1.out.after hb2; have s20 := hm2.s.cell 0; have s21 := hm2.s.cell 1; have s22 := hm2.s.cell 2; have m20 := hm2.m.cell 0; have m21 := hm2.m.cell 1; simp at s20 s21 s22 m20 m21; have HM2 := Lib.hid hm2; clear hm2 hb2)))
      go_ret2
      obtain rfl := HE.out
      exact ret_mk rfl HM2.out.bel
    | true =>
      subst hok
      by_cases e3 : 64 < K + L
      · have HE : Hid ((0, 23) = r) := Lib.hid (by rw [← hr]; simp [e3])
        have d3 : decide ((64 : Int) < (K : Int) + (L : Int)) = true := by rw [decide_eq_true_eq]; omega
        clear hr
        go_enter Tryz.func45, Tryz.ntmps45
        go_wp2_with (first | (go_at_call 40; go_must (refine (HHas.out _ HM0.out.bel).mono ?_; rintro e w1 ⟨rfl, hb1⟩; have hm1 := HM0.out.after hb1; have s10 := hm1.s.cell 0; have s11 := hm1.s.cell 1; have s12 := hm1.s.cell 2; have m10 := hm1.m.cell 0; have m11 := hm1.m.cell 1; simp at s10 s11 s12 m10 m11; have HM1 := Lib.hid hm1; clear hm1 hb1)) | (go_at_call 83; go_must (refine (HAm.out _ HM1.out.bel).mono ?_; rintro e w2 ⟨rfl, hb2⟩; have hm2 := HM1.out.after hb2; have s20 := hm2.s.cell 0; have s21 := hm2.s.cell 1; have s22 := hm2.s.cell 2; have m20 := hm2.m.cell 0; have m21 := hm2.m.cell 1; simp at s20 s21 s22 m20 m21; have HM2 := Lib.hid hm2; clear hm2 hb2)) | (go_at_call 60; go_must (refine (HDe.out _ HM2.out.bel).mono ?_; rintro e w3 ⟨rfl, hb3⟩; have hm3 := HM2.out.after hb3; have s30 := hm3.s.cell 0; have s31 := hm3.s.cell 1; have s32 := hm3.s.cell 2; have m30 := hm3.m.cell 0; have m31 := hm3.m.cell 1; simp at s30 s31 s32 m30 m31; have HM3 := Lib.hid hm3; clear hm3 hb3)))
        go_ret2
        obtain rfl := HE.out
        exact ret_mk rfl HM3.out.bel
      · have d3 : decide ((64 : Int) < (K : Int) + (L : Int)) = false := by rw [decide_eq_false_iff_not]; omega
        by_cases e4 : 4096 < n + M
        · have HE : Hid ((0, 4) = r) := Lib.hid (by rw [← hr]; simp [e3, e4])
          have d4 : decide ((4096 : Int) < (n : Int) + (M : Int)) = true := by rw [decide_eq_true_eq]; omega
          clear hr
          go_enter Tryz.func45, Tryz.ntmps45
          go_wp2_with (first | (go_at_call 40; go_must (refine (HHas.out _ HM0.out.bel).mono ?_; rintro e w1 ⟨rfl, hb1⟩; have hm1 := HM0.out.after hb1; have s10 := hm1.s.cell 0; have s11 := hm1.s.cell 1; have s12 := hm1.s.cell 2; have m10 := hm1.m.cell 0; have m11 := hm1.m.cell 1; simp at s10 s11 s12 m10 m11; have HM1 := Lib.hid hm1; clear hm1 hb1)) | (go_at_call 83; go_must (refine (HAm.out _ HM1.out.bel).mono ?_; rintro e w2 ⟨rfl, hb2⟩; have hm2 := HM1.out.after hb2; have s20 := hm2.s.cell 0; have s21 := hm2.s.cell 1; have s22 := hm2.s.cell 2; have m20 := hm2.m.cell 0; have m21 := hm2.m.cell 1; simp at s20 s21 s22 m20 m21; have HM2 := Lib.hid hm2; clear hm2 hb2)) | (go_at_call 60; go_must (refine (HDe.out _ HM2.out.bel).mono ?_; rintro e w3 ⟨rfl, hb3⟩; have hm3 := HM2.out.after hb3; have s30 := hm3.s.cell 0; have s31 := hm3.s.cell 1; have s32 := hm3.s.cell 2; have m30 := hm3.m.cell 0; have m31 := hm3.m.cell 1; simp at s30 s31 s32 m30 m31; have HM3 := Lib.hid hm3; clear hm3 hb3)))
          go_ret2
          obtain rfl := HE.out
          exact ret_mk rfl HM3.out.bel
        · have d4 : decide ((4096 : Int) < (n : Int) + (M : Int)) = false := by rw [decide_eq_false_iff_not]; omega
          by_cases e5 : 1048576 < next - 1 + M
          · have HE : Hid ((0, 4) = r) := Lib.hid (by rw [← hr]; simp [e3, e4, e5])
            have d5 : decide ((1048576 : Int) < next - 1 + (M : Int)) = true := by rw [decide_eq_true_eq]; omega
            clear hr
            go_enter Tryz.func45, Tryz.ntmps45
            go_wp2_with (first | (go_at_call 40; go_must (refine (HHas.out _ HM0.out.bel).mono ?_; rintro e w1 ⟨rfl, hb1⟩; have hm1 := HM0.out.after hb1; have s10 := hm1.s.cell 0; have s11 := hm1.s.cell 1; have s12 := hm1.s.cell 2; have m10 := hm1.m.cell 0; have m11 := hm1.m.cell 1; simp at s10 s11 s12 m10 m11; have HM1 := Lib.hid hm1; clear hm1 hb1)) | (go_at_call 83; go_must (refine (HAm.out _ HM1.out.bel).mono ?_; rintro e w2 ⟨rfl, hb2⟩; have hm2 := HM1.out.after hb2; have s20 := hm2.s.cell 0; have s21 := hm2.s.cell 1; have s22 := hm2.s.cell 2; have m20 := hm2.m.cell 0; have m21 := hm2.m.cell 1; simp at s20 s21 s22 m20 m21; have HM2 := Lib.hid hm2; clear hm2 hb2)) | (go_at_call 60; go_must (refine (HDe.out _ HM2.out.bel).mono ?_; rintro e w3 ⟨rfl, hb3⟩; have hm3 := HM2.out.after hb3; have s30 := hm3.s.cell 0; have s31 := hm3.s.cell 1; have s32 := hm3.s.cell 2; have m30 := hm3.m.cell 0; have m31 := hm3.m.cell 1; simp at s30 s31 s32 m30 m31; have HM3 := Lib.hid hm3; clear hm3 hb3)))
            go_ret2
            obtain rfl := HE.out
            exact ret_mk rfl HM3.out.bel
          · have HE : Hid ((a, 0) = r) := Lib.hid (by rw [← hr]; simp [e3, e4, e5])
            have d5 : decide ((1048576 : Int) < next - 1 + (M : Int)) = false := by rw [decide_eq_false_iff_not]; omega
            clear hr
            go_enter Tryz.func45, Tryz.ntmps45
            go_wp2_with (first | (go_at_call 40; go_must (refine (HHas.out _ HM0.out.bel).mono ?_; rintro e w1 ⟨rfl, hb1⟩; have hm1 := HM0.out.after hb1; have s10 := hm1.s.cell 0; have s11 := hm1.s.cell 1; have s12 := hm1.s.cell 2; have m10 := hm1.m.cell 0; have m11 := hm1.m.cell 1; simp at s10 s11 s12 m10 m11; have HM1 := Lib.hid hm1; clear hm1 hb1)) | (go_at_call 83; go_must (refine (HAm.out _ HM1.out.bel).mono ?_; rintro e w2 ⟨rfl, hb2⟩; have hm2 := HM1.out.after hb2; have s20 := hm2.s.cell 0; have s21 := hm2.s.cell 1; have s22 := hm2.s.cell 2; have m20 := hm2.m.cell 0; have m21 := hm2.m.cell 1; simp at s20 s21 s22 m20 m21; have HM2 := Lib.hid hm2; clear hm2 hb2)) | (go_at_call 60; go_must (refine (HDe.out _ HM2.out.bel).mono ?_; rintro e w3 ⟨rfl, hb3⟩; have hm3 := HM2.out.after hb3; have s30 := hm3.s.cell 0; have s31 := hm3.s.cell 1; have s32 := hm3.s.cell 2; have m30 := hm3.m.cell 0; have m31 := hm3.m.cell 1; simp at s30 s31 s32 m30 m31; have HM3 := Lib.hid hm3; clear hm3 hb3)))
            go_ret2
            obtain rfl := HE.out
            exact ret_mk rfl HM3.out.bel
  | false =>
    clear HHas
    cases hok : ok with
    | false =>
      have HE : Hid ((0, 22) = r) := Lib.hid (by rw [← hr, hok]; rfl)
      subst hok
      clear hr
      go_enter Tryz.func45, Tryz.ntmps45
      go_wp2_with (first | (go_at_call 83; go_must (refine (HAm.out _ HM0.out.bel).mono ?_; rintro e w2 ⟨rfl, hb2⟩; have hm2 := HM0.out.after hb2; have s20 := hm2.s.cell 0; have s21 := hm2.s.cell 1; have s22 := hm2.s.cell 2; have m20 := hm2.m.cell 0; have m21 := hm2.m.cell 1; simp at s20 s21 s22 m20 m21; have HM2 := Lib.hid hm2; clear hm2 hb2)))
      go_ret2
      obtain rfl := HE.out
      exact ret_mk rfl HM2.out.bel
    | true =>
      subst hok
      by_cases e3 : 64 < K + L
      · have HE : Hid ((0, 23) = r) := Lib.hid (by rw [← hr]; simp [e3])
        have d3 : decide ((64 : Int) < (K : Int) + (L : Int)) = true := by rw [decide_eq_true_eq]; omega
        clear hr
        go_enter Tryz.func45, Tryz.ntmps45
        go_wp2_with (first | (go_at_call 83; go_must (refine (HAm.out _ HM0.out.bel).mono ?_; rintro e w2 ⟨rfl, hb2⟩; have hm2 := HM0.out.after hb2; have s20 := hm2.s.cell 0; have s21 := hm2.s.cell 1; have s22 := hm2.s.cell 2; have m20 := hm2.m.cell 0; have m21 := hm2.m.cell 1; simp at s20 s21 s22 m20 m21; have HM2 := Lib.hid hm2; clear hm2 hb2)) | (go_at_call 60; go_must (refine (HDe.out _ HM2.out.bel).mono ?_; rintro e w3 ⟨rfl, hb3⟩; have hm3 := HM2.out.after hb3; have s30 := hm3.s.cell 0; have s31 := hm3.s.cell 1; have s32 := hm3.s.cell 2; have m30 := hm3.m.cell 0; have m31 := hm3.m.cell 1; simp at s30 s31 s32 m30 m31; have HM3 := Lib.hid hm3; clear hm3 hb3)))
        go_ret2
        obtain rfl := HE.out
        exact ret_mk rfl HM3.out.bel
      · have d3 : decide ((64 : Int) < (K : Int) + (L : Int)) = false := by rw [decide_eq_false_iff_not]; omega
        by_cases e4 : 4096 < n + M
        · have HE : Hid ((0, 4) = r) := Lib.hid (by rw [← hr]; simp [e3, e4])
          have d4 : decide ((4096 : Int) < (n : Int) + (M : Int)) = true := by rw [decide_eq_true_eq]; omega
          clear hr
          go_enter Tryz.func45, Tryz.ntmps45
          go_wp2_with (first | (go_at_call 83; go_must (refine (HAm.out _ HM0.out.bel).mono ?_; rintro e w2 ⟨rfl, hb2⟩; have hm2 := HM0.out.after hb2; have s20 := hm2.s.cell 0; have s21 := hm2.s.cell 1; have s22 := hm2.s.cell 2; have m20 := hm2.m.cell 0; have m21 := hm2.m.cell 1; simp at s20 s21 s22 m20 m21; have HM2 := Lib.hid hm2; clear hm2 hb2)) | (go_at_call 60; go_must (refine (HDe.out _ HM2.out.bel).mono ?_; rintro e w3 ⟨rfl, hb3⟩; have hm3 := HM2.out.after hb3; have s30 := hm3.s.cell 0; have s31 := hm3.s.cell 1; have s32 := hm3.s.cell 2; have m30 := hm3.m.cell 0; have m31 := hm3.m.cell 1; simp at s30 s31 s32 m30 m31; have HM3 := Lib.hid hm3; clear hm3 hb3)))
          go_ret2
          obtain rfl := HE.out
          exact ret_mk rfl HM3.out.bel
        · have d4 : decide ((4096 : Int) < (n : Int) + (M : Int)) = false := by rw [decide_eq_false_iff_not]; omega
          by_cases e5 : 1048576 < next - 1 + M
          · have HE : Hid ((0, 4) = r) := Lib.hid (by rw [← hr]; simp [e3, e4, e5])
            have d5 : decide ((1048576 : Int) < next - 1 + (M : Int)) = true := by rw [decide_eq_true_eq]; omega
            clear hr
            go_enter Tryz.func45, Tryz.ntmps45
            go_wp2_with (first | (go_at_call 83; go_must (refine (HAm.out _ HM0.out.bel).mono ?_; rintro e w2 ⟨rfl, hb2⟩; have hm2 := HM0.out.after hb2; have s20 := hm2.s.cell 0; have s21 := hm2.s.cell 1; have s22 := hm2.s.cell 2; have m20 := hm2.m.cell 0; have m21 := hm2.m.cell 1; simp at s20 s21 s22 m20 m21; have HM2 := Lib.hid hm2; clear hm2 hb2)) | (go_at_call 60; go_must (refine (HDe.out _ HM2.out.bel).mono ?_; rintro e w3 ⟨rfl, hb3⟩; have hm3 := HM2.out.after hb3; have s30 := hm3.s.cell 0; have s31 := hm3.s.cell 1; have s32 := hm3.s.cell 2; have m30 := hm3.m.cell 0; have m31 := hm3.m.cell 1; simp at s30 s31 s32 m30 m31; have HM3 := Lib.hid hm3; clear hm3 hb3)))
            go_ret2
            obtain rfl := HE.out
            exact ret_mk rfl HM3.out.bel
          · have HE : Hid ((a, 0) = r) := Lib.hid (by rw [← hr]; simp [e3, e4, e5])
            have d5 : decide ((1048576 : Int) < next - 1 + (M : Int)) = false := by rw [decide_eq_false_iff_not]; omega
            clear hr
            go_enter Tryz.func45, Tryz.ntmps45
            go_wp2_with (first | (go_at_call 83; go_must (refine (HAm.out _ HM0.out.bel).mono ?_; rintro e w2 ⟨rfl, hb2⟩; have hm2 := HM0.out.after hb2; have s20 := hm2.s.cell 0; have s21 := hm2.s.cell 1; have s22 := hm2.s.cell 2; have m20 := hm2.m.cell 0; have m21 := hm2.m.cell 1; simp at s20 s21 s22 m20 m21; have HM2 := Lib.hid hm2; clear hm2 hb2)) | (go_at_call 60; go_must (refine (HDe.out _ HM2.out.bel).mono ?_; rintro e w3 ⟨rfl, hb3⟩; have hm3 := HM2.out.after hb3; have s30 := hm3.s.cell 0; have s31 := hm3.s.cell 1; have s32 := hm3.s.cell 2; have m30 := hm3.m.cell 0; have m31 := hm3.m.cell 1; simp at s30 s31 s32 m30 m31; have HM3 := Lib.hid hm3; clear hm3 hb3)))
            go_ret2
            obtain rfl := HE.out
            exact ret_mk rfl HM3.out.bel
end Go.Proofs.YtohinklkcinjpaaGreat
