/-
  WALKS over the document's answers for layer 8: kids, Reserved, may.
-/
import Derived.Test.YtjlpoigcalfdlaaDoorZB11
import Derived.Deep.CutBlock
namespace Go.Proofs.YtjlpoigcalfdlaaDoor
open Go Go.RowKit Go.Sort
set_option linter.unusedVariables false
def SaysI (w : World) (k : Int) (e : Ending) (w' : World) : Prop := e = .returned (.int .i64 k) ∧ w' = w
theorem saysI {w w' : World} {k k' : Int} (h : k = k') (hw : w' = w) : SaysI w k' (.returned (.int .i64 k)) w' := ⟨by rw [h], hw⟩
theorem kidsV_in' {k : Int} {m : Nat} (h : kidsV k = m) : 1 ≤ k ∧ k ≤ 34 := by
  unfold kidsV at h
  by_cases e : k < 1 ∨ 34 < k
  · rw [if_pos e] at h; omega
  · omega
set_option maxHeartbeats 800000 in
theorem kids_any (k : Int) (w : World) : Calls Tryd.prog 44 #[.int .i64 k] w (SaysI w (kidsV k)) := by
  by_cases h1 : k < 1
  · have hv : Hid (kidsV k = -1) := Lib.hid (by unfold kidsV; repeat (first | rw [if_pos (by omega)] | rw [if_neg (by omega)]))
    have f0 : decide (k < 1) = true := by simpa using h1
    go_enter Tryd.func44, Tryd.ntmps44
    go_wp2_with fail
    go_ret
    exact saysI hv.out.symm rfl
  have f0 : decide (k < 1) = false := by simpa using h1
  by_cases h2 : 34 < k
  · have hv : Hid (kidsV k = -1) := Lib.hid (by unfold kidsV; repeat (first | rw [if_pos (by omega)] | rw [if_neg (by omega)]))
    have f1 : decide (34 < k) = true := by simpa using h2
    go_enter Tryd.func44, Tryd.ntmps44
    go_wp2_with fail
    go_ret
    exact saysI hv.out.symm rfl
  have f1 : decide (34 < k) = false := by simpa using h2
  by_cases h3 : k ≤ 7
  · have hv : Hid (kidsV k = 0) := Lib.hid (by unfold kidsV; repeat (first | rw [if_pos (by omega)] | rw [if_neg (by omega)]))
    have f2 : decide (k ≤ 7) = true := by simpa using h3
    go_enter Tryd.func44, Tryd.ntmps44
    go_wp2_with fail
    go_ret
    exact saysI hv.out.symm rfl
  have f2 : decide (k ≤ 7) = false := by simpa using h3
  by_cases h4 : k ≤ 19
  · have hv : Hid (kidsV k = 1) := Lib.hid (by unfold kidsV; repeat (first | rw [if_pos (by omega)] | rw [if_neg (by omega)]))
    have f3 : decide (k ≤ 19) = true := by simpa using h4
    go_enter Tryd.func44, Tryd.ntmps44
    go_wp2_with fail
    go_ret
    exact saysI hv.out.symm rfl
  have f3 : decide (k ≤ 19) = false := by simpa using h4
  by_cases h5 : k = 29
  · have hv : Hid (kidsV k = 1) := Lib.hid (by unfold kidsV; repeat (first | rw [if_pos (by omega)] | rw [if_neg (by omega)]))
    have f4 : (k == 29) = true := by rw [h5]; rfl
    clear h5
    go_enter Tryd.func44, Tryd.ntmps44
    go_wp2_with fail
    go_ret
    exact saysI hv.out.symm rfl
  have f4 : (k == 29) = false := by rw [beq_eq_false_iff_ne]; exact h5
  by_cases h6 : k = 30
  · have hv : Hid (kidsV k = 3) := Lib.hid (by unfold kidsV; repeat (first | rw [if_pos (by omega)] | rw [if_neg (by omega)]))
    have f5 : (k == 30) = true := by rw [h6]; rfl
    clear h6
    go_enter Tryd.func44, Tryd.ntmps44
    go_wp2_with fail
    go_ret
    exact saysI hv.out.symm rfl
  have f5 : (k == 30) = false := by rw [beq_eq_false_iff_ne]; exact h6
  have hv : Hid (kidsV k = 2) := Lib.hid (by unfold kidsV; repeat (first | rw [if_pos (by omega)] | rw [if_neg (by omega)]))
  go_enter Tryd.func44, Tryd.ntmps44
  go_wp2_with fail
  go_ret
  exact saysI hv.out.symm rfl
set_option maxRecDepth 20000 in
set_option maxHeartbeats 1600000 in
theorem refReserved_any (s : ByteArray) (w : World) : Calls Tryd.prog 46 #[.string s] w (Tells1 w (wordB s.data.toList)) := by
  have HB : Hid (Blk (w.alloc (.cells #[.string ⟨#[97, 110, 100]⟩, .string ⟨#[97, 110, 121]⟩, .string ⟨#[99, 111, 110, 99, 101, 112, 116]⟩, .string ⟨#[101, 108, 115, 101]⟩, .string ⟨#[101, 110, 100]⟩, .string ⟨#[101, 118, 101, 114, 121]⟩, .string ⟨#[102, 97, 108, 115, 101]⟩, .string ⟨#[102, 105, 114, 115, 116]⟩, .string ⟨#[105, 100]⟩, .string ⟨#[105, 102]⟩, .string ⟨#[105, 110]⟩, .string ⟨#[105, 110, 116]⟩, .string ⟨#[110, 111, 110, 101]⟩, .string ⟨#[110, 111, 116]⟩, .string ⟨#[111, 110, 108, 121]⟩, .string ⟨#[111, 114]⟩, .string ⟨#[115, 101, 108, 102]⟩, .string ⟨#[115, 105, 122, 101]⟩, .string ⟨#[115, 117, 109]⟩, .string ⟨#[116, 101, 120, 116]⟩, .string ⟨#[116, 104, 101, 110]⟩, .string ⟨#[116, 114, 117, 101]⟩] 9)) w.heap.size 9 #[.string ⟨#[97, 110, 100]⟩, .string ⟨#[97, 110, 121]⟩, .string ⟨#[99, 111, 110, 99, 101, 112, 116]⟩, .string ⟨#[101, 108, 115, 101]⟩, .string ⟨#[101, 110, 100]⟩, .string ⟨#[101, 118, 101, 114, 121]⟩, .string ⟨#[102, 97, 108, 115, 101]⟩, .string ⟨#[102, 105, 114, 115, 116]⟩, .string ⟨#[105, 100]⟩, .string ⟨#[105, 102]⟩, .string ⟨#[105, 110]⟩, .string ⟨#[105, 110, 116]⟩, .string ⟨#[110, 111, 110, 101]⟩, .string ⟨#[110, 111, 116]⟩, .string ⟨#[111, 110, 108, 121]⟩, .string ⟨#[111, 114]⟩, .string ⟨#[115, 101, 108, 102]⟩, .string ⟨#[115, 105, 122, 101]⟩, .string ⟨#[115, 117, 109]⟩, .string ⟨#[116, 101, 120, 116]⟩, .string ⟨#[116, 104, 101, 110]⟩, .string ⟨#[116, 114, 117, 101]⟩]) := Lib.hid (Blk.new _ _ _)
  have HV : Hid (IsTab wordsL #[.string ⟨#[97, 110, 100]⟩, .string ⟨#[97, 110, 121]⟩, .string ⟨#[99, 111, 110, 99, 101, 112, 116]⟩, .string ⟨#[101, 108, 115, 101]⟩, .string ⟨#[101, 110, 100]⟩, .string ⟨#[101, 118, 101, 114, 121]⟩, .string ⟨#[102, 97, 108, 115, 101]⟩, .string ⟨#[102, 105, 114, 115, 116]⟩, .string ⟨#[105, 100]⟩, .string ⟨#[105, 102]⟩, .string ⟨#[105, 110]⟩, .string ⟨#[105, 110, 116]⟩, .string ⟨#[110, 111, 110, 101]⟩, .string ⟨#[110, 111, 116]⟩, .string ⟨#[111, 110, 108, 121]⟩, .string ⟨#[111, 114]⟩, .string ⟨#[115, 101, 108, 102]⟩, .string ⟨#[115, 105, 122, 101]⟩, .string ⟨#[115, 117, 109]⟩, .string ⟨#[116, 101, 120, 116]⟩, .string ⟨#[116, 104, 101, 110]⟩, .string ⟨#[116, 114, 117, 101]⟩]) := Lib.hid ⟨rfl⟩
  have HX : Hid (Below w.heap.size w (w.alloc (.cells #[.string ⟨#[97, 110, 100]⟩, .string ⟨#[97, 110, 121]⟩, .string ⟨#[99, 111, 110, 99, 101, 112, 116]⟩, .string ⟨#[101, 108, 115, 101]⟩, .string ⟨#[101, 110, 100]⟩, .string ⟨#[101, 118, 101, 114, 121]⟩, .string ⟨#[102, 97, 108, 115, 101]⟩, .string ⟨#[102, 105, 114, 115, 116]⟩, .string ⟨#[105, 100]⟩, .string ⟨#[105, 102]⟩, .string ⟨#[105, 110]⟩, .string ⟨#[105, 110, 116]⟩, .string ⟨#[110, 111, 110, 101]⟩, .string ⟨#[110, 111, 116]⟩, .string ⟨#[111, 110, 108, 121]⟩, .string ⟨#[111, 114]⟩, .string ⟨#[115, 101, 108, 102]⟩, .string ⟨#[115, 105, 122, 101]⟩, .string ⟨#[115, 117, 109]⟩, .string ⟨#[116, 101, 120, 116]⟩, .string ⟨#[116, 104, 101, 110]⟩, .string ⟨#[116, 114, 117, 101]⟩] 9))) := Lib.hid (below_of_alloc _)
  go_enter Tryd.func46, Tryd.ntmps46
  go_upto_region 2 with (fail)
  generalize w.alloc (.cells #[.string ⟨#[97, 110, 100]⟩, .string ⟨#[97, 110, 121]⟩, .string ⟨#[99, 111, 110, 99, 101, 112, 116]⟩, .string ⟨#[101, 108, 115, 101]⟩, .string ⟨#[101, 110, 100]⟩, .string ⟨#[101, 118, 101, 114, 121]⟩, .string ⟨#[102, 97, 108, 115, 101]⟩, .string ⟨#[102, 105, 114, 115, 116]⟩, .string ⟨#[105, 100]⟩, .string ⟨#[105, 102]⟩, .string ⟨#[105, 110]⟩, .string ⟨#[105, 110, 116]⟩, .string ⟨#[110, 111, 110, 101]⟩, .string ⟨#[110, 111, 116]⟩, .string ⟨#[111, 110, 108, 121]⟩, .string ⟨#[111, 114]⟩, .string ⟨#[115, 101, 108, 102]⟩, .string ⟨#[115, 105, 122, 101]⟩, .string ⟨#[115, 117, 109]⟩, .string ⟨#[116, 101, 120, 116]⟩, .string ⟨#[116, 104, 101, 110]⟩, .string ⟨#[116, 114, 117, 101]⟩] 9) = X at HB HX ⊢
  go_wp2_with fail
  go_loop [4] (fun i => ∃ k : Nat, k ≤ 22 ∧ i = .int .i64 k ∧ WordAt s.data.toList k) (fun i => 22 - (intOf i).toNat)
  case atStart => exact ⟨0, by omega, rfl, ⟨rfl⟩⟩
  case round =>
    obtain ⟨k, hk, rfl, HK⟩ := hrel
    by_cases hlt : k < 22
    · obtain ⟨Mw, HM, hc⟩ := HV.out.at_ (k := k) hlt
      have c1 : X.cell? ⟨w.heap.size, k, none⟩ = some (.string Mw) := (HB.out.cell k).trans hc
      clear hc
      cases he : (Mw.toList == s.toList) with
      | true =>
        go_wp2_with fail
        go_ret
        exact tells1 (word_yes HK HM he).symm HX.out
      | false =>
        go_wp2_with fail
        go_round
        case rel => exact ⟨k + 1, by omega, by go_num, word_no HK HM he⟩
        case measure => simp [intOf]; omega
    · go_wp2_with fail
      go_ret
      exact tells1 (word_end HK (by omega)).symm HX.out
set_option maxRecDepth 20000 in
set_option maxHeartbeats 6400000 in
theorem may_v (kd n : Int) (T : ByteArray) (A : Option Addr) (m c : Nat) (R W lb : Bool) (w : World) (hm : m ≤ maxLen) (hl : LeastIs n lb)
    (HR : Hid (∀ Y, Calls Tryd.prog 45 #[.string T] Y (Says Y R)))
    (HW : Hid (∀ Y, Calls Tryd.prog 46 #[.string T] Y (Tells1 Y W))) :
    Calls Tryd.prog 31 #[.agg #[.int .i64 kd, .string T, .int .i64 n, .slice A m c]] w (Tells1 w (soundV kd T.data.toList (n == 0) lb m (R && !W))) := by
  have HT : Hid (T.data.toList.length = T.size) := Lib.hid (toList_eq T)
  have HTe : Hid ((T.data.toList = []) ↔ (T.toList = [])) := Lib.hid (by rw [Lib.toList_data])
  unfold maxLen at hm
  obtain ⟨X, hX⟩ : ∃ X, w.alloc (.cells #[.int .i64 kd, .string T, .int .i64 n, .slice A m c] 46) = X := ⟨_, rfl⟩
  have HX : Hid (Below w.heap.size w X) := Lib.hid (by rw [← hX]; exact below_of_alloc _)
  have k0 : X.cell? ⟨w.heap.size, 0, none⟩ = some (.int .i64 kd) := by rw [← hX]; exact (Blk.new w _ _).cell 0
  have k1 : X.cell? ⟨w.heap.size, 1, none⟩ = some (.string T) := by rw [← hX]; exact (Blk.new w _ _).cell 1
  have k2 : X.cell? ⟨w.heap.size, 2, none⟩ = some (.int .i64 n) := by rw [← hX]; exact (Blk.new w _ _).cell 2
  have k3 : X.cell? ⟨w.heap.size, 3, none⟩ = some (.slice A m c) := by rw [← hX]; exact (Blk.new w _ _).cell 3
  have HKD : Hid (∀ Y, Calls Tryd.prog 44 #[.int .i64 kd] Y (fun e w' => e = .returned (.int .i64 (kidsV kd)) ∧ w' = Y)) := Lib.hid fun Y => kids_any kd Y
  by_cases h3 : kidsV kd = m
  · have HK := Lib.hid h3
    obtain ⟨g1, g2⟩ := kidsV_in' h3
    have d3 : (kidsV kd != (m : Int)) = false := by rw [h3]; simp
    have HZ : Hid (((kd ≠ 1 ∧ (n == 0) = false) ∨ lb = true) → soundV kd T.data.toList (n == 0) lb m (R && !W) = false) := Lib.hid fun h => sound_no2 h
    have HNM : Hid (¬ ((kd ≠ 1 ∧ (n == 0) = false) ∨ lb = true) → namedB kd = true → soundV kd T.data.toList (n == 0) lb m (R && !W) = (R && !W)) := Lib.hid fun h1 h2 => sound_named HK.out h1 h2
    have HPL : Hid (¬ ((kd ≠ 1 ∧ (n == 0) = false) ∨ lb = true) → namedB kd = false → kd ≠ 2 → soundV kd T.data.toList (n == 0) lb m (R && !W) = decide (T.data.toList = [])) := Lib.hid fun h1 h2 h4 => sound_plain HK.out h1 h2 h4
    have HTX : Hid (¬ ((kd ≠ 1 ∧ (n == 0) = false) ∨ lb = true) → kd = 2 → soundV kd T.data.toList (n == 0) lb m (R && !W) = decide (T.data.toList.length ≤ 4096)) := Lib.hid fun h1 h2 => by have := HK.out; subst h2; exact sound_text this h1
    generalize kidsV kd = kv at h3 d3 HKD
    generalize soundV kd T.data.toList (n == 0) lb m (R && !W) = sv at HZ HNM HPL HTX ⊢
    clear h3
    by_cases hz : n = 0
    · have z1 : (n == 0) = true := by rw [hz]; rfl
      have z2 : (n != 0) = false := by rw [hz]; rfl
      have hlb : lb = false := by have := hl.out; rw [hz] at this; rw [← this]; decide
      have hz3 := hl.out
      rw [hlb] at hz3
      have HLB := Lib.hid hlb
      have HZ1 := Lib.hid z1
      clear hz hl hlb z1
      by_cases hc : kd = 1
      · have hlo : 1 ≤ kd ∧ kd ≤ 1 := by omega
        have b1 : (kd != 1) = false := by rw [show kd = 1 by omega]; rfl
        have b2 : decide (7 ≤ kd) = false := by simp; omega
        have b3 : decide (kd ≤ 13) = true := by simp; omega
        have b4 : (kd != 11) = true := by rw [bne_iff_ne]; omega
        have b5 : decide (31 ≤ kd) = false := by simp; omega
        have b6 : (kd == 2) = false := by rw [beq_eq_false_iff_ne]; omega
        have hnb : namedB kd = false := by unfold namedB; rw [show (kd == 11) = false by rw [beq_eq_false_iff_ne]; omega, show decide (7 ≤ kd) = false from b2, show decide (kd ≤ 13) = true from b3, show decide (31 ≤ kd) = false from b5]; rfl
        have HNZ : Hid (¬ ((kd ≠ 1 ∧ (n == 0) = false) ∨ lb = true)) := Lib.hid (by rintro (⟨_, h⟩ | h); exact absurd (h.symm.trans HZ1.out) (by simp); exact absurd (h.symm.trans HLB.out) (by simp))
        have HS := Lib.hid (HPL.out HNZ.out hnb (by omega))
        by_cases he : T.data.toList = []
        · have t1 : T.toList.isEmpty = true := by rw [HTe.out.1 he]; rfl
          have HS2 : Hid (sv = true) := Lib.hid (by rw [HS.out, he]; rfl)
          clear he hnb hlo hc
          go_enter Tryd.func31, Tryd.ntmps31
          go_wp2_with fail
          go_quiet ((go_at_call 44; exact Calls.quiet_of_same (HKD.out _)))
          go_wp2_with fail
          go_ret
          exact tells1 HS2.out.symm (below_drewN HX.out _)
        · have t1 : T.toList.isEmpty = false := by rw [List.isEmpty_eq_false_iff]; exact fun e => he (HTe.out.2 e)
          have HS2 : Hid (sv = false) := Lib.hid (by rw [HS.out, decide_eq_false he])
          clear he hnb hlo hc
          go_enter Tryd.func31, Tryd.ntmps31
          go_wp2_with fail
          go_quiet ((go_at_call 44; exact Calls.quiet_of_same (HKD.out _)))
          go_wp2_with fail
          go_ret
          exact tells1 HS2.out.symm (below_drewN HX.out _)
      by_cases hc : kd = 2
      · have hlo : 2 ≤ kd ∧ kd ≤ 2 := by omega
        have b1 : (kd != 1) = true := by rw [bne_iff_ne]; omega
        have b2 : decide (7 ≤ kd) = false := by simp; omega
        have b3 : decide (kd ≤ 13) = true := by simp; omega
        have b4 : (kd != 11) = true := by rw [bne_iff_ne]; omega
        have b5 : decide (31 ≤ kd) = false := by simp; omega
        have b6 : (kd == 2) = true := by rw [show kd = 2 by omega]; rfl
        have hnb : namedB kd = false := by unfold namedB; rw [show (kd == 11) = false by rw [beq_eq_false_iff_ne]; omega, show decide (7 ≤ kd) = false from b2, show decide (kd ≤ 13) = true from b3, show decide (31 ≤ kd) = false from b5]; rfl
        have HNZ : Hid (¬ ((kd ≠ 1 ∧ (n == 0) = false) ∨ lb = true)) := Lib.hid (by rintro (⟨_, h⟩ | h); exact absurd (h.symm.trans HZ1.out) (by simp); exact absurd (h.symm.trans HLB.out) (by simp))
        have HS := Lib.hid (HTX.out HNZ.out (by omega))
        have ht := HT.out
        by_cases he : T.size ≤ 4096
        · have t1 : decide ((T.size : Int) ≤ 4096) = true := by simp; omega
          have HS2 : Hid (sv = true) := Lib.hid (by rw [HS.out, ht]; simpa using he)
          clear he hnb hlo ht hc
          go_enter Tryd.func31, Tryd.ntmps31
          go_wp2_with fail
          go_quiet ((go_at_call 44; exact Calls.quiet_of_same (HKD.out _)))
          go_wp2_with fail
          go_ret
          exact tells1 HS2.out.symm (below_drewN HX.out _)
        · have t1 : decide ((T.size : Int) ≤ 4096) = false := by simp; omega
          have HS2 : Hid (sv = false) := Lib.hid (by rw [HS.out, ht]; simpa using he)
          have t2 : T.toList.isEmpty = false := by rw [List.isEmpty_eq_false_iff, Lib.toList_data]; intro e; rw [e] at ht; simp at ht; omega
          clear he hnb hlo ht hc
          go_enter Tryd.func31, Tryd.ntmps31
          go_wp2_with fail
          go_quiet ((go_at_call 44; exact Calls.quiet_of_same (HKD.out _)))
          go_wp2_with fail
          go_ret
          exact tells1 HS2.out.symm (below_drewN HX.out _)
      by_cases hc : kd ≤ 6
      · have hlo : 3 ≤ kd ∧ kd ≤ 6 := by omega
        have b1 : (kd != 1) = true := by rw [bne_iff_ne]; omega
        have b2 : decide (7 ≤ kd) = false := by simp; omega
        have b3 : decide (kd ≤ 13) = true := by simp; omega
        have b4 : (kd != 11) = true := by rw [bne_iff_ne]; omega
        have b5 : decide (31 ≤ kd) = false := by simp; omega
        have b6 : (kd == 2) = false := by rw [beq_eq_false_iff_ne]; omega
        have hnb : namedB kd = false := by unfold namedB; rw [show (kd == 11) = false by rw [beq_eq_false_iff_ne]; omega, show decide (7 ≤ kd) = false from b2, show decide (kd ≤ 13) = true from b3, show decide (31 ≤ kd) = false from b5]; rfl
        have HNZ : Hid (¬ ((kd ≠ 1 ∧ (n == 0) = false) ∨ lb = true)) := Lib.hid (by rintro (⟨_, h⟩ | h); exact absurd (h.symm.trans HZ1.out) (by simp); exact absurd (h.symm.trans HLB.out) (by simp))
        have HS := Lib.hid (HPL.out HNZ.out hnb (by omega))
        by_cases he : T.data.toList = []
        · have t1 : T.toList.isEmpty = true := by rw [HTe.out.1 he]; rfl
          have HS2 : Hid (sv = true) := Lib.hid (by rw [HS.out, he]; rfl)
          clear he hnb hlo hc
          go_enter Tryd.func31, Tryd.ntmps31
          go_wp2_with fail
          go_quiet ((go_at_call 44; exact Calls.quiet_of_same (HKD.out _)))
          go_wp2_with fail
          go_ret
          exact tells1 HS2.out.symm (below_drewN HX.out _)
        · have t1 : T.toList.isEmpty = false := by rw [List.isEmpty_eq_false_iff]; exact fun e => he (HTe.out.2 e)
          have HS2 : Hid (sv = false) := Lib.hid (by rw [HS.out, decide_eq_false he])
          clear he hnb hlo hc
          go_enter Tryd.func31, Tryd.ntmps31
          go_wp2_with fail
          go_quiet ((go_at_call 44; exact Calls.quiet_of_same (HKD.out _)))
          go_wp2_with fail
          go_ret
          exact tells1 HS2.out.symm (below_drewN HX.out _)
      by_cases hc : kd ≤ 10
      · have hlo : 7 ≤ kd ∧ kd ≤ 10 := by omega
        have b1 : (kd != 1) = true := by rw [bne_iff_ne]; omega
        have b2 : decide (7 ≤ kd) = true := by simp; omega
        have b3 : decide (kd ≤ 13) = true := by simp; omega
        have b4 : (kd != 11) = true := by rw [bne_iff_ne]; omega
        have b5 : decide (31 ≤ kd) = false := by simp; omega
        have b6 : (kd == 2) = false := by rw [beq_eq_false_iff_ne]; omega
        have hnb : namedB kd = true := by unfold namedB; rw [show (kd == 11) = false by rw [beq_eq_false_iff_ne]; omega, show decide (7 ≤ kd) = true from b2, show decide (kd ≤ 13) = true from b3, show decide (31 ≤ kd) = false from b5]; rfl
        have HNZ : Hid (¬ ((kd ≠ 1 ∧ (n == 0) = false) ∨ lb = true)) := Lib.hid (by rintro (⟨_, h⟩ | h); exact absurd (h.symm.trans HZ1.out) (by simp); exact absurd (h.symm.trans HLB.out) (by simp))
        have HS := Lib.hid (HNM.out HNZ.out hnb)
        clear hnb hlo hc
        cases R with
        | false =>
          go_enter Tryd.func31, Tryd.ntmps31
          go_wp2_with fail
          go_quiet ((go_at_call 44; exact Calls.quiet_of_same (HKD.out _)))
          go_wp2_with (go_at_call 45; refine (HR.out _).mono ?_; rintro e w2 ⟨rfl, rfl⟩)
          go_ret
          exact tells1 HS.out.symm (below_drewN HX.out _)
        | true =>
          cases W
          all_goals
            go_enter Tryd.func31, Tryd.ntmps31
            go_wp2_with fail
            go_quiet ((go_at_call 44; exact Calls.quiet_of_same (HKD.out _)))
            go_wp2_with (first | (go_at_call 45; refine (HR.out _).mono ?_; rintro e w2 ⟨rfl, rfl⟩) | (go_at_call 46; refine (HW.out _).mono ?_; rintro e w2 ⟨rfl, hb2⟩))
            go_ret
            exact tells1 HS.out.symm ((below_drewN HX.out _).trans (hb2.mono (by have := HX.out.size; simpa using this)))
      by_cases hc : kd = 11
      · have hlo : 11 ≤ kd ∧ kd ≤ 11 := by omega
        have b1 : (kd != 1) = true := by rw [bne_iff_ne]; omega
        have b2 : decide (7 ≤ kd) = true := by simp; omega
        have b3 : decide (kd ≤ 13) = true := by simp; omega
        have b4 : (kd != 11) = false := by rw [show kd = 11 by omega]; rfl
        have b5 : decide (31 ≤ kd) = false := by simp; omega
        have b6 : (kd == 2) = false := by rw [beq_eq_false_iff_ne]; omega
        have hnb : namedB kd = false := by unfold namedB; rw [show (kd == 11) = true by rw [show kd = 11 by omega]; rfl, show decide (7 ≤ kd) = true from b2, show decide (kd ≤ 13) = true from b3, show decide (31 ≤ kd) = false from b5]; rfl
        have HNZ : Hid (¬ ((kd ≠ 1 ∧ (n == 0) = false) ∨ lb = true)) := Lib.hid (by rintro (⟨_, h⟩ | h); exact absurd (h.symm.trans HZ1.out) (by simp); exact absurd (h.symm.trans HLB.out) (by simp))
        have HS := Lib.hid (HPL.out HNZ.out hnb (by omega))
        by_cases he : T.data.toList = []
        · have t1 : T.toList.isEmpty = true := by rw [HTe.out.1 he]; rfl
          have HS2 : Hid (sv = true) := Lib.hid (by rw [HS.out, he]; rfl)
          clear he hnb hlo hc
          go_enter Tryd.func31, Tryd.ntmps31
          go_wp2_with fail
          go_quiet ((go_at_call 44; exact Calls.quiet_of_same (HKD.out _)))
          go_wp2_with fail
          go_ret
          exact tells1 HS2.out.symm (below_drewN HX.out _)
        · have t1 : T.toList.isEmpty = false := by rw [List.isEmpty_eq_false_iff]; exact fun e => he (HTe.out.2 e)
          have HS2 : Hid (sv = false) := Lib.hid (by rw [HS.out, decide_eq_false he])
          clear he hnb hlo hc
          go_enter Tryd.func31, Tryd.ntmps31
          go_wp2_with fail
          go_quiet ((go_at_call 44; exact Calls.quiet_of_same (HKD.out _)))
          go_wp2_with fail
          go_ret
          exact tells1 HS2.out.symm (below_drewN HX.out _)
      by_cases hc : kd ≤ 13
      · have hlo : 12 ≤ kd ∧ kd ≤ 13 := by omega
        have b1 : (kd != 1) = true := by rw [bne_iff_ne]; omega
        have b2 : decide (7 ≤ kd) = true := by simp; omega
        have b3 : decide (kd ≤ 13) = true := by simp; omega
        have b4 : (kd != 11) = true := by rw [bne_iff_ne]; omega
        have b5 : decide (31 ≤ kd) = false := by simp; omega
        have b6 : (kd == 2) = false := by rw [beq_eq_false_iff_ne]; omega
        have hnb : namedB kd = true := by unfold namedB; rw [show (kd == 11) = false by rw [beq_eq_false_iff_ne]; omega, show decide (7 ≤ kd) = true from b2, show decide (kd ≤ 13) = true from b3, show decide (31 ≤ kd) = false from b5]; rfl
        have HNZ : Hid (¬ ((kd ≠ 1 ∧ (n == 0) = false) ∨ lb = true)) := Lib.hid (by rintro (⟨_, h⟩ | h); exact absurd (h.symm.trans HZ1.out) (by simp); exact absurd (h.symm.trans HLB.out) (by simp))
        have HS := Lib.hid (HNM.out HNZ.out hnb)
        clear hnb hlo hc
        cases R with
        | false =>
          go_enter Tryd.func31, Tryd.ntmps31
          go_wp2_with fail
          go_quiet ((go_at_call 44; exact Calls.quiet_of_same (HKD.out _)))
          go_wp2_with (go_at_call 45; refine (HR.out _).mono ?_; rintro e w2 ⟨rfl, rfl⟩)
          go_ret
          exact tells1 HS.out.symm (below_drewN HX.out _)
        | true =>
          cases W
          all_goals
            go_enter Tryd.func31, Tryd.ntmps31
            go_wp2_with fail
            go_quiet ((go_at_call 44; exact Calls.quiet_of_same (HKD.out _)))
            go_wp2_with (first | (go_at_call 45; refine (HR.out _).mono ?_; rintro e w2 ⟨rfl, rfl⟩) | (go_at_call 46; refine (HW.out _).mono ?_; rintro e w2 ⟨rfl, hb2⟩))
            go_ret
            exact tells1 HS.out.symm ((below_drewN HX.out _).trans (hb2.mono (by have := HX.out.size; simpa using this)))
      by_cases hc : kd ≤ 30
      · have hlo : 14 ≤ kd ∧ kd ≤ 30 := by omega
        have b1 : (kd != 1) = true := by rw [bne_iff_ne]; omega
        have b2 : decide (7 ≤ kd) = true := by simp; omega
        have b3 : decide (kd ≤ 13) = false := by simp; omega
        have b4 : (kd != 11) = true := by rw [bne_iff_ne]; omega
        have b5 : decide (31 ≤ kd) = false := by simp; omega
        have b6 : (kd == 2) = false := by rw [beq_eq_false_iff_ne]; omega
        have hnb : namedB kd = false := by unfold namedB; rw [show (kd == 11) = false by rw [beq_eq_false_iff_ne]; omega, show decide (7 ≤ kd) = true from b2, show decide (kd ≤ 13) = false from b3, show decide (31 ≤ kd) = false from b5]; rfl
        have HNZ : Hid (¬ ((kd ≠ 1 ∧ (n == 0) = false) ∨ lb = true)) := Lib.hid (by rintro (⟨_, h⟩ | h); exact absurd (h.symm.trans HZ1.out) (by simp); exact absurd (h.symm.trans HLB.out) (by simp))
        have HS := Lib.hid (HPL.out HNZ.out hnb (by omega))
        by_cases he : T.data.toList = []
        · have t1 : T.toList.isEmpty = true := by rw [HTe.out.1 he]; rfl
          have HS2 : Hid (sv = true) := Lib.hid (by rw [HS.out, he]; rfl)
          clear he hnb hlo hc
          go_enter Tryd.func31, Tryd.ntmps31
          go_wp2_with fail
          go_quiet ((go_at_call 44; exact Calls.quiet_of_same (HKD.out _)))
          go_wp2_with fail
          go_ret
          exact tells1 HS2.out.symm (below_drewN HX.out _)
        · have t1 : T.toList.isEmpty = false := by rw [List.isEmpty_eq_false_iff]; exact fun e => he (HTe.out.2 e)
          have HS2 : Hid (sv = false) := Lib.hid (by rw [HS.out, decide_eq_false he])
          clear he hnb hlo hc
          go_enter Tryd.func31, Tryd.ntmps31
          go_wp2_with fail
          go_quiet ((go_at_call 44; exact Calls.quiet_of_same (HKD.out _)))
          go_wp2_with fail
          go_ret
          exact tells1 HS2.out.symm (below_drewN HX.out _)
      have hlo : 31 ≤ kd ∧ kd ≤ 34 := by omega
      have b1 : (kd != 1) = true := by rw [bne_iff_ne]; omega
      have b2 : decide (7 ≤ kd) = true := by simp; omega
      have b3 : decide (kd ≤ 13) = false := by simp; omega
      have b4 : (kd != 11) = true := by rw [bne_iff_ne]; omega
      have b5 : decide (31 ≤ kd) = true := by simp; omega
      have b6 : (kd == 2) = false := by rw [beq_eq_false_iff_ne]; omega
      have hnb : namedB kd = true := by unfold namedB; rw [show (kd == 11) = false by rw [beq_eq_false_iff_ne]; omega, show decide (7 ≤ kd) = true from b2, show decide (kd ≤ 13) = false from b3, show decide (31 ≤ kd) = true from b5]; rfl
      have HNZ : Hid (¬ ((kd ≠ 1 ∧ (n == 0) = false) ∨ lb = true)) := Lib.hid (by rintro (⟨_, h⟩ | h); exact absurd (h.symm.trans HZ1.out) (by simp); exact absurd (h.symm.trans HLB.out) (by simp))
      have HS := Lib.hid (HNM.out HNZ.out hnb)
      clear hnb hlo
      cases R with
      | false =>
        go_enter Tryd.func31, Tryd.ntmps31
        go_wp2_with fail
        go_quiet ((go_at_call 44; exact Calls.quiet_of_same (HKD.out _)))
        go_wp2_with (go_at_call 45; refine (HR.out _).mono ?_; rintro e w2 ⟨rfl, rfl⟩)
        go_ret
        exact tells1 HS.out.symm (below_drewN HX.out _)
      | true =>
        cases W
        all_goals
          go_enter Tryd.func31, Tryd.ntmps31
          go_wp2_with fail
          go_quiet ((go_at_call 44; exact Calls.quiet_of_same (HKD.out _)))
          go_wp2_with (first | (go_at_call 45; refine (HR.out _).mono ?_; rintro e w2 ⟨rfl, rfl⟩) | (go_at_call 46; refine (HW.out _).mono ?_; rintro e w2 ⟨rfl, hb2⟩))
          go_ret
          exact tells1 HS.out.symm ((below_drewN HX.out _).trans (hb2.mono (by have := HX.out.size; simpa using this)))
    · have z1 : (n == 0) = false := by rw [beq_eq_false_iff_ne]; exact hz
      have z2 : (n != 0) = true := by rw [bne_iff_ne]; exact hz
      have hz3 := hl.out
      clear hz hl
      by_cases hc : kd = 1
      · have hlo : 1 ≤ kd ∧ kd ≤ 1 := by omega
        have b1 : (kd != 1) = false := by rw [show kd = 1 by omega]; rfl
        have b2 : decide (7 ≤ kd) = false := by simp; omega
        have b3 : decide (kd ≤ 13) = true := by simp; omega
        have b4 : (kd != 11) = true := by rw [bne_iff_ne]; omega
        have b5 : decide (31 ≤ kd) = false := by simp; omega
        have b6 : (kd == 2) = false := by rw [beq_eq_false_iff_ne]; omega
        have hnb : namedB kd = false := by unfold namedB; rw [show (kd == 11) = false by rw [beq_eq_false_iff_ne]; omega, show decide (7 ≤ kd) = false from b2, show decide (kd ≤ 13) = true from b3, show decide (31 ≤ kd) = false from b5]; rfl
        cases lb with
        | true =>
          have HS2 := Lib.hid (HZ.out (.inr rfl))
          clear hnb hlo hc
          go_enter Tryd.func31, Tryd.ntmps31
          go_wp2_with fail
          go_quiet ((go_at_call 44; exact Calls.quiet_of_same (HKD.out _)))
          go_wp2_with fail
          go_ret
          exact tells1 HS2.out.symm (below_drewN HX.out _)
        | false =>
          have HNZ : Hid (¬ ((kd ≠ 1 ∧ (n == 0) = false) ∨ false = true)) := Lib.hid (by rintro (⟨h, _⟩ | h); exact h (by omega); cases h)
          have HS := Lib.hid (HPL.out HNZ.out hnb (by omega))
          by_cases he : T.data.toList = []
          · have t1 : T.toList.isEmpty = true := by rw [HTe.out.1 he]; rfl
            have HS2 : Hid (sv = true) := Lib.hid (by rw [HS.out, he]; rfl)
            clear he hnb hlo hc
            go_enter Tryd.func31, Tryd.ntmps31
            go_wp2_with fail
            go_quiet ((go_at_call 44; exact Calls.quiet_of_same (HKD.out _)))
            go_wp2_with fail
            go_ret
            exact tells1 HS2.out.symm (below_drewN HX.out _)
          · have t1 : T.toList.isEmpty = false := by rw [List.isEmpty_eq_false_iff]; exact fun e => he (HTe.out.2 e)
            have HS2 : Hid (sv = false) := Lib.hid (by rw [HS.out, decide_eq_false he])
            clear he hnb hlo hc
            go_enter Tryd.func31, Tryd.ntmps31
            go_wp2_with fail
            go_quiet ((go_at_call 44; exact Calls.quiet_of_same (HKD.out _)))
            go_wp2_with fail
            go_ret
            exact tells1 HS2.out.symm (below_drewN HX.out _)
      have b1 : (kd != 1) = true := by rw [bne_iff_ne]; exact hc
      have HS2 := Lib.hid (HZ.out (.inl ⟨hc, z1⟩))
      clear hc
      go_enter Tryd.func31, Tryd.ntmps31
      go_wp2_with fail
      go_quiet ((go_at_call 44; exact Calls.quiet_of_same (HKD.out _)))
      go_wp2_with fail
      go_ret
      exact tells1 HS2.out.symm (below_drewN HX.out _)
  · rw [sound_no1 h3]
    have d3 : (kidsV kd != (m : Int)) = true := by rw [bne_iff_ne]; exact h3
    generalize kidsV kd = kv at h3 d3 HKD
    clear hl
    go_enter Tryd.func31, Tryd.ntmps31
    go_wp2_with fail
    go_quiet ((go_at_call 44; exact Calls.quiet_of_same (HKD.out _)))
    go_wp2_with fail
    go_ret
    exact tells1 rfl (below_drewN HX.out _)
theorem may_any (x : EN × Sl) (w : World) (hx : EnOk x.1) (hn : x.2.n = x.1.kids.length) (hm : x.2.n ≤ maxLen) :
    Calls Tryd.prog 31 #[.agg #[.int .i64 x.1.kind, .string x.1.text, .int .i64 x.1.int, .slice x.2.A x.2.n x.2.c]] w (Tells1 w (soundB x.1)) := by
  have hs : soundB x.1 = soundV x.1.kind x.1.text.data.toList (x.1.int == 0) (leastB x.1.int) x.2.n (right x.1.text.data.toList && !wordB x.1.text.data.toList) := by unfold soundB nameB; rw [hn]
  have hl : LeastIs x.1.int (leastB x.1.int) := ⟨by unfold leastB; rfl⟩
  have ht := hx.t
  rw [hs]
  exact may_v x.1.kind x.1.int x.1.text x.2.A x.2.n x.2.c _ _ (leastB x.1.int) w hm hl (Lib.hid fun Y => refRight_any x.1.text Y (by unfold maxLen; omega)) (Lib.hid fun Y => refReserved_any x.1.text Y)
end Go.Proofs.YtjlpoigcalfdlaaDoor
