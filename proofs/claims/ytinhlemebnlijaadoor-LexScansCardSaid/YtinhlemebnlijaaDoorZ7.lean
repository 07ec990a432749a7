/-
  WALKS over the document's own answers: begins, more.
-/
import Derived.Test.YtinhlemebnlijaaDoorZ2
import Derived.Test.YtinhlemebnlijaaDoorY12
namespace Go.Proofs.YtinhlemebnlijaaDoor
open Go Go.RowKit
set_option linter.unusedVariables false
theorem any_drop {L : List (List UInt8)} {k : Nat} {m : List UInt8} {p : List UInt8 → Bool} (hm : L[k]? = some m) : (L.drop k).any p = (p m || (L.drop (k + 1)).any p) := by
  obtain ⟨h, e⟩ := List.getElem?_eq_some_iff.1 hm
  rw [List.drop_eq_getElem_cons h, e, List.any_cons]
theorem prefix_long {s m : List UInt8} (h : m.length < s.length) : s.isPrefixOf m = false := by
  rw [Bool.eq_false_iff]
  intro hp
  have := (List.isPrefixOf_iff_prefix.1 hp).length_le
  omega
theorem prefix_take {s m : List UInt8} (h : s.length ≤ m.length) : s.isPrefixOf m = (m.take s.length == s) := by
  rw [Bool.eq_iff_iff, List.isPrefixOf_iff_prefix, List.prefix_iff_eq_take, beq_iff_eq]
  exact ⟨fun h => h.symm, fun h => h.symm⟩
set_option maxHeartbeats 3200000 in
theorem begins_marks (s : ByteArray) (w : World) (hs : s.size ≤ maxLen) (hq : numQ s.data.toList = false) (hr : right s.data.toList = false) : Calls Tryd.prog 20 #[.string s] w (Tells1 w (begM s.data.toList)) := by
  have HN : Hid (∀ Y, Calls Tryd.prog 40 #[.string s] Y (NumV Y ((intT s.data.toList).getD 0) false)) := Lib.hid fun Y => by rw [← hq]; exact refNumber_any s Y hs
  have HRI : Hid (∀ Y, Calls Tryd.prog 41 #[.string s] Y (Says Y false)) := Lib.hid fun Y => refRight_is s _ Y hs hr
  obtain ⟨b, hb⟩ : ∃ b, begM s.data.toList = b := ⟨_, rfl⟩
  have H0 : Hid ((docMarks.drop 0).any (fun m => s.data.toList.isPrefixOf m) = b) := Lib.hid (by rw [← hb]; exact docMarks_beg _)
  rw [hb]
  have hsz := toList_eq s
  clear hq hr hb
  unfold maxLen at hs
  go_enter Tryd.func20, Tryd.ntmps20
  go_wp2_with (first | (go_at_call 40; refine (HN.out _).mono ?_; rintro e w1 ⟨rfl, rfl⟩) | (go_at_call 41; refine (HRI.out _).mono ?_; rintro e w2 ⟨rfl, rfl⟩) | (go_at_call 42; refine (refMarks_any _).mono ?_; rintro e w3 ⟨g, rfl, hrow, hb3⟩; have HB3 := Lib.hid hb3; have HR3 := Lib.hid hrow; clear hrow hb3))
  go_loop [6] (fun i => ∃ k : Nat, k ≤ 16 ∧ i = .int .i64 k ∧ Hid ((docMarks.drop k).any (fun m => s.data.toList.isPrefixOf m) = b)) (fun i => 16 - (intOf i).toNat)
  case atStart => exact ⟨0, by omega, rfl, H0⟩
  case round =>
    obtain ⟨k, hk, rfl, HK⟩ := hrel
    by_cases hlt : k < 16
    · obtain ⟨bl, o, m, hg, hbl, hm, hc⟩ := strs_at HR3.out hlt
      injection hg with hg
      injection hg with hg1 hg2
      subst hg1 hg2
      have HD := Lib.hid (any_drop (p := fun m => s.data.toList.isPrefixOf m) hm)
      obtain ⟨M, hM⟩ : ∃ M, ba m = M := ⟨_, rfl⟩
      have hMs : M.size = m.length := by rw [← hM, ← toList_eq, ba_data]
      have hMl : m = M.data.toList := by rw [← hM, ba_data]
      have hM2 : M.size ≤ 2 := by
        rw [hMs]
        have : ∀ x ∈ docMarks, x.length ≤ 2 := by decide
        exact this m (List.mem_of_getElem? hm)
      rw [hM] at hc
      simp only [Nat.zero_add] at hc
      subst hMl
      clear hm hM hMs
      by_cases hl : s.size ≤ M.size
      · have HP := Lib.hid (prefix_take (s := s.data.toList) (m := M.data.toList) (by rw [toList_eq, toList_eq]; exact hl))
        cases he : ((M.extract 0 s.size).toList == s.toList) with
        | true =>
          have HR : Hid (b = true) := Lib.hid (by
            have h := HK.out
            rw [HD.out, HP.out] at h
            rw [Lib.toList_data, Lib.toList_data, Lib.extract_data, List.drop_zero, Nat.sub_zero] at he
            rw [hsz, he] at h
            exact h.symm)
          clear HD HP
          go_wp2_with fail
          go_ret
          exact tells1 HR.out.symm HB3.out
        | false =>
          have HR : Hid ((docMarks.drop (k + 1)).any (fun m => s.data.toList.isPrefixOf m) = b) := Lib.hid (by
            have h := HK.out
            rw [HD.out, HP.out] at h
            rw [Lib.toList_data, Lib.toList_data, Lib.extract_data, List.drop_zero, Nat.sub_zero] at he
            rw [hsz, he, Bool.false_or] at h
            exact h)
          clear HD HP
          go_wp2_with fail
          go_round
          case rel => exact ⟨k + 1, by omega, by go_num, HR⟩
          case measure => simp [intOf]; omega
      · have hl' : M.size < s.size := by omega
        have HR : Hid ((docMarks.drop (k + 1)).any (fun m => s.data.toList.isPrefixOf m) = b) := Lib.hid (by
          have h := HK.out
          rw [HD.out, prefix_long (by rw [toList_eq, toList_eq]; exact hl'), Bool.false_or] at h
          exact h)
        clear HD
        go_wp2_with fail
        go_round
        case rel => exact ⟨k + 1, by omega, by go_num, HR⟩
        case measure => simp [intOf]; omega
    · have HR : Hid (b = false) := Lib.hid (by have := HK.out; rw [List.drop_eq_nil_of_le (by show 16 ≤ k; omega)] at this; exact this.symm)
      go_wp2_with fail
      go_ret
      exact tells1 HR.out.symm HB3.out
set_option maxHeartbeats 800000 in
theorem refBegins_any (s : ByteArray) (w : World) (hs : s.size ≤ maxLen) : Calls Tryd.prog 20 #[.string s] w (Tells1 w (begR s.data.toList)) := by
  cases hq : numQ s.data.toList with
  | true =>
    have hB : begR s.data.toList = true := by unfold begR; rw [hq]; rfl
    have HN : Hid (∀ Y, Calls Tryd.prog 40 #[.string s] Y (NumV Y ((intT s.data.toList).getD 0) true)) := Lib.hid fun Y => by rw [← hq]; exact refNumber_any s Y hs
    rw [hB]
    clear hB hq
    go_enter Tryd.func20, Tryd.ntmps20
    go_wp2_with (go_at_call 40; refine (HN.out _).mono ?_; rintro e w1 ⟨rfl, rfl⟩)
    go_ret
    exact tells1 rfl (Below.refl _ _)
  | false =>
    cases hr : right s.data.toList with
    | true =>
      have hB : begR s.data.toList = true := by unfold begR; rw [hq, hr]; rfl
      have HN : Hid (∀ Y, Calls Tryd.prog 40 #[.string s] Y (NumV Y ((intT s.data.toList).getD 0) false)) := Lib.hid fun Y => by rw [← hq]; exact refNumber_any s Y hs
      have HRI : Hid (∀ Y, Calls Tryd.prog 41 #[.string s] Y (Says Y true)) := Lib.hid fun Y => refRight_is s _ Y hs hr
      rw [hB]
      clear hB hq hr
      go_enter Tryd.func20, Tryd.ntmps20
      go_wp2_with (first | (go_at_call 40; refine (HN.out _).mono ?_; rintro e w1 ⟨rfl, rfl⟩) | (go_at_call 41; refine (HRI.out _).mono ?_; rintro e w2 ⟨rfl, rfl⟩))
      go_ret
      exact tells1 rfl (Below.refl _ _)
    | false =>
      have hB : begR s.data.toList = begM s.data.toList := by unfold begR; rw [hq, hr]; rfl
      rw [hB]
      exact begins_marks s w hs hq hr
set_option maxHeartbeats 800000 in
theorem refMore_any (c : UInt8) (w : World) : Calls Tryd.prog 22 #[.int .u8 c.toNat] w (Tells1 w (innC c)) := by
  have HR : Hid (∀ Y, Calls Tryd.prog 41 #[.string ((⟨#[97]⟩ : ByteArray) ++ (⟨[c].toArray⟩ : ByteArray))] Y (Says Y (innC c))) := Lib.hid fun Y => refRight_is _ _ Y (by rw [← toList_eq, cat_list]; simp [maxLen]) (by rw [cat_list]; exact right_two c)
  obtain ⟨X, hX⟩ : ∃ X, w.alloc (.cells #[.int .u8 c.toNat] 5) = X := ⟨_, rfl⟩
  have HX : Hid (Below w.heap.size w X) := Lib.hid (by rw [← hX]; exact (Below.refl _ _).alloc (Nat.le_refl _) _)
  have HCV : Hid ((convert 42 9 (.slice (some ⟨w.heap.size, 0, none⟩) 1 1)).run Tryd.prog X = .ok (.string ⟨[c].toArray⟩) X) := Lib.hid (by rw [← hX]; exact conv_lit w _ [c] rfl (by unfold maxLen; simp))
  go_enter Tryd.func22, Tryd.ntmps22
  go_wp2_with (first | ((with_reducible show wpList _ _ _ (Oper.mk _ (Op.convert 42 9 _) _ _ _ _ :: _) _ _); refine wpList_conv rfl _ rfl rfl HCV.out ?_) | (go_at_call 41; refine (HR.out _).mono ?_; rintro e w2 ⟨rfl, rfl⟩))
  go_ret
  exact tells1 rfl HX.out
end Go.Proofs.YtinhlemebnlijaaDoor
