/-
  WALKS over the document's own answers: Form, common.
  WALKS: letter, inName, Right, Own, and the document's among, Right, Own.
  WALKS: the document's among and Right; Own, both.
-/
import Derived.Test.YtckfcpiedainfaaGreatDoorZE5
namespace Go.Proofs.YtckfcpiedainfaaGreatDoor
open Go Go.RowKit
set_option linter.unusedVariables false
theorem conv_litd (w : World) (cs : Array Value) (news : List UInt8) (hc : cs.toList = news.map enc) (hm : news.length ≤ maxLen) :
    (convert 66 9 (.slice (some ⟨w.heap.size, 0, none⟩) news.length news.length)).run Tryz.prog (w.alloc (.cells cs 5)).drew = .ok (.string ⟨news.toArray⟩) (w.alloc (.cells cs 5)).drew :=
  conv_own (w := (w.alloc (.cells cs 5)).drew) (ownB_lit w cs news hc hm)
def Formed (w : World) (l : List UInt8) (e : Ending) (w' : World) : Prop := e = .returned (.string ⟨l.toArray⟩) ∧ Below w.heap.size w w'
theorem numB_in (n : Int) (h : numB n = false) (h10 : n ≠ 10) : 32 ≤ n ∧ n ≤ 126 := by
  unfold numB at h; simp at h; omega
theorem numB_out (n : Int) (h : numB n = true) : (n < 32 ∨ 126 < n) ∧ n ≠ 10 := by
  unfold numB at h; simp at h; omega
theorem cat2 (a b x y : UInt8) : Ending.returned (.string ((⟨#[a, b]⟩ : ByteArray) ++ ⟨#[x, y]⟩)) = .returned (.string ⟨[a, b, x, y].toArray⟩) := by
  have e : (⟨#[a, b]⟩ : ByteArray) ++ ⟨#[x, y]⟩ = ⟨[a, b, x, y].toArray⟩ := by
    apply ByteArray.ext
    rw [ByteArray.data_append]
    rfl
  rw [e]
set_option maxHeartbeats 400000 in
theorem refForm_any (c : UInt8) (w : World) : Calls Tryz.prog 58 #[.int .u8 c.toNat] w (Formed w (form c)) := by
  have hlt := c.toNat_lt
  rcases form_cases c with ⟨h, e⟩ | ⟨h, e⟩ | ⟨h, e⟩ | ⟨h1, h2, h3, h4, e⟩
  · rw [e]
    clear e
    rcases h with h | h
    · obtain rfl : c = 34 := UInt8.toNat_inj.1 h
      go_enter Tryz.func58, Tryz.ntmps58
      go_wp2
      go_ret
      exact ⟨rfl, Below.refl _ _⟩
    · obtain rfl : c = 92 := UInt8.toNat_inj.1 h
      go_enter Tryz.func58, Tryz.ntmps58
      go_wp2
      go_ret
      exact ⟨rfl, Below.refl _ _⟩
  · obtain rfl : c = 10 := UInt8.toNat_inj.1 h
    rw [e]
    clear e
    go_enter Tryz.func58, Tryz.ntmps58
    go_wp2
    go_ret
    exact ⟨rfl, Below.refl _ _⟩
  · rw [e]
    have hn := numB_out _ h
    clear e
    have d1 : ((c.toNat : Int) == 34) = false := by rw [beq_eq_false_iff_ne]; omega
    have d2 : ((c.toNat : Int) == 92) = false := by rw [beq_eq_false_iff_ne]; omega
    have d3 : ((c.toNat : Int) == 10) = false := by rw [beq_eq_false_iff_ne]; omega
    have q0 : 0 ≤ (c.toNat : Int) / 16 := by omega
    have q1 : (c.toNat : Int) / 16 < 16 := by omega
    have r0 : 0 ≤ (c.toNat : Int) % 16 := by omega
    have r1 : (c.toNat : Int) % 16 < 16 := by omega
    have HN := Lib.hid hn
    have e15 := and_15 c
    have hx1 : (⟨#[48, 49, 50, 51, 52, 53, 54, 55, 56, 57, 97, 98, 99, 100, 101, 102]⟩ : ByteArray)[((c.toNat : Int) / 16).toNat]'(by show _ < 16; omega) = hexOf (c.toNat / 16) := by
      have := hex_at (c.toNat / 16) (by omega)
      simpa only [toNat_q] using this
    have hx2 : (⟨#[48, 49, 50, 51, 52, 53, 54, 55, 56, 57, 97, 98, 99, 100, 101, 102]⟩ : ByteArray)[((c.toNat : Int) % 16).toNat]'(by show _ < 16; omega) = hexOf (c.toNat % 16) := by
      have := hex_at (c.toNat % 16) (by omega)
      simpa only [toNat_r] using this
    have hcv : (convert 66 9 (.slice (some ⟨w.heap.size, 0, none⟩) 2 2)).run Tryz.prog (w.alloc (.cells #[.int .u8 (hexOf (c.toNat / 16)).toNat, .int .u8 (hexOf (c.toNat % 16)).toNat] 5)).drew = .ok (.string ⟨#[hexOf (c.toNat / 16), hexOf (c.toNat % 16)]⟩) (w.alloc (.cells #[.int .u8 (hexOf (c.toNat / 16)).toNat, .int .u8 (hexOf (c.toNat % 16)).toNat] 5)).drew := conv_litd w _ [hexOf (c.toNat / 16), hexOf (c.toNat % 16)] rfl (by simp [maxLen])
    clear hn h
    go_enter Tryz.func58, Tryz.ntmps58
    rcases HN.out.1 with h | h
    · have g1 : ¬ (32 : Int) ≤ (c.toNat : Int) := by omega
      go_wp2_with fail
      go_region
      all_goals go_wp2
      all_goals go_ret
      all_goals exact ⟨cat2 _ _ _ _, ((Below.refl _ _).alloc (Nat.le_refl _) _).drew⟩
    · have g1 : (32 : Int) ≤ (c.toNat : Int) := by omega
      have g2 : ¬ (c.toNat : Int) ≤ 126 := by omega
      go_wp2_with fail
      go_region
      all_goals go_wp2
      all_goals go_ret
      all_goals exact ⟨cat2 _ _ _ _, ((Below.refl _ _).alloc (Nat.le_refl _) _).drew⟩
  · rw [e]
    have hn := numB_in _ h4 (by omega)
    clear e h4
    have d1 : ((c.toNat : Int) == 34) = false := by rw [beq_eq_false_iff_ne]; omega
    have d2 : ((c.toNat : Int) == 92) = false := by rw [beq_eq_false_iff_ne]; omega
    have d3 : ((c.toNat : Int) == 10) = false := by rw [beq_eq_false_iff_ne]; omega
    obtain ⟨g1, g2⟩ := hn
    clear h1 h2 h3
    have hcv : (convert 66 9 (.slice (some ⟨w.heap.size, 0, none⟩) 1 1)).run Tryz.prog (w.alloc (.cells #[.int .u8 c.toNat] 5)) = .ok (.string ⟨#[c]⟩) (w.alloc (.cells #[.int .u8 c.toNat] 5)) := conv_lit w #[.int .u8 c.toNat] [c] rfl (by simp [maxLen])
    go_enter Tryz.func58, Tryz.ntmps58
    go_wp2_with fail
    go_ret
    exact ⟨rfl, (Below.refl _ _).alloc (Nat.le_refl _) _⟩
def Commoned (w : World) (n : Nat) (e : Ending) (w' : World) : Prop := e = .returned (.int .i64 n) ∧ ∃ q, w' = w.drewN q
def CommonRel (s t : ByteArray) (w : World) (i : Value) (wr : World) : Prop :=
  ∃ k : Nat, k ≤ s.size ∧ k ≤ t.size ∧ i = .int .i64 k ∧ common s.data.toList t.data.toList = k + common (s.data.toList.drop k) (t.data.toList.drop k) ∧ ∃ q, wr = w.drewN q
theorem ret_int {k : IntKind} {a b : Int} (h : a = b) : Ending.returned (.int k a) = .returned (.int k b) := by rw [h]
theorem drewN_two (w : World) (a b : Nat) : ∃ q, (w.drewN a).drewN b = w.drewN q := ⟨_, World.drewN_drewN w a b⟩
set_option maxHeartbeats 400000 in
theorem refCommon_any (s t : ByteArray) (w : World) (hs : s.size ≤ maxLen) (ht : t.size ≤ maxLen) :
    Calls Tryz.prog 59 #[.string s, .string t] w (Commoned w (common s.data.toList t.data.toList)) := by
  unfold maxLen at hs ht
  go_enter Tryz.func59, Tryz.ntmps59
  go_wp2_with fail
  go_loopw [5] (fun i wr => CommonRel s t w i wr) (fun i _ => s.size - (intOf i).toNat)
  case atStart => exact ⟨0, by omega, by omega, rfl, by simp, 0, rfl⟩
  case round =>
    obtain ⟨k, hk1, hk2, rfl, hc, q, rfl⟩ := hrel
    have HC := Lib.hid hc
    clear hc
    have hsz : s.data.toList.length = s.size := by rw [Array.length_toList]; rfl
    have htz : t.data.toList.length = t.size := by rw [Array.length_toList]; rfl
    have HS := Lib.hid hsz
    have HT := Lib.hid htz
    clear hsz htz
    by_cases h1 : k < s.size
    · have d1 : ((k : Int) < (s.size : Int)) := by omega
      by_cases h2 : k < t.size
      · have d2 : ((k : Int) < (t.size : Int)) := by omega
        by_cases h3 : s[k] = t[k]
        · have d3 : ((s[k].toNat : Int) == (t[k].toNat : Int)) = true := by rw [beq_iff_eq, h3]
          have hnx := common_step HC.out (by rw [HS.out]; exact h1) (by rw [HT.out]; exact h2) h3
          have HX := Lib.hid hnx
          clear hnx h3
          go_wp2_with fail
          go_quiet (fail)
          go_wp2
          go_roundw
          case rel => exact ⟨k + 1, by omega, by omega, by go_num, HX.out, _, rfl⟩
          case measure => simp [intOf]; omega
        · have hne : s[k].toNat ≠ t[k].toNat := fun e => h3 (UInt8.toNat_inj.1 e)
          have d3 : ((s[k].toNat : Int) == (t[k].toNat : Int)) = false := by rw [beq_eq_false_iff_ne]; omega
          have hst := common_stop HC.out (.inr ⟨by rw [HS.out]; exact h1, by rw [HT.out]; exact h2, h3⟩)
          have HX := Lib.hid hst
          clear hst h3 hne
          go_wp2_with fail
          go_quiet (fail)
          go_wp2
          go_ret
          exact ⟨ret_int (by rw [HX.out]), drewN_two _ _ _⟩
      · have d2 : decide ((k : Int) < (t.size : Int)) = false := by simp; omega
        go_wp2_with fail
        go_quiet (fail)
        go_wp2
        go_ret
        exact ⟨ret_int (by rw [common_stop HC.out (.inl (by rw [HT.out]; omega))]), drewN_two _ _ _⟩
    · have d1 : decide ((k : Int) < (s.size : Int)) = false := by simp; omega
      go_wp2_with fail
      go_quiet (fail)
      go_wp2
      go_ret
      exact ⟨ret_int (by rw [common_stop HC.out (.inl (by rw [HS.out]; omega))]), drewN_two _ _ _⟩
end Go.Proofs.YtckfcpiedainfaaGreatDoor
namespace Go.Proofs.YtckfcpiedainfaaGreatDoor
open Go Go.RowKit
set_option linter.unusedVariables false
/-- a yes or no, the world as it was -/
def Says (w : World) (b : Bool) (e : Ending) (w' : World) : Prop := e = .returned (.bool b) ∧ w = w'
set_option maxHeartbeats 400000 in
theorem letter_any (n : Int) (w : World) : Calls Tryz.prog 71 #[.int .u8 n] w (Says w (letB n)) := by
  go_enter Tryz.func71, Tryz.ntmps71
  go_wp2
  all_goals go_ret
  all_goals refine ⟨ret_bool ?_, rfl⟩
  all_goals (unfold letB; first | (simp [*]; done) | (simp; omega) | (rw [Bool.eq_iff_iff]; simp; omega) | (rw [Bool.eq_iff_iff]; simp [*]; omega))
set_option maxHeartbeats 400000 in
theorem inName_any (n : Int) (w : World) : Calls Tryz.prog 72 #[.int .u8 n] w (Says w (innB n)) := by
  cases hl : letB n with
  | true =>
    have H := Lib.hid hl
    clear hl
    go_enter Tryz.func72, Tryz.ntmps72
    go_wp2_with (go_at_call 71; refine (letter_any n _).mono ?_; rintro e w' ⟨rfl, rfl⟩; rw [H.out])
    all_goals go_ret
    all_goals refine ⟨ret_bool ?_, rfl⟩
    all_goals (unfold innB; rw [H.out]; simp)
  | false =>
    have H := Lib.hid hl
    clear hl
    go_enter Tryz.func72, Tryz.ntmps72
    go_wp2_with (go_at_call 71; refine (letter_any n _).mono ?_; rintro e w' ⟨rfl, rfl⟩; rw [H.out])
    all_goals go_ret
    all_goals refine ⟨ret_bool ?_, rfl⟩
    all_goals (unfold innB; rw [H.out]; first | (simp [*]; done) | (simp; omega))
theorem toList_eq (s : ByteArray) : s.data.toList.length = s.size := by rw [Array.length_toList]; rfl
theorem drop_get' (s : ByteArray) (k : Nat) (h : k < s.size) : s.data.toList.drop k = s[k] :: s.data.toList.drop (k + 1) := by
  rw [List.drop_eq_getElem_cons (by simpa using h)]; rfl
theorem drop_nil' (s : ByteArray) (k : Nat) (h : ¬ k < s.size) : s.data.toList.drop k = [] := List.drop_eq_nil_of_le (by rw [toList_eq]; omega)
theorem right_eq (s : ByteArray) (h : 0 < s.size) : right s.data.toList = (decide (s.size ≤ 32) && letB (s[0].toNat : Int) && (s.data.toList.drop 1).all innC) := by
  have e : s.data.toList = s[0] :: s.data.toList.drop 1 := by have := drop_get' s 0 h; simpa using this
  have hl := toList_eq s
  rw [e] at hl
  rw [e, right]
  simp only [List.length_cons, List.drop_succ_cons, List.drop_zero] at hl ⊢
  congr 2
  rw [Bool.eq_iff_iff]; simp; omega
set_option maxHeartbeats 800000 in
theorem right_any (s : ByteArray) (w : World) (hs : s.size ≤ maxLen) : Calls Tryz.prog 49 #[.string s] w (Says w (right s.data.toList)) := by
  unfold maxLen at hs
  by_cases h0 : 0 < s.size
  · have hR := right_eq s h0
    have d0 : ((s.size : Int) == 0) = false := by rw [beq_eq_false_iff_ne]; omega
    by_cases h1 : s.size ≤ 32
    · have d1 : decide ((32 : Int) < (s.size : Int)) = false := by simp; omega
      cases hl : letB (s[0].toNat : Int) with
      | false =>
        have H := Lib.hid hl
        have HR : Hid (right s.data.toList = false) := Lib.hid (by rw [hR, hl]; simp)
        clear hR hl
        go_enter Tryz.func49, Tryz.ntmps49
        go_wp2_with (go_at_call 71; refine (letter_any _ _).mono ?_; rintro e w' ⟨rfl, rfl⟩; rw [H.out])
        go_ret
        exact ⟨ret_bool HR.out.symm, rfl⟩
      | true =>
        have H := Lib.hid hl
        have HR : Hid (right s.data.toList = (s.data.toList.drop 1).all innC) := Lib.hid (by rw [hR, hl]; simp [h1])
        clear hR hl
        go_enter Tryz.func49, Tryz.ntmps49
        go_wp2_with (go_at_call 71; refine (letter_any _ _).mono ?_; rintro e w' ⟨rfl, rfl⟩; rw [H.out])
        go_loop [3] (fun i => ∃ k : Nat, 1 ≤ k ∧ k ≤ s.size ∧ i = .int .i64 k ∧ Hid (right s.data.toList = (s.data.toList.drop k).all innC)) (fun i => s.size - (intOf i).toNat)
        case atStart => exact ⟨1, by omega, by omega, rfl, HR⟩
        case round =>
          obtain ⟨k, hk1, hk, rfl, HK⟩ := hrel
          by_cases hlt : k < s.size
          · cases hn : innB (s[k].toNat : Int) with
            | true =>
              have HN := Lib.hid hn
              have HX : Hid (right s.data.toList = (s.data.toList.drop (k + 1)).all innC) := Lib.hid (by rw [HK.out, drop_get' s k hlt, List.all_cons]; simp [innC, hn])
              clear hn
              go_wp2_with (go_at_call 72; refine (inName_any _ _).mono ?_; rintro e w' ⟨rfl, rfl⟩; rw [HN.out])
              go_round
              case rel => exact ⟨k + 1, by omega, by omega, by go_num, HX⟩
              case measure => simp [intOf]; omega
            | false =>
              have HN := Lib.hid hn
              have HX : Hid (right s.data.toList = false) := Lib.hid (by rw [HK.out, drop_get' s k hlt, List.all_cons]; simp [innC, hn])
              clear hn
              go_wp2_with (go_at_call 72; refine (inName_any _ _).mono ?_; rintro e w' ⟨rfl, rfl⟩; rw [HN.out])
              go_ret
              exact ⟨ret_bool HX.out.symm, rfl⟩
          · have HX : Hid (right s.data.toList = true) := Lib.hid (by rw [HK.out, drop_nil' s k hlt]; rfl)
            go_wp2
            go_ret
            exact ⟨ret_bool HX.out.symm, rfl⟩
    · have d1 : decide ((32 : Int) < (s.size : Int)) = true := by simp; omega
      have HR : Hid (right s.data.toList = false) := Lib.hid (by rw [hR]; simp [h1])
      clear hR
      go_enter Tryz.func49, Tryz.ntmps49
      go_wp2_with fail
      go_ret
      exact ⟨ret_bool HR.out.symm, rfl⟩
  · have hnil : s.data.toList = [] := List.length_eq_zero_iff.1 (by rw [toList_eq]; omega)
    have HR : Hid (right s.data.toList = false) := Lib.hid (by rw [hnil]; rfl)
    have d0 : ((s.size : Int) == 0) = true := by rw [beq_iff_eq]; omega
    clear hnil
    go_enter Tryz.func49, Tryz.ntmps49
    go_wp2_with fail
    go_ret
    exact ⟨ret_bool HR.out.symm, rfl⟩
end Go.Proofs.YtckfcpiedainfaaGreatDoor
namespace Go.Proofs.YtckfcpiedainfaaGreatDoor
open Go Go.RowKit
set_option linter.unusedVariables false
def hasB (l : List UInt8) (c : UInt8) : Bool := l.contains c
set_option maxHeartbeats 400000 in
theorem among_any (c : UInt8) (s : ByteArray) (w : World) (hs : s.size ≤ maxLen) : Calls Tryz.prog 83 #[.int .u8 c.toNat, .string s] w (Says w (hasB s.data.toList c)) := by
  unfold maxLen at hs
  have hc := c.toNat_lt
  go_enter Tryz.func83, Tryz.ntmps83
  go_wp2_with fail
  go_loop [5] (fun i => ∃ k : Nat, k ≤ s.size ∧ i = .int .i64 k ∧ Hid (hasB s.data.toList c = (s.data.toList.drop k).contains c)) (fun i => s.size - (intOf i).toNat)
  case atStart => exact ⟨0, by omega, rfl, Lib.hid (by simp [hasB])⟩
  case round =>
    obtain ⟨k, hk, rfl, HK⟩ := hrel
    by_cases hlt : k < s.size
    · by_cases he : s[k] = c
      · have d1 : ((s[k].toNat : Int) == (c.toNat : Int)) = true := by rw [beq_iff_eq, he]
        have HX : Hid (hasB s.data.toList c = true) := Lib.hid (by rw [HK.out, drop_get' s k hlt, he]; simp)
        clear he
        go_wp2
        go_ret
        exact ⟨ret_bool HX.out.symm, rfl⟩
      · have hne : s[k].toNat ≠ c.toNat := fun e => he (UInt8.toNat_inj.1 e)
        have d1 : ((s[k].toNat : Int) == (c.toNat : Int)) = false := by rw [beq_eq_false_iff_ne]; omega
        have HX : Hid (hasB s.data.toList c = (s.data.toList.drop (k + 1)).contains c) := Lib.hid (by rw [HK.out, drop_get' s k hlt]; simp; exact fun e => absurd e.symm he)
        clear he hne
        go_wp2
        go_round
        case rel => exact ⟨k + 1, by omega, by go_num, HX⟩
        case measure => simp [intOf]; omega
    · have HX : Hid (hasB s.data.toList c = false) := Lib.hid (by rw [HK.out, drop_nil' s k hlt]; rfl)
      go_wp2
      go_ret
      exact ⟨ret_bool HX.out.symm, rfl⟩
theorem letters_are (c : UInt8) : (⟨#[65, 66, 67, 68, 69, 70, 71, 72, 73, 74, 75, 76, 77, 78, 79, 80, 81, 82, 83, 84, 85, 86, 87, 88, 89, 90, 97, 98, 99, 100, 101, 102, 103, 104, 105, 106, 107, 108, 109, 110, 111, 112, 113, 114, 115, 116, 117, 118, 119, 120, 121, 122]⟩ : ByteArray).data.toList.contains c = letB (c.toNat : Int) := by
  revert c; apply all256; decide +kernel
theorem names_are (c : UInt8) : (⟨#[65, 66, 67, 68, 69, 70, 71, 72, 73, 74, 75, 76, 77, 78, 79, 80, 81, 82, 83, 84, 85, 86, 87, 88, 89, 90, 97, 98, 99, 100, 101, 102, 103, 104, 105, 106, 107, 108, 109, 110, 111, 112, 113, 114, 115, 116, 117, 118, 119, 120, 121, 122, 48, 49, 50, 51, 52, 53, 54, 55, 56, 57, 95]⟩ : ByteArray).data.toList.contains c = innB (c.toNat : Int) := by
  revert c; apply all256; decide +kernel
def digB (n : Int) : Bool := decide (48 ≤ n ∧ n ≤ 57)
theorem figures_are (c : UInt8) : (⟨#[48, 49, 50, 51, 52, 53, 54, 55, 56, 57]⟩ : ByteArray).data.toList.contains c = digB (c.toNat : Int) := by
  revert c; apply all256; decide +kernel
theorem among_letters (c : UInt8) (w : World) : Calls Tryz.prog 83 #[.int .u8 c.toNat, .string ⟨#[65, 66, 67, 68, 69, 70, 71, 72, 73, 74, 75, 76, 77, 78, 79, 80, 81, 82, 83, 84, 85, 86, 87, 88, 89, 90, 97, 98, 99, 100, 101, 102, 103, 104, 105, 106, 107, 108, 109, 110, 111, 112, 113, 114, 115, 116, 117, 118, 119, 120, 121, 122]⟩] w (Says w (letB (c.toNat : Int))) := by
  have h := among_any c ⟨#[65, 66, 67, 68, 69, 70, 71, 72, 73, 74, 75, 76, 77, 78, 79, 80, 81, 82, 83, 84, 85, 86, 87, 88, 89, 90, 97, 98, 99, 100, 101, 102, 103, 104, 105, 106, 107, 108, 109, 110, 111, 112, 113, 114, 115, 116, 117, 118, 119, 120, 121, 122]⟩ w (by decide)
  unfold hasB at h; rwa [letters_are] at h
theorem among_names (c : UInt8) (w : World) : Calls Tryz.prog 83 #[.int .u8 c.toNat, .string ⟨#[65, 66, 67, 68, 69, 70, 71, 72, 73, 74, 75, 76, 77, 78, 79, 80, 81, 82, 83, 84, 85, 86, 87, 88, 89, 90, 97, 98, 99, 100, 101, 102, 103, 104, 105, 106, 107, 108, 109, 110, 111, 112, 113, 114, 115, 116, 117, 118, 119, 120, 121, 122, 48, 49, 50, 51, 52, 53, 54, 55, 56, 57, 95]⟩] w (Says w (innB (c.toNat : Int))) := by
  have h := among_any c ⟨#[65, 66, 67, 68, 69, 70, 71, 72, 73, 74, 75, 76, 77, 78, 79, 80, 81, 82, 83, 84, 85, 86, 87, 88, 89, 90, 97, 98, 99, 100, 101, 102, 103, 104, 105, 106, 107, 108, 109, 110, 111, 112, 113, 114, 115, 116, 117, 118, 119, 120, 121, 122, 48, 49, 50, 51, 52, 53, 54, 55, 56, 57, 95]⟩ w (by decide)
  unfold hasB at h; rwa [names_are] at h
theorem among_figures (c : UInt8) (w : World) : Calls Tryz.prog 83 #[.int .u8 c.toNat, .string ⟨#[48, 49, 50, 51, 52, 53, 54, 55, 56, 57]⟩] w (Says w (digB (c.toNat : Int))) := by
  have h := among_any c ⟨#[48, 49, 50, 51, 52, 53, 54, 55, 56, 57]⟩ w (by decide)
  unfold hasB at h; rwa [figures_are] at h
set_option maxHeartbeats 800000 in
theorem refRight_any (s : ByteArray) (w : World) (hs : s.size ≤ maxLen) : Calls Tryz.prog 61 #[.string s] w (Says w (right s.data.toList)) := by
  unfold maxLen at hs
  by_cases h0 : 0 < s.size
  · have hR := right_eq s h0
    have d0 : decide ((s.size : Int) < 1) = false := by simp; omega
    by_cases h1 : s.size ≤ 32
    · have d1 : decide ((32 : Int) < (s.size : Int)) = false := by simp; omega
      cases hl : letB (s[0].toNat : Int) with
      | false =>
        have H := Lib.hid hl
        have HR : Hid (right s.data.toList = false) := Lib.hid (by rw [hR, hl]; simp)
        clear hR hl
        go_enter Tryz.func61, Tryz.ntmps61
        go_wp2_with (go_at_call 83; refine (among_letters _ _).mono ?_; rintro e w' ⟨rfl, rfl⟩; rw [H.out])
        go_ret
        exact ⟨ret_bool HR.out.symm, rfl⟩
      | true =>
        have H := Lib.hid hl
        have HR : Hid (right s.data.toList = (s.data.toList.drop 1).all innC) := Lib.hid (by rw [hR, hl]; simp [h1])
        clear hR hl
        go_enter Tryz.func61, Tryz.ntmps61
        go_wp2_with (go_at_call 83; refine (among_letters _ _).mono ?_; rintro e w' ⟨rfl, rfl⟩; rw [H.out])
        go_loop [3] (fun i => ∃ k : Nat, 1 ≤ k ∧ k ≤ s.size ∧ i = .int .i64 k ∧ Hid (right s.data.toList = (s.data.toList.drop k).all innC)) (fun i => s.size - (intOf i).toNat)
        case atStart => exact ⟨1, by omega, by omega, rfl, HR⟩
        case round =>
          obtain ⟨k, hk1, hk, rfl, HK⟩ := hrel
          by_cases hlt : k < s.size
          · cases hn : innB (s[k].toNat : Int) with
            | true =>
              have HN := Lib.hid hn
              have HX : Hid (right s.data.toList = (s.data.toList.drop (k + 1)).all innC) := Lib.hid (by rw [HK.out, drop_get' s k hlt, List.all_cons]; simp [innC, hn])
              clear hn
              go_wp2_with (go_at_call 83; refine (among_names _ _).mono ?_; rintro e w' ⟨rfl, rfl⟩; rw [HN.out])
              go_round
              case rel => exact ⟨k + 1, by omega, by omega, by go_num, HX⟩
              case measure => simp [intOf]; omega
            | false =>
              have HN := Lib.hid hn
              have HX : Hid (right s.data.toList = false) := Lib.hid (by rw [HK.out, drop_get' s k hlt, List.all_cons]; simp [innC, hn])
              clear hn
              go_wp2_with (go_at_call 83; refine (among_names _ _).mono ?_; rintro e w' ⟨rfl, rfl⟩; rw [HN.out])
              go_ret
              exact ⟨ret_bool HX.out.symm, rfl⟩
          · have HX : Hid (right s.data.toList = true) := Lib.hid (by rw [HK.out, drop_nil' s k hlt]; rfl)
            go_wp2
            go_ret
            exact ⟨ret_bool HX.out.symm, rfl⟩
    · have d1 : decide ((32 : Int) < (s.size : Int)) = true := by simp; omega
      have HR : Hid (right s.data.toList = false) := Lib.hid (by rw [hR]; simp [h1])
      clear hR
      go_enter Tryz.func61, Tryz.ntmps61
      go_wp2_with fail
      go_ret
      exact ⟨ret_bool HR.out.symm, rfl⟩
  · have hnil : s.data.toList = [] := List.length_eq_zero_iff.1 (by rw [toList_eq]; omega)
    have HR : Hid (right s.data.toList = false) := Lib.hid (by rw [hnil]; rfl)
    have d0 : decide ((s.size : Int) < 1) = true := by simp; omega
    clear hnil
    go_enter Tryz.func61, Tryz.ntmps61
    go_wp2_with fail
    go_ret
    exact ⟨ret_bool HR.out.symm, rfl⟩
theorem behind1 (s : ByteArray) : (s.extract 1 s.size).data.toList = s.data.toList.drop 1 := by
  rw [Lib.extract_data, List.take_of_length_le (by rw [List.length_drop, toList_eq]; omega)]
theorem refRight_is (s : ByteArray) (b : Bool) (w : World) (hs : s.size ≤ maxLen) (h : right s.data.toList = b) : Calls Tryz.prog 61 #[.string s] w (Says w b) := h ▸ refRight_any s w hs
end Go.Proofs.YtckfcpiedainfaaGreatDoor
