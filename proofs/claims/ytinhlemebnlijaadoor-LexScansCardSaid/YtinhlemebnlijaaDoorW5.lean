/-
  WALKS over the document's own answers: Form, common.
-/
import Derived.Test.YtinhlemebnlijaaDoorW3
import Derived.Test.YtinhlemebnlijaaDoorQ
namespace Go.Proofs.YtinhlemebnlijaaDoor
open Go Go.RowKit
set_option linter.unusedVariables false
theorem conv_litd (w : World) (cs : Array Value) (news : List UInt8) (hc : cs.toList = news.map enc) (hm : news.length ≤ maxLen) :
    (convert 42 9 (.slice (some ⟨w.heap.size, 0, none⟩) news.length news.length)).run Tryd.prog (w.alloc (.cells cs 5)).drew = .ok (.string ⟨news.toArray⟩) (w.alloc (.cells cs 5)).drew :=
  conv_own (w := (w.alloc (.cells cs 5)).drew) (ownB_lit w cs news hc hm)
def Formed (w : World) (l : List UInt8) (e : Ending) (w' : World) : Prop := e = .returned (.string ⟨l.toArray⟩) ∧ Below w.heap.size w w'
theorem numB_in (n : Int) (h : numB n = false) (h10 : n ≠ 10) : 32 ≤ n ∧ n ≤ 126 := by
  unfold numB at h; simp at h; omega
theorem numB_out (n : Int) (h : numB n = true) : (n < 32 ∨ 126 < n) ∧ n ≠ 10 := by
  unfold numB at h; simp at h; omega
theorem cat2 (a b x y : UInt8) : Ending.returned (.string ((⟨#[a, b]⟩ : ByteArray) ++ ⟨#[x, y]⟩)) = .returned (.string ⟨[a, b, x, y].toArray⟩) := by
  have e : (⟨#[a, b]⟩ : ByteArray) ++ ⟨#[x, y]⟩ = ⟨[a, b, x, y].toArray⟩ := by
    apply ByteArray.ext
    rw [ByteArray.data_append]
    rfl
  rw [e]
set_option maxHeartbeats 400000 in
theorem refForm_any (c : UInt8) (w : World) : Calls Tryd.prog 38 #[.int .u8 c.toNat] w (Formed w (form c)) := by
  have hlt := c.toNat_lt
  rcases form_cases c with ⟨h, e⟩ | ⟨h, e⟩ | ⟨h, e⟩ | ⟨h1, h2, h3, h4, e⟩
  · rw [e]
    clear e
    rcases h with h | h
    · obtain rfl : c = 34 := UInt8.toNat_inj.1 h
      go_enter Tryd.func38, Tryd.ntmps38
      go_wp2
      go_ret
      exact ⟨rfl, Below.refl _ _⟩
    · obtain rfl : c = 92 := UInt8.toNat_inj.1 h
      go_enter Tryd.func38, Tryd.ntmps38
      go_wp2
      go_ret
      exact ⟨rfl, Below.refl _ _⟩
  · obtain rfl : c = 10 := UInt8.toNat_inj.1 h
    rw [e]
    clear e
    go_enter Tryd.func38, Tryd.ntmps38
    go_wp2
    go_ret
    exact ⟨rfl, Below.refl _ _⟩
  · rw [e]
    have hn := numB_out _ h
    clear e
    have d1 : ((c.toNat : Int) == 34) = false := by rw [beq_eq_false_iff_ne]; omega
    have d2 : ((c.toNat : Int) == 92) = false := by rw [beq_eq_false_iff_ne]; omega
    have d3 : ((c.toNat : Int) == 10) = false := by rw [beq_eq_false_iff_ne]; omega
    have q0 : 0 ≤ (c.toNat : Int) / 16 := by omega
    have q1 : (c.toNat : Int) / 16 < 16 := by omega
    have r0 : 0 ≤ (c.toNat : Int) % 16 := by omega
    have r1 : (c.toNat : Int) % 16 < 16 := by omega
    have HN := Lib.hid hn
    have e15 := and_15 c
    have hx1 : (⟨#[48, 49, 50, 51, 52, 53, 54, 55, 56, 57, 97, 98, 99, 100, 101, 102]⟩ : ByteArray)[((c.toNat : Int) / 16).toNat]'(by show _ < 16; omega) = hexOf (c.toNat / 16) := by
      have := hex_at (c.toNat / 16) (by omega)
      simpa only [toNat_q] using this
    have hx2 : (⟨#[48, 49, 50, 51, 52, 53, 54, 55, 56, 57, 97, 98, 99, 100, 101, 102]⟩ : ByteArray)[((c.toNat : Int) % 16).toNat]'(by show _ < 16; omega) = hexOf (c.toNat % 16) := by
      have := hex_at (c.toNat % 16) (by omega)
      simpa only [toNat_r] using this
    have hcv : (convert 42 9 (.slice (some ⟨w.heap.size, 0, none⟩) 2 2)).run Tryd.prog (w.alloc (.cells #[.int .u8 (hexOf (c.toNat / 16)).toNat, .int .u8 (hexOf (c.toNat % 16)).toNat] 5)).drew = .ok (.string ⟨#[hexOf (c.toNat / 16), hexOf (c.toNat % 16)]⟩) (w.alloc (.cells #[.int .u8 (hexOf (c.toNat / 16)).toNat, .int .u8 (hexOf (c.toNat % 16)).toNat] 5)).drew := conv_litd w _ [hexOf (c.toNat / 16), hexOf (c.toNat % 16)] rfl (by simp [maxLen])
    clear hn h
    go_enter Tryd.func38, Tryd.ntmps38
    rcases HN.out.1 with h | h
    · have g1 : ¬ (32 : Int) ≤ (c.toNat : Int) := by omega
      go_wp2_with fail
      go_region
      all_goals go_wp2
      all_goals go_ret
      all_goals exact ⟨cat2 _ _ _ _, ((Below.refl _ _).alloc (Nat.le_refl _) _).drew⟩
    · have g1 : (32 : Int) ≤ (c.toNat : Int) := by omega
      have g2 : ¬ (c.toNat : Int) ≤ 126 := by omega
      go_wp2_with fail
      go_region
      all_goals go_wp2
      all_goals go_ret
      all_goals exact ⟨cat2 _ _ _ _, ((Below.refl _ _).alloc (Nat.le_refl _) _).drew⟩
  · rw [e]
    have hn := numB_in _ h4 (by omega)
    clear e h4
    have d1 : ((c.toNat : Int) == 34) = false := by rw [beq_eq_false_iff_ne]; omega
    have d2 : ((c.toNat : Int) == 92) = false := by rw [beq_eq_false_iff_ne]; omega
    have d3 : ((c.toNat : Int) == 10) = false := by rw [beq_eq_false_iff_ne]; omega
    obtain ⟨g1, g2⟩ := hn
    clear h1 h2 h3
    have hcv : (convert 42 9 (.slice (some ⟨w.heap.size, 0, none⟩) 1 1)).run Tryd.prog (w.alloc (.cells #[.int .u8 c.toNat] 5)) = .ok (.string ⟨#[c]⟩) (w.alloc (.cells #[.int .u8 c.toNat] 5)) := conv_lit w #[.int .u8 c.toNat] [c] rfl (by simp [maxLen])
    go_enter Tryd.func38, Tryd.ntmps38
    go_wp2_with fail
    go_ret
    exact ⟨rfl, (Below.refl _ _).alloc (Nat.le_refl _) _⟩
def Commoned (w : World) (n : Nat) (e : Ending) (w' : World) : Prop := e = .returned (.int .i64 n) ∧ ∃ q, w' = w.drewN q
def CommonRel (s t : ByteArray) (w : World) (i : Value) (wr : World) : Prop :=
  ∃ k : Nat, k ≤ s.size ∧ k ≤ t.size ∧ i = .int .i64 k ∧ common s.data.toList t.data.toList = k + common (s.data.toList.drop k) (t.data.toList.drop k) ∧ ∃ q, wr = w.drewN q
theorem ret_int {k : IntKind} {a b : Int} (h : a = b) : Ending.returned (.int k a) = .returned (.int k b) := by rw [h]
theorem drewN_two (w : World) (a b : Nat) : ∃ q, (w.drewN a).drewN b = w.drewN q := ⟨_, World.drewN_drewN w a b⟩
theorem getElem_list (s : ByteArray) (k : Nat) (h : k < s.size) (h' : k < s.data.toList.length) : s.data.toList[k] = s[k] := rfl
set_option maxHeartbeats 400000 in
theorem refCommon_any (s t : ByteArray) (w : World) (hs : s.size ≤ maxLen) (ht : t.size ≤ maxLen) :
    Calls Tryd.prog 39 #[.string s, .string t] w (Commoned w (common s.data.toList t.data.toList)) := by
  unfold maxLen at hs ht
  go_enter Tryd.func39, Tryd.ntmps39
  go_wp2_with fail
  go_loopw [5] (fun i wr => CommonRel s t w i wr) (fun i _ => s.size - (intOf i).toNat)
  case atStart => exact ⟨0, by omega, by omega, rfl, by simp, 0, rfl⟩
  case round =>
    obtain ⟨k, hk1, hk2, rfl, hc, q, rfl⟩ := hrel
    have HC := Lib.hid hc
    clear hc
    have hsz : s.data.toList.length = s.size := by rw [Array.length_toList]; rfl
    have htz : t.data.toList.length = t.size := by rw [Array.length_toList]; rfl
    have HS := Lib.hid hsz
    have HT := Lib.hid htz
    clear hsz htz
    by_cases h1 : k < s.size
    · have d1 : ((k : Int) < (s.size : Int)) := by omega
      by_cases h2 : k < t.size
      · have d2 : ((k : Int) < (t.size : Int)) := by omega
        by_cases h3 : s[k] = t[k]
        · have d3 : ((s[k].toNat : Int) == (t[k].toNat : Int)) = true := by rw [beq_iff_eq, h3]
          have hnx := common_step HC.out (by rw [HS.out]; exact h1) (by rw [HT.out]; exact h2) h3
          have HX := Lib.hid hnx
          clear hnx h3
          go_wp2_with fail
          go_quiet (fail)
          go_wp2
          go_roundw
          case rel => exact ⟨k + 1, by omega, by omega, by go_num, HX.out, _, rfl⟩
          case measure => simp [intOf]; omega
        · have hne : s[k].toNat ≠ t[k].toNat := fun e => h3 (UInt8.toNat_inj.1 e)
          have d3 : ((s[k].toNat : Int) == (t[k].toNat : Int)) = false := by rw [beq_eq_false_iff_ne]; omega
          have hst := common_stop HC.out (.inr ⟨by rw [HS.out]; exact h1, by rw [HT.out]; exact h2, h3⟩)
          have HX := Lib.hid hst
          clear hst h3 hne
          go_wp2_with fail
          go_quiet (fail)
          go_wp2
          go_ret
          exact ⟨ret_int (by rw [HX.out]), drewN_two _ _ _⟩
      · have d2 : decide ((k : Int) < (t.size : Int)) = false := by simp; omega
        go_wp2_with fail
        go_quiet (fail)
        go_wp2
        go_ret
        exact ⟨ret_int (by rw [common_stop HC.out (.inl (by rw [HT.out]; omega))]), drewN_two _ _ _⟩
    · have d1 : decide ((k : Int) < (s.size : Int)) = false := by simp; omega
      go_wp2_with fail
      go_quiet (fail)
      go_wp2
      go_ret
      exact ⟨ret_int (by rw [common_stop HC.out (.inl (by rw [HS.out]; omega))]), drewN_two _ _ _⟩
end Go.Proofs.YtinhlemebnlijaaDoor
