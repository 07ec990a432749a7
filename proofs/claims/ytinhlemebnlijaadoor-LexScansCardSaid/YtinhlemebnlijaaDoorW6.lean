/-
  WALKS over the document's own answers: Quote.
-/
import Derived.Test.YtinhlemebnlijaaDoorW5
namespace Go.Proofs.YtinhlemebnlijaaDoor
open Go Go.RowKit
set_option linter.unusedVariables false
def RQRel (s : ByteArray) (w : World) (v i : Value) (wr : World) : Prop :=
  ∃ k : Nat, k ≤ s.size ∧ i = .int .i64 k ∧ ownB wr w.heap.size v (34 :: (s.data.toList.take k).flatMap form) ∧ Below w.heap.size w wr
set_option maxHeartbeats 400000 in
theorem refQuote_any (s : ByteArray) (w : World) (hs : (quote s.data.toList).length + 4 ≤ 140737488355328) :
    Calls Tryd.prog 51 #[.string s] w (Quoted w (quote s.data.toList)) := by
  have hq : (quote s.data.toList).length = (s.data.toList.flatMap form).length + 2 := by simp [quote]
  have hg := flat_ge s.data.toList
  have hsz : s.data.toList.length = s.size := by rw [Array.length_toList]; rfl
  have hroom : (s.data.toList.flatMap form).length + 6 ≤ 140737488355328 := by omega
  have hmax : s.size ≤ 140737488355328 := by omega
  have ROOM := Lib.hid hroom
  clear hs hq hg hsz hroom
  have h0 := ownB_lit w #[.int .u8 34] [34] rfl (by simp [maxLen])
  go_enter Tryd.func51, Tryd.ntmps51
  go_wp2_with fail
  go_loopw [3, 4] (fun v i wr => RQRel s w v i wr) (fun _ i _ => s.size - (intOf i).toNat)
  case atStart => exact ⟨0, Nat.zero_le _, rfl, h0, (Below.refl _ _).alloc (Nat.le_refl _) _⟩
  case round =>
    obtain ⟨k, hk, rfl, hown, hb⟩ := hrel
    clear h0
    have hfl := flat_take_le s.data.toList k
    have hszr : w.heap.size ≤ wr.heap.size := hb.size
    have hroom1 : (34 :: (s.data.toList.take k).flatMap form).length + 4 ≤ 140737488355328 := by have := ROOM.out; simp only [List.length_cons]; omega
    have R1 := Lib.hid hroom1
    clear hroom1 hfl
    by_cases hlt : k < s.size
    · have hf4 := (form_length s[k]).2
      have F4 : Hid ((⟨(form s[k]).toArray⟩ : ByteArray).size ≤ 4) := Lib.hid (by show (form s[k]).toArray.size ≤ 4; simpa using hf4)
      clear hf4
      go_wp2_with (first | (go_at_call 38; refine (refForm_any s[k] _).mono ?_; rintro e w2 ⟨rfl, hb2⟩) | (at_builtin; refine app_str rfl _ _ rfl w.heap.size _ _ rfl (hown.below hb2) ⟨(form s[k]).toArray⟩ rfl (by have := R1.out; have := F4.out; omega) (by have := hb2.size; omega) ?_; intro v3 w3 hown3 hb3))
      go_roundw
      case rel => exact ⟨k + 1, by omega, by go_num, by rw [← quote_rel hlt]; exact hown3, hb.trans ((hb2.mono hszr).trans hb3)⟩
      case measure => simp [intOf]; omega
    · obtain rfl : k = s.size := by omega
      go_wp2_with (at_builtin; refine app_bytes rfl _ _ rfl w.heap.size _ _ rfl (hown.alloc _) ⟨wr.heap.size, 0, none⟩ 1 1 [34] rfl rfl (cells_new wr _ _ _ rfl) (by have := R1.out; omega) (by simp; omega) ?_; intro v3 w3 hown3 hb3; have hcv := conv_own hown3)
      go_ret
      refine ⟨?_, (hb.alloc hszr _).trans hb3⟩
      have e : s.data.toList.take s.size = s.data.toList := List.take_of_length_le (by rw [Array.length_toList]; exact Nat.le_refl _)
      rw [e]
      rfl
end Go.Proofs.YtinhlemebnlijaaDoor
