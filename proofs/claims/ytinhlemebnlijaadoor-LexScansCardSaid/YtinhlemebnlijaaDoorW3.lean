/-
  WALKS over package names: Quote.
-/
import Derived.Test.YtinhlemebnlijaaDoorW2
namespace Go.Proofs.YtinhlemebnlijaaDoor
open Go Go.RowKit
set_option linter.unusedVariables false
theorem take_snoc (s : ByteArray) (k : Nat) (h : k < s.size) : s.data.toList.take (k + 1) = s.data.toList.take k ++ [s[k]] := by
  rw [List.take_succ_eq_append_getElem (by simpa using h)]; rfl
theorem flat_take_le (l : List UInt8) (k : Nat) : ((l.take k).flatMap form).length ≤ (l.flatMap form).length := by
  have h : l.flatMap form = (l.take k).flatMap form ++ (l.drop k).flatMap form := by rw [← List.flatMap_append, List.take_append_drop]
  rw [h, List.length_append]; omega
theorem flat_ge (l : List UInt8) : l.length ≤ (l.flatMap form).length := by
  induction l with
  | nil => simp
  | cons c l ih =>
    rw [List.flatMap_cons, List.length_append, List.length_cons]
    have := form_length c
    omega
def Quoted (w : World) (l : List UInt8) (e : Ending) (w' : World) : Prop := e = .returned (.string ⟨l.toArray⟩) ∧ Below w.heap.size w w'
theorem quote_rel {s : ByteArray} {k : Nat} (h : k < s.size) : (34 :: (s.data.toList.take k).flatMap form) ++ form s[k] = 34 :: (s.data.toList.take (k + 1)).flatMap form := by
  rw [take_snoc s k h, List.flatMap_append]; simp
set_option maxHeartbeats 400000 in
theorem quote_any (s : ByteArray) (w : World) (hs : (quote s.data.toList).length + 4 ≤ 140737488355328) :
    Calls Tryd.prog 49 #[.string s] w (Quoted w (quote s.data.toList)) := by
  have hq : (quote s.data.toList).length = (s.data.toList.flatMap form).length + 2 := by simp [quote]
  have hg := flat_ge s.data.toList
  have hsz : s.data.toList.length = s.size := by rw [Array.length_toList]; rfl
  have hroom : (s.data.toList.flatMap form).length + 6 ≤ 140737488355328 := by omega
  have hmax : s.size ≤ 140737488355328 := by omega
  have ROOM := Lib.hid hroom
  clear hs hq hg hsz hroom
  obtain ⟨i0, hi, hz0, hz1, hz2⟩ := info_parts byteInfo
  go_enter Tryd.func49, Tryd.ntmps49
  go_wp2_with (first | (at_make; refine wpList_make_own w rfl (.const (.int .i64 0)) (.tmp 7) 42 rfl w.heap.size 5 i0 (.int .u8 0) 1 Tryd.underlying42 hi hz0 hz1 .i64 .i64 ((s.size : Int) + 2) (s.size + 2) rfl rfl (by omega) (by rw [hz2]; omega) (by unfold maxLen; omega) (Nat.le_refl _) ?_; intro w1 hown1 hg1; have hown : ownB w1 w.heap.size (.slice (some ⟨w.heap.size, 0, none⟩) 0 (s.size + 2)) [] := hown1; have hb1 : Below w.heap.size w w1 := (Below.refl _ _).grown hg1 (Nat.le_refl _) (fun k h => by cases h); have hsz1 : w.heap.size ≤ w1.heap.size := hb1.size; clear hown1 hg1) | (at_builtin; refine app_bytes rfl _ _ rfl w.heap.size _ [] rfl (hown.alloc _) ⟨w1.heap.size, 0, none⟩ 1 1 [34] rfl rfl (cells_new w1 _ _ _ rfl) (by simp) (by simp; omega) ?_; intro v2 w2 hown2 hb2))
  have hb2' : Below w.heap.size w w2 := (hb1.alloc hsz1 _).trans hb2
  clear hb1 hb2 hown
  go_loopw [3, 4] (fun v i wr => ∃ k : Nat, k ≤ s.size ∧ i = .int .i64 k ∧ ownB wr w.heap.size v (34 :: (s.data.toList.take k).flatMap form) ∧ Below w.heap.size w wr) (fun _ i _ => s.size - (intOf i).toNat)
  case atStart => exact ⟨0, Nat.zero_le _, rfl, by simpa using hown2, hb2'⟩
  case round =>
    obtain ⟨k, hk, rfl, hown, hb⟩ := hrel
    clear hown2 hb2'
    have hfl := flat_take_le s.data.toList k
    have hszr : w.heap.size ≤ wr.heap.size := hb.size
    have hroom1 : (34 :: (s.data.toList.take k).flatMap form).length + 4 ≤ 140737488355328 := by have := ROOM.out; simp only [List.length_cons]; omega
    have R1 := Lib.hid hroom1
    clear hroom1 hfl
    by_cases hlt : k < s.size
    · go_wp2_with (go_at_call 61; refine (addForm_any w.heap.size _ _ s[k] _ hown hszr R1.out).mono ?_; rintro e w' ⟨v', rfl, hown', hb'⟩)
      go_roundw
      case rel => exact ⟨k + 1, by omega, by go_num, by rw [← quote_rel hlt]; exact hown', hb.trans hb'⟩
      case measure => simp [intOf]; omega
    · obtain rfl : k = s.size := by omega
      go_wp2_with (at_builtin; refine app_bytes rfl _ _ rfl w.heap.size _ _ rfl (hown.alloc _) ⟨wr.heap.size, 0, none⟩ 1 1 [34] rfl rfl (cells_new wr _ _ _ rfl) (by have := R1.out; omega) (by simp; omega) ?_; intro v3 w3 hown3 hb3; have hcv := conv_own hown3)
      go_ret
      refine ⟨?_, (hb.alloc hszr _).trans hb3⟩
      have e : s.data.toList.take s.size = s.data.toList := List.take_of_length_le (by rw [Array.length_toList]; exact Nat.le_refl _)
      rw [e]
      rfl
end Go.Proofs.YtinhlemebnlijaaDoor
