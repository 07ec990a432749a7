/-
  WALKS over package lex: the marks ahead, isMark, a name, what stands apart, an int's digits.
-/
import Derived.Test.YtinhlemebnlijaaDoorY3
import Derived.Test.YtinhlemebnlijaaDoorO
namespace Go.Proofs.YtinhlemebnlijaaDoor
open Go Go.RowKit
set_option linter.unusedVariables false
theorem ba_list' (s : ByteArray) : ba s.data.toList = s := by unfold ba; apply ByteArray.ext; simp
theorem ba_of {x : ByteArray} {l : List UInt8} (h : x.data.toList = l) : x = ba l := by rw [← h, ba_list']
theorem ba_data (l : List UInt8) : (ba l).data.toList = l := by simp [ba]
/-- so far: the longest mark, and how far -/
structure MarkAt (S : List UInt8) (k : Nat) (P : ByteArray) (G : Nat) : Prop where
  out : (marksL.take k).foldl (markStep S) ([], 0) = (P.data.toList, G)
  p2 : P.size ≤ 2
  g2 : G ≤ 2
theorem mark_size {k : Nat} {M : ByteArray} (h : IsAt marksL k M) : M.size ≤ 2 := by
  have := (marks_two _ (List.mem_of_getElem? h.out)).1
  rwa [toList_eq] at this
theorem MarkAt.step {S : List UInt8} {k G c : Nat} {P M : ByteArray} (h : MarkAt S k P G) (hm : IsAt marksL k M) (hc : common M.data.toList S = c) :
    MarkAt S (k + 1) (if c = M.size ∧ P.size < c then M else P) (max G c) := by
  obtain ⟨hk, e⟩ := List.getElem?_eq_some_iff.1 hm.out
  have hc2 : c ≤ 2 := by have := common_le_left M.data.toList S; rw [toList_eq] at this; have := mark_size hm; omega
  refine ⟨?_, ?_, ?_⟩
  · rw [List.take_succ_eq_append_getElem hk, List.foldl_append, h.out, e]
    simp only [List.foldl_cons, List.foldl_nil, markStep, hc, toList_eq]
    split <;> rfl
  · split
    · exact mark_size hm
    · exact h.p2
  · have := h.g2; omega
theorem MarkAt.step_yes {S : List UInt8} {k G c : Nat} {P M : ByteArray} (h : MarkAt S k P G) (hm : IsAt marksL k M) (hc : common M.data.toList S = c) (h1 : c = M.size) (h2 : P.size < c) : MarkAt S (k + 1) M (max G c) := by
  have := h.step hm hc; rwa [if_pos ⟨h1, h2⟩] at this
theorem MarkAt.step_no {S : List UInt8} {k G c : Nat} {P M : ByteArray} (h : MarkAt S k P G) (hm : IsAt marksL k M) (hc : common M.data.toList S = c) (h1 : ¬ (c = M.size ∧ P.size < c)) : MarkAt S (k + 1) P (max G c) := by
  have := h.step hm hc; rwa [if_neg h1] at this
theorem MarkAt.done {S : List UInt8} {k G : Nat} {P : ByteArray} (h : MarkAt S k P G) (hk : 16 ≤ k) : ahead S = (P.data.toList, G) := by
  have := h.out
  rwa [List.take_of_length_le hk] at this
def MarksTold (w : World) (r : List UInt8 × Nat) (e : Ending) (w' : World) : Prop := e = .returned (.tuple #[.string (ba r.1), .int .i64 r.2]) ∧ ∃ q, w' = w.drewN q
theorem marksTold_of {w : World} {S : List UInt8} {k G q : Nat} {P : ByteArray} (h : MarkAt S k P G) (hk : 16 ≤ k) : MarksTold w (ahead S) (.returned (.tuple #[.string P, .int .i64 G])) (w.drewN q) := by
  rw [h.done hk]
  exact ⟨by rw [ba_list'], q, rfl⟩
theorem ret_max {a b : Nat} : Value.int .i64 (max (a : Int) b) = .int .i64 ((max a b : Nat) : Int) := by congr 1; omega
set_option maxHeartbeats 800000 in
theorem markAhead_any (s : ByteArray) (w : World) (hs : s.size ≤ maxLen) (hE : LexEnv w) : Calls Tryd.prog 37 #[.string s] w (MarksTold w (ahead s.data.toList)) := by
  have hg := hE.marks
  clear hE
  obtain ⟨t, fr, hg⟩ := hg
  have hi := info84
  obtain ⟨V, hV⟩ : ∃ V, strsV marksL = V := ⟨_, rfl⟩
  rw [hV] at hg hi
  have HV : IsTab marksL V := ⟨hV⟩
  have HCM : Hid (∀ M w', M.size ≤ 2 → Calls Tryd.prog 57 #[.string M, .string s] w' (Commoned w' (common M.data.toList s.data.toList))) := Lib.hid fun M w' h => lexCommon_any M s w' (by unfold maxLen; omega) hs
  clear hV hs
  go_enter Tryd.func37, Tryd.ntmps37
  go_wp2_with (refine wpList_load_row rfl _ _ rfl 0 rfl t V fr _ hg Tryd.underlying84 rfl hi ?_)
  clear hi hg
  go_loopw [2, 3, 5, 6, 8] (fun m g x c i wr => ∃ (k : Nat) (P : ByteArray) (G : Nat), k ≤ 16 ∧ i = .int .i64 k ∧ m = .string P ∧ g = .int .i64 G ∧ MarkAt s.data.toList k P G ∧ ∃ q, wr = w.drewN q) (fun _ _ _ _ i _ => 16 - (intOf i).toNat)
  case atStart => exact ⟨0, ⟨#[]⟩, 0, by omega, rfl, rfl, rfl, ⟨rfl, by decide, by omega⟩, 0, rfl⟩
  case round =>
    obtain ⟨k, P, G, hk, rfl, rfl, rfl, HK, q, rfl⟩ := hrel
    by_cases hlt : k < 16
    · obtain ⟨M, HM, hc⟩ := HV.at_ (k := k) hlt
      clear HV
      have hM2 := mark_size HM
      have HC := Lib.hid (HCM.out M (w.drewN q) hM2)
      obtain ⟨c, hcc⟩ : ∃ c, common M.data.toList s.data.toList = c := ⟨_, rfl⟩
      rw [hcc] at HC
      have HCC := Lib.hid hcc
      clear hcc
      by_cases h1 : c = M.size
      · have e1 : ((c : Int) == (M.size : Int)) = true := by rw [beq_iff_eq]; omega
        by_cases h2 : P.size < c
        · have e2 : decide ((P.size : Int) < (c : Int)) = true := by simp; omega
          have HX := HK.step_yes HM HCC.out h1 h2
          clear h1
          go_wp2_with (first | (refine wpList_index_strs rfl _ _ _ rfl 16 V k M rfl rfl Tryd.underlying84 hlt hc ?_) | (go_at_call 57; refine HC.out.mono ?_; rintro e w' ⟨rfl, q', rfl⟩))
          all_goals first | exact ⟨⟨k + 1, M, _, by omega, by go_num, rfl, ret_max, HX, _, rfl⟩, by simp [intOf]; omega⟩ | (exfalso; omega)
        · have e2 : decide ((P.size : Int) < (c : Int)) = false := by simp; omega
          have HX := HK.step_no HM HCC.out (fun h => h2 h.2)
          clear h1
          go_wp2_with (first | (refine wpList_index_strs rfl _ _ _ rfl 16 V k M rfl rfl Tryd.underlying84 hlt hc ?_) | (go_at_call 57; refine HC.out.mono ?_; rintro e w' ⟨rfl, q', rfl⟩))
          all_goals first | exact ⟨⟨k + 1, P, _, by omega, by go_num, rfl, ret_max, HX, _, rfl⟩, by simp [intOf]; omega⟩ | (exfalso; omega)
      · have e1 : ((c : Int) == (M.size : Int)) = false := by rw [beq_eq_false_iff_ne]; omega
        have HX := HK.step_no HM HCC.out (fun h => h1 h.1)
        go_wp2_with (first | (refine wpList_index_strs rfl _ _ _ rfl 16 V k M rfl rfl Tryd.underlying84 hlt hc ?_) | (go_at_call 57; refine HC.out.mono ?_; rintro e w' ⟨rfl, q', rfl⟩))
        all_goals first | exact ⟨⟨k + 1, P, _, by omega, by go_num, rfl, ret_max, HX, _, rfl⟩, by simp [intOf]; omega⟩ | (exfalso; omega)
    · go_wp2
      go_ret2
      exact marksTold_of HK (by omega)
end Go.Proofs.YtinhlemebnlijaaDoor
