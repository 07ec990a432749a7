/-
  WALKS over package lex: which tokens may be; a token's form.
-/
import Derived.Test.YtinhlemebnlijaaDoorY9
import Derived.Test.YtinhlemebnlijaaDoorW3
namespace Go.Proofs.YtinhlemebnlijaaDoor
open Go Go.RowKit
set_option linter.unusedVariables false
theorem says_bel {w w' : World} {b : Bool} {e : Ending} (h : Says w b e w') : Tells1 w b e w' := ⟨h.1, by rw [← h.2]; exact Below.refl _ _⟩
theorem saysD_bel {w w' : World} {b : Bool} {e : Ending} (h : SaysD w b e w') : Tells1 w b e w' := by
  obtain ⟨he, q, rfl⟩ := h
  exact ⟨he, below_drewN (Below.refl _ _) q⟩
/-- what is asked of a token's text -/
structure TextIs (T : ByteArray) (R Wd Mk : Bool) (w : World) : Prop where
  right : ∀ Y, Below w.heap.size w Y → Calls Tryd.prog 31 #[.string T] Y (Says Y R)
  word : ∀ Y, Below w.heap.size w Y → Calls Tryd.prog 46 #[.string T] Y (Says Y Wd)
  mark : ∀ Y, Below w.heap.size w Y → Calls Tryd.prog 47 #[.string T] Y (Tells1 Y Mk)
theorem textIs (T : ByteArray) (w : World) (hs : T.size ≤ maxLen) (hL : LexEnv w) : TextIs T (right T.data.toList) (wordB T.data.toList) (markB T.data.toList) w :=
  ⟨fun Y _ => right_any T Y hs, fun Y h => reserved_any T Y hs (hL.below h), fun Y h => (isMark_any T Y hs (hL.below h)).mono fun e w' h => saysD_bel h⟩
/-- the token that may be, by what is asked of its text -/
def mayV (kd n : Int) (E R Wd Mk : Bool) : Bool :=
  if kd = 1 then decide (0 ≤ n) && E else if kd = 2 then decide (n = 0) else if kd = 3 then decide (n = 0) && R && !Wd else if kd = 4 then decide (n = 0) && Wd else if kd = 5 then decide (n = 0) && Mk else false
theorem mayV_is (k : Tok) : mayV k.kind k.int (decide (k.text.data.toList = [])) (right k.text.data.toList) (wordB k.text.data.toList) (markB k.text.data.toList) = may k := rfl
theorem tells1 {w w' : World} {a b : Bool} (h : a = b) (hb : Below w.heap.size w w') : Tells1 w b (.returned (.bool a)) w' := ⟨by rw [h], hb⟩
set_option maxHeartbeats 3200000 in
theorem mayBe_v (kd n pl : Int) (T : ByteArray) (E R Wd Mk : Bool) (w : World) (hE : (T.toList == []) = E) (HT : TextIs T R Wd Mk w) :
    Calls Tryd.prog 25 #[.agg #[.int .i64 kd, .string T, .int .i64 n, .int .i64 pl]] w (Tells1 w (mayV kd n E R Wd Mk)) := by
  obtain ⟨X, hX⟩ : ∃ X, w.alloc (.cells #[.int .i64 kd, .string T, .int .i64 n, .int .i64 pl] 30) = X := ⟨_, rfl⟩
  have HX : Hid (Below w.heap.size w X) := Lib.hid (by rw [← hX]; exact (Below.refl _ _).alloc (Nat.le_refl _) _)
  have k0 : X.cell? ⟨w.heap.size, 0, none⟩ = some (.int .i64 kd) := by rw [← hX]; exact (Blk.new w _ _).cell 0
  have k1 : X.cell? ⟨w.heap.size, 1, none⟩ = some (.string T) := by rw [← hX]; exact (Blk.new w _ _).cell 1
  have k2 : X.cell? ⟨w.heap.size, 2, none⟩ = some (.int .i64 n) := by rw [← hX]; exact (Blk.new w _ _).cell 2
  by_cases h1 : kd = 1
  · subst h1
    have hm : mayV 1 n E R Wd Mk = (decide (0 ≤ n) && E) := rfl
    rw [hm]
    clear hm
    by_cases hn : 0 ≤ n
    · have hd2 : decide (0 ≤ n) = true := by simpa using hn
      rw [hd2]
      clear hd2
      cases E
      all_goals
        go_enter Tryd.func25, Tryd.ntmps25
        go_wp2_with (first | (go_at_call 31; refine (HT.right _ HX.out).mono ?_; rintro e w' ⟨rfl, rfl⟩) | (go_at_call 46; refine (HT.word _ HX.out).mono ?_; rintro e w' ⟨rfl, rfl⟩) | (go_at_call 47; refine (HT.mark _ HX.out).mono ?_; rintro e w2 ⟨rfl, hb2⟩))
        all_goals go_ret
        all_goals exact tells1 rfl HX.out
    · have hd2 : decide (0 ≤ n) = false := by simpa using hn
      rw [hd2]
      clear hd2
      go_enter Tryd.func25, Tryd.ntmps25
      go_wp2_with (first | (go_at_call 31; refine (HT.right _ HX.out).mono ?_; rintro e w' ⟨rfl, rfl⟩) | (go_at_call 46; refine (HT.word _ HX.out).mono ?_; rintro e w' ⟨rfl, rfl⟩) | (go_at_call 47; refine (HT.mark _ HX.out).mono ?_; rintro e w2 ⟨rfl, hb2⟩))
      all_goals go_ret
      all_goals exact tells1 rfl HX.out
  · by_cases h2 : kd = 2
    · subst h2
      have hm : mayV 2 n E R Wd Mk = (decide (n = 0)) := rfl
      rw [hm]
      clear hm h1
      by_cases hn : n = 0
      · subst hn
        go_enter Tryd.func25, Tryd.ntmps25
        go_wp2_with (first | (go_at_call 31; refine (HT.right _ HX.out).mono ?_; rintro e w' ⟨rfl, rfl⟩) | (go_at_call 46; refine (HT.word _ HX.out).mono ?_; rintro e w' ⟨rfl, rfl⟩) | (go_at_call 47; refine (HT.mark _ HX.out).mono ?_; rintro e w2 ⟨rfl, hb2⟩))
        all_goals go_ret
        all_goals exact tells1 rfl HX.out
      · have hd : (n == 0) = false := by rw [beq_eq_false_iff_ne]; exact hn
        have hd2 : decide (n = 0) = false := by simpa using hn
        rw [hd2]
        clear hd2 hn
        go_enter Tryd.func25, Tryd.ntmps25
        go_wp2_with (first | (go_at_call 31; refine (HT.right _ HX.out).mono ?_; rintro e w' ⟨rfl, rfl⟩) | (go_at_call 46; refine (HT.word _ HX.out).mono ?_; rintro e w' ⟨rfl, rfl⟩) | (go_at_call 47; refine (HT.mark _ HX.out).mono ?_; rintro e w2 ⟨rfl, hb2⟩))
        all_goals go_ret
        all_goals exact tells1 rfl HX.out
    · by_cases h3 : kd = 3
      · subst h3
        have hm : mayV 3 n E R Wd Mk = (decide (n = 0) && R && !Wd) := rfl
        rw [hm]
        clear hm h1 h2
        by_cases hn : n = 0
        · subst hn
          cases R <;> cases Wd
          all_goals
            go_enter Tryd.func25, Tryd.ntmps25
            go_wp2_with (first | (go_at_call 31; refine (HT.right _ HX.out).mono ?_; rintro e w' ⟨rfl, rfl⟩) | (go_at_call 46; refine (HT.word _ HX.out).mono ?_; rintro e w' ⟨rfl, rfl⟩) | (go_at_call 47; refine (HT.mark _ HX.out).mono ?_; rintro e w2 ⟨rfl, hb2⟩))
            all_goals go_ret
            all_goals exact tells1 rfl HX.out
        · have hd : (n == 0) = false := by rw [beq_eq_false_iff_ne]; exact hn
          have hd2 : decide (n = 0) = false := by simpa using hn
          rw [hd2]
          clear hd2 hn
          go_enter Tryd.func25, Tryd.ntmps25
          go_wp2_with (first | (go_at_call 31; refine (HT.right _ HX.out).mono ?_; rintro e w' ⟨rfl, rfl⟩) | (go_at_call 46; refine (HT.word _ HX.out).mono ?_; rintro e w' ⟨rfl, rfl⟩) | (go_at_call 47; refine (HT.mark _ HX.out).mono ?_; rintro e w2 ⟨rfl, hb2⟩))
          all_goals go_ret
          all_goals exact tells1 rfl HX.out
      · by_cases h4 : kd = 4
        · subst h4
          have hm : mayV 4 n E R Wd Mk = (decide (n = 0) && Wd) := rfl
          rw [hm]
          clear hm h1 h2 h3
          by_cases hn : n = 0
          · subst hn
            cases Wd
            all_goals
              go_enter Tryd.func25, Tryd.ntmps25
              go_wp2_with (first | (go_at_call 31; refine (HT.right _ HX.out).mono ?_; rintro e w' ⟨rfl, rfl⟩) | (go_at_call 46; refine (HT.word _ HX.out).mono ?_; rintro e w' ⟨rfl, rfl⟩) | (go_at_call 47; refine (HT.mark _ HX.out).mono ?_; rintro e w2 ⟨rfl, hb2⟩))
              all_goals go_ret
              all_goals exact tells1 rfl HX.out
          · have hd : (n == 0) = false := by rw [beq_eq_false_iff_ne]; exact hn
            have hd2 : decide (n = 0) = false := by simpa using hn
            rw [hd2]
            clear hd2 hn
            go_enter Tryd.func25, Tryd.ntmps25
            go_wp2_with (first | (go_at_call 31; refine (HT.right _ HX.out).mono ?_; rintro e w' ⟨rfl, rfl⟩) | (go_at_call 46; refine (HT.word _ HX.out).mono ?_; rintro e w' ⟨rfl, rfl⟩) | (go_at_call 47; refine (HT.mark _ HX.out).mono ?_; rintro e w2 ⟨rfl, hb2⟩))
            all_goals go_ret
            all_goals exact tells1 rfl HX.out
        · by_cases h5 : kd = 5
          · subst h5
            have hm : mayV 5 n E R Wd Mk = (decide (n = 0) && Mk) := rfl
            rw [hm]
            clear hm h1 h2 h3 h4
            by_cases hn : n = 0
            · subst hn
              cases Mk
              all_goals
                go_enter Tryd.func25, Tryd.ntmps25
                go_wp2_with (first | (go_at_call 31; refine (HT.right _ HX.out).mono ?_; rintro e w' ⟨rfl, rfl⟩) | (go_at_call 46; refine (HT.word _ HX.out).mono ?_; rintro e w' ⟨rfl, rfl⟩) | (go_at_call 47; refine (HT.mark _ HX.out).mono ?_; rintro e w2 ⟨rfl, hb2⟩))
                all_goals go_ret
                all_goals first | exact tells1 rfl HX.out | exact tells1 rfl (HX.out.trans (hb2.mono HX.out.size))
            · have hd : (n == 0) = false := by rw [beq_eq_false_iff_ne]; exact hn
              have hd2 : decide (n = 0) = false := by simpa using hn
              rw [hd2]
              clear hd2 hn
              go_enter Tryd.func25, Tryd.ntmps25
              go_wp2_with (first | (go_at_call 31; refine (HT.right _ HX.out).mono ?_; rintro e w' ⟨rfl, rfl⟩) | (go_at_call 46; refine (HT.word _ HX.out).mono ?_; rintro e w' ⟨rfl, rfl⟩) | (go_at_call 47; refine (HT.mark _ HX.out).mono ?_; rintro e w2 ⟨rfl, hb2⟩))
              all_goals go_ret
              all_goals first | exact tells1 rfl HX.out | exact tells1 rfl (HX.out.trans (hb2.mono HX.out.size))
          · have hm : mayV kd n E R Wd Mk = false := by unfold mayV; rw [if_neg h1, if_neg h2, if_neg h3, if_neg h4, if_neg h5]
            rw [hm]
            have g1 : (kd == 1) = false := by rw [beq_eq_false_iff_ne]; exact h1
            have g2 : (kd == 2) = false := by rw [beq_eq_false_iff_ne]; exact h2
            have g3 : (kd == 3) = false := by rw [beq_eq_false_iff_ne]; exact h3
            have g4 : (kd == 4) = false := by rw [beq_eq_false_iff_ne]; exact h4
            have g5 : (kd == 5) = false := by rw [beq_eq_false_iff_ne]; exact h5
            clear hm h1 h2 h3 h4 h5
            go_enter Tryd.func25, Tryd.ntmps25
            go_wp2_with (first | (go_at_call 31; refine (HT.right _ HX.out).mono ?_; rintro e w' ⟨rfl, rfl⟩) | (go_at_call 46; refine (HT.word _ HX.out).mono ?_; rintro e w' ⟨rfl, rfl⟩) | (go_at_call 47; refine (HT.mark _ HX.out).mono ?_; rintro e w2 ⟨rfl, hb2⟩))
            all_goals go_ret
            all_goals exact tells1 rfl HX.out
theorem mayBe_any (k : Tok) (w : World) (hs : k.text.size ≤ maxLen) (hL : LexEnv w) : Calls Tryd.prog 25 #[tokV k] w (Tells1 w (may k)) := by
  rw [← mayV_is]
  exact mayBe_v k.kind k.int k.place k.text _ _ _ _ w (nil_test k.text) (textIs k.text w hs hL)
end Go.Proofs.YtinhlemebnlijaaDoor
