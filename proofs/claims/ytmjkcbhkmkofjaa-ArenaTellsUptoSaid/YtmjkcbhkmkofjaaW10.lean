/-
  WALKS: Check of the program.
-/
import Derived.Test.YtmjkcbhkmkofjaaW9
import Derived.Deep.DeepMust
namespace Go.Proofs.Ytmjkcbhkmkofjaa
open Go Go.RowKit Go.Sort
set_option linter.unusedVariables false

def checkV (next : Int) (nds : List Nd) : Int := if rightB next nds then 0 else 29
theorem check_no {next : Int} {nds : List Nd} (h : checkB next nds = false) : checkV next nds = 29 := by unfold checkV; rw [← checkB_eq, h]; rfl
theorem check_yes {next : Int} {nds : List Nd} (h : checkB next nds = true) : checkV next nds = 0 := by unfold checkV; rw [← checkB_eq, h]; rfl
theorem numB_facts {next : Int} {nds : List Nd} (h : numB next nds = true) : Rise nds ∧ nds.length ≤ 4096 ∧ 1 ≤ next ∧ next ≤ 1048577 := by
  unfold numB headB at h
  simp only [Bool.and_eq_true, decide_eq_true_eq] at h
  exact ⟨Rise.of h.2, h.1.2, h.1.1.1, h.1.1.2⟩

set_option maxHeartbeats 1600000 in
theorem check_any (w : World) (hi : Nat) (next : Int) (A : Option Addr) (n c : Nat) (nds : List Nd) (h : NodesIn w 0 hi A n c nds) (hh : hi ≤ w.heap.size) :
    Calls Try.prog 39 #[.agg #[.int .i64 next, .slice A n c]] w (Ret w (.int .i64 (checkV next nds))) := by
  have hbx := below_box w (mdObj next A n c)
  unfold mdObj at hbx
  have HB := Lib.hid hbx
  have HC : Hid (checkB next nds = (numB next nds && nds.all (speltB next) && (match joinS nds with | none => false | some a => rootedB a))) := Lib.hid rfl
  have HNu := Lib.hid (numbered_any (w.alloc (.cells #[.int .i64 next, .slice A n c] 24)) hi next A n c nds (h.below (hbx.mono hh)) (by simp; omega))
  have HSp : Hid (∀ w2, Below (w.alloc (.cells #[.int .i64 next, .slice A n c] 24)).heap.size (w.alloc (.cells #[.int .i64 next, .slice A n c] 24)) w2 → Calls Try.prog 91 #[.agg #[.int .i64 next, .slice A n c]] w2 (Ret w2 (.bool (nds.all (speltB next))))) := Lib.hid (fun w2 hb2 =>
    spelt_any w2 hi next A n c nds ((h.below (hbx.mono hh)).below (hb2.mono (by simp; omega))) (by have := hb2.size; simp at this; omega))
  have HJo : Hid (Rise nds → n ≤ 4096 → ∀ w2, Below (w.alloc (.cells #[.int .i64 next, .slice A n c] 24)).heap.size (w.alloc (.cells #[.int .i64 next, .slice A n c] 24)) w2 → Calls Try.prog 92 #[.agg #[.int .i64 next, .slice A n c]] w2 (Joined w2 n (joinS nds))) := Lib.hid (fun hr hn w2 hb2 =>
    joined_any w2 hi next A n c nds ((h.below (hbx.mono hh)).below (hb2.mono (by simp; omega))) (by have := hb2.size; simp at this; omega) hr hn)
  have HL := Lib.hid h.1
  clear hbx
  cases h1 : numB next nds with
  | false =>
    have HX : Hid (checkV next nds = 29) := Lib.hid (check_no (by rw [HC.out, h1]; rfl))
    rw [h1] at HNu
    clear h1 h
    go_enter Try.func39, Try.ntmps39
    go_wp2_with (go_at_call 90; refine HNu.out.mono ?_; rintro e w2 ⟨rfl, hb2⟩; obtain ⟨q1, q2⟩ := bcell hb2)
    go_ret
    exact ret_i HX.out rfl (HB.out.trans (hb2.mono (by simp)))
  | true =>
    obtain ⟨hr, hn, _, _⟩ := numB_facts h1
    rw [HL.out] at hn
    rw [h1] at HNu
    cases h2 : nds.all (speltB next) with
    | false =>
      have HX : Hid (checkV next nds = 29) := Lib.hid (check_no (by rw [HC.out, h2]; simp))
      rw [h2] at HSp
      clear h1 h2 h hr
      go_enter Try.func39, Try.ntmps39
      go_wp2_with (first | (go_at_call 90; refine HNu.out.mono ?_; rintro e w2 ⟨rfl, hb2⟩; obtain ⟨q1, q2⟩ := bcell hb2; have HB2 := Lib.hid hb2; have hz2 : w.heap.size < w2.heap.size := Nat.lt_of_lt_of_le (by simp) hb2.size; clear hb2) | (go_at_call 91; go_must (refine (HSp.out w2 HB2.out).mono ?_; rintro e w3 ⟨rfl, hb3⟩; have HB3 := Lib.hid hb3; clear hb3)))
      go_ret
      exact ret_i HX.out rfl (HB.out.trans ((HB2.out.mono (by simp)).trans (HB3.out.mono (by omega))))
    | true =>
      rw [h2] at HSp
      have hJo := HJo.out hr hn
      cases h3 : joinS nds with
      | none =>
        have HX : Hid (checkV next nds = 29) := Lib.hid (check_no (by rw [HC.out, h3]; simp))
        rw [h3] at hJo
        have HJ := Lib.hid hJo
        clear h1 h2 h3 h hr hJo HJo
        go_enter Try.func39, Try.ntmps39
        go_wp2_with (first | (go_at_call 90; refine HNu.out.mono ?_; rintro e w2 ⟨rfl, hb2⟩; obtain ⟨q1, q2⟩ := bcell hb2; have HB2 := Lib.hid hb2; have hz2 : w.heap.size < w2.heap.size := Nat.lt_of_lt_of_le (by simp) hb2.size; clear hb2) | (go_at_call 91; go_must (refine (HSp.out w2 HB2.out).mono ?_; rintro e w3 ⟨rfl, hb3⟩; obtain ⟨r1, r2⟩ := bcell hb3; have HB3 := Lib.hid (HB2.out.trans (hb3.mono (by simp; omega))); have hz3 := hb3.size; clear hb3)) | (go_at_call 92; refine (HJ.out w3 HB3.out).mono ?_; rintro e w4 ⟨hb4, rfl⟩; have HB4 := Lib.hid hb4; clear hb4))
        go_ret
        exact ret_i HX.out rfl (HB.out.trans ((HB3.out.mono (by simp)).trans (HB4.out.mono (by omega))))
      | some a =>
        rw [h3] at hJo
        have HJ := Lib.hid hJo
        have J := join_of hr h3
        have hav : ∀ j, j < n → -1 ≤ a.getD j (-1) ∧ a.getD j (-1) < n := by
          intro j hj
          have hjl : j < a.length := by rw [J.len, HL.out]; exact hj
          have e : a.getD j (-1) = a.getD j 0 := by rw [List.getD_eq_getElem?_getD, List.getD_eq_getElem?_getD, List.getElem?_eq_getElem hjl]; rfl
          rw [e]
          by_cases hx : a.getD j 0 = -1
          · omega
          · obtain ⟨i, p, h1, _, h2, _⟩ := J.from_ j (nds[j]'(by rw [HL.out]; exact hj)) (List.getElem?_eq_getElem _) hx
            have := (List.getElem?_eq_some_iff.1 h1).1
            rw [HL.out] at this
            omega
        have HAV := Lib.hid hav
        have HR : Hid (∀ (w4 : World) (g : Nat), IBlk w4 g a → a.length = n → Calls Try.prog 93 #[.slice (some ⟨g, 0, none⟩) n n] w4 (Ret w4 (.bool (rootedB a)))) := Lib.hid (fun w4 g hg hl => rooted_any w4 w4.heap.size (some ⟨g, 0, none⟩) n n a (hg.row hl (Nat.le_refl _) (by unfold maxLen; omega) (Nat.zero_le _) hg.lt) (Nat.le_refl _) hn hl HAV.out)
        obtain ⟨x, hx⟩ : ∃ x, rootedB a = x := ⟨_, rfl⟩
        rw [hx] at HR
        have HX : Hid (checkV next nds = if x then 0 else 29) := Lib.hid (by
          cases x with
          | false => exact check_no (by rw [HC.out, h3]; simp [hx])
          | true => exact check_yes (by rw [HC.out, h1, h2, h3]; simp [hx]))
        clear h1 h2 h3 h hr hJo HJo hav J hx
        cases x
        all_goals
          go_enter Try.func39, Try.ntmps39
          go_wp2_with (first | (go_at_call 90; refine HNu.out.mono ?_; rintro e w2 ⟨rfl, hb2⟩; obtain ⟨q1, q2⟩ := bcell hb2; have HB2 := Lib.hid hb2; have hz2 : w.heap.size < w2.heap.size := Nat.lt_of_lt_of_le (by simp) hb2.size; clear hb2) | (go_at_call 91; go_must (refine (HSp.out w2 HB2.out).mono ?_; rintro e w3 ⟨rfl, hb3⟩; obtain ⟨r1, r2⟩ := bcell hb3; have HB3 := Lib.hid (HB2.out.trans (hb3.mono (by simp; omega))); have hz3 := hb3.size; clear hb3)) | (go_at_call 92; refine (HJ.out w3 HB3.out).mono ?_; rintro e w4 ⟨hb4, g, rfl, hg, hl, _⟩; have HB4 := Lib.hid hb4; have HG := Lib.hid hg; have HLL := Lib.hid hl; have hz4 := hb4.size; clear hb4 hg hl) | (go_at_call 93; refine (HR.out w4 g HG.out HLL.out).mono ?_; rintro e w5 ⟨rfl, hb5⟩; have HB5 := Lib.hid hb5; clear hb5))
          go_ret
          exact ret_i HX.out rfl (HB.out.trans ((HB3.out.mono (by simp)).trans ((HB4.out.mono (by omega)).trans (HB5.out.mono (by omega)))))
end Go.Proofs.Ytmjkcbhkmkofjaa
