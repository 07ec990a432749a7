/-
  WALKS: the document's: what is below a node, its kids in a role, how deep it stands.
-/
import Derived.Test.YtmjkcbhkmkofjaaV10
namespace Go.Proofs.Ytmjkcbhkmkofjaa
open Go Go.RowKit Go.Sort
set_option linter.unusedVariables false
attribute [local go_sem ↓] Go.wp_at_zero Go.wp_at_succ

set_option maxRecDepth 20000 in
set_option maxHeartbeats 1600000 in
theorem refBelowQ_any (w : World) (hi : Nat) (next id : Int) (A : Option Addr) (n c : Nat) (nds : List Nd) (h : NodesIn w 0 hi A n c nds) (hh : hi ≤ w.heap.size) :
    Calls Try.prog 35 #[.agg #[.int .i64 next, .slice A n c], .int .i64 id] w (ListR w (belowR next nds id)) := by
  have HM0 := Lib.hid (M1.start w next A n c)
  have HRi := Lib.hid (refRight_any _ hi next A n c nds (h.below (HM0.out.bel.mono hh)) (Nat.le_trans hh HM0.out.bel.size))
  cases hrt : rightB next nds with
  | false =>
    have HX : Hid (belowR next nds id = []) := Lib.hid (by unfold belowR; rw [hrt]; rfl)
    have HV := Lib.hid hrt
    clear hrt h
    go_enter Try.func35, Try.ntmps35
    go_wp2_with (go_at_call 49; go_must (refine HRi.out.mono ?_; rintro e w2 ⟨rfl, hb2⟩; rw [HV.out]; have HM2 := Lib.hid (HM0.out.after hb2); have a0 := (HM2.out.a.cell 0).trans (show _ = some (.int .i64 next) from rfl); have a1 := (HM2.out.a.cell 1).trans (show _ = some (.slice A n c) from rfl); clear hb2))
    go_ret
    rw [HX.out]; exact listR_nil rfl HM2.out.bel
  | true =>
    have hR := rightM hrt
    have hn4 : n ≤ 4096 := by rw [← h.1]; exact hR.len
    have HV := Lib.hid hrt
    have HAt : Hid (∀ X, Below w.heap.size w X → Calls Try.prog 51 #[.agg #[.int .i64 next, .slice A n c], .int .i64 id] X (Ret X (.int .i64 (atV nds id)))) := Lib.hid fun X hX => refAt_any X hi next id A n c nds (h.below (hX.mono hh)) (Nat.le_trans hh hX.size) hR.rise hn4
    cases hix : ixOf nds id with
    | none =>
      have HX : Hid (belowR next nds id = []) := Lib.hid (by unfold belowR; rw [hix]; simp)
      have HAV := Lib.hid (atV_none hix)
      clear hrt h hix
      go_enter Try.func35, Try.ntmps35
      go_wp2_with (first | (go_at_call 49; go_must (refine HRi.out.mono ?_; rintro e w2 ⟨rfl, hb2⟩; rw [HV.out]; have HM2 := Lib.hid (HM0.out.after hb2); have a0 := (HM2.out.a.cell 0).trans (show _ = some (.int .i64 next) from rfl); have a1 := (HM2.out.a.cell 1).trans (show _ = some (.slice A n c) from rfl); clear hb2)) | (go_at_call 51; go_must (refine (HAt.out _ HM2.out.bel).mono ?_; rintro e w3 ⟨rfl, hb3⟩; rw [HAV.out]; clear a0 a1; have HM3 := Lib.hid (HM2.out.after hb3); have b0 := (HM3.out.a.cell 0).trans (show _ = some (.int .i64 next) from rfl); have b1 := (HM3.out.a.cell 1).trans (show _ = some (.slice A n c) from rfl); clear hb3)))
      go_ret
      rw [HX.out]; exact listR_nil rfl HM3.out.bel
    | some i =>
      have HX : Hid (belowR next nds id = belowV nds id) := Lib.hid (by unfold belowR; rw [hrt, hix]; simp)
      have HAV := Lib.hid (atV_some hix)
      obtain ⟨nd, hgi, hie⟩ := ixOf_some hix
      have hnd : ndOf nds id = some nd := by unfold ndOf; rw [hix]; exact hgi
      have d0 : decide ((i : Int) < 0) = false := by rw [decide_eq_false_iff_not]; omega
      have HIn : Hid (∀ X, Below w.heap.size w X → Calls Try.prog 53 #[.agg #[.int .i64 next, .slice A n c], .int .i64 id] X (ListR X (belowV nds id))) := Lib.hid fun X hX => refDown_any X hi next id A n c nds (h.below (hX.mono hh)) (Nat.le_trans hh hX.size) hR nd hnd
      clear hrt h hix hgi hie hnd
      go_enter Try.func35, Try.ntmps35
      go_wp2_with (first | (go_at_call 49; go_must (refine HRi.out.mono ?_; rintro e w2 ⟨rfl, hb2⟩; rw [HV.out]; have HM2 := Lib.hid (HM0.out.after hb2); have a0 := (HM2.out.a.cell 0).trans (show _ = some (.int .i64 next) from rfl); have a1 := (HM2.out.a.cell 1).trans (show _ = some (.slice A n c) from rfl); clear hb2)) | (go_at_call 51; go_must (refine (HAt.out _ HM2.out.bel).mono ?_; rintro e w3 ⟨rfl, hb3⟩; rw [HAV.out]; clear a0 a1; have HM3 := Lib.hid (HM2.out.after hb3); have b0 := (HM3.out.a.cell 0).trans (show _ = some (.int .i64 next) from rfl); have b1 := (HM3.out.a.cell 1).trans (show _ = some (.slice A n c) from rfl); clear hb3)) | (go_at_call 53; go_must (refine (HIn.out _ HM3.out.bel).mono ?_; rintro e w4 ⟨v4, rfl, hv4, hb4⟩; obtain ⟨A4, c4, rfl⟩ := own_form hv4; have HV4 := Lib.hid (own_mono hv4 HM3.out.bel.size); have HM4 := Lib.hid (HM3.out.after hb4); clear hv4 hb4)))
      go_ret
      rw [HX.out]; exact ⟨_, rfl, HV4.out, HM4.out.bel⟩

set_option maxRecDepth 20000 in
set_option maxHeartbeats 1600000 in
theorem refKidsQ_any (w : World) (hi : Nat) (next id : Int) (role : ByteArray) (A : Option Addr) (n c : Nat) (nds : List Nd) (h : NodesIn w 0 hi A n c nds) (hh : hi ≤ w.heap.size) :
    Calls Try.prog 36 #[.agg #[.int .i64 next, .slice A n c], .int .i64 id, .string role] w (ListR w (kidsR next nds id role)) := by
  have HM0 := Lib.hid (M1.start w next A n c)
  have HRi := Lib.hid (refRight_any _ hi next A n c nds (h.below (HM0.out.bel.mono hh)) (Nat.le_trans hh HM0.out.bel.size))
  cases hrt : rightB next nds with
  | false =>
    have HX : Hid (kidsR next nds id role = []) := Lib.hid (by unfold kidsR; rw [hrt]; rfl)
    have HV := Lib.hid hrt
    clear hrt h
    go_enter Try.func36, Try.ntmps36
    go_wp2_with (go_at_call 49; go_must (refine HRi.out.mono ?_; rintro e w2 ⟨rfl, hb2⟩; rw [HV.out]; have HM2 := Lib.hid (HM0.out.after hb2); have a0 := (HM2.out.a.cell 0).trans (show _ = some (.int .i64 next) from rfl); have a1 := (HM2.out.a.cell 1).trans (show _ = some (.slice A n c) from rfl); clear hb2))
    go_ret
    rw [HX.out]; exact listR_nil rfl HM2.out.bel
  | true =>
    have hR := rightM hrt
    have hn4 : n ≤ 4096 := by rw [← h.1]; exact hR.len
    have HV := Lib.hid hrt
    have HAt : Hid (∀ X, Below w.heap.size w X → Calls Try.prog 51 #[.agg #[.int .i64 next, .slice A n c], .int .i64 id] X (Ret X (.int .i64 (atV nds id)))) := Lib.hid fun X hX => refAt_any X hi next id A n c nds (h.below (hX.mono hh)) (Nat.le_trans hh hX.size) hR.rise hn4
    cases hix : ixOf nds id with
    | none =>
      have HX : Hid (kidsR next nds id role = []) := Lib.hid (by unfold kidsR; rw [hix]; simp)
      have HAV := Lib.hid (atV_none hix)
      clear hrt h hix
      go_enter Try.func36, Try.ntmps36
      go_wp2_with (first | (go_at_call 49; go_must (refine HRi.out.mono ?_; rintro e w2 ⟨rfl, hb2⟩; rw [HV.out]; have HM2 := Lib.hid (HM0.out.after hb2); have a0 := (HM2.out.a.cell 0).trans (show _ = some (.int .i64 next) from rfl); have a1 := (HM2.out.a.cell 1).trans (show _ = some (.slice A n c) from rfl); clear hb2)) | (go_at_call 51; go_must (refine (HAt.out _ HM2.out.bel).mono ?_; rintro e w3 ⟨rfl, hb3⟩; rw [HAV.out]; clear a0 a1; have HM3 := Lib.hid (HM2.out.after hb3); have b0 := (HM3.out.a.cell 0).trans (show _ = some (.int .i64 next) from rfl); have b1 := (HM3.out.a.cell 1).trans (show _ = some (.slice A n c) from rfl); clear hb3)))
      go_ret
      rw [HX.out]; exact listR_nil rfl HM3.out.bel
    | some i =>
      have HX : Hid (kidsR next nds id role = (kidsV nds id).filter (inRoleB nds role)) := Lib.hid (by unfold kidsR; rw [hrt, hix]; simp)
      have HAV := Lib.hid (atV_some hix)
      obtain ⟨nd, hgi, hie⟩ := ixOf_some hix
      have hnd : ndOf nds id = some nd := by unfold ndOf; rw [hix]; exact hgi
      have d0 : decide ((i : Int) < 0) = false := by rw [decide_eq_false_iff_not]; omega
      have HIn : Hid (∀ X, Below w.heap.size w X → Calls Try.prog 89 #[.agg #[.int .i64 next, .slice A n c], .int .i64 id, .string role] X (ListR X ((kidsV nds id).filter (inRoleB nds role)))) := Lib.hid fun X hX => by rw [kidsV_of hnd]; exact refKids_any X hi next id role A n c nds (h.below (hX.mono hh)) (Nat.le_trans hh hX.size) nd (hR.kOk (List.mem_of_getElem? hgi)) hnd
      clear hrt h hix hgi hie hnd
      go_enter Try.func36, Try.ntmps36
      go_wp2_with (first | (go_at_call 49; go_must (refine HRi.out.mono ?_; rintro e w2 ⟨rfl, hb2⟩; rw [HV.out]; have HM2 := Lib.hid (HM0.out.after hb2); have a0 := (HM2.out.a.cell 0).trans (show _ = some (.int .i64 next) from rfl); have a1 := (HM2.out.a.cell 1).trans (show _ = some (.slice A n c) from rfl); clear hb2)) | (go_at_call 51; go_must (refine (HAt.out _ HM2.out.bel).mono ?_; rintro e w3 ⟨rfl, hb3⟩; rw [HAV.out]; clear a0 a1; have HM3 := Lib.hid (HM2.out.after hb3); have b0 := (HM3.out.a.cell 0).trans (show _ = some (.int .i64 next) from rfl); have b1 := (HM3.out.a.cell 1).trans (show _ = some (.slice A n c) from rfl); clear hb3)) | (go_at_call 89; go_must (refine (HIn.out _ HM3.out.bel).mono ?_; rintro e w4 ⟨v4, rfl, hv4, hb4⟩; obtain ⟨A4, c4, rfl⟩ := own_form hv4; have HV4 := Lib.hid (own_mono hv4 HM3.out.bel.size); have HM4 := Lib.hid (HM3.out.after hb4); clear hv4 hb4)))
      go_ret
      rw [HX.out]; exact ⟨_, rfl, HV4.out, HM4.out.bel⟩

set_option maxRecDepth 20000 in
set_option maxHeartbeats 1600000 in
theorem refDepthQ_any (w : World) (hi : Nat) (next id : Int) (A : Option Addr) (n c : Nat) (nds : List Nd) (h : NodesIn w 0 hi A n c nds) (hh : hi ≤ w.heap.size) :
    Calls Try.prog 28 #[.agg #[.int .i64 next, .slice A n c], .int .i64 id] w (Ret w (.int .i64 (depthR next nds id))) := by
  have HM0 := Lib.hid (M1.start w next A n c)
  have HRi := Lib.hid (refRight_any _ hi next A n c nds (h.below (HM0.out.bel.mono hh)) (Nat.le_trans hh HM0.out.bel.size))
  cases hrt : rightB next nds with
  | false =>
    have HX : Hid ((depthR next nds id : Int) = 0) := Lib.hid (by unfold depthR; rw [hrt]; rfl)
    have HV := Lib.hid hrt
    clear hrt h
    go_enter Try.func28, Try.ntmps28
    go_wp2_with (go_at_call 49; go_must (refine HRi.out.mono ?_; rintro e w2 ⟨rfl, hb2⟩; rw [HV.out]; have HM2 := Lib.hid (HM0.out.after hb2); have a0 := (HM2.out.a.cell 0).trans (show _ = some (.int .i64 next) from rfl); have a1 := (HM2.out.a.cell 1).trans (show _ = some (.slice A n c) from rfl); clear hb2))
    go_ret
    exact ret_i HX.out rfl HM2.out.bel
  | true =>
    have hR := rightM hrt
    have hn4 : n ≤ 4096 := by rw [← h.1]; exact hR.len
    have HV := Lib.hid hrt
    have HAt : Hid (∀ X, Below w.heap.size w X → Calls Try.prog 51 #[.agg #[.int .i64 next, .slice A n c], .int .i64 id] X (Ret X (.int .i64 (atV nds id)))) := Lib.hid fun X hX => refAt_any X hi next id A n c nds (h.below (hX.mono hh)) (Nat.le_trans hh hX.size) hR.rise hn4
    cases hix : ixOf nds id with
    | none =>
      have HX : Hid ((depthR next nds id : Int) = 0) := Lib.hid (by unfold depthR; rw [hix]; simp)
      have HAV := Lib.hid (atV_none hix)
      clear hrt h hix
      go_enter Try.func28, Try.ntmps28
      go_wp2_with (first | (go_at_call 49; go_must (refine HRi.out.mono ?_; rintro e w2 ⟨rfl, hb2⟩; rw [HV.out]; have HM2 := Lib.hid (HM0.out.after hb2); have a0 := (HM2.out.a.cell 0).trans (show _ = some (.int .i64 next) from rfl); have a1 := (HM2.out.a.cell 1).trans (show _ = some (.slice A n c) from rfl); clear hb2)) | (go_at_call 51; go_must (refine (HAt.out _ HM2.out.bel).mono ?_; rintro e w3 ⟨rfl, hb3⟩; rw [HAV.out]; clear a0 a1; have HM3 := Lib.hid (HM2.out.after hb3); have b0 := (HM3.out.a.cell 0).trans (show _ = some (.int .i64 next) from rfl); have b1 := (HM3.out.a.cell 1).trans (show _ = some (.slice A n c) from rfl); clear hb3)))
      go_ret
      exact ret_i HX.out rfl HM3.out.bel
    | some i =>
      have HX : Hid ((depthR next nds id : Int) = depthV nds id) := Lib.hid (by unfold depthR; rw [hrt, hix]; simp)
      have HAV := Lib.hid (atV_some hix)
      obtain ⟨nd, hgi, hie⟩ := ixOf_some hix
      have hnd : ndOf nds id = some nd := by unfold ndOf; rw [hix]; exact hgi
      have d0 : decide ((i : Int) < 0) = false := by rw [decide_eq_false_iff_not]; omega
      have HIn : Hid (∀ X, Below w.heap.size w X → Calls Try.prog 81 #[.agg #[.int .i64 next, .slice A n c], .int .i64 id] X (Ret X (.int .i64 (depthV nds id)))) := Lib.hid fun X hX => refDepth_any X hi next id A n c nds (h.below (hX.mono hh)) (Nat.le_trans hh hX.size) hR.rise hn4 _ (hR.depth hnd).1 (by have := (hR.depth hnd).2; omega)
      clear hrt h hix hgi hie hnd
      go_enter Try.func28, Try.ntmps28
      go_wp2_with (first | (go_at_call 49; go_must (refine HRi.out.mono ?_; rintro e w2 ⟨rfl, hb2⟩; rw [HV.out]; have HM2 := Lib.hid (HM0.out.after hb2); have a0 := (HM2.out.a.cell 0).trans (show _ = some (.int .i64 next) from rfl); have a1 := (HM2.out.a.cell 1).trans (show _ = some (.slice A n c) from rfl); clear hb2)) | (go_at_call 51; go_must (refine (HAt.out _ HM2.out.bel).mono ?_; rintro e w3 ⟨rfl, hb3⟩; rw [HAV.out]; clear a0 a1; have HM3 := Lib.hid (HM2.out.after hb3); have b0 := (HM3.out.a.cell 0).trans (show _ = some (.int .i64 next) from rfl); have b1 := (HM3.out.a.cell 1).trans (show _ = some (.slice A n c) from rfl); clear hb3)) | (go_at_call 81; go_must (refine (HIn.out _ HM3.out.bel).mono ?_; rintro e w4 ⟨rfl, hb4⟩; have HM4 := Lib.hid (HM3.out.after hb4); clear hb4)))
      go_ret
      exact ret_i HX.out rfl HM4.out.bel
end Go.Proofs.Ytmjkcbhkmkofjaa
