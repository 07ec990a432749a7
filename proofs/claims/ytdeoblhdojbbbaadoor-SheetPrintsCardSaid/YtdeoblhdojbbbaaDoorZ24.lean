/-
  WALKS: the document's: document order; what is below a node, its kids in a role, how deep it stands.
  WALKS: the document's: what is below a node, its kids in a role, how deep it stands.
  WALKS: Find of the program.
  WALKS: Find of the document.
-/
import Derived.Test.YtdeoblhdojbbbaaDoorZ23
namespace Go.Proofs.YtdeoblhdojbbbaaDoor
open Go Go.RowKit Go.Sort
set_option linter.unusedVariables false
attribute [local go_sem ↓] Go.wp_at_zero Go.wp_at_succ
theorem KW.pushL {w X X' : World} {next : Int} {A : Option Addr} {n c : Nat} {ov : Value} {l m : List Int} {v' : Value} (h : KW w next A n c ov l X) (hg : X.grownBy X' ov.ownBlock) (hown : X'.ownsRow w.heap.size 3 1 v' (l.length + m.length) (intCells l ++ intCells m)) : KW w next A n c v' (l ++ m) X' := by
  refine ⟨⟨h.m.a.grown hg (Ne.symm (own_blk_ne h.own h.m.a (by decide))), below_grows h.m.bel hg h.own (Nat.le_refl _)⟩, ?_⟩
  rw [List.length_append, show intCells (l ++ m) = intCells l ++ intCells m from by simp [intCells]]
  exact hown
theorem roots_pre (nds : List Nd) (j : Nat) : ((rootsV (nds.take j)).flatMap (preI nds)).length ≤ (orderV nds).length := by
  unfold orderV
  have e : rootsV nds = rootsV (nds.take j) ++ rootsV (nds.drop j) := by
    unfold rootsV
    rw [← List.map_append, ← List.filter_append, List.take_append_drop]
  rw [e, List.flatMap_append, List.length_append]
  omega
theorem atV_some {nds : List Nd} {id : Int} {i : Nat} (h : ixOf nds id = some i) : atV nds id = i := by unfold atV; rw [h]
theorem atV_none {nds : List Nd} {id : Int} (h : ixOf nds id = none) : atV nds id = -1 := by unfold atV; rw [h]
set_option maxRecDepth 100000 in
set_option maxHeartbeats 800000 in
theorem refOrder_any (w : World) (hi : Nat) (next : Int) (A : Option Addr) (n c : Nat) (nds : List Nd) (h : NodesIn w 0 hi A n c nds) (hh : hi ≤ w.heap.size) :
    Calls Tryd.prog 19 #[.agg #[.int .i64 next, .slice A n c]] w (ListR w (orderR next nds)) := by
  have hc := h.2.2.1
  have hnc := h.2.1
  unfold maxLen at hc
  have HM0 := Lib.hid (M1.start w next A n c)
  have HRi := Lib.hid (refRight_any _ hi next A n c nds (h.below (HM0.out.bel.mono hh)) (Nat.le_trans hh HM0.out.bel.size))
  cases hrt : rightB next nds with
  | false =>
    have HX : Hid (orderR next nds = []) := Lib.hid (by unfold orderR; rw [hrt]; rfl)
    have HV := Lib.hid hrt
    clear hrt h
    go_enter Tryd.func19, Tryd.ntmps19
    go_wp2_with (go_at_call 17; go_must (refine HRi.out.mono ?_; rintro e w2 ⟨rfl, hb2⟩; rw [HV.out]; have HM2 := Lib.hid (HM0.out.after hb2); have a0 := (HM2.out.a.cell 0).trans (show _ = some (.int .i64 next) from rfl); have a1 := (HM2.out.a.cell 1).trans (show _ = some (.slice A n c) from rfl); clear hb2))
    go_ret
    rw [HX.out]
    exact listR_nil rfl HM2.out.bel
  | true =>
    have hR := rightM hrt
    have hn4 : n ≤ 4096 := by rw [← h.1]; exact hR.len
    have HOL := order_len hR
    rw [h.1] at HOL
    have HL := Lib.hid h.1
    have HX : Hid (orderR next nds = orderV nds) := Lib.hid (by unfold orderR; rw [hrt]; rfl)
    have HV := Lib.hid hrt
    rw [HX.out]
    obtain ⟨i0, hi0, hz0, hz1, hz2⟩ := info_parts intInfo
    have HDo : Hid (∀ X, Below w.heap.size w X → ∀ y nd, ndOf nds y = some nd → Calls Tryd.prog 38 #[.agg #[.int .i64 next, .slice A n c], .int .i64 y] X (ListR X (belowV nds y))) := Lib.hid fun X hX y nd hy => refDown_any X hi next y A n c nds (h.below (hX.mono hh)) (Nat.le_trans hh hX.size) hR nd hy
    clear hrt
    go_enter Tryd.func19, Tryd.ntmps19
    go_wp2_with (go_at_call 17; go_must (refine HRi.out.mono ?_; rintro e w2 ⟨rfl, hb2⟩; rw [HV.out]; have HM2 := Lib.hid (HM0.out.after hb2); have a0 := (HM2.out.a.cell 0).trans (show _ = some (.int .i64 next) from rfl); have a1 := (HM2.out.a.cell 1).trans (show _ = some (.slice A n c) from rfl); clear hb2))
    clear a0 a1
    go_loopw [3, 4] (fun ov v9 wr => ∃ (j : Nat), j ≤ n ∧ v9 = .int .i64 j ∧ KW w next A n c ov ((rootsV (nds.take j)).flatMap (preI nds)) wr) (fun _ v _ => n - (intOf v).toNat)
    case atStart => exact ⟨0, Nat.zero_le _, rfl, HM2.out, ⟨rfl, .inl ⟨rfl, rfl⟩⟩⟩
    case round =>
      clear HM2 HM0 HRi
      obtain ⟨j, hj, rfl, W⟩ := hrel
      obtain ⟨fl, hfl⟩ : ∃ fl, (rootsV (nds.take j)).flatMap (preI nds) = fl := ⟨_, rfl⟩
      rw [hfl] at W
      have HFL := Lib.hid hfl
      have HW := Lib.hid W
      clear W hfl
      rename World => wr
      have a1 := (HW.out.m.a.cell 1).trans (show _ = some (.slice A n c) from rfl)
      by_cases hlt : j < n
      · obtain ⟨b, o, hA, _, hb, V, hV⟩ := h.all (by omega)
        obtain ⟨nd, hnd⟩ : ∃ nd, nds[j]? = some nd := ⟨nds[j]'(by have := HL.out; omega), List.getElem?_eq_getElem _⟩
        have HC2 : Hid (∀ X, Below w.heap.size w X → X.cell? ⟨b, o + j * 7 + 2, none⟩ = some (.int .i64 nd.par) ∧ X.cell? ⟨b, o + j * 7, none⟩ = some (.int .i64 nd.id)) := Lib.hid fun X hX => ⟨(hX.cell (p := ⟨b, _, none⟩) (Nat.lt_of_lt_of_le hb hh)).trans (hV j nd hnd).1.c2, (hX.cell (p := ⟨b, _, none⟩) (Nat.lt_of_lt_of_le hb hh)).trans (hV j nd hnd).1.c0⟩
        have x2 := (HC2.out _ HW.out.m.bel).1
        have x0 := (HC2.out _ HW.out.m.bel).2
        subst hA
        have hrt := roots_take hnd
        have HRT := Lib.hid hrt
        have hND := ndOf_is hR.rise hnd
        have HND := Lib.hid hND
        have hpl := roots_pre nds (j + 1)
        clear hV hnd hrt hND
        cases d1 : (nd.par == 0) with
        | false =>
          have HN : Hid ((rootsV (nds.take (j + 1))).flatMap (preI nds) = fl) := Lib.hid (by rw [HRT.out, d1]; simpa using HFL.out)
          clear hpl
          go_wp2_with fail
          go_roundw
          case measure => simp only [intOf]; omega
          case rel => exact ⟨j + 1, by omega, by simp, by rw [HN.out]; exact HW.out⟩
        | true =>
          have HN : Hid ((rootsV (nds.take (j + 1))).flatMap (preI nds) = fl ++ [nd.id] ++ belowV nds nd.id) := Lib.hid (by rw [HRT.out, d1, if_pos rfl, List.flatMap_append, HFL.out]; simp [preI_eq hR HND.out, belowV, kidsV_of HND.out])
          rw [HN.out, List.length_append, List.length_append, List.length_singleton] at hpl
          have HDn : Hid (∀ X, Below w.heap.size w X → Calls Tryd.prog 38 #[.agg #[.int .i64 next, .slice (some ⟨b, o, none⟩) n c], .int .i64 nd.id] X (ListR X (belowV nds nd.id))) := Lib.hid fun X hX => HDo.out X hX nd.id nd HND.out
          go_upto_region 9 with (at_builtin; go_must (refine wpList_app _ rfl (.tmp 22) (.tmp 29) _ rfl w.heap.size 3 i0 _ 1 8 Tryd.underlying34 hi0 hz0 hz1 hz2 rfl (by omega) u3 fl.length (intCells fl) rfl (own_after HW.out.own (below_more (Below.refl _ _) _)) wr.heap.size (wr.heap.size + 1) (some ⟨wr.heap.size, 0, none⟩) 1 1 [.int .i64 nd.id] rfl (row_blk (n := 1) (Blk.new' rfl) rfl (Nat.le_refl _) (by unfold maxLen; omega)) (by simp [Value.oneCell']) (by unfold maxLen; omega) (by omega) (Nat.le_trans HW.out.m.bel.size (by simp)) ?_); go_must (intro v7 w7 hown7 hg7 _; obtain ⟨G7, cap7, rfl, hca7, hcb7⟩ := own_slice hown7; have HW7 := Lib.hid (((HW.out.after (below_more (Below.refl _ _) _)).push hg7 hown7).after (below_drew1 _)); clear hown7 hg7))
          have HSof : Hid (∀ X, M1 w next (some ⟨b, o, none⟩) n c X → X.cell? ⟨w.heap.size, 0, none⟩ = some (.int .i64 next) ∧ X.cell? ⟨w.heap.size, 1, none⟩ = some (.slice (some ⟨b, o, none⟩) n c) ∧ X.cell? ⟨b, o + j * 7, none⟩ = some (.int .i64 nd.id)) := Lib.hid fun X hX => ⟨(hX.a.cell 0).trans rfl, (hX.a.cell 1).trans rfl, (HC2.out _ hX.bel).2⟩
          clear a1 x2 x0
          refine wp_region_held_tail 10 (fun w' => w'.cell? ⟨w.heap.size, 0, none⟩ = some (.int .i64 next) ∧ w'.cell? ⟨w.heap.size, 1, none⟩ = some (.slice (some ⟨b, o, none⟩) n c) ∧ w'.cell? ⟨b, o + j * 7, none⟩ = some (.int .i64 nd.id)) (by kernel_rfl) (by kernel_rfl) ?hSt (fun hHeld => ?qt0)
          case hSt => exact HSof.out _ HW7.out.m
          case qt0 =>
            simp only [List.take_succ_cons, List.take_zero, List.drop_succ_cons, List.drop_zero]
            refine wpAnyH_take (i := 0) (v := (.slice (some ⟨G7, 0, none⟩) (fl.length + 1) cap7)) rfl (by kernel_rfl) (by kernel_rfl) (by kernel_rfl) (fun _ _ _ h => h) (Or.inl ⟨by rfl, ?yt_1⟩) (by assumption) ?qt_1
            case yt_1 => (intro w hSw; (try dsimp only at hSw); go_simp)
            case qt_1 =>
              (try simp only [Act.put]); (try simp only [List.setIfInBounds_toArray])
              refine wpAnyH_take (i := 1) (v := (.agg #[.int .i64 next, .slice (some ⟨b, o, none⟩) n c])) rfl (by kernel_rfl) (by kernel_rfl) (by kernel_rfl) (fun _ _ _ h => h) (Or.inl ⟨by rfl, ?yt_2⟩) (by assumption) ?qt_2
              case yt_2 => (intro w hSw; (try dsimp only at hSw); go_simp)
              case qt_2 =>
                (try simp only [Act.put]); (try simp only [List.setIfInBounds_toArray])
                refine wpAnyH_take (i := 2) (v := (.pointer (some ⟨w.heap.size, 1, none⟩))) rfl (by kernel_rfl) (by kernel_rfl) (by kernel_rfl) (fun _ _ _ h => h) (Or.inl ⟨by rfl, ?yt_3⟩) (by assumption) ?qt_3
                case yt_3 => (intro w hSw; (try dsimp only at hSw); go_simp)
                case qt_3 =>
                  (try simp only [Act.put]); (try simp only [List.setIfInBounds_toArray])
                  refine wpAnyH_take (i := 3) (v := (.slice (some ⟨b, o, none⟩) n c)) rfl (by kernel_rfl) (by kernel_rfl) (by kernel_rfl) (fun _ _ _ h => h) (Or.inl ⟨by rfl, ?yt_4⟩) (by assumption) ?qt_4
                  case yt_4 => (intro w hSw; (try dsimp only at hSw); go_simp)
                  case qt_4 =>
                    (try simp only [Act.put]); (try simp only [List.setIfInBounds_toArray])
                    refine wpAnyH_take (i := 4) (v := (.int .i64 j)) rfl (by kernel_rfl) (by kernel_rfl) (by kernel_rfl) (fun _ _ _ h => h) (Or.inl ⟨by rfl, ?yt_5⟩) (by assumption) ?qt_5
                    case yt_5 => (intro w hSw; (try dsimp only at hSw); go_simp)
                    case qt_5 =>
                      (try simp only [Act.put]); (try simp only [List.setIfInBounds_toArray])
                      refine wpAnyH_take (i := 5) (v := (.pointer (some ⟨b, o + j * 7, none⟩))) rfl (by kernel_rfl) (by kernel_rfl) (by kernel_rfl) (fun _ _ _ h => h) (Or.inl ⟨by rfl, ?yt_6⟩) (by assumption) ?qt_6
                      case yt_6 => (intro w hSw; (try dsimp only at hSw); go_simp)
                      case qt_6 =>
                        (try simp only [Act.put]); (try simp only [List.setIfInBounds_toArray])
                        refine wpAnyH_take (i := 6) (v := (.pointer (some ⟨b, o + j * 7, none⟩))) rfl (by kernel_rfl) (by kernel_rfl) (by kernel_rfl) (fun _ _ _ h => h) (Or.inl ⟨by rfl, ?yt_7⟩) (by assumption) ?qt_7
                        case yt_7 => (intro w hSw; (try dsimp only at hSw); go_simp)
                        case qt_7 =>
                          (try simp only [Act.put]); (try simp only [List.setIfInBounds_toArray])
                          refine wpAnyH_take (i := 7) (v := (.int .i64 nd.id)) rfl (by kernel_rfl) (by kernel_rfl) (by kernel_rfl) (fun _ _ _ h => h) (Or.inl ⟨by rfl, ?yt_8⟩) (by assumption) ?qt_8
                          case yt_8 => (intro w hSw; (try dsimp only at hSw); go_simp)
                          case qt_8 =>
                            (try simp only [Act.put]); (try simp only [List.setIfInBounds_toArray])
                            refine wpAnyH_ready (rs := [8]) (by kernel_rfl) (by simp) ?_
                            refine AllReadyH.cons rfl (fun K hK => ?st_9) ?mt_9
                            case st_9 =>
                              (refine step_call _ (by rfl) 38 #[.agg #[.int .i64 next, .slice (some ⟨b, o, none⟩) n c], .int .i64 nd.id] (by go_simp) (HDn.out _ HW7.out.m.bel) ?_; rintro e Y ⟨vd, rfl, hvd, hbd⟩; refine ⟨_, rfl, ?_⟩; obtain ⟨Ad, cd, rfl⟩ := own_form hvd; have HVD := Lib.hid hvd; have HWY := Lib.hid (HW7.out.after hbd); clear hvd hbd)
                              refine hK.out _ _ ?kt_9 (fun hHeld => ?qt_9)
                              case kt_9 => ((try dsimp only); first | exact HSof.out _ HW9.out.m | exact HSof.out _ HWY.out.m | exact HSof.out _ HW7.out.m)
                              case qt_9 =>
                                clear hK K
                                (try simp only [Act.put]); (try simp only [List.setIfInBounds_toArray])
                                refine wpAnyH_ready (rs := [9]) (by kernel_rfl) (by simp) ?_
                                refine AllReadyH.cons rfl (fun K hK => ?st_10) ?mt_10
                                case st_10 =>
                                  (refine step_app _ (by rfl) (.tmp 31) (.tmp 39) _ (by rfl) w.heap.size 3 i0 _ 1 8 Tryd.underlying34 hi0 hz0 hz1 hz2 rfl (by omega) (.slice (some ⟨G7, 0, none⟩) (fl.length + 1) cap7) (fl ++ [nd.id]).length (intCells (fl ++ [nd.id])) (by go_simp) HWY.out.own _ _ Ad (belowV nds nd.id).length cd (intCells (belowV nds nd.id)) (by go_simp) (own_row HVD.out) (intCells_one _) (by rw [List.length_append, List.length_singleton]; unfold maxLen; omega) (by rw [List.length_append, List.length_singleton]; omega) HWY.out.m.bel.size ?_; intro v9 w9 hown9 hg9 _; have HW9 := Lib.hid (HWY.out.pushL hg9 hown9); clear hown9 hg9)
                                  refine hK.out _ _ ?kt_10 (fun hHeld => ?qt_10)
                                  case kt_10 => ((try dsimp only); first | exact HSof.out _ HW9.out.m | exact HSof.out _ HWY.out.m | exact HSof.out _ HW7.out.m)
                                  case qt_10 =>
                                    clear hK K
                                    (try simp only [Act.put]); (try simp only [List.setIfInBounds_toArray])
                                    refine wpAnyH_done (by kernel_rfl) ?_ _
                                    clear hHeld
                                    obtain ⟨l9, hl9⟩ : ∃ l9, fl ++ [nd.id] ++ belowV nds nd.id = l9 := ⟨_, rfl⟩
                                    rw [hl9] at HW9 HN
                                    clear hl9
                                    obtain ⟨A9, c9, rfl⟩ := own_form HW9.out.own
                                    show wpList _ _ _ _ _ _
                                    go_wp2_with fail
                                    go_roundw
                                    case measure => simp only [intOf]; omega
                                    case rel => exact ⟨j + 1, by omega, by simp, by rw [HN.out]; exact HW9.out⟩
                                case mt_10 =>
                                  exact AllReadyH.nil
                            case mt_9 =>
                              exact AllReadyH.nil
      · have hjn : j = n := by omega
        subst hjn
        have hfin : fl = orderV nds := by rw [← HFL.out, List.take_of_length_le (by have := HL.out; omega)]; rfl
        subst hfin
        obtain ⟨Ao, co, rfl⟩ := own_form HW.out.own
        clear h
        go_wp2_with fail
        go_ret
        exact ⟨_, rfl, HW.out.own, HW.out.m.bel⟩
end Go.Proofs.YtdeoblhdojbbbaaDoor
namespace Go.Proofs.YtdeoblhdojbbbaaDoor
open Go Go.RowKit Go.Sort
set_option linter.unusedVariables false
attribute [local go_sem ↓] Go.wp_at_zero Go.wp_at_succ
set_option maxRecDepth 20000 in
set_option maxHeartbeats 1600000 in
theorem refDepthQ_any (w : World) (hi : Nat) (next id : Int) (A : Option Addr) (n c : Nat) (nds : List Nd) (h : NodesIn w 0 hi A n c nds) (hh : hi ≤ w.heap.size) :
    Calls Tryd.prog 21 #[.agg #[.int .i64 next, .slice A n c], .int .i64 id] w (Ret w (.int .i64 (depthR next nds id))) := by
  have HM0 := Lib.hid (M1.start w next A n c)
  have HRi := Lib.hid (refRight_any _ hi next A n c nds (h.below (HM0.out.bel.mono hh)) (Nat.le_trans hh HM0.out.bel.size))
  cases hrt : rightB next nds with
  | false =>
    have HX : Hid ((depthR next nds id : Int) = 0) := Lib.hid (by unfold depthR; rw [hrt]; rfl)
    have HV := Lib.hid hrt
    clear hrt h
    go_enter Tryd.func21, Tryd.ntmps21
    go_wp2_with (go_at_call 17; go_must (refine HRi.out.mono ?_; rintro e w2 ⟨rfl, hb2⟩; rw [HV.out]; have HM2 := Lib.hid (HM0.out.after hb2); have a0 := (HM2.out.a.cell 0).trans (show _ = some (.int .i64 next) from rfl); have a1 := (HM2.out.a.cell 1).trans (show _ = some (.slice A n c) from rfl); clear hb2))
    go_ret
    exact ret_i HX.out rfl HM2.out.bel
  | true =>
    have hR := rightM hrt
    have hn4 : n ≤ 4096 := by rw [← h.1]; exact hR.len
    have HV := Lib.hid hrt
    have HAt : Hid (∀ X, Below w.heap.size w X → Calls Tryd.prog 39 #[.agg #[.int .i64 next, .slice A n c], .int .i64 id] X (Ret X (.int .i64 (atV nds id)))) := Lib.hid fun X hX => refAt_any X hi next id A n c nds (h.below (hX.mono hh)) (Nat.le_trans hh hX.size) hR.rise hn4
    cases hix : ixOf nds id with
    | none =>
      have HX : Hid ((depthR next nds id : Int) = 0) := Lib.hid (by unfold depthR; rw [hix]; simp)
      have HAV := Lib.hid (atV_none hix)
      clear hrt h hix
      go_enter Tryd.func21, Tryd.ntmps21
      go_wp2_with (first | (go_at_call 17; go_must (refine HRi.out.mono ?_; rintro e w2 ⟨rfl, hb2⟩; rw [HV.out]; have HM2 := Lib.hid (HM0.out.after hb2); have a0 := (HM2.out.a.cell 0).trans (show _ = some (.int .i64 next) from rfl); have a1 := (HM2.out.a.cell 1).trans (show _ = some (.slice A n c) from rfl); clear hb2)) | (go_at_call 39; go_must (refine (HAt.out _ HM2.out.bel).mono ?_; rintro e w3 ⟨rfl, hb3⟩; rw [HAV.out]; clear a0 a1; have HM3 := Lib.hid (HM2.out.after hb3); have b0 := (HM3.out.a.cell 0).trans (show _ = some (.int .i64 next) from rfl); have b1 := (HM3.out.a.cell 1).trans (show _ = some (.slice A n c) from rfl); clear hb3)))
      go_ret
      exact ret_i HX.out rfl HM3.out.bel
    | some i =>
      have HX : Hid ((depthR next nds id : Int) = depthV nds id) := Lib.hid (by unfold depthR; rw [hrt, hix]; simp)
      have HAV := Lib.hid (atV_some hix)
      obtain ⟨nd, hgi, hie⟩ := ixOf_some hix
      have hnd : ndOf nds id = some nd := by unfold ndOf; rw [hix]; exact hgi
      have d0 : decide ((i : Int) < 0) = false := by rw [decide_eq_false_iff_not]; omega
      have HIn : Hid (∀ X, Below w.heap.size w X → Calls Tryd.prog 40 #[.agg #[.int .i64 next, .slice A n c], .int .i64 id] X (Ret X (.int .i64 (depthV nds id)))) := Lib.hid fun X hX => refDepth_any X hi next id A n c nds (h.below (hX.mono hh)) (Nat.le_trans hh hX.size) hR.rise hn4 _ (hR.depth hnd).1 (by have := (hR.depth hnd).2; omega)
      clear hrt h hix hgi hie hnd
      go_enter Tryd.func21, Tryd.ntmps21
      go_wp2_with (first | (go_at_call 17; go_must (refine HRi.out.mono ?_; rintro e w2 ⟨rfl, hb2⟩; rw [HV.out]; have HM2 := Lib.hid (HM0.out.after hb2); have a0 := (HM2.out.a.cell 0).trans (show _ = some (.int .i64 next) from rfl); have a1 := (HM2.out.a.cell 1).trans (show _ = some (.slice A n c) from rfl); clear hb2)) | (go_at_call 39; go_must (refine (HAt.out _ HM2.out.bel).mono ?_; rintro e w3 ⟨rfl, hb3⟩; rw [HAV.out]; clear a0 a1; have HM3 := Lib.hid (HM2.out.after hb3); have b0 := (HM3.out.a.cell 0).trans (show _ = some (.int .i64 next) from rfl); have b1 := (HM3.out.a.cell 1).trans (show _ = some (.slice A n c) from rfl); clear hb3)) | (go_at_call 40; go_must (refine (HIn.out _ HM3.out.bel).mono ?_; rintro e w4 ⟨rfl, hb4⟩; have HM4 := Lib.hid (HM3.out.after hb4); clear hb4)))
      go_ret
      exact ret_i HX.out rfl HM4.out.bel
end Go.Proofs.YtdeoblhdojbbbaaDoor
namespace Go.Proofs.YtdeoblhdojbbbaaDoor
open Go Go.RowKit Go.Sort
set_option linter.unusedVariables false
attribute [local go_sem ↓] Go.wp_at_zero Go.wp_at_succ
/-- the boxes of a model and of a node -/
structure FB (w : World) (next : Int) (A : Option Addr) (n c : Nat) (X : World) : Prop where
  m : Blk X w.heap.size 24 #[.int .i64 next, .slice A n c]
  r : ∃ cs, cs.size = 7 ∧ Blk X (w.heap.size + 1) 37 cs
  bel : Below w.heap.size w X
section
variable {w X X' : World} {next : Int} {A : Option Addr} {n c : Nat}
theorem FB.start (w : World) (next : Int) (A : Option Addr) (n c : Nat) : FB w next A n c ((w.alloc (.cells #[.int .i64 next, .slice A n c] 24)).alloc (.cells #[.int .i64 0, .string ⟨#[]⟩, .int .i64 0, .string ⟨#[]⟩, .slice none 0 0, .slice none 0 0, .slice none 0 0] 37)) :=
  ⟨(Blk.new _ _ _).alloc _, ⟨_, by simp, Blk.new' (by simp)⟩, below_more (below_more (Below.refl _ _) _) _⟩
theorem FB.after (h : FB w next A n c X) (hb : Below X.heap.size X X') : FB w next A n c X' := by
  obtain ⟨h1, ⟨cs, h0, h2⟩, h3⟩ := h
  exact ⟨h1.after hb, ⟨cs, h0, h2.after hb⟩, h3.trans (hb.mono h3.size)⟩
theorem FB.room (h : FB w next A n c X) (j : Nat) (hj : j < 7) : (∃ u, X.cell? ⟨w.heap.size + 1, j, none⟩ = some u) ∧ X.frozen? ⟨w.heap.size + 1, j, none⟩ = false := by
  obtain ⟨h1, ⟨cs, h0, h2⟩, h3⟩ := h
  exact ⟨⟨cs[j]'(by omega), (h2.cell j).trans (Array.getElem?_eq_getElem (by omega))⟩, h2.frozen j⟩
theorem FB.set (h : FB w next A n c X) (i : Nat) (u : Value) : FB w next A n c (X.setCell ⟨w.heap.size + 1, i, none⟩ u) := by
  obtain ⟨h1, ⟨cs, h0, h2⟩, h3⟩ := h
  exact ⟨h1.far (p := ⟨w.heap.size + 1, i, none⟩) (by simp) u, ⟨_, by simpa using h0, h2.set_ i u⟩, h3.setCell (p := ⟨w.heap.size + 1, i, none⟩) (by simp) u⟩
theorem FB.leaf (h : FB w next A n c X) {nd : Nd} {M : Leaf} (hl : OwnLeaf X w.heap.size nd M) (i : Nat) (u : Value) : OwnLeaf (X.setCell ⟨w.heap.size + 1, i, none⟩ u) w.heap.size nd M := by
  obtain ⟨h1, ⟨cs, h0, h2⟩, h3⟩ := h
  exact hl.other h2 (by decide) (by decide) (by decide) i u
/-- a node is laid into the box -/
theorem FB.lay (h : FB w next A n c X) {nd : Nd} {M : Leaf} (hl : OwnLeaf X w.heap.size nd M) (u0 u1 u2 u3 u4 u5 u6 : Value) :
    OwnLeaf (((((((X.setCell ⟨w.heap.size + 1, 0, none⟩ u0).setCell ⟨w.heap.size + 1, 1, none⟩ u1).setCell ⟨w.heap.size + 1, 2, none⟩ u2).setCell ⟨w.heap.size + 1, 3, none⟩ u3).setCell ⟨w.heap.size + 1, 4, none⟩ u4).setCell ⟨w.heap.size + 1, 5, none⟩ u5).setCell ⟨w.heap.size + 1, 6, none⟩ u6) w.heap.size nd M ∧
    Below w.heap.size w (((((((X.setCell ⟨w.heap.size + 1, 0, none⟩ u0).setCell ⟨w.heap.size + 1, 1, none⟩ u1).setCell ⟨w.heap.size + 1, 2, none⟩ u2).setCell ⟨w.heap.size + 1, 3, none⟩ u3).setCell ⟨w.heap.size + 1, 4, none⟩ u4).setCell ⟨w.heap.size + 1, 5, none⟩ u5).setCell ⟨w.heap.size + 1, 6, none⟩ u6) :=
  ⟨((((((h.set 0 u0).set 1 u1).set 2 u2).set 3 u3).set 4 u4).set 5 u5).leaf ((((((h.set 0 u0).set 1 u1).set 2 u2).set 3 u3).set 4 u4).leaf (((((h.set 0 u0).set 1 u1).set 2 u2).set 3 u3).leaf ((((h.set 0 u0).set 1 u1).set 2 u2).leaf (((h.set 0 u0).set 1 u1).leaf ((h.set 0 u0).leaf (h.leaf hl 0 u0) 1 u1) 2 u2) 3 u3) 4 u4) 5 u5) 6 u6,
    (((((((h.set 0 u0).set 1 u1).set 2 u2).set 3 u3).set 4 u4).set 5 u5).set 6 u6).bel⟩
end
end Go.Proofs.YtdeoblhdojbbbaaDoor
namespace Go.Proofs.YtdeoblhdojbbbaaDoor
open Go Go.RowKit Go.Sort
set_option linter.unusedVariables false
attribute [local go_sem ↓] Go.wp_at_zero Go.wp_at_succ
theorem FB.lay' {w X : World} {next : Int} {A : Option Addr} {n c : Nat} (h : FB w next A n c X) (u0 u1 u2 u3 u4 u5 u6 : Value) :
    Below w.heap.size w (((((((X.setCell ⟨w.heap.size + 1, 0, none⟩ u0).setCell ⟨w.heap.size + 1, 1, none⟩ u1).setCell ⟨w.heap.size + 1, 2, none⟩ u2).setCell ⟨w.heap.size + 1, 3, none⟩ u3).setCell ⟨w.heap.size + 1, 4, none⟩ u4).setCell ⟨w.heap.size + 1, 5, none⟩ u5).setCell ⟨w.heap.size + 1, 6, none⟩ u6) :=
  (((((((h.set 0 u0).set 1 u1).set 2 u2).set 3 u3).set 4 u4).set 5 u5).set 6 u6).bel
end Go.Proofs.YtdeoblhdojbbbaaDoor
