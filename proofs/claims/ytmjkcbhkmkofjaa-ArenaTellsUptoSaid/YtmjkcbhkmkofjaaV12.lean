/-
  WALKS: Find of the document.
-/
import Derived.Test.YtmjkcbhkmkofjaaV11
import Derived.Test.YtmjkcbhkmkofjaaV8
namespace Go.Proofs.Ytmjkcbhkmkofjaa
open Go Go.RowKit Go.Sort
set_option linter.unusedVariables false
attribute [local go_sem ↓] Go.wp_at_zero Go.wp_at_succ

def FindAt (w : World) (r : Nd × Bool) (e : Ending) (w' : World) : Prop := ∃ M : Leaf, e = .returned (.tuple #[.agg #[.int .i64 r.1.id, .string r.1.con, .int .i64 r.1.par, .string r.1.role, .slice M.p.A M.p.n M.p.c, .slice M.k.A M.k.n M.k.c, .slice M.r.A M.r.n M.r.c], .bool r.2]) ∧ LeafIn w' 0 w'.heap.size r.1 M ∧ Below w.heap.size w w'
theorem FB.lay' {w X : World} {next : Int} {A : Option Addr} {n c : Nat} (h : FB w next A n c X) (u0 u1 u2 u3 u4 u5 u6 : Value) :
    Below w.heap.size w (((((((X.setCell ⟨w.heap.size + 1, 0, none⟩ u0).setCell ⟨w.heap.size + 1, 1, none⟩ u1).setCell ⟨w.heap.size + 1, 2, none⟩ u2).setCell ⟨w.heap.size + 1, 3, none⟩ u3).setCell ⟨w.heap.size + 1, 4, none⟩ u4).setCell ⟨w.heap.size + 1, 5, none⟩ u5).setCell ⟨w.heap.size + 1, 6, none⟩ u6) :=
  (((((((h.set 0 u0).set 1 u1).set 2 u2).set 3 u3).set 4 u4).set 5 u5).set 6 u6).bel

set_option maxRecDepth 100000 in
set_option maxHeartbeats 1600000 in
theorem refFind_any (w : World) (hi : Nat) (next id : Int) (A : Option Addr) (n c : Nat) (nds : List Nd) (h : NodesIn w 0 hi A n c nds) (hh : hi ≤ w.heap.size) :
    Calls Try.prog 25 #[.agg #[.int .i64 next, .slice A n c], .int .i64 id] w (FindAt w (findV next nds id)) := by
  have hc := h.2.2.1
  have hnc := h.2.1
  unfold maxLen at hc
  have HM0 := Lib.hid (FB.start w next A n c)
  have HRi := Lib.hid (refRight_any _ hi next A n c nds (h.below (HM0.out.bel.mono hh)) (Nat.le_trans hh HM0.out.bel.size))
  cases hrt : rightB next nds with
  | false =>
    have HX : Hid (findV next nds id = (zeroNd, false)) := Lib.hid (by unfold findV; rw [hrt]; rfl)
    have HV := Lib.hid hrt
    clear hrt h
    go_enter Try.func25, Try.ntmps25
    go_wp2_with (go_at_call 49; go_must (refine HRi.out.mono ?_; rintro e w2 ⟨rfl, hb2⟩; rw [HV.out]; have HM2 := Lib.hid (HM0.out.after hb2); have a0 := (HM2.out.m.cell 0).trans (show _ = some (.int .i64 next) from rfl); have a1 := (HM2.out.m.cell 1).trans (show _ = some (.slice A n c) from rfl); obtain ⟨⟨u0, z0⟩, y0⟩ := HM2.out.room 0 (by omega); obtain ⟨⟨u1, z1⟩, y1⟩ := HM2.out.room 1 (by omega); obtain ⟨⟨u2, z2⟩, y2⟩ := HM2.out.room 2 (by omega); obtain ⟨⟨u3, z3⟩, y3⟩ := HM2.out.room 3 (by omega); obtain ⟨⟨u4, z4⟩, y4⟩ := HM2.out.room 4 (by omega); obtain ⟨⟨u5, z5⟩, y5⟩ := HM2.out.room 5 (by omega); obtain ⟨⟨u6, z6⟩, y6⟩ := HM2.out.room 6 (by omega); clear hb2))
    (try rw [Exit.noGoto_ret])
    (try simp only [Exit.inBlock, Exit.then])
    have hres : Try.f25.results = #[.cell 4 51, .tmp 5] := by kernel_rfl
    refine bodyPost_ret (v := .tuple #[.agg #[.int .i64 0, .string ⟨#[]⟩, .int .i64 0, .string ⟨#[]⟩, .slice none 0 0, .slice none 0 0, .slice none 0 0], .bool false]) ?hr rfl ?_
    case hr =>
      simp only [results, hres]
      go_simp
    rw [HX.out]
    exact ⟨nilLeaf, rfl, (leafZ _ 0).leafIn, HM2.out.lay' (.int .i64 0) (.string ⟨#[]⟩) (.int .i64 0) (.string ⟨#[]⟩) (.slice none 0 0) (.slice none 0 0) (.slice none 0 0)⟩
  | true =>
    have hR := rightM hrt
    have hn4 : n ≤ 4096 := by rw [← h.1]; exact hR.len
    have HV := Lib.hid hrt
    have HAt : Hid (∀ X, Below w.heap.size w X → Calls Try.prog 51 #[.agg #[.int .i64 next, .slice A n c], .int .i64 id] X (Ret X (.int .i64 (atV nds id)))) := Lib.hid fun X hX => refAt_any X hi next id A n c nds (h.below (hX.mono hh)) (Nat.le_trans hh hX.size) hR.rise hn4
    cases hix : ixOf nds id with
    | none =>
      have HX : Hid (findV next nds id = (zeroNd, false)) := Lib.hid (by unfold findV; rw [hix]; simp)
      have HAV := Lib.hid (atV_none hix)
      clear hrt h hix
      go_enter Try.func25, Try.ntmps25
      go_wp2_with (first | (go_at_call 49; go_must (refine HRi.out.mono ?_; rintro e w2 ⟨rfl, hb2⟩; rw [HV.out]; have HM2 := Lib.hid (HM0.out.after hb2); have a0 := (HM2.out.m.cell 0).trans (show _ = some (.int .i64 next) from rfl); have a1 := (HM2.out.m.cell 1).trans (show _ = some (.slice A n c) from rfl); clear hb2)) | (go_at_call 51; go_must (refine (HAt.out _ HM2.out.bel).mono ?_; rintro e w3 ⟨rfl, hb3⟩; rw [HAV.out]; clear a0 a1; have HM3 := Lib.hid (HM2.out.after hb3); have b0 := (HM3.out.m.cell 0).trans (show _ = some (.int .i64 next) from rfl); have b1 := (HM3.out.m.cell 1).trans (show _ = some (.slice A n c) from rfl); obtain ⟨⟨u0, z0⟩, y0⟩ := HM3.out.room 0 (by omega); obtain ⟨⟨u1, z1⟩, y1⟩ := HM3.out.room 1 (by omega); obtain ⟨⟨u2, z2⟩, y2⟩ := HM3.out.room 2 (by omega); obtain ⟨⟨u3, z3⟩, y3⟩ := HM3.out.room 3 (by omega); obtain ⟨⟨u4, z4⟩, y4⟩ := HM3.out.room 4 (by omega); obtain ⟨⟨u5, z5⟩, y5⟩ := HM3.out.room 5 (by omega); obtain ⟨⟨u6, z6⟩, y6⟩ := HM3.out.room 6 (by omega); clear hb3)))
      (try rw [Exit.noGoto_ret])
      (try simp only [Exit.inBlock, Exit.then])
      have hres : Try.f25.results = #[.cell 4 51, .tmp 5] := by kernel_rfl
      refine bodyPost_ret (v := .tuple #[.agg #[.int .i64 0, .string ⟨#[]⟩, .int .i64 0, .string ⟨#[]⟩, .slice none 0 0, .slice none 0 0, .slice none 0 0], .bool false]) ?hr2 rfl ?_
      case hr2 =>
        simp only [results, hres]
        go_simp
      rw [HX.out]
      exact ⟨nilLeaf, rfl, (leafZ _ 0).leafIn, HM3.out.lay' (.int .i64 0) (.string ⟨#[]⟩) (.int .i64 0) (.string ⟨#[]⟩) (.slice none 0 0) (.slice none 0 0) (.slice none 0 0)⟩
    | some i =>
      have HAV := Lib.hid (atV_some hix)
      have d0 : decide ((i : Int) < 0) = false := by rw [decide_eq_false_iff_not]; omega
      obtain ⟨nd, hgi, hie⟩ := ixOf_some hix
      have hnd : ndOf nds id = some nd := by unfold ndOf; rw [hix]; exact hgi
      have HX : Hid (findV next nds id = (nd, true)) := Lib.hid (by unfold findV; rw [hrt, hix, hnd]; simp)
      have hin := ixOf_lt hix
      rw [h.1] at hin
      obtain ⟨b, o, hA, _, hb, V, hV⟩ := h.all (by omega)
      have hat := (hV i nd hgi).1
      have hlf := (hV i nd hgi).2
      generalize V i = L at hat hlf
      subst hA
      have HLF : Hid (∀ X, Below w.heap.size w X → LeafIn X 0 X.heap.size nd L) := Lib.hid fun X hX => (hlf.below (hX.mono hh)).mono (Nat.le_refl _) (Nat.le_trans hh hX.size)
      have HATn : Hid (∀ X, Below w.heap.size w X → NodeAt X b (o + i * 7) nd L) := Lib.hid fun X hX => hat.below (hX.mono hh) hb
      obtain ⟨⟨Ap, np, cp⟩, ⟨Ak, nk, ck⟩, ⟨Ar, nr, cr⟩⟩ := L
      have HSof : Hid (∀ X, FB w next (some ⟨b, o, none⟩) n c X → X.cell? ⟨w.heap.size, 0, none⟩ = some (.int .i64 next) ∧ X.cell? ⟨w.heap.size, 1, none⟩ = some (.slice (some ⟨b, o, none⟩) n c) ∧ X.cell? ⟨b, o + i * 7, none⟩ = some (.int .i64 nd.id) ∧ X.cell? ⟨b, o + i * 7 + 1, none⟩ = some (.string nd.con) ∧ X.cell? ⟨b, o + i * 7 + 2, none⟩ = some (.int .i64 nd.par) ∧ X.cell? ⟨b, o + i * 7 + 3, none⟩ = some (.string nd.role) ∧ X.cell? ⟨b, o + i * 7 + 4, none⟩ = some (.slice Ap np cp) ∧ X.cell? ⟨b, o + i * 7 + 5, none⟩ = some (.slice Ak nk ck) ∧ X.cell? ⟨b, o + i * 7 + 6, none⟩ = some (.slice Ar nr cr)) := Lib.hid fun X hX => by
        have hq := HATn.out X hX.bel
        exact ⟨(hX.m.cell 0).trans rfl, (hX.m.cell 1).trans rfl, hq.c0, hq.c1, hq.c2, hq.c3, hq.c4, hq.c5, hq.c6⟩
      clear hrt h hix hgi hie hnd hat hlf hV HATn
      go_enter Try.func25, Try.ntmps25
      go_upto_region 3 with (first | (go_at_call 49; go_must (refine HRi.out.mono ?_; rintro e w2 ⟨rfl, hb2⟩; rw [HV.out]; have HM2 := Lib.hid (HM0.out.after hb2); have a0 := (HM2.out.m.cell 0).trans (show _ = some (.int .i64 next) from rfl); have a1 := (HM2.out.m.cell 1).trans (show _ = some (.slice (some ⟨b, o, none⟩) n c) from rfl); clear hb2)) | (go_at_call 51; go_must (refine (HAt.out _ HM2.out.bel).mono ?_; rintro e w3 ⟨rfl, hb3⟩; rw [HAV.out]; clear a0 a1; have HM3 := Lib.hid (HM2.out.after hb3); have b0 := (HM3.out.m.cell 0).trans (show _ = some (.int .i64 next) from rfl); have b1 := (HM3.out.m.cell 1).trans (show _ = some (.slice (some ⟨b, o, none⟩) n c) from rfl); clear hb3)))
      clear b0 b1
      have HM4 := Lib.hid (HM3.out.after (below_drew1 _))
      refine wp_region_held_tail 7 (fun w' => w'.cell? ⟨w.heap.size, 0, none⟩ = some (.int .i64 next) ∧ w'.cell? ⟨w.heap.size, 1, none⟩ = some (.slice (some ⟨b, o, none⟩) n c) ∧ w'.cell? ⟨b, o + i * 7, none⟩ = some (.int .i64 nd.id) ∧ w'.cell? ⟨b, o + i * 7 + 1, none⟩ = some (.string nd.con) ∧ w'.cell? ⟨b, o + i * 7 + 2, none⟩ = some (.int .i64 nd.par) ∧ w'.cell? ⟨b, o + i * 7 + 3, none⟩ = some (.string nd.role) ∧ w'.cell? ⟨b, o + i * 7 + 4, none⟩ = some (.slice Ap np cp) ∧ w'.cell? ⟨b, o + i * 7 + 5, none⟩ = some (.slice Ak nk ck) ∧ w'.cell? ⟨b, o + i * 7 + 6, none⟩ = some (.slice Ar nr cr)) (by kernel_rfl) (by kernel_rfl) ?hSt (fun hHeld => ?qt0)
      case hSt => exact HSof.out _ HM4.out
      case qt0 =>
        simp only [List.take_succ_cons, List.take_zero, List.drop_succ_cons, List.drop_zero]
        refine wpAnyH_take (i := 0) (v := (.pointer (some ⟨w.heap.size, 1, none⟩))) rfl (by kernel_rfl) (by kernel_rfl) (by kernel_rfl) (fun _ _ _ h => h) (Or.inl ⟨by rfl, ?yt_1⟩) (by assumption) ?qt_1
        case yt_1 => (intro w hSw; (try dsimp only at hSw); go_simp)
        case qt_1 =>
          (try simp only [Act.put]); (try simp only [List.setIfInBounds_toArray])
          refine wpAnyH_take (i := 1) (v := (.slice (some ⟨b, o, none⟩) n c)) rfl (by kernel_rfl) (by kernel_rfl) (by kernel_rfl) (fun _ _ _ h => h) (Or.inl ⟨by rfl, ?yt_2⟩) (by assumption) ?qt_2
          case yt_2 => (intro w hSw; (try dsimp only at hSw); go_simp)
          case qt_2 =>
            (try simp only [Act.put]); (try simp only [List.setIfInBounds_toArray])
            refine wpAnyH_take (i := 2) (v := (.agg #[.int .i64 next, .slice (some ⟨b, o, none⟩) n c])) rfl (by kernel_rfl) (by kernel_rfl) (by kernel_rfl) (fun _ _ _ h => h) (Or.inl ⟨by rfl, ?yt_3⟩) (by assumption) ?qt_3
            case yt_3 => (intro w hSw; (try dsimp only at hSw); go_simp)
            case qt_3 =>
              (try simp only [Act.put]); (try simp only [List.setIfInBounds_toArray])
              refine wpAnyH_take (i := 3) (v := (.int .i64 id)) rfl (by kernel_rfl) (by kernel_rfl) (by kernel_rfl) (fun _ _ _ h => h) (Or.inl ⟨by rfl, ?yt_4⟩) (by assumption) ?qt_4
              case yt_4 => (intro w hSw; (try dsimp only at hSw); go_simp)
              case qt_4 =>
                (try simp only [Act.put]); (try simp only [List.setIfInBounds_toArray])
                refine wpAnyH_ready (rs := [4]) (by kernel_rfl) (by simp) ?_
                refine AllReadyH.cons rfl (fun K hK => ?st_5) ?mt_5
                case st_5 =>
                  (refine step_call _ (by rfl) 51 #[.agg #[.int .i64 next, .slice (some ⟨b, o, none⟩) n c], .int .i64 id] (by go_simp) (HAt.out _ HM4.out.bel) ?_; rintro e Y ⟨rfl, hbd⟩; rw [HAV.out]; refine ⟨_, rfl, ?_⟩; have HMY := Lib.hid (HM4.out.after hbd); clear hbd)
                  refine hK.out _ _ ?kt_5 (fun hHeld => ?qt_5)
                  case kt_5 => ((try dsimp only); first | exact HSof.out _ HMY.out | exact HSof.out _ HM4.out)
                  case qt_5 =>
                    clear hK K
                    (try simp only [Act.put]); (try simp only [List.setIfInBounds_toArray])
                    refine wpAnyH_take (i := 5) (v := (.pointer (some ⟨b, o + i * 7, none⟩))) rfl (by kernel_rfl) (by kernel_rfl) (by kernel_rfl) (fun _ _ _ h => h) (Or.inl ⟨by rfl, ?yt_6⟩) (by assumption) ?qt_6
                    case yt_6 => (intro w hSw; (try dsimp only at hSw); go_simp)
                    case qt_6 =>
                      (try simp only [Act.put]); (try simp only [List.setIfInBounds_toArray])
                      refine wpAnyH_take (i := 6) (v := (.agg #[.int .i64 nd.id, .string nd.con, .int .i64 nd.par, .string nd.role, .slice Ap np cp, .slice Ak nk ck, .slice Ar nr cr])) rfl (by kernel_rfl) (by kernel_rfl) (by kernel_rfl) (fun _ _ _ h => h) (Or.inl ⟨by rfl, ?yt_7⟩) (by assumption) ?qt_7
                      case yt_7 => (intro w hSw; (try dsimp only at hSw); go_simp)
                      case qt_7 =>
                        (try simp only [Act.put]); (try simp only [List.setIfInBounds_toArray])
                        refine wpAnyH_done (by kernel_rfl) ?_ _
                        clear hHeld
                        obtain ⟨⟨u0, z0⟩, y0⟩ := HMY.out.room 0 (by omega)
                        obtain ⟨⟨u1, z1⟩, y1⟩ := HMY.out.room 1 (by omega)
                        obtain ⟨⟨u2, z2⟩, y2⟩ := HMY.out.room 2 (by omega)
                        obtain ⟨⟨u3, z3⟩, y3⟩ := HMY.out.room 3 (by omega)
                        obtain ⟨⟨u4, z4⟩, y4⟩ := HMY.out.room 4 (by omega)
                        obtain ⟨⟨u5, z5⟩, y5⟩ := HMY.out.room 5 (by omega)
                        obtain ⟨⟨u6, z6⟩, y6⟩ := HMY.out.room 6 (by omega)
                        show wpList _ _ _ _ _ _
                        go_wp2_with fail
                        (try rw [Exit.noGoto_ret])
                        (try simp only [Exit.inBlock, Exit.then])
                        have hres : Try.f25.results = #[.cell 4 51, .tmp 5] := by kernel_rfl
                        refine bodyPost_ret (v := .tuple #[.agg #[.int .i64 nd.id, .string nd.con, .int .i64 nd.par, .string nd.role, .slice Ap np cp, .slice Ak nk ck, .slice Ar nr cr], .bool true]) ?hr3 rfl ?_
                        case hr3 =>
                          simp only [results, hres]
                          go_simp
                        rw [HX.out]
                        have hE := HMY.out.lay' (.int .i64 nd.id) (.string nd.con) (.int .i64 nd.par) (.string nd.role) (.slice Ap np cp) (.slice Ak nk ck) (.slice Ar nr cr)
                        exact ⟨⟨⟨Ap, np, cp⟩, ⟨Ak, nk, ck⟩, ⟨Ar, nr, cr⟩⟩, rfl, HLF.out _ hE, hE⟩
                case mt_5 =>
                  exact AllReadyH.nil
end Go.Proofs.Ytmjkcbhkmkofjaa
