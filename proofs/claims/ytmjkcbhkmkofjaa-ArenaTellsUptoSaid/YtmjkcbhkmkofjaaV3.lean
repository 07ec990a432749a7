/-
  WALKS: the closures that list the nodes at which they are called.
-/
import Derived.Test.YtmjkcbhkmkofjaaV2
namespace Go.Proofs.Ytmjkcbhkmkofjaa
open Go Go.RowKit Go.Sort
set_option linter.unusedVariables false
attribute [local go_sem ↓] Go.wp_at_zero Go.wp_at_succ

/-- a box with a list of numbers that grows -/
structure IE (w0 : World) (g0 : Nat) (ov : Value) (X : World) : Prop where
  gr : w0.grownBy X (some g0)
  bx : Blk X g0 48 #[ov]
structure IW (w0 : World) (g0 : Nat) (ov : Value) (r : List Int) (X : World) : Prop where
  e : IE w0 g0 ov X
  own : X.ownsRow w0.heap.size 3 1 ov r.length (intCells r)
def IdsInv (w0 : World) (g0 : Nat) (r : List Int) (X : World) : Prop := ∃ ov, IW w0 g0 ov r X
section
variable {w0 X X' : World} {g0 : Nat} {ov : Value} {r : List Int}
theorem own_base {w : World} {B size n : Nat} {e : TypeId} {v : Value} {xs : List Value} (h : w.ownsRow B e size v n xs) {g : Nat} (hg : v.ownBlock = some g) : B ≤ g := by
  rcases h.2 with ⟨rfl, _⟩ | ⟨g', cap, cur, rfl, hb, _⟩
  · simp [Value.ownBlock] at hg
  · have : g' = g := by simpa [Value.ownBlock] using hg
    omega
theorem IE.after (h : IE w0 g0 ov X) (hb : Below X.heap.size X X') : IE w0 g0 ov X' :=
  ⟨⟨hb.os.trans h.gr.os, hb.tape.trans h.gr.tape, hb.output.trans h.gr.output, Nat.le_trans h.gr.size hb.size, fun k hk hne => (hb.block k (Nat.lt_of_lt_of_le hk h.gr.size)).trans (h.gr.block k hk hne)⟩, h.bx.after hb⟩
theorem IW.after (h : IW w0 g0 ov r X) (hb : Below X.heap.size X X') : IW w0 g0 ov r X' := ⟨h.e.after hb, own_after h.own hb⟩
theorem IdsInv.after (h : IdsInv w0 g0 r X) (hb : Below X.heap.size X X') : IdsInv w0 g0 r X' := by
  obtain ⟨ov, h⟩ := h
  exact ⟨ov, h.after hb⟩
theorem IE.kept (h : IE w0 g0 ov X) (hown : X.ownsRow w0.heap.size 3 1 ov r.length (intCells r)) (hg : X.grownBy X' ov.ownBlock) : IE w0 g0 ov X' :=
  ⟨⟨hg.os.trans h.gr.os, hg.tape.trans h.gr.tape, hg.output.trans h.gr.output, Nat.le_trans h.gr.size hg.size, fun k hk hne =>
    (hg.block k (Nat.lt_of_lt_of_le hk h.gr.size) (fun e => by have := own_base hown e.symm; omega)).trans (h.gr.block k hk hne)⟩, h.bx.grown hg (Ne.symm (own_blk_ne hown h.bx (by decide)))⟩
theorem IW.push {x : Int} {v' : Value} (h : IW w0 g0 ov r X) (hg : X.grownBy X' ov.ownBlock) (hown : X'.ownsRow w0.heap.size 3 1 v' (r.length + 1) (intCells r ++ [.int .i64 x])) : IW w0 g0 v' (r ++ [x]) (X'.setCell ⟨g0, 0, none⟩ v') := by
  have h1 := h.e.kept h.own hg
  refine ⟨⟨only_set h1.gr 0 v', h1.bx.set_ 0 v'⟩, ?_⟩
  rw [List.length_append, List.length_singleton, show intCells (r ++ [x]) = intCells r ++ [.int .i64 x] from by simp [intCells]]
  exact own_other hown h1.bx (by decide) 0 v'
theorem IW.keeps {v' : Value} (h : IW w0 g0 ov r X) (hg : X.grownBy X' ov.ownBlock) : Keeps X (X'.setCell ⟨g0, 0, none⟩ v') := by
  have h1 := h.e.kept h.own hg
  refine ⟨by simpa [World.setCell] using hg.size, fun g t cs ht1 ht2 hb => ?_⟩
  have h2 := hb.grown hg (Ne.symm (own_blk_ne h.own hb (Ne.symm ht1)))
  exact h2.far (p := ⟨g0, 0, none⟩) (h2.ne_ h1.bx ht2) _
theorem IW.start {w : World} (hg : w.heap.size = g0) : IdsInv (w.alloc (.cells #[.slice none 0 0] 48)) g0 [] (w.alloc (.cells #[.slice none 0 0] 48)) :=
  ⟨.slice none 0 0, ⟨⟨World.grownBy.refl _ _, Blk.new' hg.symm⟩, ⟨rfl, .inl ⟨rfl, rfl⟩⟩⟩⟩
end

set_option maxRecDepth 100000 in
set_option maxHeartbeats 3200000 in
theorem visitOrder_any (w0 X : World) (g0 b oi d : Nat) (id : Int) (r : List Int) (h : IdsInv w0 g0 r X) (hl : r.length < 4096) (hb : b < w0.heap.size) (hne : b ≠ g0) (hc : w0.cell? ⟨b, oi, none⟩ = some (.int .i64 id)) :
    Calls Try.prog 84 #[.pointer (some ⟨b, oi, none⟩), .int .i64 d, .pointer (some ⟨g0, 0, none⟩)] X fun e X' => e = .returned (.tuple #[]) ∧ IdsInv w0 g0 (r ++ [id]) X' ∧ Keeps X X' := by
  obtain ⟨ov, h⟩ := h
  have HX := Lib.hid (h.after (below_drew1 X))
  have HSof : Hid (∀ Y, IE w0 g0 ov Y → Y.cell? ⟨g0, 0, none⟩ = some ov ∧ Y.cell? ⟨b, oi, none⟩ = some (.int .i64 id)) := Lib.hid fun Y hY => ⟨(hY.bx.cell 0).trans rfl, (grown_cell hY.gr hb hne).trans hc⟩
  obtain ⟨i0, hi0, hz0, hz1, hz2⟩ := info_parts intInfo
  clear h hc
  go_enter Try.func84, Try.ntmps84
  go_upto_region 0 with (fail)
  refine wp_region_held_tail 7 (fun w' => w'.cell? ⟨g0, 0, none⟩ = some ov ∧ w'.cell? ⟨b, oi, none⟩ = some (.int .i64 id)) (by kernel_rfl) (by kernel_rfl) ?hSt (fun hHeld => ?qt0)
  case hSt => exact HSof.out _ HX.out.e
  case qt0 =>
    simp only [List.take_succ_cons, List.take_zero, List.drop_succ_cons, List.drop_zero]
    refine wpAnyH_take (i := 0) (v := ov) rfl (by kernel_rfl) (by kernel_rfl) (by kernel_rfl) (fun _ _ _ h => h) (Or.inl ⟨by rfl, ?yt_1⟩) (by assumption) ?qt_1
    case yt_1 => (intro w hSw; (try dsimp only at hSw); go_simp)
    case qt_1 =>
      (try simp only [Act.put]); (try simp only [List.setIfInBounds_toArray])
      refine wpAnyH_take (i := 1) (v := (.pointer (some ⟨b, oi, none⟩))) rfl (by kernel_rfl) (by kernel_rfl) (by kernel_rfl) (fun _ _ _ h => h) (Or.inl ⟨by rfl, ?yt_2⟩) (by assumption) ?qt_2
      case yt_2 => (intro w hSw; (try dsimp only at hSw); go_simp)
      case qt_2 =>
        (try simp only [Act.put]); (try simp only [List.setIfInBounds_toArray])
        refine wpAnyH_take (i := 2) (v := (.pointer (some ⟨b, oi, none⟩))) rfl (by kernel_rfl) (by kernel_rfl) (by kernel_rfl) (fun _ _ _ h => h) (Or.inl ⟨by rfl, ?yt_3⟩) (by assumption) ?qt_3
        case yt_3 => (intro w hSw; (try dsimp only at hSw); go_simp)
        case qt_3 =>
          (try simp only [Act.put]); (try simp only [List.setIfInBounds_toArray])
          refine wpAnyH_take (i := 3) (v := (.pointer (some ⟨b, oi, none⟩))) rfl (by kernel_rfl) (by kernel_rfl) (by kernel_rfl) (fun _ _ _ h => h) (Or.inl ⟨by rfl, ?yt_4⟩) (by assumption) ?qt_4
          case yt_4 => (intro w hSw; (try dsimp only at hSw); go_simp)
          case qt_4 =>
            (try simp only [Act.put]); (try simp only [List.setIfInBounds_toArray])
            refine wpAnyH_take (i := 4) (v := (.int .i64 id)) rfl (by kernel_rfl) (by kernel_rfl) (by kernel_rfl) (fun _ _ _ h => h) (Or.inl ⟨by rfl, ?yt_5⟩) (by assumption) ?qt_5
            case yt_5 => (intro w hSw; (try dsimp only at hSw); go_simp)
            case qt_5 =>
              (try simp only [Act.put]); (try simp only [List.setIfInBounds_toArray])
              refine wpAnyH_ready (rs := [5]) (by kernel_rfl) (by simp) ?_
              refine AllReadyH.cons rfl (fun K hK => ?st_6) ?mt_6
              case st_6 =>
                (go_simp; have HXa := Lib.hid (HX.out.after (below_more (Below.refl _ _) (.cells #[.int .i64 id] 3))); have HNb := Lib.hid (Blk.new X.drew 3 #[.int .i64 id]); have hgm : X.drew.heap.size < (X.drew.alloc (.cells #[.int .i64 id] 3)).heap.size := HNb.out.lt)
                refine hK.out _ _ ?kt_6 (fun hHeld => ?qt_6)
                case kt_6 => ((try dsimp only); first | exact HSof.out _ HX2.out | exact HSof.out _ HXa.out.e | exact HSof.out _ HX.out.e)
                case qt_6 =>
                  clear hK K
                  (try simp only [Act.put]); (try simp only [List.setIfInBounds_toArray])
                  refine wpAnyH_ready (rs := [6]) (by kernel_rfl) (by simp) ?_
                  refine AllReadyH.cons rfl (fun K hK => ?st_7) ?mt_7
                  case st_7 =>
                    (refine step_app_mark _ (by rfl) (.tmp 5) (.tmp 10) _ (by rfl) w0.heap.size 3 i0 _ 1 8 Try.underlying48 hi0 hz0 hz1 hz2 rfl (by omega) ov r.length (intCells r) (by rfl) HXa.out.own _ [.int .i64 id] (by rfl) HNb.out rfl (by simp [Value.oneCell']) (by unfold maxLen; omega) (by omega) HXa.out.e.gr.size ?_; intro G1 cap1 w2 hown2 _ hca1 hca2 hgr2; have HX2 := Lib.hid (HXa.out.e.kept HXa.out.own hgr2))
                    refine hK.out _ _ ?kt_7 (fun hHeld => ?qt_7)
                    case kt_7 => ((try dsimp only); first | exact HSof.out _ HX2.out | exact HSof.out _ HXa.out.e | exact HSof.out _ HX.out.e)
                    case qt_7 =>
                      clear hK K
                      (try simp only [Act.put]); (try simp only [List.setIfInBounds_toArray])
                      refine wpAnyH_done (by kernel_rfl) ?_ _
                      have k0 := (HX2.out.bx.cell 0).trans (show _ = some ov from rfl)
                      have k1 := HX2.out.bx.frozen 0
                      have HO2 := Lib.hid hown2
                      have HG2 := Lib.hid hgr2
                      clear hown2 hgr2 hHeld
                      show wpList _ _ _ _ _ _
                      go_wp2_with fail
                      (try simp only [Exit.inBlock, Exit.then])
                      first | refine bodyPost_ret (results_none (by kernel_rfl) _ _ _) rfl ?_ | refine bodyPost_end (results_none (by kernel_rfl) _ _ _) rfl ?_
                      exact ⟨rfl, ⟨_, HXa.out.push HG2.out HO2.out⟩, (Keeps.of (below_more (below_drew1 _) _)).trans (HXa.out.keeps HG2.out)⟩
                  case mt_7 =>
                    exact AllReadyH.nil
              case mt_6 =>
                exact AllReadyH.nil

set_option maxRecDepth 100000 in
set_option maxHeartbeats 3200000 in
theorem visitBelow_any (w0 X : World) (g0 b oi d : Nat) (id : Int) (r : List Int) (h : IdsInv w0 g0 r X) (hl : r.length < 4096) (hb : b < w0.heap.size) (hne : b ≠ g0) (hc : w0.cell? ⟨b, oi, none⟩ = some (.int .i64 id)) :
    Calls Try.prog 85 #[.pointer (some ⟨b, oi, none⟩), .int .i64 d, .pointer (some ⟨g0, 0, none⟩)] X fun e X' => e = .returned (.tuple #[]) ∧ IdsInv w0 g0 (r ++ [id]) X' ∧ Keeps X X' := by
  obtain ⟨ov, h⟩ := h
  have HX := Lib.hid (h.after (below_drew1 X))
  have HSof : Hid (∀ Y, IE w0 g0 ov Y → Y.cell? ⟨g0, 0, none⟩ = some ov ∧ Y.cell? ⟨b, oi, none⟩ = some (.int .i64 id)) := Lib.hid fun Y hY => ⟨(hY.bx.cell 0).trans rfl, (grown_cell hY.gr hb hne).trans hc⟩
  obtain ⟨i0, hi0, hz0, hz1, hz2⟩ := info_parts intInfo
  clear h hc
  go_enter Try.func85, Try.ntmps85
  go_upto_region 0 with (fail)
  refine wp_region_held_tail 7 (fun w' => w'.cell? ⟨g0, 0, none⟩ = some ov ∧ w'.cell? ⟨b, oi, none⟩ = some (.int .i64 id)) (by kernel_rfl) (by kernel_rfl) ?hSt (fun hHeld => ?qt0)
  case hSt => exact HSof.out _ HX.out.e
  case qt0 =>
    simp only [List.take_succ_cons, List.take_zero, List.drop_succ_cons, List.drop_zero]
    refine wpAnyH_take (i := 0) (v := ov) rfl (by kernel_rfl) (by kernel_rfl) (by kernel_rfl) (fun _ _ _ h => h) (Or.inl ⟨by rfl, ?yt_1⟩) (by assumption) ?qt_1
    case yt_1 => (intro w hSw; (try dsimp only at hSw); go_simp)
    case qt_1 =>
      (try simp only [Act.put]); (try simp only [List.setIfInBounds_toArray])
      refine wpAnyH_take (i := 1) (v := (.pointer (some ⟨b, oi, none⟩))) rfl (by kernel_rfl) (by kernel_rfl) (by kernel_rfl) (fun _ _ _ h => h) (Or.inl ⟨by rfl, ?yt_2⟩) (by assumption) ?qt_2
      case yt_2 => (intro w hSw; (try dsimp only at hSw); go_simp)
      case qt_2 =>
        (try simp only [Act.put]); (try simp only [List.setIfInBounds_toArray])
        refine wpAnyH_take (i := 2) (v := (.pointer (some ⟨b, oi, none⟩))) rfl (by kernel_rfl) (by kernel_rfl) (by kernel_rfl) (fun _ _ _ h => h) (Or.inl ⟨by rfl, ?yt_3⟩) (by assumption) ?qt_3
        case yt_3 => (intro w hSw; (try dsimp only at hSw); go_simp)
        case qt_3 =>
          (try simp only [Act.put]); (try simp only [List.setIfInBounds_toArray])
          refine wpAnyH_take (i := 3) (v := (.pointer (some ⟨b, oi, none⟩))) rfl (by kernel_rfl) (by kernel_rfl) (by kernel_rfl) (fun _ _ _ h => h) (Or.inl ⟨by rfl, ?yt_4⟩) (by assumption) ?qt_4
          case yt_4 => (intro w hSw; (try dsimp only at hSw); go_simp)
          case qt_4 =>
            (try simp only [Act.put]); (try simp only [List.setIfInBounds_toArray])
            refine wpAnyH_take (i := 4) (v := (.int .i64 id)) rfl (by kernel_rfl) (by kernel_rfl) (by kernel_rfl) (fun _ _ _ h => h) (Or.inl ⟨by rfl, ?yt_5⟩) (by assumption) ?qt_5
            case yt_5 => (intro w hSw; (try dsimp only at hSw); go_simp)
            case qt_5 =>
              (try simp only [Act.put]); (try simp only [List.setIfInBounds_toArray])
              refine wpAnyH_ready (rs := [5]) (by kernel_rfl) (by simp) ?_
              refine AllReadyH.cons rfl (fun K hK => ?st_6) ?mt_6
              case st_6 =>
                (go_simp; have HXa := Lib.hid (HX.out.after (below_more (Below.refl _ _) (.cells #[.int .i64 id] 3))); have HNb := Lib.hid (Blk.new X.drew 3 #[.int .i64 id]); have hgm : X.drew.heap.size < (X.drew.alloc (.cells #[.int .i64 id] 3)).heap.size := HNb.out.lt)
                refine hK.out _ _ ?kt_6 (fun hHeld => ?qt_6)
                case kt_6 => ((try dsimp only); first | exact HSof.out _ HX2.out | exact HSof.out _ HXa.out.e | exact HSof.out _ HX.out.e)
                case qt_6 =>
                  clear hK K
                  (try simp only [Act.put]); (try simp only [List.setIfInBounds_toArray])
                  refine wpAnyH_ready (rs := [6]) (by kernel_rfl) (by simp) ?_
                  refine AllReadyH.cons rfl (fun K hK => ?st_7) ?mt_7
                  case st_7 =>
                    (refine step_app_mark _ (by rfl) (.tmp 5) (.tmp 10) _ (by rfl) w0.heap.size 3 i0 _ 1 8 Try.underlying48 hi0 hz0 hz1 hz2 rfl (by omega) ov r.length (intCells r) (by rfl) HXa.out.own _ [.int .i64 id] (by rfl) HNb.out rfl (by simp [Value.oneCell']) (by unfold maxLen; omega) (by omega) HXa.out.e.gr.size ?_; intro G1 cap1 w2 hown2 _ hca1 hca2 hgr2; have HX2 := Lib.hid (HXa.out.e.kept HXa.out.own hgr2))
                    refine hK.out _ _ ?kt_7 (fun hHeld => ?qt_7)
                    case kt_7 => ((try dsimp only); first | exact HSof.out _ HX2.out | exact HSof.out _ HXa.out.e | exact HSof.out _ HX.out.e)
                    case qt_7 =>
                      clear hK K
                      (try simp only [Act.put]); (try simp only [List.setIfInBounds_toArray])
                      refine wpAnyH_done (by kernel_rfl) ?_ _
                      have k0 := (HX2.out.bx.cell 0).trans (show _ = some ov from rfl)
                      have k1 := HX2.out.bx.frozen 0
                      have HO2 := Lib.hid hown2
                      have HG2 := Lib.hid hgr2
                      clear hown2 hgr2 hHeld
                      show wpList _ _ _ _ _ _
                      go_wp2_with fail
                      (try simp only [Exit.inBlock, Exit.then])
                      first | refine bodyPost_ret (results_none (by kernel_rfl) _ _ _) rfl ?_ | refine bodyPost_end (results_none (by kernel_rfl) _ _ _) rfl ?_
                      exact ⟨rfl, ⟨_, HXa.out.push HG2.out HO2.out⟩, (Keeps.of (below_more (below_drew1 _) _)).trans (HXa.out.keeps HG2.out)⟩
                  case mt_7 =>
                    exact AllReadyH.nil
              case mt_6 =>
                exact AllReadyH.nil
end Go.Proofs.Ytmjkcbhkmkofjaa
