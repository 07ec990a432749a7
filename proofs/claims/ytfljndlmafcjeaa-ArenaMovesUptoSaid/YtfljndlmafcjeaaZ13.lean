/-
  WALKS: a node and all below it, listed; how many levels they are.
  WALKS: the document's: a node that stands nowhere is put there.
  WALKS: the document's: a node that hangs nowhere any more.
-/
import Derived.Test.YtfljndlmafcjeaaZ12
namespace Go.Proofs.Ytfljndlmafcjeaa
open Go Go.RowKit Go.Sort
set_option linter.unusedVariables false
attribute [local go_sem ↓] Go.wp_at_zero Go.wp_at_succ
set_option maxRecDepth 100000 in
set_option maxHeartbeats 3200000 in
theorem visitBranch_any (w0 X : World) (g0 b oi d : Nat) (id : Int) (r : List Int) (h : IdsInv w0 g0 r X) (hl : r.length < 4096) (hb : b < w0.heap.size) (hne : b ≠ g0) (hc : w0.cell? ⟨b, oi, none⟩ = some (.int .i64 id)) :
    Calls Try.prog 50 #[.pointer (some ⟨b, oi, none⟩), .int .i64 d, .pointer (some ⟨g0, 0, none⟩)] X fun e X' => e = .returned (.tuple #[]) ∧ IdsInv w0 g0 (r ++ [id]) X' ∧ Keeps X X' := by
  obtain ⟨ov, h⟩ := h
  have HX := Lib.hid (h.after (below_drew1 X))
  have HSof : Hid (∀ Y, IE w0 g0 ov Y → Y.cell? ⟨g0, 0, none⟩ = some ov ∧ Y.cell? ⟨b, oi, none⟩ = some (.int .i64 id)) := Lib.hid fun Y hY => ⟨(hY.bx.cell 0).trans rfl, (grown_cell hY.gr hb hne).trans hc⟩
  obtain ⟨i0, hi0, hz0, hz1, hz2⟩ := info_parts intInfo
  clear h hc
  go_enter Try.func50, Try.ntmps50
  go_upto_region 0 with (fail)
  refine wp_region_held_tail 7 (fun w' => w'.cell? ⟨g0, 0, none⟩ = some ov ∧ w'.cell? ⟨b, oi, none⟩ = some (.int .i64 id)) (by kernel_rfl) (by kernel_rfl) ?hSt (fun hHeld => ?qt0)
  case hSt => exact HSof.out _ HX.out.e
  case qt0 =>
    simp only [List.take_succ_cons, List.take_zero, List.drop_succ_cons, List.drop_zero]
    refine wpAnyH_take (i := 0) (v := ov) rfl (by kernel_rfl) (by kernel_rfl) (by kernel_rfl) (fun _ _ _ h => h) (Or.inl ⟨by rfl, ?yt_1⟩) (by assumption) ?qt_1
    case yt_1 => (intro w hSw; (try dsimp only at hSw); go_simp)
    case qt_1 =>
      (try simp only [Act.put]); (try simp only [List.setIfInBounds_toArray])
      refine wpAnyH_take (i := 1) (v := (.pointer (some ⟨b, oi, none⟩))) rfl (by kernel_rfl) (by kernel_rfl) (by kernel_rfl) (fun _ _ _ h => h) (Or.inl ⟨by rfl, ?yt_2⟩) (by assumption) ?qt_2
      case yt_2 => (intro w hSw; (try dsimp only at hSw); go_simp)
      case qt_2 =>
        (try simp only [Act.put]); (try simp only [List.setIfInBounds_toArray])
        refine wpAnyH_take (i := 2) (v := (.pointer (some ⟨b, oi, none⟩))) rfl (by kernel_rfl) (by kernel_rfl) (by kernel_rfl) (fun _ _ _ h => h) (Or.inl ⟨by rfl, ?yt_3⟩) (by assumption) ?qt_3
        case yt_3 => (intro w hSw; (try dsimp only at hSw); go_simp)
        case qt_3 =>
          (try simp only [Act.put]); (try simp only [List.setIfInBounds_toArray])
          refine wpAnyH_take (i := 3) (v := (.pointer (some ⟨b, oi, none⟩))) rfl (by kernel_rfl) (by kernel_rfl) (by kernel_rfl) (fun _ _ _ h => h) (Or.inl ⟨by rfl, ?yt_4⟩) (by assumption) ?qt_4
          case yt_4 => (intro w hSw; (try dsimp only at hSw); go_simp)
          case qt_4 =>
            (try simp only [Act.put]); (try simp only [List.setIfInBounds_toArray])
            refine wpAnyH_take (i := 4) (v := (.int .i64 id)) rfl (by kernel_rfl) (by kernel_rfl) (by kernel_rfl) (fun _ _ _ h => h) (Or.inl ⟨by rfl, ?yt_5⟩) (by assumption) ?qt_5
            case yt_5 => (intro w hSw; (try dsimp only at hSw); go_simp)
            case qt_5 =>
              (try simp only [Act.put]); (try simp only [List.setIfInBounds_toArray])
              refine wpAnyH_ready (rs := [5]) (by kernel_rfl) (by simp) ?_
              refine AllReadyH.cons rfl (fun K hK => ?st_6) ?mt_6
              case st_6 =>
                (go_simp; have HXa := Lib.hid (HX.out.after (below_more (Below.refl _ _) (.cells #[.int .i64 id] 3))); have HNb := Lib.hid (Blk.new X.drew 3 #[.int .i64 id]); have hgm : X.drew.heap.size < (X.drew.alloc (.cells #[.int .i64 id] 3)).heap.size := HNb.out.lt)
                refine hK.out _ _ ?kt_6 (fun hHeld => ?qt_6)
                case kt_6 => ((try dsimp only); first | exact HSof.out _ HX2.out | exact HSof.out _ HXa.out.e | exact HSof.out _ HX.out.e)
                case qt_6 =>
                  clear hK K
                  (try simp only [Act.put]); (try simp only [List.setIfInBounds_toArray])
                  refine wpAnyH_ready (rs := [6]) (by kernel_rfl) (by simp) ?_
                  refine AllReadyH.cons rfl (fun K hK => ?st_7) ?mt_7
                  case st_7 =>
                    (refine step_app_mark _ (by rfl) (.tmp 5) (.tmp 10) _ (by rfl) w0.heap.size 3 i0 _ 1 8 Try.underlying41 hi0 hz0 hz1 hz2 rfl (by omega) ov r.length (intCells r) (by rfl) HXa.out.own _ [.int .i64 id] (by rfl) HNb.out rfl (by simp [Value.oneCell']) (by unfold maxLen; omega) (by omega) HXa.out.e.gr.size ?_; intro G1 cap1 w2 hown2 _ hca1 hca2 hgr2; have HX2 := Lib.hid (HXa.out.e.kept HXa.out.own hgr2))
                    refine hK.out _ _ ?kt_7 (fun hHeld => ?qt_7)
                    case kt_7 => ((try dsimp only); first | exact HSof.out _ HX2.out | exact HSof.out _ HXa.out.e | exact HSof.out _ HX.out.e)
                    case qt_7 =>
                      clear hK K
                      (try simp only [Act.put]); (try simp only [List.setIfInBounds_toArray])
                      refine wpAnyH_done (by kernel_rfl) ?_ _
                      have k0 := (HX2.out.bx.cell 0).trans (show _ = some ov from rfl)
                      have k1 := HX2.out.bx.frozen 0
                      have HO2 := Lib.hid hown2
                      have HG2 := Lib.hid hgr2
                      clear hown2 hgr2 hHeld
                      show wpList _ _ _ _ _ _
                      go_wp2_with fail
                      (try simp only [Exit.inBlock, Exit.then])
                      first | refine bodyPost_ret (results_none (by kernel_rfl) _ _ _) rfl ?_ | refine bodyPost_end (results_none (by kernel_rfl) _ _ _) rfl ?_
                      exact ⟨rfl, ⟨_, HXa.out.push HG2.out HO2.out⟩, (Keeps.of (below_more (below_drew1 _) _)).trans (HXa.out.keeps HG2.out)⟩
                  case mt_7 =>
                    exact AllReadyH.nil
              case mt_6 =>
                exact AllReadyH.nil
set_option maxRecDepth 100000 in
set_option maxHeartbeats 3200000 in
theorem branch_any (w : World) (hi : Nat) (next id : Int) (A : Option Addr) (n c : Nat) (nds : List Nd) (h : NodesIn w 0 hi A n c nds) (hh : hi ≤ w.heap.size) (hR : RightM next nds) (nd : Nd) (hx : ndOf nds id = some nd) :
    Calls Try.prog 18 #[.agg #[.int .i64 next, .slice A n c], .int .i64 id] w (ListR w (preI nds id)) := by
  have HM0 := Lib.hid (M1.start w next A n c)
  have hn4 : n ≤ 4096 := by rw [← h.1]; exact hR.len
  have hd := depthV_le nds id
  have HM3 := Lib.hid (HM0.out.after (below_more (Below.refl _ _) (.cells #[.slice none 0 0] 41)))
  have HB3 := Lib.hid (Blk.new (w.alloc (.cells #[.int .i64 next, .slice A n c] 24)) 41 #[.slice none 0 0])
  have HG1 : Hid (w.heap.size ≤ (w.alloc (.cells #[.int .i64 next, .slice A n c] 24)).heap.size) := Lib.hid HM0.out.bel.size
  go_enter Try.func18, Try.ntmps18
  go_upto_region 2 with (fail)
  have hq : (w.alloc (.cells #[.int .i64 next, .slice A n c] 24)).heap.size = w.heap.size + 1 := by simp
  rw [hq] at HB3 HG1
  clear hq
  generalize (w.alloc (.cells #[.int .i64 next, .slice A n c] 24)).alloc (.cells #[.slice none 0 0] 41) = X3 at HM3 HB3 ⊢
  have HOv : Hid (∀ Y g, Below X3.heap.size X3 Y → Blk Y g 3 #[.int .i64 id] → X3.heap.size ≤ g → Calls Try.prog 49 #[.agg #[.int .i64 next, .slice A n c], .slice (some ⟨g, 0, none⟩) 1 1, .func (.func 50) #[] #[.pointer (some ⟨w.heap.size + 1, 0, none⟩)]] Y fun e X' => e = .returned (.tuple #[]) ∧ IdsInv Y (w.heap.size + 1) (preI nds id) X') := Lib.hid fun Y g hY hg hgle => by
    have hMY := HM3.out.after hY
    have hBY := HB3.out.after hY
    have hNY := h.below (hMY.bel.mono hh)
    have hYs := Nat.le_trans hh hMY.bel.size
    have hgl := HB3.out.lt
    have h1 := over_any Y hi (w.heap.size + 1) 4096 next A n c nds 50 #[.pointer (some ⟨w.heap.size + 1, 0, none⟩)] _ (visit_list 50 (by intro args w; go_simp) (fun X b oi d id r h1 h2 h3 h4 h5 => visitBranch_any Y X (w.heap.size + 1) b oi d id r h1 h2 h3 h4 h5) hNY hYs (by omega)) hNY hYs (by omega) hR.rise hn4 (ids_start hBY) (65 - depthV nds id) [id] (some ⟨g, 0, none⟩) 1 1 (ok_of hR _ _ _ (by omega) (preI_pre hR hx))
      (RowF.of (lo := g) (hi := g + 1) (by simpa [intCells] using row_blk (size := 1) (n := 1) (c := 1) hg (by simp) (Nat.le_refl _) (by unfold maxLen; omega)) hg.lt (.inl (by omega))) (Nat.le_trans (pre_len hR (by simp) (preI_pre hR hx)) hR.len) (by omega)
    rw [pre_pl] at h1
    exact h1
  have k0 := (HM3.out.a.cell 0).trans (show _ = some (.int .i64 next) from rfl)
  have k1 := (HM3.out.a.cell 1).trans (show _ = some (.slice A n c) from rfl)
  clear h hR hx
  go_wp2_with (go_at_call 49; go_must (refine (HOv.out _ _ (below_more (Below.refl _ _) _) (Blk.new _ _ _) (Nat.le_refl _)).mono ?_; rintro e w5 ⟨rfl, hi5⟩; obtain ⟨A5, m5, c5, hc5, ho5, hb5⟩ := ids_end (HM3.out.after (below_more (Below.refl _ _) _)).bel (Nat.le_succ _) hi5; have HO5 := Lib.hid ho5; have HB5 := Lib.hid hb5; clear hi5 ho5 hb5))
  go_ret
  exact ⟨_, rfl, HO5.out, HB5.out⟩
/-- a box with a number that grows -/
structure LvInv (w0 : World) (g0 : Nat) (most : Nat) (X : World) : Prop where
  gr : w0.grownBy X (some g0)
  bx : Blk X g0 3 #[.int .i64 most]
theorem LvInv.after {w0 X X' : World} {g0 most : Nat} (h : LvInv w0 g0 most X) (hb : Below X.heap.size X X') : LvInv w0 g0 most X' := ⟨grown_below h.gr hb, h.bx.after hb⟩
/-- how many levels there are from a node down -/
def hiV (nds : List Nd) (x : Int) : Nat := (preI nds x).foldl (fun a y => max a (depthV nds y - depthV nds x + 1)) 0
theorem hi_pre {next : Int} {nds : List Nd} (hR : RightM next nds) {x : Int} {nd : Nd} (hx : ndOf nds x = some nd) : (pre nds (65 - depthV nds x) 1 [x]).foldl (fun a p => max a p.2) 0 = hiV nds x := by
  unfold hiV preI
  rw [← pre_pl _ 1, List.foldl_map]
  have hm := pre_mem hR (65 - depthV nds x) 1 (depthV nds x) [x] (preI_pre hR hx)
  revert hm
  generalize pre nds (65 - depthV nds x) 1 [x] = L
  generalize 0 = a
  intro hm
  induction L generalizing a with
  | nil => rfl
  | cons p L ih =>
    obtain ⟨_, h2, h3, _⟩ := hm p (List.mem_cons_self ..)
    rw [List.foldl_cons, List.foldl_cons, show depthV nds p.1 - depthV nds x + 1 = p.2 from by omega]
    exact ih _ (fun q hq => hm q (List.mem_cons_of_mem _ hq))
set_option maxRecDepth 20000 in
set_option maxHeartbeats 1600000 in
theorem visitLevels_any (w0 X : World) (g0 d most : Nat) (q : Value) (h : LvInv w0 g0 most X) :
    Calls Try.prog 55 #[q, .int .i64 d, .pointer (some ⟨g0, 0, none⟩)] X fun e X' => e = .returned (.tuple #[]) ∧ LvInv w0 g0 (max most d) X' ∧ Keeps X X' := by
  have k0 := (h.bx.cell 0).trans (show _ = some (.int .i64 most) from rfl)
  have k1 := h.bx.frozen 0
  have HL : Hid (∀ u : Int, u = ((max most d : Nat) : Int) → LvInv w0 g0 (max most d) (X.setCell ⟨g0, 0, none⟩ (.int .i64 u)) ∧ Keeps X (X.setCell ⟨g0, 0, none⟩ (.int .i64 u))) := Lib.hid fun u hu => by
    subst hu
    refine ⟨⟨only_set h.gr 0 _, h.bx.set_ 0 _⟩, by simp [World.setCell], fun g t cs ht1 ht2 hb => ?_⟩
    exact hb.far (p := ⟨g0, 0, none⟩) (hb.ne_ h.bx ht1) _
  clear h
  by_cases hd : (most : Int) ≤ (d : Int)
  · have hmx : max (most : Int) (d : Int) = (d : Int) := by omega
    go_enter Try.func55, Try.ntmps55
    go_wp2_with fail
    (try rw [Exit.noGoto_ret])
    (try simp only [Exit.inBlock, Exit.then])
    first | refine bodyPost_ret (results_none (by kernel_rfl) _ _ _) rfl ?_ | refine bodyPost_end (results_none (by kernel_rfl) _ _ _) rfl ?_
    exact ⟨rfl, HL.out _ (by omega)⟩
  · have hmx : max (most : Int) (d : Int) = (most : Int) := by omega
    go_enter Try.func55, Try.ntmps55
    go_wp2_with fail
    (try rw [Exit.noGoto_ret])
    (try simp only [Exit.inBlock, Exit.then])
    first | refine bodyPost_ret (results_none (by kernel_rfl) _ _ _) rfl ?_ | refine bodyPost_end (results_none (by kernel_rfl) _ _ _) rfl ?_
    exact ⟨rfl, HL.out _ (by omega)⟩
set_option maxRecDepth 100000 in
set_option maxHeartbeats 3200000 in
theorem levels_any (w : World) (hi : Nat) (next id : Int) (A : Option Addr) (n c : Nat) (nds : List Nd) (h : NodesIn w 0 hi A n c nds) (hh : hi ≤ w.heap.size) (hR : RightM next nds) (nd : Nd) (hx : ndOf nds id = some nd) :
    Calls Try.prog 22 #[.agg #[.int .i64 next, .slice A n c], .int .i64 id] w (Ret w (.int .i64 (hiV nds id))) := by
  have HM0 := Lib.hid (M1.start w next A n c)
  have hn4 : n ≤ 4096 := by rw [← h.1]; exact hR.len
  have hd := depthV_le nds id
  have HM3 := Lib.hid (HM0.out.after (below_more (Below.refl _ _) (.cells #[.int .i64 0] 3)))
  have HB3 := Lib.hid (Blk.new (w.alloc (.cells #[.int .i64 next, .slice A n c] 24)) 3 #[.int .i64 0])
  go_enter Try.func22, Try.ntmps22
  go_upto_region 2 with (fail)
  have hq : (w.alloc (.cells #[.int .i64 next, .slice A n c] 24)).heap.size = w.heap.size + 1 := by simp
  rw [hq] at HB3
  clear hq
  generalize (w.alloc (.cells #[.int .i64 next, .slice A n c] 24)).alloc (.cells #[.int .i64 0] 3) = X3 at HM3 HB3 ⊢
  have HOv : Hid (∀ Y g, Below X3.heap.size X3 Y → Blk Y g 3 #[.int .i64 id] → X3.heap.size ≤ g → Calls Try.prog 49 #[.agg #[.int .i64 next, .slice A n c], .slice (some ⟨g, 0, none⟩) 1 1, .func (.func 55) #[] #[.pointer (some ⟨w.heap.size + 1, 0, none⟩)]] Y fun e X' => e = .returned (.tuple #[]) ∧ LvInv Y (w.heap.size + 1) (hiV nds id) X') := Lib.hid fun Y g hY hg hgle => by
    have hMY := HM3.out.after hY
    have hBY := HB3.out.after hY
    have hNY := h.below (hMY.bel.mono hh)
    have hYs := Nat.le_trans hh hMY.bel.size
    have hgl := HB3.out.lt
    have hV : Visit Y (w.heap.size + 1) 4096 A nds 55 #[.pointer (some ⟨w.heap.size + 1, 0, none⟩)] (fun X l => LvInv Y (w.heap.size + 1) (l.foldl (fun a p => max a p.2) 0) X) :=
      ⟨by intro args w; go_simp, fun X l h => h.gr, fun X X' l h hb => h.after hb, fun X l i nd d b o h _ _ _ _ => by
        rw [List.foldl_append]
        exact visitLevels_any Y X (w.heap.size + 1) d _ _ h⟩
    have h1 := over_any Y hi (w.heap.size + 1) 4096 next A n c nds 55 #[.pointer (some ⟨w.heap.size + 1, 0, none⟩)] _ hV hNY hYs (by omega) hR.rise hn4 ⟨World.grownBy.refl _ _, hBY⟩ (65 - depthV nds id) [id] (some ⟨g, 0, none⟩) 1 1 (ok_of hR _ _ _ (by omega) (preI_pre hR hx))
      (RowF.of (lo := g) (hi := g + 1) (by simpa [intCells] using row_blk (size := 1) (n := 1) (c := 1) hg (by simp) (Nat.le_refl _) (by unfold maxLen; omega)) hg.lt (.inl (by omega))) (Nat.le_trans (pre_len hR (by simp) (preI_pre hR hx)) hR.len) (by omega)
    rw [hi_pre hR hx] at h1
    exact h1
  have k0 := (HM3.out.a.cell 0).trans (show _ = some (.int .i64 next) from rfl)
  have k1 := (HM3.out.a.cell 1).trans (show _ = some (.slice A n c) from rfl)
  clear h hR hx
  go_wp2_with (go_at_call 49; go_must (refine (HOv.out _ _ (below_more (Below.refl _ _) _) (Blk.new _ _ _) (Nat.le_refl _)).mono ?_; rintro e w5 ⟨rfl, hi5⟩; have hc5 := (hi5.bx.cell 0).trans (show _ = some (.int .i64 (hiV nds id)) from rfl); have HB5 := Lib.hid (Below.only (HM3.out.after (below_more (Below.refl _ _) _)).bel hi5.gr (HM3.out.after (below_more (Below.refl _ _) _)).bel.size (Nat.le_succ _)); clear hi5))
  go_ret
  exact ⟨rfl, HB5.out⟩
end Go.Proofs.Ytfljndlmafcjeaa
namespace Go.Proofs.Ytfljndlmafcjeaa
open Go Go.RowKit Go.Sort
set_option linter.unusedVariables false
attribute [local go_sem ↓] Go.wp_at_zero Go.wp_at_succ
/-- what a put keeps: its box, its own nodes, all but one row of what was there -/
structure RB (w : World) (B : Nat) (next : Int) (g n c : Nat) (l : List (Nd × Leaf)) (X : World) : Prop where
  m : Blk X w.heap.size 24 #[.int .i64 next, .slice (some ⟨g, 0, none⟩) n c]
  gr : w.grownBy X (some g)
  own : OwnM X B (.slice (some ⟨g, 0, none⟩) n c) l
section
variable {w X X' : World} {B : Nat} {next : Int} {g n c : Nat} {l : List (Nd × Leaf)}
theorem RB.start (h : OwnM w B (.slice (some ⟨g, 0, none⟩) n c) l) : RB w B next g n c l (w.alloc (.cells #[.int .i64 next, .slice (some ⟨g, 0, none⟩) n c] 24)) :=
  ⟨Blk.new _ _ _, grown_below (World.grownBy.refl _ _) (below_more (Below.refl _ _) _), h.after (below_more (Below.refl _ _) _)⟩
theorem RB.after (h : RB w B next g n c l X) (hb : Below X.heap.size X X') : RB w B next g n c l X' := ⟨h.m.after hb, grown_below h.gr hb, h.own.after hb⟩
theorem RB.store {i j : Nat} {p q : Nd × Leaf} {u : Value} (h : RB w B next g n c l X) (hn : l.length = n) (hp : l[i]? = some p) (hj : j < 7) (hq : (ndCells p).set j u = ndCells q) (hl : OwnLeaf X B q.1 q.2) : RB w B next g n c (l.set i q) (X.setCell ⟨g, i * 7 + j, none⟩ u) := by
  subst hn
  obtain ⟨cs, hg, _, _⟩ := own_blk (n := l.length) (xs := allCells l) h.own.own
  exact ⟨h.m.far (p := ⟨g, _, none⟩) (h.m.ne_ hg (by decide)) u, grown_set h.gr _ u, h.own.store rfl hp hj hq hl⟩
theorem RB.cellAt {i j : Nat} {p : Nd × Leaf} {u : Value} (h : RB w B next g n c l X) (hn : l.length = n) (hp : l[i]? = some p) (hj : j < 7) (hu : (ndCells p)[j]? = some u) : X.cell? ⟨g, i * 7 + j, none⟩ = some u := by
  subst hn
  have hi := (List.getElem?_eq_some_iff.1 hp).1
  have h1 := World.ownsRow.cellAt (n := l.length) (xs := allCells l) h.own.own (i * 7 + j) (by omega)
  rw [h1]
  unfold allCells
  rw [flatN_get ndCells_len l i p hp j hj]
  exact hu
theorem RB.frozenAt {j : Nat} (h : RB w B next g n c l X) (hn : l.length = n) : X.frozen? ⟨g, j, none⟩ = false := by
  subst hn
  exact World.ownsRow.frozenAt (n := l.length) (xs := allCells l) h.own.own j
theorem RB.nodes (h : RB w B next g n c l X) (hn : l.length = n) : NodesIn X 0 X.heap.size (some ⟨g, 0, none⟩) n c (l.map (·.1)) := (h.own.nodesIn hn).mono (Nat.zero_le _) (Nat.le_refl _)
theorem RB.at_ (h : RB w B next g n c l X) (hn : l.length = n) (hn4 : n ≤ 4096) (hr : Rise (l.map (·.1))) {i : Nat} {p : Nd × Leaf} {id : Int} (hp : l[i]? = some p) (hid : p.1.id = id) :
    Calls Try.prog 26 #[.agg #[.int .i64 next, .slice (some ⟨g, 0, none⟩) n c], .int .i64 id] X (Ret X (.int .i64 i)) := by
  have h1 := refAt_any X X.heap.size next id _ n c _ (h.nodes hn) (Nat.le_refl _) hr hn4
  rw [show atV (l.map (·.1)) id = i from by unfold atV; rw [ixOf_is hr (by rw [List.getElem?_map, hp]; rfl) hid]] at h1
  exact h1
end
set_option maxRecDepth 100000 in
set_option maxHeartbeats 6400000 in
theorem refPutRoot_any (w : World) (B : Nat) (next id at_ : Int) (role : ByteArray) (g n c : Nat) (l : List (Nd × Leaf)) (h : OwnM w B (.slice (some ⟨g, 0, none⟩) n c) l) (hn : l.length = n) (hn4 : n ≤ 4096) (hr : Rise (l.map (·.1))) (ii : Nat) (p : Nd × Leaf) (hp : l[ii]? = some p) (hid : p.1.id = id) (hrole : role = ⟨#[]⟩)
    (nds' : List Nd) (hpost : nds' = (l.map (·.1)).set ii { p.1 with par := 0, role := role }) :
    Calls Try.prog 33 #[.agg #[.int .i64 next, .slice (some ⟨g, 0, none⟩) n c], .int .i64 id, .int .i64 0, .string role, .int .i64 at_] w (PutPost w B g n c nds') := by
  have hR := RB.start (next := next) h
  have HR0 := Lib.hid hR
  have hii : ii < n := by rw [← hn]; exact (List.getElem?_eq_some_iff.1 hp).1
  have HLNb := Lib.hid hn
  have HRI := Lib.hid hr
  have HPOST := Lib.hid hpost
  have HRole := Lib.hid hrole
  obtain ⟨nd, L⟩ := p
  have HPPb := Lib.hid hp
  have HID : Hid (nd.id = id) := Lib.hid hid
  have HAtb : Hid (∀ X, RB w B next g n c l X → Calls Try.prog 26 #[.agg #[.int .i64 next, .slice (some ⟨g, 0, none⟩) n c], .int .i64 id] X (Ret X (.int .i64 ii))) := Lib.hid fun X hX => hX.at_ HLNb.out hn4 HRI.out HPPb.out HID.out
  have HSof : Hid (∀ l' X, RB w B next g n c l' X → X.cell? ⟨w.heap.size, 0, none⟩ = some (.int .i64 next) ∧ X.cell? ⟨w.heap.size, 1, none⟩ = some (.slice (some ⟨g, 0, none⟩) n c)) := Lib.hid fun l' X hX => ⟨(hX.m.cell 0).trans rfl, (hX.m.cell 1).trans rfl⟩
  clear hR h hid hp hn hpost hr hrole
  go_enter Try.func33, Try.ntmps33
  go_upto_region 2 with (fail)
  have Hb := Lib.hid (HR0.out.after (below_drew (Below.refl _ _)))
  refine wp_region_held_tail 5 (fun X => X.cell? ⟨w.heap.size, 0, none⟩ = some (.int .i64 next) ∧ X.cell? ⟨w.heap.size, 1, none⟩ = some (.slice (some ⟨g, 0, none⟩) n c)) (by kernel_rfl) (by kernel_rfl) ?hSb (fun hHeld => ?qb0)
  case hSb => exact HSof.out _ _ Hb.out
  case qb0 =>
    simp only [List.take_succ_cons, List.take_zero, List.drop_succ_cons, List.drop_zero]
    refine wpAnyH_take (i := 0) (v := (.pointer (some ⟨w.heap.size, 1, none⟩))) rfl (by kernel_rfl) (by kernel_rfl) (by kernel_rfl) (fun _ _ _ h => h) (Or.inl ⟨by rfl, ?yb_1⟩) (by assumption) ?qb_1
    case yb_1 => (intro w hSw; (try dsimp only at hSw); go_simp)
    case qb_1 =>
      (try simp only [Act.put]); (try simp only [List.setIfInBounds_toArray])
      refine wpAnyH_take (i := 1) (v := (.slice (some ⟨g, 0, none⟩) n c)) rfl (by kernel_rfl) (by kernel_rfl) (by kernel_rfl) (fun _ _ _ h => h) (Or.inl ⟨by rfl, ?yb_2⟩) (by assumption) ?qb_2
      case yb_2 => (intro w hSw; (try dsimp only at hSw); go_simp)
      case qb_2 =>
        (try simp only [Act.put]); (try simp only [List.setIfInBounds_toArray])
        refine wpAnyH_take (i := 2) (v := (.agg #[.int .i64 next, .slice (some ⟨g, 0, none⟩) n c])) rfl (by kernel_rfl) (by kernel_rfl) (by kernel_rfl) (fun _ _ _ h => h) (Or.inl ⟨by rfl, ?yb_3⟩) (by assumption) ?qb_3
        case yb_3 => (intro w hSw; (try dsimp only at hSw); go_simp)
        case qb_3 =>
          (try simp only [Act.put]); (try simp only [List.setIfInBounds_toArray])
          refine wpAnyH_take (i := 3) (v := (.int .i64 id)) rfl (by kernel_rfl) (by kernel_rfl) (by kernel_rfl) (fun _ _ _ h => h) (Or.inl ⟨by rfl, ?yb_4⟩) (by assumption) ?qb_4
          case yb_4 => (intro w hSw; (try dsimp only at hSw); go_simp)
          case qb_4 =>
            (try simp only [Act.put]); (try simp only [List.setIfInBounds_toArray])
            refine wpAnyH_ready (rs := [4]) (by kernel_rfl) (by simp) ?_
            refine AllReadyH.cons rfl (fun K hK => ?sb_5) ?mb_5
            case sb_5 =>
              (refine step_call _ (by rfl) 26 #[.agg #[.int .i64 next, .slice (some ⟨g, 0, none⟩) n c], .int .i64 id] (by go_simp) (HAtb.out _ Hb.out) ?_; rintro e Yb ⟨rfl, hbb⟩; refine ⟨_, rfl, ?_⟩; replace Hb := Lib.hid (Hb.out.after hbb); clear hbb)
              refine hK.out _ _ ?kb_5 (fun hHeld => ?qb_5)
              case kb_5 => ((try dsimp only); exact HSof.out _ _ Hb.out)
              case qb_5 =>
                clear hK K
                (try simp only [Act.put]); (try simp only [List.setIfInBounds_toArray])
                refine wpAnyH_done (by kernel_rfl) ?_ _
                have cb := Hb.out.cellAt HLNb.out HPPb.out (j := 2) (by omega) rfl
                have fb := Hb.out.frozenAt (j := ii * 7 + 2) HLNb.out
                show wpList _ _ _ _ _ _
                have HRb := Lib.hid (Hb.out.store (q := ({ nd with par := 0 }, L)) (u := .int .i64 0) HLNb.out HPPb.out (j := 2) (by omega) rfl ((Hb.out.own.leaf _ (List.mem_of_getElem? HPPb.out)).turn (Hb.out.own.leaf _ (List.mem_of_getElem? HPPb.out)).sz.role))
                have HLNc : Hid ((l.set ii ({ nd with par := 0 }, L)).length = n) := Lib.hid (by rw [List.length_set]; exact HLNb.out)
                have HPPc : Hid ((l.set ii ({ nd with par := 0 }, L))[ii]? = some ({ nd with par := 0 }, L)) := Lib.hid (by rw [List.getElem?_set_self (by have := HLNb.out; omega)])
                have HAtc : Hid (∀ X, RB w B next g n c (l.set ii ({ nd with par := 0 }, L)) X → Calls Try.prog 26 #[.agg #[.int .i64 next, .slice (some ⟨g, 0, none⟩) n c], .int .i64 id] X (Ret X (.int .i64 ii))) := Lib.hid fun X hX => hX.at_ HLNc.out hn4 (by rw [List.map_set]; exact rise_set HRI.out (nd := nd) (by rw [List.getElem?_map, HPPb.out]; rfl) rfl) (p := ({ nd with par := 0 }, L)) HPPc.out HID.out
                go_upto_region 3 with (fail)
                have Hc := Lib.hid (HRb.out.after (below_drew (Below.refl _ _)))
                refine wp_region_held_tail 5 (fun X => X.cell? ⟨w.heap.size, 0, none⟩ = some (.int .i64 next) ∧ X.cell? ⟨w.heap.size, 1, none⟩ = some (.slice (some ⟨g, 0, none⟩) n c)) (by kernel_rfl) (by kernel_rfl) ?hSc (fun hHeld => ?qc0)
                case hSc => exact HSof.out _ _ Hc.out
                case qc0 =>
                  simp only [List.take_succ_cons, List.take_zero, List.drop_succ_cons, List.drop_zero]
                  refine wpAnyH_take (i := 0) (v := (.pointer (some ⟨w.heap.size, 1, none⟩))) rfl (by kernel_rfl) (by kernel_rfl) (by kernel_rfl) (fun _ _ _ h => h) (Or.inl ⟨by rfl, ?yc_1⟩) (by assumption) ?qc_1
                  case yc_1 => (intro w hSw; (try dsimp only at hSw); go_simp)
                  case qc_1 =>
                    (try simp only [Act.put]); (try simp only [List.setIfInBounds_toArray])
                    refine wpAnyH_take (i := 1) (v := (.slice (some ⟨g, 0, none⟩) n c)) rfl (by kernel_rfl) (by kernel_rfl) (by kernel_rfl) (fun _ _ _ h => h) (Or.inl ⟨by rfl, ?yc_2⟩) (by assumption) ?qc_2
                    case yc_2 => (intro w hSw; (try dsimp only at hSw); go_simp)
                    case qc_2 =>
                      (try simp only [Act.put]); (try simp only [List.setIfInBounds_toArray])
                      refine wpAnyH_take (i := 2) (v := (.agg #[.int .i64 next, .slice (some ⟨g, 0, none⟩) n c])) rfl (by kernel_rfl) (by kernel_rfl) (by kernel_rfl) (fun _ _ _ h => h) (Or.inl ⟨by rfl, ?yc_3⟩) (by assumption) ?qc_3
                      case yc_3 => (intro w hSw; (try dsimp only at hSw); go_simp)
                      case qc_3 =>
                        (try simp only [Act.put]); (try simp only [List.setIfInBounds_toArray])
                        refine wpAnyH_take (i := 3) (v := (.int .i64 id)) rfl (by kernel_rfl) (by kernel_rfl) (by kernel_rfl) (fun _ _ _ h => h) (Or.inl ⟨by rfl, ?yc_4⟩) (by assumption) ?qc_4
                        case yc_4 => (intro w hSw; (try dsimp only at hSw); go_simp)
                        case qc_4 =>
                          (try simp only [Act.put]); (try simp only [List.setIfInBounds_toArray])
                          refine wpAnyH_ready (rs := [4]) (by kernel_rfl) (by simp) ?_
                          refine AllReadyH.cons rfl (fun K hK => ?sc_5) ?mc_5
                          case sc_5 =>
                            (refine step_call _ (by rfl) 26 #[.agg #[.int .i64 next, .slice (some ⟨g, 0, none⟩) n c], .int .i64 id] (by go_simp) (HAtc.out _ Hc.out) ?_; rintro e Yc ⟨rfl, hbc⟩; refine ⟨_, rfl, ?_⟩; replace Hc := Lib.hid (Hc.out.after hbc); clear hbc)
                            refine hK.out _ _ ?kc_5 (fun hHeld => ?qc_5)
                            case kc_5 => ((try dsimp only); exact HSof.out _ _ Hc.out)
                            case qc_5 =>
                              clear hK K
                              (try simp only [Act.put]); (try simp only [List.setIfInBounds_toArray])
                              refine wpAnyH_done (by kernel_rfl) ?_ _
                              have cc := Hc.out.cellAt HLNc.out HPPc.out (j := 3) (by omega) rfl
                              have fc := Hc.out.frozenAt (j := ii * 7 + 3) HLNc.out
                              show wpList _ _ _ _ _ _
                              have HRe := Lib.hid (Hc.out.store (q := ({ nd with par := 0, role := ⟨#[]⟩ }, L)) (u := .string ⟨#[]⟩) HLNc.out HPPc.out (j := 3) (by omega) rfl ((Hc.out.own.leaf _ (List.mem_of_getElem? HPPc.out)).turn (by simp [ByteArray.size, maxLen])))
                              go_wp2_with fail
                              (try rw [Exit.noGoto_ret])
                              (try simp only [Exit.inBlock, Exit.then])
                              first | refine bodyPost_ret (results_none (by kernel_rfl) _ _ _) rfl ?_ | refine bodyPost_end (results_none (by kernel_rfl) _ _ _) rfl ?_
                              exact ⟨rfl, _, HRe.out.own, HRe.out.gr, by rw [HPOST.out, List.set_set, List.map_set, HRole.out]⟩
                          case mc_5 =>
                            exact AllReadyH.nil
            case mb_5 =>
              exact AllReadyH.nil
end Go.Proofs.Ytfljndlmafcjeaa
namespace Go.Proofs.Ytfljndlmafcjeaa
open Go Go.RowKit Go.Sort
set_option linter.unusedVariables false
attribute [local go_sem ↓] Go.wp_at_zero Go.wp_at_succ
theorem OwnM.cellT {X : World} {B n c g i j : Nat} {l : List (Nd × Leaf)} {p : Nd × Leaf} {u : Value} (h : OwnM X B (.slice (some ⟨g, 0, none⟩) n c) l) (hn : l.length = n) (hp : l[i]? = some p) (hj : j < 7) (hu : (ndCells p)[j]? = some u) : X.cell? ⟨g, i * 7 + j, none⟩ = some u ∧ X.frozen? ⟨g, i * 7 + j, none⟩ = false := by
  subst hn
  have hi := (List.getElem?_eq_some_iff.1 hp).1
  have h1 := World.ownsRow.cellAt (n := l.length) (xs := allCells l) h.own (i * 7 + j) (by omega)
  refine ⟨?_, World.ownsRow.frozenAt (n := l.length) (xs := allCells l) h.own _⟩
  rw [h1]
  unfold allCells
  rw [flatN_get ndCells_len l i p hp j hj]
  exact hu
/-- a list of numbers without one -/
def lessI (id : Int) (l : List Int) : List Int := l.filter fun k => k != id
theorem lessI_succ (id : Int) (l : List Int) {k : Nat} {x : Int} (h : l[k]? = some x) : lessI id (l.take (k + 1)) = lessI id (l.take k) ++ if (x != id) = true then [x] else [] := by
  unfold lessI
  rw [List.take_add_one, h, List.filter_append]
  cases hx : (x != id) <;> simp [hx]
theorem lessI_len (id : Int) (l : List Int) : (lessI id l).length ≤ l.length := List.length_filter_le _ _
set_option maxRecDepth 20000 in
set_option maxHeartbeats 3200000 in
theorem refTakeRoot_any (w : World) (B : Nat) (next id : Int) (g n c : Nat) (l : List (Nd × Leaf)) (h : OwnM w B (.slice (some ⟨g, 0, none⟩) n c) l) (hn : l.length = n) (hn4 : n ≤ 4096) (hr : Rise (l.map (·.1))) (ii : Nat) (p : Nd × Leaf) (hp : l[ii]? = some p) (hid : p.1.id = id) (h0 : p.1.par = 0) :
    Calls Try.prog 31 #[.agg #[.int .i64 next, .slice (some ⟨g, 0, none⟩) n c], .int .i64 id] w (PutPost w B g n c (l.map (·.1))) := by
  have hBg : B ≤ w.heap.size := by
    obtain ⟨cs, hg, h1, _⟩ := own_blk (n := n) (xs := allCells l) (by have := h.own; unfold OwnN at this; rw [hn] at this; exact this)
    exact Nat.le_trans h1 (Nat.le_of_lt hg.lt)
  have hgl : g < w.heap.size := by
    obtain ⟨cs, hg, h1, _⟩ := own_blk (n := n) (xs := allCells l) (by have := h.own; unfold OwnN at this; rw [hn] at this; exact this)
    exact hg.lt
  have HH := Lib.hid h
  have hii : ii < n := by rw [← hn]; exact (List.getElem?_eq_some_iff.1 hp).1
  have hnc : n ≤ c ∧ c ≤ maxLen := by have := (h.nodesIn hn).2; exact ⟨this.1, this.2.1⟩
  unfold maxLen at hnc
  have HM0 := Lib.hid (M1.start w next (some ⟨g, 0, none⟩) n c)
  have hnw : NodesIn w 0 w.heap.size (some ⟨g, 0, none⟩) n c (l.map (·.1)) := (h.nodesIn hn).mono (Nat.zero_le _) (Nat.le_refl _)
  have hpm : (l.map (·.1))[ii]? = some p.1 := by rw [List.getElem?_map, hp]; rfl
  have HAti : Hid (∀ X, Below w.heap.size w X → Calls Try.prog 26 #[.agg #[.int .i64 next, .slice (some ⟨g, 0, none⟩) n c], .int .i64 id] X (Ret X (.int .i64 ii))) := Lib.hid fun X hX => by
    have h1 := refAt_any X w.heap.size next id _ n c _ (hnw.below hX) hX.size hr hn4
    rw [show atV (l.map (·.1)) id = ii from by unfold atV; rw [ixOf_is hr hpm hid]] at h1
    exact h1
  have hc2 : w.cell? ⟨g, ii * 7 + 2, none⟩ = some (.int .i64 p.1.par) := (h.cellT hn hp (j := 2) (by omega) rfl).1
  obtain ⟨par, hpar⟩ : ∃ par, p.1.par = par := ⟨_, rfl⟩
  rw [hpar] at hc2
  have HSof : Hid (∀ X, M1 w next (some ⟨g, 0, none⟩) n c X → X.cell? ⟨w.heap.size, 0, none⟩ = some (.int .i64 next) ∧ X.cell? ⟨w.heap.size, 1, none⟩ = some (.slice (some ⟨g, 0, none⟩) n c) ∧ X.cell? ⟨g, ii * 7 + 2, none⟩ = some (.int .i64 par)) := Lib.hid fun X hX => ⟨(hX.a.cell 0).trans rfl, (hX.a.cell 1).trans rfl, (hX.bel.cell (p := ⟨g, _, none⟩) hgl).trans hc2⟩
  have d0 : (par == 0) = true := by rw [beq_iff_eq, ← hpar]; exact h0
  clear h hn hr hp hid h0 hnw hpm hc2 hpar
  go_enter Try.func31, Try.ntmps31
  go_upto_region 1 with (fail)
  have HX := Lib.hid (HM0.out.after (below_drew1 _))
  refine wp_region_held_tail 8 (fun w' => w'.cell? ⟨w.heap.size, 0, none⟩ = some (.int .i64 next) ∧ w'.cell? ⟨w.heap.size, 1, none⟩ = some (.slice (some ⟨g, 0, none⟩) n c) ∧ w'.cell? ⟨g, ii * 7 + 2, none⟩ = some (.int .i64 par)) (by kernel_rfl) (by kernel_rfl) ?hSt (fun hHeld => ?qt0)
  case hSt => exact HSof.out _ HX.out
  case qt0 =>
    generalize (w.alloc (.cells #[.int .i64 next, .slice (some ⟨g, 0, none⟩) n c] 24)).drew = wz at HX hHeld ⊢
    simp only [List.take_succ_cons, List.take_zero, List.drop_succ_cons, List.drop_zero]
    refine wpAnyH_take (i := 0) (v := (.pointer (some ⟨w.heap.size, 1, none⟩))) rfl (by kernel_rfl) (by kernel_rfl) (by kernel_rfl) (fun _ _ _ h => h) (Or.inl ⟨by rfl, ?yt_1⟩) (by assumption) ?qt_1
    case yt_1 => (intro w hSw; (try dsimp only at hSw); go_simp)
    case qt_1 =>
      (try simp only [Act.put]); (try simp only [List.setIfInBounds_toArray])
      refine wpAnyH_take (i := 1) (v := (.slice (some ⟨g, 0, none⟩) n c)) rfl (by kernel_rfl) (by kernel_rfl) (by kernel_rfl) (fun _ _ _ h => h) (Or.inl ⟨by rfl, ?yt_2⟩) (by assumption) ?qt_2
      case yt_2 => (intro w hSw; (try dsimp only at hSw); go_simp)
      case qt_2 =>
        (try simp only [Act.put]); (try simp only [List.setIfInBounds_toArray])
        refine wpAnyH_take (i := 2) (v := (.agg #[.int .i64 next, .slice (some ⟨g, 0, none⟩) n c])) rfl (by kernel_rfl) (by kernel_rfl) (by kernel_rfl) (fun _ _ _ h => h) (Or.inl ⟨by rfl, ?yt_3⟩) (by assumption) ?qt_3
        case yt_3 => (intro w hSw; (try dsimp only at hSw); go_simp)
        case qt_3 =>
          (try simp only [Act.put]); (try simp only [List.setIfInBounds_toArray])
          refine wpAnyH_take (i := 3) (v := (.int .i64 id)) rfl (by kernel_rfl) (by kernel_rfl) (by kernel_rfl) (fun _ _ _ h => h) (Or.inl ⟨by rfl, ?yt_4⟩) (by assumption) ?qt_4
          case yt_4 => (intro w hSw; (try dsimp only at hSw); go_simp)
          case qt_4 =>
            (try simp only [Act.put]); (try simp only [List.setIfInBounds_toArray])
            refine wpAnyH_ready (rs := [4]) (by kernel_rfl) (by simp) ?_
            refine AllReadyH.cons rfl (fun K hK => ?st_5) ?mt_5
            case st_5 =>
              (refine step_call _ (by rfl) 26 #[.agg #[.int .i64 next, .slice (some ⟨g, 0, none⟩) n c], .int .i64 id] (by go_simp) (HAti.out _ HX.out.bel) ?_; rintro e Yb ⟨rfl, hbb⟩; refine ⟨_, rfl, ?_⟩; replace HX := Lib.hid (HX.out.after hbb); clear hbb)
              refine hK.out _ _ ?kt_5 (fun hHeld => ?qt_5)
              case kt_5 => ((try dsimp only); exact HSof.out _ HX.out)
              case qt_5 =>
                clear hK K
                (try simp only [Act.put]); (try simp only [List.setIfInBounds_toArray])
                refine wpAnyH_take (i := 5) (v := (.pointer (some ⟨g, ii * 7, none⟩))) rfl (by kernel_rfl) (by kernel_rfl) (by kernel_rfl) (fun _ _ _ h => h) (Or.inl ⟨by rfl, ?yt_6⟩) (by assumption) ?qt_6
                case yt_6 => (intro w hSw; (try dsimp only at hSw); go_simp)
                case qt_6 =>
                  (try simp only [Act.put]); (try simp only [List.setIfInBounds_toArray])
                  refine wpAnyH_take (i := 6) (v := (.pointer (some ⟨g, ii * 7 + 2, none⟩))) rfl (by kernel_rfl) (by kernel_rfl) (by kernel_rfl) (fun _ _ _ h => h) (Or.inl ⟨by rfl, ?yt_7⟩) (by assumption) ?qt_7
                  case yt_7 => (intro w hSw; (try dsimp only at hSw); go_simp)
                  case qt_7 =>
                    (try simp only [Act.put]); (try simp only [List.setIfInBounds_toArray])
                    refine wpAnyH_take (i := 7) (v := (.int .i64 par)) rfl (by kernel_rfl) (by kernel_rfl) (by kernel_rfl) (fun _ _ _ h => h) (Or.inl ⟨by rfl, ?yt_8⟩) (by assumption) ?qt_8
                    case yt_8 => (intro w hSw; (try dsimp only at hSw); go_simp)
                    case qt_8 =>
                      (try simp only [Act.put]); (try simp only [List.setIfInBounds_toArray])
                      refine wpAnyH_done (by kernel_rfl) ?_ _
                      show wpList _ _ _ _ _ _
                      clear hHeld
                      go_wp2_with fail
                      (try rw [Exit.noGoto_ret])
                      (try simp only [Exit.inBlock, Exit.then])
                      first | refine bodyPost_ret (results_none (by kernel_rfl) _ _ _) rfl ?_ | refine bodyPost_end (results_none (by kernel_rfl) _ _ _) rfl ?_
                      exact ⟨rfl, l, HH.out.after HX.out.bel, grown_below (World.grownBy.refl w _) HX.out.bel, rfl⟩
            case mt_5 =>
              exact AllReadyH.nil
set_option maxRecDepth 20000 in
set_option maxHeartbeats 3200000 in
theorem refTakeBelow_any (w : World) (B : Nat) (next id : Int) (g n c : Nat) (l : List (Nd × Leaf)) (h : OwnM w B (.slice (some ⟨g, 0, none⟩) n c) l) (hn : l.length = n) (hn4 : n ≤ 4096) (hr : Rise (l.map (·.1))) (ii : Nat) (p : Nd × Leaf) (hp : l[ii]? = some p) (hid : p.1.id = id) (h0 : p.1.par ≠ 0)
    (jj : Nat) (x : Nd) (M : Leaf) (hx1 : l[jj]? = some (x, M)) (hx2 : x.id = p.1.par) (hkl : x.kids.length ≤ 4096) :
    Calls Try.prog 31 #[.agg #[.int .i64 next, .slice (some ⟨g, 0, none⟩) n c], .int .i64 id] w (PutPost w B g n c ((l.map (·.1)).set jj { x with kids := lessI id x.kids })) := by
  have hBg : B ≤ w.heap.size := by
    obtain ⟨cs, hg, h1, _⟩ := own_blk (n := n) (xs := allCells l) (by have := h.own; unfold OwnN at this; rw [hn] at this; exact this)
    exact Nat.le_trans h1 (Nat.le_of_lt hg.lt)
  have hgl : g < w.heap.size := by
    obtain ⟨cs, hg, h1, _⟩ := own_blk (n := n) (xs := allCells l) (by have := h.own; unfold OwnN at this; rw [hn] at this; exact this)
    exact hg.lt
  have HH := Lib.hid h
  have hii : ii < n := by rw [← hn]; exact (List.getElem?_eq_some_iff.1 hp).1
  have hnc : n ≤ c ∧ c ≤ maxLen := by have := (h.nodesIn hn).2; exact ⟨this.1, this.2.1⟩
  unfold maxLen at hnc
  have HM0 := Lib.hid (M1.start w next (some ⟨g, 0, none⟩) n c)
  have hnw : NodesIn w 0 w.heap.size (some ⟨g, 0, none⟩) n c (l.map (·.1)) := (h.nodesIn hn).mono (Nat.zero_le _) (Nat.le_refl _)
  have hpm : (l.map (·.1))[ii]? = some p.1 := by rw [List.getElem?_map, hp]; rfl
  have HAti : Hid (∀ X, Below w.heap.size w X → Calls Try.prog 26 #[.agg #[.int .i64 next, .slice (some ⟨g, 0, none⟩) n c], .int .i64 id] X (Ret X (.int .i64 ii))) := Lib.hid fun X hX => by
    have h1 := refAt_any X w.heap.size next id _ n c _ (hnw.below hX) hX.size hr hn4
    rw [show atV (l.map (·.1)) id = ii from by unfold atV; rw [ixOf_is hr hpm hid]] at h1
    exact h1
  have hc2 : w.cell? ⟨g, ii * 7 + 2, none⟩ = some (.int .i64 p.1.par) := (h.cellT hn hp (j := 2) (by omega) rfl).1
  obtain ⟨par, hpar⟩ : ∃ par, p.1.par = par := ⟨_, rfl⟩
  rw [hpar] at hc2
  have HSof : Hid (∀ X, M1 w next (some ⟨g, 0, none⟩) n c X → X.cell? ⟨w.heap.size, 0, none⟩ = some (.int .i64 next) ∧ X.cell? ⟨w.heap.size, 1, none⟩ = some (.slice (some ⟨g, 0, none⟩) n c) ∧ X.cell? ⟨g, ii * 7 + 2, none⟩ = some (.int .i64 par)) := Lib.hid fun X hX => ⟨(hX.a.cell 0).trans rfl, (hX.a.cell 1).trans rfl, (hX.bel.cell (p := ⟨g, _, none⟩) hgl).trans hc2⟩
  have d0 : (par == 0) = false := by rw [beq_eq_false_iff_ne, ← hpar]; exact h0
  have hjj : jj < n := by rw [← hn]; exact (List.getElem?_eq_some_iff.1 hx1).1
  have hxm : (l.map (·.1))[jj]? = some x := by rw [List.getElem?_map, hx1]; rfl
  have HAtp : Hid (∀ X, Below w.heap.size w X → Calls Try.prog 26 #[.agg #[.int .i64 next, .slice (some ⟨g, 0, none⟩) n c], .int .i64 par] X (Ret X (.int .i64 jj))) := Lib.hid fun X hX => by
    have h1 := refAt_any X w.heap.size next par _ n c _ (hnw.below hX) hX.size hr hn4
    rw [show atV (l.map (·.1)) par = jj from by unfold atV; rw [ixOf_is hr hxm (by rw [hx2, hpar])]] at h1
    exact h1
  obtain ⟨⟨Ap, np, cp⟩, ⟨Ak, nk, ck⟩, ⟨Ar, nr, cr⟩⟩ := M
  have hlf := h.leaf _ (List.mem_of_getElem? hx1)
  have hkn : nk = x.kids.length := hlf.kn
  have hrow := own_row hlf.k
  simp only at hrow
  have hrow0 : Row w 0 w.heap.size 1 Ak nk ck (intCells x.kids) := hrow.mono (Nat.zero_le _) (Nat.le_refl _)
  have hnk := hrow.2.1
  have hck := hrow.2.2.1
  unfold maxLen at hck
  have hc5 := (h.cellT hn hx1 (j := 5) (by omega) rfl).1
  simp only at hc5
  have HC5 : Hid (∀ X, Below w.heap.size w X → X.cell? ⟨g, jj * 7 + 5, none⟩ = some (.slice Ak nk ck)) := Lib.hid fun X hX => (hX.cell (p := ⟨g, _, none⟩) hgl).trans hc5
  have HROW := Lib.hid hrow0
  have HKN := Lib.hid hkn
  have hnk4 : nk ≤ 4096 := by omega
  have HLN := Lib.hid hn
  have HX1 := Lib.hid hx1
  obtain ⟨i0, hi0, hz0, hz1, hz2⟩ := info_parts intInfo
  clear h hn hr hp hid h0 hnw hpm hc2 hpar hx1 hx2 hkl hxm hlf hkn hrow hrow0 hc5
  go_enter Try.func31, Try.ntmps31
  go_upto_region 1 with (fail)
  have HX := Lib.hid (HM0.out.after (below_drew1 _))
  refine wp_region_held_tail 8 (fun w' => w'.cell? ⟨w.heap.size, 0, none⟩ = some (.int .i64 next) ∧ w'.cell? ⟨w.heap.size, 1, none⟩ = some (.slice (some ⟨g, 0, none⟩) n c) ∧ w'.cell? ⟨g, ii * 7 + 2, none⟩ = some (.int .i64 par)) (by kernel_rfl) (by kernel_rfl) ?hSt (fun hHeld => ?qt0)
  case hSt => exact HSof.out _ HX.out
  case qt0 =>
    generalize (w.alloc (.cells #[.int .i64 next, .slice (some ⟨g, 0, none⟩) n c] 24)).drew = wz at HX hHeld ⊢
    simp only [List.take_succ_cons, List.take_zero, List.drop_succ_cons, List.drop_zero]
    refine wpAnyH_take (i := 0) (v := (.pointer (some ⟨w.heap.size, 1, none⟩))) rfl (by kernel_rfl) (by kernel_rfl) (by kernel_rfl) (fun _ _ _ h => h) (Or.inl ⟨by rfl, ?yt_1⟩) (by assumption) ?qt_1
    case yt_1 => (intro w hSw; (try dsimp only at hSw); go_simp)
    case qt_1 =>
      (try simp only [Act.put]); (try simp only [List.setIfInBounds_toArray])
      refine wpAnyH_take (i := 1) (v := (.slice (some ⟨g, 0, none⟩) n c)) rfl (by kernel_rfl) (by kernel_rfl) (by kernel_rfl) (fun _ _ _ h => h) (Or.inl ⟨by rfl, ?yt_2⟩) (by assumption) ?qt_2
      case yt_2 => (intro w hSw; (try dsimp only at hSw); go_simp)
      case qt_2 =>
        (try simp only [Act.put]); (try simp only [List.setIfInBounds_toArray])
        refine wpAnyH_take (i := 2) (v := (.agg #[.int .i64 next, .slice (some ⟨g, 0, none⟩) n c])) rfl (by kernel_rfl) (by kernel_rfl) (by kernel_rfl) (fun _ _ _ h => h) (Or.inl ⟨by rfl, ?yt_3⟩) (by assumption) ?qt_3
        case yt_3 => (intro w hSw; (try dsimp only at hSw); go_simp)
        case qt_3 =>
          (try simp only [Act.put]); (try simp only [List.setIfInBounds_toArray])
          refine wpAnyH_take (i := 3) (v := (.int .i64 id)) rfl (by kernel_rfl) (by kernel_rfl) (by kernel_rfl) (fun _ _ _ h => h) (Or.inl ⟨by rfl, ?yt_4⟩) (by assumption) ?qt_4
          case yt_4 => (intro w hSw; (try dsimp only at hSw); go_simp)
          case qt_4 =>
            (try simp only [Act.put]); (try simp only [List.setIfInBounds_toArray])
            refine wpAnyH_ready (rs := [4]) (by kernel_rfl) (by simp) ?_
            refine AllReadyH.cons rfl (fun K hK => ?st_5) ?mt_5
            case st_5 =>
              (refine step_call _ (by rfl) 26 #[.agg #[.int .i64 next, .slice (some ⟨g, 0, none⟩) n c], .int .i64 id] (by go_simp) (HAti.out _ HX.out.bel) ?_; rintro e Yb ⟨rfl, hbb⟩; refine ⟨_, rfl, ?_⟩; replace HX := Lib.hid (HX.out.after hbb); clear hbb)
              refine hK.out _ _ ?kt_5 (fun hHeld => ?qt_5)
              case kt_5 => ((try dsimp only); exact HSof.out _ HX.out)
              case qt_5 =>
                clear hK K
                (try simp only [Act.put]); (try simp only [List.setIfInBounds_toArray])
                refine wpAnyH_take (i := 5) (v := (.pointer (some ⟨g, ii * 7, none⟩))) rfl (by kernel_rfl) (by kernel_rfl) (by kernel_rfl) (fun _ _ _ h => h) (Or.inl ⟨by rfl, ?yt_6⟩) (by assumption) ?qt_6
                case yt_6 => (intro w hSw; (try dsimp only at hSw); go_simp)
                case qt_6 =>
                  (try simp only [Act.put]); (try simp only [List.setIfInBounds_toArray])
                  refine wpAnyH_take (i := 6) (v := (.pointer (some ⟨g, ii * 7 + 2, none⟩))) rfl (by kernel_rfl) (by kernel_rfl) (by kernel_rfl) (fun _ _ _ h => h) (Or.inl ⟨by rfl, ?yt_7⟩) (by assumption) ?qt_7
                  case yt_7 => (intro w hSw; (try dsimp only at hSw); go_simp)
                  case qt_7 =>
                    (try simp only [Act.put]); (try simp only [List.setIfInBounds_toArray])
                    refine wpAnyH_take (i := 7) (v := (.int .i64 par)) rfl (by kernel_rfl) (by kernel_rfl) (by kernel_rfl) (fun _ _ _ h => h) (Or.inl ⟨by rfl, ?yt_8⟩) (by assumption) ?qt_8
                    case yt_8 => (intro w hSw; (try dsimp only at hSw); go_simp)
                    case qt_8 =>
                      (try simp only [Act.put]); (try simp only [List.setIfInBounds_toArray])
                      refine wpAnyH_done (by kernel_rfl) ?_ _
                      show wpList _ _ _ _ _ _
                      have m10 := hHeld.1
                      have m11 := hHeld.2.1
                      clear hHeld
                      go_wp2_with (go_at_call 26; (with_reducible refine (HAtp.out _ HX.out.bel).mono ?_); go_must (rintro e w5 ⟨rfl, hb5⟩; have HM5 := Lib.hid (HX.out.after hb5); clear hb5))
                      go_loopw [6, 7] (fun v s7 wr => ∃ (k : Nat), k ≤ nk ∧ s7 = .int .i64 k ∧ KW w next (some ⟨g, 0, none⟩) n c v (lessI id (x.kids.take k)) wr) (fun _ v _ => nk - (intOf v).toNat)
                      case atStart => exact ⟨0, Nat.zero_le _, rfl, ⟨HM5.out, ⟨rfl, .inl ⟨rfl, rfl⟩⟩⟩⟩
                      case round =>
                        obtain ⟨k, hk, rfl, W⟩ := hrel
                        obtain ⟨fo, hfo⟩ : ∃ fo, lessI id (x.kids.take k) = fo := ⟨_, rfl⟩
                        rw [hfo] at W
                        have hfl : fo.length ≤ k := by
                          rw [← hfo]
                          have := lessI_len id (x.kids.take k)
                          rw [List.length_take] at this
                          omega
                        have HFO := Lib.hid hfo
                        have HW := Lib.hid W
                        clear W hfo
                        rename World => wr
                        have q1 := (HW.out.m.a.cell 1).trans (show _ = some (.slice (some ⟨g, 0, none⟩) n c) from rfl)
                        have q2 := HC5.out _ HW.out.m.bel
                        by_cases hlt : k < nk
                        · obtain ⟨kid, hkid⟩ : ∃ kid, x.kids[k]? = some kid := ⟨x.kids[k]'(by have := HKN.out; omega), List.getElem?_eq_getElem _⟩
                          obtain ⟨bk, ok, hAk, _, hbk, hck2⟩ := HROW.out.2.2.2 (by omega)
                          have HAK := Lib.hid hAk
                          subst hAk
                          have q3 := (HW.out.m.bel.cell (p := ⟨bk, ok + k, none⟩) hbk).trans (hck2 k _ (intCells_get hkid))
                          have HKD := Lib.hid hkid
                          clear hkid hck2
                          cases hne : (kid != id) with
                          | false =>
                            have hnb : (kid == id) = true := by rw [beq_iff_eq]; exact bne_eq_false_iff_eq.1 hne
                            go_wp2_with fail
                            go_roundw
                            case rel =>
                              refine ⟨k + 1, by omega, rfl, ?_⟩
                              rw [lessI_succ id x.kids HKD.out, hne, if_neg (by decide), List.append_nil, HFO.out]
                              exact HW.out
                            case measure => simp [intOf]; omega
                          | true =>
                            have hnb : (kid == id) = false := by rw [beq_eq_false_iff_ne]; exact bne_iff_ne.1 hne
                            have HNE := Lib.hid hne
                            go_wp2_with (at_builtin; (with_reducible show wpList _ _ _ (⟨some 54, _, _, _, _, _⟩ :: _) _ _); go_must (refine wpList_app _ rfl (.tmp 43) (.tmp 53) _ rfl w.heap.size 3 i0 _ 1 8 Try.underlying41 hi0 hz0 hz1 hz2 rfl (by omega) u6 fo.length (intCells fo) rfl (own_after HW.out.own (below_more (Below.refl _ _) _)) wr.heap.size (wr.heap.size + 1) (some ⟨wr.heap.size, 0, none⟩) 1 1 [.int .i64 kid] rfl (row_blk (n := 1) (Blk.new' rfl) rfl (Nat.le_refl _) (by unfold maxLen; omega)) (by simp [Value.oneCell']) (by unfold maxLen; omega) (by omega) (Nat.le_trans HW.out.m.bel.size (by simp)) ?_); go_must (intro v8 w8 hown8 hg8 _; have HX8 := Lib.hid ((HW.out.after (below_more (Below.refl _ _) _)).push hg8 hown8); clear hown8 hg8))
                            go_roundw
                            case rel =>
                              refine ⟨k + 1, by omega, rfl, ?_⟩
                              rw [lessI_succ id x.kids HKD.out, HNE.out, if_pos rfl, HFO.out]
                              exact HX8.out
                            case measure => simp [intOf]; omega
                        · have hkn : k = nk := by omega
                          subst hkn
                          have hfe : fo = lessI id x.kids := by rw [← HFO.out, List.take_of_length_le (by have := HKN.out; omega)]
                          have HFE := Lib.hid hfe
                          clear hfe
                          obtain ⟨Av, cv, hv⟩ := own_form HW.out.own
                          subst hv
                          have hr9 : RB w B next g n c l wr := ⟨HW.out.m.a, grown_below (World.grownBy.refl w _) HW.out.m.bel, HH.out.after HW.out.m.bel⟩
                          have hlf9 := hr9.own.leaf _ (List.mem_of_getElem? HX1.out)
                          have HR10 := Lib.hid (hr9.store (q := ({ x with kids := fo }, ⟨⟨Ap, np, cp⟩, ⟨Av, fo.length, cv⟩, ⟨Ar, nr, cr⟩⟩)) (u := .slice Av fo.length cv) HLN.out HX1.out (j := 5) (by omega) rfl ⟨hlf9.pn, rfl, hlf9.rn, hlf9.p, own_mono HW.out.own hBg, hlf9.r, ⟨hlf9.sz.con, hlf9.sz.role, hlf9.sz.props, hlf9.sz.refs⟩⟩)
                          have f9 := hr9.frozenAt (j := jj * 7 + 5) HLN.out
                          clear hr9 hlf9
                          go_wp2_with fail
                          (try rw [Exit.noGoto_ret])
                          (try simp only [Exit.inBlock, Exit.then])
                          first | refine bodyPost_ret (results_none (by kernel_rfl) _ _ _) rfl ?_ | refine bodyPost_end (results_none (by kernel_rfl) _ _ _) rfl ?_
                          exact ⟨rfl, _, HR10.out.own, HR10.out.gr, by rw [List.map_set, HFE.out]⟩
            case mt_5 =>
              exact AllReadyH.nil
end Go.Proofs.Ytfljndlmafcjeaa
