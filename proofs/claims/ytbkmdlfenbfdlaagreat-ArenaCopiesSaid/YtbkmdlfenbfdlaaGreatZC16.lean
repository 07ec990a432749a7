/-
  WALKS: a node and all below it, listed; how many levels they are.
  WALKS: the document's: a node that stands nowhere is put there.
  WALKS: the document's: a node that hangs nowhere any more.
  WALKS: a node is taken from among its parent's kids.
  WALKS: the document's: a node that stands nowhere is put below a parent.
  PLAIN MATHEMATICS: a list of nodes with one more behind it; the place ahead of which a place is.
  WALKS: what is asked of a node that is added; may it stand there?
-/
import Derived.Test.YtbkmdlfenbfdlaaGreatZC15
namespace Go.Proofs.YtbkmdlfenbfdlaaGreat
open Go Go.RowKit Go.Sort
set_option linter.unusedVariables false
attribute [local go_sem ↓] Go.wp_at_zero Go.wp_at_succ
set_option maxRecDepth 100000 in
set_option maxHeartbeats 3200000 in
theorem visitBranch_any (w0 X : World) (g0 b oi d : Nat) (id : Int) (r : List Int) (h : IdsInv w0 g0 r X) (hl : r.length < 4096) (hb : b < w0.heap.size) (hne : b ≠ g0) (hc : w0.cell? ⟨b, oi, none⟩ = some (.int .i64 id)) :
    Calls Tryz.prog 84 #[.pointer (some ⟨b, oi, none⟩), .int .i64 d, .pointer (some ⟨g0, 0, none⟩)] X fun e X' => e = .returned (.tuple #[]) ∧ IdsInv w0 g0 (r ++ [id]) X' ∧ Keeps X X' := by
  obtain ⟨ov, h⟩ := h
  have HX := Lib.hid (h.after (below_drew1 X))
  have HSof : Hid (∀ Y, IE w0 g0 ov Y → Y.cell? ⟨g0, 0, none⟩ = some ov ∧ Y.cell? ⟨b, oi, none⟩ = some (.int .i64 id)) := Lib.hid fun Y hY => ⟨(hY.bx.cell 0).trans rfl, (grown_cell hY.gr hb hne).trans hc⟩
  obtain ⟨i0, hi0, hz0, hz1, hz2⟩ := info_parts intInfo
  clear h hc
  go_enter Tryz.func84, Tryz.ntmps84
  go_upto_region 0 with (fail)
  refine wp_region_held_tail 7 (fun w' => w'.cell? ⟨g0, 0, none⟩ = some ov ∧ w'.cell? ⟨b, oi, none⟩ = some (.int .i64 id)) (by kernel_rfl) (by kernel_rfl) ?hSt (fun hHeld => ?qt0)
  case hSt => exact HSof.out _ HX.out.e
  case qt0 =>
    simp only [List.take_succ_cons, List.take_zero, List.drop_succ_cons, List.drop_zero]
    refine wpAnyH_take (i := 0) (v := ov) rfl (by kernel_rfl) (by kernel_rfl) (by kernel_rfl) (fun _ _ _ h => h) (Or.inl ⟨by rfl, ?yt_1⟩) (by assumption) ?qt_1
    case yt_1 => (intro w hSw; (try dsimp only at hSw); go_simp)
    case qt_1 =>
      (try simp only [Act.put]); (try simp only [List.setIfInBounds_toArray])
      refine wpAnyH_take (i := 1) (v := (.pointer (some ⟨b, oi, none⟩))) rfl (by kernel_rfl) (by kernel_rfl) (by kernel_rfl) (fun _ _ _ h => h) (Or.inl ⟨by rfl, ?yt_2⟩) (by assumption) ?qt_2
      case yt_2 => (intro w hSw; (try dsimp only at hSw); go_simp)
      case qt_2 =>
        (try simp only [Act.put]); (try simp only [List.setIfInBounds_toArray])
        refine wpAnyH_take (i := 2) (v := (.pointer (some ⟨b, oi, none⟩))) rfl (by kernel_rfl) (by kernel_rfl) (by kernel_rfl) (fun _ _ _ h => h) (Or.inl ⟨by rfl, ?yt_3⟩) (by assumption) ?qt_3
        case yt_3 => (intro w hSw; (try dsimp only at hSw); go_simp)
        case qt_3 =>
          (try simp only [Act.put]); (try simp only [List.setIfInBounds_toArray])
          refine wpAnyH_take (i := 3) (v := (.pointer (some ⟨b, oi, none⟩))) rfl (by kernel_rfl) (by kernel_rfl) (by kernel_rfl) (fun _ _ _ h => h) (Or.inl ⟨by rfl, ?yt_4⟩) (by assumption) ?qt_4
          case yt_4 => (intro w hSw; (try dsimp only at hSw); go_simp)
          case qt_4 =>
            (try simp only [Act.put]); (try simp only [List.setIfInBounds_toArray])
            refine wpAnyH_take (i := 4) (v := (.int .i64 id)) rfl (by kernel_rfl) (by kernel_rfl) (by kernel_rfl) (fun _ _ _ h => h) (Or.inl ⟨by rfl, ?yt_5⟩) (by assumption) ?qt_5
            case yt_5 => (intro w hSw; (try dsimp only at hSw); go_simp)
            case qt_5 =>
              (try simp only [Act.put]); (try simp only [List.setIfInBounds_toArray])
              refine wpAnyH_ready (rs := [5]) (by kernel_rfl) (by simp) ?_
              refine AllReadyH.cons rfl (fun K hK => ?st_6) ?mt_6
              case st_6 =>
                (go_simp; have HXa := Lib.hid (HX.out.after (below_more (Below.refl _ _) (.cells #[.int .i64 id] 3))); have HNb := Lib.hid (Blk.new X.drew 3 #[.int .i64 id]); have hgm : X.drew.heap.size < (X.drew.alloc (.cells #[.int .i64 id] 3)).heap.size := HNb.out.lt)
                refine hK.out _ _ ?kt_6 (fun hHeld => ?qt_6)
                case kt_6 => ((try dsimp only); first | exact HSof.out _ HX2.out | exact HSof.out _ HXa.out.e | exact HSof.out _ HX.out.e)
                case qt_6 =>
                  clear hK K
                  (try simp only [Act.put]); (try simp only [List.setIfInBounds_toArray])
                  refine wpAnyH_ready (rs := [6]) (by kernel_rfl) (by simp) ?_
                  refine AllReadyH.cons rfl (fun K hK => ?st_7) ?mt_7
                  case st_7 =>
                    (refine step_app_mark _ (by rfl) (.tmp 5) (.tmp 10) _ (by rfl) w0.heap.size 3 i0 _ 1 8 Tryz.underlying33 hi0 hz0 hz1 hz2 rfl (by omega) ov r.length (intCells r) (by rfl) HXa.out.own _ [.int .i64 id] (by rfl) HNb.out rfl (by simp [Value.oneCell']) (by unfold maxLen; omega) (by omega) HXa.out.e.gr.size ?_; intro G1 cap1 w2 hown2 _ hca1 hca2 hgr2; have HX2 := Lib.hid (HXa.out.e.kept HXa.out.own hgr2))
                    refine hK.out _ _ ?kt_7 (fun hHeld => ?qt_7)
                    case kt_7 => ((try dsimp only); first | exact HSof.out _ HX2.out | exact HSof.out _ HXa.out.e | exact HSof.out _ HX.out.e)
                    case qt_7 =>
                      clear hK K
                      (try simp only [Act.put]); (try simp only [List.setIfInBounds_toArray])
                      refine wpAnyH_done (by kernel_rfl) ?_ _
                      have k0 := (HX2.out.bx.cell 0).trans (show _ = some ov from rfl)
                      have k1 := HX2.out.bx.frozen 0
                      have HO2 := Lib.hid hown2
                      have HG2 := Lib.hid hgr2
                      clear hown2 hgr2 hHeld
                      show wpList _ _ _ _ _ _
                      go_wp2_with fail
                      (try simp only [Exit.inBlock, Exit.then])
                      first | refine bodyPost_ret (results_none (by kernel_rfl) _ _ _) rfl ?_ | refine bodyPost_end (results_none (by kernel_rfl) _ _ _) rfl ?_
                      exact ⟨rfl, ⟨_, HXa.out.push HG2.out HO2.out⟩, (Keeps.of (below_more (below_drew1 _) _)).trans (HXa.out.keeps HG2.out)⟩
                  case mt_7 =>
                    exact AllReadyH.nil
              case mt_6 =>
                exact AllReadyH.nil
set_option maxRecDepth 100000 in
set_option maxHeartbeats 3200000 in
theorem branch_any (w : World) (hi : Nat) (next id : Int) (A : Option Addr) (n c : Nat) (nds : List Nd) (h : NodesIn w 0 hi A n c nds) (hh : hi ≤ w.heap.size) (hR : RightM next nds) (nd : Nd) (hx : ndOf nds id = some nd) :
    Calls Tryz.prog 49 #[.agg #[.int .i64 next, .slice A n c], .int .i64 id] w (ListR w (preI nds id)) := by
  have HM0 := Lib.hid (M1.start w next A n c)
  have hn4 : n ≤ 4096 := by rw [← h.1]; exact hR.len
  have hd := depthV_le nds id
  have HM3 := Lib.hid (HM0.out.after (below_more (Below.refl _ _) (.cells #[.slice none 0 0] 33)))
  have HB3 := Lib.hid (Blk.new (w.alloc (.cells #[.int .i64 next, .slice A n c] 26)) 33 #[.slice none 0 0])
  have HG1 : Hid (w.heap.size ≤ (w.alloc (.cells #[.int .i64 next, .slice A n c] 26)).heap.size) := Lib.hid HM0.out.bel.size
  go_enter Tryz.func49, Tryz.ntmps49
  go_upto_region 2 with (fail)
  have hq : (w.alloc (.cells #[.int .i64 next, .slice A n c] 26)).heap.size = w.heap.size + 1 := by simp
  rw [hq] at HB3 HG1
  clear hq
  generalize (w.alloc (.cells #[.int .i64 next, .slice A n c] 26)).alloc (.cells #[.slice none 0 0] 33) = X3 at HM3 HB3 ⊢
  have HOv : Hid (∀ Y g, Below X3.heap.size X3 Y → Blk Y g 3 #[.int .i64 id] → X3.heap.size ≤ g → Calls Tryz.prog 31 #[.agg #[.int .i64 next, .slice A n c], .slice (some ⟨g, 0, none⟩) 1 1, .func (.func 84) #[] #[.pointer (some ⟨w.heap.size + 1, 0, none⟩)]] Y fun e X' => e = .returned (.tuple #[]) ∧ IdsInv Y (w.heap.size + 1) (preI nds id) X') := Lib.hid fun Y g hY hg hgle => by
    have hMY := HM3.out.after hY
    have hBY := HB3.out.after hY
    have hNY := h.below (hMY.bel.mono hh)
    have hYs := Nat.le_trans hh hMY.bel.size
    have hgl := HB3.out.lt
    have h1 := over_any Y hi (w.heap.size + 1) 4096 next A n c nds 84 #[.pointer (some ⟨w.heap.size + 1, 0, none⟩)] _ (visit_list 84 (by intro args w; go_simp) (fun X b oi d id r h1 h2 h3 h4 h5 => visitBranch_any Y X (w.heap.size + 1) b oi d id r h1 h2 h3 h4 h5) hNY hYs (by omega)) hNY hYs (by omega) hR.rise hn4 (ids_start hBY) (65 - depthV nds id) [id] (some ⟨g, 0, none⟩) 1 1 (ok_of hR _ _ _ (by omega) (preI_pre hR hx))
      (RowF.of (lo := g) (hi := g + 1) (by simpa [intCells] using row_blk (size := 1) (n := 1) (c := 1) hg (by simp) (Nat.le_refl _) (by unfold maxLen; omega)) hg.lt (.inl (by omega))) (Nat.le_trans (pre_len hR (by simp) (preI_pre hR hx)) hR.len) (by omega)
    rw [pre_pl] at h1
    exact h1
  have k0 := (HM3.out.a.cell 0).trans (show _ = some (.int .i64 next) from rfl)
  have k1 := (HM3.out.a.cell 1).trans (show _ = some (.slice A n c) from rfl)
  clear h hR hx
  go_wp2_with (go_at_call 31; go_must (refine (HOv.out _ _ (below_more (Below.refl _ _) _) (Blk.new _ _ _) (Nat.le_refl _)).mono ?_; rintro e w5 ⟨rfl, hi5⟩; obtain ⟨A5, m5, c5, hc5, ho5, hb5⟩ := ids_end (HM3.out.after (below_more (Below.refl _ _) _)).bel (Nat.le_succ _) hi5; have HO5 := Lib.hid ho5; have HB5 := Lib.hid hb5; clear hi5 ho5 hb5))
  go_ret
  exact ⟨_, rfl, HO5.out, HB5.out⟩
/-- a box with a number that grows -/
structure LvInv (w0 : World) (g0 : Nat) (most : Nat) (X : World) : Prop where
  gr : w0.grownBy X (some g0)
  bx : Blk X g0 3 #[.int .i64 most]
theorem LvInv.after {w0 X X' : World} {g0 most : Nat} (h : LvInv w0 g0 most X) (hb : Below X.heap.size X X') : LvInv w0 g0 most X' := ⟨grown_below h.gr hb, h.bx.after hb⟩
/-- how many levels there are from a node down -/
def hiV (nds : List Nd) (x : Int) : Nat := (preI nds x).foldl (fun a y => max a (depthV nds y - depthV nds x + 1)) 0
theorem hi_pre {next : Int} {nds : List Nd} (hR : RightM next nds) {x : Int} {nd : Nd} (hx : ndOf nds x = some nd) : (pre nds (65 - depthV nds x) 1 [x]).foldl (fun a p => max a p.2) 0 = hiV nds x := by
  unfold hiV preI
  rw [← pre_pl _ 1, List.foldl_map]
  have hm := pre_mem hR (65 - depthV nds x) 1 (depthV nds x) [x] (preI_pre hR hx)
  revert hm
  generalize pre nds (65 - depthV nds x) 1 [x] = L
  generalize 0 = a
  intro hm
  induction L generalizing a with
  | nil => rfl
  | cons p L ih =>
    obtain ⟨_, h2, h3, _⟩ := hm p (List.mem_cons_self ..)
    rw [List.foldl_cons, List.foldl_cons, show depthV nds p.1 - depthV nds x + 1 = p.2 from by omega]
    exact ih _ (fun q hq => hm q (List.mem_cons_of_mem _ hq))
set_option maxRecDepth 20000 in
set_option maxHeartbeats 1600000 in
theorem visitLevels_any (w0 X : World) (g0 d most : Nat) (q : Value) (h : LvInv w0 g0 most X) :
    Calls Tryz.prog 91 #[q, .int .i64 d, .pointer (some ⟨g0, 0, none⟩)] X fun e X' => e = .returned (.tuple #[]) ∧ LvInv w0 g0 (max most d) X' ∧ Keeps X X' := by
  have k0 := (h.bx.cell 0).trans (show _ = some (.int .i64 most) from rfl)
  have k1 := h.bx.frozen 0
  have HL : Hid (∀ u : Int, u = ((max most d : Nat) : Int) → LvInv w0 g0 (max most d) (X.setCell ⟨g0, 0, none⟩ (.int .i64 u)) ∧ Keeps X (X.setCell ⟨g0, 0, none⟩ (.int .i64 u))) := Lib.hid fun u hu => by
    subst hu
    refine ⟨⟨only_set h.gr 0 _, h.bx.set_ 0 _⟩, by simp [World.setCell], fun g t cs ht1 ht2 hb => ?_⟩
    exact hb.far (p := ⟨g0, 0, none⟩) (hb.ne_ h.bx ht1) _
  clear h
  by_cases hd : (most : Int) ≤ (d : Int)
  · have hmx : max (most : Int) (d : Int) = (d : Int) := by omega
    go_enter Tryz.func91, Tryz.ntmps91
    go_wp2_with fail
    (try rw [Exit.noGoto_ret])
    (try simp only [Exit.inBlock, Exit.then])
    first | refine bodyPost_ret (results_none (by kernel_rfl) _ _ _) rfl ?_ | refine bodyPost_end (results_none (by kernel_rfl) _ _ _) rfl ?_
    exact ⟨rfl, HL.out _ (by omega)⟩
  · have hmx : max (most : Int) (d : Int) = (most : Int) := by omega
    go_enter Tryz.func91, Tryz.ntmps91
    go_wp2_with fail
    (try rw [Exit.noGoto_ret])
    (try simp only [Exit.inBlock, Exit.then])
    first | refine bodyPost_ret (results_none (by kernel_rfl) _ _ _) rfl ?_ | refine bodyPost_end (results_none (by kernel_rfl) _ _ _) rfl ?_
    exact ⟨rfl, HL.out _ (by omega)⟩
set_option maxRecDepth 100000 in
set_option maxHeartbeats 3200000 in
theorem levels_any (w : World) (hi : Nat) (next id : Int) (A : Option Addr) (n c : Nat) (nds : List Nd) (h : NodesIn w 0 hi A n c nds) (hh : hi ≤ w.heap.size) (hR : RightM next nds) (nd : Nd) (hx : ndOf nds id = some nd) :
    Calls Tryz.prog 56 #[.agg #[.int .i64 next, .slice A n c], .int .i64 id] w (Ret w (.int .i64 (hiV nds id))) := by
  have HM0 := Lib.hid (M1.start w next A n c)
  have hn4 : n ≤ 4096 := by rw [← h.1]; exact hR.len
  have hd := depthV_le nds id
  have HM3 := Lib.hid (HM0.out.after (below_more (Below.refl _ _) (.cells #[.int .i64 0] 3)))
  have HB3 := Lib.hid (Blk.new (w.alloc (.cells #[.int .i64 next, .slice A n c] 26)) 3 #[.int .i64 0])
  go_enter Tryz.func56, Tryz.ntmps56
  go_upto_region 2 with (fail)
  have hq : (w.alloc (.cells #[.int .i64 next, .slice A n c] 26)).heap.size = w.heap.size + 1 := by simp
  rw [hq] at HB3
  clear hq
  generalize (w.alloc (.cells #[.int .i64 next, .slice A n c] 26)).alloc (.cells #[.int .i64 0] 3) = X3 at HM3 HB3 ⊢
  have HOv : Hid (∀ Y g, Below X3.heap.size X3 Y → Blk Y g 3 #[.int .i64 id] → X3.heap.size ≤ g → Calls Tryz.prog 31 #[.agg #[.int .i64 next, .slice A n c], .slice (some ⟨g, 0, none⟩) 1 1, .func (.func 91) #[] #[.pointer (some ⟨w.heap.size + 1, 0, none⟩)]] Y fun e X' => e = .returned (.tuple #[]) ∧ LvInv Y (w.heap.size + 1) (hiV nds id) X') := Lib.hid fun Y g hY hg hgle => by
    have hMY := HM3.out.after hY
    have hBY := HB3.out.after hY
    have hNY := h.below (hMY.bel.mono hh)
    have hYs := Nat.le_trans hh hMY.bel.size
    have hgl := HB3.out.lt
    have hV : Visit Y (w.heap.size + 1) 4096 A nds 91 #[.pointer (some ⟨w.heap.size + 1, 0, none⟩)] (fun X l => LvInv Y (w.heap.size + 1) (l.foldl (fun a p => max a p.2) 0) X) :=
      ⟨by intro args w; go_simp, fun X l h => h.gr, fun X X' l h hb => h.after hb, fun X l i nd d b o h _ _ _ _ => by
        rw [List.foldl_append]
        exact visitLevels_any Y X (w.heap.size + 1) d _ _ h⟩
    have h1 := over_any Y hi (w.heap.size + 1) 4096 next A n c nds 91 #[.pointer (some ⟨w.heap.size + 1, 0, none⟩)] _ hV hNY hYs (by omega) hR.rise hn4 ⟨World.grownBy.refl _ _, hBY⟩ (65 - depthV nds id) [id] (some ⟨g, 0, none⟩) 1 1 (ok_of hR _ _ _ (by omega) (preI_pre hR hx))
      (RowF.of (lo := g) (hi := g + 1) (by simpa [intCells] using row_blk (size := 1) (n := 1) (c := 1) hg (by simp) (Nat.le_refl _) (by unfold maxLen; omega)) hg.lt (.inl (by omega))) (Nat.le_trans (pre_len hR (by simp) (preI_pre hR hx)) hR.len) (by omega)
    rw [hi_pre hR hx] at h1
    exact h1
  have k0 := (HM3.out.a.cell 0).trans (show _ = some (.int .i64 next) from rfl)
  have k1 := (HM3.out.a.cell 1).trans (show _ = some (.slice A n c) from rfl)
  clear h hR hx
  go_wp2_with (go_at_call 31; go_must (refine (HOv.out _ _ (below_more (Below.refl _ _) _) (Blk.new _ _ _) (Nat.le_refl _)).mono ?_; rintro e w5 ⟨rfl, hi5⟩; have hc5 := (hi5.bx.cell 0).trans (show _ = some (.int .i64 (hiV nds id)) from rfl); have HB5 := Lib.hid (Below.only (HM3.out.after (below_more (Below.refl _ _) _)).bel hi5.gr (HM3.out.after (below_more (Below.refl _ _) _)).bel.size (Nat.le_succ _)); clear hi5))
  go_ret
  exact ⟨rfl, HB5.out⟩
end Go.Proofs.YtbkmdlfenbfdlaaGreat
namespace Go.Proofs.YtbkmdlfenbfdlaaGreat
open Go Go.RowKit Go.Sort
set_option linter.unusedVariables false
attribute [local go_sem ↓] Go.wp_at_zero Go.wp_at_succ
/-- what a put keeps: its box, its own nodes, all but one row of what was there -/
structure RB (w : World) (B : Nat) (next : Int) (g n c : Nat) (l : List (Nd × Leaf)) (X : World) : Prop where
  m : Blk X w.heap.size 26 #[.int .i64 next, .slice (some ⟨g, 0, none⟩) n c]
  gr : w.grownBy X (some g)
  own : OwnM X B (.slice (some ⟨g, 0, none⟩) n c) l
section
variable {w X X' : World} {B : Nat} {next : Int} {g n c : Nat} {l : List (Nd × Leaf)}
theorem RB.start (h : OwnM w B (.slice (some ⟨g, 0, none⟩) n c) l) : RB w B next g n c l (w.alloc (.cells #[.int .i64 next, .slice (some ⟨g, 0, none⟩) n c] 26)) :=
  ⟨Blk.new _ _ _, grown_below (World.grownBy.refl _ _) (below_more (Below.refl _ _) _), h.after (below_more (Below.refl _ _) _)⟩
theorem RB.after (h : RB w B next g n c l X) (hb : Below X.heap.size X X') : RB w B next g n c l X' := ⟨h.m.after hb, grown_below h.gr hb, h.own.after hb⟩
theorem RB.store {i j : Nat} {p q : Nd × Leaf} {u : Value} (h : RB w B next g n c l X) (hn : l.length = n) (hp : l[i]? = some p) (hj : j < 7) (hq : (ndCells p).set j u = ndCells q) (hl : OwnLeaf X B q.1 q.2) : RB w B next g n c (l.set i q) (X.setCell ⟨g, i * 7 + j, none⟩ u) := by
  subst hn
  obtain ⟨cs, hg, _, _⟩ := own_blk (n := l.length) (xs := allCells l) h.own.own
  exact ⟨h.m.far (p := ⟨g, _, none⟩) (h.m.ne_ hg (by decide)) u, grown_set h.gr _ u, h.own.store rfl hp hj hq hl⟩
theorem RB.cellAt {i j : Nat} {p : Nd × Leaf} {u : Value} (h : RB w B next g n c l X) (hn : l.length = n) (hp : l[i]? = some p) (hj : j < 7) (hu : (ndCells p)[j]? = some u) : X.cell? ⟨g, i * 7 + j, none⟩ = some u := by
  subst hn
  have hi := (List.getElem?_eq_some_iff.1 hp).1
  have h1 := World.ownsRow.cellAt (n := l.length) (xs := allCells l) h.own.own (i * 7 + j) (by omega)
  rw [h1]
  unfold allCells
  rw [flatN_get ndCells_len l i p hp j hj]
  exact hu
theorem RB.frozenAt {j : Nat} (h : RB w B next g n c l X) (hn : l.length = n) : X.frozen? ⟨g, j, none⟩ = false := by
  subst hn
  exact World.ownsRow.frozenAt (n := l.length) (xs := allCells l) h.own.own j
theorem RB.nodes (h : RB w B next g n c l X) (hn : l.length = n) : NodesIn X 0 X.heap.size (some ⟨g, 0, none⟩) n c (l.map (·.1)) := (h.own.nodesIn hn).mono (Nat.zero_le _) (Nat.le_refl _)
theorem RB.at_ (h : RB w B next g n c l X) (hn : l.length = n) (hn4 : n ≤ 4096) (hr : Rise (l.map (·.1))) {i : Nat} {p : Nd × Leaf} {id : Int} (hp : l[i]? = some p) (hid : p.1.id = id) :
    Calls Tryz.prog 71 #[.agg #[.int .i64 next, .slice (some ⟨g, 0, none⟩) n c], .int .i64 id] X (Ret X (.int .i64 i)) := by
  have h1 := refAt_any X X.heap.size next id _ n c _ (h.nodes hn) (Nat.le_refl _) hr hn4
  rw [show atV (l.map (·.1)) id = i from by unfold atV; rw [ixOf_is hr (by rw [List.getElem?_map, hp]; rfl) hid]] at h1
  exact h1
end
end Go.Proofs.YtbkmdlfenbfdlaaGreat
namespace Go.Proofs.YtbkmdlfenbfdlaaGreat
open Go Go.RowKit Go.Sort
set_option linter.unusedVariables false
attribute [local go_sem ↓] Go.wp_at_zero Go.wp_at_succ
theorem OwnM.cellT {X : World} {B n c g i j : Nat} {l : List (Nd × Leaf)} {p : Nd × Leaf} {u : Value} (h : OwnM X B (.slice (some ⟨g, 0, none⟩) n c) l) (hn : l.length = n) (hp : l[i]? = some p) (hj : j < 7) (hu : (ndCells p)[j]? = some u) : X.cell? ⟨g, i * 7 + j, none⟩ = some u ∧ X.frozen? ⟨g, i * 7 + j, none⟩ = false := by
  subst hn
  have hi := (List.getElem?_eq_some_iff.1 hp).1
  have h1 := World.ownsRow.cellAt (n := l.length) (xs := allCells l) h.own (i * 7 + j) (by omega)
  refine ⟨?_, World.ownsRow.frozenAt (n := l.length) (xs := allCells l) h.own _⟩
  rw [h1]
  unfold allCells
  rw [flatN_get ndCells_len l i p hp j hj]
  exact hu
/-- a list of numbers without one -/
def lessI (id : Int) (l : List Int) : List Int := l.filter fun k => k != id
theorem lessI_succ (id : Int) (l : List Int) {k : Nat} {x : Int} (h : l[k]? = some x) : lessI id (l.take (k + 1)) = lessI id (l.take k) ++ if (x != id) = true then [x] else [] := by
  unfold lessI
  rw [List.take_add_one, h, List.filter_append]
  cases hx : (x != id) <;> simp [hx]
theorem lessI_len (id : Int) (l : List Int) : (lessI id l).length ≤ l.length := List.length_filter_le _ _
end Go.Proofs.YtbkmdlfenbfdlaaGreat
namespace Go.Proofs.YtbkmdlfenbfdlaaGreat
open Go Go.RowKit Go.Sort
set_option linter.unusedVariables false
attribute [local go_sem ↓] Go.wp_at_zero Go.wp_at_succ
/-- make of no elements with room for m -/
theorem make_room {P : Program} (t e : TypeId) (i : TypeInfo) (z : Value) (bytes : Nat) (ht : P.underlying t = some (.slice e)) (hi : P.info? e = some i) (hz : i.zero = some z) (hs : i.size = 1) (hb : i.bytes = bytes) (hzs : z.cells.size = 1)
    (m : Nat) (hn : m * bytes ≤ 140737488355328) (hm : m ≤ 9223372036854775807) : ∃ cur : Array Value, cur.size = m ∧ ∀ w : World, (Instr.makeSlice t (.int .i64 0) (.int .i64 (m : Int))).run P w = .ok (.slice (some ⟨w.heap.size, 0, none⟩) 0 m) (w.alloc (.cells cur e)) := by
  refine ⟨madeCells z.cells (m * i.size), ?_, fun w => ?_⟩
  · rw [hs]; simp [madeCells]
  · have h1 : (i.bytes : Int) * (m : Int) ≤ 281474976710656 := by
      have h2 : ((m * bytes : Nat) : Int) ≤ 281474976710656 := by omega
      rw [Int.natCast_mul] at h2
      rw [hb, Int.mul_comm]
      exact h2
    have hr := run_make (P := P) w t e i z ht hi hz .i64 .i64 0 m (by omega) (by omega) h1 (by omega)
    simp only [Int.toNat_natCast, Int.toNat_zero] at hr
    exact hr
theorem own_room {X : World} {B g m : Nat} {e : TypeId} {cur : Array Value} (hg : Blk X g e cur) (hB : B ≤ g) (hs : cur.size = m) (hm : m ≤ maxLen) : X.ownsRow B e 1 (.slice (some ⟨g, 0, none⟩) 0 m) 0 [] :=
  ⟨by simp, .inr ⟨g, m, cur, rfl, hB, hg, Nat.zero_le _, hm, by simpa using hs, by simp⟩⟩
set_option maxRecDepth 20000 in
set_option maxHeartbeats 3200000 in
theorem takeRoot_any (w : World) (B : Nat) (next id : Int) (g n c : Nat) (l : List (Nd × Leaf)) (h : OwnM w B (.slice (some ⟨g, 0, none⟩) n c) l) (hn : l.length = n) (hn4 : n ≤ 4096) (hr : Rise (l.map (·.1))) (ii : Nat) (p : Nd × Leaf) (hp : l[ii]? = some p) (hid : p.1.id = id) (h0 : p.1.par = 0) :
    Calls Tryz.prog 48 #[.agg #[.int .i64 next, .slice (some ⟨g, 0, none⟩) n c], .int .i64 id] w (PutPost w B g n c (l.map (·.1))) := by
  have hBg : B ≤ w.heap.size := by
    obtain ⟨cs, hg, h1, _⟩ := own_blk (n := n) (xs := allCells l) (by have := h.own; unfold OwnN at this; rw [hn] at this; exact this)
    exact Nat.le_trans h1 (Nat.le_of_lt hg.lt)
  have hgl : g < w.heap.size := by
    obtain ⟨cs, hg, h1, _⟩ := own_blk (n := n) (xs := allCells l) (by have := h.own; unfold OwnN at this; rw [hn] at this; exact this)
    exact hg.lt
  have HH := Lib.hid h
  have hii : ii < n := by rw [← hn]; exact (List.getElem?_eq_some_iff.1 hp).1
  have hnc : n ≤ c ∧ c ≤ maxLen := by have := (h.nodesIn hn).2; exact ⟨this.1, this.2.1⟩
  unfold maxLen at hnc
  have HM0 := Lib.hid (M1.start w next (some ⟨g, 0, none⟩) n c)
  have hnw : NodesIn w 0 w.heap.size (some ⟨g, 0, none⟩) n c (l.map (·.1)) := (h.nodesIn hn).mono (Nat.zero_le _) (Nat.le_refl _)
  have hpm : (l.map (·.1))[ii]? = some p.1 := by rw [List.getElem?_map, hp]; rfl
  have hix : ixOf (l.map (·.1)) id = some ii := ixOf_is hr hpm hid
  have HNi : Hid (∀ X, Below w.heap.size w X → Calls Tryz.prog 42 #[.agg #[.int .i64 next, .slice (some ⟨g, 0, none⟩) n c], .int .i64 id] X (Ret X (.pointer (some ⟨g, ii * 7, none⟩)))) := Lib.hid fun X hX =>
    node_any X w.heap.size next id (some ⟨g, 0, none⟩) n c (l.map (·.1)) (hnw.below hX) hX.size hr hn4 (.pointer (some ⟨g, ii * 7, none⟩)) (by rw [hix]; exact ⟨g, 0, rfl, by simp⟩)
  have hc2 : w.cell? ⟨g, ii * 7 + 2, none⟩ = some (.int .i64 p.1.par) := (h.cellT hn hp (j := 2) (by omega) rfl).1
  obtain ⟨par, hpar⟩ : ∃ par, p.1.par = par := ⟨_, rfl⟩
  rw [hpar] at hc2
  have HSof : Hid (∀ X, M1 w next (some ⟨g, 0, none⟩) n c X → X.cell? ⟨w.heap.size, 0, none⟩ = some (.int .i64 next) ∧ X.cell? ⟨w.heap.size, 1, none⟩ = some (.slice (some ⟨g, 0, none⟩) n c) ∧ X.cell? ⟨g, ii * 7 + 2, none⟩ = some (.int .i64 par)) := Lib.hid fun X hX => ⟨(hX.a.cell 0).trans rfl, (hX.a.cell 1).trans rfl, (hX.bel.cell (p := ⟨g, _, none⟩) hgl).trans hc2⟩
  have HNp : Hid (∀ X, Below w.heap.size w X → Calls Tryz.prog 42 #[.agg #[.int .i64 next, .slice (some ⟨g, 0, none⟩) n c], .int .i64 par] X (Ret X (.pointer none))) := Lib.hid fun X hX =>
    node_any X w.heap.size next par (some ⟨g, 0, none⟩) n c (l.map (·.1)) (hnw.below hX) hX.size hr hn4 (.pointer none) (by
      cases hx : ixOf (l.map (·.1)) par with
      | none => rfl
      | some j =>
        obtain ⟨y, hy, hye⟩ := ixOf_some hx
        have := hr.pos j y hy
        omega)
  clear h hn hr hp hid h0 hnw hpm hc2 hpar hix
  go_enter Tryz.func48, Tryz.ntmps48
  go_upto_region 1 with (fail)
  have HX := Lib.hid (HM0.out.after (below_drew1 _))
  refine wp_region_held_tail 8 (fun w' => w'.cell? ⟨w.heap.size, 0, none⟩ = some (.int .i64 next) ∧ w'.cell? ⟨w.heap.size, 1, none⟩ = some (.slice (some ⟨g, 0, none⟩) n c) ∧ w'.cell? ⟨g, ii * 7 + 2, none⟩ = some (.int .i64 par)) (by kernel_rfl) (by kernel_rfl) ?hSt (fun hHeld => ?qt0)
  case hSt => exact HSof.out _ HX.out
  case qt0 =>
    generalize (w.alloc (.cells #[.int .i64 next, .slice (some ⟨g, 0, none⟩) n c] 26)).drew = wz at HX hHeld ⊢
    simp only [List.take_succ_cons, List.take_zero, List.drop_succ_cons, List.drop_zero]
    refine wpAnyH_take (i := 0) (v := (.agg #[.int .i64 next, .slice (some ⟨g, 0, none⟩) n c])) rfl (by kernel_rfl) (by kernel_rfl) (by kernel_rfl) (fun _ _ _ h => h) (Or.inl ⟨by rfl, ?yt_1⟩) (by assumption) ?qt_1
    case yt_1 => (intro w hSw; (try dsimp only at hSw); go_simp)
    case qt_1 =>
      (try simp only [Act.put]); (try simp only [List.setIfInBounds_toArray])
      refine wpAnyH_take (i := 1) (v := (.agg #[.int .i64 next, .slice (some ⟨g, 0, none⟩) n c])) rfl (by kernel_rfl) (by kernel_rfl) (by kernel_rfl) (fun _ _ _ h => h) (Or.inl ⟨by rfl, ?yt_2⟩) (by assumption) ?qt_2
      case yt_2 => (intro w hSw; (try dsimp only at hSw); go_simp)
      case qt_2 =>
        (try simp only [Act.put]); (try simp only [List.setIfInBounds_toArray])
        refine wpAnyH_take (i := 2) (v := (.int .i64 id)) rfl (by kernel_rfl) (by kernel_rfl) (by kernel_rfl) (fun _ _ _ h => h) (Or.inl ⟨by rfl, ?yt_3⟩) (by assumption) ?qt_3
        case yt_3 => (intro w hSw; (try dsimp only at hSw); go_simp)
        case qt_3 =>
          (try simp only [Act.put]); (try simp only [List.setIfInBounds_toArray])
          refine wpAnyH_ready (rs := [3]) (by kernel_rfl) (by simp) ?_
          refine AllReadyH.cons rfl (fun K hK => ?st_4) ?mt_4
          case st_4 =>
            (refine step_call _ (by rfl) 42 #[.agg #[.int .i64 next, .slice (some ⟨g, 0, none⟩) n c], .int .i64 id] (by go_simp) (HNi.out _ HX.out.bel) ?_; rintro e Yb ⟨rfl, hbb⟩; refine ⟨_, rfl, ?_⟩; replace HX := Lib.hid (HX.out.after hbb); clear hbb)
            refine hK.out _ _ ?kt_4 (fun hHeld => ?qt_4)
            case kt_4 => ((try dsimp only); exact HSof.out _ HX.out)
            case qt_4 =>
              clear hK K
              (try simp only [Act.put]); (try simp only [List.setIfInBounds_toArray])
              refine wpAnyH_take (i := 4) (v := (.pointer (some ⟨g, ii * 7, none⟩))) rfl (by kernel_rfl) (by kernel_rfl) (by kernel_rfl) (fun _ _ _ h => h) (Or.inl ⟨by rfl, ?yt_5⟩) (by assumption) ?qt_5
              case yt_5 => (intro w hSw; (try dsimp only at hSw); go_simp)
              case qt_5 =>
                (try simp only [Act.put]); (try simp only [List.setIfInBounds_toArray])
                refine wpAnyH_take (i := 5) (v := (.pointer (some ⟨g, ii * 7 + 2, none⟩))) rfl (by kernel_rfl) (by kernel_rfl) (by kernel_rfl) (fun _ _ _ h => h) (Or.inl ⟨by rfl, ?yt_6⟩) (by assumption) ?qt_6
                case yt_6 => (intro w hSw; (try dsimp only at hSw); go_simp)
                case qt_6 =>
                  (try simp only [Act.put]); (try simp only [List.setIfInBounds_toArray])
                  refine wpAnyH_take (i := 6) (v := (.int .i64 par)) rfl (by kernel_rfl) (by kernel_rfl) (by kernel_rfl) (fun _ _ _ h => h) (Or.inl ⟨by rfl, ?yt_7⟩) (by assumption) ?qt_7
                  case yt_7 => (intro w hSw; (try dsimp only at hSw); go_simp)
                  case qt_7 =>
                    (try simp only [Act.put]); (try simp only [List.setIfInBounds_toArray])
                    refine wpAnyH_ready (rs := [7]) (by kernel_rfl) (by simp) ?_
                    refine AllReadyH.cons rfl (fun K hK => ?st_8) ?mt_8
                    case st_8 =>
                      (refine step_call _ (by rfl) 42 #[.agg #[.int .i64 next, .slice (some ⟨g, 0, none⟩) n c], .int .i64 par] (by go_simp) (HNp.out _ HX.out.bel) ?_; rintro e Yb ⟨rfl, hbb⟩; refine ⟨_, rfl, ?_⟩; replace HX := Lib.hid (HX.out.after hbb); clear hbb)
                      refine hK.out _ _ ?kt_8 (fun hHeld => ?qt_8)
                      case kt_8 => ((try dsimp only); exact HSof.out _ HX.out)
                      case qt_8 =>
                        clear hK K
                        (try simp only [Act.put]); (try simp only [List.setIfInBounds_toArray])
                        refine wpAnyH_done (by kernel_rfl) ?_ _
                        show wpList _ _ _ _ _ _
                        clear hHeld
                        go_wp2_with fail
                        (try rw [Exit.noGoto_ret])
                        (try simp only [Exit.inBlock, Exit.then])
                        first | refine bodyPost_ret (results_none (by kernel_rfl) _ _ _) rfl ?_ | refine bodyPost_end (results_none (by kernel_rfl) _ _ _) rfl ?_
                        exact ⟨rfl, l, HH.out.after HX.out.bel, grown_below (World.grownBy.refl w _) HX.out.bel, rfl⟩
                    case mt_8 =>
                      exact AllReadyH.nil
          case mt_4 =>
            exact AllReadyH.nil
set_option maxRecDepth 20000 in
set_option maxHeartbeats 3200000 in
theorem takeBelow_any (w : World) (B : Nat) (next id : Int) (g n c : Nat) (l : List (Nd × Leaf)) (h : OwnM w B (.slice (some ⟨g, 0, none⟩) n c) l) (hn : l.length = n) (hn4 : n ≤ 4096) (hr : Rise (l.map (·.1))) (ii : Nat) (p : Nd × Leaf) (hp : l[ii]? = some p) (hid : p.1.id = id) (h0 : p.1.par ≠ 0)
    (jj : Nat) (x : Nd) (M : Leaf) (hx1 : l[jj]? = some (x, M)) (hx2 : x.id = p.1.par) (hkl : x.kids.length ≤ 4096) (hk0 : 0 < x.kids.length) :
    Calls Tryz.prog 48 #[.agg #[.int .i64 next, .slice (some ⟨g, 0, none⟩) n c], .int .i64 id] w (PutPost w B g n c ((l.map (·.1)).set jj { x with kids := lessI id x.kids })) := by
  have hBg : B ≤ w.heap.size := by
    obtain ⟨cs, hg, h1, _⟩ := own_blk (n := n) (xs := allCells l) (by have := h.own; unfold OwnN at this; rw [hn] at this; exact this)
    exact Nat.le_trans h1 (Nat.le_of_lt hg.lt)
  have hgl : g < w.heap.size := by
    obtain ⟨cs, hg, h1, _⟩ := own_blk (n := n) (xs := allCells l) (by have := h.own; unfold OwnN at this; rw [hn] at this; exact this)
    exact hg.lt
  have HH := Lib.hid h
  have hii : ii < n := by rw [← hn]; exact (List.getElem?_eq_some_iff.1 hp).1
  have hnc : n ≤ c ∧ c ≤ maxLen := by have := (h.nodesIn hn).2; exact ⟨this.1, this.2.1⟩
  unfold maxLen at hnc
  have HM0 := Lib.hid (M1.start w next (some ⟨g, 0, none⟩) n c)
  have hnw : NodesIn w 0 w.heap.size (some ⟨g, 0, none⟩) n c (l.map (·.1)) := (h.nodesIn hn).mono (Nat.zero_le _) (Nat.le_refl _)
  have hpm : (l.map (·.1))[ii]? = some p.1 := by rw [List.getElem?_map, hp]; rfl
  have hix : ixOf (l.map (·.1)) id = some ii := ixOf_is hr hpm hid
  have HNi : Hid (∀ X, Below w.heap.size w X → Calls Tryz.prog 42 #[.agg #[.int .i64 next, .slice (some ⟨g, 0, none⟩) n c], .int .i64 id] X (Ret X (.pointer (some ⟨g, ii * 7, none⟩)))) := Lib.hid fun X hX =>
    node_any X w.heap.size next id (some ⟨g, 0, none⟩) n c (l.map (·.1)) (hnw.below hX) hX.size hr hn4 (.pointer (some ⟨g, ii * 7, none⟩)) (by rw [hix]; exact ⟨g, 0, rfl, by simp⟩)
  have hc2 : w.cell? ⟨g, ii * 7 + 2, none⟩ = some (.int .i64 p.1.par) := (h.cellT hn hp (j := 2) (by omega) rfl).1
  obtain ⟨par, hpar⟩ : ∃ par, p.1.par = par := ⟨_, rfl⟩
  rw [hpar] at hc2
  have HSof : Hid (∀ X, M1 w next (some ⟨g, 0, none⟩) n c X → X.cell? ⟨w.heap.size, 0, none⟩ = some (.int .i64 next) ∧ X.cell? ⟨w.heap.size, 1, none⟩ = some (.slice (some ⟨g, 0, none⟩) n c) ∧ X.cell? ⟨g, ii * 7 + 2, none⟩ = some (.int .i64 par)) := Lib.hid fun X hX => ⟨(hX.a.cell 0).trans rfl, (hX.a.cell 1).trans rfl, (hX.bel.cell (p := ⟨g, _, none⟩) hgl).trans hc2⟩
  have hjj : jj < n := by rw [← hn]; exact (List.getElem?_eq_some_iff.1 hx1).1
  have hxm : (l.map (·.1))[jj]? = some x := by rw [List.getElem?_map, hx1]; rfl
  have HNp : Hid (∀ X, Below w.heap.size w X → Calls Tryz.prog 42 #[.agg #[.int .i64 next, .slice (some ⟨g, 0, none⟩) n c], .int .i64 par] X (Ret X (.pointer (some ⟨g, jj * 7, none⟩)))) := Lib.hid fun X hX =>
    node_any X w.heap.size next par (some ⟨g, 0, none⟩) n c (l.map (·.1)) (hnw.below hX) hX.size hr hn4 (.pointer (some ⟨g, jj * 7, none⟩)) (by rw [ixOf_is hr hxm (by rw [hx2, hpar])]; exact ⟨g, 0, rfl, by simp⟩)
  obtain ⟨⟨Ap, np, cp⟩, ⟨Ak, nk, ck⟩, ⟨Ar, nr, cr⟩⟩ := M
  have hlf := h.leaf _ (List.mem_of_getElem? hx1)
  have hkn : nk = x.kids.length := hlf.kn
  have hrow := own_row hlf.k
  simp only at hrow
  have hrow0 : Row w 0 w.heap.size 1 Ak nk ck (intCells x.kids) := hrow.mono (Nat.zero_le _) (Nat.le_refl _)
  have hnk := hrow.2.1
  have hck := hrow.2.2.1
  unfold maxLen at hck
  have hc5 := (h.cellT hn hx1 (j := 5) (by omega) rfl).1
  simp only at hc5
  have HC5 : Hid (∀ X, Below w.heap.size w X → X.cell? ⟨g, jj * 7 + 5, none⟩ = some (.slice Ak nk ck)) := Lib.hid fun X hX => (hX.cell (p := ⟨g, _, none⟩) hgl).trans hc5
  obtain ⟨bk, ok, hAk, _, hbk, hck2⟩ := hrow0.2.2.2 (by omega)
  subst hAk
  have HCK : Hid (∀ (X : World), Below w.heap.size w X → ∀ (k : Nat) kid, x.kids[k]? = some kid → X.cell? ⟨bk, ok + k, none⟩ = some (.int .i64 kid)) := Lib.hid fun X hX k kid hk => (hX.cell (p := ⟨bk, ok + k, none⟩) hbk).trans (hck2 k _ (intCells_get hk))
  have HKN := Lib.hid hkn
  have hnk4 : nk ≤ 4096 := by omega
  obtain ⟨m, hm⟩ : ∃ m, nk = m + 1 := ⟨nk - 1, by omega⟩
  have HLN := Lib.hid hn
  have HX1 := Lib.hid hx1
  obtain ⟨i0, hi0, hz0, hz1, hz2⟩ := info_parts intInfo
  obtain ⟨cur, hcs, hmk⟩ := make_room 33 3 i0 _ 8 Tryz.underlying33 hi0 hz0 hz1 hz2 rfl m (by omega) (by omega)
  have HCS := Lib.hid hcs
  have hmi : (nk : Int) - 1 = (m : Int) := by omega
  have HM1 := Lib.hid hm
  clear h hn hr hp hid h0 hnw hpm hc2 hpar hx1 hx2 hkl hk0 hxm hlf hkn hrow hrow0 hc5 hck2 hix hcs hm
  go_enter Tryz.func48, Tryz.ntmps48
  go_upto_region 1 with (fail)
  have HX := Lib.hid (HM0.out.after (below_drew1 _))
  refine wp_region_held_tail 8 (fun w' => w'.cell? ⟨w.heap.size, 0, none⟩ = some (.int .i64 next) ∧ w'.cell? ⟨w.heap.size, 1, none⟩ = some (.slice (some ⟨g, 0, none⟩) n c) ∧ w'.cell? ⟨g, ii * 7 + 2, none⟩ = some (.int .i64 par)) (by kernel_rfl) (by kernel_rfl) ?hSt (fun hHeld => ?qt0)
  case hSt => exact HSof.out _ HX.out
  case qt0 =>
    generalize (w.alloc (.cells #[.int .i64 next, .slice (some ⟨g, 0, none⟩) n c] 26)).drew = wz at HX hHeld ⊢
    simp only [List.take_succ_cons, List.take_zero, List.drop_succ_cons, List.drop_zero]
    refine wpAnyH_take (i := 0) (v := (.agg #[.int .i64 next, .slice (some ⟨g, 0, none⟩) n c])) rfl (by kernel_rfl) (by kernel_rfl) (by kernel_rfl) (fun _ _ _ h => h) (Or.inl ⟨by rfl, ?yt_1⟩) (by assumption) ?qt_1
    case yt_1 => (intro w hSw; (try dsimp only at hSw); go_simp)
    case qt_1 =>
      (try simp only [Act.put]); (try simp only [List.setIfInBounds_toArray])
      refine wpAnyH_take (i := 1) (v := (.agg #[.int .i64 next, .slice (some ⟨g, 0, none⟩) n c])) rfl (by kernel_rfl) (by kernel_rfl) (by kernel_rfl) (fun _ _ _ h => h) (Or.inl ⟨by rfl, ?yt_2⟩) (by assumption) ?qt_2
      case yt_2 => (intro w hSw; (try dsimp only at hSw); go_simp)
      case qt_2 =>
        (try simp only [Act.put]); (try simp only [List.setIfInBounds_toArray])
        refine wpAnyH_take (i := 2) (v := (.int .i64 id)) rfl (by kernel_rfl) (by kernel_rfl) (by kernel_rfl) (fun _ _ _ h => h) (Or.inl ⟨by rfl, ?yt_3⟩) (by assumption) ?qt_3
        case yt_3 => (intro w hSw; (try dsimp only at hSw); go_simp)
        case qt_3 =>
          (try simp only [Act.put]); (try simp only [List.setIfInBounds_toArray])
          refine wpAnyH_ready (rs := [3]) (by kernel_rfl) (by simp) ?_
          refine AllReadyH.cons rfl (fun K hK => ?st_4) ?mt_4
          case st_4 =>
            (refine step_call _ (by rfl) 42 #[.agg #[.int .i64 next, .slice (some ⟨g, 0, none⟩) n c], .int .i64 id] (by go_simp) (HNi.out _ HX.out.bel) ?_; rintro e Yb ⟨rfl, hbb⟩; refine ⟨_, rfl, ?_⟩; replace HX := Lib.hid (HX.out.after hbb); clear hbb)
            refine hK.out _ _ ?kt_4 (fun hHeld => ?qt_4)
            case kt_4 => ((try dsimp only); exact HSof.out _ HX.out)
            case qt_4 =>
              clear hK K
              (try simp only [Act.put]); (try simp only [List.setIfInBounds_toArray])
              refine wpAnyH_take (i := 4) (v := (.pointer (some ⟨g, ii * 7, none⟩))) rfl (by kernel_rfl) (by kernel_rfl) (by kernel_rfl) (fun _ _ _ h => h) (Or.inl ⟨by rfl, ?yt_5⟩) (by assumption) ?qt_5
              case yt_5 => (intro w hSw; (try dsimp only at hSw); go_simp)
              case qt_5 =>
                (try simp only [Act.put]); (try simp only [List.setIfInBounds_toArray])
                refine wpAnyH_take (i := 5) (v := (.pointer (some ⟨g, ii * 7 + 2, none⟩))) rfl (by kernel_rfl) (by kernel_rfl) (by kernel_rfl) (fun _ _ _ h => h) (Or.inl ⟨by rfl, ?yt_6⟩) (by assumption) ?qt_6
                case yt_6 => (intro w hSw; (try dsimp only at hSw); go_simp)
                case qt_6 =>
                  (try simp only [Act.put]); (try simp only [List.setIfInBounds_toArray])
                  refine wpAnyH_take (i := 6) (v := (.int .i64 par)) rfl (by kernel_rfl) (by kernel_rfl) (by kernel_rfl) (fun _ _ _ h => h) (Or.inl ⟨by rfl, ?yt_7⟩) (by assumption) ?qt_7
                  case yt_7 => (intro w hSw; (try dsimp only at hSw); go_simp)
                  case qt_7 =>
                    (try simp only [Act.put]); (try simp only [List.setIfInBounds_toArray])
                    refine wpAnyH_ready (rs := [7]) (by kernel_rfl) (by simp) ?_
                    refine AllReadyH.cons rfl (fun K hK => ?st_8) ?mt_8
                    case st_8 =>
                      (refine step_call _ (by rfl) 42 #[.agg #[.int .i64 next, .slice (some ⟨g, 0, none⟩) n c], .int .i64 par] (by go_simp) (HNp.out _ HX.out.bel) ?_; rintro e Yb ⟨rfl, hbb⟩; refine ⟨_, rfl, ?_⟩; replace HX := Lib.hid (HX.out.after hbb); clear hbb)
                      refine hK.out _ _ ?kt_8 (fun hHeld => ?qt_8)
                      case kt_8 => ((try dsimp only); exact HSof.out _ HX.out)
                      case qt_8 =>
                        clear hK K
                        (try simp only [Act.put]); (try simp only [List.setIfInBounds_toArray])
                        refine wpAnyH_done (by kernel_rfl) ?_ _
                        show wpList _ _ _ _ _ _
                        clear hHeld
                        have q2 := HC5.out _ HX.out.bel
                        go_upto_region 4 with (fail)
                        have HM3 := Lib.hid (HX.out.after (below_more (Below.refl _ _) (.cells cur 3)))
                        rename World => wy
                        have HO3 := Lib.hid (own_room (B := w.heap.size) (Blk.new wy 3 cur) HX.out.bel.size HCS.out (by unfold maxLen; omega))
                        have q3 := HC5.out _ HM3.out.bel
                        clear q2
                        go_wp2_with (fail)
                        go_loopw [5, 30] (fun v s30 wr => ∃ (k : Nat), k ≤ nk ∧ s30 = .int .i64 k ∧ KW w next (some ⟨g, 0, none⟩) n c v (lessI id (x.kids.take k)) wr) (fun _ v _ => nk - (intOf v).toNat)
                        case atStart => exact ⟨0, Nat.zero_le _, rfl, ⟨HM3.out, HO3.out⟩⟩
                        case round =>
                          obtain ⟨k, hk, rfl, W⟩ := hrel
                          obtain ⟨fo, hfo⟩ : ∃ fo, lessI id (x.kids.take k) = fo := ⟨_, rfl⟩
                          rw [hfo] at W
                          have hfl : fo.length ≤ k := by
                            rw [← hfo]
                            have := lessI_len id (x.kids.take k)
                            rw [List.length_take] at this
                            omega
                          have HFO := Lib.hid hfo
                          have HW := Lib.hid W
                          clear W hfo q3
                          rename World => wr
                          by_cases hlt : k < nk
                          · obtain ⟨kid, hkid⟩ : ∃ kid, x.kids[k]? = some kid := ⟨x.kids[k]'(by have := HKN.out; omega), List.getElem?_eq_getElem _⟩
                            have q4 := HCK.out _ HW.out.m.bel k kid hkid
                            have HKD := Lib.hid hkid
                            clear hkid
                            cases hne : (kid != id) with
                            | false =>
                              have hnb : (kid == id) = true := by rw [beq_iff_eq]; exact bne_eq_false_iff_eq.1 hne
                              go_wp2_with fail
                              go_roundw
                              case rel =>
                                refine ⟨k + 1, by omega, rfl, ?_⟩
                                rw [lessI_succ id x.kids HKD.out, hne, if_neg (by decide), List.append_nil, HFO.out]
                                exact HW.out
                              case measure => simp [intOf]; omega
                            | true =>
                              have hnb : (kid == id) = false := by rw [beq_eq_false_iff_ne]; exact bne_iff_ne.1 hne
                              have HNE := Lib.hid hne
                              go_wp2_with (at_builtin; (with_reducible show wpList _ _ _ (⟨some 40, _, _, _, _, _⟩ :: _) _ _); go_must (refine wpList_app _ rfl (.tmp 37) (.tmp 39) _ rfl w.heap.size 3 i0 _ 1 8 Tryz.underlying33 hi0 hz0 hz1 hz2 rfl (by omega) u5 fo.length (intCells fo) rfl (own_after HW.out.own (below_more (Below.refl _ _) _)) wr.heap.size (wr.heap.size + 1) (some ⟨wr.heap.size, 0, none⟩) 1 1 [.int .i64 kid] rfl (row_blk (n := 1) (Blk.new' rfl) rfl (Nat.le_refl _) (by unfold maxLen; omega)) (by simp [Value.oneCell']) (by unfold maxLen; omega) (by omega) (Nat.le_trans HW.out.m.bel.size (by simp)) ?_); go_must (intro v8 w8 hown8 hg8 _; have HX8 := Lib.hid ((HW.out.after (below_more (Below.refl _ _) _)).push hg8 hown8); clear hown8 hg8))
                              go_roundw
                              case rel =>
                                refine ⟨k + 1, by omega, rfl, ?_⟩
                                rw [lessI_succ id x.kids HKD.out, HNE.out, if_pos rfl, HFO.out]
                                exact HX8.out
                              case measure => simp [intOf]; omega
                          · have hkn : k = nk := by omega
                            subst hkn
                            have hfe : fo = lessI id x.kids := by rw [← HFO.out, List.take_of_length_le (by have := HKN.out; omega)]
                            have HFE := Lib.hid hfe
                            clear hfe
                            obtain ⟨Av, cv, hv⟩ := own_form HW.out.own
                            subst hv
                            have hr9 : RB w B next g n c l wr := ⟨HW.out.m.a, grown_below (World.grownBy.refl w _) HW.out.m.bel, HH.out.after HW.out.m.bel⟩
                            have hlf9 := hr9.own.leaf _ (List.mem_of_getElem? HX1.out)
                            have HR10 := Lib.hid (hr9.store (q := ({ x with kids := fo }, ⟨⟨Ap, np, cp⟩, ⟨Av, fo.length, cv⟩, ⟨Ar, nr, cr⟩⟩)) (u := .slice Av fo.length cv) HLN.out HX1.out (j := 5) (by omega) rfl ⟨hlf9.pn, rfl, hlf9.rn, hlf9.p, own_mono HW.out.own hBg, hlf9.r, ⟨hlf9.sz.con, hlf9.sz.role, hlf9.sz.props, hlf9.sz.refs⟩⟩)
                            have f9 := hr9.frozenAt (j := jj * 7 + 5) HLN.out
                            have q9 := hr9.cellAt HLN.out HX1.out (j := 5) (by omega) rfl
                            simp only at q9
                            clear hr9 hlf9
                            go_wp2_with fail
                            (try rw [Exit.noGoto_ret])
                            (try simp only [Exit.inBlock, Exit.then])
                            first | refine bodyPost_ret (results_none (by kernel_rfl) _ _ _) rfl ?_ | refine bodyPost_end (results_none (by kernel_rfl) _ _ _) rfl ?_
                            exact ⟨rfl, _, HR10.out.own, HR10.out.gr, by rw [List.map_set, HFE.out]⟩
                    case mt_8 =>
                      exact AllReadyH.nil
          case mt_4 =>
            exact AllReadyH.nil
end Go.Proofs.YtbkmdlfenbfdlaaGreat
namespace Go.Proofs.YtbkmdlfenbfdlaaGreat
open Go Go.RowKit Go.Sort
set_option linter.unusedVariables false
attribute [local go_sem ↓] Go.wp_at_zero Go.wp_at_succ
section
variable {w X X' : World} {next : Int} {A : Option Addr} {n c : Nat} {ov : Value} {l : List Int}
theorem KW.app {v' : Value} {m : Nat} {l2 : List Int} (h : KW w next A n c ov [] X) (hg : X.grownBy X' ov.ownBlock) (hown : X'.ownsRow w.heap.size 3 1 v' m (intCells l2)) (hm : l2.length = m) : KW w next A n c v' l2 X' :=
  ⟨⟨h.m.a.grown hg (Ne.symm (own_blk_ne h.own h.m.a (by decide))), below_grows h.m.bel hg h.own (Nat.le_refl _)⟩, by rw [hm]; exact hown⟩
end
end Go.Proofs.YtbkmdlfenbfdlaaGreat
namespace Go.Proofs.YtbkmdlfenbfdlaaGreat
open Go Go.RowKit
set_option linter.unusedVariables false
theorem ixOf_more {nds : List Nd} {new : Nd} {k : Int} {i : Nat} (h : ixOf nds k = some i) : ixOf (nds ++ [new]) k = some i := by
  unfold ixOf at h ⊢
  rw [List.findIdx?_append, h]; rfl
theorem ndOf_more {nds : List Nd} {new : Nd} {k : Int} {x : Nd} (h : ndOf nds k = some x) : ndOf (nds ++ [new]) k = some x := by
  obtain ⟨i, h1, h2, _⟩ := ndOf_some h
  unfold ndOf
  rw [ixOf_more h1]
  show (nds ++ [new])[i]? = some x
  rw [List.getElem?_append_left (List.getElem?_eq_some_iff.1 h2).1]
  exact h2
theorem rise_more {nds : List Nd} {new : Nd} (h : Rise nds) (h1 : 1 ≤ new.id) (hl : ∀ (i : Nat) x, nds[i]? = some x → x.id < new.id) : Rise (nds ++ [new]) := by
  have key : ∀ (i : Nat) x, (nds ++ [new])[i]? = some x → nds[i]? = some x ∨ (i = nds.length ∧ x = new) := by
    intro i x hx
    rcases Nat.lt_or_ge i nds.length with hi | hi
    · rw [List.getElem?_append_left hi] at hx; exact .inl hx
    · rw [List.getElem?_append_right hi] at hx
      have : i - nds.length = 0 := by
        rcases Nat.eq_zero_or_pos (i - nds.length) with e | e
        · exact e
        · rw [List.getElem?_eq_none (by simp; omega)] at hx; cases hx
      rw [this] at hx
      exact .inr ⟨by omega, by simpa using hx.symm⟩
  refine ⟨fun i x hx => ?_, fun i j x y hij hx hy => ?_⟩
  · rcases key i x hx with h2 | ⟨_, rfl⟩
    · exact h.pos i x h2
    · exact h1
  · rcases key j y hy with h2 | ⟨hj, rfl⟩
    · rcases key i x hx with h3 | ⟨hi, rfl⟩
      · exact h.lt i j x y hij h3 h2
      · have := (List.getElem?_eq_some_iff.1 h2).1; omega
    · rcases key i x hx with h3 | ⟨hi, rfl⟩
      · exact hl i x h3
      · omega
theorem idxV_le (l : List Int) (x : Int) : -1 ≤ idxV l x ∧ idxV l x < l.length := by
  unfold idxV
  split
  · rename_i i hi
    have := (List.findIdx?_eq_some_iff_getElem.1 hi).1
    omega
  · omega
theorem idxV_mem {l : List Int} {x : Int} (h : x ∈ l) : 0 ≤ idxV l x := by
  have := idxV_ge l x
  rw [List.contains_iff_mem.2 h] at this
  exact of_decide_eq_true this
/-- the place is -1, or one of the list, or its end -/
theorem before_range (f : Int → Bool) (at_ : Int) (all : List Int) : beforeV f at_ all = -1 ∨ ∃ a : Nat, beforeV f at_ all = a ∧ a ≤ all.length := by
  unfold beforeV
  split
  · exact .inl rfl
  · refine .inr ?_
    split
    · rename_i k hk
      have hm := (List.mem_filter.1 (List.mem_of_getElem? hk)).1
      have h1 := idxV_mem hm
      have h2 := idxV_le all k
      exact ⟨(idxV all k).toNat, by omega, by omega⟩
    · split
      · rename_i k hk
        have hm := (List.mem_filter.1 (List.mem_of_getLast? hk)).1
        have h1 := idxV_mem hm
        have h2 := idxV_le all k
        exact ⟨(idxV all k + 1).toNat, by omega, by omega⟩
      · exact ⟨all.length, rfl, Nat.le_refl _⟩
end Go.Proofs.YtbkmdlfenbfdlaaGreat
namespace Go.Proofs.YtbkmdlfenbfdlaaGreat
open Go Go.RowKit Go.Sort
set_option linter.unusedVariables false
attribute [local go_sem ↓] Go.wp_at_zero Go.wp_at_succ
/-- the program's search for a place, of a root too -/
def amV (nds : List Nd) (parent : Int) (role : ByteArray) (at_ : Int) : Int × Bool :=
  if parent = 0 then (0, role.toList.isEmpty && at_ == 0) else match ndOf nds parent with
    | some nd => amongF (inRoleB nds role) at_ 0 nd.kids.length 0 nd.kids
    | none => (0, false)
/-- the index and the error of a branch of L levels and M nodes more at a spot -/
def admV (next : Int) (nds : List Nd) (parent : Int) (role : ByteArray) (at_ : Int) (L M : Nat) : Int × Int :=
  if parent ≠ 0 ∧ (ndOf nds parent).isNone = true then (0, 20)
  else if (amV nds parent role at_).2 = false then (0, 22)
  else if 64 < depthV nds parent + L then (0, 23)
  else if 4096 < nds.length + M then (0, 4)
  else if 1048576 < next - 1 + M then (0, 4)
  else ((amV nds parent role at_).1, 0)
theorem has_ndOf {nds : List Nd} {id : Int} : (ixOf nds id).isSome = (ndOf nds id).isSome := by
  unfold ndOf
  cases h : ixOf nds id with
  | none => rfl
  | some i =>
    obtain ⟨nd, h1, _⟩ := ixOf_some h
    show true = (nds[i]?).isSome
    rw [h1]; rfl
theorem admits_any (w : World) (hi : Nat) (next parent at_ : Int) (role : ByteArray) (L M : Nat) (A : Option Addr) (n c : Nat) (nds : List Nd) (h : NodesIn w 0 hi A n c nds) (hh : hi ≤ w.heap.size) (hr : RightM next nds) (hL : L ≤ 65) (hM : M ≤ 8192) :
    Calls Tryz.prog 45 #[.agg #[.int .i64 parent, .string role, .int .i64 at_], .agg #[.int .i64 next, .slice A n c], .int .i64 L, .int .i64 M] w (Ret w (.tuple #[.int .i64 (admV next nds parent role at_ L M).1, .int .i64 (admV next nds parent role at_ L M).2])) := by
  have hn : n ≤ 4096 := by rw [← h.1]; exact hr.len
  by_cases h1 : parent ≠ 0 ∧ (ndOf nds parent).isNone = true
  · have e : admV next nds parent role at_ L M = (0, 20) := by unfold admV; rw [if_pos h1]
    rw [e]
    exact admits_none w hi next parent at_ role L M A n c nds h hh hr.rise hn (Option.isNone_iff_eq_none.1 h1.2) h1.1
  · have e : admV next nds parent role at_ L M = (if (amV nds parent role at_).2 = false then (0, 22) else if 64 < depthV nds parent + L then (0, 23) else if 4096 < n + M then (0, 4) else if 1048576 < next - 1 + M then (0, 4) else ((amV nds parent role at_).1, 0)) := by
      unfold admV; rw [if_neg h1, h.1]
    have hDep : DepthIs nds parent (depthV nds parent) ∧ depthV nds parent ≤ 64 := by
      by_cases h0 : parent = 0
      · subst h0
        exact ⟨depth_root.1, by rw [depth_root.2]; omega⟩
      · cases hx : ndOf nds parent with
        | none => exact absurd ⟨h0, by rw [hx]; rfl⟩ h1
        | some nd => exact ⟨(hr.depth hx).1, (hr.depth hx).2.2⟩
    refine admits_some w next parent at_ role L M (depthV nds parent) A n c h.2.2.1 hn hr.lo hr.hi hL hM hDep.2 (amV nds parent role at_).1 (amV nds parent role at_).2 ?_ ?_ ?_ _ e.symm
    · refine Lib.hid fun X hX => ?_
      have h2 := has_any X hi next parent A n c nds (h.below (hX.mono hh)) (Nat.le_trans hh hX.size) hr.rise hn
      rw [has_ndOf] at h2
      have e2 : (parent != 0) = (ndOf nds parent).isSome := by
        by_cases h0 : parent = 0
        · subst h0
          have : ndOf nds 0 = none := by
            cases hx : ndOf nds 0 with
            | none => rfl
            | some nd =>
              obtain ⟨i, _, h3, h4⟩ := ndOf_some hx
              have := hr.rise.pos i nd h3
              omega
          rw [this]; rfl
        · cases hx : ndOf nds parent with
          | none => exact absurd ⟨h0, by rw [hx]; rfl⟩ h1
          | some nd => show (parent != 0) = true; rw [bne_iff_ne]; exact h0
      rw [e2]
      exact h2
    · refine Lib.hid fun X hX => ?_
      by_cases h0 : parent = 0
      · subst h0
        have e2 : amV nds 0 role at_ = (0, role.toList.isEmpty && at_ == 0) := by unfold amV; rw [if_pos rfl]
        rw [e2]
        exact among_root X next at_ role A n c _ rfl
      · cases hx : ndOf nds parent with
        | none => exact absurd ⟨h0, by rw [hx]; rfl⟩ h1
        | some nd =>
          obtain ⟨i, _, h3, _⟩ := ndOf_some hx
          have e2 : amV nds parent role at_ = amongF (inRoleB nds role) at_ 0 nd.kids.length 0 nd.kids := by unfold amV; rw [if_neg h0, hx]
          exact among_any X hi next parent at_ role A n c nds (h.below (hX.mono hh)) (Nat.le_trans hh hX.size) nd (hr.kOk (List.mem_of_getElem? h3)) hx h0 _ e2.symm
    · exact Lib.hid fun X hX => depth_any X hi next parent A n c nds (h.below (hX.mono hh)) (Nat.le_trans hh hX.size) hr.rise hn _ hDep.1 (by omega)
end Go.Proofs.YtbkmdlfenbfdlaaGreat
