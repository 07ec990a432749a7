/-
  WALKS: the closures that list the nodes at which they are called.
  WALKS: plain of the document.
  WALKS: below of the document.
-/
import Derived.Test.YtohinklkcinjpaaGreatZR5
namespace Go.Proofs.YtohinklkcinjpaaGreat
open Go Go.RowKit Go.Sort
set_option linter.unusedVariables false
attribute [local go_sem ↓] Go.wp_at_zero Go.wp_at_succ
/-- a box with a list of numbers that grows -/
structure IE (w0 : World) (g0 : Nat) (ov : Value) (X : World) : Prop where
  gr : w0.grownBy X (some g0)
  bx : Blk X g0 33 #[ov]
structure IW (w0 : World) (g0 : Nat) (ov : Value) (r : List Int) (X : World) : Prop where
  e : IE w0 g0 ov X
  own : X.ownsRow w0.heap.size 3 1 ov r.length (intCells r)
def IdsInv (w0 : World) (g0 : Nat) (r : List Int) (X : World) : Prop := ∃ ov, IW w0 g0 ov r X
section
variable {w0 X X' : World} {g0 : Nat} {ov : Value} {r : List Int}
theorem own_base {w : World} {B size n : Nat} {e : TypeId} {v : Value} {xs : List Value} (h : w.ownsRow B e size v n xs) {g : Nat} (hg : v.ownBlock = some g) : B ≤ g := by
  rcases h.2 with ⟨rfl, _⟩ | ⟨g', cap, cur, rfl, hb, _⟩
  · simp [Value.ownBlock] at hg
  · have : g' = g := by simpa [Value.ownBlock] using hg
    omega
theorem IE.after (h : IE w0 g0 ov X) (hb : Below X.heap.size X X') : IE w0 g0 ov X' :=
  ⟨⟨hb.os.trans h.gr.os, hb.tape.trans h.gr.tape, hb.output.trans h.gr.output, Nat.le_trans h.gr.size hb.size, fun k hk hne => (hb.block k (Nat.lt_of_lt_of_le hk h.gr.size)).trans (h.gr.block k hk hne)⟩, h.bx.after hb⟩
theorem IW.after (h : IW w0 g0 ov r X) (hb : Below X.heap.size X X') : IW w0 g0 ov r X' := ⟨h.e.after hb, own_after h.own hb⟩
theorem IdsInv.after (h : IdsInv w0 g0 r X) (hb : Below X.heap.size X X') : IdsInv w0 g0 r X' := by
  obtain ⟨ov, h⟩ := h
  exact ⟨ov, h.after hb⟩
theorem IE.kept (h : IE w0 g0 ov X) (hown : X.ownsRow w0.heap.size 3 1 ov r.length (intCells r)) (hg : X.grownBy X' ov.ownBlock) : IE w0 g0 ov X' :=
  ⟨⟨hg.os.trans h.gr.os, hg.tape.trans h.gr.tape, hg.output.trans h.gr.output, Nat.le_trans h.gr.size hg.size, fun k hk hne =>
    (hg.block k (Nat.lt_of_lt_of_le hk h.gr.size) (fun e => by have := own_base hown e.symm; omega)).trans (h.gr.block k hk hne)⟩, h.bx.grown hg (Ne.symm (own_blk_ne hown h.bx (by decide)))⟩
theorem IW.push {x : Int} {v' : Value} (h : IW w0 g0 ov r X) (hg : X.grownBy X' ov.ownBlock) (hown : X'.ownsRow w0.heap.size 3 1 v' (r.length + 1) (intCells r ++ [.int .i64 x])) : IW w0 g0 v' (r ++ [x]) (X'.setCell ⟨g0, 0, none⟩ v') := by
  have h1 := h.e.kept h.own hg
  refine ⟨⟨only_set h1.gr 0 v', h1.bx.set_ 0 v'⟩, ?_⟩
  rw [List.length_append, List.length_singleton, show intCells (r ++ [x]) = intCells r ++ [.int .i64 x] from by simp [intCells]]
  exact own_other hown h1.bx (by decide) 0 v'
theorem IW.keeps {v' : Value} (h : IW w0 g0 ov r X) (hg : X.grownBy X' ov.ownBlock) : Keeps X (X'.setCell ⟨g0, 0, none⟩ v') := by
  have h1 := h.e.kept h.own hg
  refine ⟨by simpa [World.setCell] using hg.size, fun g t cs ht1 ht2 hb => ?_⟩
  have h2 := hb.grown hg (Ne.symm (own_blk_ne h.own hb (Ne.symm ht1)))
  exact h2.far (p := ⟨g0, 0, none⟩) (h2.ne_ h1.bx ht2) _
theorem IW.start {w : World} (hg : w.heap.size = g0) : IdsInv (w.alloc (.cells #[.slice none 0 0] 33)) g0 [] (w.alloc (.cells #[.slice none 0 0] 33)) :=
  ⟨.slice none 0 0, ⟨⟨World.grownBy.refl _ _, Blk.new' hg.symm⟩, ⟨rfl, .inl ⟨rfl, rfl⟩⟩⟩⟩
end
set_option maxRecDepth 100000 in
set_option maxHeartbeats 3200000 in
theorem visitOrder_any (w0 X : World) (g0 b oi d : Nat) (id : Int) (r : List Int) (h : IdsInv w0 g0 r X) (hl : r.length < 4096) (hb : b < w0.heap.size) (hne : b ≠ g0) (hc : w0.cell? ⟨b, oi, none⟩ = some (.int .i64 id)) :
    Calls Tryz.prog 33 #[.pointer (some ⟨b, oi, none⟩), .int .i64 d, .pointer (some ⟨g0, 0, none⟩)] X fun e X' => e = .returned (.tuple #[]) ∧ IdsInv w0 g0 (r ++ [id]) X' ∧ Keeps X X' := by
  obtain ⟨ov, h⟩ := h
  have HX := Lib.hid (h.after (below_drew1 X))
  have HSof : Hid (∀ Y, IE w0 g0 ov Y → Y.cell? ⟨g0, 0, none⟩ = some ov ∧ Y.cell? ⟨b, oi, none⟩ = some (.int .i64 id)) := Lib.hid fun Y hY => ⟨(hY.bx.cell 0).trans rfl, (grown_cell hY.gr hb hne).trans hc⟩
  obtain ⟨i0, hi0, hz0, hz1, hz2⟩ := info_parts intInfo
  clear h hc
  go_enter Tryz.func33, Tryz.ntmps33
  go_upto_region 0 with (fail)
  refine wp_region_held_tail 7 (fun w' => w'.cell? ⟨g0, 0, none⟩ = some ov ∧ w'.cell? ⟨b, oi, none⟩ = some (.int .i64 id)) (by kernel_rfl) (by kernel_rfl) ?hSt (fun hHeld => ?qt0)
  case hSt => exact HSof.out _ HX.out.e
  case qt0 =>
    simp only [List.take_succ_cons, List.take_zero, List.drop_succ_cons, List.drop_zero]
    refine wpAnyH_take (i := 0) (v := ov) rfl (by kernel_rfl) (by kernel_rfl) (by kernel_rfl) (fun _ _ _ h => h) (Or.inl ⟨by rfl, ?yt_1⟩) (by assumption) ?qt_1
    case yt_1 => (intro w hSw; (try dsimp only at hSw); go_simp)
    case qt_1 =>
      (try simp only [Act.put]); (try simp only [List.setIfInBounds_toArray])
      refine wpAnyH_take (i := 1) (v := (.pointer (some ⟨b, oi, none⟩))) rfl (by kernel_rfl) (by kernel_rfl) (by kernel_rfl) (fun _ _ _ h => h) (Or.inl ⟨by rfl, ?yt_2⟩) (by assumption) ?qt_2
      case yt_2 => (intro w hSw; (try dsimp only at hSw); go_simp)
      case qt_2 =>
        (try simp only [Act.put]); (try simp only [List.setIfInBounds_toArray])
        refine wpAnyH_take (i := 2) (v := (.pointer (some ⟨b, oi, none⟩))) rfl (by kernel_rfl) (by kernel_rfl) (by kernel_rfl) (fun _ _ _ h => h) (Or.inl ⟨by rfl, ?yt_3⟩) (by assumption) ?qt_3
        case yt_3 => (intro w hSw; (try dsimp only at hSw); go_simp)
        case qt_3 =>
          (try simp only [Act.put]); (try simp only [List.setIfInBounds_toArray])
          refine wpAnyH_take (i := 3) (v := (.pointer (some ⟨b, oi, none⟩))) rfl (by kernel_rfl) (by kernel_rfl) (by kernel_rfl) (fun _ _ _ h => h) (Or.inl ⟨by rfl, ?yt_4⟩) (by assumption) ?qt_4
          case yt_4 => (intro w hSw; (try dsimp only at hSw); go_simp)
          case qt_4 =>
            (try simp only [Act.put]); (try simp only [List.setIfInBounds_toArray])
            refine wpAnyH_take (i := 4) (v := (.int .i64 id)) rfl (by kernel_rfl) (by kernel_rfl) (by kernel_rfl) (fun _ _ _ h => h) (Or.inl ⟨by rfl, ?yt_5⟩) (by assumption) ?qt_5
            case yt_5 => (intro w hSw; (try dsimp only at hSw); go_simp)
            case qt_5 =>
              (try simp only [Act.put]); (try simp only [List.setIfInBounds_toArray])
              refine wpAnyH_ready (rs := [5]) (by kernel_rfl) (by simp) ?_
              refine AllReadyH.cons rfl (fun K hK => ?st_6) ?mt_6
              case st_6 =>
                (go_simp; have HXa := Lib.hid (HX.out.after (below_more (Below.refl _ _) (.cells #[.int .i64 id] 3))); have HNb := Lib.hid (Blk.new X.drew 3 #[.int .i64 id]); have hgm : X.drew.heap.size < (X.drew.alloc (.cells #[.int .i64 id] 3)).heap.size := HNb.out.lt)
                refine hK.out _ _ ?kt_6 (fun hHeld => ?qt_6)
                case kt_6 => ((try dsimp only); first | exact HSof.out _ HX2.out | exact HSof.out _ HXa.out.e | exact HSof.out _ HX.out.e)
                case qt_6 =>
                  clear hK K
                  (try simp only [Act.put]); (try simp only [List.setIfInBounds_toArray])
                  refine wpAnyH_ready (rs := [6]) (by kernel_rfl) (by simp) ?_
                  refine AllReadyH.cons rfl (fun K hK => ?st_7) ?mt_7
                  case st_7 =>
                    (refine step_app_mark _ (by rfl) (.tmp 5) (.tmp 10) _ (by rfl) w0.heap.size 3 i0 _ 1 8 Tryz.underlying33 hi0 hz0 hz1 hz2 rfl (by omega) ov r.length (intCells r) (by rfl) HXa.out.own _ [.int .i64 id] (by rfl) HNb.out rfl (by simp [Value.oneCell']) (by unfold maxLen; omega) (by omega) HXa.out.e.gr.size ?_; intro G1 cap1 w2 hown2 _ hca1 hca2 hgr2; have HX2 := Lib.hid (HXa.out.e.kept HXa.out.own hgr2))
                    refine hK.out _ _ ?kt_7 (fun hHeld => ?qt_7)
                    case kt_7 => ((try dsimp only); first | exact HSof.out _ HX2.out | exact HSof.out _ HXa.out.e | exact HSof.out _ HX.out.e)
                    case qt_7 =>
                      clear hK K
                      (try simp only [Act.put]); (try simp only [List.setIfInBounds_toArray])
                      refine wpAnyH_done (by kernel_rfl) ?_ _
                      have k0 := (HX2.out.bx.cell 0).trans (show _ = some ov from rfl)
                      have k1 := HX2.out.bx.frozen 0
                      have HO2 := Lib.hid hown2
                      have HG2 := Lib.hid hgr2
                      clear hown2 hgr2 hHeld
                      show wpList _ _ _ _ _ _
                      go_wp2_with fail
                      (try simp only [Exit.inBlock, Exit.then])
                      first | refine bodyPost_ret (results_none (by kernel_rfl) _ _ _) rfl ?_ | refine bodyPost_end (results_none (by kernel_rfl) _ _ _) rfl ?_
                      exact ⟨rfl, ⟨_, HXa.out.push HG2.out HO2.out⟩, (Keeps.of (below_more (below_drew1 _) _)).trans (HXa.out.keeps HG2.out)⟩
                  case mt_7 =>
                    exact AllReadyH.nil
              case mt_6 =>
                exact AllReadyH.nil
end Go.Proofs.YtohinklkcinjpaaGreat
namespace Go.Proofs.YtohinklkcinjpaaGreat
open Go Go.RowKit Go.Sort
set_option linter.unusedVariables false
theorem PW.far {w wr : World} {next : Int} {A : Option Addr} {n c : Nat} {nd : Nd} {L : Leaf} (h : PW w next A n c nd L wr) {g : Nat} (hg : w.heap.size + 1 < g) (i : Nat) (u : Value) : PW w next A n c nd L (wr.setCell ⟨g, i, none⟩ u) :=
  ⟨h.md.far (p := ⟨g, i, none⟩) (by show _ ≠ g; omega) u, h.nb.far (p := ⟨g, i, none⟩) (by show _ ≠ g; omega) u, Below.setCell' h.bel (by omega) u⟩
theorem refWord_is (s : ByteArray) (b : Bool) (w : World) (hs : s.size ≤ maxLen) (h : wordB s = b) : Calls Tryz.prog 70 #[.string s] w (Says w b) := h ▸ refWord_any s w hs
set_option maxRecDepth 100000 in
set_option maxHeartbeats 6400000 in
theorem refPlain_any (w : World) (hi : Nat) (next : Int) (A : Option Addr) (n c : Nat) (nds : List Nd) (nd : Nd) (L : Leaf) (h : NodesIn w 0 hi A n c nds) (hlf : LeafIn w 0 hi nd L) (hh : hi ≤ w.heap.size) (hr : Rise nds) (hn : n ≤ 4096) :
    Calls Tryz.prog 34 #[.agg #[.int .i64 next, .slice A n c], .agg #[.int .i64 nd.id, .string nd.con, .int .i64 nd.par, .string nd.role, .slice L.p.A L.p.n L.p.c, .slice L.k.A L.k.n L.k.c, .slice L.r.A L.r.n L.r.c]] w (Ret w (.bool (plainB next nds nd))) := by
  have hc := h.2.2.1
  have hnc := h.2.1
  have HL := Lib.hid h.1
  unfold maxLen at hc
  have HP0 := Lib.hid (PW.start w next A n c nd L)
  obtain ⟨⟨Ap, np, cp⟩, ⟨Ak, nk, ck⟩, ⟨Ar, nr, cr⟩⟩ := L
  obtain ⟨h1, h2, h3, h4, h5, h6, h7⟩ := hlf
  simp only at h1 h2 h3 h4 h5 h6 HP0 ⊢
  have HLP := Lib.hid h1
  have HLK := Lib.hid h2
  have HLR := Lib.hid h3
  have hcp := h4.2.2.1
  have hcp' := h4.2.1
  have hck := h5.2.2.1
  have hck' := h5.2.1
  have hcr := h6.2.2.1
  have hcr' := h6.2.1
  unfold maxLen at hcp hck hcr
  have HRP := Lib.hid h4
  have HRK := Lib.hid h5
  have HRR := Lib.hid h6
  have HSZ := Lib.hid h7
  have HSC := Lib.hid h7.con
  have HPl : Hid (plainB next nds nd = (wordB nd.con && decide (nd.kids.length ≤ nds.length) && propsB none nd.props && refsB next none nd.refs && kidsB nds nd.id [] nd.kids)) := Lib.hid rfl
  clear h1 h2 h3 h4 h5 h6 h7
  have hmk := make_bools n (by omega)
  have HMK := Lib.hid hmk
  clear hmk
  cases hw : wordB nd.con with
  | false =>
    have HW := Lib.hid hw
    have HZ : Hid (plainB next nds nd = false) := Lib.hid (by rw [HPl.out, hw]; rfl)
    clear hw
    go_enter Tryz.func34, Tryz.ntmps34
    go_wp2_with (go_at_call 70; refine (refWord_is _ _ _ HSC.out HW.out).mono ?_; rintro e w2 ⟨rfl, rfl⟩)
    go_ret
    exact ret_b HZ.out rfl HP0.out.bel
  | true =>
    have HW := Lib.hid hw
    by_cases hk : nk ≤ n
    · have d1 : decide (n < nk) = false := decide_eq_false (by omega)
      have hPl : plainB next nds nd = (propsB none nd.props && refsB next none nd.refs && kidsB nds nd.id [] nd.kids) := by
        rw [HPl.out, hw, decide_eq_true (by have := HLK.out; have := HL.out; omega)]; rfl
      have HPl := Lib.hid hPl
      clear hPl hw
      go_enter Tryz.func34, Tryz.ntmps34
      go_wp2_with (go_at_call 70; refine (refWord_is _ _ _ HSC.out HW.out).mono ?_; rintro e w2 ⟨rfl, rfl⟩)
      go_loopw [5] (fun i wr => ∃ k : Nat, k ≤ np ∧ i = .int .i64 k ∧ PW w next A n c nd ⟨⟨Ap, np, cp⟩, ⟨Ak, nk, ck⟩, ⟨Ar, nr, cr⟩⟩ wr ∧ Hid (propsB none nd.props = propsB (prevP nd.props k) (nd.props.drop k))) (fun i _ => np - (intOf i).toNat)
      case atStart => exact ⟨0, by omega, rfl, HP0.out, Lib.hid rfl⟩
      case round =>
        clear HP0
        obtain ⟨k, hk, rfl, P, HK⟩ := hrel
        have c0 := P.md.cell 0
        have c1 := P.md.cell 1
        have b4 := P.nb.cell 4
        have b5 := P.nb.cell 5
        have b6 := P.nb.cell 6
        simp at c0 c1 b4 b5 b6
        have hbel := P.bel
        have HP := Lib.hid P
        clear P
        by_cases hlt : k < np
        · obtain ⟨b, o, rfl, _, hb, hcells⟩ := (HRP.out.below (hbel.mono hh)).at_ (by omega)
          obtain ⟨p, hp⟩ : ∃ p, nd.props[k]? = some p := ⟨nd.props[k]'(by have := HLP.out; have := HLR.out; omega), List.getElem?_eq_getElem _⟩
          have hc0 := hcells _ _ (propCells_get hp).1
          have hc1 := hcells _ _ (propCells_get hp).2
          have hc1 : wr.cell? ⟨b, o + k * 2 + 1, none⟩ = some (.string p.2) := by rw [Nat.add_assoc]; exact hc1
          obtain ⟨s1, s2⟩ := HSZ.out.props p (List.mem_of_getElem? hp)
          unfold maxLen at s2
          have hd : nd.props.drop k = p :: nd.props.drop (k + 1) := by
            obtain ⟨hl', rfl⟩ := List.getElem?_eq_some_iff.1 hp
            exact List.drop_eq_getElem_cons hl'
          have hpv : prevP nd.props (k + 1) = some p.1 := by unfold prevP; rw [if_neg (by omega), Nat.add_sub_cancel, hp]; rfl
          have HD : Hid (propsB none nd.props = (wordB p.1 && decide (p.2.size ≤ 4096) && aboveB (prevP nd.props k) p.1 && propsB (prevP nd.props (k + 1)) (nd.props.drop (k + 1)))) := Lib.hid (by rw [HK.out, hd, propsB, hpv])
          clear HK hd hpv hbel
          obtain ⟨a, v⟩ := p
          simp only at hc0 hc1 s1 s2 HD
          have HS1 := Lib.hid s1
          clear s1
          cases hw : wordB a with
          | false =>
            have HW := Lib.hid hw
            have HZ : Hid (plainB next nds nd = false) := Lib.hid (by rw [HPl.out, HD.out, hw]; simp)
            clear HD hw
            go_wp2_with fail
            go_quiet ((go_at_call 70; exact quiet_says (refWord_is _ _ _ HS1.out HW.out)))
            go_wp2_with fail
            go_ret
            exact ret_b HZ.out rfl (below_drewN HP.out.bel _)
          | true =>
            have HW := Lib.hid hw
            by_cases hz : v.size ≤ 4096
            · have d1 : decide ((4096 : Int) < (v.size : Int)) = false := decide_eq_false (by omega)
              by_cases h0 : k = 0
              · have HZ : Hid (propsB none nd.props = propsB (prevP nd.props (k + 1)) (nd.props.drop (k + 1))) := Lib.hid (by rw [HD.out, hw, decide_eq_true hz, h0]; rfl)
                have d2 : decide (0 < k) = false := decide_eq_false (by omega)
                clear HD hw h0
                go_wp2_with fail
                go_quiet ((go_at_call 70; exact quiet_says (refWord_is _ _ _ HS1.out HW.out)))
                go_wp2_with fail
                go_roundw
                case rel => exact ⟨k + 1, by omega, by go_num, HP.out.drewN _, HZ⟩
                case measure => simp [intOf]; omega
              · obtain ⟨q, hq⟩ : ∃ q, nd.props[k - 1]? = some q := ⟨nd.props[k - 1]'(by have := HLP.out; have := HLR.out; omega), List.getElem?_eq_getElem _⟩
                have hc2 := hcells _ _ (propCells_get hq).1
                have hpv : prevP nd.props k = some q.1 := by unfold prevP; rw [if_neg h0, hq]; rfl
                have d2 : decide (0 < k) = true := decide_eq_true (by omega)
                cases hq2 : ltS q.1 a with
                | true =>
                  have d3 : Op.bytesLess q.1.toList a.toList = true := hq2
                  have HZ : Hid (propsB none nd.props = propsB (prevP nd.props (k + 1)) (nd.props.drop (k + 1))) := Lib.hid (by rw [HD.out, hw, decide_eq_true hz, hpv]; simp only [aboveB]; rw [hq2]; rfl)
                  clear HD hw hpv hq2 hq hp
                  go_wp2_with fail
                  go_quiet ((go_at_call 70; exact quiet_says (refWord_is _ _ _ HS1.out HW.out)))
                  go_wp2_with fail
                  go_roundw
                  case rel => exact ⟨k + 1, by omega, by go_num, HP.out.drewN _, HZ⟩
                  case measure => simp [intOf]; omega
                | false =>
                  have d3 : Op.bytesLess q.1.toList a.toList = false := hq2
                  have HZ : Hid (plainB next nds nd = false) := Lib.hid (by rw [HPl.out, HD.out, hw, decide_eq_true hz, hpv]; simp only [aboveB]; rw [hq2]; simp)
                  clear HD hw hpv hq2 hq hp
                  go_wp2_with fail
                  go_quiet ((go_at_call 70; exact quiet_says (refWord_is _ _ _ HS1.out HW.out)))
                  go_wp2_with fail
                  go_ret
                  exact ret_b HZ.out rfl (below_drewN HP.out.bel _)
            · have d1 : decide ((4096 : Int) < (v.size : Int)) = true := decide_eq_true (by omega)
              have HZ : Hid (plainB next nds nd = false) := Lib.hid (by rw [HPl.out, HD.out, decide_eq_false hz]; simp)
              clear HD hw
              go_wp2_with fail
              go_quiet ((go_at_call 70; exact quiet_says (refWord_is _ _ _ HS1.out HW.out)))
              go_wp2_with fail
              go_ret
              exact ret_b HZ.out rfl (below_drewN HP.out.bel _)
        · have HY : Hid (propsB none nd.props = true) := Lib.hid (by rw [HK.out, List.drop_eq_nil_of_le (by have := HLP.out; have := HLR.out; omega)]; cases prevP nd.props k <;> rfl)
          have hPl := HPl.out
          rw [HY.out] at hPl
          have HPl := Lib.hid hPl
          clear HK HY hPl
          have HP0 := HP
          clear HP hbel
          have hmk := HMK.out
          go_wp2_with fail
          clear hmk
          go_loopw [6] (fun i wr => ∃ k : Nat, k ≤ nr ∧ i = .int .i64 k ∧ PW w next A n c nd ⟨⟨Ap, np, cp⟩, ⟨Ak, nk, ck⟩, ⟨Ar, nr, cr⟩⟩ wr ∧ Hid (refsB next none nd.refs = refsB next (prevR nd.refs k) (nd.refs.drop k))) (fun i _ => nr - (intOf i).toNat)
          case atStart => exact ⟨0, by omega, rfl, HP0.out, Lib.hid rfl⟩
          case round =>
            clear HP0
            obtain ⟨k, hk, rfl, P, HK⟩ := hrel
            have c0 := P.md.cell 0
            have c1 := P.md.cell 1
            have b4 := P.nb.cell 4
            have b5 := P.nb.cell 5
            have b6 := P.nb.cell 6
            simp at c0 c1 b4 b5 b6
            have hbel := P.bel
            have HP := Lib.hid P
            clear P
            by_cases hlt : k < nr
            · obtain ⟨b, o, rfl, _, hb, hcells⟩ := (HRR.out.below (hbel.mono hh)).at_ (by omega)
              obtain ⟨p, hp⟩ : ∃ p, nd.refs[k]? = some p := ⟨nd.refs[k]'(by have := HLP.out; have := HLR.out; omega), List.getElem?_eq_getElem _⟩
              have hc0 := hcells _ _ (refCells_get hp).1
              have hc1 := hcells _ _ (refCells_get hp).2
              have hc1 : wr.cell? ⟨b, o + k * 2 + 1, none⟩ = some (.int .i64 p.2) := by rw [Nat.add_assoc]; exact hc1
              have s1 := HSZ.out.refs p (List.mem_of_getElem? hp)
              have hd : nd.refs.drop k = p :: nd.refs.drop (k + 1) := by
                obtain ⟨hl', rfl⟩ := List.getElem?_eq_some_iff.1 hp
                exact List.drop_eq_getElem_cons hl'
              have hpv : prevR nd.refs (k + 1) = some p.1 := by unfold prevR; rw [if_neg (by omega), Nat.add_sub_cancel, hp]; rfl
              have HD : Hid (refsB next none nd.refs = (wordB p.1 && decide (1 ≤ p.2) && decide (p.2 < next) && aboveB (prevR nd.refs k) p.1 && refsB next (prevR nd.refs (k + 1)) (nd.refs.drop (k + 1)))) := Lib.hid (by rw [HK.out, hd, refsB, hpv])
              clear HK hd hpv hbel
              obtain ⟨a, v⟩ := p
              simp only at hc0 hc1 s1 HD
              have HS1 := Lib.hid s1
              clear s1
              cases hw : wordB a with
              | false =>
                have HW := Lib.hid hw
                have HZ : Hid (plainB next nds nd = false) := Lib.hid (by rw [HPl.out, HD.out, hw]; simp)
                clear HD hw
                go_wp2_with fail
                go_quiet ((go_at_call 70; exact quiet_says (refWord_is _ _ _ HS1.out HW.out)))
                go_wp2_with fail
                go_ret
                exact ret_b HZ.out rfl (below_drewN HP.out.bel _)
              | true =>
                have HW := Lib.hid hw
                by_cases hz : 1 ≤ v
                · by_cases hy : v < next
                  · have d1 : decide (v < 1) = false := decide_eq_false (by omega)
                    have d1' : decide (next ≤ v) = false := decide_eq_false (by omega)
                    by_cases h0 : k = 0
                    · have HZ : Hid (refsB next none nd.refs = refsB next (prevR nd.refs (k + 1)) (nd.refs.drop (k + 1))) := Lib.hid (by rw [HD.out, hw, decide_eq_true hz, decide_eq_true hy, h0]; rfl)
                      have d2 : decide (0 < k) = false := decide_eq_false (by omega)
                      clear HD hw h0
                      go_wp2_with fail
                      go_quiet ((go_at_call 70; exact quiet_says (refWord_is _ _ _ HS1.out HW.out)))
                      go_wp2_with fail
                      go_roundw
                      case rel => exact ⟨k + 1, by omega, by go_num, HP.out.drewN _, HZ⟩
                      case measure => simp [intOf]; omega
                    · obtain ⟨q, hq⟩ : ∃ q, nd.refs[k - 1]? = some q := ⟨nd.refs[k - 1]'(by have := HLP.out; have := HLR.out; omega), List.getElem?_eq_getElem _⟩
                      have hc2 := hcells _ _ (refCells_get hq).1
                      have hpv : prevR nd.refs k = some q.1 := by unfold prevR; rw [if_neg h0, hq]; rfl
                      have d2 : decide (0 < k) = true := decide_eq_true (by omega)
                      cases hq2 : ltS q.1 a with
                      | true =>
                        have d3 : Op.bytesLess q.1.toList a.toList = true := hq2
                        have HZ : Hid (refsB next none nd.refs = refsB next (prevR nd.refs (k + 1)) (nd.refs.drop (k + 1))) := Lib.hid (by rw [HD.out, hw, decide_eq_true hz, decide_eq_true hy, hpv]; simp only [aboveB]; rw [hq2]; rfl)
                        clear HD hw hpv hq2 hq hp
                        go_wp2_with fail
                        go_quiet ((go_at_call 70; exact quiet_says (refWord_is _ _ _ HS1.out HW.out)))
                        go_wp2_with fail
                        go_roundw
                        case rel => exact ⟨k + 1, by omega, by go_num, HP.out.drewN _, HZ⟩
                        case measure => simp [intOf]; omega
                      | false =>
                        have d3 : Op.bytesLess q.1.toList a.toList = false := hq2
                        have HZ : Hid (plainB next nds nd = false) := Lib.hid (by rw [HPl.out, HD.out, hw, decide_eq_true hz, decide_eq_true hy, hpv]; simp only [aboveB]; rw [hq2]; simp)
                        clear HD hw hpv hq2 hq hp
                        go_wp2_with fail
                        go_quiet ((go_at_call 70; exact quiet_says (refWord_is _ _ _ HS1.out HW.out)))
                        go_wp2_with fail
                        go_ret
                        exact ret_b HZ.out rfl (below_drewN HP.out.bel _)
                  · have d1 : decide (v < 1) = false := decide_eq_false (by omega)
                    have d1' : decide (next ≤ v) = true := decide_eq_true (by omega)
                    have HZ : Hid (plainB next nds nd = false) := Lib.hid (by rw [HPl.out, HD.out, decide_eq_false hy]; simp)
                    clear HD hw
                    go_wp2_with fail
                    go_quiet ((go_at_call 70; exact quiet_says (refWord_is _ _ _ HS1.out HW.out)))
                    go_wp2_with fail
                    go_ret
                    exact ret_b HZ.out rfl (below_drewN HP.out.bel _)
                · have d1 : decide (v < 1) = true := decide_eq_true (by omega)
                  have HZ : Hid (plainB next nds nd = false) := Lib.hid (by rw [HPl.out, HD.out, decide_eq_false hz]; simp)
                  clear HD hw
                  go_wp2_with fail
                  go_quiet ((go_at_call 70; exact quiet_says (refWord_is _ _ _ HS1.out HW.out)))
                  go_wp2_with fail
                  go_ret
                  exact ret_b HZ.out rfl (below_drewN HP.out.bel _)
            · have HY : Hid (refsB next none nd.refs = true) := Lib.hid (by rw [HK.out, List.drop_eq_nil_of_le (by have := HLP.out; have := HLR.out; omega)]; cases prevR nd.refs k <;> rfl)
              have hPl := HPl.out
              rw [HY.out] at hPl
              have HPl := Lib.hid hPl
              clear HK HY hPl
              have HP0 := HP
              clear HP hbel
              have hmk := HMK.out
              go_wp2_with fail
              have hgz := HP0.out.size
              have hPm := HP0.out.after (below_box wr (.cells (noB n) 4))
              have hBm : BBlk (wr.alloc (.cells (noB n) 4)) wr.heap.size (List.replicate n false) := BBlk.start wr n
              have HPM := Lib.hid hPm
              have HBM := Lib.hid hBm
              clear hPm hBm hmk HP0
              obtain ⟨g, hg⟩ : ∃ g, g = wr.heap.size := ⟨_, rfl⟩
              rw [← hg] at HBM hgz ⊢
              have HG := Lib.hid hg
              clear hg
              generalize wr.alloc (.cells (noB n) 4) = wm at HPM HBM ⊢
              go_loopw [8] (fun i wr => ∃ (j : Nat) (mt : List Bool) (seen : List Int), j ≤ nk ∧ i = .int .i64 j ∧ PW w next A n c nd ⟨⟨Ap, np, cp⟩, ⟨Ak, nk, ck⟩, ⟨Ar, nr, cr⟩⟩ wr ∧ BBlk wr g mt ∧ Hid (MetOk nds n seen mt) ∧ Hid (kidsB nds nd.id [] nd.kids = kidsB nds nd.id seen (nd.kids.drop j))) (fun i _ => nk - (intOf i).toNat)
              case atStart => exact ⟨0, _, [], by omega, rfl, HPM.out, HBM.out, Lib.hid (MetOk.start nds n), Lib.hid rfl⟩
              case round =>
                clear HPM HBM
                obtain ⟨j, mt, seen, hj, rfl, P, hB, HM, HK⟩ := hrel
                have c0 := P.md.cell 0
                have c1 := P.md.cell 1
                have b0 := P.nb.cell 0
                have b5 := P.nb.cell 5
                simp at c0 c1 b0 b5
                have hbel := P.bel
                have hgl := Blk.lt hB
                have hsz := P.size
                have HP := Lib.hid P
                clear P
                by_cases hlt : j < nk
                · obtain ⟨b, o, rfl, _, hb, hcells⟩ := (HRK.out.below (hbel.mono hh)).at_ (by omega)
                  obtain ⟨kid, hkid⟩ : ∃ kid, nd.kids[j]? = some kid := ⟨nd.kids[j]'(by have := HLK.out; omega), List.getElem?_eq_getElem _⟩
                  have hkc := hcells j _ (intCells_get hkid)
                  have hkd : nd.kids.drop j = kid :: nd.kids.drop (j + 1) := by
                    obtain ⟨hl', rfl⟩ := List.getElem?_eq_some_iff.1 hkid
                    exact List.drop_eq_getElem_cons hl'
                  have q0 := cell_regrown c0
                  have q1 := cell_regrown c1
                  have q5 := cell_regrown b5
                  have qk := cell_regrown hkc
                  have hAt : ∀ d os, Calls Tryz.prog 71 #[.agg #[.int .i64 next, .slice A n c], .int .i64 kid] (grow (redrawn wr d) os) (Ret (grow (redrawn wr d) os) (.int .i64 (atV nds kid))) := fun d os =>
                    refAt_any _ hi next kid A n c nds ((h.below (hbel.mono hh)).below ((below_regrown wr d os).mono (by omega))) (by have := (below_regrown wr d os).size; omega) hr hn
                  have hstep : kidsB nds nd.id [] nd.kids = ((match ndOf nds kid with | none => false | some x => x.par == nd.id) && !seen.contains kid && kidsB nds nd.id (kid :: seen) (nd.kids.drop (j + 1))) := by rw [HK.out, hkd, kidsB]; rfl
                  clear HK hkd hkid hcells
                  cases hx : ixOf nds kid with
                  | none =>
                    have hav : atV nds kid = -1 := by unfold atV; rw [hx]
                    have HZ : Hid (plainB next nds nd = false) := Lib.hid (by
                      have e : ndOf nds kid = none := by unfold ndOf; rw [hx]; rfl
                      rw [HPl.out, hstep, e]; simp)
                    rw [hav] at hAt
                    have HAt := Lib.hid hAt
                    clear hAt hav hx hstep
                    go_wp2_with fail
                    refine wp_region_quiet_below (by kernel_rfl) (by kernel_rfl) ?_
                    repeat (go_big_quiet_step ((go_at_call 71; exact regrown_ret (HAt.out _ _))))
                    refine wpQuiet_nil ?_
                    intro _ hw'
                    obtain ⟨⟨dq, osq⟩, hw''⟩ := hw'
                    subst hw''
                    have hb2 := below_regrown wr dq osq
                    generalize grow (redrawn wr dq) osq = w2 at hb2 ⊢
                    clear q0 q1 q5 qk
                    have HP2 := Lib.hid (HP.out.after hb2)
                    obtain ⟨t1, t2⟩ := bcell hb2
                    go_wp2_with fail
                    go_quiet (fail)
                    go_wp2_with fail
                    go_ret
                    exact ret_b HZ.out rfl (below_drewN HP2.out.bel _)
                  | some jx =>
                    have hjx := ixOf_lt hx
                    rw [HL.out] at hjx
                    obtain ⟨kd, hkd, hkid⟩ := ixOf_some hx
                    have hav : atV nds kid = jx := by unfold atV; rw [hx]
                    have hnk : ndOf nds kid = some kd := by unfold ndOf; rw [hx]; exact hkd
                    have hmt := HM.out.2 kid jx hx
                    have hmc := hB.cell (i := jx) (by rw [HM.out.1]; exact hjx)
                    have hmf := Blk.frozen hB jx
                    rw [hmt] at hmc
                    rw [hnk] at hstep
                    have hstep : kidsB nds nd.id [] nd.kids = ((kd.par == nd.id) && !seen.contains kid && kidsB nds nd.id (kid :: seen) (nd.kids.drop (j + 1))) := hstep
                    have HM2 := Lib.hid (HM.out.step hx hjx)
                    rw [hav] at hAt
                    have HAt := Lib.hid hAt
                    obtain ⟨bA, oA, hA, _, hbA, V, hV⟩ := h.all (by omega)
                    subst hA
                    have hpc := ((hV jx kd hkd).1.below hbel (by omega)).c2
                    have HBB := Lib.hid hB
                    have hbA' : bA < wr.heap.size := by have := hbel.size; omega
                    have hbn : w.heap.size + 1 < wr.heap.size := hsz
                    have hbn' : w.heap.size < wr.heap.size := by omega
                    obtain ⟨sb, hsb⟩ : ∃ sb, seen.contains kid = sb := ⟨_, rfl⟩
                    rw [hsb] at hmc hstep
                    clear hAt hav hx hkd hkid hnk hmt hV hB hsb
                    by_cases e1 : kd.par = nd.id
                    · have d1 : (kd.par != nd.id) = false := by rw [bne_eq_false_iff_eq]; exact e1
                      have d1' : (kd.par == nd.id) = true := by rw [beq_iff_eq]; exact e1
                      cases sb with
                      | false =>
                        have HZ : Hid (kidsB nds nd.id [] nd.kids = kidsB nds nd.id (kid :: seen) (nd.kids.drop (j + 1))) := Lib.hid (by rw [hstep, d1']; rfl)
                        clear hstep e1
                        go_wp2_with fail
                        refine wp_region_quiet_below (by kernel_rfl) (by kernel_rfl) ?_
                        repeat (go_big_quiet_step ((go_at_call 71; exact regrown_ret (HAt.out _ _))))
                        refine wpQuiet_nil ?_
                        intro _ hw'
                        obtain ⟨⟨dq, osq⟩, hw''⟩ := hw'
                        subst hw''
                        have hb2 := below_regrown wr dq osq
                        generalize grow (redrawn wr dq) osq = w2 at hb2 ⊢
                        clear q0 q1 q5 qk
                        have HP2 := Lib.hid (HP.out.after hb2)
                        have HB2 := Lib.hid (Blk.after HBB.out hb2)
                        obtain ⟨t1, t2⟩ := bcell hb2
                        go_wp2_with fail
                        go_quiet (fail)
                        go_wp2_with fail
                        go_roundw
                        case rel => exact ⟨j + 1, _, _, by omega, by go_num, (HP2.out.far (g := g) (by omega) jx _).drewN _, BBlk.set_ HB2.out jx true, HM2, HZ⟩
                        case measure => simp [intOf]; omega
                      | true =>
                        have HZ : Hid (plainB next nds nd = false) := Lib.hid (by rw [HPl.out, hstep]; simp)
                        clear hstep e1
                        go_wp2_with fail
                        refine wp_region_quiet_below (by kernel_rfl) (by kernel_rfl) ?_
                        repeat (go_big_quiet_step ((go_at_call 71; exact regrown_ret (HAt.out _ _))))
                        refine wpQuiet_nil ?_
                        intro _ hw'
                        obtain ⟨⟨dq, osq⟩, hw''⟩ := hw'
                        subst hw''
                        have hb2 := below_regrown wr dq osq
                        generalize grow (redrawn wr dq) osq = w2 at hb2 ⊢
                        clear q0 q1 q5 qk
                        have HP2 := Lib.hid (HP.out.after hb2)
                        have HB2 := Lib.hid (Blk.after HBB.out hb2)
                        obtain ⟨t1, t2⟩ := bcell hb2
                        go_wp2_with fail
                        go_quiet (fail)
                        go_wp2_with fail
                        go_ret
                        exact ret_b HZ.out rfl (below_drewN HP2.out.bel _)
                    · have d1 : (kd.par != nd.id) = true := by rw [bne_iff_ne]; exact e1
                      have d1' : (kd.par == nd.id) = false := by rw [beq_eq_false_iff_ne]; exact e1
                      have HZ : Hid (plainB next nds nd = false) := Lib.hid (by rw [HPl.out, hstep, d1']; simp)
                      clear hstep e1
                      go_wp2_with fail
                      refine wp_region_quiet_below (by kernel_rfl) (by kernel_rfl) ?_
                      repeat (go_big_quiet_step ((go_at_call 71; exact regrown_ret (HAt.out _ _))))
                      refine wpQuiet_nil ?_
                      intro _ hw'
                      obtain ⟨⟨dq, osq⟩, hw''⟩ := hw'
                      subst hw''
                      have hb2 := below_regrown wr dq osq
                      generalize grow (redrawn wr dq) osq = w2 at hb2 ⊢
                      clear q0 q1 q5 qk
                      have HP2 := Lib.hid (HP.out.after hb2)
                      have HB2 := Lib.hid (Blk.after HBB.out hb2)
                      obtain ⟨t1, t2⟩ := bcell hb2
                      go_wp2_with fail
                      go_quiet (fail)
                      go_wp2_with fail
                      go_ret
                      exact ret_b HZ.out rfl (below_drewN HP2.out.bel _)
                · have HZ : Hid (plainB next nds nd = true) := Lib.hid (by
                    have e : kidsB nds nd.id [] nd.kids = true := by rw [HK.out, List.drop_eq_nil_of_le (by have := HLK.out; omega)]; rfl
                    rw [HPl.out, e]; rfl)
                  clear HK
                  go_wp2_with fail
                  go_ret
                  exact ret_b HZ.out rfl hbel
    · have d1 : decide (n < nk) = true := decide_eq_true (by omega)
      have HZ : Hid (plainB next nds nd = false) := Lib.hid (by rw [HPl.out, decide_eq_false (p := nd.kids.length ≤ nds.length) (by have := HLK.out; have := HL.out; omega)]; simp)
      clear hw
      go_enter Tryz.func34, Tryz.ntmps34
      go_wp2_with (go_at_call 70; refine (refWord_is _ _ _ HSC.out HW.out).mono ?_; rintro e w2 ⟨rfl, rfl⟩)
      go_ret
      exact ret_b HZ.out rfl HP0.out.bel
end Go.Proofs.YtohinklkcinjpaaGreat
namespace Go.Proofs.YtohinklkcinjpaaGreat
open Go Go.RowKit Go.Sort
set_option linter.unusedVariables false
theorem PW.store {w wr : World} {next : Int} {A : Option Addr} {n c : Nat} {nd : Nd} {L : Leaf} (h : PW w next A n c nd L wr) (kd : Nd) (M : Leaf) (nq : Nat) :
    PW w next A n c kd M ((((((((wr.drewN nq).setCell ⟨w.heap.size + 1, 0, none⟩ (.int .i64 kd.id)).setCell ⟨w.heap.size + 1, 1, none⟩ (.string kd.con)).setCell ⟨w.heap.size + 1, 2, none⟩ (.int .i64 kd.par)).setCell ⟨w.heap.size + 1, 3, none⟩ (.string kd.role)).setCell ⟨w.heap.size + 1, 4, none⟩ (.slice M.p.A M.p.n M.p.c)).setCell ⟨w.heap.size + 1, 5, none⟩ (.slice M.k.A M.k.n M.k.c)).setCell ⟨w.heap.size + 1, 6, none⟩ (.slice M.r.A M.r.n M.r.c)) := by
  have hne : w.heap.size ≠ w.heap.size + 1 := by omega
  have h0 := h.drewN nq
  refine ⟨((((((h0.md.far (p := ⟨_, _, none⟩) hne _).far (p := ⟨_, _, none⟩) hne _).far (p := ⟨_, _, none⟩) hne _).far (p := ⟨_, _, none⟩) hne _).far (p := ⟨_, _, none⟩) hne _).far (p := ⟨_, _, none⟩) hne _).far (p := ⟨_, _, none⟩) hne _, ?_, ?_⟩
  · have := ((((((h0.nb.set_ 0 (.int .i64 kd.id)).set_ 1 (.string kd.con)).set_ 2 (.int .i64 kd.par)).set_ 3 (.string kd.role)).set_ 4 (.slice M.p.A M.p.n M.p.c)).set_ 5 (.slice M.k.A M.k.n M.k.c)).set_ 6 (.slice M.r.A M.r.n M.r.c)
    simpa using this
  · have hb := h0.bel
    exact Below.setCell' (Below.setCell' (Below.setCell' (Below.setCell' (Below.setCell' (Below.setCell' (Below.setCell' hb (by omega) _) (by omega) _) (by omega) _) (by omega) _) (by omega) _) (by omega) _) (by omega) _
set_option maxRecDepth 100000 in
set_option maxHeartbeats 3200000 in
theorem refBelow_any (w : World) (hi : Nat) (next : Int) (A : Option Addr) (n c : Nat) (nds : List Nd) (nd : Nd) (L : Leaf) (h : NodesIn w 0 hi A n c nds) (hlf : LeafIn w 0 hi nd L) (hh : hi ≤ w.heap.size) (hr : Rise nds) (hn : n ≤ 4096) :
    Calls Tryz.prog 35 #[.agg #[.int .i64 next, .slice A n c], .agg #[.int .i64 nd.id, .string nd.con, .int .i64 nd.par, .string nd.role, .slice L.p.A L.p.n L.p.c, .slice L.k.A L.k.n L.k.c, .slice L.r.A L.r.n L.r.c]] w (Ret w (.bool (belowB nds 64 nd))) := by
  have hc := h.2.2.1
  have hnc := h.2.1
  have HL := Lib.hid h.1
  unfold maxLen at hc
  have HP0 := Lib.hid (PW.start w next A n c nd L)
  have HLF0 := Lib.hid hlf
  obtain ⟨nd0, HN0⟩ : ∃ x, Hid (belowB nds 64 nd = x) := ⟨_, Lib.hid rfl⟩
  have hgoal : nd0 = belowB nds 64 nd := HN0.out.symm
  rw [← hgoal]
  clear hgoal hlf
  go_enter Tryz.func35, Tryz.ntmps35
  go_wp2_with fail
  go_loopw [5] (fun i wr => ∃ (d : Nat) (x : Nd) (M : Leaf), 1 ≤ d ∧ d ≤ 65 ∧ i = .int .i64 d ∧ PW w next A n c x M wr ∧ Hid (LeafIn w 0 hi x M) ∧ Hid (nd0 = belowB nds (65 - d) x)) (fun i _ => 65 - (intOf i).toNat)
  case atStart => exact ⟨1, nd, L, by omega, by omega, rfl, HP0.out, HLF0, Lib.hid HN0.out.symm⟩
  case round =>
    clear HP0 HLF0 HN0
    obtain ⟨d, x, ⟨⟨Ap, np, cp⟩, ⟨Ak, nk, ck⟩, ⟨Ar, nr, cr⟩⟩, hd1, hd, rfl, P, HLF, HB⟩ := hrel
    have c0 := P.md.cell 0
    have c1 := P.md.cell 1
    have b0 := P.nb.cell 0
    have b1 := P.nb.cell 1
    have b2 := P.nb.cell 2
    have b3 := P.nb.cell 3
    have b4 := P.nb.cell 4
    have b5 := P.nb.cell 5
    have b6 := P.nb.cell 6
    simp at c0 c1 b0 b1 b2 b3 b4 b5 b6
    have hfz : ∀ i, wr.frozen? ⟨w.heap.size + 1, i, none⟩ = false := fun i => Blk.frozen P.nb i
    have hbel := P.bel
    have hsz := P.size
    have hsz' : w.heap.size < wr.heap.size := by omega
    have HP := Lib.hid P
    clear P
    by_cases hlt : d ≤ 64
    · have hBs : nd0 = belowB nds ((64 - d) + 1) x := by rw [HB.out]; congr 1; omega
      rw [belowB] at hBs
      by_cases hp : x.par = 0
      · rw [if_pos hp] at hBs
        have d1 : (x.par == 0) = true := by rw [beq_iff_eq]; exact hp
        have HZ := Lib.hid hBs
        clear hp hBs HB
        go_wp2_with fail
        go_ret
        exact ret_b HZ.out rfl hbel
      · rw [if_neg hp] at hBs
        have d1 : (x.par == 0) = false := by rw [beq_eq_false_iff_ne]; exact hp
        have hAt := refAt_any wr hi next x.par A n c nds (h.below (hbel.mono hh)) (by omega) hr hn
        cases hx : ixOf nds x.par with
        | none =>
          have hav : atV nds x.par = -1 := by unfold atV; rw [hx]
          have e : ndOf nds x.par = none := by unfold ndOf; rw [hx]; rfl
          rw [e] at hBs
          have HZ : Hid (nd0 = false) := Lib.hid hBs
          rw [hav] at hAt
          have HAt := Lib.hid hAt
          clear hAt hav hx hBs HB hp e
          go_wp2_with (go_at_call 71; refine HAt.out.mono ?_; rintro e w2 ⟨rfl, hb2⟩; obtain ⟨q1, q2⟩ := bcell hb2)
          go_quiet (fail)
          go_wp2_with fail
          go_ret
          exact ret_b HZ.out rfl (below_drewN (HP.out.after hb2).bel _)
        | some jx =>
          have hjx := ixOf_lt hx
          rw [HL.out] at hjx
          obtain ⟨kd, hkd, hkid⟩ := ixOf_some hx
          have hav : atV nds x.par = jx := by unfold atV; rw [hx]
          have e : ndOf nds x.par = some kd := by unfold ndOf; rw [hx]; exact hkd
          rw [e] at hBs
          have hBs : nd0 = (wordB x.role && kd.kids.contains x.id && belowB nds (64 - d) kd) := hBs
          rw [hav] at hAt
          have HAt := Lib.hid hAt
          obtain ⟨bA, oA, hA, _, hbA, V, hV⟩ := h.all (by omega)
          subst hA
          have hbr : bA < wr.heap.size := by have := hbel.size; omega
          have hat := (hV jx kd hkd).1.below hbel (by omega)
          have hlf2 := (hV jx kd hkd).2
          obtain ⟨⟨⟨Ap2, np2, cp2⟩, ⟨Ak2, nk2, ck2⟩, ⟨Ar2, nr2, cr2⟩⟩, hVV⟩ : ∃ M, V jx = M := ⟨_, rfl⟩
          rw [hVV] at hat hlf2
          obtain ⟨a0, a1, a2, a3, a4, a5, a6⟩ := hat
          simp only at a4 a5 a6
          have HRO := Lib.hid HLF.out.sz.role
          have HLF2 := Lib.hid hlf2
          have HHas : Hid (∀ w3, Below wr.heap.size wr w3 → Calls Tryz.prog 72 #[.slice Ak2 nk2 ck2, .int .i64 x.id] w3 (Says w3 (kd.kids.contains x.id))) := Lib.hid (fun w3 hb3 => refHas_any w3 0 hi Ak2 nk2 ck2 kd.kids x.id ((hlf2.k.below (hbel.mono hh)).below (hb3.mono (by omega))))
          obtain ⟨cw, hw⟩ : ∃ b, wordB x.role = b := ⟨_, rfl⟩
          obtain ⟨ch, hc'⟩ : ∃ b, kd.kids.contains x.id = b := ⟨_, rfl⟩
          rw [hw, hc'] at hBs
          rw [hc'] at HHas
          have HW := Lib.hid hw
          have dk : decide ((jx : Int) < 0) = false := decide_eq_false (by omega)
          clear hAt hav hx HB hp hkd hkid hV hVV hlf2 hw hc' e
          cases cw with
          | false =>
            have HZ : Hid (nd0 = false) := Lib.hid (by rw [hBs]; rfl)
            clear hBs
            go_wp2_with (go_at_call 71; refine HAt.out.mono ?_; rintro e w2 ⟨rfl, hb2⟩; obtain ⟨q1, q2⟩ := bcell hb2)
            go_quiet (first | (go_at_call 70; exact quiet_says (refWord_is _ _ _ HRO.out HW.out)) | (go_at_call 72; exact quiet_says (HHas.out _ (below_drewN hb2 _))))
            go_wp2_with fail
            go_ret
            exact ret_b HZ.out rfl (below_drewN (HP.out.after hb2).bel _)
          | true =>
            cases ch with
            | false =>
              have HZ : Hid (nd0 = false) := Lib.hid (by rw [hBs]; rfl)
              clear hBs
              go_wp2_with (go_at_call 71; refine HAt.out.mono ?_; rintro e w2 ⟨rfl, hb2⟩; obtain ⟨q1, q2⟩ := bcell hb2)
              go_quiet (first | (go_at_call 70; exact quiet_says (refWord_is _ _ _ HRO.out HW.out)) | (go_at_call 72; exact quiet_says (HHas.out _ (below_drewN hb2 _))))
              go_wp2_with fail
              go_ret
              exact ret_b HZ.out rfl (below_drewN (HP.out.after hb2).bel _)
            | true =>
              have HZ : Hid (nd0 = belowB nds (65 - (d + 1)) kd) := Lib.hid (by rw [hBs]; simp only [Bool.true_and]; congr 1; omega)
              clear hBs
              go_wp2_with (go_at_call 71; refine HAt.out.mono ?_; rintro e w2 ⟨rfl, hb2⟩; obtain ⟨q1, q2⟩ := bcell hb2)
              go_quiet (first | (go_at_call 70; exact quiet_says (refWord_is _ _ _ HRO.out HW.out)) | (go_at_call 72; exact quiet_says (HHas.out _ (below_drewN hb2 _))))
              go_wp2_with fail
              go_roundw
              case rel =>
                refine ⟨d + 1, kd, ⟨⟨Ap2, np2, cp2⟩, ⟨Ak2, nk2, ck2⟩, ⟨Ar2, nr2, cr2⟩⟩, by omega, by omega, by go_num, ?_, HLF2, HZ⟩
                exact (HP.out.after hb2).store _ ⟨⟨Ap2, np2, cp2⟩, ⟨Ak2, nk2, ck2⟩, ⟨Ar2, nr2, cr2⟩⟩ nq
              case measure => simp [intOf]; omega
    · have HZ : Hid (nd0 = false) := Lib.hid (by rw [HB.out, show 65 - d = 0 from by omega]; rfl)
      clear HB
      go_wp2_with fail
      go_ret
      exact ret_b HZ.out rfl hbel
end Go.Proofs.YtohinklkcinjpaaGreat
