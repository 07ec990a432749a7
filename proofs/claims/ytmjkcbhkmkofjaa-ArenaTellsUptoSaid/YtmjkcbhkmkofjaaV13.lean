/-
  WALKS: Users of the document.
-/
import Derived.Test.YtmjkcbhkmkofjaaV12
namespace Go.Proofs.Ytmjkcbhkmkofjaa
open Go Go.RowKit Go.Sort
set_option linter.unusedVariables false
attribute [local go_sem ↓] Go.wp_at_zero Go.wp_at_succ

section
variable {w X X' : World} {next : Int} {A : Option Addr} {n c : Nat} {ov sv : Value} {out st : List Int}
theorem DW.node_set (h : DW w next A n c ov out sv st X) {g : Nat} {cs : Array Value} (hB : Blk X g 51 cs) (hg : w.heap.size ≤ g) (i : Nat) (u : Value) : DW w next A n c ov out sv st (X.setCell ⟨g, i, none⟩ u) :=
  ⟨⟨h.m.a.far (p := ⟨g, i, none⟩) (h.m.a.ne_ hB (by decide)) u, h.m.bel.setCell (p := ⟨g, i, none⟩) hg u⟩, own_other h.o hB (by decide) i u, own_other h.s hB (by decide) i u, h.ne⟩
theorem DW.cellS {As : Option Addr} {m cs : Nat} (h : DW w next A n c ov out (.slice As m cs) st X) {bs os : Nat} (hA : As = some ⟨bs, os, none⟩) {k : Nat} {y : Int} (hk : st[k]? = some y) : X.cell? ⟨bs, os + k, none⟩ = some (.int .i64 y) := by
  obtain ⟨A2, c2, he⟩ := own_form h.s
  injection he with _ h2 _
  subst h2
  obtain ⟨b', o', hA', _, _, hc⟩ := (own_row h.s).2.2.2 (by have := (List.getElem?_eq_some_iff.1 hk).1; omega)
  rw [hA] at hA'
  injection hA' with hA'
  injection hA' with e1 e2
  subst e1 e2
  exact hc k _ (intCells_get hk)
/-- .. and the box of a node -/
structure UB (w : World) (next : Int) (A : Option Addr) (n c : Nat) (ov : Value) (out : List Int) (sv : Value) (st : List Int) (g : Nat) (cs : Array Value) (X : World) : Prop where
  d : DW w next A n c ov out sv st X
  b : Blk X g 51 cs
  le : w.heap.size ≤ g
theorem UB.after {g : Nat} {cs : Array Value} (h : UB w next A n c ov out sv st g cs X) (hb : Below X.heap.size X X') : UB w next A n c ov out sv st g cs X' := ⟨h.d.after hb, h.b.after hb, h.le⟩
theorem UB.set {g : Nat} {cs : Array Value} (h : UB w next A n c ov out sv st g cs X) (i : Nat) (u : Value) : UB w next A n c ov out sv st g (cs.setIfInBounds i u) (X.setCell ⟨g, i, none⟩ u) := ⟨h.d.node_set h.b h.le i u, h.b.set_ i u, h.le⟩
theorem UB.lay {g : Nat} {a0 a1 a2 a3 a4 a5 a6 : Value} (h : UB w next A n c ov out sv st g #[a0, a1, a2, a3, a4, a5, a6] X) (u0 u1 u2 u3 u4 u5 u6 : Value) :
    UB w next A n c ov out sv st g #[u0, u1, u2, u3, u4, u5, u6] (((((((X.setCell ⟨g, 0, none⟩ u0).setCell ⟨g, 1, none⟩ u1).setCell ⟨g, 2, none⟩ u2).setCell ⟨g, 3, none⟩ u3).setCell ⟨g, 4, none⟩ u4).setCell ⟨g, 5, none⟩ u5).setCell ⟨g, 6, none⟩ u6) := by
  have := ((((((h.set 0 u0).set 1 u1).set 2 u2).set 3 u3).set 4 u4).set 5 u5).set 6 u6
  simpa using this
end

set_option maxRecDepth 100000 in
set_option maxHeartbeats 3200000 in
theorem refUsers_any (w : World) (hi : Nat) (next z : Int) (A : Option Addr) (n c : Nat) (nds : List Nd) (h : NodesIn w 0 hi A n c nds) (hh : hi ≤ w.heap.size) :
    Calls Try.prog 37 #[.agg #[.int .i64 next, .slice A n c], .int .i64 z] w (ListR w (usersR next nds z)) := by
  have hc := h.2.2.1
  have hnc := h.2.1
  unfold maxLen at hc
  have HL := Lib.hid h.1
  have HM0 := Lib.hid (M1.start w next A n c)
  have HOr := Lib.hid (refOrder_any _ hi next A n c nds (h.below (HM0.out.bel.mono hh)) (Nat.le_trans hh HM0.out.bel.size))
  have HU : Hid (usersR next nds z = (orderR next nds).filter (refsToB nds z)) := Lib.hid (by unfold usersR orderR; split <;> simp)
  have HLR : Hid (∀ y ∈ orderR next nds, rightB next nds = true ∧ ∃ nd, ndOf nds y = some nd) := Lib.hid fun y hy => by
    unfold orderR at hy
    split at hy
    · rename_i hr
      exact ⟨hr, order_mem (rightM hr) hy⟩
    · cases hy
  have hLl : (orderR next nds).length ≤ 4096 := by
    unfold orderR
    split
    · rename_i hr
      exact Nat.le_trans (order_len (rightM hr)) (rightM hr).len
    · simp
  rw [HU.out]
  clear HU
  generalize orderR next nds = L at HOr HLR hLl
  obtain ⟨i0, hi0, hz0, hz1, hz2⟩ := info_parts intInfo
  go_enter Try.func37, Try.ntmps37
  have a0 := (HM0.out.a.cell 0).trans (show _ = some (.int .i64 next) from rfl)
  have a1 := (HM0.out.a.cell 1).trans (show _ = some (.slice A n c) from rfl)
  go_wp2_with (go_at_call 34; go_must (refine HOr.out.mono ?_; rintro e w2 ⟨lv, rfl, hlv, hb2⟩; obtain ⟨Al, cl, rfl⟩ := own_form hlv; clear a0 a1; have HD2 : Hid (DW w next A n c (.slice none 0 0) [] (.slice Al L.length cl) L w2) := Lib.hid ⟨HM0.out.after hb2, ⟨rfl, .inl ⟨rfl, rfl⟩⟩, own_mono hlv HM0.out.bel.size, .inl rfl⟩; clear hlv hb2))
  go_loopw [5, 7] (fun ov v9 wr => ∃ (k : Nat), k ≤ L.length ∧ v9 = .int .i64 k ∧ DW w next A n c ov ((L.take k).filter (refsToB nds z)) (.slice Al L.length cl) L wr) (fun _ v _ => L.length - (intOf v).toNat)
  case atStart => exact ⟨0, Nat.zero_le _, rfl, by simpa using HD2.out⟩
  case round =>
    clear HD2 HM0 HOr
    obtain ⟨k, hk, rfl, W⟩ := hrel
    obtain ⟨fo, hfo⟩ : ∃ fo, (L.take k).filter (refsToB nds z) = fo := ⟨_, rfl⟩
    rw [hfo] at W
    have HFO := Lib.hid hfo
    have hfl : fo.length ≤ 4096 := by
      rw [← hfo]
      have := List.length_filter_le (refsToB nds z) (L.take k)
      rw [List.length_take] at this
      omega
    have HW := Lib.hid W
    clear W hfo
    rename World => wr
    by_cases hlt : k < L.length
    · obtain ⟨y, hy⟩ : ∃ y, L[k]? = some y := ⟨L[k], List.getElem?_eq_getElem _⟩
      obtain ⟨hrt, nd, hnd⟩ := HLR.out y (List.mem_of_getElem? hy)
      have hR := rightM hrt
      have hn4 : n ≤ 4096 := by rw [← h.1]; exact hR.len
      obtain ⟨Ao, co, hov⟩ := own_form HW.out.o
      subst hov
      obtain ⟨bs, os, hAl, _, _, _⟩ := (own_row HW.out.s).2.2.2 (by omega)
      have hlc := (own_row HW.out.s).2.1
      have hlm := (own_row HW.out.s).2.2.1
      unfold maxLen at hlm
      obtain ⟨i, hix, hgi, hie⟩ := ndOf_some hnd
      have hin := ixOf_lt hix
      rw [HL.out] at hin
      obtain ⟨b, o, hA, _, hb, V, hV⟩ := h.all (by omega)
      have hat := (hV i nd hgi).1
      have hlf := (hV i nd hgi).2
      generalize V i = Lf at hat hlf
      subst hA hAl
      have HAt : Hid (∀ X, Below w.heap.size w X → Calls Try.prog 51 #[.agg #[.int .i64 next, .slice (some ⟨b, o, none⟩) n c], .int .i64 y] X (Ret X (.int .i64 i))) := Lib.hid fun X hX => by
        rw [← atV_some hix]
        exact refAt_any X hi next y _ n c nds (h.below (hX.mono hh)) (Nat.le_trans hh hX.size) hR.rise hn4
      have HRR := Lib.hid hlf.r
      have hrc := hlf.r.2.1
      have hrm := hlf.r.2.2.1
      unfold maxLen at hrm
      have hrn : Lf.r.n = nd.refs.length := hlf.rn
      have HSof : Hid (∀ X, DW w next (some ⟨b, o, none⟩) n c (.slice Ao fo.length co) fo (.slice (some ⟨bs, os, none⟩) L.length cl) L X → X.cell? ⟨w.heap.size, 0, none⟩ = some (.int .i64 next) ∧ X.cell? ⟨w.heap.size, 1, none⟩ = some (.slice (some ⟨b, o, none⟩) n c) ∧ X.cell? ⟨bs, os + k, none⟩ = some (.int .i64 y) ∧ X.cell? ⟨b, o + i * 7, none⟩ = some (.int .i64 nd.id) ∧ X.cell? ⟨b, o + i * 7 + 1, none⟩ = some (.string nd.con) ∧ X.cell? ⟨b, o + i * 7 + 2, none⟩ = some (.int .i64 nd.par) ∧ X.cell? ⟨b, o + i * 7 + 3, none⟩ = some (.string nd.role) ∧ X.cell? ⟨b, o + i * 7 + 4, none⟩ = some (.slice Lf.p.A Lf.p.n Lf.p.c) ∧ X.cell? ⟨b, o + i * 7 + 5, none⟩ = some (.slice Lf.k.A Lf.k.n Lf.k.c) ∧ X.cell? ⟨b, o + i * 7 + 6, none⟩ = some (.slice Lf.r.A Lf.r.n Lf.r.c)) := Lib.hid fun X hX => by
        have hq := hat.below (hX.m.bel.mono hh) hb
        exact ⟨(hX.m.a.cell 0).trans rfl, (hX.m.a.cell 1).trans rfl, hX.cellS rfl hy, hq.c0, hq.c1, hq.c2, hq.c3, hq.c4, hq.c5, hq.c6⟩
      obtain ⟨⟨Ap, np, cp⟩, ⟨Ak, nk, ck⟩, ⟨Ar, nr, cr⟩⟩ := Lf
      simp only at hrc hrm hrn HRR HSof
      have HRN := Lib.hid hrn
      have HTK : Hid ((L.take (k + 1)).filter (refsToB nds z) = fo ++ if nd.refs.any (fun p => p.2 == z) then [nd.id] else []) := Lib.hid (by
        rw [List.take_add_one, hy, List.filter_append, HFO.out]
        have hf : refsToB nds z y = nd.refs.any (fun p => p.2 == z) := by unfold refsToB; rw [hnd]
        cases hx : nd.refs.any (fun p => p.2 == z) <;> simp [hf, hx, hie])
      have HW1 := Lib.hid (HW.out.after (below_drew1 _))
      clear hy hrt hnd hix hgi hie hat hlf hV h HLR hrn
      go_upto_region 6 with (fail)
      go_cut [8] (fun s8 wx => ∃ g8, s8 = .pointer (some ⟨g8, 0, none⟩) ∧ Hid (UB w next (some ⟨b, o, none⟩) n c (.slice Ao fo.length co) fo (.slice (some ⟨bs, os, none⟩) L.length cl) L g8 #[.int .i64 nd.id, .string nd.con, .int .i64 nd.par, .string nd.role, .slice Ap np cp, .slice Ak nk ck, .slice Ar nr cr] wx))
      case first =>
        refine wp_region_held_tail 11 (fun w' => w'.cell? ⟨w.heap.size, 0, none⟩ = some (.int .i64 next) ∧ w'.cell? ⟨w.heap.size, 1, none⟩ = some (.slice (some ⟨b, o, none⟩) n c) ∧ w'.cell? ⟨bs, os + k, none⟩ = some (.int .i64 y) ∧ w'.cell? ⟨b, o + i * 7, none⟩ = some (.int .i64 nd.id) ∧ w'.cell? ⟨b, o + i * 7 + 1, none⟩ = some (.string nd.con) ∧ w'.cell? ⟨b, o + i * 7 + 2, none⟩ = some (.int .i64 nd.par) ∧ w'.cell? ⟨b, o + i * 7 + 3, none⟩ = some (.string nd.role) ∧ w'.cell? ⟨b, o + i * 7 + 4, none⟩ = some (.slice Ap np cp) ∧ w'.cell? ⟨b, o + i * 7 + 5, none⟩ = some (.slice Ak nk ck) ∧ w'.cell? ⟨b, o + i * 7 + 6, none⟩ = some (.slice Ar nr cr)) (by kernel_rfl) (by kernel_rfl) ?hSt (fun hHeld => ?qt0)
        case hSt => exact HSof.out _ HW1.out
        case qt0 =>
          generalize wr.drew = w1 at HW1 hHeld ⊢
          simp only [List.take_succ_cons, List.take_zero, List.drop_succ_cons, List.drop_zero]
          refine wpAnyH_take (i := 0) (v := (.pointer (some ⟨w.heap.size, 1, none⟩))) rfl (by kernel_rfl) (by kernel_rfl) (by kernel_rfl) (fun _ _ _ h => h) (Or.inl ⟨by rfl, ?yt_1⟩) (by assumption) ?qt_1
          case yt_1 => (intro w hSw; (try dsimp only at hSw); go_simp)
          case qt_1 =>
            (try simp only [Act.put]); (try simp only [List.setIfInBounds_toArray])
            refine wpAnyH_take (i := 1) (v := (.slice (some ⟨b, o, none⟩) n c)) rfl (by kernel_rfl) (by kernel_rfl) (by kernel_rfl) (fun _ _ _ h => h) (Or.inl ⟨by rfl, ?yt_2⟩) (by assumption) ?qt_2
            case yt_2 => (intro w hSw; (try dsimp only at hSw); go_simp)
            case qt_2 =>
              (try simp only [Act.put]); (try simp only [List.setIfInBounds_toArray])
              refine wpAnyH_take (i := 2) (v := (.agg #[.int .i64 next, .slice (some ⟨b, o, none⟩) n c])) rfl (by kernel_rfl) (by kernel_rfl) (by kernel_rfl) (fun _ _ _ h => h) (Or.inl ⟨by rfl, ?yt_3⟩) (by assumption) ?qt_3
              case yt_3 => (intro w hSw; (try dsimp only at hSw); go_simp)
              case qt_3 =>
                (try simp only [Act.put]); (try simp only [List.setIfInBounds_toArray])
                refine wpAnyH_take (i := 3) (v := (.slice (some ⟨bs, os, none⟩) L.length cl)) rfl (by kernel_rfl) (by kernel_rfl) (by kernel_rfl) (fun _ _ _ h => h) (Or.inl ⟨by rfl, ?yt_4⟩) (by assumption) ?qt_4
                case yt_4 => (intro w hSw; (try dsimp only at hSw); go_simp)
                case qt_4 =>
                  (try simp only [Act.put]); (try simp only [List.setIfInBounds_toArray])
                  refine wpAnyH_take (i := 4) (v := (.int .i64 k)) rfl (by kernel_rfl) (by kernel_rfl) (by kernel_rfl) (fun _ _ _ h => h) (Or.inl ⟨by rfl, ?yt_5⟩) (by assumption) ?qt_5
                  case yt_5 => (intro w hSw; (try dsimp only at hSw); go_simp)
                  case qt_5 =>
                    (try simp only [Act.put]); (try simp only [List.setIfInBounds_toArray])
                    refine wpAnyH_take (i := 5) (v := (.pointer (some ⟨bs, os + k, none⟩))) rfl (by kernel_rfl) (by kernel_rfl) (by kernel_rfl) (fun _ _ _ h => h) (Or.inl ⟨by rfl, ?yt_6⟩) (by assumption) ?qt_6
                    case yt_6 => (intro w hSw; (try dsimp only at hSw); go_simp)
                    case qt_6 =>
                      (try simp only [Act.put]); (try simp only [List.setIfInBounds_toArray])
                      refine wpAnyH_take (i := 6) (v := (.int .i64 y)) rfl (by kernel_rfl) (by kernel_rfl) (by kernel_rfl) (fun _ _ _ h => h) (Or.inl ⟨by rfl, ?yt_7⟩) (by assumption) ?qt_7
                      case yt_7 => (intro w hSw; (try dsimp only at hSw); go_simp)
                      case qt_7 =>
                        (try simp only [Act.put]); (try simp only [List.setIfInBounds_toArray])
                        refine wpAnyH_ready (rs := [7, 10]) (by kernel_rfl) (by simp) ?_
                        refine AllReadyH.cons rfl (fun K hK => ?st_8) ?mt_8
                        case st_8 =>
                          (refine step_call _ (by rfl) 51 #[.agg #[.int .i64 next, .slice (some ⟨b, o, none⟩) n c], .int .i64 y] (by go_simp) (HAt.out _ HW1.out.m.bel) ?_; rintro e Y ⟨rfl, hbd⟩; refine ⟨_, rfl, ?_⟩; have HWa := Lib.hid (HW1.out.after hbd); clear hbd)
                          refine hK.out _ _ ?kt_8 (fun hHeld => ?qt_8)
                          case kt_8 => ((try dsimp only); first | exact HSof.out _ HWb.out | exact HSof.out _ HWa.out | exact HSof.out _ HW1.out)
                          case qt_8 =>
                            clear hK K
                            (try simp only [Act.put]); (try simp only [List.setIfInBounds_toArray])
                            refine wpAnyH_take (i := 8) (v := (.pointer (some ⟨b, o + i * 7, none⟩))) rfl (by kernel_rfl) (by kernel_rfl) (by kernel_rfl) (fun _ _ _ h => h) (Or.inl ⟨by rfl, ?yt_9⟩) (by assumption) ?qt_9
                            case yt_9 => (intro w hSw; (try dsimp only at hSw); go_simp)
                            case qt_9 =>
                              (try simp only [Act.put]); (try simp only [List.setIfInBounds_toArray])
                              refine wpAnyH_take (i := 9) (v := (.agg #[.int .i64 nd.id, .string nd.con, .int .i64 nd.par, .string nd.role, .slice Ap np cp, .slice Ak nk ck, .slice Ar nr cr])) rfl (by kernel_rfl) (by kernel_rfl) (by kernel_rfl) (fun _ _ _ h => h) (Or.inl ⟨by rfl, ?yt_10⟩) (by assumption) ?qt_10
                              case yt_10 => (intro w hSw; (try dsimp only at hSw); go_simp)
                              case qt_10 =>
                                (try simp only [Act.put]); (try simp only [List.setIfInBounds_toArray])
                                refine wpAnyH_ready (rs := [10]) (by kernel_rfl) (by simp) ?_
                                refine AllReadyH.cons rfl (fun K hK => ?st_11) ?mt_11
                                case st_11 =>
                                  (go_simp; have HWb := Lib.hid (HWa.out.after (below_more (Below.refl _ _) (.cells #[.int .i64 0, .string ⟨#[]⟩, .int .i64 0, .string ⟨#[]⟩, .slice none 0 0, .slice none 0 0, .slice none 0 0] 51))); have HUb : Hid (UB w next (some ⟨b, o, none⟩) n c (.slice Ao fo.length co) fo (.slice (some ⟨bs, os, none⟩) L.length cl) L Y.heap.size #[.int .i64 0, .string ⟨#[]⟩, .int .i64 0, .string ⟨#[]⟩, .slice none 0 0, .slice none 0 0, .slice none 0 0] (Y.alloc (.cells #[.int .i64 0, .string ⟨#[]⟩, .int .i64 0, .string ⟨#[]⟩, .slice none 0 0, .slice none 0 0, .slice none 0 0] 51))) := Lib.hid ⟨HWb.out, Blk.new _ _ _, HWa.out.m.bel.size⟩; generalize (Y.alloc (.cells #[.int .i64 0, .string ⟨#[]⟩, .int .i64 0, .string ⟨#[]⟩, .slice none 0 0, .slice none 0 0, .slice none 0 0] 51)) = Z1 at HWb HUb ⊢)
                                  refine hK.out _ _ ?kt_11 (fun hHeld => ?qt_11)
                                  case kt_11 => ((try dsimp only); first | exact HSof.out _ HWb.out | exact HSof.out _ HWa.out | exact HSof.out _ HW1.out)
                                  case qt_11 =>
                                    clear hK K
                                    (try simp only [Act.put]); (try simp only [List.setIfInBounds_toArray])
                                    refine wpAnyH_done (by kernel_rfl) ?_ _
                                    clear hHeld
                                    have x0 := HUb.out.b.cell 0
                                    have x1 := HUb.out.b.cell 1
                                    have x2 := HUb.out.b.cell 2
                                    have x3 := HUb.out.b.cell 3
                                    have x4 := HUb.out.b.cell 4
                                    have x5 := HUb.out.b.cell 5
                                    have x6 := HUb.out.b.cell 6
                                    have y0 := HUb.out.b.frozen 0
                                    have y1 := HUb.out.b.frozen 1
                                    have y2 := HUb.out.b.frozen 2
                                    have y3 := HUb.out.b.frozen 3
                                    have y4 := HUb.out.b.frozen 4
                                    have y5 := HUb.out.b.frozen 5
                                    have y6 := HUb.out.b.frozen 6
                                    simp at x0 x1 x2 x3 x4 x5 x6
                                    show wpList _ _ _ _ _ _
                                    go_wp2_with fail
                                    go_meet
                                    exact ⟨_, rfl, Lib.hid (HUb.out.lay _ _ _ _ _ _ _)⟩
                                case mt_11 =>
                                  exact AllReadyH.nil
                        case mt_8 =>
                          refine AllReadyH.cons rfl (fun K hK => ?st_12) ?mt_12
                          case st_12 =>
                            (go_simp; have HWa := Lib.hid (HW1.out.after (below_more (Below.refl _ _) (.cells #[.int .i64 0, .string ⟨#[]⟩, .int .i64 0, .string ⟨#[]⟩, .slice none 0 0, .slice none 0 0, .slice none 0 0] 51))); have HUa : Hid (UB w next (some ⟨b, o, none⟩) n c (.slice Ao fo.length co) fo (.slice (some ⟨bs, os, none⟩) L.length cl) L w1.heap.size #[.int .i64 0, .string ⟨#[]⟩, .int .i64 0, .string ⟨#[]⟩, .slice none 0 0, .slice none 0 0, .slice none 0 0] (w1.alloc (.cells #[.int .i64 0, .string ⟨#[]⟩, .int .i64 0, .string ⟨#[]⟩, .slice none 0 0, .slice none 0 0, .slice none 0 0] 51))) := Lib.hid ⟨HWa.out, Blk.new _ _ _, HW1.out.m.bel.size⟩; generalize (w1.alloc (.cells #[.int .i64 0, .string ⟨#[]⟩, .int .i64 0, .string ⟨#[]⟩, .slice none 0 0, .slice none 0 0, .slice none 0 0] 51)) = Z1 at HWa HUa ⊢)
                            refine hK.out _ _ ?kt_12 (fun hHeld => ?qt_12)
                            case kt_12 => ((try dsimp only); first | exact HSof.out _ HWb.out | exact HSof.out _ HWa.out | exact HSof.out _ HW1.out)
                            case qt_12 =>
                              clear hK K
                              (try simp only [Act.put]); (try simp only [List.setIfInBounds_toArray])
                              refine wpAnyH_ready (rs := [7]) (by kernel_rfl) (by simp) ?_
                              refine AllReadyH.cons rfl (fun K hK => ?st_13) ?mt_13
                              case st_13 =>
                                (refine step_call _ (by rfl) 51 #[.agg #[.int .i64 next, .slice (some ⟨b, o, none⟩) n c], .int .i64 y] (by go_simp) (HAt.out _ HWa.out.m.bel) ?_; rintro e Y ⟨rfl, hbd⟩; refine ⟨_, rfl, ?_⟩; have HWb := Lib.hid (HWa.out.after hbd); have HUb := Lib.hid (HUa.out.after hbd); clear hbd)
                                refine hK.out _ _ ?kt_13 (fun hHeld => ?qt_13)
                                case kt_13 => ((try dsimp only); first | exact HSof.out _ HWb.out | exact HSof.out _ HWa.out | exact HSof.out _ HW1.out)
                                case qt_13 =>
                                  clear hK K
                                  (try simp only [Act.put]); (try simp only [List.setIfInBounds_toArray])
                                  refine wpAnyH_take (i := 8) (v := (.pointer (some ⟨b, o + i * 7, none⟩))) rfl (by kernel_rfl) (by kernel_rfl) (by kernel_rfl) (fun _ _ _ h => h) (Or.inl ⟨by rfl, ?yt_14⟩) (by assumption) ?qt_14
                                  case yt_14 => (intro w hSw; (try dsimp only at hSw); go_simp)
                                  case qt_14 =>
                                    (try simp only [Act.put]); (try simp only [List.setIfInBounds_toArray])
                                    refine wpAnyH_take (i := 9) (v := (.agg #[.int .i64 nd.id, .string nd.con, .int .i64 nd.par, .string nd.role, .slice Ap np cp, .slice Ak nk ck, .slice Ar nr cr])) rfl (by kernel_rfl) (by kernel_rfl) (by kernel_rfl) (fun _ _ _ h => h) (Or.inl ⟨by rfl, ?yt_15⟩) (by assumption) ?qt_15
                                    case yt_15 => (intro w hSw; (try dsimp only at hSw); go_simp)
                                    case qt_15 =>
                                      (try simp only [Act.put]); (try simp only [List.setIfInBounds_toArray])
                                      refine wpAnyH_done (by kernel_rfl) ?_ _
                                      clear hHeld
                                      have x0 := HUb.out.b.cell 0
                                      have x1 := HUb.out.b.cell 1
                                      have x2 := HUb.out.b.cell 2
                                      have x3 := HUb.out.b.cell 3
                                      have x4 := HUb.out.b.cell 4
                                      have x5 := HUb.out.b.cell 5
                                      have x6 := HUb.out.b.cell 6
                                      have y0 := HUb.out.b.frozen 0
                                      have y1 := HUb.out.b.frozen 1
                                      have y2 := HUb.out.b.frozen 2
                                      have y3 := HUb.out.b.frozen 3
                                      have y4 := HUb.out.b.frozen 4
                                      have y5 := HUb.out.b.frozen 5
                                      have y6 := HUb.out.b.frozen 6
                                      simp at x0 x1 x2 x3 x4 x5 x6
                                      show wpList _ _ _ _ _ _
                                      go_wp2_with fail
                                      go_meet
                                      exact ⟨_, rfl, Lib.hid (HUb.out.lay _ _ _ _ _ _ _)⟩
                              case mt_13 =>
                                exact AllReadyH.nil
                          case mt_12 =>
                            exact AllReadyH.nil
      case rest =>
        obtain ⟨g8, rfl, HUB⟩ := hcut
        rename World => wc
        have r6 := HUB.out.b.cell 6
        simp at r6
        go_wp2_with fail
        clear r6
        go_loopw [5, 9] (fun v5 v9 wx => ∃ (q : Nat), q ≤ nr ∧ v5 = .slice Ao fo.length co ∧ v9 = .int .i64 q ∧ UB w next (some ⟨b, o, none⟩) n c (.slice Ao fo.length co) fo (.slice (some ⟨bs, os, none⟩) L.length cl) L g8 #[.int .i64 nd.id, .string nd.con, .int .i64 nd.par, .string nd.role, .slice Ap np cp, .slice Ak nk ck, .slice Ar nr cr] wx ∧ Hid ((nd.refs.take q).all (fun p => p.2 != z) = true)) (fun _ v _ => nr - (intOf v).toNat)
        case atStart => exact ⟨0, Nat.zero_le _, rfl, rfl, HUB.out, Lib.hid (by simp)⟩
        case round =>
          clear HUB HW1 HW
          obtain ⟨q, hq, rfl, rfl, U, HT⟩ := hrel
          rename World => wx
          have r6 := U.b.cell 6
          have r0 := U.b.cell 0
          simp at r6 r0
          have HUx := Lib.hid U
          clear U
          by_cases hql : q < nr
          · obtain ⟨p, hp⟩ : ∃ p, nd.refs[q]? = some p := ⟨nd.refs[q]'(by have := HRN.out; omega), List.getElem?_eq_getElem _⟩
            obtain ⟨br, orr, hAr, _, hbr, hcells⟩ := HRR.out.at_ (by omega)
            have hc2 := (HUx.out.d.m.bel.cell (p := ⟨br, _, none⟩) (Nat.lt_of_lt_of_le hbr hh)).trans (hcells _ _ (refCells_get hp).2)
            rw [show orr + (q * 2 + 1) = orr + q * 2 + 1 from by omega] at hc2
            subst hAr
            have htk : nd.refs.take (q + 1) = nd.refs.take q ++ [p] := by rw [List.take_add_one, hp]; rfl
            have HTK2 := Lib.hid htk
            have HP := Lib.hid hp
            obtain ⟨ps, px⟩ := p
            simp only at hc2
            clear hcells htk hp
            cases d1 : (px == z) with
            | true =>
              have HN : Hid ((L.take (k + 1)).filter (refsToB nds z) = fo ++ [nd.id]) := Lib.hid (by
                rw [HTK.out, if_pos]
                exact List.any_eq_true.2 ⟨(ps, px), List.mem_of_getElem? HP.out, d1⟩)
              go_wp2_with (at_builtin; go_must (refine wpList_app _ rfl (.tmp 43) (.tmp 46) _ rfl w.heap.size 3 i0 _ 1 8 Try.underlying48 hi0 hz0 hz1 hz2 rfl (by omega) (.slice Ao fo.length co) fo.length (intCells fo) rfl (own_after HUx.out.d.o (below_more (Below.refl _ _) _)) wx.heap.size (wx.heap.size + 1) (some ⟨wx.heap.size, 0, none⟩) 1 1 [.int .i64 nd.id] rfl (row_blk (n := 1) (Blk.new' rfl) rfl (Nat.le_refl _) (by unfold maxLen; omega)) (by simp [Value.oneCell']) (by unfold maxLen; omega) (by omega) (Nat.le_trans HUx.out.d.m.bel.size (by simp)) ?_); go_must (intro v7 w7 hown7 hg7 hn7; obtain ⟨G7, cap7, rfl, hca7, hcb7⟩ := own_slice hown7; have HWx := Lib.hid ((HUx.out.d.after (below_more (Below.refl _ _) _)).pushO hg7 hown7 hn7); clear hown7 hg7 hn7))
              go_roundw
              case measure => simp only [intOf]; omega
              case rel => exact ⟨k + 1, by omega, by simp, by rw [HN.out]; exact HWx.out⟩
            | false =>
              have HT2 : Hid ((nd.refs.take (q + 1)).all (fun p => p.2 != z) = true) := Lib.hid (by rw [HTK2.out, List.all_append, HT.out]; simp [bne, d1])
              go_wp2_with fail
              go_roundw
              case measure => simp only [intOf]; omega
              case rel => exact ⟨q + 1, by omega, rfl, by simp, HUx.out, HT2⟩
          · have hqn : q = nr := by omega
            subst hqn
            have HN : Hid ((L.take (k + 1)).filter (refsToB nds z) = fo) := Lib.hid (by
              rw [HTK.out]
              have h1 := HT.out
              rw [List.take_of_length_le (by have := HRN.out; omega)] at h1
              have h2 : nd.refs.any (fun p => p.2 == z) = false := by
                rw [List.any_eq_false]
                intro x hx
                have := List.all_eq_true.1 h1 x hx
                simpa using this
              rw [h2]; simp)
            go_wp2_with fail
            go_roundw
            case measure => simp only [intOf]; omega
            case rel => exact ⟨k + 1, by omega, by simp, by rw [HN.out]; exact HUx.out.d⟩
    · have hkn : k = L.length := by omega
      subst hkn
      have hfin : fo = L.filter (refsToB nds z) := by rw [← HFO.out, List.take_of_length_le (Nat.le_refl _)]
      subst hfin
      obtain ⟨Ao, co, hov⟩ := own_form HW.out.o
      subst hov
      clear h
      go_wp2_with fail
      go_ret
      exact ⟨_, rfl, HW.out.o, HW.out.m.bel⟩
end Go.Proofs.Ytmjkcbhkmkofjaa
