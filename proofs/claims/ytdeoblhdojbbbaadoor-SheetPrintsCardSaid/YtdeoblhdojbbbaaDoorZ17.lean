/-
  WALKS: plain of the document.
-/
import Derived.Test.YtdeoblhdojbbbaaDoorZ16
namespace Go.Proofs.YtdeoblhdojbbbaaDoor
open Go Go.RowKit Go.Sort
set_option linter.unusedVariables false
theorem PW.far {w wr : World} {next : Int} {A : Option Addr} {n c : Nat} {nd : Nd} {L : Leaf} (h : PW w next A n c nd L wr) {g : Nat} (hg : w.heap.size + 1 < g) (i : Nat) (u : Value) : PW w next A n c nd L (wr.setCell ⟨g, i, none⟩ u) :=
  ⟨h.md.far (p := ⟨g, i, none⟩) (by show _ ≠ g; omega) u, h.nb.far (p := ⟨g, i, none⟩) (by show _ ≠ g; omega) u, Below.setCell' h.bel (by omega) u⟩
theorem refWord_is (s : ByteArray) (b : Bool) (w : World) (hs : s.size ≤ maxLen) (h : wordB s = b) : Calls Tryd.prog 53 #[.string s] w (Says w b) := h ▸ refWord_any s w hs
set_option maxRecDepth 100000 in
set_option maxHeartbeats 6400000 in
theorem refPlain_any (w : World) (hi : Nat) (next : Int) (A : Option Addr) (n c : Nat) (nds : List Nd) (nd : Nd) (L : Leaf) (h : NodesIn w 0 hi A n c nds) (hlf : LeafIn w 0 hi nd L) (hh : hi ≤ w.heap.size) (hr : Rise nds) (hn : n ≤ 4096) :
    Calls Tryd.prog 35 #[.agg #[.int .i64 next, .slice A n c], .agg #[.int .i64 nd.id, .string nd.con, .int .i64 nd.par, .string nd.role, .slice L.p.A L.p.n L.p.c, .slice L.k.A L.k.n L.k.c, .slice L.r.A L.r.n L.r.c]] w (Ret w (.bool (plainB next nds nd))) := by
  have hc := h.2.2.1
  have hnc := h.2.1
  have HL := Lib.hid h.1
  unfold maxLen at hc
  have HP0 := Lib.hid (PW.start w next A n c nd L)
  obtain ⟨⟨Ap, np, cp⟩, ⟨Ak, nk, ck⟩, ⟨Ar, nr, cr⟩⟩ := L
  obtain ⟨h1, h2, h3, h4, h5, h6, h7⟩ := hlf
  simp only at h1 h2 h3 h4 h5 h6 HP0 ⊢
  have HLP := Lib.hid h1
  have HLK := Lib.hid h2
  have HLR := Lib.hid h3
  have hcp := h4.2.2.1
  have hcp' := h4.2.1
  have hck := h5.2.2.1
  have hck' := h5.2.1
  have hcr := h6.2.2.1
  have hcr' := h6.2.1
  unfold maxLen at hcp hck hcr
  have HRP := Lib.hid h4
  have HRK := Lib.hid h5
  have HRR := Lib.hid h6
  have HSZ := Lib.hid h7
  have HSC := Lib.hid h7.con
  have HPl : Hid (plainB next nds nd = (wordB nd.con && decide (nd.kids.length ≤ nds.length) && propsB none nd.props && refsB next none nd.refs && kidsB nds nd.id [] nd.kids)) := Lib.hid rfl
  clear h1 h2 h3 h4 h5 h6 h7
  have hmk := make_bools n (by omega)
  have HMK := Lib.hid hmk
  clear hmk
  cases hw : wordB nd.con with
  | false =>
    have HW := Lib.hid hw
    have HZ : Hid (plainB next nds nd = false) := Lib.hid (by rw [HPl.out, hw]; rfl)
    clear hw
    go_enter Tryd.func35, Tryd.ntmps35
    go_wp2_with (go_at_call 53; refine (refWord_is _ _ _ HSC.out HW.out).mono ?_; rintro e w2 ⟨rfl, rfl⟩)
    go_ret
    exact ret_b HZ.out rfl HP0.out.bel
  | true =>
    have HW := Lib.hid hw
    by_cases hk : nk ≤ n
    · have d1 : decide (n < nk) = false := decide_eq_false (by omega)
      have hPl : plainB next nds nd = (propsB none nd.props && refsB next none nd.refs && kidsB nds nd.id [] nd.kids) := by
        rw [HPl.out, hw, decide_eq_true (by have := HLK.out; have := HL.out; omega)]; rfl
      have HPl := Lib.hid hPl
      clear hPl hw
      go_enter Tryd.func35, Tryd.ntmps35
      go_wp2_with (go_at_call 53; refine (refWord_is _ _ _ HSC.out HW.out).mono ?_; rintro e w2 ⟨rfl, rfl⟩)
      go_loopw [5] (fun i wr => ∃ k : Nat, k ≤ np ∧ i = .int .i64 k ∧ PW w next A n c nd ⟨⟨Ap, np, cp⟩, ⟨Ak, nk, ck⟩, ⟨Ar, nr, cr⟩⟩ wr ∧ Hid (propsB none nd.props = propsB (prevP nd.props k) (nd.props.drop k))) (fun i _ => np - (intOf i).toNat)
      case atStart => exact ⟨0, by omega, rfl, HP0.out, Lib.hid rfl⟩
      case round =>
        clear HP0
        obtain ⟨k, hk, rfl, P, HK⟩ := hrel
        have c0 := P.md.cell 0
        have c1 := P.md.cell 1
        have b4 := P.nb.cell 4
        have b5 := P.nb.cell 5
        have b6 := P.nb.cell 6
        simp at c0 c1 b4 b5 b6
        have hbel := P.bel
        have HP := Lib.hid P
        clear P
        by_cases hlt : k < np
        · obtain ⟨b, o, rfl, _, hb, hcells⟩ := (HRP.out.below (hbel.mono hh)).at_ (by omega)
          obtain ⟨p, hp⟩ : ∃ p, nd.props[k]? = some p := ⟨nd.props[k]'(by have := HLP.out; have := HLR.out; omega), List.getElem?_eq_getElem _⟩
          have hc0 := hcells _ _ (propCells_get hp).1
          have hc1 := hcells _ _ (propCells_get hp).2
          have hc1 : wr.cell? ⟨b, o + k * 2 + 1, none⟩ = some (.string p.2) := by rw [Nat.add_assoc]; exact hc1
          obtain ⟨s1, s2⟩ := HSZ.out.props p (List.mem_of_getElem? hp)
          unfold maxLen at s2
          have hd : nd.props.drop k = p :: nd.props.drop (k + 1) := by
            obtain ⟨hl', rfl⟩ := List.getElem?_eq_some_iff.1 hp
            exact List.drop_eq_getElem_cons hl'
          have hpv : prevP nd.props (k + 1) = some p.1 := by unfold prevP; rw [if_neg (by omega), Nat.add_sub_cancel, hp]; rfl
          have HD : Hid (propsB none nd.props = (wordB p.1 && decide (p.2.size ≤ 4096) && aboveB (prevP nd.props k) p.1 && propsB (prevP nd.props (k + 1)) (nd.props.drop (k + 1)))) := Lib.hid (by rw [HK.out, hd, propsB, hpv])
          clear HK hd hpv hbel
          obtain ⟨a, v⟩ := p
          simp only at hc0 hc1 s1 s2 HD
          have HS1 := Lib.hid s1
          clear s1
          cases hw : wordB a with
          | false =>
            have HW := Lib.hid hw
            have HZ : Hid (plainB next nds nd = false) := Lib.hid (by rw [HPl.out, HD.out, hw]; simp)
            clear HD hw
            go_wp2_with fail
            go_quiet ((go_at_call 53; exact quiet_says (refWord_is _ _ _ HS1.out HW.out)))
            go_wp2_with fail
            go_ret
            exact ret_b HZ.out rfl (below_drewN HP.out.bel _)
          | true =>
            have HW := Lib.hid hw
            by_cases hz : v.size ≤ 4096
            · have d1 : decide ((4096 : Int) < (v.size : Int)) = false := decide_eq_false (by omega)
              by_cases h0 : k = 0
              · have HZ : Hid (propsB none nd.props = propsB (prevP nd.props (k + 1)) (nd.props.drop (k + 1))) := Lib.hid (by rw [HD.out, hw, decide_eq_true hz, h0]; rfl)
                have d2 : decide (0 < k) = false := decide_eq_false (by omega)
                clear HD hw h0
                go_wp2_with fail
                go_quiet ((go_at_call 53; exact quiet_says (refWord_is _ _ _ HS1.out HW.out)))
                go_wp2_with fail
                go_roundw
                case rel => exact ⟨k + 1, by omega, by go_num, HP.out.drewN _, HZ⟩
                case measure => simp [intOf]; omega
              · obtain ⟨q, hq⟩ : ∃ q, nd.props[k - 1]? = some q := ⟨nd.props[k - 1]'(by have := HLP.out; have := HLR.out; omega), List.getElem?_eq_getElem _⟩
                have hc2 := hcells _ _ (propCells_get hq).1
                have hpv : prevP nd.props k = some q.1 := by unfold prevP; rw [if_neg h0, hq]; rfl
                have d2 : decide (0 < k) = true := decide_eq_true (by omega)
                cases hq2 : ltS q.1 a with
                | true =>
                  have d3 : Op.bytesLess q.1.toList a.toList = true := hq2
                  have HZ : Hid (propsB none nd.props = propsB (prevP nd.props (k + 1)) (nd.props.drop (k + 1))) := Lib.hid (by rw [HD.out, hw, decide_eq_true hz, hpv]; simp only [aboveB]; rw [hq2]; rfl)
                  clear HD hw hpv hq2 hq hp
                  go_wp2_with fail
                  go_quiet ((go_at_call 53; exact quiet_says (refWord_is _ _ _ HS1.out HW.out)))
                  go_wp2_with fail
                  go_roundw
                  case rel => exact ⟨k + 1, by omega, by go_num, HP.out.drewN _, HZ⟩
                  case measure => simp [intOf]; omega
                | false =>
                  have d3 : Op.bytesLess q.1.toList a.toList = false := hq2
                  have HZ : Hid (plainB next nds nd = false) := Lib.hid (by rw [HPl.out, HD.out, hw, decide_eq_true hz, hpv]; simp only [aboveB]; rw [hq2]; simp)
                  clear HD hw hpv hq2 hq hp
                  go_wp2_with fail
                  go_quiet ((go_at_call 53; exact quiet_says (refWord_is _ _ _ HS1.out HW.out)))
                  go_wp2_with fail
                  go_ret
                  exact ret_b HZ.out rfl (below_drewN HP.out.bel _)
            · have d1 : decide ((4096 : Int) < (v.size : Int)) = true := decide_eq_true (by omega)
              have HZ : Hid (plainB next nds nd = false) := Lib.hid (by rw [HPl.out, HD.out, decide_eq_false hz]; simp)
              clear HD hw
              go_wp2_with fail
              go_quiet ((go_at_call 53; exact quiet_says (refWord_is _ _ _ HS1.out HW.out)))
              go_wp2_with fail
              go_ret
              exact ret_b HZ.out rfl (below_drewN HP.out.bel _)
        · have HY : Hid (propsB none nd.props = true) := Lib.hid (by rw [HK.out, List.drop_eq_nil_of_le (by have := HLP.out; have := HLR.out; omega)]; cases prevP nd.props k <;> rfl)
          have hPl := HPl.out
          rw [HY.out] at hPl
          have HPl := Lib.hid hPl
          clear HK HY hPl
          have HP0 := HP
          clear HP hbel
          have hmk := HMK.out
          go_wp2_with fail
          clear hmk
          go_loopw [6] (fun i wr => ∃ k : Nat, k ≤ nr ∧ i = .int .i64 k ∧ PW w next A n c nd ⟨⟨Ap, np, cp⟩, ⟨Ak, nk, ck⟩, ⟨Ar, nr, cr⟩⟩ wr ∧ Hid (refsB next none nd.refs = refsB next (prevR nd.refs k) (nd.refs.drop k))) (fun i _ => nr - (intOf i).toNat)
          case atStart => exact ⟨0, by omega, rfl, HP0.out, Lib.hid rfl⟩
          case round =>
            clear HP0
            obtain ⟨k, hk, rfl, P, HK⟩ := hrel
            have c0 := P.md.cell 0
            have c1 := P.md.cell 1
            have b4 := P.nb.cell 4
            have b5 := P.nb.cell 5
            have b6 := P.nb.cell 6
            simp at c0 c1 b4 b5 b6
            have hbel := P.bel
            have HP := Lib.hid P
            clear P
            by_cases hlt : k < nr
            · obtain ⟨b, o, rfl, _, hb, hcells⟩ := (HRR.out.below (hbel.mono hh)).at_ (by omega)
              obtain ⟨p, hp⟩ : ∃ p, nd.refs[k]? = some p := ⟨nd.refs[k]'(by have := HLP.out; have := HLR.out; omega), List.getElem?_eq_getElem _⟩
              have hc0 := hcells _ _ (refCells_get hp).1
              have hc1 := hcells _ _ (refCells_get hp).2
              have hc1 : wr.cell? ⟨b, o + k * 2 + 1, none⟩ = some (.int .i64 p.2) := by rw [Nat.add_assoc]; exact hc1
              have s1 := HSZ.out.refs p (List.mem_of_getElem? hp)
              have hd : nd.refs.drop k = p :: nd.refs.drop (k + 1) := by
                obtain ⟨hl', rfl⟩ := List.getElem?_eq_some_iff.1 hp
                exact List.drop_eq_getElem_cons hl'
              have hpv : prevR nd.refs (k + 1) = some p.1 := by unfold prevR; rw [if_neg (by omega), Nat.add_sub_cancel, hp]; rfl
              have HD : Hid (refsB next none nd.refs = (wordB p.1 && decide (1 ≤ p.2) && decide (p.2 < next) && aboveB (prevR nd.refs k) p.1 && refsB next (prevR nd.refs (k + 1)) (nd.refs.drop (k + 1)))) := Lib.hid (by rw [HK.out, hd, refsB, hpv])
              clear HK hd hpv hbel
              obtain ⟨a, v⟩ := p
              simp only at hc0 hc1 s1 HD
              have HS1 := Lib.hid s1
              clear s1
              cases hw : wordB a with
              | false =>
                have HW := Lib.hid hw
                have HZ : Hid (plainB next nds nd = false) := Lib.hid (by rw [HPl.out, HD.out, hw]; simp)
                clear HD hw
                go_wp2_with fail
                go_quiet ((go_at_call 53; exact quiet_says (refWord_is _ _ _ HS1.out HW.out)))
                go_wp2_with fail
                go_ret
                exact ret_b HZ.out rfl (below_drewN HP.out.bel _)
              | true =>
                have HW := Lib.hid hw
                by_cases hz : 1 ≤ v
                · by_cases hy : v < next
                  · have d1 : decide (v < 1) = false := decide_eq_false (by omega)
                    have d1' : decide (next ≤ v) = false := decide_eq_false (by omega)
                    by_cases h0 : k = 0
                    · have HZ : Hid (refsB next none nd.refs = refsB next (prevR nd.refs (k + 1)) (nd.refs.drop (k + 1))) := Lib.hid (by rw [HD.out, hw, decide_eq_true hz, decide_eq_true hy, h0]; rfl)
                      have d2 : decide (0 < k) = false := decide_eq_false (by omega)
                      clear HD hw h0
                      go_wp2_with fail
                      go_quiet ((go_at_call 53; exact quiet_says (refWord_is _ _ _ HS1.out HW.out)))
                      go_wp2_with fail
                      go_roundw
                      case rel => exact ⟨k + 1, by omega, by go_num, HP.out.drewN _, HZ⟩
                      case measure => simp [intOf]; omega
                    · obtain ⟨q, hq⟩ : ∃ q, nd.refs[k - 1]? = some q := ⟨nd.refs[k - 1]'(by have := HLP.out; have := HLR.out; omega), List.getElem?_eq_getElem _⟩
                      have hc2 := hcells _ _ (refCells_get hq).1
                      have hpv : prevR nd.refs k = some q.1 := by unfold prevR; rw [if_neg h0, hq]; rfl
                      have d2 : decide (0 < k) = true := decide_eq_true (by omega)
                      cases hq2 : ltS q.1 a with
                      | true =>
                        have d3 : Op.bytesLess q.1.toList a.toList = true := hq2
                        have HZ : Hid (refsB next none nd.refs = refsB next (prevR nd.refs (k + 1)) (nd.refs.drop (k + 1))) := Lib.hid (by rw [HD.out, hw, decide_eq_true hz, decide_eq_true hy, hpv]; simp only [aboveB]; rw [hq2]; rfl)
                        clear HD hw hpv hq2 hq hp
                        go_wp2_with fail
                        go_quiet ((go_at_call 53; exact quiet_says (refWord_is _ _ _ HS1.out HW.out)))
                        go_wp2_with fail
                        go_roundw
                        case rel => exact ⟨k + 1, by omega, by go_num, HP.out.drewN _, HZ⟩
                        case measure => simp [intOf]; omega
                      | false =>
                        have d3 : Op.bytesLess q.1.toList a.toList = false := hq2
                        have HZ : Hid (plainB next nds nd = false) := Lib.hid (by rw [HPl.out, HD.out, hw, decide_eq_true hz, decide_eq_true hy, hpv]; simp only [aboveB]; rw [hq2]; simp)
                        clear HD hw hpv hq2 hq hp
                        go_wp2_with fail
                        go_quiet ((go_at_call 53; exact quiet_says (refWord_is _ _ _ HS1.out HW.out)))
                        go_wp2_with fail
                        go_ret
                        exact ret_b HZ.out rfl (below_drewN HP.out.bel _)
                  · have d1 : decide (v < 1) = false := decide_eq_false (by omega)
                    have d1' : decide (next ≤ v) = true := decide_eq_true (by omega)
                    have HZ : Hid (plainB next nds nd = false) := Lib.hid (by rw [HPl.out, HD.out, decide_eq_false hy]; simp)
                    clear HD hw
                    go_wp2_with fail
                    go_quiet ((go_at_call 53; exact quiet_says (refWord_is _ _ _ HS1.out HW.out)))
                    go_wp2_with fail
                    go_ret
                    exact ret_b HZ.out rfl (below_drewN HP.out.bel _)
                · have d1 : decide (v < 1) = true := decide_eq_true (by omega)
                  have HZ : Hid (plainB next nds nd = false) := Lib.hid (by rw [HPl.out, HD.out, decide_eq_false hz]; simp)
                  clear HD hw
                  go_wp2_with fail
                  go_quiet ((go_at_call 53; exact quiet_says (refWord_is _ _ _ HS1.out HW.out)))
                  go_wp2_with fail
                  go_ret
                  exact ret_b HZ.out rfl (below_drewN HP.out.bel _)
            · have HY : Hid (refsB next none nd.refs = true) := Lib.hid (by rw [HK.out, List.drop_eq_nil_of_le (by have := HLP.out; have := HLR.out; omega)]; cases prevR nd.refs k <;> rfl)
              have hPl := HPl.out
              rw [HY.out] at hPl
              have HPl := Lib.hid hPl
              clear HK HY hPl
              have HP0 := HP
              clear HP hbel
              have hmk := HMK.out
              go_wp2_with fail
              have hgz := HP0.out.size
              have hPm := HP0.out.after (below_box wr (.cells (noB n) 4))
              have hBm : BBlk (wr.alloc (.cells (noB n) 4)) wr.heap.size (List.replicate n false) := BBlk.start wr n
              have HPM := Lib.hid hPm
              have HBM := Lib.hid hBm
              clear hPm hBm hmk HP0
              obtain ⟨g, hg⟩ : ∃ g, g = wr.heap.size := ⟨_, rfl⟩
              rw [← hg] at HBM hgz ⊢
              have HG := Lib.hid hg
              clear hg
              generalize wr.alloc (.cells (noB n) 4) = wm at HPM HBM ⊢
              go_loopw [8] (fun i wr => ∃ (j : Nat) (mt : List Bool) (seen : List Int), j ≤ nk ∧ i = .int .i64 j ∧ PW w next A n c nd ⟨⟨Ap, np, cp⟩, ⟨Ak, nk, ck⟩, ⟨Ar, nr, cr⟩⟩ wr ∧ BBlk wr g mt ∧ Hid (MetOk nds n seen mt) ∧ Hid (kidsB nds nd.id [] nd.kids = kidsB nds nd.id seen (nd.kids.drop j))) (fun i _ => nk - (intOf i).toNat)
              case atStart => exact ⟨0, _, [], by omega, rfl, HPM.out, HBM.out, Lib.hid (MetOk.start nds n), Lib.hid rfl⟩
              case round =>
                clear HPM HBM
                obtain ⟨j, mt, seen, hj, rfl, P, hB, HM, HK⟩ := hrel
                have c0 := P.md.cell 0
                have c1 := P.md.cell 1
                have b0 := P.nb.cell 0
                have b5 := P.nb.cell 5
                simp at c0 c1 b0 b5
                have hbel := P.bel
                have hgl := Blk.lt hB
                have hsz := P.size
                have HP := Lib.hid P
                clear P
                by_cases hlt : j < nk
                · obtain ⟨b, o, rfl, _, hb, hcells⟩ := (HRK.out.below (hbel.mono hh)).at_ (by omega)
                  obtain ⟨kid, hkid⟩ : ∃ kid, nd.kids[j]? = some kid := ⟨nd.kids[j]'(by have := HLK.out; omega), List.getElem?_eq_getElem _⟩
                  have hkc := hcells j _ (intCells_get hkid)
                  have hkd : nd.kids.drop j = kid :: nd.kids.drop (j + 1) := by
                    obtain ⟨hl', rfl⟩ := List.getElem?_eq_some_iff.1 hkid
                    exact List.drop_eq_getElem_cons hl'
                  have q0 := cell_regrown c0
                  have q1 := cell_regrown c1
                  have q5 := cell_regrown b5
                  have qk := cell_regrown hkc
                  have hAt : ∀ d os, Calls Tryd.prog 39 #[.agg #[.int .i64 next, .slice A n c], .int .i64 kid] (grow (redrawn wr d) os) (Ret (grow (redrawn wr d) os) (.int .i64 (atV nds kid))) := fun d os =>
                    refAt_any _ hi next kid A n c nds ((h.below (hbel.mono hh)).below ((below_regrown wr d os).mono (by omega))) (by have := (below_regrown wr d os).size; omega) hr hn
                  have hstep : kidsB nds nd.id [] nd.kids = ((match ndOf nds kid with | none => false | some x => x.par == nd.id) && !seen.contains kid && kidsB nds nd.id (kid :: seen) (nd.kids.drop (j + 1))) := by rw [HK.out, hkd, kidsB]; rfl
                  clear HK hkd hkid hcells
                  cases hx : ixOf nds kid with
                  | none =>
                    have hav : atV nds kid = -1 := by unfold atV; rw [hx]
                    have HZ : Hid (plainB next nds nd = false) := Lib.hid (by
                      have e : ndOf nds kid = none := by unfold ndOf; rw [hx]; rfl
                      rw [HPl.out, hstep, e]; simp)
                    rw [hav] at hAt
                    have HAt := Lib.hid hAt
                    clear hAt hav hx hstep
                    go_wp2_with fail
                    refine wp_region_quiet_below (by kernel_rfl) (by kernel_rfl) ?_
                    repeat (go_big_quiet_step ((go_at_call 39; exact regrown_ret (HAt.out _ _))))
                    refine wpQuiet_nil ?_
                    intro _ hw'
                    obtain ⟨⟨dq, osq⟩, hw''⟩ := hw'
                    subst hw''
                    have hb2 := below_regrown wr dq osq
                    generalize grow (redrawn wr dq) osq = w2 at hb2 ⊢
                    clear q0 q1 q5 qk
                    have HP2 := Lib.hid (HP.out.after hb2)
                    obtain ⟨t1, t2⟩ := bcell hb2
                    go_wp2_with fail
                    go_quiet (fail)
                    go_wp2_with fail
                    go_ret
                    exact ret_b HZ.out rfl (below_drewN HP2.out.bel _)
                  | some jx =>
                    have hjx := ixOf_lt hx
                    rw [HL.out] at hjx
                    obtain ⟨kd, hkd, hkid⟩ := ixOf_some hx
                    have hav : atV nds kid = jx := by unfold atV; rw [hx]
                    have hnk : ndOf nds kid = some kd := by unfold ndOf; rw [hx]; exact hkd
                    have hmt := HM.out.2 kid jx hx
                    have hmc := hB.cell (i := jx) (by rw [HM.out.1]; exact hjx)
                    have hmf := Blk.frozen hB jx
                    rw [hmt] at hmc
                    rw [hnk] at hstep
                    have hstep : kidsB nds nd.id [] nd.kids = ((kd.par == nd.id) && !seen.contains kid && kidsB nds nd.id (kid :: seen) (nd.kids.drop (j + 1))) := hstep
                    have HM2 := Lib.hid (HM.out.step hx hjx)
                    rw [hav] at hAt
                    have HAt := Lib.hid hAt
                    obtain ⟨bA, oA, hA, _, hbA, V, hV⟩ := h.all (by omega)
                    subst hA
                    have hpc := ((hV jx kd hkd).1.below hbel (by omega)).c2
                    have HBB := Lib.hid hB
                    have hbA' : bA < wr.heap.size := by have := hbel.size; omega
                    have hbn : w.heap.size + 1 < wr.heap.size := hsz
                    have hbn' : w.heap.size < wr.heap.size := by omega
                    obtain ⟨sb, hsb⟩ : ∃ sb, seen.contains kid = sb := ⟨_, rfl⟩
                    rw [hsb] at hmc hstep
                    clear hAt hav hx hkd hkid hnk hmt hV hB hsb
                    by_cases e1 : kd.par = nd.id
                    · have d1 : (kd.par != nd.id) = false := by rw [bne_eq_false_iff_eq]; exact e1
                      have d1' : (kd.par == nd.id) = true := by rw [beq_iff_eq]; exact e1
                      cases sb with
                      | false =>
                        have HZ : Hid (kidsB nds nd.id [] nd.kids = kidsB nds nd.id (kid :: seen) (nd.kids.drop (j + 1))) := Lib.hid (by rw [hstep, d1']; rfl)
                        clear hstep e1
                        go_wp2_with fail
                        refine wp_region_quiet_below (by kernel_rfl) (by kernel_rfl) ?_
                        repeat (go_big_quiet_step ((go_at_call 39; exact regrown_ret (HAt.out _ _))))
                        refine wpQuiet_nil ?_
                        intro _ hw'
                        obtain ⟨⟨dq, osq⟩, hw''⟩ := hw'
                        subst hw''
                        have hb2 := below_regrown wr dq osq
                        generalize grow (redrawn wr dq) osq = w2 at hb2 ⊢
                        clear q0 q1 q5 qk
                        have HP2 := Lib.hid (HP.out.after hb2)
                        have HB2 := Lib.hid (Blk.after HBB.out hb2)
                        obtain ⟨t1, t2⟩ := bcell hb2
                        go_wp2_with fail
                        go_quiet (fail)
                        go_wp2_with fail
                        go_roundw
                        case rel => exact ⟨j + 1, _, _, by omega, by go_num, (HP2.out.far (g := g) (by omega) jx _).drewN _, BBlk.set_ HB2.out jx true, HM2, HZ⟩
                        case measure => simp [intOf]; omega
                      | true =>
                        have HZ : Hid (plainB next nds nd = false) := Lib.hid (by rw [HPl.out, hstep]; simp)
                        clear hstep e1
                        go_wp2_with fail
                        refine wp_region_quiet_below (by kernel_rfl) (by kernel_rfl) ?_
                        repeat (go_big_quiet_step ((go_at_call 39; exact regrown_ret (HAt.out _ _))))
                        refine wpQuiet_nil ?_
                        intro _ hw'
                        obtain ⟨⟨dq, osq⟩, hw''⟩ := hw'
                        subst hw''
                        have hb2 := below_regrown wr dq osq
                        generalize grow (redrawn wr dq) osq = w2 at hb2 ⊢
                        clear q0 q1 q5 qk
                        have HP2 := Lib.hid (HP.out.after hb2)
                        have HB2 := Lib.hid (Blk.after HBB.out hb2)
                        obtain ⟨t1, t2⟩ := bcell hb2
                        go_wp2_with fail
                        go_quiet (fail)
                        go_wp2_with fail
                        go_ret
                        exact ret_b HZ.out rfl (below_drewN HP2.out.bel _)
                    · have d1 : (kd.par != nd.id) = true := by rw [bne_iff_ne]; exact e1
                      have d1' : (kd.par == nd.id) = false := by rw [beq_eq_false_iff_ne]; exact e1
                      have HZ : Hid (plainB next nds nd = false) := Lib.hid (by rw [HPl.out, hstep, d1']; simp)
                      clear hstep e1
                      go_wp2_with fail
                      refine wp_region_quiet_below (by kernel_rfl) (by kernel_rfl) ?_
                      repeat (go_big_quiet_step ((go_at_call 39; exact regrown_ret (HAt.out _ _))))
                      refine wpQuiet_nil ?_
                      intro _ hw'
                      obtain ⟨⟨dq, osq⟩, hw''⟩ := hw'
                      subst hw''
                      have hb2 := below_regrown wr dq osq
                      generalize grow (redrawn wr dq) osq = w2 at hb2 ⊢
                      clear q0 q1 q5 qk
                      have HP2 := Lib.hid (HP.out.after hb2)
                      have HB2 := Lib.hid (Blk.after HBB.out hb2)
                      obtain ⟨t1, t2⟩ := bcell hb2
                      go_wp2_with fail
                      go_quiet (fail)
                      go_wp2_with fail
                      go_ret
                      exact ret_b HZ.out rfl (below_drewN HP2.out.bel _)
                · have HZ : Hid (plainB next nds nd = true) := Lib.hid (by
                    have e : kidsB nds nd.id [] nd.kids = true := by rw [HK.out, List.drop_eq_nil_of_le (by have := HLK.out; omega)]; rfl
                    rw [HPl.out, e]; rfl)
                  clear HK
                  go_wp2_with fail
                  go_ret
                  exact ret_b HZ.out rfl hbel
    · have d1 : decide (n < nk) = true := decide_eq_true (by omega)
      have HZ : Hid (plainB next nds nd = false) := Lib.hid (by rw [HPl.out, decide_eq_false (p := nd.kids.length ≤ nds.length) (by have := HLK.out; have := HL.out; omega)]; simp)
      clear hw
      go_enter Tryd.func35, Tryd.ntmps35
      go_wp2_with (go_at_call 53; refine (refWord_is _ _ _ HSC.out HW.out).mono ?_; rintro e w2 ⟨rfl, rfl⟩)
      go_ret
      exact ret_b HZ.out rfl HP0.out.bel
end Go.Proofs.YtdeoblhdojbbbaaDoor
