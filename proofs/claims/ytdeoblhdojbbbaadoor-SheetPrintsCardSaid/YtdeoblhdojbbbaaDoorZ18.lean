/-
  WALKS: below of the document.
-/
import Derived.Test.YtdeoblhdojbbbaaDoorZ17
namespace Go.Proofs.YtdeoblhdojbbbaaDoor
open Go Go.RowKit Go.Sort
set_option linter.unusedVariables false
theorem PW.store {w wr : World} {next : Int} {A : Option Addr} {n c : Nat} {nd : Nd} {L : Leaf} (h : PW w next A n c nd L wr) (kd : Nd) (M : Leaf) (nq : Nat) :
    PW w next A n c kd M ((((((((wr.drewN nq).setCell ⟨w.heap.size + 1, 0, none⟩ (.int .i64 kd.id)).setCell ⟨w.heap.size + 1, 1, none⟩ (.string kd.con)).setCell ⟨w.heap.size + 1, 2, none⟩ (.int .i64 kd.par)).setCell ⟨w.heap.size + 1, 3, none⟩ (.string kd.role)).setCell ⟨w.heap.size + 1, 4, none⟩ (.slice M.p.A M.p.n M.p.c)).setCell ⟨w.heap.size + 1, 5, none⟩ (.slice M.k.A M.k.n M.k.c)).setCell ⟨w.heap.size + 1, 6, none⟩ (.slice M.r.A M.r.n M.r.c)) := by
  have hne : w.heap.size ≠ w.heap.size + 1 := by omega
  have h0 := h.drewN nq
  refine ⟨((((((h0.md.far (p := ⟨_, _, none⟩) hne _).far (p := ⟨_, _, none⟩) hne _).far (p := ⟨_, _, none⟩) hne _).far (p := ⟨_, _, none⟩) hne _).far (p := ⟨_, _, none⟩) hne _).far (p := ⟨_, _, none⟩) hne _).far (p := ⟨_, _, none⟩) hne _, ?_, ?_⟩
  · have := ((((((h0.nb.set_ 0 (.int .i64 kd.id)).set_ 1 (.string kd.con)).set_ 2 (.int .i64 kd.par)).set_ 3 (.string kd.role)).set_ 4 (.slice M.p.A M.p.n M.p.c)).set_ 5 (.slice M.k.A M.k.n M.k.c)).set_ 6 (.slice M.r.A M.r.n M.r.c)
    simpa using this
  · have hb := h0.bel
    exact Below.setCell' (Below.setCell' (Below.setCell' (Below.setCell' (Below.setCell' (Below.setCell' (Below.setCell' hb (by omega) _) (by omega) _) (by omega) _) (by omega) _) (by omega) _) (by omega) _) (by omega) _
set_option maxRecDepth 100000 in
set_option maxHeartbeats 3200000 in
theorem refBelow_any (w : World) (hi : Nat) (next : Int) (A : Option Addr) (n c : Nat) (nds : List Nd) (nd : Nd) (L : Leaf) (h : NodesIn w 0 hi A n c nds) (hlf : LeafIn w 0 hi nd L) (hh : hi ≤ w.heap.size) (hr : Rise nds) (hn : n ≤ 4096) :
    Calls Tryd.prog 36 #[.agg #[.int .i64 next, .slice A n c], .agg #[.int .i64 nd.id, .string nd.con, .int .i64 nd.par, .string nd.role, .slice L.p.A L.p.n L.p.c, .slice L.k.A L.k.n L.k.c, .slice L.r.A L.r.n L.r.c]] w (Ret w (.bool (belowB nds 64 nd))) := by
  have hc := h.2.2.1
  have hnc := h.2.1
  have HL := Lib.hid h.1
  unfold maxLen at hc
  have HP0 := Lib.hid (PW.start w next A n c nd L)
  have HLF0 := Lib.hid hlf
  obtain ⟨nd0, HN0⟩ : ∃ x, Hid (belowB nds 64 nd = x) := ⟨_, Lib.hid rfl⟩
  have hgoal : nd0 = belowB nds 64 nd := HN0.out.symm
  rw [← hgoal]
  clear hgoal hlf
  go_enter Tryd.func36, Tryd.ntmps36
  go_wp2_with fail
  go_loopw [5] (fun i wr => ∃ (d : Nat) (x : Nd) (M : Leaf), 1 ≤ d ∧ d ≤ 65 ∧ i = .int .i64 d ∧ PW w next A n c x M wr ∧ Hid (LeafIn w 0 hi x M) ∧ Hid (nd0 = belowB nds (65 - d) x)) (fun i _ => 65 - (intOf i).toNat)
  case atStart => exact ⟨1, nd, L, by omega, by omega, rfl, HP0.out, HLF0, Lib.hid HN0.out.symm⟩
  case round =>
    clear HP0 HLF0 HN0
    obtain ⟨d, x, ⟨⟨Ap, np, cp⟩, ⟨Ak, nk, ck⟩, ⟨Ar, nr, cr⟩⟩, hd1, hd, rfl, P, HLF, HB⟩ := hrel
    have c0 := P.md.cell 0
    have c1 := P.md.cell 1
    have b0 := P.nb.cell 0
    have b1 := P.nb.cell 1
    have b2 := P.nb.cell 2
    have b3 := P.nb.cell 3
    have b4 := P.nb.cell 4
    have b5 := P.nb.cell 5
    have b6 := P.nb.cell 6
    simp at c0 c1 b0 b1 b2 b3 b4 b5 b6
    have hfz : ∀ i, wr.frozen? ⟨w.heap.size + 1, i, none⟩ = false := fun i => Blk.frozen P.nb i
    have hbel := P.bel
    have hsz := P.size
    have hsz' : w.heap.size < wr.heap.size := by omega
    have HP := Lib.hid P
    clear P
    by_cases hlt : d ≤ 64
    · have hBs : nd0 = belowB nds ((64 - d) + 1) x := by rw [HB.out]; congr 1; omega
      rw [belowB] at hBs
      by_cases hp : x.par = 0
      · rw [if_pos hp] at hBs
        have d1 : (x.par == 0) = true := by rw [beq_iff_eq]; exact hp
        have HZ := Lib.hid hBs
        clear hp hBs HB
        go_wp2_with fail
        go_ret
        exact ret_b HZ.out rfl hbel
      · rw [if_neg hp] at hBs
        have d1 : (x.par == 0) = false := by rw [beq_eq_false_iff_ne]; exact hp
        have hAt := refAt_any wr hi next x.par A n c nds (h.below (hbel.mono hh)) (by omega) hr hn
        cases hx : ixOf nds x.par with
        | none =>
          have hav : atV nds x.par = -1 := by unfold atV; rw [hx]
          have e : ndOf nds x.par = none := by unfold ndOf; rw [hx]; rfl
          rw [e] at hBs
          have HZ : Hid (nd0 = false) := Lib.hid hBs
          rw [hav] at hAt
          have HAt := Lib.hid hAt
          clear hAt hav hx hBs HB hp e
          go_wp2_with (go_at_call 39; refine HAt.out.mono ?_; rintro e w2 ⟨rfl, hb2⟩; obtain ⟨q1, q2⟩ := bcell hb2)
          go_quiet (fail)
          go_wp2_with fail
          go_ret
          exact ret_b HZ.out rfl (below_drewN (HP.out.after hb2).bel _)
        | some jx =>
          have hjx := ixOf_lt hx
          rw [HL.out] at hjx
          obtain ⟨kd, hkd, hkid⟩ := ixOf_some hx
          have hav : atV nds x.par = jx := by unfold atV; rw [hx]
          have e : ndOf nds x.par = some kd := by unfold ndOf; rw [hx]; exact hkd
          rw [e] at hBs
          have hBs : nd0 = (wordB x.role && kd.kids.contains x.id && belowB nds (64 - d) kd) := hBs
          rw [hav] at hAt
          have HAt := Lib.hid hAt
          obtain ⟨bA, oA, hA, _, hbA, V, hV⟩ := h.all (by omega)
          subst hA
          have hbr : bA < wr.heap.size := by have := hbel.size; omega
          have hat := (hV jx kd hkd).1.below hbel (by omega)
          have hlf2 := (hV jx kd hkd).2
          obtain ⟨⟨⟨Ap2, np2, cp2⟩, ⟨Ak2, nk2, ck2⟩, ⟨Ar2, nr2, cr2⟩⟩, hVV⟩ : ∃ M, V jx = M := ⟨_, rfl⟩
          rw [hVV] at hat hlf2
          obtain ⟨a0, a1, a2, a3, a4, a5, a6⟩ := hat
          simp only at a4 a5 a6
          have HRO := Lib.hid HLF.out.sz.role
          have HLF2 := Lib.hid hlf2
          have HHas : Hid (∀ w3, Below wr.heap.size wr w3 → Calls Tryd.prog 54 #[.slice Ak2 nk2 ck2, .int .i64 x.id] w3 (Says w3 (kd.kids.contains x.id))) := Lib.hid (fun w3 hb3 => refHas_any w3 0 hi Ak2 nk2 ck2 kd.kids x.id ((hlf2.k.below (hbel.mono hh)).below (hb3.mono (by omega))))
          obtain ⟨cw, hw⟩ : ∃ b, wordB x.role = b := ⟨_, rfl⟩
          obtain ⟨ch, hc'⟩ : ∃ b, kd.kids.contains x.id = b := ⟨_, rfl⟩
          rw [hw, hc'] at hBs
          rw [hc'] at HHas
          have HW := Lib.hid hw
          have dk : decide ((jx : Int) < 0) = false := decide_eq_false (by omega)
          clear hAt hav hx HB hp hkd hkid hV hVV hlf2 hw hc' e
          cases cw with
          | false =>
            have HZ : Hid (nd0 = false) := Lib.hid (by rw [hBs]; rfl)
            clear hBs
            go_wp2_with (go_at_call 39; refine HAt.out.mono ?_; rintro e w2 ⟨rfl, hb2⟩; obtain ⟨q1, q2⟩ := bcell hb2)
            go_quiet (first | (go_at_call 53; exact quiet_says (refWord_is _ _ _ HRO.out HW.out)) | (go_at_call 54; exact quiet_says (HHas.out _ (below_drewN hb2 _))))
            go_wp2_with fail
            go_ret
            exact ret_b HZ.out rfl (below_drewN (HP.out.after hb2).bel _)
          | true =>
            cases ch with
            | false =>
              have HZ : Hid (nd0 = false) := Lib.hid (by rw [hBs]; rfl)
              clear hBs
              go_wp2_with (go_at_call 39; refine HAt.out.mono ?_; rintro e w2 ⟨rfl, hb2⟩; obtain ⟨q1, q2⟩ := bcell hb2)
              go_quiet (first | (go_at_call 53; exact quiet_says (refWord_is _ _ _ HRO.out HW.out)) | (go_at_call 54; exact quiet_says (HHas.out _ (below_drewN hb2 _))))
              go_wp2_with fail
              go_ret
              exact ret_b HZ.out rfl (below_drewN (HP.out.after hb2).bel _)
            | true =>
              have HZ : Hid (nd0 = belowB nds (65 - (d + 1)) kd) := Lib.hid (by rw [hBs]; simp only [Bool.true_and]; congr 1; omega)
              clear hBs
              go_wp2_with (go_at_call 39; refine HAt.out.mono ?_; rintro e w2 ⟨rfl, hb2⟩; obtain ⟨q1, q2⟩ := bcell hb2)
              go_quiet (first | (go_at_call 53; exact quiet_says (refWord_is _ _ _ HRO.out HW.out)) | (go_at_call 54; exact quiet_says (HHas.out _ (below_drewN hb2 _))))
              go_wp2_with fail
              go_roundw
              case rel =>
                refine ⟨d + 1, kd, ⟨⟨Ap2, np2, cp2⟩, ⟨Ak2, nk2, ck2⟩, ⟨Ar2, nr2, cr2⟩⟩, by omega, by omega, by go_num, ?_, HLF2, HZ⟩
                exact (HP.out.after hb2).store _ ⟨⟨Ap2, np2, cp2⟩, ⟨Ak2, nk2, ck2⟩, ⟨Ar2, nr2, cr2⟩⟩ nq
              case measure => simp [intOf]; omega
    · have HZ : Hid (nd0 = false) := Lib.hid (by rw [HB.out, show 65 - d = 0 from by omega]; rfl)
      clear HB
      go_wp2_with fail
      go_ret
      exact ret_b HZ.out rfl hbel
end Go.Proofs.YtdeoblhdojbbbaaDoor
