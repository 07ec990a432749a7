/-
  WALKS: spelt of the program.
-/
import Derived.Test.YtmjkcbhkmkofjaaW6
namespace Go.Proofs.Ytmjkcbhkmkofjaa
open Go Go.RowKit Go.Sort
set_option linter.unusedVariables false

theorem regrown_ret {P : Program} {f : FuncId} {args : Array Value} {w : World} {d : Nat} {os : Array Obj} {v : Value} (h : Calls P f args (grow (redrawn w d) os) (Ret (grow (redrawn w d) os) v)) :
    Calls P f args (grow (redrawn w d) os) fun e w'' => e = .returned v ∧ ∃ p : Regrown, w'' = grow (redrawn w p.d) p.os := Calls.regrown_of h
theorem size_mdObj (w : World) (next : Int) (A : Option Addr) (n c : Nat) : (w.alloc (mdObj next A n c)).heap.size = w.heap.size + 1 := by simp
theorem md_cells (w : World) (next : Int) (A : Option Addr) (n c : Nat) : (w.alloc (mdObj next A n c)).cell? ⟨w.heap.size, 0, none⟩ = some (.int .i64 next) ∧ (w.alloc (mdObj next A n c)).cell? ⟨w.heap.size, 1, none⟩ = some (.slice A n c) :=
  ⟨World.cell?_alloc_at (hn := rfl) .., World.cell?_alloc_at (hn := rfl) ..⟩

set_option maxHeartbeats 3200000 in
theorem spelt_any (w : World) (hi : Nat) (next : Int) (A : Option Addr) (n c : Nat) (nds : List Nd) (h : NodesIn w 0 hi A n c nds) (hh : hi ≤ w.heap.size) :
    Calls Try.prog 91 #[.agg #[.int .i64 next, .slice A n c]] w (Ret w (.bool (nds.all (speltB next)))) := by
  have hbx := below_box w (mdObj next A n c)
  have hmc := md_cells w next A n c
  have hsz := size_mdObj w next A n c
  have HSZ := Lib.hid hsz
  have hc := h.2.2.1
  have hnc := h.2.1
  have HL := Lib.hid h.1
  unfold maxLen at hc
  have HB0 := Lib.hid hbx
  have HMC := Lib.hid hmc
  obtain ⟨W0, hW0⟩ : ∃ W0, W0 = w.alloc (mdObj next A n c) := ⟨_, rfl⟩
  rw [← hW0] at HB0 HMC HSZ
  unfold mdObj at hW0
  clear hbx hmc hsz
  go_enter Try.func91, Try.ntmps91
  go_wp2_with fail
  rw [← hW0]
  have HW0 := Lib.hid hW0
  clear hW0
  go_loopw [8] (fun i wr => ∃ k : Nat, k ≤ n ∧ i = .int .i64 k ∧ Hid (nds.all (speltB next) = (nds.drop k).all (speltB next)) ∧ Below W0.heap.size W0 wr) (fun i _ => n - (intOf i).toNat)
  case atStart => exact ⟨0, by omega, rfl, Lib.hid rfl, Below.refl _ _⟩
  case round =>
    obtain ⟨k, hk, rfl, HK, hbel⟩ := hrel
    have HBel := Lib.hid hbel
    have hz0 := HSZ.out
    have hm0 : wr.cell? ⟨w.heap.size, 0, none⟩ = some (.int .i64 next) := (hbel.cell (p := ⟨_, _, none⟩) (by show w.heap.size < _; omega)).trans HMC.out.1
    have hm1 : wr.cell? ⟨w.heap.size, 1, none⟩ = some (.slice A n c) := (hbel.cell (p := ⟨_, _, none⟩) (by show w.heap.size < _; omega)).trans HMC.out.2
    by_cases hlt : k < n
    · have hin := (h.below (HB0.out.mono hh)).below (hbel.mono (by omega))
      obtain ⟨b, o, nd, L, rfl, _, hb, hnd, hat, hlf⟩ := hin.at_ hlt
      have hd : nds.drop k = nd :: nds.drop (k + 1) := by
        obtain ⟨hl', rfl⟩ := List.getElem?_eq_some_iff.1 hnd
        exact List.drop_eq_getElem_cons hl'
      have hwz : W0.heap.size ≤ wr.heap.size := hbel.size
      have q0 := cell_regrown hm0
      have q1 := cell_regrown hm1
      have q2 := cell_regrown hat.c1
      have q4 := cell_regrown hat.c4
      have q6 := cell_regrown hat.c6
      have hRo : ∀ d os, Calls Try.prog 122 #[.pointer (some ⟨b, o + k * 7, none⟩)] (grow (redrawn wr d) os) (Says (grow (redrawn wr d) os) (roleB nd)) := fun d os => roleSpelt_any _ b (o + k * 7) nd L (hat.below (below_regrown wr d os) (by omega)) hlf.sz.role
      have hPr : ∀ d os, Calls Try.prog 123 #[.slice L.p.A L.p.n L.p.c] (grow (redrawn wr d) os) (Ret (grow (redrawn wr d) os) (.bool (propsB none nd.props))) := fun d os => propsSpelt_any _ hi L.p.A L.p.n L.p.c nd.props (hlf.p.below ((below_regrown wr d os).mono (by omega))) (by have := (below_regrown wr d os).size; omega) hlf.sz.props
      have hRe : ∀ d os, Calls Try.prog 124 #[.slice L.r.A L.r.n L.r.c, .int .i64 next] (grow (redrawn wr d) os) (Ret (grow (redrawn wr d) os) (.bool (refsB next none nd.refs))) := fun d os => refsSpelt_any _ hi next L.r.A L.r.n L.r.c nd.refs (hlf.r.below ((below_regrown wr d os).mono (by omega))) (by have := (below_regrown wr d os).size; omega) hlf.sz.refs
      have HS1 := Lib.hid hlf.sz.con
      have HD : Hid (nds.all (speltB next) = (wordB nd.con && roleB nd && propsB none nd.props && refsB next none nd.refs && (nds.drop (k + 1)).all (speltB next))) := Lib.hid (by rw [HK.out, hd, List.all_cons]; rfl)
      obtain ⟨cw, hw⟩ : ∃ x, wordB nd.con = x := ⟨_, rfl⟩
      obtain ⟨cr, hr⟩ : ∃ x, roleB nd = x := ⟨_, rfl⟩
      obtain ⟨cp, hp⟩ : ∃ x, propsB none nd.props = x := ⟨_, rfl⟩
      obtain ⟨cf, hf⟩ : ∃ x, refsB next none nd.refs = x := ⟨_, rfl⟩
      rw [hr] at hRo
      rw [hp] at hPr
      rw [hf] at hRe
      rw [hw, hr, hp, hf] at HD
      have HW := Lib.hid hw
      have HRo := Lib.hid hRo
      have HPr := Lib.hid hPr
      have HRe := Lib.hid hRe
      clear hw hr hp hf hRo hPr hRe hd hnd hat hlf hin HK hbel
      cases cw with
      | false =>
        have HZ : Hid (nds.all (speltB next) = false) := Lib.hid (by rw [HD.out]; simp)
        clear HD
        go_wp2_with fail
        refine wp_region_quiet_below (by kernel_rfl) (by kernel_rfl) ?_
        repeat (go_big_quiet_step (first | (go_at_call 94; exact regrown_ret (says_ret (word_is _ _ _ HS1.out HW.out))) | (go_at_call 122; exact regrown_ret (says_ret (HRo.out _ _))) | (go_at_call 123; exact regrown_ret (HPr.out _ _)) | (go_at_call 124; exact regrown_ret (HRe.out _ _))))
        refine wpQuiet_nil ?_
        intro _ hw'
        obtain ⟨⟨dq, osq⟩, hw''⟩ := hw'
        subst hw''
        have hb2 := below_regrown wr dq osq
        generalize grow (redrawn wr dq) osq = w2 at hb2 ⊢
        go_wp2_with fail
        go_ret
        exact ret_b HZ.out rfl (HB0.out.trans ((HBel.out.trans (hb2.mono HBel.out.size)).mono (by omega)))
      | true =>
        cases cr with
        | false =>
          have HZ : Hid (nds.all (speltB next) = false) := Lib.hid (by rw [HD.out]; simp)
          clear HD
          go_wp2_with fail
          refine wp_region_quiet_below (by kernel_rfl) (by kernel_rfl) ?_
          repeat (go_big_quiet_step (first | (go_at_call 94; exact regrown_ret (says_ret (word_is _ _ _ HS1.out HW.out))) | (go_at_call 122; exact regrown_ret (says_ret (HRo.out _ _))) | (go_at_call 123; exact regrown_ret (HPr.out _ _)) | (go_at_call 124; exact regrown_ret (HRe.out _ _))))
          refine wpQuiet_nil ?_
          intro _ hw'
          obtain ⟨⟨dq, osq⟩, hw''⟩ := hw'
          subst hw''
          have hb2 := below_regrown wr dq osq
          generalize grow (redrawn wr dq) osq = w2 at hb2 ⊢
          go_wp2_with fail
          go_ret
          exact ret_b HZ.out rfl (HB0.out.trans ((HBel.out.trans (hb2.mono HBel.out.size)).mono (by omega)))
        | true =>
          cases cp with
          | false =>
            have HZ : Hid (nds.all (speltB next) = false) := Lib.hid (by rw [HD.out]; simp)
            clear HD
            go_wp2_with fail
            refine wp_region_quiet_below (by kernel_rfl) (by kernel_rfl) ?_
            repeat (go_big_quiet_step (first | (go_at_call 94; exact regrown_ret (says_ret (word_is _ _ _ HS1.out HW.out))) | (go_at_call 122; exact regrown_ret (says_ret (HRo.out _ _))) | (go_at_call 123; exact regrown_ret (HPr.out _ _)) | (go_at_call 124; exact regrown_ret (HRe.out _ _))))
            refine wpQuiet_nil ?_
            intro _ hw'
            obtain ⟨⟨dq, osq⟩, hw''⟩ := hw'
            subst hw''
            have hb2 := below_regrown wr dq osq
            generalize grow (redrawn wr dq) osq = w2 at hb2 ⊢
            go_wp2_with fail
            go_ret
            exact ret_b HZ.out rfl (HB0.out.trans ((HBel.out.trans (hb2.mono HBel.out.size)).mono (by omega)))
          | true =>
            cases cf with
            | false =>
              have HZ : Hid (nds.all (speltB next) = false) := Lib.hid (by rw [HD.out]; simp)
              clear HD
              go_wp2_with fail
              refine wp_region_quiet_below (by kernel_rfl) (by kernel_rfl) ?_
              repeat (go_big_quiet_step (first | (go_at_call 94; exact regrown_ret (says_ret (word_is _ _ _ HS1.out HW.out))) | (go_at_call 122; exact regrown_ret (says_ret (HRo.out _ _))) | (go_at_call 123; exact regrown_ret (HPr.out _ _)) | (go_at_call 124; exact regrown_ret (HRe.out _ _))))
              refine wpQuiet_nil ?_
              intro _ hw'
              obtain ⟨⟨dq, osq⟩, hw''⟩ := hw'
              subst hw''
              have hb2 := below_regrown wr dq osq
              generalize grow (redrawn wr dq) osq = w2 at hb2 ⊢
              go_wp2_with fail
              go_ret
              exact ret_b HZ.out rfl (HB0.out.trans ((HBel.out.trans (hb2.mono HBel.out.size)).mono (by omega)))
            | true =>
              have HZ : Hid (nds.all (speltB next) = (nds.drop (k + 1)).all (speltB next)) := Lib.hid (by rw [HD.out]; simp)
              clear HD
              go_wp2_with fail
              refine wp_region_quiet_below (by kernel_rfl) (by kernel_rfl) ?_
              repeat (go_big_quiet_step (first | (go_at_call 94; exact regrown_ret (says_ret (word_is _ _ _ HS1.out HW.out))) | (go_at_call 122; exact regrown_ret (says_ret (HRo.out _ _))) | (go_at_call 123; exact regrown_ret (HPr.out _ _)) | (go_at_call 124; exact regrown_ret (HRe.out _ _))))
              refine wpQuiet_nil ?_
              intro _ hw'
              obtain ⟨⟨dq, osq⟩, hw''⟩ := hw'
              subst hw''
              have hb2 := below_regrown wr dq osq
              generalize grow (redrawn wr dq) osq = w2 at hb2 ⊢
              go_wp2_with fail
              go_roundw
              case rel => exact ⟨k + 1, by omega, by go_num, HZ, HBel.out.trans (hb2.mono HBel.out.size)⟩
              case measure => simp [intOf]; omega
    · have HZ : Hid (nds.all (speltB next) = true) := Lib.hid (by rw [HK.out, List.drop_eq_nil_of_le (by rw [HL.out]; omega)]; rfl)
      clear HK hbel
      go_wp2_with fail
      go_ret
      exact ret_b HZ.out rfl (HB0.out.trans (HBel.out.mono (by omega)))
end Go.Proofs.Ytmjkcbhkmkofjaa
