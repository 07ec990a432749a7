/-
  WALKS: the document's: the place ahead of which a place of a role is; may a node be put there?
-/
import Derived.Test.YtnhkghmgkfmiaaaW29
namespace Go.Proofs.Ytnhkghmgkfmiaaa
open Go Go.RowKit Go.Sort
set_option linter.unusedVariables false
attribute [local go_sem ↓] Go.wp_at_zero Go.wp_at_succ

set_option maxRecDepth 20000 in
set_option maxHeartbeats 3200000 in
theorem refBefore_any (w : World) (hi : Nat) (next id at_ : Int) (role : ByteArray) (A : Option Addr) (n c : Nat) (nds : List Nd) (h : NodesIn w 0 hi A n c nds) (hh : hi ≤ w.heap.size)
    (nd : Nd) (hr : KOk nds nd) (hnd : ndOf nds id = some nd) (v : Int) (hv : beforeV (inRoleB nds role) at_ nd.kids = v) :
    Calls Try.prog 118 #[.agg #[.int .i64 next, .slice A n c], .int .i64 id, .string role, .int .i64 at_] w (Ret w (.int .i64 v)) := by
  have hc := h.2.2.1
  have hnc := h.2.1
  have HL := Lib.hid h.1
  have hn : n ≤ 4096 := by rw [← h.1]; exact hr.len
  unfold maxLen at hc
  have HM0 := Lib.hid (M1.start w next A n c)
  have HKi := Lib.hid (refKids_any _ hi next id role A n c nds (h.below (HM0.out.bel.mono hh)) (Nat.le_trans hh HM0.out.bel.size) nd hr hnd)
  obtain ⟨i, hix, hgi⟩ := ixOf_of_ndOf hnd
  have hin := ixOf_lt hix
  rw [HL.out] at hin
  have hkl := hr.kl
  obtain ⟨b, o, hA, _, hb, V, hV⟩ := h.all (by omega)
  have hat0 := (hV i nd hgi).1.c5
  have hlf := (hV i nd hgi).2
  generalize V i = L at hat0 hlf
  obtain ⟨_, ⟨Ak, nk, ck⟩, _⟩ := L
  have hkn : nk = nd.kids.length := hlf.kn
  have hrow := hlf.k
  simp only at hat0 hrow
  subst hA
  have hnk := hrow.2.1
  have hck := hrow.2.2.1
  unfold maxLen at hck
  have HAts : Hid (∀ wr, Below w.heap.size w wr → ∀ y j, ixOf nds y = some j → ∀ d os, Calls Try.prog 62 #[.agg #[.int .i64 next, .slice (some ⟨b, o, none⟩) n c], .int .i64 y] (grow (redrawn wr d) os) (Ret (grow (redrawn wr d) os) (.int .i64 j))) := Lib.hid fun wr hbr y j hy d os => by
    have hz := hbr.trans ((below_regrown wr d os).mono hbr.size)
    have := refAt_any _ hi next y _ n c nds (h.below (hz.mono hh)) (Nat.le_trans hh hz.size) hr.rise hn
    rw [show atV nds y = j from by unfold atV; rw [hy]] at this
    exact this
  have HROW := Lib.hid hrow
  have HKN := Lib.hid hkn
  have HAT : Hid (∀ X, Below w.heap.size w X → X.cell? ⟨b, o + i * 7 + 5, none⟩ = some (.slice Ak nk ck)) := Lib.hid fun X hX => (hX.cell (p := ⟨b, _, none⟩) (Nat.lt_of_lt_of_le hb hh)).trans hat0
  have HIX := Lib.hid hix
  have hnk4 : nk ≤ 4096 := by omega
  obtain ⟨l, hl⟩ : ∃ l, nd.kids.filter (inRoleB nds role) = l := ⟨_, rfl⟩
  have hll : l.length ≤ 4096 := by
    have h2 := List.length_filter_le (inRoleB nds role) nd.kids
    rw [hl] at h2
    omega
  have hbv := hv
  unfold beforeV at hbv
  rw [hl] at hbv
  rw [hl] at HKi
  have HBV := Lib.hid hbv
  have hidx : ∀ (X : World) (y : Int), Below w.heap.size w X → Calls Try.prog 77 #[.slice Ak nk ck, .int .i64 y] X fun e w' => e = .returned (.int .i64 (idxV nd.kids y)) ∧ X = w' := fun X y hX => refIndex_any X 0 hi Ak nk ck nd.kids y (HROW.out.below (hX.mono hh))
  have HID := Lib.hid hidx
  clear hat0 hlf hrow hkn hnd hix hgi hv hbv hV h hl hidx
  go_enter Try.func118, Try.ntmps118
  go_wp2_with (go_at_call 105; go_must (refine HKi.out.mono ?_; rintro e w1 ⟨v1, rfl, ho1, hb1⟩; have hm1 := HM0.out.after hb1; obtain ⟨A1, c1, rfl⟩ := own_form ho1; have HM1 := Lib.hid hm1; have HO1 := Lib.hid (own_mono ho1 HM0.out.bel.size); clear ho1 hm1 hb1))
  have HAt := Lib.hid (HAts.out w1 HM1.out.bel id i HIX.out)
  have q0 := cell_regrown ((HM1.out.a.cell 0).trans (show _ = some (.int .i64 next) from rfl))
  have q1 := cell_regrown ((HM1.out.a.cell 1).trans (show _ = some (.slice (some ⟨b, o, none⟩) n c) from rfl))
  have q2 := cell_regrown (HAT.out w1 HM1.out.bel)
  refine wp_region_quiet_below (by kernel_rfl) (by kernel_rfl) ?_
  repeat (go_big_quiet_step ((go_at_call 62; exact regrown_ret (HAt.out _ _))))
  refine wpQuiet_nil ?_
  intro _ hw'
  obtain ⟨⟨dq, osq⟩, hw''⟩ := hw'
  subst hw''
  have HM2 := Lib.hid (HM1.out.after (below_regrown w1 dq osq))
  have HO2 := Lib.hid (own_after HO1.out (below_regrown w1 dq osq))
  generalize grow (redrawn w1 dq) osq = w2 at HM2 HO2 ⊢
  clear q0 q1 q2
  by_cases c0 : at_ < 0
  · have d0 : decide (at_ < 0) = true := by rw [decide_eq_true_eq]; exact c0
    have HX : Hid (v = -1) := Lib.hid (by rw [← HBV.out, if_pos (.inl c0)])
    clear c0
    go_wp2_with fail
    go_ret
    obtain rfl := HX.out
    exact ret_mk rfl HM2.out.bel
  · obtain ⟨a, rfl⟩ : ∃ a : Nat, at_ = a := ⟨at_.toNat, by omega⟩
    have d0 : decide ((a : Int) < 0) = false := by rw [decide_eq_false_iff_not]; omega
    by_cases c2 : l.length < a
    · have d1 : decide (l.length < a) = true := by rw [decide_eq_true_eq]; omega
      have HX : Hid (v = -1) := Lib.hid (by rw [← HBV.out, if_pos (.inr (by omega))])
      clear c0 c2
      go_wp2_with fail
      go_ret
      obtain rfl := HX.out
      exact ret_mk rfl HM2.out.bel
    · have d1 : decide (l.length < a) = false := by rw [decide_eq_false_iff_not]; omega
      by_cases c3 : a < l.length
      · have d2 : decide (a < l.length) = true := by rw [decide_eq_true_eq]; omega
        obtain ⟨y, hy⟩ : ∃ y, l[a]? = some y := ⟨l[a], List.getElem?_eq_getElem c3⟩
        have HX : Hid (v = idxV nd.kids y) := Lib.hid (by rw [← HBV.out, if_neg (by omega), Int.toNat_natCast, hy])
        obtain ⟨b1, o1, rfl, _, hb1, hc1⟩ := (own_row HO2.out).at_ (by omega)
        have k1 := hc1 a _ (intCells_get hy)
        have k2 := (own_row HO2.out).2.1
        have k3 := (own_row HO2.out).2.2.1
        unfold maxLen at k3
        clear c0 c2 hc1 hy
        go_wp2_with (go_at_call 77; go_must (refine (HID.out _ _ HM2.out.bel).mono ?_; rintro e w3 ⟨rfl, rfl⟩))
        go_ret
        obtain rfl := HX.out
        exact ret_mk rfl HM2.out.bel
      · have ha : a = l.length := by omega
        subst ha
        by_cases c4 : 0 < l.length
        · have d3 : decide (0 < l.length) = true := by rw [decide_eq_true_eq]; omega
          obtain ⟨y, hy⟩ : ∃ y, l[l.length - 1]? = some y := ⟨l[l.length - 1], List.getElem?_eq_getElem (by omega)⟩
          have hg : l.getLast? = some y := by rw [List.getLast?_eq_getElem?]; exact hy
          have HX : Hid (v = idxV nd.kids y + 1) := Lib.hid (by rw [← HBV.out, if_neg (by omega), Int.toNat_natCast, List.getElem?_eq_none (Nat.le_refl _), hg])
          obtain ⟨b1, o1, rfl, _, hb1, hc1⟩ := (own_row HO2.out).at_ (by omega)
          have k1 := hc1 (l.length - 1) _ (intCells_get hy)
          have k2 := (own_row HO2.out).2.1
          have k3 := (own_row HO2.out).2.2.1
          unfold maxLen at k3
          have hge : -1 ≤ idxV nd.kids y ∧ idxV nd.kids y ≤ 4096 := by
            unfold idxV
            split
            · rename_i i' hi'
              have := (List.findIdx?_eq_some_iff_getElem.1 hi').1
              omega
            · omega
          have e1 : ((l.length : Int) - 1) = ((l.length - 1 : Nat) : Int) := by omega
          clear c0 c2 c3 hc1 hy hg
          go_wp2_with (go_at_call 77; go_must (refine (HID.out _ _ HM2.out.bel).mono ?_; rintro e w3 ⟨rfl, rfl⟩))
          go_ret
          obtain rfl := HX.out
          exact ret_mk rfl HM2.out.bel
        · have d3 : decide (0 < l.length) = false := by rw [decide_eq_false_iff_not]; omega
          have h0 : l.length = 0 := by omega
          have hl0 : l = [] := List.eq_nil_of_length_eq_zero h0
          have HX : Hid (v = nk) := Lib.hid (by rw [← HBV.out, hl0]; simp [HKN.out])
          clear c0 c2 c3
          go_wp2_with fail
          go_ret
          obtain rfl := HX.out
          exact ret_mk rfl HM2.out.bel
end Go.Proofs.Ytnhkghmgkfmiaaa
